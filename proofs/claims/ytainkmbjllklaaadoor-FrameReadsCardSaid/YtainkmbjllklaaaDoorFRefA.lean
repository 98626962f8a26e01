/- hblref8.All, by its contract: what ours tells. -/
import Derived.Test.YtainkmbjllklaaaDoorFRefF
import Derived.Test.YtainkmbjllklaaaDoorFFirst
namespace Go.Proofs.YtainkmbjllklaaaDoor
open Go.RowKit

theorem win_add (l : List UInt8) (p a b : Nat) : win l p (a + b) = win l p a ++ win l (p + a) b := by
  unfold win
  rw [List.take_add, List.drop_drop]
theorem numL_just : ∀ (k : Nat) (l : List UInt8), l.length = k → putL (numL l) k = l
  | 0, l, h => by obtain rfl := List.eq_nil_of_length_eq_zero h; rfl
  | k + 1, l, h => by
    obtain ⟨t, c, rfl⟩ : ∃ t c, l = t ++ [c] := ⟨l.dropLast, l.getLast (by intro e; subst e; cases h), (List.dropLast_concat_getLast _).symm⟩
    simp at h
    have hc := c.toNat_lt
    rw [putL_succ, numL_snoc, show (numL t * 256 + c.toNat) / 256 = numL t by omega, numL_just k t h]
    congr 2
    rw [← UInt8.toNat_inj, UInt8.toNat_ofNat']
    omega
/-- The document's test of a frame is ours. -/
theorem recL_ref (l : List UInt8) (p n : Nat) (h1 : p + 6 ≤ l.length) (hn : n = numL (win l p 2)) (h2 : n ≤ 60000) (h3 : p + 6 + n ≤ l.length) :
    recL l p = if frmL (win l (p + 6) n) = win l p (6 + n) then some (win l (p + 6) n) else none := by
  have e1 : putL n 2 = win l p 2 := by rw [hn]; exact numL_just 2 _ (win_length l p 2 (by omega))
  have e2 : (win l (p + 6) n).length = n := win_length _ _ _ (by omega)
  have e3 : win l p (6 + n) = win l p 2 ++ (win l (p + 2) 4 ++ win l (p + 6) n) := by
    rw [show 6 + n = 2 + (4 + n) by omega, win_add, win_add]
  unfold recL
  rw [if_neg (by omega), ← hn, if_neg (by omega)]
  obtain ⟨c, hc⟩ : ∃ c, c = crcN (win l p 2 ++ win l (p + 6) n) := ⟨_, rfl⟩
  have e4 : frmL (win l (p + 6) n) = win l p 2 ++ (putL c 4 ++ win l (p + 6) n) := by unfold frmL; rw [e2, e1, hc]
  rw [e4, e3, ← hc]
  have key : (win l p 2 ++ (putL c 4 ++ win l (p + 6) n) = win l p 2 ++ (win l (p + 2) 4 ++ win l (p + 6) n)) ↔ c = numL (win l (p + 2) 4) := by
    rw [List.append_cancel_left_eq, List.append_cancel_right_eq]
    constructor
    · intro h
      rw [← h, numL_putL 4 c (by rw [hc]; exact crcN_lt _)]
    · intro h
      rw [h]
      exact numL_just 4 _ (win_length l (p + 2) 4 (by omega))
  by_cases h : c = numL (win l (p + 2) 4)
  · rw [if_pos h, if_pos (key.2 h)]
  · rw [if_neg h, if_neg (fun q => h (key.1 q))]
/-- Rows that grow. -/
structure RAI (w wr : World) (v : Value) (vs : List Value) (rs : List (List UInt8)) : Prop where
  row : wr.ownsRow w.heap.size 22 1 v vs.length vs
  each : Each 5 w.heap.size wr vs rs
  b : Below w.heap.size w wr
theorem row_below' {W w' : World} {n0 B k : Nat} {e : TypeId} {v : Value} {xs : List Value} (h : W.ownsRow n0 e 1 v k xs) (hb : Below B W w') (hB : W.heap.size ≤ B) : w'.ownsRow n0 e 1 v k xs := by
  refine ⟨h.1, ?_⟩
  rcases h.2 with hn | ⟨g, cap, cur, rfl, hb', hg, rest⟩
  · exact .inl hn
  · refine .inr ⟨g, cap, cur, rfl, hb', ?_, rest⟩
    rw [hb.block g (Nat.lt_of_lt_of_le (Array.getElem?_eq_some_iff.1 hg).1 hB)]
    exact hg
theorem RAI.below {w wr w' : World} {v : Value} {vs : List Value} {rs : List (List UInt8)} (h : RAI w wr v vs rs) (hb : Below wr.heap.size wr w') : RAI w w' v vs rs :=
  ⟨row_below' h.row hb (Nat.le_refl _), h.each.below hb (Nat.le_refl _), h.b.trans (hb.mono h.b.size)⟩
theorem RAI.app {w wr w' : World} {v v' u : Value} {vs : List Value} {rs : List (List UInt8)} {r : List UInt8} (h : RAI w wr v vs rs) (hu : Own 5 wr w.heap.size u r) (hr : w'.ownsRow w.heap.size 22 1 v' (vs ++ [u]).length (vs ++ [u])) (hg : wr.grownBy w' v.ownBlock) : RAI w w' v' (vs ++ [u]) (rs ++ [r]) :=
  ⟨hr, (h.each.snoc hu).apart h.row (by decide) hg, h.b.grown hg h.b.size (fun k e => (h.row.lt k e).1)⟩
set_option maxHeartbeats 4000000 in
theorem rall_any (x : Value) (l : List UInt8) (w : World) (hx : Rd w x l) (hl : l.length ≤ 1000000) :
    Calls Tryd.prog 11 #[x] w fun e w' => ∃ v, e = .returned (.tuple #[v, .int .i64 (endOf (scanL l (l.length + 1) 0) : Int)]) ∧ LRd w' v ((scanL l (l.length + 1) 0).map (·.2)) ∧ Below w.heap.size w w' := by
  have HX := Lib.hid hx
  obtain ⟨xa, xc, rfl, hcap, hcap2, _, hne⟩ := hx
  obtain ⟨i0, hi, hz0, hz1, hz2⟩ := info_parts infoSl
  obtain ⟨XS, hXS⟩ : ∃ XS, XS = scanL l (l.length + 1) 0 := ⟨_, rfl⟩
  rw [← hXS]
  have HXS := Lib.hid hXS
  clear hXS
  go_enter Tryd.func11, Tryd.ntmps11
  go_wp2_with fail
  go_loopw [4, 5] (fun v av wr => ∃ (vs : List Value) (P : List (Nat × List UInt8)) (k f : Nat), av = .int .i64 (k : Int) ∧ k ≤ l.length ∧ l.length - k < f ∧ Hid (RAI w wr v vs (P.map (·.2)) ∧ XS = P ++ scanL l f k ∧ endOf P = k ∧ P.length ≤ k)) (fun _ av _ => l.length - (intOf av).toNat)
  case atStart => exact ⟨[], [], 0, l.length + 1, rfl, Nat.zero_le _, by omega, Lib.hid ⟨⟨World.ownsRow_nil _ _ _ _, Each.nil _ _ _, Below.refl _ _⟩, by rw [HXS.out]; rfl, rfl, Nat.le_refl _⟩⟩
  case round =>
    obtain ⟨vv, hvv⟩ : ∃ vv, vv = u4 := ⟨_, rfl⟩
    subst hvv
    obtain ⟨vs, P, k, f, rfl, hk, hf, HR⟩ := hrel
    obtain ⟨f, rfl⟩ : ∃ f', f = f' + 1 := ⟨f - 1, by omega⟩
    have HFIN := Lib.hid (fun (h : XS = P) => (show ∃ v, Ending.returned (.tuple #[vv, .int .i64 (k : Int)]) = .returned (.tuple #[v, .int .i64 (endOf XS : Int)]) ∧ LRd wr v (XS.map (·.2)) ∧ Below w.heap.size w wr from ⟨vv, by rw [h, HR.out.2.2.1], by rw [h]; exact LRd.of_row HR.out.1.row HR.out.1.each, HR.out.1.b⟩))
    by_cases hs : l.length < k + 6
    · have g1 : ¬ (6 : Int) ≤ (l.length : Int) - (k : Int) := by omega
      have e1 : XS = P := by rw [HR.out.2.1]; simp [scanL, recL_short l k hs]
      have HE := Lib.hid e1
      clear e1
      go_wp2_with fail
      go_ret2
      exact HFIN.out HE.out
    · have g1 : (6 : Int) ≤ (l.length : Int) - (k : Int) := by omega
      obtain ⟨xb, xo, rfl, _⟩ := hne (by rintro rfl; simp at hs)
      obtain ⟨sz, hsz⟩ : ∃ sz, sz = numL (win l k 2) := ⟨_, rfl⟩
      have hszb : sz < 65536 := by rw [hsz]; have := numL_lt 2 (win l k 2) (win_length l k 2 (by omega)); simpa using this
      have C1 := Lib.hid (rget_any _ l k 2 wr (HX.out.below HR.out.1.b (Nat.le_refl _)) (by omega) (by omega) (by omega))
      rw [← hsz] at C1
      by_cases hbig : 60000 < sz ∨ l.length < k + 6 + sz
      · have HN : Hid (XS = P) := Lib.hid (by rw [HR.out.2.1]; simp only [scanL]; unfold recL; rw [if_neg hs, if_pos (by rw [← hsz]; exact hbig)]; simp)
        have key : (60000 : Int) < (sz : Int) ∨ (¬ (60000 : Int) < (sz : Int) ∧ (l.length : Int) - (k : Int) - 6 < (sz : Int)) := by omega
        clear hsz hbig hne
        rcases key with g2 | ⟨g2, g3⟩
        all_goals
          go_wp2_with fail
          refine C1.out.mono ?_
          rintro e w' ⟨rfl, rfl⟩
          go_wp2_with fail
          go_ret2
          exact HFIN.out HN.out
      · have g2 : ¬ (60000 : Int) < (sz : Int) := by omega
        have g3 : ¬ (l.length : Int) - (k : Int) - 6 < (sz : Int) := by omega
        have g4 : (0 : Int) ≤ (k : Int) + 6 := by omega
        have g5 : (k : Int) + 6 ≤ (k : Int) + 6 + (sz : Int) := by omega
        have g6 : (k : Int) + 6 + (sz : Int) ≤ (xc : Int) := by omega
        have g7 : (k : Int) ≤ (k : Int) + 6 + (sz : Int) := by omega
        have g9 : (0 : Int) ≤ (k : Int) := by omega
        have t1 : ((k : Int) + 6).toNat = k + 6 := by omega
        have t2 : ((k : Int) + 6 + (sz : Int)).toNat = k + 6 + sz := by omega
        have g10 : ¬ xc = k := by omega
        have hwl := win_length l (k + 6) sz (by omega)
        obtain ⟨p, hp⟩ : ∃ p, p = win l (k + 6) sz := ⟨_, rfl⟩
        have hpl : p.length = sz := by rw [hp]; exact hwl
        have hrl := recL_ref l k sz (by omega) hsz (by omega) (by omega)
        rw [← hp] at hrl
        have HP := Lib.hid (And.intro hp hrl)
        clear hsz hbig hwl hrl
        have HPART := Lib.hid (fun (a : Addr) (ha : 0 < sz → a = ⟨xb, xo + (k + 6), none⟩) => (HX.out.part (k + 6) sz (by omega) a ha).below HR.out.1.b (Nat.le_refl _))
        by_cases hq : xc = k + 6
        · have hsz0 : sz = 0 := by omega
          have hrd := HPART.out ⟨xb, xo, none⟩ (fun h => by omega)
          have e : xc - (k + 6) = 0 := by omega
          rw [e, ← hp] at hrd
          have CP := Lib.hid (copy_bytes (.slice (some ⟨xb, xo, none⟩) sz 0) p wr hrd (by omega))
          have hq2 : k + 6 = xc := hq.symm
          clear hrd hsz0 hq e HPART hp
          go_wp2_with fail
          refine C1.out.mono ?_
          rintro e w' ⟨rfl, rfl⟩
          go_wp2_with fail
          refine CP.out.mono ?_
          rintro e w2 ⟨vp, rfl, hown, hb⟩
          try clear hq2
          obtain ⟨pa, pc, hvp, _⟩ := hown.rd
          rw [hpl] at hvp
          subst hvp
          have H2 : Hid (Own 5 w2 w.heap.size (.slice pa sz pc) p ∧ RAI w w2 vv vs (P.map (·.2)) ∧ Below w'.heap.size w' w2) := Lib.hid ⟨hown.mono HR.out.1.b.size, HR.out.1.below hb, hb⟩
          have CF := Lib.hid (rframe_ok _ p w2 hown.rd (by omega))
          clear hown hb CP C1
          go_wp2_with fail
          refine CF.out.mono ?_
          rintro e w3 ⟨vf, rfl, hf3, hb3⟩
          have H3 : Hid (Own 5 w3 w.heap.size (.slice pa sz pc) p ∧ RAI w w3 vv vs (P.map (·.2))) := Lib.hid ⟨H2.out.1.below hb3 (Nat.le_refl _), H2.out.2.1.below hb3⟩
          have CB := Lib.hid (bytes_any vf (.slice (some ⟨xb, xo + k, none⟩) (6 + sz) (xc - k)) (frmL p) (win l k (6 + sz)) w3 hf3.rd ((HX.out.part k (6 + sz) (by omega) _ (fun _ => rfl)).below H3.out.2.b (Nat.le_refl _)))
          clear CF hf3 hb3 H2
          have t4 : k + 6 + sz - k = 6 + sz := by omega
          by_cases heq : frmL p = win l k (6 + sz)
          · rw [decide_eq_true heq] at CB
            have HN := Lib.hid (show recL l k = some p by rw [HP.out.2, if_pos heq])
            clear heq
            go_wp2_with fail
            refine CB.out.mono ?_
            rintro e w4 ⟨rfl, rfl⟩
            go_wp2_with (at_builtin; refine hold ?_)
            intro _
            refine append_vals (by rfl) _ _ 28 rfl w.heap.size 22 i0 (.slice none 0 0) 24 Tryd.underlying28 hi hz0 hz1 hz2 rfl _ vs rfl (H3.out.2.row.alloc _) (.slice (some ⟨w4.heap.size, 0, none⟩) 1 1) [.slice pa sz pc] rfl (RdV.lit [.slice pa sz pc] (World.alloc_heap_new w4 _) rfl (by simp)) (.inr ⟨_, _, _, rfl, Nat.le_refl _, by simp [maxLen]⟩) (by simp [Value.oneCell']) ?_ ?_ (by have := H3.out.2.b.size; simp; omega) ?_
            · have := H3.out.2.each.len
              simp at this
              have := HR.out.2.2.2
              simp only [maxLen, List.length_cons, List.length_nil]; omega
            · have := H3.out.2.each.len
              simp at this
              have := HR.out.2.2.2
              simp only [List.length_cons, List.length_nil]; omega
            intro v' w5 hv' hg'
            have H5 := Lib.hid ((H3.out.2.below (below_alloc w4 _)).app (H3.out.1.alloc _) hv' hg')
            have e1 : XS = (P ++ [(k + 6 + sz, p)]) ++ scanL l f (k + 6 + sz) := by rw [HR.out.2.1]; simp only [scanL]; rw [HN.out]; simp [hpl]
            have HE := Lib.hid (And.intro e1 HR.out.2.2.2)
            clear hv' hg' e1 HR HFIN H3 CB hne
            go_wp2_with fail
            go_roundw
            case rel =>
              refine ⟨vs ++ [.slice pa sz pc], P ++ [(k + 6 + sz, p)], k + 6 + sz, f, ?_, by omega, by omega, Lib.hid ⟨?_, HE.out.1, endOf_snoc _ _, by have := HE.out.2; simp; omega⟩⟩
              · go_num
              · simpa using H5.out
            case measure => simp [intOf]; omega
          · rw [decide_eq_false heq] at CB
            have HN := Lib.hid (show XS = P by rw [HR.out.2.1]; simp only [scanL]; rw [HP.out.2, if_neg heq]; simp)
            have hrow := H3.out.2
            have HF2 := Lib.hid (show ∃ v, Ending.returned (.tuple #[vv, .int .i64 (k : Int)]) = .returned (.tuple #[v, .int .i64 (endOf XS : Int)]) ∧ LRd w3 v (XS.map (·.2)) ∧ Below w.heap.size w w3 from ⟨vv, by rw [HN.out, HR.out.2.2.1], by rw [HN.out]; exact LRd.of_row hrow.row hrow.each, hrow.b⟩)
            clear heq hrow
            go_wp2_with fail
            refine CB.out.mono ?_
            rintro e w4 ⟨rfl, rfl⟩
            go_wp2_with fail
            go_ret2
            exact HF2.out
        · have hrd := HPART.out ⟨xb, xo + (k + 6), none⟩ (fun _ => rfl)
          rw [← hp] at hrd
          have CP := Lib.hid (copy_bytes (.slice (some ⟨xb, xo + (k + 6), none⟩) sz (xc - (k + 6))) p wr hrd (by omega))
          clear hrd HPART hp
          go_wp2_with fail
          refine C1.out.mono ?_
          rintro e w' ⟨rfl, rfl⟩
          go_wp2_with fail
          refine CP.out.mono ?_
          rintro e w2 ⟨vp, rfl, hown, hb⟩
          obtain ⟨pa, pc, hvp, _⟩ := hown.rd
          rw [hpl] at hvp
          subst hvp
          have H2 : Hid (Own 5 w2 w.heap.size (.slice pa sz pc) p ∧ RAI w w2 vv vs (P.map (·.2)) ∧ Below w'.heap.size w' w2) := Lib.hid ⟨hown.mono HR.out.1.b.size, HR.out.1.below hb, hb⟩
          have CF := Lib.hid (rframe_ok _ p w2 hown.rd (by omega))
          clear hown hb CP C1
          go_wp2_with fail
          refine CF.out.mono ?_
          rintro e w3 ⟨vf, rfl, hf3, hb3⟩
          have H3 : Hid (Own 5 w3 w.heap.size (.slice pa sz pc) p ∧ RAI w w3 vv vs (P.map (·.2))) := Lib.hid ⟨H2.out.1.below hb3 (Nat.le_refl _), H2.out.2.1.below hb3⟩
          have CB := Lib.hid (bytes_any vf (.slice (some ⟨xb, xo + k, none⟩) (6 + sz) (xc - k)) (frmL p) (win l k (6 + sz)) w3 hf3.rd ((HX.out.part k (6 + sz) (by omega) _ (fun _ => rfl)).below H3.out.2.b (Nat.le_refl _)))
          clear CF hf3 hb3 H2
          have t4 : k + 6 + sz - k = 6 + sz := by omega
          by_cases heq : frmL p = win l k (6 + sz)
          · rw [decide_eq_true heq] at CB
            have HN := Lib.hid (show recL l k = some p by rw [HP.out.2, if_pos heq])
            clear heq
            go_wp2_with fail
            refine CB.out.mono ?_
            rintro e w4 ⟨rfl, rfl⟩
            go_wp2_with (at_builtin; refine hold ?_)
            intro _
            refine append_vals (by rfl) _ _ 28 rfl w.heap.size 22 i0 (.slice none 0 0) 24 Tryd.underlying28 hi hz0 hz1 hz2 rfl _ vs rfl (H3.out.2.row.alloc _) (.slice (some ⟨w4.heap.size, 0, none⟩) 1 1) [.slice pa sz pc] rfl (RdV.lit [.slice pa sz pc] (World.alloc_heap_new w4 _) rfl (by simp)) (.inr ⟨_, _, _, rfl, Nat.le_refl _, by simp [maxLen]⟩) (by simp [Value.oneCell']) ?_ ?_ (by have := H3.out.2.b.size; simp; omega) ?_
            · have := H3.out.2.each.len
              simp at this
              have := HR.out.2.2.2
              simp only [maxLen, List.length_cons, List.length_nil]; omega
            · have := H3.out.2.each.len
              simp at this
              have := HR.out.2.2.2
              simp only [List.length_cons, List.length_nil]; omega
            intro v' w5 hv' hg'
            have H5 := Lib.hid ((H3.out.2.below (below_alloc w4 _)).app (H3.out.1.alloc _) hv' hg')
            have e1 : XS = (P ++ [(k + 6 + sz, p)]) ++ scanL l f (k + 6 + sz) := by rw [HR.out.2.1]; simp only [scanL]; rw [HN.out]; simp [hpl]
            have HE := Lib.hid (And.intro e1 HR.out.2.2.2)
            clear hv' hg' e1 HR HFIN H3 CB hne
            go_wp2_with fail
            go_roundw
            case rel =>
              refine ⟨vs ++ [.slice pa sz pc], P ++ [(k + 6 + sz, p)], k + 6 + sz, f, ?_, by omega, by omega, Lib.hid ⟨?_, HE.out.1, endOf_snoc _ _, by have := HE.out.2; simp; omega⟩⟩
              · go_num
              · simpa using H5.out
            case measure => simp [intOf]; omega
          · rw [decide_eq_false heq] at CB
            have HN := Lib.hid (show XS = P by rw [HR.out.2.1]; simp only [scanL]; rw [HP.out.2, if_neg heq]; simp)
            have hrow := H3.out.2
            have HF2 := Lib.hid (show ∃ v, Ending.returned (.tuple #[vv, .int .i64 (k : Int)]) = .returned (.tuple #[v, .int .i64 (endOf XS : Int)]) ∧ LRd w3 v (XS.map (·.2)) ∧ Below w.heap.size w w3 from ⟨vv, by rw [HN.out, HR.out.2.2.1], by rw [HN.out]; exact LRd.of_row hrow.row hrow.each, hrow.b⟩)
            clear heq hrow
            go_wp2_with fail
            refine CB.out.mono ?_
            rintro e w4 ⟨rfl, rfl⟩
            go_wp2_with fail
            go_ret2
            exact HF2.out
end Go.Proofs.YtainkmbjllklaaaDoor
