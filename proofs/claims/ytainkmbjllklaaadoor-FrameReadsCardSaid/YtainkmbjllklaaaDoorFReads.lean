/- FrameReads, walked. -/
import Derived.Test.YtainkmbjllklaaaDoorFScd
import Derived.Test.YtainkmbjllklaaaDoorFRefA
import Derived.Deep.CutRange
import Derived.Deep.CutBlock
namespace Go.Proofs.YtainkmbjllklaaaDoor
open Go.RowKit

/-- Where the record ahead ends. -/
def atK (xs : List (Nat × List UInt8)) (p k : Nat) : Nat := if k = 0 then p else (xs.getD (k - 1) (0, [])).1
theorem scanL_step (l : List UInt8) : ∀ (f p i : Nat) (h : i < (scanL l f p).length), (scanL l f p)[i].1 = atK (scanL l f p) p i + 6 + (scanL l f p)[i].2.length
  | 0, p, i, h => by simp [scanL] at h
  | f + 1, p, i, h => by
    cases hr : recL l p with
    | none => simp [scanL, hr] at h
    | some q =>
      have e : scanL l (f + 1) p = (p + 6 + q.length, q) :: scanL l f (p + 6 + q.length) := by simp [scanL, hr]
      simp only [e] at h ⊢
      cases i with
      | zero => simp [atK]
      | succ i =>
        simp only [List.length_cons, Nat.succ_lt_succ_iff] at h
        simp only [List.getElem_cons_succ]
        rw [scanL_step l f (p + 6 + q.length) i h]
        congr 2
        cases i with
        | zero => simp [atK]
        | succ i => simp [atK]
theorem scanL_le (l : List UInt8) : ∀ (f p : Nat), ∀ x ∈ scanL l f p, x.1 ≤ l.length
  | 0, p, x, h => by simp [scanL] at h
  | f + 1, p, x, h => by
    cases hr : recL l p with
    | none => simp [scanL, hr] at h
    | some q =>
      simp only [scanL, hr, List.mem_cons] at h
      rcases h with rfl | h
      · exact (recL_len hr).1
      · exact scanL_le l f _ x h
theorem atK_le {xs : List (Nat × List UInt8)} {N : Nat} (h : ∀ x ∈ xs, x.1 ≤ N) (k : Nat) : atK xs 0 k ≤ N := by
  unfold atK
  split
  · exact Nat.zero_le _
  · by_cases hk : k - 1 < xs.length
    · simp only [List.getD_eq_getElem?_getD, List.getElem?_eq_getElem hk, Option.getD_some]
      exact h _ (List.getElem_mem _)
    · simp [List.getD_eq_getElem?_getD, List.getElem?_eq_none (show xs.length ≤ k - 1 by omega)]
theorem grown_set (w : World) (b i : Nat) (v : Value) : w.grownBy (w.setCell ⟨b, i, none⟩ v) (some b) := ⟨rfl, rfl, rfl, by simp [World.setCell], fun k _ hk => Below.heap_setCell _ _ _ _ (fun e => hk (by simp [e]))⟩
/-- Slices of the call's own, of given lengths. -/
def LS (n0 : Nat) (w : World) (vs : List Value) (rs : List (List UInt8)) : Prop := vs.length = rs.length ∧ ∀ i (h : i < vs.length) (h' : i < rs.length), ∃ r, r.length = rs[i].length ∧ Own 5 w n0 vs[i] r
theorem LS.set {n0 : Nat} {w : World} {vs : List Value} {rs : List (List UInt8)} (h : LS n0 w vs rs) (g q : Nat) (c : UInt8) (x : Value) (hx : x = bv c) : LS n0 (w.setCell ⟨g, q, none⟩ x) vs rs := by
  refine ⟨h.1, fun i h1 h2 => ?_⟩
  obtain ⟨r, hr, ho⟩ := h.2 i h1 h2
  obtain ⟨v, hv⟩ : ∃ v, v = vs[i] := ⟨_, rfl⟩
  rw [← hv] at ho ⊢
  by_cases hg : v.ownBlock = some g
  · rcases ho.2 with ⟨rfl, _⟩ | ⟨g', cap, cur, rfl, _, _⟩
    · simp [Value.ownBlock] at hg
    · obtain rfl : g' = g := by simpa [Value.ownBlock] using hg
      exact ⟨r.set q c, by simpa using hr, ho.set q c x hx⟩
  · exact ⟨r, hr, ho.kept (grown_set w g q x) (.inr hg)⟩
/-- What lies on through the stores. -/
structure LSI (w5 wr : World) (vl : Value) (vs : List Value) (rs : List (List UInt8)) : Prop where
  row : wr.ownsRow w5.heap.size 22 1 vl vs.length vs
  ls : LS w5.heap.size wr vs rs
  b : Below w5.heap.size w5 wr
theorem LSI.below {w5 wr w' : World} {vl : Value} {vs : List Value} {rs : List (List UInt8)} (h : LSI w5 wr vl vs rs) (hb : Below wr.heap.size wr w') : LSI w5 w' vl vs rs :=
  ⟨row_below' h.row hb (Nat.le_refl _), ⟨h.ls.1, fun i h1 h2 => by obtain ⟨r, e, o⟩ := h.ls.2 i h1 h2; exact ⟨r, e, o.below hb (Nat.le_refl _)⟩⟩, h.b.trans (hb.mono h.b.size)⟩
theorem LSI.set {w5 wr : World} {vl : Value} {vs : List Value} {rs : List (List UInt8)} (h : LSI w5 wr vl vs rs) {g n cap : Nat} {r : List UInt8} (ho : Own 5 wr w5.heap.size (.slice (some ⟨g, 0, none⟩) n cap) r) (q : Nat) (c : UInt8) (x : Value) (hx : x = bv c) : LSI w5 (wr.setCell ⟨g, q, none⟩ x) vl vs rs :=
  ⟨h.row.kept (grown_set wr g q x) (by have := rowsApart h.row ho (by decide); simpa [Value.ownBlock] using this), h.ls.set g q c x hx, h.b.setCell (p := ⟨g, q, none⟩) (ho.base g rfl).1 _⟩
/-- Both frames. -/
theorem frames_both (x : Value) (p : List UInt8) (W : World) (hx : Rd W x p) (ht : Tab W) : ∃ (E : Int) (L : List UInt8),
    (∀ w, Below W.heap.size W w → Calls Tryd.prog 8 #[x] w fun e w' => ∃ v, e = .returned (.tuple #[v, .int .i64 E]) ∧ Rd w' v L ∧ Below w.heap.size w w') ∧
    (∀ w, Below W.heap.size W w → Calls Tryd.prog 9 #[x] w fun e w' => ∃ v, e = .returned (.tuple #[v, .int .i64 E]) ∧ Rd w' v L ∧ Below w.heap.size w w') := by
  by_cases h : p.length ≤ 60000
  · refine ⟨0, frmL p, fun w hb => ?_, fun w hb => ?_⟩
    · refine (fput_ok x p w (hx.below hb (Nat.le_refl _)) (ht.below hb (Nat.le_refl _)) h).mono ?_
      rintro e w' ⟨v, rfl, ho, hb'⟩
      exact ⟨v, rfl, ho.rd, hb'⟩
    · refine (rframe_ok x p w (hx.below hb (Nat.le_refl _)) h).mono ?_
      rintro e w' ⟨v, rfl, ho, hb'⟩
      exact ⟨v, rfl, ho.rd, hb'⟩
  · refine ⟨3, [], fun w hb => ?_, fun w hb => ?_⟩
    · refine (fput_long x p w (hx.below hb (Nat.le_refl _)) (by omega)).mono ?_
      rintro e w' ⟨rfl, rfl⟩
      exact ⟨_, rfl, Rd.nil _, Below.refl _ _⟩
    · refine (rframe_long x p w (hx.below hb (Nat.le_refl _)) (by omega)).mono ?_
      rintro e w' ⟨rfl, rfl⟩
      exact ⟨_, rfl, Rd.nil _, Below.refl _ _⟩
set_option maxRecDepth 100000 in
set_option maxHeartbeats 8000000 in
theorem reads_walk (vp : Value) (lp : List UInt8) (vb : Value) (lb : List UInt8) (n : Int) (W : World) (hp : Rd W vp lp) (hb : Rd W vb lb) (hn : -9223372036854775808 ≤ n ∧ n ≤ 9223372036854775807) (ht : Tab W) :
    Calls Tryd.prog 3 #[vp, vb, .int .i64 n] W fun e w' => e = .returned (.bool true) ∧ Below W.heap.size W w' := by
  have HP := Lib.hid hp
  have HB := Lib.hid hb
  have HT := Lib.hid ht
  have hpl := hp.lens
  have hbl := hb.lens
  obtain ⟨pa, pc, rfl, _⟩ := hp
  obtain ⟨ba, bc, rfl, _⟩ := hb
  have CF := Lib.hid (fun w (h : Below W.heap.size W w) => first_any w (HT.out.below h (Nat.le_refl _)))
  clear ht
  by_cases hbig : 61000 < lp.length ∨ 20000 < lb.length
  · have key : (61000 : Int) < (lp.length : Int) ∨ (¬ (61000 : Int) < (lp.length : Int) ∧ (20000 : Int) < (lb.length : Int)) := by omega
    clear hbig hn
    rcases key with g1 | ⟨g1, g2⟩
    all_goals
      go_enter Tryd.func3, Tryd.ntmps3
      go_wp2_with fail
      refine (CF.out W (Below.refl _ _)).mono ?_
      rintro e w1 ⟨rfl, hb1⟩
      have HB1 := Lib.hid hb1
      clear hb1
      go_wp2_with fail
      refine (CF.out w1 HB1.out).mono ?_
      rintro e w2 ⟨rfl, hb2⟩
      have HB2 := Lib.hid (HB1.out.trans (hb2.mono HB1.out.size))
      clear hb2
      go_wp2_with fail
      go_ret
      exact ⟨rfl, HB2.out⟩
  · have g1 : ¬ (61000 : Int) < (lp.length : Int) := by omega
    have g2 : ¬ (20000 : Int) < (lb.length : Int) := by omega
    have hbn : lb.length ≤ 20000 := by omega
    clear hbig
    obtain ⟨XS, hXS⟩ : ∃ XS, XS = scanL lb (lb.length + 1) 0 := ⟨_, rfl⟩
    obtain ⟨F, L, hfa, hfb⟩ := frames_both (.slice pa lp.length pc) lp W HP.out HT.out
    have HFA := Lib.hid hfa
    have HFB := Lib.hid hfb
    have HX := Lib.hid hXS
    clear hfa hfb hXS
    obtain ⟨EN, hEN⟩ : ∃ EN, EN = endOf XS := ⟨_, rfl⟩
    have HEN := Lib.hid hEN
    clear hEN
    go_enter Tryd.func3, Tryd.ntmps3
    go_wp2_with fail
    refine (CF.out W (Below.refl _ _)).mono ?_
    rintro e w1 ⟨rfl, hb1⟩
    have HB1 := Lib.hid hb1
    clear hb1
    have C1 := Lib.hid (copy_bytes _ lb w1 (HB.out.below HB1.out (Nat.le_refl _)) (by omega))
    go_wp2_with fail
    refine C1.out.mono ?_
    rintro e w2 ⟨vi, rfl, hvi, hb2⟩
    have HI2 := Lib.hid (And.intro hvi.rd (HB1.out.trans (hb2.mono HB1.out.size)))
    obtain ⟨ia, ic, rfl, _⟩ := hvi.rd
    clear hvi hb2 C1 HB1
    go_wp2_with fail
    refine (HFA.out w2 HI2.out.2).mono ?_
    rintro e w3 ⟨vx, rfl, hx, hb3⟩
    have HI3 : Hid (Rd w3 (.slice ia lb.length ic) lb ∧ Below W.heap.size W w3 ∧ Rd w3 vx L) := Lib.hid ⟨HI2.out.1.below hb3 (Nat.le_refl _), HI2.out.2.trans (hb3.mono HI2.out.2.size), hx⟩
    clear hx hb3 HI2
    go_wp2_with fail
    refine (HFB.out w3 HI3.out.2.1).mono ?_
    rintro e w4 ⟨vy, rfl, hy, hb4⟩
    have HI4 : Hid (Rd w4 (.slice ia lb.length ic) lb ∧ Below W.heap.size W w4 ∧ Rd w4 vx L ∧ Rd w4 vy L) := Lib.hid ⟨HI3.out.1.below hb4 (Nat.le_refl _), HI3.out.2.1.trans (hb4.mono HI3.out.2.1.size), HI3.out.2.2.below hb4 (Nat.le_refl _), hy⟩
    clear hy hb4 HI3
    have C4 := Lib.hid (all_any _ lb w4 HI4.out.1 (HT.out.below HI4.out.2.1 (Nat.le_refl _)) (by omega))
    rw [← HX.out] at C4
    go_wp2_with fail
    refine C4.out.mono ?_
    rintro e w5 ⟨vl, rfl, ⟨vs, hrow, heach⟩, hb5⟩
    have hl5 : vs.length = XS.length := by rw [heach.len]; simp
    have HL5 : Hid (LSI w4 w5 vl vs (XS.map (·.2))) := Lib.hid ⟨hrow, ⟨heach.len, fun i h1 h2 => ⟨_, rfl, heach.own i h1 h2⟩⟩, hb5⟩
    obtain ⟨la, lc, rfl, hlm, hlcell⟩ := RdV.of_row hrow
    rw [hl5] at HL5 hlm ⊢
    have HCELL := Lib.hid hlcell
    rw [← HEN.out]
    clear C4 hrow heach hb5 hlcell
    have HB5 : Hid (Below W.heap.size W w5) := Lib.hid (HI4.out.2.1.trans (HL5.out.b.mono HI4.out.2.1.size))
    have C5 := Lib.hid (rall_any _ lb w5 (HB.out.below HB5.out (Nat.le_refl _)) (by omega))
    rw [← HX.out, ← HEN.out] at C5
    go_wp2_with fail
    refine C5.out.mono ?_
    rintro e w6 ⟨vm, rfl, hvm, hb6⟩
    have HL6 : Hid (LSI w4 w6 (.slice la XS.length lc) vs (XS.map (·.2)) ∧ LRd w6 vm (XS.map (·.2)) ∧ Below W.heap.size W w6) := Lib.hid ⟨HL5.out.below hb6, hvm, HB5.out.trans (hb6.mono HB5.out.size)⟩
    obtain ⟨ma, mc, rfl, hml⟩ := hvm.lens
    rw [List.length_map] at HL6 hml ⊢
    clear hvm hb6 C5 HL5 HB5
    have C6 := Lib.hid (scan_any _ lb w6 ((HI4.out.1.below HL6.out.1.b (Nat.le_refl _))) (by omega))
    go_wp2_with fail
    refine C6.out.mono ?_
    rintro e w7 ⟨B, v0, rfl, hbx, hv0, hB, hb7⟩
    have HL7 : Hid (LSI w4 w7 (.slice la XS.length lc) vs (XS.map (·.2)) ∧ LRd w7 (.slice ma XS.length mc) (XS.map (·.2)) ∧ Below W.heap.size W w7) := Lib.hid ⟨HL6.out.1.below hb7, HL6.out.2.1.below hb7 (Nat.le_refl _), HL6.out.2.2.trans (hb7.mono HL6.out.2.2.size)⟩
    have hSC : Calls Tryd.prog 12 #[.func (.func 22) #[] #[.pointer (some ⟨B, 0, none⟩)], .int .i64 n] w7 (ScdP w7 (XS.take n.toNat)) := by
      by_cases h1 : 1 ≤ n
      · exact scd_any n h1 HX.out hbx.lt hbx hv0.rd (HT.out.below HL7.out.2.2 (Nat.le_refl _)) (by omega)
      · rw [show n.toNat = 0 by omega]
        refine (scd_none _ n w7 ⟨_, _, rfl⟩ (by omega)).mono ?_
        rintro e w' ⟨rfl, hb'⟩
        exact ⟨_, _, rfl, World.ownsRow_nil _ _ _ _, ⟨[], ⟨_, _, rfl, by simp, fun h => absurd rfl h⟩, Eachs.nil _, .inl rfl⟩, hb'⟩
    have HSC := Lib.hid hSC
    clear hbx hv0 hB hb7 C6 HL6 hSC
    go_wp2_with fail
    refine HSC.out.mono ?_
    rintro e w8 ⟨va, vc, rfl, hva, hvc, hb8⟩
    obtain ⟨D, hD⟩ : ∃ D, D = min n.toNat XS.length := ⟨_, rfl⟩
    have hDX : D ≤ XS.length := by omega
    have hYL : (XS.take n.toNat).length = D := by rw [List.length_take, hD]
    have hYE : XS.take n.toNat = XS.take D := by rw [hD]; rcases Nat.le_total n.toNat XS.length with h | h
                                                 · rw [Nat.min_eq_left h]
                                                 · rw [Nat.min_eq_right h, List.take_length, List.take_of_length_le h]
    have HL8 : Hid (LSI w4 w8 (.slice la XS.length lc) vs (XS.map (·.2)) ∧ LRd w8 (.slice ma XS.length mc) (XS.map (·.2)) ∧ Below W.heap.size W w8 ∧ RdV w8 va (atsV (XS.take D)) ∧ LRd w8 vc ((XS.map (·.2)).take D)) := Lib.hid
      ⟨HL7.out.1.below hb8, HL7.out.2.1.below hb8 (Nat.le_refl _), HL7.out.2.2.trans (hb8.mono HL7.out.2.2.size), by rw [← hYE]; exact RdV.of_row hva, by rw [← List.map_take, ← hYE]; exact hvc⟩
    obtain ⟨aa, ac, rfl, ham, hacell⟩ := HL8.out.2.2.2.1
    have hAL : (atsV (XS.take D)).length = D := by rw [atsV_len, ← hYE, hYL]
    rw [hAL] at HL8 ham ⊢
    obtain ⟨ca, cc, rfl, _⟩ := HL8.out.2.2.2.2.lens
    have hCL : ((XS.map (·.2)).take D).length = D := by rw [List.length_take, List.length_map]; omega
    rw [hCL] at HL8 ⊢
    have HAC := Lib.hid hacell
    clear hva hvc hb8 HSC HL7 hacell hYE hYL hCL
    have CL8 := Lib.hid (lists_any _ _ _ _ w8 HL8.out.2.2.2.2 (HL8.out.2.1.take D (by simpa using hDX)))
    rw [decide_eq_true rfl] at CL8
    have hmc := HL8.out.2.1.cap.2.1
    have hDI : (n < 0 ∧ D = 0) ∨ (0 ≤ n ∧ (D : Int) = n ∧ n ≤ (XS.length : Int)) ∨ (0 ≤ n ∧ (XS.length : Int) < n ∧ D = XS.length) := by omega
    have q1 : (0 : Int) ≤ (D : Int) := by omega
    have q2 : (D : Int) ≤ (mc : Int) := by omega
    clear hD
    go_upto_region 11 with fail
    go_cut [18] from 63 to 67 (fun kv wc => kv = .int .i64 (D : Int) ∧ w8 = wc)
    case first =>
      go_wp2_with fail
      all_goals
        go_meet
        case rel => exact ⟨congrArg (Value.int .i64) (by omega), rfl⟩
    case rest =>
    obtain ⟨rfl, rfl⟩ := hcut
    clear hDI
    go_wp2_with fail
    refine CL8.out.mono ?_
    rintro e w9 ⟨rfl, q9, hw9⟩
    have hb9 : Below w8.heap.size w8 w9 := by rw [hw9]; exact Below.drewsN (Below.refl _ _) q9
    have HL9 : Hid (LSI w4 w9 (.slice la XS.length lc) vs (XS.map (·.2)) ∧ LRd w9 (.slice ma XS.length mc) (XS.map (·.2)) ∧ Below W.heap.size W w9) := Lib.hid ⟨HL8.out.1.below hb9, HL8.out.2.1.below hb9 (Nat.le_refl _), HL8.out.2.2.1.trans (hb9.mono HL8.out.2.2.1.size)⟩
    have HA9 : Hid (D ≠ 0 → ∃ bA oA, aa = some ⟨bA, oA, none⟩ ∧ ∀ k, k < D → w9.cell? ⟨bA, oA + k, none⟩ = some (.int .i64 (atK XS 0 (k + 1) : Int))) := Lib.hid (fun h => by
      obtain ⟨bA, oA, rfl, hc⟩ := HAC.out (by intro e; rw [e] at hAL; simp at hAL; omega)
      refine ⟨bA, oA, rfl, fun k hk => ?_⟩
      have h2 := hc k (by omega)
      rw [hb9.cell (p := ⟨bA, oA + k, none⟩) (World.block_lt_of_cell? w8 _ h2), h2]
      simp only [atsV, List.getElem_map, List.getElem_take]
      unfold atK
      simp [List.getD_eq_getElem?_getD, List.getElem?_eq_getElem (show k < XS.length by omega)])
    have HST : Hid (∀ k (h : k < XS.length), atK XS 0 (k + 1) = atK XS 0 k + 6 + (XS[k].2).length) := Lib.hid (fun k h => by
      have h2 := scanL_step lb (lb.length + 1) 0 k (by rw [← HX.out]; exact h)
      simp only [← HX.out] at h2
      rw [← h2]
      unfold atK
      simp [List.getD_eq_getElem?_getD, List.getElem?_eq_getElem h])
    have HLE : Hid (∀ k, atK XS 0 k ≤ 20000) := Lib.hid (fun k => Nat.le_trans (atK_le (by rw [HX.out]; exact scanL_le lb _ _) k) hbn)
    clear hw9 hb9 CL8 HL8 HAC hAL
    go_wp2_with fail
    go_loop [19, 20] (fun av i => ∃ k : Nat, k ≤ D ∧ i = .int .i64 (k : Int) ∧ av = .int .i64 (atK XS 0 k : Int)) (fun _ i => D - (intOf i).toNat)
    case atStart => exact ⟨0, Nat.zero_le _, rfl, rfl⟩
    case round =>
      obtain ⟨k, hk, rfl, rfl⟩ := hrel
      by_cases hlt : k < D
      · have g3 : (k : Int) < (D : Int) := by omega
        have g4 : (0 : Int) ≤ (k : Int) := by omega
        have g5 : (k : Int) < (XS.length : Int) := by omega
        obtain ⟨bA, oA, rfl, hca⟩ := HA9.out (by omega)
        obtain ⟨bM, oM, cM, eM⟩ := HL9.out.2.1.some (by simp; omega)
        simp only [Value.slice.injEq] at eM
        obtain ⟨rfl, -, rfl⟩ := eM
        obtain ⟨z, c0, hz⟩ := HL9.out.2.1.at k (by simp; omega)
        obtain ⟨za, zc, rfl, _⟩ := hz
        have e1 : ((XS.map (fun x : Nat × List UInt8 => x.2))[k]'(by simp; omega)).length = (XS[k].2).length := by simp
        rw [e1] at c0
        have hs := HST.out k (by omega)
        have hc := hca k hlt
        have l1 := HLE.out k
        have l2 := HLE.out (k + 1)
        obtain ⟨A1, hA1⟩ : ∃ a, a = atK XS 0 k := ⟨_, rfl⟩
        obtain ⟨A2, hA2⟩ : ∃ a, a = atK XS 0 (k + 1) := ⟨_, rfl⟩
        obtain ⟨Z, hZ⟩ : ∃ a, a = (XS[k].2).length := ⟨_, rfl⟩
        rw [← hA1, ← hA2, ← hZ] at hs
        rw [← hA1] at l1 ⊢
        rw [← hA2] at l2 hc
        rw [← hZ] at c0
        have HA2 := Lib.hid hA2
        have t1 : ((A2 : Int) == (A1 : Int) + 6 + (Z : Int)) = true := by rw [beq_iff_eq]; omega
        have HS := Lib.hid hs
        have hZb : Z ≤ 20000 := by omega
        clear hA1 hA2 hZ e1 hca hs
        go_wp2_with fail
        go_round
        case rel => exact ⟨k + 1, by omega, by go_num, by rw [← HA2.out, HS.out]; go_num⟩
        case measure => simp [intOf]; omega
      · obtain rfl : k = D := by omega
        have g3 : ¬ (k : Int) < (k : Int) := by omega
        clear HA9 HST HLE
        obtain ⟨w10, hw10⟩ : ∃ w, w = w9 := ⟨_, rfl⟩
        rw [← hw10] at HL9 ⊢
        clear hw10
        go_wp2_with fail
        go_loopw [21, 22] (fun i _ wr => ∃ k2 : Nat, k2 ≤ XS.length ∧ i = .int .i64 (k2 : Int) ∧ Hid (LSI w4 wr (.slice la XS.length lc) vs (XS.map (·.2)))) (fun i _ _ => XS.length - (intOf i).toNat)
        case atStart => exact ⟨0, Nat.zero_le _, rfl, Lib.hid HL9.out.1⟩
        case round =>
          obtain ⟨w11, hw11⟩ : ∃ w, w = wr := ⟨_, rfl⟩
          subst hw11
          obtain ⟨k2, hk2, rfl, HR⟩ := hrel
          by_cases hlt2 : k2 < XS.length
          · have g6 : (k2 : Int) < (XS.length : Int) := by omega
            have g7 : (0 : Int) ≤ (k2 : Int) := by omega
            have hvl : k2 < vs.length := by rw [hl5]; exact hlt2
            obtain ⟨bL, oL, rfl, hcl⟩ : ∃ bL oL, la = some ⟨bL, oL, none⟩ ∧ ∀ w', LSI w4 w' (.slice la XS.length lc) vs (XS.map (·.2)) → w'.cell? ⟨bL, oL + k2, none⟩ = some (vs[k2]'hvl) := by
              obtain ⟨a, c, e, _, h4⟩ := RdV.of_row HR.out.row
              obtain ⟨bL, oL, rfl, _⟩ := h4 (by intro e; rw [e] at hvl; simp at hvl)
              simp only [Value.slice.injEq] at e
              obtain ⟨rfl, _, rfl⟩ := e
              refine ⟨bL, oL, rfl, fun w' h => ?_⟩
              obtain ⟨a, c, e, _, h4⟩ := RdV.of_row h.row
              obtain ⟨bL', oL', rfl, h5⟩ := h4 (by intro e; rw [e] at hvl; simp at hvl)
              simp only [Value.slice.injEq, Option.some.injEq, Addr.mk.injEq] at e
              obtain ⟨⟨rfl, rfl, _⟩, _, _⟩ := e
              exact h5 k2 hvl
            obtain ⟨z, hz⟩ : ∃ z, z = vs[k2]'hvl := ⟨_, rfl⟩
            obtain ⟨M, hM⟩ : ∃ M, M = (XS[k2].2).length := ⟨_, rfl⟩
            rw [← hz] at hcl
            have hown : ∀ w', LSI w4 w' (.slice (some ⟨bL, oL, none⟩) XS.length lc) vs (XS.map (·.2)) → ∃ r, r.length = M ∧ Own 5 w' w4.heap.size z r := fun w' h => by
              obtain ⟨r, h1, h2⟩ := h.ls.2 k2 hvl (by simp; exact hlt2)
              exact ⟨r, by rw [h1, hM]; simp, by rw [hz]; exact h2⟩
            obtain ⟨r0, hr0, ho0⟩ := hown w11 HR.out
            obtain ⟨za, zc, rfl, _⟩ := ho0.rd
            rw [hr0] at hcl hown ho0
            have HCL := Lib.hid hcl
            have HOWN := Lib.hid hown
            have hMb : M ≤ 9223372036854775807 := by rw [← hr0]; exact ho0.rd.lens
            clear hz hM hcl hown hr0 ho0 hvl
            go_wp2_with fail
            go_loopw [22] (fun j wr2 => ∃ q2 : Nat, q2 ≤ M ∧ j = .int .i64 (q2 : Int) ∧ Hid (LSI w4 wr2 (.slice (some ⟨bL, oL, none⟩) XS.length lc) vs (XS.map (·.2)))) (fun j _ => M - (intOf j).toNat)
            case atStart => exact ⟨0, Nat.zero_le _, rfl, HR⟩
            case round =>
              clear HR
              obtain ⟨w12, hw12⟩ : ∃ w, w = wr := ⟨_, rfl⟩
              subst hw12
              obtain ⟨q2, hq2, rfl, HR⟩ := hrel
              have c1 := HCL.out w12 HR.out
              by_cases hlt3 : q2 < M
              · have g8 : (q2 : Int) < (M : Int) := by omega
                have g9 : (0 : Int) ≤ (q2 : Int) := by omega
                obtain ⟨r, hr, ho⟩ := HOWN.out w12 HR.out
                obtain ⟨g, rfl⟩ : ∃ g, za = some ⟨g, 0, none⟩ := by
                  rcases ho.2 with ⟨e, hn⟩ | ⟨g, cap, cur, e, _⟩
                  · omega
                  · simp only [Value.slice.injEq] at e
                    exact ⟨g, e.1⟩
                obtain ⟨y, hy⟩ : ∃ y, y = r[q2]'(by omega) := ⟨_, rfl⟩
                have c2 : w12.cell? ⟨g, q2, none⟩ = some (.int .u8 (y.toNat : Int)) := by rw [ho.cell.2.1 q2 (by omega), hy]; rfl
                have f2 := ho.cell.2.2 q2
                have hyb := y.toNat_lt
                have HNX := Lib.hid (fun (x : Value) (hx : x = bv (y + 1)) => HR.out.set ho q2 (y + 1) x hx)
                clear hy ho hr
                go_wp2_with fail
                go_roundw
                case rel =>
                  refine ⟨q2 + 1, by omega, by go_num, Lib.hid (HNX.out _ ?_)⟩
                  unfold bv
                  rw [UInt8.toNat_add]
                  simp
                case measure => simp [intOf]; omega
              · obtain rfl : q2 = M := by omega
                have g8 : ¬ (q2 : Int) < (q2 : Int) := by omega
                go_wp2_with fail
                go_roundw
                case rel => exact ⟨k2 + 1, by omega, by go_num, HR⟩
                case measure => simp [intOf]; omega
          · obtain rfl : k2 = XS.length := by omega
            have g6 : ¬ (XS.length : Int) < (XS.length : Int) := by omega
            have HZ : Hid (Rd w11 (.slice ia lb.length ic) lb ∧ Rd w11 vx L ∧ Rd w11 vy L ∧ Rd w11 (.slice ba lb.length bc) lb ∧ Below W.heap.size W w11) := by
              have hb := HR.out.b
              have hbw := HI4.out.2.1.trans (hb.mono HI4.out.2.1.size)
              exact Lib.hid ⟨HI4.out.1.below hb (Nat.le_refl _), HI4.out.2.2.1.below hb (Nat.le_refl _), HI4.out.2.2.2.below hb (Nat.le_refl _), HB.out.below hbw (Nat.le_refl _), hbw⟩
            clear HR HL9
            have t3 : (F == F) = true := by simp
            have t4 : ((XS.length : Int) == (XS.length : Int)) = true := by simp
            have t5 : ((EN : Int) == (EN : Int)) = true := by simp
            go_wp2_with fail
            refine (CF.out w11 HZ.out.2.2.2.2).mono ?_
            rintro e w12 ⟨rfl, hb12⟩
            have CB1 := Lib.hid (bytes_any vx vy L L w12 (HZ.out.2.1.below hb12 (Nat.le_refl _)) (HZ.out.2.2.1.below hb12 (Nat.le_refl _)))
            have CB2 := Lib.hid (bytes_any _ _ lb lb w12 (HZ.out.1.below hb12 (Nat.le_refl _)) (HZ.out.2.2.2.1.below hb12 (Nat.le_refl _)))
            rw [decide_eq_true rfl] at CB1 CB2
            have HBZ := Lib.hid (HZ.out.2.2.2.2.trans (hb12.mono HZ.out.2.2.2.2.size))
            clear hb12 HZ
            go_wp2_with fail
            refine CB1.out.mono ?_
            rintro e w13 ⟨rfl, rfl⟩
            go_wp2_with fail
            refine CB2.out.mono ?_
            rintro e w14 ⟨rfl, rfl⟩
            go_wp2_with fail
            go_ret
            exact ⟨rfl, HBZ.out⟩
end Go.Proofs.YtainkmbjllklaaaDoor
