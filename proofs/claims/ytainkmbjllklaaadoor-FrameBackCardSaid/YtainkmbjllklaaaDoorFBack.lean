/- FrameBack, walked. -/
import Derived.Test.YtainkmbjllklaaaDoorFBackM
namespace Go.Proofs.YtainkmbjllklaaaDoor
open Go.RowKit

theorem infoIt : (Tryd.prog.info? 3).map (fun i => (i.zero, i.size, i.bytes)) = some (some (.int .i64 0), 1, 8) := by kernel_rfl
/-- Where each record ends, as cells. -/
def endsI (rs : List (List UInt8)) : List Value := (List.range rs.length).map fun i => .int .i64 (plL rs (i + 1) : Int)
theorem endsI_len (rs : List (List UInt8)) : (endsI rs).length = rs.length := by simp [endsI]
theorem endsI_at (rs : List (List UInt8)) (i : Nat) (h : i < (endsI rs).length) : (endsI rs)[i] = .int .i64 (plL rs (i + 1) : Int) := by simp [endsI]
theorem endsI_take (rs : List (List UInt8)) (k : Nat) (h : k < rs.length) : (endsI rs).take (k + 1) = (endsI rs).take k ++ [.int .i64 (plL rs (k + 1) : Int)] := by
  rw [List.take_succ_eq_append_getElem (by rw [endsI_len]; exact h), endsI_at]
theorem RdV.cell {w : World} {b off n cap : Nat} {l : List Value} (h : RdV w (.slice (some ⟨b, off, none⟩) n cap) l) : ∀ i (hi : i < l.length), w.cell? ⟨b, off + i, none⟩ = some l[i] := by
  intro i hi
  obtain ⟨a, cap', hv, h1, h2⟩ := h
  obtain ⟨b', off', ha, hc⟩ := h2 (by intro e; subst e; simp at hi)
  simp only [Value.slice.injEq] at hv
  obtain ⟨rfl, _, rfl⟩ := hv
  simp only [Option.some.injEq, Addr.mk.injEq] at ha
  obtain ⟨rfl, rfl, _⟩ := ha
  exact hc i hi
/-- What lies on behind the loop. -/
structure BG (W w : World) (va vx ve : Value) (rs : List (List UInt8)) (X : List UInt8) (E : List Value) : Prop where
  r : LRd w va rs
  x : Rd w vx X
  e : RdV w ve E
  b : Below W.heap.size W w
theorem BG.below {W w w' : World} {va vx ve : Value} {rs : List (List UInt8)} {X : List UInt8} {E : List Value} (h : BG W w va vx ve rs X E) (hb : Below w.heap.size w w') : BG W w' va vx ve rs X E :=
  ⟨h.r.below hb (Nat.le_refl _), h.x.below hb (Nat.le_refl _), h.e.below hb (Nat.le_refl _), h.b.trans (hb.mono h.b.size)⟩
/-- Two rows that grow. -/
structure BL (W wr : World) (x e : Value) (X : List UInt8) (E : List Value) : Prop where
  x : Own 5 wr W.heap.size x X
  e : wr.ownsRow W.heap.size 3 1 e E.length E
  b : Below W.heap.size W wr
theorem BL.start (W w : World) (hb : Below W.heap.size W w) : BL W w (.slice none 0 0) (.slice none 0 0) [] [] := ⟨Own.nil _ _ _, World.ownsRow_nil _ _ _ _, hb⟩
theorem row_below {W w' : World} {n0 B k : Nat} {e : TypeId} {v : Value} {xs : List Value} (h : W.ownsRow n0 e 1 v k xs) (hb : Below B W w') (hB : W.heap.size ≤ B) : w'.ownsRow n0 e 1 v k xs := by
  refine ⟨h.1, ?_⟩
  rcases h.2 with hn | ⟨g, cap, cur, rfl, hb', hg, rest⟩
  · exact .inl hn
  · refine .inr ⟨g, cap, cur, rfl, hb', ?_, rest⟩
    rw [hb.block g (Nat.lt_of_lt_of_le (Array.getElem?_eq_some_iff.1 hg).1 hB)]
    exact hg
theorem BL.below {W wr w' : World} {x e : Value} {X : List UInt8} {E : List Value} (h : BL W wr x e X E) (hb : Below wr.heap.size wr w') : BL W w' x e X E :=
  ⟨h.x.below hb (Nat.le_refl _), row_below h.e hb (Nat.le_refl _), h.b.trans (hb.mono h.b.size)⟩
theorem BL.appX {W wr w' : World} {x x' e : Value} {X X' : List UInt8} {E : List Value} (h : BL W wr x e X E) (ho : Own 5 w' W.heap.size x' X') (hg : wr.grownBy w' x.ownBlock) : BL W w' x' e X' E :=
  ⟨ho, h.e.kept hg (rowsApart h.e h.x (by decide)), h.b.trans (h.x.grows hg (Nat.le_refl _) h.b.size)⟩
theorem BL.appE {W wr w' : World} {x e e' : Value} {X : List UInt8} {E E' : List Value} (h : BL W wr x e X E) (ho : w'.ownsRow W.heap.size 3 1 e' E'.length E') (hg : wr.grownBy w' e.ownBlock) : BL W w' x e' X E' :=
  ⟨h.x.kept hg (rowsApart h.x h.e (by decide)), ho, h.b.grown hg h.b.size (fun k hk => (h.e.lt k hk).1)⟩
/-- All, by what its bytes hold. -/
theorem all_told (v : Value) (l : List UInt8) (w : World) (hv : Rd w v l) (ht : Tab w) (hl : l.length ≤ 100000000) (rs : List (List UInt8)) (n : Nat) (h1 : (scanL l (l.length + 1) 0).map (·.2) = rs) (h2 : endOf (scanL l (l.length + 1) 0) = n) :
    Calls Tryd.prog 10 #[v] w fun e w' => ∃ v', e = .returned (.tuple #[v', .int .i64 (n : Int)]) ∧ LRd w' v' rs ∧ Below w.heap.size w w' := by
  refine (all_any v l w hv ht hl).mono ?_
  rintro e w' ⟨v, rfl, ⟨vs, hrow, he⟩, hb⟩
  rw [h1] at he
  rw [h2]
  exact ⟨v, rfl, LRd.of_row hrow he, hb⟩

theorem fxor_u8 (a b : UInt8) : bits .xor .u8 (a.toNat : Int) (b.toNat : Int) = ((a ^^^ b).toNat : Int) := by
  have := a.toNat_lt
  have := b.toNat_lt
  rw [u8_xor_nat _ _ (by omega) (by omega), UInt8.toNat_xor]
set_option maxRecDepth 100000 in
set_option maxHeartbeats 8000000 in
theorem back_walk (va : Value) (rs : List (List UInt8)) (cut at_ x : Int) (W : World) (ha : LRd W va rs) (hcut : -9223372036854775808 ≤ cut ∧ cut ≤ 9223372036854775807) (hat : -9223372036854775808 ≤ at_ ∧ at_ ≤ 9223372036854775807) (hxx : 0 ≤ x ∧ x < 256) (ht : Tab W) :
    Calls Tryd.prog 4 #[va, .int .i64 cut, .int .i64 at_, .int .u8 x] W fun e w' => e = .returned (.bool true) ∧ Below W.heap.size W w' := by
  have HA := Lib.hid ha
  have HT := Lib.hid ht
  obtain ⟨aa, ca, rfl, ha1⟩ := ha.lens
  have CF := Lib.hid (fun w (h : Below W.heap.size W w) => first_any w (HT.out.below h (Nat.le_refl _)))
  clear ha ht
  by_cases hbig : 40 < rs.length ∨ cut < 0 ∨ at_ < 0
  · have key : (40 : Int) < (rs.length : Int) ∨ (¬ (40 : Int) < (rs.length : Int) ∧ cut < 0) ∨ (¬ (40 : Int) < (rs.length : Int) ∧ ¬ cut < 0 ∧ at_ < 0) := by omega
    clear hbig hcut hat
    rcases key with g1 | ⟨g1, g2⟩ | ⟨g1, g2, g3⟩
    all_goals
      go_enter Tryd.func4, Tryd.ntmps4
      go_wp2_with fail
      refine (CF.out W (Below.refl _ _)).mono ?_
      rintro e w1 ⟨rfl, hb1⟩
      have HB1 := Lib.hid hb1
      clear hb1
      go_wp2_with fail
      refine (CF.out w1 HB1.out).mono ?_
      rintro e w2 ⟨rfl, hb2⟩
      have HB2 := Lib.hid (HB1.out.trans (hb2.mono HB1.out.size))
      clear hb2
      go_wp2_with fail
      go_ret
      exact ⟨rfl, HB2.out⟩
  · have g1 : ¬ (40 : Int) < (rs.length : Int) := by omega
    have hna : rs.length ≤ 40 := by omega
    obtain ⟨C, rfl⟩ : ∃ C : Nat, cut = (C : Int) := ⟨cut.toNat, by omega⟩
    obtain ⟨A, rfl⟩ : ∃ A : Nat, at_ = (A : Int) := ⟨at_.toNat, by omega⟩
    have hC : C ≤ 9223372036854775807 := by omega
    have hA : A ≤ 9223372036854775807 := by omega
    have HCA := Lib.hid (And.intro hC hA)
    have g2 : ¬ (C : Int) < 0 := by omega
    have g3 : ¬ (A : Int) < 0 := by omega
    obtain ⟨xb, rfl⟩ : ∃ xb : UInt8, x = (xb.toNat : Int) := ⟨UInt8.ofNat x.toNat, by rw [UInt8.toNat_ofNat']; omega⟩
    obtain ⟨i0, hi, hz0, hz1, hz2⟩ := info_parts infoIt
    clear hbig hcut hat hxx hC hA
    go_enter Tryd.func4, Tryd.ntmps4
    go_wp2_with fail
    refine (CF.out W (Below.refl _ _)).mono ?_
    rintro e w1 ⟨rfl, hb1⟩
    have HB1 := Lib.hid hb1
    clear hb1
    go_wp2_with fail
    go_loopw [9, 10, 11] (fun x y i wr => ∃ k : Nat, k ≤ rs.length ∧ i = .int .i64 (k : Int) ∧ Hid (BL W wr x y (frms (rs.take k)) ((endsI rs).take k) ∧ ∀ p ∈ rs.take k, p.length ≤ 500)) (fun _ _ i _ => rs.length - (intOf i).toNat)
    case atStart => exact ⟨0, Nat.zero_le _, rfl, Lib.hid ⟨by simpa [frms] using BL.start W w1 HB1.out, by simp⟩⟩
    case round =>
      obtain ⟨x, hxe⟩ : ∃ x, x = u9 := ⟨_, rfl⟩
      obtain ⟨y, hye⟩ : ∃ y, y = u10 := ⟨_, rfl⟩
      subst hxe hye
      obtain ⟨k, hk, rfl, HR⟩ := hrel
      by_cases hlt : k < rs.length
      · have g4 : (k : Int) < (rs.length : Int) := by omega
        have g5 : (0 : Int) ≤ (k : Int) := by omega
        obtain ⟨bA, oA, cA, eA⟩ := HA.out.some (by omega)
        simp only [Value.slice.injEq] at eA
        obtain ⟨rfl, -, rfl⟩ := eA
        obtain ⟨z, c0, hz⟩ := HA.out.at k hlt
        obtain ⟨p, hp⟩ : ∃ p, p = rs[k] := ⟨_, rfl⟩
        rw [← hp] at hz
        have c1 : wr.cell? ⟨bA, oA + k, none⟩ = some z := (HR.out.1.b.cell (p := ⟨bA, oA + k, none⟩) (World.block_lt_of_cell? W _ c0)).trans c0
        have HP := Lib.hid hp
        obtain ⟨za, zc, rfl, _⟩ := id hz
        have HZ := Lib.hid hz
        clear hz hp c0
        by_cases hpl : 500 < p.length
        · have g6 : (500 : Int) < (p.length : Int) := by omega
          go_wp2_with fail
          refine (CF.out wr HR.out.1.b).mono ?_
          rintro e w2 ⟨rfl, hb2⟩
          have HB2 : Hid (Below W.heap.size W w2) := Lib.hid (HR.out.1.b.trans (hb2.mono HR.out.1.b.size))
          clear hb2
          go_wp2_with fail
          go_ret
          exact ⟨rfl, HB2.out⟩
        · have g6 : ¬ (500 : Int) < (p.length : Int) := by omega
          have CP := Lib.hid (fput_ok _ p wr (HZ.out.below HR.out.1.b (Nat.le_refl _)) (HT.out.below HR.out.1.b (Nat.le_refl _)) (by omega))
          go_wp2_with fail
          refine CP.out.mono ?_
          rintro e w2 ⟨f, rfl, hf, hb2⟩
          have HF := Lib.hid (And.intro hf (HR.out.1.below hb2))
          obtain ⟨fa, fc, rfl, _⟩ := hf.rd
          have hXl : (frms (rs.take k)).length ≤ 506 * 40 := by
            have : ∀ l : List (List UInt8), (∀ p ∈ l, p.length ≤ 500) → (frms l).length ≤ 506 * l.length := by
              intro l
              induction l with
              | nil => intro _; simp [frms]
              | cons p t ih => intro h; have h1 := ih (fun q hq => h q (List.mem_cons_of_mem _ hq)); have h2 := h p (by simp); simp [frms, frmL_len]; omega
            have := this _ HR.out.2
            have h2 : (rs.take k).length ≤ 40 := by simp; omega
            omega
          have HL : Hid ((frms (rs.take k)).length + (frmL p).length ≤ 140737488355328) := Lib.hid (by rw [frmL_len]; omega)
          clear hf hb2 CP hXl
          go_wp2_with (at_builtin; refine hold ?_)
          intro _
          refine bt.appendS rfl _ _ rfl W.heap.size _ _ (frms (rs.take k)) (frmL p) HF.out.2.x HF.out.1.rd rfl rfl HL.out HF.out.2.b.size ?_
          intro x' w3 hx' hg'
          have e1 : frms (rs.take k) ++ frmL p = frms (rs.take (k + 1)) := by rw [List.take_succ_eq_append_getElem hlt, frms_snoc, HP.out]
          rw [e1] at hx'
          have H3 := Lib.hid (HF.out.2.appX hx' hg')
          obtain ⟨xa, xc, rfl, _⟩ := hx'.rd
          obtain ⟨n, hn⟩ : ∃ n, n = (frms (rs.take (k + 1))).length := ⟨_, rfl⟩
          have HN : Hid (plL rs (k + 1) = n) := Lib.hid (by rw [hn]; rfl)
          rw [← hn] at H3 ⊢
          clear hx' hg' HL HF HZ e1 hn
          go_wp2_with (at_builtin; refine hold ?_)
          intro _
          refine append_vals (by rfl) _ _ 31 rfl W.heap.size 3 i0 (.int .i64 0) 8 Tryd.underlying31 hi hz0 hz1 hz2 rfl _ ((endsI rs).take k) rfl (H3.out.e.alloc _) (.slice (some ⟨w3.heap.size, 0, none⟩) 1 1) [.int .i64 (n : Int)] rfl (RdV.lit [.int .i64 (n : Int)] (World.alloc_heap_new w3 _) rfl (by simp)) (.inr ⟨_, _, _, rfl, Nat.le_refl _, by simp [maxLen]⟩) (by simp [Value.oneCell']) (by simp [maxLen, endsI_len]; omega) (by simp [endsI_len]; omega) (by have := H3.out.b.size; simp; omega) ?_
          intro y' w4 hy' hg'
          have e1 : (endsI rs).take k ++ [.int .i64 (n : Int)] = (endsI rs).take (k + 1) := by rw [endsI_take rs k hlt, HN.out]
          rw [e1] at hy'
          have H4 : Hid (BL W w4 (.slice xa n xc) y' (frms (rs.take (k + 1))) ((endsI rs).take (k + 1)) ∧ ∀ p ∈ rs.take (k + 1), p.length ≤ 500) := Lib.hid ⟨(H3.out.below (below_alloc w3 _)).appE hy' hg', fun q hq => by
            rw [List.take_succ_eq_append_getElem hlt, List.mem_append] at hq
            rcases hq with hq | hq
            · exact HR.out.2 q hq
            · simp only [List.mem_cons, List.not_mem_nil, or_false] at hq
              rw [hq, ← HP.out]; omega⟩
          clear hy' hg' H3 HP HR c1 e1
          go_wp2_with fail
          go_roundw
          case rel => exact ⟨k + 1, by omega, by go_num, H4⟩
          case measure => simp [intOf]; omega
      · obtain rfl : k = rs.length := by omega
        have g4 : ¬ (rs.length : Int) < (rs.length : Int) := by omega
        have e1 : rs.take rs.length = rs := List.take_length
        have e2 : (endsI rs).take rs.length = endsI rs := List.take_of_length_le (by rw [endsI_len]; exact Nat.le_refl _)
        rw [e1, e2] at HR
        clear e1 e2 hk hlt
        obtain ⟨X, hX⟩ : ∃ X, X = frms rs := ⟨_, rfl⟩
        rw [← hX] at HR
        have HS : Hid (X = frms rs ∧ ∀ p ∈ rs, p.length ≤ 60000) := Lib.hid ⟨hX, fun p hp => Nat.le_trans (HR.out.2 p hp) (by decide)⟩
        have hXl : X.length ≤ 20240 := by
          have : ∀ l : List (List UInt8), (∀ p ∈ l, p.length ≤ 500) → (frms l).length ≤ 506 * l.length := by
            intro l
            induction l with
            | nil => intro _; simp [frms]
            | cons p t ih => intro h; have h1 := ih (fun q hq => h q (List.mem_cons_of_mem _ hq)); have h2 := h p (by simp); simp [frms, frmL_len]; omega
          have := this _ HR.out.2
          rw [hX]; omega
        have HG : Hid (BG W wr (.slice aa rs.length ca) x y rs X (endsI rs)) := Lib.hid ⟨HA.out.below HR.out.1.b (Nat.le_refl _), HR.out.1.x.rd, RdV.of_row HR.out.1.e, HR.out.1.b⟩
        obtain ⟨xa, xc, rfl, hxc, _, hxn, _⟩ := id HG.out.x
        obtain ⟨ya, yc, rfl, _⟩ := id HG.out.e
        rw [endsI_len] at HG ⊢
        have C1 := Lib.hid (all_told _ X wr HG.out.x (HT.out.below HG.out.b (Nat.le_refl _)) (by omega) rs X.length (by rw [hX]; exact (all_just rs HS.out.2).1) (by rw [hX]; exact (all_just rs HS.out.2).2))
        clear hX HR
        go_wp2_with fail
        refine C1.out.mono ?_
        rintro e w2 ⟨v2, rfl, hv2, hb2⟩
        have HG2 := Lib.hid (And.intro (HG.out.below hb2) hv2)
        obtain ⟨a2, c2, rfl, _⟩ := hv2.lens
        have CL := Lib.hid (lists_any _ _ _ _ w2 HG2.out.2 HG2.out.1.r)
        rw [decide_eq_true rfl] at CL
        clear hv2 hb2 C1 HG
        go_wp2_with fail
        refine CL.out.mono ?_
        rintro e w3 ⟨rfl, q, hw3⟩
        have HG3 := Lib.hid (HG2.out.1.below (w' := w3) (by rw [hw3]; exact Below.drewsN (Below.refl _ _) q))
        clear hw3 CL HG2
        obtain ⟨K, hK⟩ : ∃ K, K = C % (X.length + 1) := ⟨_, rfl⟩
        have hK1 : K ≤ X.length := by rw [hK]; have := Nat.mod_lt C (show 0 < X.length + 1 by omega); omega
        have t1 : Int.tmod (C : Int) ((X.length : Int) + 1) = (K : Int) := by rw [hK]; norm_cast
        have t1' : (C : Int) % ((X.length : Int) + 1) = (K : Int) := by rw [hK]; norm_cast
        have t2 : ¬ ((X.length : Int) + 1 = 0) := by omega
        have t2' : ((X.length : Int) + 1 == 0) = false := by simp; omega
        have t3 : IntKind.i64.wrap (K : Int) = (K : Int) := IntWalk.i64_in _ ⟨by omega, by omega⟩
        have g5 : (0 : Int) ≤ (K : Int) := by omega
        have g6 : (K : Int) ≤ (xc : Int) := by omega
        obtain ⟨R3, hR3⟩ : ∃ R, R = (scanL (X.take K) ((X.take K).length + 1) 0).map (·.2) := ⟨_, rfl⟩
        obtain ⟨E3, hE3⟩ : ∃ R, R = endOf (scanL (X.take K) ((X.take K).length + 1) 0) := ⟨_, rfl⟩
        have C3 := Lib.hid (all_told _ (X.take K) w3 (HG3.out.x.first K hK1) (HT.out.below HG3.out.b (Nat.le_refl _)) (by simp; omega) R3 E3 hR3.symm hE3.symm)
        have HR3 := Lib.hid (And.intro hR3 hE3)
        clear hK hR3 hE3
        go_wp2_with fail
        refine C3.out.mono ?_
        rintro e w4 ⟨v3, rfl, hv3, hb4⟩
        have HG4 := Lib.hid (And.intro (HG3.out.below hb4) hv3)
        obtain ⟨a3, c3, rfl, _⟩ := hv3.lens
        generalize R3.length = n3 at HG4 ⊢
        clear hv3 hb4 C3 HG3 t1 t1' t2 t2' t3
        go_wp2_with fail
        go_loopw [19, 20] (fun a b wr2 => ∃ n : Nat, n ≤ rs.length ∧ a = .int .i64 (n : Int) ∧ b = .int .i64 (plL rs n : Int) ∧ Hid (plL rs n ≤ K) ∧ wr2 = w4) (fun a _ _ => rs.length - (intOf a).toNat)
        case atStart => exact ⟨0, Nat.zero_le _, rfl, by rw [plL_zero]; rfl, Lib.hid (by rw [plL_zero]; exact Nat.zero_le _), rfl⟩
        case round =>
          obtain ⟨n, hn, rfl, rfl, HK, rfl⟩ := hrel
          by_cases hgo : ∃ h : n < rs.length, plL rs (n + 1) ≤ K
          · obtain ⟨hlt, hle⟩ := hgo
            have g7 : (n : Int) < (rs.length : Int) := by omega
            have g8 : (0 : Int) ≤ (n : Int) := by omega
            obtain ⟨ya', yc', hy, hyl, hyc⟩ := HG4.out.1.e
            obtain ⟨bE, oE, rfl, hE⟩ := hyc (by intro e; have := endsI_len rs; rw [e] at this; simp at this; omega)
            simp only [Value.slice.injEq] at hy
            obtain ⟨rfl, -, rfl⟩ := hy
            have c1 := hE n (by rw [endsI_len]; exact hlt)
            rw [endsI_at] at c1
            obtain ⟨m, hm⟩ : ∃ m, m = plL rs (n + 1) := ⟨_, rfl⟩
            rw [← hm] at c1 hle
            have g9 : (m : Int) ≤ (K : Int) := by omega
            have HM := Lib.hid hm
            clear hE hyl hyc hm
            go_wp2_with fail
            go_roundw
            case rel => exact ⟨n + 1, by omega, by go_num, by rw [← HM.out], Lib.hid (by rw [← HM.out]; exact hle), by first | rfl | trivial⟩
            case measure => simp [intOf]; omega
          · have hend : n = rs.length ∨ K < plL rs (n + 1) := by
              by_cases h : n < rs.length
              · exact .inr (by have : ¬ plL rs (n + 1) ≤ K := fun h2 => hgo ⟨h, h2⟩; omega)
              · exact .inl (by omega)
            have HEND := Lib.hid hend
            have hcw := cut_whole rs HS.out.2 K n hn HK.out hend
            rw [← HS.out.1] at hcw
            obtain ⟨hR3, hE3⟩ := HR3.out
            rw [hcw.1] at hR3
            rw [hcw.2] at hE3
            clear HR3 hcw hgo
            subst hR3 hE3
            have CL2 := Lib.hid (lists_any _ _ _ _ wr HG4.out.2 (HG4.out.1.r.take n hn))
            rw [decide_eq_true rfl] at CL2
            have g10 : (n : Int) ≤ (ca : Int) := by have := HG4.out.1.r.cap; omega
            have g8 : (0 : Int) ≤ (n : Int) := by omega
            have t4 : ((plL rs n : Int) == (plL rs n : Int)) = true := by simp
            have key : n = rs.length ∨ (∃ h : n < rs.length, K < plL rs (n + 1)) := by
              by_cases h : n < rs.length
              · exact .inr ⟨h, by rcases hend with e | e <;> omega⟩
              · exact .inl (by omega)
            clear hend
            rcases key with hnl | ⟨hlt, hgt⟩
            · have g7 : ¬ (n : Int) < (rs.length : Int) := by omega
              clear hnl
              go_wp2_with fail
              refine CL2.out.mono ?_
              rintro e w5 ⟨rfl, q5, hw5⟩
              have HG5 := Lib.hid (HG4.out.1.below (w' := w5) (by rw [hw5]; exact Below.drewsN (Below.refl _ _) q5))
              clear hw5 CL2 HG4
              by_cases hL0 : X.length = 0 ∨ xb.toNat = 0
              · have key : ((X.length : Int) == 0) = true ∨ (((X.length : Int) == 0) = false ∧ ((xb.toNat : Int) == 0) = true) := by
                  simp only [beq_iff_eq, beq_eq_false_iff_ne]; omega
                clear hL0
                rcases key with t5 | ⟨t5, t6⟩
                all_goals
                  go_wp2_with fail
                  refine (CF.out w5 HG5.out.b).mono ?_
                  rintro e w6 ⟨rfl, hb6⟩
                  have HB6 : Hid (Below W.heap.size W w6) := Lib.hid (HG5.out.b.trans (hb6.mono HG5.out.b.size))
                  clear hb6
                  go_wp2_with fail
                  go_ret
                  exact ⟨rfl, HB6.out⟩
              · have t5 : ((X.length : Int) == 0) = false := by rw [beq_eq_false_iff_ne]; omega
                have t6 : ((xb.toNat : Int) == 0) = false := by rw [beq_eq_false_iff_ne]; omega
                have C5 := Lib.hid (copy_bytes _ X w5 HG5.out.x (by omega))
                go_wp2_with fail
                refine C5.out.mono ?_
                rintro e w6 ⟨tv, rfl, ht6, hb6⟩
                have hXp : 0 < X.length := by omega
                have hrp : 0 < rs.length := by
                  rcases Nat.eq_zero_or_pos rs.length with h0 | h0
                  · exfalso; rw [HS.out.1, List.eq_nil_of_length_eq_zero h0] at hXp; simp [frms] at hXp
                  · exact h0
                obtain ⟨ya', yc', hy, hyl, hyc⟩ := HG5.out.e
                obtain ⟨bE, oE, rfl, hE⟩ := hyc (by intro e; have := endsI_len rs; rw [e] at this; simp at this; omega)
                simp only [Value.slice.injEq] at hy
                obtain ⟨rfl, -, rfl⟩ := hy
                clear hE hyl hyc hrp
                obtain ⟨P, hPe⟩ : ∃ P, P = A % X.length := ⟨_, rfl⟩
                have hP : P < X.length := by rw [hPe]; exact Nat.mod_lt _ hXp
                have t7 : Int.tmod (A : Int) (X.length : Int) = (P : Int) := by rw [hPe]; norm_cast
                have t7' : (A : Int) % (X.length : Int) = (P : Int) := by rw [hPe]; norm_cast
                have t7w : IntKind.i64.wrap (P : Int) = (P : Int) := IntWalk.i64_in _ ⟨by omega, by omega⟩
                have t8 : ¬ ((X.length : Int) = 0) := by omega
                have g11 : (P : Int) < (X.length : Int) := by omega
                have g12 : (0 : Int) ≤ (P : Int) := by omega
                obtain ⟨g, cap, rfl, hg6⟩ : ∃ g cap, tv = .slice (some ⟨g, 0, none⟩) X.length cap ∧ w5.heap.size ≤ g := by
                  rcases ht6.2 with ⟨_, h0⟩ | ⟨g, cap, cur, rfl, hg, _⟩
                  · omega
                  · exact ⟨g, cap, rfl, hg⟩
                obtain ⟨y, hy⟩ : ∃ y, y = X[P] := ⟨_, rfl⟩
                have c6 : w6.cell? ⟨g, P, none⟩ = some (.int .u8 (y.toNat : Int)) := by rw [ht6.cell.2.1 P hP, hy]; rfl
                have f6 := ht6.cell.2.2 P
                have hxr : bits .xor .u8 (y.toNat : Int) (xb.toNat : Int) = ((y ^^^ xb).toNat : Int) := fxor_u8 y xb
                obtain ⟨z, hz⟩ : ∃ z, z = ((y ^^^ xb).toNat : Int) := ⟨_, rfl⟩
                rw [← hz] at hxr
                have HST6 : Hid (BG W (w6.setCell ⟨g, P, none⟩ (.int .u8 z)) (.slice aa rs.length ca) (.slice xa X.length xc) (.slice (some ⟨bE, oE, none⟩) rs.length yc) rs X (endsI rs) ∧ Rd (w6.setCell ⟨g, P, none⟩ (.int .u8 z)) (.slice (some ⟨g, 0, none⟩) X.length cap) (X.set P (y ^^^ xb))) := by
                  have h1 := ht6.set P (y ^^^ xb) (.int .u8 z) (by rw [hz]; rfl)
                  have h2 : Below w5.heap.size w5 (w6.setCell ⟨g, P, none⟩ (.int .u8 z)) := hb6.setCell (p := ⟨g, P, none⟩) hg6 _
                  exact Lib.hid ⟨HG5.out.below h2, h1.rd⟩
                have HY : Hid (y ^^^ xb ≠ y ∧ ∀ h : P < (frms rs).length, (frms rs)[P] = y) := Lib.hid ⟨by
                    intro e
                    have e2 := congrArg (fun v => y ^^^ v) e
                    simp only [← UInt8.xor_assoc, UInt8.xor_self, UInt8.zero_xor] at e2
                    apply hL0
                    right
                    rw [e2]; rfl, by
                    intro h
                    rw [hy]
                    simp only [HS.out.1]⟩
                clear ht6 hb6 hy C5 HG5 hL0 hPe hz
                go_wp2_with fail
                go_loopw [23] (fun a wr2 => ∃ n2 : Nat, n2 ≤ rs.length ∧ a = .int .i64 (n2 : Int) ∧ Hid (plL rs n2 ≤ P) ∧ Hid (BG W wr2 (.slice aa rs.length ca) (.slice xa X.length xc) (.slice (some ⟨bE, oE, none⟩) rs.length yc) rs X (endsI rs) ∧ Rd wr2 (.slice (some ⟨g, 0, none⟩) X.length cap) (X.set P (y ^^^ xb)))) (fun a _ => rs.length - (intOf a).toNat)
                case atStart => exact ⟨0, Nat.zero_le _, rfl, Lib.hid (by rw [plL_zero]; exact Nat.zero_le _), HST6⟩
                case round =>
                  clear HST6 c6 f6
                  obtain ⟨w7, hw7⟩ : ∃ w, w = wr := ⟨_, rfl⟩
                  subst hw7
                  obtain ⟨n2, hn2, rfl, HP2, HST⟩ := hrel
                  have g13 : (n2 : Int) ≤ (ca : Int) := by have := HST.out.1.r.cap; omega
                  have g14 : (0 : Int) ≤ (n2 : Int) := by omega
                  have hlt2 : n2 < rs.length := by
                    by_cases h : n2 < rs.length
                    · exact h
                    · exfalso
                      obtain rfl : n2 = rs.length := by omega
                      have := HP2.out
                      rw [plL_all, ← HS.out.1] at this
                      omega
                  have g15 : (n2 : Int) < (rs.length : Int) := by omega
                  by_cases hgo2 : plL rs (n2 + 1) ≤ P
                  · have hE := HST.out.1.e.cell
                    have c7 := hE n2 (by rw [endsI_len]; exact hlt2)
                    rw [endsI_at] at c7
                    obtain ⟨m, hm⟩ : ∃ m, m = plL rs (n2 + 1) := ⟨_, rfl⟩
                    rw [← hm] at c7 hgo2
                    have g16 : (m : Int) ≤ (P : Int) := by omega
                    have HM := Lib.hid (show plL rs (n2 + 1) ≤ P by rw [← hm]; exact hgo2)
                    clear hE hm
                    go_wp2_with fail
                    go_roundw
                    case rel => exact ⟨n2 + 1, by omega, by go_num, HM, HST⟩
                    case measure => simp [intOf]; omega
                  · have hgt2 : P < plL rs (n2 + 1) := by omega
                    clear hgo2
                    have HTW := Lib.hid (turn_whole rs HS.out.2 P n2 (y ^^^ xb) (by rw [← HS.out.1]; exact hP) hlt2 HP2.out hgt2 (by rw [HY.out.2]; exact HY.out.1))
                    rw [← HS.out.1] at HTW
                    obtain ⟨R7, hR7⟩ : ∃ R, R = (scanL (X.set P (y ^^^ xb)) ((X.set P (y ^^^ xb)).length + 1) 0).map (·.2) := ⟨_, rfl⟩
                    obtain ⟨E7, hE7⟩ : ∃ R, R = endOf (scanL (X.set P (y ^^^ xb)) ((X.set P (y ^^^ xb)).length + 1) 0) := ⟨_, rfl⟩
                    have C7 := Lib.hid (all_told _ (X.set P (y ^^^ xb)) w7 HST.out.2 (HT.out.below HST.out.1.b (Nat.le_refl _)) (by simp; omega) R7 E7 hR7.symm hE7.symm)
                    have HR7 := Lib.hid (And.intro hR7 hE7)
                    clear hR7 hE7
                    have hE := HST.out.1.e.cell
                    have hc := hE n2 (by rw [endsI_len]; exact hlt2)
                    rw [endsI_at] at hc
                    obtain ⟨m2, hm2⟩ : ∃ m, m = plL rs (n2 + 1) := ⟨_, rfl⟩
                    rw [← hm2] at hc hgt2
                    have g17 : ¬ (m2 : Int) ≤ (P : Int) := by omega
                    have hE' := fun (h : 0 < n2) => hE (n2 - 1) (by rw [endsI_len]; omega)
                    have HE' := Lib.hid hE'
                    clear hE hm2 hE'
                    go_wp2_with fail
                    refine C7.out.mono ?_
                    rintro e w8 ⟨v8, rfl, hv8, hb8⟩
                    have HG8 := Lib.hid (And.intro (And.intro (HST.out.1.r.below hb8 (Nat.le_refl _)) (HST.out.1.b.trans (hb8.mono HST.out.1.b.size))) hv8)
                    have HE8 := Lib.hid (fun h : 0 < n2 => (hb8.cell (p := ⟨bE, oE + (n2 - 1), none⟩) (World.block_lt_of_cell? w7 _ (HE'.out h))).trans (HE'.out h))
                    obtain ⟨a8, c8, rfl, _⟩ := hv8.lens
                    obtain ⟨n8, hn8⟩ : ∃ n, n = R7.length := ⟨_, rfl⟩
                    rw [← hn8] at HG8 ⊢
                    have HN8 := Lib.hid hn8
                    clear hv8 hb8 hn8 C7 HST HE' hc
                    obtain ⟨F, hF⟩ : ∃ F, F = plL rs n2 := ⟨_, rfl⟩
                    have HF := Lib.hid hF
                    rcases Nat.eq_zero_or_pos n2 with h0 | h0
                    · have g18 : ¬ (0 : Int) < (n2 : Int) := by omega
                      have hF0 : F = 0 := by rw [hF, h0, plL_zero]
                      clear hF HE8 h0
                      by_cases hbig : plL rs n2 + 2 ≤ P
                      · rw [← HF.out] at hbig
                        have g20 : (2 : Int) ≤ (P : Int) := by omega
                        obtain ⟨h71, h72⟩ := HTW.out.1 (by have := HF.out; omega)
                        rw [← HF.out] at h72
                        have HC8 : Hid (LRd w8 (.slice a8 n8 c8) (rs.take n2) ∧ LRd w8 (.slice aa rs.length ca) rs ∧ Below W.heap.size W w8) := Lib.hid ⟨by rw [← h71, ← HR7.out.1]; exact HG8.out.2, HG8.out.1.1, HG8.out.1.2⟩
                        have hEF : E7 = F := by rw [HR7.out.2]; exact h72
                        have t9 : ((E7 : Int) == (0 : Int)) = true := by rw [beq_iff_eq]; omega
                        clear HTW HR7 HG8 h71 h72 hF0 hEF
                        go_wp2_with fail
                        refine (CF.out w8 HC8.out.2.2).mono ?_
                        rintro e w9 ⟨rfl, hb9⟩
                        have CL9 := Lib.hid (lists_any _ _ _ _ w9 (HC8.out.1.below hb9 (Nat.le_refl _)) ((HC8.out.2.1.take n2 hn2).below hb9 (Nat.le_refl _)))
                        rw [decide_eq_true rfl] at CL9
                        have HB9 : Hid (Below W.heap.size W w9) := Lib.hid (HC8.out.2.2.trans (hb9.mono HC8.out.2.2.size))
                        clear hb9 HC8
                        go_wp2_with fail
                        refine CL9.out.mono ?_
                        rintro e w10 ⟨rfl, q10, rfl⟩
                        clear CL9
                        go_wp2_with fail
                        go_ret
                        exact ⟨rfl, Below.drewsN HB9.out _⟩
                      · rw [← HF.out] at hbig
                        have g20 : ¬ (2 : Int) ≤ (P : Int) := by omega
                        obtain ⟨⟨more, h71⟩, h72⟩ := HTW.out.2
                        rw [← HF.out, ← HR7.out.2] at h72
                        rw [← HR7.out.1] at h71
                        have hn8 : n2 ≤ n8 := by rw [HN8.out, h71]; simp; omega
                        have g21 : (0 : Int) ≤ (E7 : Int) := by omega
                        have g22 : (n2 : Int) ≤ (n8 : Int) := by omega
                        have g23 : (n2 : Int) ≤ (c8 : Int) := by have := HG8.out.2.cap; omega
                        have HB8 : Hid (Below W.heap.size W w8) := Lib.hid HG8.out.1.2
                        have CF9 : Hid (∀ W9, Hid (Below w8.heap.size w8 W9) → Calls Tryd.prog 6 #[] W9 fun e w' => e = .returned (.bool true) ∧ Hid (Below w8.heap.size w8 w')) := Lib.hid (fun W9 h => (CF.out W9 (HB8.out.trans (h.out.mono HB8.out.size))).mono (by rintro e w' ⟨rfl, hb⟩; exact ⟨rfl, Lib.hid (h.out.trans (hb.mono h.out.size))⟩))
                        have CL9 : Hid (∀ W9, Hid (Below w8.heap.size w8 W9) → Calls Tryd.prog 14 #[.slice a8 n2 c8, .slice aa n2 ca] W9 fun e w' => e = .returned (.bool true) ∧ Hid (Below w8.heap.size w8 w')) := Lib.hid (by
                          intro W9 h
                          have h1 := (HG8.out.2.take n2 (by rw [← HN8.out]; exact hn8)).below h.out (Nat.le_refl _)
                          rw [h71, List.take_left' (by simp; omega)] at h1
                          have := lists_any _ _ _ _ W9 h1 ((HG8.out.1.1.take n2 hn2).below h.out (Nat.le_refl _))
                          rw [decide_eq_true rfl] at this
                          refine this.mono ?_
                          rintro e w' ⟨rfl, q, rfl⟩
                          exact ⟨rfl, Lib.hid (Below.drewsN h.out q)⟩)
                        have HB : Hid (Below w8.heap.size w8 w8.drew) := Lib.hid (Below.drewsN (Below.refl _ _) 1)
                        clear HTW HR7 HG8 h71 h72 hF0 hn8
                        go_wp2_with fail
                        go_region_held3 (fun _ => True) (trivial)
                          ((first
                            | (go_at_call 6; refine (CF9.out _ HB).mono ?_; rintro e w9 ⟨rfl, HB⟩)
                            | (go_at_call 14; refine (CL9.out _ HB).mono ?_; rintro e w10 ⟨rfl, HB⟩)
                            | fail))
                        all_goals
                          go_wp2_with fail
                          go_ret
                          exact ⟨rfl, HB8.out.trans (HB.out.mono HB8.out.size)⟩
                    · have g18 : (0 : Int) < (n2 : Int) := by omega
                      have g19 : (0 : Int) ≤ (n2 : Int) - 1 := by omega
                      have g19' : (n2 : Int) - 1 < (rs.length : Int) := by omega
                      have g19w : IntKind.i64.wrap ((n2 : Int) - 1) = (n2 : Int) - 1 := IntWalk.i64_in _ ⟨by omega, by omega⟩
                      have g19t : ((n2 : Int) - 1).toNat = n2 - 1 := by omega
                      have cE := HE8.out h0
                      rw [endsI_at, show n2 - 1 + 1 = n2 by omega, ← hF] at cE
                      have hFb : F ≤ P := by rw [HF.out]; exact HP2.out
                      clear hF HE8
                      by_cases hbig : plL rs n2 + 2 ≤ P
                      · rw [← HF.out] at hbig
                        have g20 : (F : Int) + 2 ≤ (P : Int) := by omega
                        obtain ⟨h71, h72⟩ := HTW.out.1 (by have := HF.out; omega)
                        rw [← HF.out] at h72
                        have HC8 : Hid (LRd w8 (.slice a8 n8 c8) (rs.take n2) ∧ LRd w8 (.slice aa rs.length ca) rs ∧ Below W.heap.size W w8) := Lib.hid ⟨by rw [← h71, ← HR7.out.1]; exact HG8.out.2, HG8.out.1.1, HG8.out.1.2⟩
                        have hEF : E7 = F := by rw [HR7.out.2]; exact h72
                        have t9 : ((E7 : Int) == (F : Int)) = true := by rw [beq_iff_eq]; omega
                        clear HTW HR7 HG8 h71 h72 hEF
                        go_wp2_with fail
                        refine (CF.out w8 HC8.out.2.2).mono ?_
                        rintro e w9 ⟨rfl, hb9⟩
                        have CL9 := Lib.hid (lists_any _ _ _ _ w9 (HC8.out.1.below hb9 (Nat.le_refl _)) ((HC8.out.2.1.take n2 hn2).below hb9 (Nat.le_refl _)))
                        rw [decide_eq_true rfl] at CL9
                        have HB9 : Hid (Below W.heap.size W w9) := Lib.hid (HC8.out.2.2.trans (hb9.mono HC8.out.2.2.size))
                        clear hb9 HC8
                        go_wp2_with fail
                        refine CL9.out.mono ?_
                        rintro e w10 ⟨rfl, q10, rfl⟩
                        clear CL9
                        go_wp2_with fail
                        go_ret
                        exact ⟨rfl, Below.drewsN HB9.out _⟩
                      · rw [← HF.out] at hbig
                        have g20 : ¬ (F : Int) + 2 ≤ (P : Int) := by omega
                        obtain ⟨⟨more, h71⟩, h72⟩ := HTW.out.2
                        rw [← HF.out, ← HR7.out.2] at h72
                        rw [← HR7.out.1] at h71
                        have hn8 : n2 ≤ n8 := by rw [HN8.out, h71]; simp; omega
                        have g21 : (F : Int) ≤ (E7 : Int) := by omega
                        have g22 : (n2 : Int) ≤ (n8 : Int) := by omega
                        have g23 : (n2 : Int) ≤ (c8 : Int) := by have := HG8.out.2.cap; omega
                        have HB8 : Hid (Below W.heap.size W w8) := Lib.hid HG8.out.1.2
                        have CF9 : Hid (∀ W9, Hid (Below w8.heap.size w8 W9) → Calls Tryd.prog 6 #[] W9 fun e w' => e = .returned (.bool true) ∧ Hid (Below w8.heap.size w8 w')) := Lib.hid (fun W9 h => (CF.out W9 (HB8.out.trans (h.out.mono HB8.out.size))).mono (by rintro e w' ⟨rfl, hb⟩; exact ⟨rfl, Lib.hid (h.out.trans (hb.mono h.out.size))⟩))
                        have CL9 : Hid (∀ W9, Hid (Below w8.heap.size w8 W9) → Calls Tryd.prog 14 #[.slice a8 n2 c8, .slice aa n2 ca] W9 fun e w' => e = .returned (.bool true) ∧ Hid (Below w8.heap.size w8 w')) := Lib.hid (by
                          intro W9 h
                          have h1 := (HG8.out.2.take n2 (by rw [← HN8.out]; exact hn8)).below h.out (Nat.le_refl _)
                          rw [h71, List.take_left' (by simp; omega)] at h1
                          have := lists_any _ _ _ _ W9 h1 ((HG8.out.1.1.take n2 hn2).below h.out (Nat.le_refl _))
                          rw [decide_eq_true rfl] at this
                          refine this.mono ?_
                          rintro e w' ⟨rfl, q, rfl⟩
                          exact ⟨rfl, Lib.hid (Below.drewsN h.out q)⟩)
                        have HB : Hid (Below w8.heap.size w8 w8.drew) := Lib.hid (Below.drewsN (Below.refl _ _) 1)
                        clear HTW HR7 HG8 h71 h72 hn8
                        go_wp2_with fail
                        go_region_held3 (fun _ => True) (trivial)
                          ((first
                            | (go_at_call 6; refine (CF9.out _ HB).mono ?_; rintro e w9 ⟨rfl, HB⟩)
                            | (go_at_call 14; refine (CL9.out _ HB).mono ?_; rintro e w10 ⟨rfl, HB⟩)
                            | fail))
                        all_goals
                          go_wp2_with fail
                          go_ret
                          exact ⟨rfl, HB8.out.trans (HB.out.mono HB8.out.size)⟩
            · have g7 : (n : Int) < (rs.length : Int) := by omega
              obtain ⟨ya', yc', hy, hyl, hyc⟩ := HG4.out.1.e
              obtain ⟨bE, oE, rfl, hE⟩ := hyc (by intro e; have := endsI_len rs; rw [e] at this; simp at this; omega)
              simp only [Value.slice.injEq] at hy
              obtain ⟨rfl, -, rfl⟩ := hy
              have c1 := hE n (by rw [endsI_len]; exact hlt)
              rw [endsI_at] at c1
              obtain ⟨m, hm⟩ : ∃ m, m = plL rs (n + 1) := ⟨_, rfl⟩
              rw [← hm] at c1 hgt
              have g9 : ¬ (m : Int) ≤ (K : Int) := by omega
              clear hE hyl hyc hm
              go_wp2_with fail
              refine CL2.out.mono ?_
              rintro e w5 ⟨rfl, q5, hw5⟩
              have HG5 := Lib.hid (HG4.out.1.below (w' := w5) (by rw [hw5]; exact Below.drewsN (Below.refl _ _) q5))
              clear hw5 CL2 HG4
              by_cases hL0 : X.length = 0 ∨ xb.toNat = 0
              · have key : ((X.length : Int) == 0) = true ∨ (((X.length : Int) == 0) = false ∧ ((xb.toNat : Int) == 0) = true) := by
                  simp only [beq_iff_eq, beq_eq_false_iff_ne]; omega
                clear hL0
                rcases key with t5 | ⟨t5, t6⟩
                all_goals
                  go_wp2_with fail
                  refine (CF.out w5 HG5.out.b).mono ?_
                  rintro e w6 ⟨rfl, hb6⟩
                  have HB6 : Hid (Below W.heap.size W w6) := Lib.hid (HG5.out.b.trans (hb6.mono HG5.out.b.size))
                  clear hb6
                  go_wp2_with fail
                  go_ret
                  exact ⟨rfl, HB6.out⟩
              · have t5 : ((X.length : Int) == 0) = false := by rw [beq_eq_false_iff_ne]; omega
                have t6 : ((xb.toNat : Int) == 0) = false := by rw [beq_eq_false_iff_ne]; omega
                have C5 := Lib.hid (copy_bytes _ X w5 HG5.out.x (by omega))
                go_wp2_with fail
                refine C5.out.mono ?_
                rintro e w6 ⟨tv, rfl, ht6, hb6⟩
                have hXp : 0 < X.length := by omega
                obtain ⟨P, hPe⟩ : ∃ P, P = A % X.length := ⟨_, rfl⟩
                have hP : P < X.length := by rw [hPe]; exact Nat.mod_lt _ hXp
                have t7 : Int.tmod (A : Int) (X.length : Int) = (P : Int) := by rw [hPe]; norm_cast
                have t7' : (A : Int) % (X.length : Int) = (P : Int) := by rw [hPe]; norm_cast
                have t7w : IntKind.i64.wrap (P : Int) = (P : Int) := IntWalk.i64_in _ ⟨by omega, by omega⟩
                have t8 : ¬ ((X.length : Int) = 0) := by omega
                have g11 : (P : Int) < (X.length : Int) := by omega
                have g12 : (0 : Int) ≤ (P : Int) := by omega
                obtain ⟨g, cap, rfl, hg6⟩ : ∃ g cap, tv = .slice (some ⟨g, 0, none⟩) X.length cap ∧ w5.heap.size ≤ g := by
                  rcases ht6.2 with ⟨_, h0⟩ | ⟨g, cap, cur, rfl, hg, _⟩
                  · omega
                  · exact ⟨g, cap, rfl, hg⟩
                obtain ⟨y, hy⟩ : ∃ y, y = X[P] := ⟨_, rfl⟩
                have c6 : w6.cell? ⟨g, P, none⟩ = some (.int .u8 (y.toNat : Int)) := by rw [ht6.cell.2.1 P hP, hy]; rfl
                have f6 := ht6.cell.2.2 P
                have hxr : bits .xor .u8 (y.toNat : Int) (xb.toNat : Int) = ((y ^^^ xb).toNat : Int) := fxor_u8 y xb
                obtain ⟨z, hz⟩ : ∃ z, z = ((y ^^^ xb).toNat : Int) := ⟨_, rfl⟩
                rw [← hz] at hxr
                have HST6 : Hid (BG W (w6.setCell ⟨g, P, none⟩ (.int .u8 z)) (.slice aa rs.length ca) (.slice xa X.length xc) (.slice (some ⟨bE, oE, none⟩) rs.length yc) rs X (endsI rs) ∧ Rd (w6.setCell ⟨g, P, none⟩ (.int .u8 z)) (.slice (some ⟨g, 0, none⟩) X.length cap) (X.set P (y ^^^ xb))) := by
                  have h1 := ht6.set P (y ^^^ xb) (.int .u8 z) (by rw [hz]; rfl)
                  have h2 : Below w5.heap.size w5 (w6.setCell ⟨g, P, none⟩ (.int .u8 z)) := hb6.setCell (p := ⟨g, P, none⟩) hg6 _
                  exact Lib.hid ⟨HG5.out.below h2, h1.rd⟩
                have HY : Hid (y ^^^ xb ≠ y ∧ ∀ h : P < (frms rs).length, (frms rs)[P] = y) := Lib.hid ⟨by
                    intro e
                    have e2 := congrArg (fun v => y ^^^ v) e
                    simp only [← UInt8.xor_assoc, UInt8.xor_self, UInt8.zero_xor] at e2
                    apply hL0
                    right
                    rw [e2]; rfl, by
                    intro h
                    rw [hy]
                    simp only [HS.out.1]⟩
                clear ht6 hb6 hy C5 HG5 hL0 hPe hz
                go_wp2_with fail
                go_loopw [23] (fun a wr2 => ∃ n2 : Nat, n2 ≤ rs.length ∧ a = .int .i64 (n2 : Int) ∧ Hid (plL rs n2 ≤ P) ∧ Hid (BG W wr2 (.slice aa rs.length ca) (.slice xa X.length xc) (.slice (some ⟨bE, oE, none⟩) rs.length yc) rs X (endsI rs) ∧ Rd wr2 (.slice (some ⟨g, 0, none⟩) X.length cap) (X.set P (y ^^^ xb)))) (fun a _ => rs.length - (intOf a).toNat)
                case atStart => exact ⟨0, Nat.zero_le _, rfl, Lib.hid (by rw [plL_zero]; exact Nat.zero_le _), HST6⟩
                case round =>
                  clear HST6 c6 f6
                  obtain ⟨w7, hw7⟩ : ∃ w, w = wr := ⟨_, rfl⟩
                  subst hw7
                  obtain ⟨n2, hn2, rfl, HP2, HST⟩ := hrel
                  have g13 : (n2 : Int) ≤ (ca : Int) := by have := HST.out.1.r.cap; omega
                  have g14 : (0 : Int) ≤ (n2 : Int) := by omega
                  have hlt2 : n2 < rs.length := by
                    by_cases h : n2 < rs.length
                    · exact h
                    · exfalso
                      obtain rfl : n2 = rs.length := by omega
                      have := HP2.out
                      rw [plL_all, ← HS.out.1] at this
                      omega
                  have g15 : (n2 : Int) < (rs.length : Int) := by omega
                  by_cases hgo2 : plL rs (n2 + 1) ≤ P
                  · have hE := HST.out.1.e.cell
                    have c7 := hE n2 (by rw [endsI_len]; exact hlt2)
                    rw [endsI_at] at c7
                    obtain ⟨m, hm⟩ : ∃ m, m = plL rs (n2 + 1) := ⟨_, rfl⟩
                    rw [← hm] at c7 hgo2
                    have g16 : (m : Int) ≤ (P : Int) := by omega
                    have HM := Lib.hid (show plL rs (n2 + 1) ≤ P by rw [← hm]; exact hgo2)
                    clear hE hm
                    go_wp2_with fail
                    go_roundw
                    case rel => exact ⟨n2 + 1, by omega, by go_num, HM, HST⟩
                    case measure => simp [intOf]; omega
                  · have hgt2 : P < plL rs (n2 + 1) := by omega
                    clear hgo2
                    have HTW := Lib.hid (turn_whole rs HS.out.2 P n2 (y ^^^ xb) (by rw [← HS.out.1]; exact hP) hlt2 HP2.out hgt2 (by rw [HY.out.2]; exact HY.out.1))
                    rw [← HS.out.1] at HTW
                    obtain ⟨R7, hR7⟩ : ∃ R, R = (scanL (X.set P (y ^^^ xb)) ((X.set P (y ^^^ xb)).length + 1) 0).map (·.2) := ⟨_, rfl⟩
                    obtain ⟨E7, hE7⟩ : ∃ R, R = endOf (scanL (X.set P (y ^^^ xb)) ((X.set P (y ^^^ xb)).length + 1) 0) := ⟨_, rfl⟩
                    have C7 := Lib.hid (all_told _ (X.set P (y ^^^ xb)) w7 HST.out.2 (HT.out.below HST.out.1.b (Nat.le_refl _)) (by simp; omega) R7 E7 hR7.symm hE7.symm)
                    have HR7 := Lib.hid (And.intro hR7 hE7)
                    clear hR7 hE7
                    have hE := HST.out.1.e.cell
                    have hc := hE n2 (by rw [endsI_len]; exact hlt2)
                    rw [endsI_at] at hc
                    obtain ⟨m2, hm2⟩ : ∃ m, m = plL rs (n2 + 1) := ⟨_, rfl⟩
                    rw [← hm2] at hc hgt2
                    have g17 : ¬ (m2 : Int) ≤ (P : Int) := by omega
                    have hE' := fun (h : 0 < n2) => hE (n2 - 1) (by rw [endsI_len]; omega)
                    have HE' := Lib.hid hE'
                    clear hE hm2 hE'
                    go_wp2_with fail
                    refine C7.out.mono ?_
                    rintro e w8 ⟨v8, rfl, hv8, hb8⟩
                    have HG8 := Lib.hid (And.intro (And.intro (HST.out.1.r.below hb8 (Nat.le_refl _)) (HST.out.1.b.trans (hb8.mono HST.out.1.b.size))) hv8)
                    have HE8 := Lib.hid (fun h : 0 < n2 => (hb8.cell (p := ⟨bE, oE + (n2 - 1), none⟩) (World.block_lt_of_cell? w7 _ (HE'.out h))).trans (HE'.out h))
                    obtain ⟨a8, c8, rfl, _⟩ := hv8.lens
                    obtain ⟨n8, hn8⟩ : ∃ n, n = R7.length := ⟨_, rfl⟩
                    rw [← hn8] at HG8 ⊢
                    have HN8 := Lib.hid hn8
                    clear hv8 hb8 hn8 C7 HST HE' hc
                    obtain ⟨F, hF⟩ : ∃ F, F = plL rs n2 := ⟨_, rfl⟩
                    have HF := Lib.hid hF
                    rcases Nat.eq_zero_or_pos n2 with h0 | h0
                    · have g18 : ¬ (0 : Int) < (n2 : Int) := by omega
                      have hF0 : F = 0 := by rw [hF, h0, plL_zero]
                      clear hF HE8 h0
                      by_cases hbig : plL rs n2 + 2 ≤ P
                      · rw [← HF.out] at hbig
                        have g20 : (2 : Int) ≤ (P : Int) := by omega
                        obtain ⟨h71, h72⟩ := HTW.out.1 (by have := HF.out; omega)
                        rw [← HF.out] at h72
                        have HC8 : Hid (LRd w8 (.slice a8 n8 c8) (rs.take n2) ∧ LRd w8 (.slice aa rs.length ca) rs ∧ Below W.heap.size W w8) := Lib.hid ⟨by rw [← h71, ← HR7.out.1]; exact HG8.out.2, HG8.out.1.1, HG8.out.1.2⟩
                        have hEF : E7 = F := by rw [HR7.out.2]; exact h72
                        have t9 : ((E7 : Int) == (0 : Int)) = true := by rw [beq_iff_eq]; omega
                        clear HTW HR7 HG8 h71 h72 hF0 hEF
                        go_wp2_with fail
                        refine (CF.out w8 HC8.out.2.2).mono ?_
                        rintro e w9 ⟨rfl, hb9⟩
                        have CL9 := Lib.hid (lists_any _ _ _ _ w9 (HC8.out.1.below hb9 (Nat.le_refl _)) ((HC8.out.2.1.take n2 hn2).below hb9 (Nat.le_refl _)))
                        rw [decide_eq_true rfl] at CL9
                        have HB9 : Hid (Below W.heap.size W w9) := Lib.hid (HC8.out.2.2.trans (hb9.mono HC8.out.2.2.size))
                        clear hb9 HC8
                        go_wp2_with fail
                        refine CL9.out.mono ?_
                        rintro e w10 ⟨rfl, q10, rfl⟩
                        clear CL9
                        go_wp2_with fail
                        go_ret
                        exact ⟨rfl, Below.drewsN HB9.out _⟩
                      · rw [← HF.out] at hbig
                        have g20 : ¬ (2 : Int) ≤ (P : Int) := by omega
                        obtain ⟨⟨more, h71⟩, h72⟩ := HTW.out.2
                        rw [← HF.out, ← HR7.out.2] at h72
                        rw [← HR7.out.1] at h71
                        have hn8 : n2 ≤ n8 := by rw [HN8.out, h71]; simp; omega
                        have g21 : (0 : Int) ≤ (E7 : Int) := by omega
                        have g22 : (n2 : Int) ≤ (n8 : Int) := by omega
                        have g23 : (n2 : Int) ≤ (c8 : Int) := by have := HG8.out.2.cap; omega
                        have HB8 : Hid (Below W.heap.size W w8) := Lib.hid HG8.out.1.2
                        have CF9 : Hid (∀ W9, Hid (Below w8.heap.size w8 W9) → Calls Tryd.prog 6 #[] W9 fun e w' => e = .returned (.bool true) ∧ Hid (Below w8.heap.size w8 w')) := Lib.hid (fun W9 h => (CF.out W9 (HB8.out.trans (h.out.mono HB8.out.size))).mono (by rintro e w' ⟨rfl, hb⟩; exact ⟨rfl, Lib.hid (h.out.trans (hb.mono h.out.size))⟩))
                        have CL9 : Hid (∀ W9, Hid (Below w8.heap.size w8 W9) → Calls Tryd.prog 14 #[.slice a8 n2 c8, .slice aa n2 ca] W9 fun e w' => e = .returned (.bool true) ∧ Hid (Below w8.heap.size w8 w')) := Lib.hid (by
                          intro W9 h
                          have h1 := (HG8.out.2.take n2 (by rw [← HN8.out]; exact hn8)).below h.out (Nat.le_refl _)
                          rw [h71, List.take_left' (by simp; omega)] at h1
                          have := lists_any _ _ _ _ W9 h1 ((HG8.out.1.1.take n2 hn2).below h.out (Nat.le_refl _))
                          rw [decide_eq_true rfl] at this
                          refine this.mono ?_
                          rintro e w' ⟨rfl, q, rfl⟩
                          exact ⟨rfl, Lib.hid (Below.drewsN h.out q)⟩)
                        have HB : Hid (Below w8.heap.size w8 w8.drew) := Lib.hid (Below.drewsN (Below.refl _ _) 1)
                        clear HTW HR7 HG8 h71 h72 hF0 hn8
                        go_wp2_with fail
                        go_region_held3 (fun _ => True) (trivial)
                          ((first
                            | (go_at_call 6; refine (CF9.out _ HB).mono ?_; rintro e w9 ⟨rfl, HB⟩)
                            | (go_at_call 14; refine (CL9.out _ HB).mono ?_; rintro e w10 ⟨rfl, HB⟩)
                            | fail))
                        all_goals
                          go_wp2_with fail
                          go_ret
                          exact ⟨rfl, HB8.out.trans (HB.out.mono HB8.out.size)⟩
                    · have g18 : (0 : Int) < (n2 : Int) := by omega
                      have g19 : (0 : Int) ≤ (n2 : Int) - 1 := by omega
                      have g19' : (n2 : Int) - 1 < (rs.length : Int) := by omega
                      have g19w : IntKind.i64.wrap ((n2 : Int) - 1) = (n2 : Int) - 1 := IntWalk.i64_in _ ⟨by omega, by omega⟩
                      have g19t : ((n2 : Int) - 1).toNat = n2 - 1 := by omega
                      have cE := HE8.out h0
                      rw [endsI_at, show n2 - 1 + 1 = n2 by omega, ← hF] at cE
                      have hFb : F ≤ P := by rw [HF.out]; exact HP2.out
                      clear hF HE8
                      by_cases hbig : plL rs n2 + 2 ≤ P
                      · rw [← HF.out] at hbig
                        have g20 : (F : Int) + 2 ≤ (P : Int) := by omega
                        obtain ⟨h71, h72⟩ := HTW.out.1 (by have := HF.out; omega)
                        rw [← HF.out] at h72
                        have HC8 : Hid (LRd w8 (.slice a8 n8 c8) (rs.take n2) ∧ LRd w8 (.slice aa rs.length ca) rs ∧ Below W.heap.size W w8) := Lib.hid ⟨by rw [← h71, ← HR7.out.1]; exact HG8.out.2, HG8.out.1.1, HG8.out.1.2⟩
                        have hEF : E7 = F := by rw [HR7.out.2]; exact h72
                        have t9 : ((E7 : Int) == (F : Int)) = true := by rw [beq_iff_eq]; omega
                        clear HTW HR7 HG8 h71 h72 hEF
                        go_wp2_with fail
                        refine (CF.out w8 HC8.out.2.2).mono ?_
                        rintro e w9 ⟨rfl, hb9⟩
                        have CL9 := Lib.hid (lists_any _ _ _ _ w9 (HC8.out.1.below hb9 (Nat.le_refl _)) ((HC8.out.2.1.take n2 hn2).below hb9 (Nat.le_refl _)))
                        rw [decide_eq_true rfl] at CL9
                        have HB9 : Hid (Below W.heap.size W w9) := Lib.hid (HC8.out.2.2.trans (hb9.mono HC8.out.2.2.size))
                        clear hb9 HC8
                        go_wp2_with fail
                        refine CL9.out.mono ?_
                        rintro e w10 ⟨rfl, q10, rfl⟩
                        clear CL9
                        go_wp2_with fail
                        go_ret
                        exact ⟨rfl, Below.drewsN HB9.out _⟩
                      · rw [← HF.out] at hbig
                        have g20 : ¬ (F : Int) + 2 ≤ (P : Int) := by omega
                        obtain ⟨⟨more, h71⟩, h72⟩ := HTW.out.2
                        rw [← HF.out, ← HR7.out.2] at h72
                        rw [← HR7.out.1] at h71
                        have hn8 : n2 ≤ n8 := by rw [HN8.out, h71]; simp; omega
                        have g21 : (F : Int) ≤ (E7 : Int) := by omega
                        have g22 : (n2 : Int) ≤ (n8 : Int) := by omega
                        have g23 : (n2 : Int) ≤ (c8 : Int) := by have := HG8.out.2.cap; omega
                        have HB8 : Hid (Below W.heap.size W w8) := Lib.hid HG8.out.1.2
                        have CF9 : Hid (∀ W9, Hid (Below w8.heap.size w8 W9) → Calls Tryd.prog 6 #[] W9 fun e w' => e = .returned (.bool true) ∧ Hid (Below w8.heap.size w8 w')) := Lib.hid (fun W9 h => (CF.out W9 (HB8.out.trans (h.out.mono HB8.out.size))).mono (by rintro e w' ⟨rfl, hb⟩; exact ⟨rfl, Lib.hid (h.out.trans (hb.mono h.out.size))⟩))
                        have CL9 : Hid (∀ W9, Hid (Below w8.heap.size w8 W9) → Calls Tryd.prog 14 #[.slice a8 n2 c8, .slice aa n2 ca] W9 fun e w' => e = .returned (.bool true) ∧ Hid (Below w8.heap.size w8 w')) := Lib.hid (by
                          intro W9 h
                          have h1 := (HG8.out.2.take n2 (by rw [← HN8.out]; exact hn8)).below h.out (Nat.le_refl _)
                          rw [h71, List.take_left' (by simp; omega)] at h1
                          have := lists_any _ _ _ _ W9 h1 ((HG8.out.1.1.take n2 hn2).below h.out (Nat.le_refl _))
                          rw [decide_eq_true rfl] at this
                          refine this.mono ?_
                          rintro e w' ⟨rfl, q, rfl⟩
                          exact ⟨rfl, Lib.hid (Below.drewsN h.out q)⟩)
                        have HB : Hid (Below w8.heap.size w8 w8.drew) := Lib.hid (Below.drewsN (Below.refl _ _) 1)
                        clear HTW HR7 HG8 h71 h72 hn8
                        go_wp2_with fail
                        go_region_held3 (fun _ => True) (trivial)
                          ((first
                            | (go_at_call 6; refine (CF9.out _ HB).mono ?_; rintro e w9 ⟨rfl, HB⟩)
                            | (go_at_call 14; refine (CL9.out _ HB).mono ?_; rintro e w10 ⟨rfl, HB⟩)
                            | fail))
                        all_goals
                          go_wp2_with fail
                          go_ret
                          exact ⟨rfl, HB8.out.trans (HB.out.mono HB8.out.size)⟩
end Go.Proofs.YtainkmbjllklaaaDoor
