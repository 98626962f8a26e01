/- frame.record, by its contract. -/
import Derived.Test.YtainkmbjllklaaaDoorFPutF
namespace Go.Proofs.YtainkmbjllklaaaDoor
open Go.RowKit

/-- A slice of a slice, wherever it lies. -/
theorem Rd.part {w : World} {b off n cap : Nat} {l : List UInt8} (h : Rd w (.slice (some ⟨b, off, none⟩) n cap) l) (p k : Nat) (hk : p + k ≤ l.length) (a : Addr) (ha : 0 < k → a = ⟨b, off + p, none⟩) :
    Rd w (.slice (some a) k (cap - p)) (win l p k) := by
  have hc := h.cells.2
  obtain ⟨a0, cap', hv, h1, h2, _, _⟩ := h
  simp only [Value.slice.injEq] at hv
  obtain ⟨_, _, rfl⟩ := hv
  have hl := win_length l p k hk
  refine ⟨_, _, by rw [hl], by omega, by omega, (fun e => by cases e), fun hne => ?_⟩
  have hpos : 0 < k := by rcases Nat.eq_zero_or_pos k with h0 | h0
                          · exact absurd (List.eq_nil_of_length_eq_zero (by omega)) hne
                          · exact h0
  rw [ha hpos]
  refine ⟨b, off + p, rfl, fun i hi => ?_⟩
  rw [Nat.add_assoc, hc (p + i) (by omega)]
  simp [win]
/-- The record at a place: its bytes, where its sum is right. -/
def recL (l : List UInt8) (at_ : Nat) : Option (List UInt8) :=
  if l.length < at_ + 6 then none
  else if 60000 < numL (win l at_ 2) ∨ l.length < at_ + 6 + numL (win l at_ 2) then none
  else if crcN (win l at_ 2 ++ win l (at_ + 6) (numL (win l at_ 2))) = numL (win l (at_ + 2) 4) then some (win l (at_ + 6) (numL (win l at_ 2))) else none
/-- What record tells. -/
def RecP (w : World) (l : List UInt8) (at_ : Nat) (e : Ending) (w' : World) : Prop :=
  ∃ v z, e = .returned (.tuple #[v, .bool z]) ∧ Below w.heap.size w w' ∧ (match recL l at_ with | none => z = false | some p => z = true ∧ Own 5 w' w.heap.size v p)
set_option maxHeartbeats 1000000 in
theorem record_any (x : Value) (l : List UInt8) (at_ : Nat) (w : World) (hx : Rd w x l) (ht : Tab w) (h1 : at_ ≤ l.length) (h2 : l.length ≤ 100000000) :
    Calls Tryd.prog 23 #[x, .int .i64 (at_ : Int)] w (RecP w l at_) := by
  have HX := Lib.hid hx
  have HT := Lib.hid ht
  obtain ⟨xa, xc, rfl, hcap, hcap2, _, hne⟩ := hx
  clear ht
  by_cases hs : l.length < at_ + 6
  · have g1 : (l.length : Int) - (at_ : Int) < 6 := by omega
    have HR : Hid (recL l at_ = none) := Lib.hid (by unfold recL; rw [if_pos hs])
    clear hne
    go_enter Tryd.func23, Tryd.ntmps23
    go_wp2
    go_ret2
    exact ⟨_, false, rfl, Below.refl _ _, by rw [HR.out]⟩
  · have g1 : ¬ (l.length : Int) - (at_ : Int) < 6 := by omega
    obtain ⟨xb, xo, rfl, _⟩ := hne (by rintro rfl; simp at hs)
    obtain ⟨sz, hsz⟩ : ∃ sz, sz = numL (win l at_ 2) := ⟨_, rfl⟩
    obtain ⟨sm, hsm⟩ : ∃ sm, sm = numL (win l (at_ + 2) 4) := ⟨_, rfl⟩
    have hszb : sz < 65536 := by rw [hsz]; have := numL_lt 2 (win l at_ 2) (win_length l at_ 2 (by omega)); simpa using this
    have hsmb : sm < 4294967296 := by rw [hsm]; have := numL_lt 4 (win l (at_ + 2) 4) (win_length l (at_ + 2) 4 (by omega)); simpa using this
    have C1 := Lib.hid (get_any _ l at_ 2 w HX.out (by omega) (by omega) (by omega))
    have C2 := Lib.hid (get_any _ l (at_ + 2) 4 w HX.out (by omega) (by omega) (by omega))
    rw [← hsz] at C1
    rw [← hsm] at C2
    have e2 : ((at_ + 2 : Nat) : Int) = (at_ : Int) + 2 := by omega
    rw [e2] at C2
    clear e2
    by_cases hbig : 60000 < sz ∨ l.length < at_ + 6 + sz
    · have HR : Hid (recL l at_ = none) := Lib.hid (by unfold recL; rw [if_neg hs, if_pos (by rw [← hsz]; exact hbig)])
      clear hsz hsm hne
      have key : (60000 : Int) < (sz : Int) ∨ (¬ (60000 : Int) < (sz : Int) ∧ (l.length : Int) - ((at_ : Int) + 6) < (sz : Int)) := by omega
      clear hbig
      rcases key with g2 | ⟨g2, g3⟩
      all_goals
        go_enter Tryd.func23, Tryd.ntmps23
        go_wp2_with fail
        refine C1.out.mono ?_
        rintro e w' ⟨rfl, rfl⟩
        go_wp2_with fail
        refine C2.out.mono ?_
        rintro e w' ⟨rfl, rfl⟩
        go_wp2_with fail
        go_ret2
        exact ⟨_, false, rfl, Below.refl _ _, by rw [HR.out]⟩
    · have g2 : ¬ (60000 : Int) < (sz : Int) := by omega
      have g3 : ¬ (l.length : Int) - ((at_ : Int) + 6) < (sz : Int) := by omega
      have g4 : (0 : Int) ≤ (at_ : Int) + 6 := by omega
      have g5 : (at_ : Int) + 6 ≤ (at_ : Int) + 6 + (sz : Int) := by omega
      have g6 : (at_ : Int) + 6 + (sz : Int) ≤ (xc : Int) := by omega
      have g7 : (at_ : Int) ≤ (at_ : Int) + 2 := by omega
      have g8 : (at_ : Int) + 2 ≤ (xc : Int) := by omega
      have g9 : (0 : Int) ≤ (at_ : Int) := by omega
      have t1 : ((at_ : Int) + 6).toNat = at_ + 6 := by omega
      have t2 : ((at_ : Int) + 6 + (sz : Int)).toNat = at_ + 6 + sz := by omega
      have t3 : ((at_ : Int) + 2).toNat = at_ + 2 := by omega
      have g10 : ¬ xc = at_ := by omega
      obtain ⟨c, hcc⟩ : ∃ c, c = crcN (win l at_ 2 ++ win l (at_ + 6) sz) := ⟨_, rfl⟩
      have HR : Hid (recL l at_ = if c = sm then some (win l (at_ + 6) sz) else none) := Lib.hid (by
        unfold recL
        rw [if_neg hs, if_neg (by rw [← hsz]; exact hbig), ← hsz, ← hsm, ← hcc])
      have hwl := win_length l (at_ + 6) sz (by omega)
      have hw2 := win_length l at_ 2 (by omega)
      have HCC := Lib.hid (And.intro hcc (And.intro hwl hw2))
      have hfin : ∀ w2 w3 vp, Own 5 w2 w.heap.size vp (win l (at_ + 6) sz) → Below w.heap.size w w2 → Below w2.heap.size w2 w3 → RecP w l at_ (.returned (.tuple #[vp, .bool ((c : Int) == (sm : Int))])) w3 := by
        intro w2 w3 vp q1 q2 q3
        refine ⟨vp, _, rfl, q2.trans (q3.mono q2.size), ?_⟩
        rw [HR.out]
        by_cases e : c = sm
        · rw [if_pos e]; exact ⟨by rw [e]; simp, q1.below q3 (Nat.le_refl _)⟩
        · rw [if_neg e]; simp; omega
      clear hsz hsm hne hbig hcc hwl hw2 HR
      by_cases hq : xc = at_ + 6
      · have hsz0 : sz = 0 := by omega
        have hrd : Rd w (.slice (some ⟨xb, xo, none⟩) sz 0) (win l (at_ + 6) sz) := by
          have := HX.out.part (at_ + 6) sz (by omega) ⟨xb, xo, none⟩ (fun h => by omega)
          have e : xc - (at_ + 6) = 0 := by omega
          rw [e] at this
          exact this
        have CP := Lib.hid (clone_any (.slice (some ⟨xb, xo, none⟩) sz 0) (win l (at_ + 6) sz) w hrd (by rw [HCC.out.2.1]; omega))
        have hq2 : at_ + 6 = xc := hq.symm
        clear hrd hsz0 hq
        go_enter Tryd.func23, Tryd.ntmps23
        go_wp2_with fail
        refine C1.out.mono ?_
        rintro e w' ⟨rfl, rfl⟩
        go_wp2_with fail
        refine C2.out.mono ?_
        rintro e w' ⟨rfl, rfl⟩
        go_wp2_with fail
        refine CP.out.mono ?_
        rintro e w2 ⟨vp, rfl, hown, hb⟩
        have H2 := Lib.hid (And.intro hown hb)
        clear hown hb CP C1 C2
        have CS := Lib.hid (sum_any (.slice (some ⟨xb, xo + at_, none⟩) 2 (xc - at_)) vp (win l at_ 2) (win l (at_ + 6) sz) w2 ((HX.out.part at_ 2 (by omega) _ (fun _ => rfl)).below H2.out.2 (Nat.le_refl _)) H2.out.1.rd (HT.out.below H2.out.2 (Nat.le_refl _)) (by rw [HCC.out.2.2]; omega) (by rw [HCC.out.2.1]; omega))
        rw [← HCC.out.1] at CS
        go_wp2_with fail
        refine CS.out.mono ?_
        rintro e w3 ⟨rfl, hb3⟩
        have H3 := Lib.hid (hfin w2 w3 vp H2.out.1 H2.out.2 hb3)
        clear hb3 CS H2 hfin
        go_wp2_with fail
        go_ret2
        exact H3.out
      · have CP := Lib.hid (clone_any (.slice (some ⟨xb, xo + (at_ + 6), none⟩) sz (xc - (at_ + 6))) (win l (at_ + 6) sz) w (HX.out.part (at_ + 6) sz (by omega) _ (fun _ => rfl)) (by rw [HCC.out.2.1]; omega))
        go_enter Tryd.func23, Tryd.ntmps23
        go_wp2_with fail
        refine C1.out.mono ?_
        rintro e w' ⟨rfl, rfl⟩
        go_wp2_with fail
        refine C2.out.mono ?_
        rintro e w' ⟨rfl, rfl⟩
        go_wp2_with fail
        refine CP.out.mono ?_
        rintro e w2 ⟨vp, rfl, hown, hb⟩
        have H2 := Lib.hid (And.intro hown hb)
        clear hown hb CP C1 C2
        have CS := Lib.hid (sum_any (.slice (some ⟨xb, xo + at_, none⟩) 2 (xc - at_)) vp (win l at_ 2) (win l (at_ + 6) sz) w2 ((HX.out.part at_ 2 (by omega) _ (fun _ => rfl)).below H2.out.2 (Nat.le_refl _)) H2.out.1.rd (HT.out.below H2.out.2 (Nat.le_refl _)) (by rw [HCC.out.2.2]; omega) (by rw [HCC.out.2.1]; omega))
        rw [← HCC.out.1] at CS
        go_wp2_with fail
        refine CS.out.mono ?_
        rintro e w3 ⟨rfl, hb3⟩
        have H3 := Lib.hid (hfin w2 w3 vp H2.out.1 H2.out.2 hb3)
        clear hb3 CS H2 hfin
        go_wp2_with fail
        go_ret2
        exact H3.out
end Go.Proofs.YtainkmbjllklaaaDoor
