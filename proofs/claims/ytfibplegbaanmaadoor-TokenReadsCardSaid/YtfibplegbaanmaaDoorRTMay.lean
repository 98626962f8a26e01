/- hblref20's May, by its contract. -/
import Derived.Test.YtfibplegbaanmaaDoorToken
import Derived.Test.YtfibplegbaanmaaDoorRefName
namespace Go.Proofs.YtfibplegbaanmaaDoor
open Go.RowKit

set_option maxHeartbeats 3200000 in
theorem tmay_any (u k : List UInt8) (f t : Int) (w : World) (hu : u.length ≤ 9223372036854775807) (hk : k.length ≤ 9223372036854775807) (hf : -9223372036854775808 ≤ f ∧ f ≤ 9223372036854775807) (ht : -9223372036854775808 ≤ t ∧ t ≤ 9223372036854775807) :
    Calls Tryd.prog 13 #[tok u f t k] w fun e w' => e = .returned (.bool (mayB u f t k)) ∧ Below w.heap.size w w' := by
  have HN := Lib.hid (fun W => rname_any u W hu)
  cases hn : nameB u
  · have hv : mayB u f t k = false := by rw [mayB, hn]; rfl
    have HV := Lib.hid hv
    have HB := Lib.hid hn
    clear hv hn
    go_enter Tryd.func13, Tryd.ntmps13
    go_wp2_with fail
    refine (HN.out _).mono ?_
    rintro e w' ⟨rfl, rfl⟩
    rw [HB.out]
    go_wp2_with fail
    go_ret
    exact ⟨by rw [HV.out]; rfl, below_alloc _ _⟩
  have HB := Lib.hid hn
  by_cases hf1 : f < 0 ∨ 1099511627776 < f
  · have hv : mayB u f t k = false := by
      rw [mayB, hn]
      have : (decide (0 ≤ f) && decide (f ≤ 1099511627776)) = false := by simp; omega
      rw [this]; rfl
    have HV := Lib.hid hv
    have key : f < 0 ∨ (¬ f < 0 ∧ 1099511627776 < f) := by omega
    clear hv hn hf1
    rcases key with k1 | ⟨k1, k2⟩
    all_goals
      go_enter Tryd.func13, Tryd.ntmps13
      go_wp2_with fail
      refine (HN.out _).mono ?_
      rintro e w' ⟨rfl, rfl⟩
      rw [HB.out]
      go_wp2_with fail
      go_ret
      exact ⟨by rw [HV.out]; rfl, below_alloc _ _⟩
  have f1 : ¬ f < 0 := by omega
  have f2 : ¬ 1099511627776 < f := by omega
  have hm : mayB u f t k = (if t = 0 then k == [] else (decide (max f 1 ≤ t) && decide (t ≤ 1099511627776)) && (k != [] && decide (k.length ≤ 100))) := by
    rw [mayB, hn]
    have : (decide (0 ≤ f) && decide (f ≤ 1099511627776)) = true := by simp; omega
    rw [this]; rfl
  have HM := Lib.hid hm
  clear hm hn hf1
  by_cases ht0 : t = 0
  · subst ht0
    cases hk0 : k == []
    · have hv : mayB u f 0 k = false := by rw [HM.out, if_pos rfl, hk0]
      have HV := Lib.hid hv
      clear hv
      go_enter Tryd.func13, Tryd.ntmps13
      go_wp2_with fail
      refine (HN.out _).mono ?_
      rintro e w' ⟨rfl, rfl⟩
      rw [HB.out]
      go_wp2_with fail
      go_ret
      exact ⟨by rw [HV.out]; rfl, below_alloc _ _⟩
    · obtain rfl : k = [] := by simpa using hk0
      have hv : mayB u f 0 [] = true := by rw [HM.out, if_pos rfl]; rfl
      have HV := Lib.hid hv
      clear hv hk0
      go_enter Tryd.func13, Tryd.ntmps13
      go_wp2_with fail
      refine (HN.out _).mono ?_
      rintro e w' ⟨rfl, rfl⟩
      rw [HB.out]
      go_wp2_with fail
      go_ret
      exact ⟨by rw [HV.out]; rfl, below_alloc _ _⟩
  · have t0 : (t == 0) = false := by rw [beq_eq_false_iff_ne]; exact ht0
    have HT0 := Lib.hid ht0
    clear ht0
    have fin : ∀ b, ((decide (max f 1 ≤ t) && decide (t ≤ 1099511627776)) && (k != [] && decide (k.length ≤ 100))) = b → mayB u f t k = b := fun b h => by
      rw [HM.out, if_neg (by have := HT0.out; simpa using this)]; exact h
    have kl : (k = [] ∧ k.length = 0) ∨ (k ≠ [] ∧ 1 ≤ k.length) := by
      cases k with
      | nil => exact .inl ⟨rfl, rfl⟩
      | cons c r => exact .inr ⟨by simp, by simp⟩
    have key : (mayB u f t k = false ∧ (¬ 1 ≤ t ∨ (1 ≤ t ∧ ¬ f ≤ t) ∨ (1 ≤ t ∧ f ≤ t ∧ ¬ t ≤ 1099511627776) ∨ (1 ≤ t ∧ f ≤ t ∧ t ≤ 1099511627776 ∧ ¬ (1 : Int) ≤ (k.length : Int)) ∨ (1 ≤ t ∧ f ≤ t ∧ t ≤ 1099511627776 ∧ (1 : Int) ≤ (k.length : Int) ∧ ¬ (k.length : Int) ≤ 100))) ∨
        (mayB u f t k = true ∧ 1 ≤ t ∧ f ≤ t ∧ t ≤ 1099511627776 ∧ (1 : Int) ≤ (k.length : Int) ∧ (k.length : Int) ≤ 100) := by
      by_cases a1 : 1 ≤ t ∧ f ≤ t
      · by_cases a2 : t ≤ 1099511627776
        · rcases kl with ⟨k1, k2⟩ | ⟨k1, k2⟩
          · exact .inl ⟨fin _ (by simp [k1]), by omega⟩
          · by_cases a3 : k.length ≤ 100
            · exact .inr ⟨fin _ (by simp [k1, a3]; omega), by omega⟩
            · exact .inl ⟨fin _ (by simp [a3]), by omega⟩
        · exact .inl ⟨fin _ (by simp [a2]), by omega⟩
      · exact .inl ⟨fin _ (by simp; omega), by omega⟩
    clear fin kl HM
    have t0 := HT0.out
    rcases key with ⟨hv, q⟩ | ⟨hv, q1, q2, q3, q4, q5⟩
    · have HV := Lib.hid hv
      clear hv
      rcases q with q1 | ⟨q1, q2⟩ | ⟨q1, q2, q3⟩ | ⟨q1, q2, q3, q4⟩ | ⟨q1, q2, q3, q4, q5⟩
      case' inr.inr.inr.inr =>
        have q6 : decide ((k.length : Int) ≤ 100) = false := decide_eq_false q5
        have q7 : decide (k.length ≤ 100) = false := decide_eq_false (by omega)
      all_goals
        go_enter Tryd.func13, Tryd.ntmps13
        go_wp2_with fail
        refine (HN.out _).mono ?_
        rintro e w' ⟨rfl, rfl⟩
        rw [HB.out]
        go_wp2_with fail
        go_ret
        exact ⟨by rw [HV.out]; rfl, below_alloc _ _⟩
    · have HV := Lib.hid hv
      clear hv
      go_enter Tryd.func13, Tryd.ntmps13
      go_wp2_with fail
      refine (HN.out _).mono ?_
      rintro e w' ⟨rfl, rfl⟩
      rw [HB.out]
      go_wp2_with fail
      go_ret
      exact ⟨by rw [HV.out]; rfl, below_alloc _ _⟩
end Go.Proofs.YtfibplegbaanmaaDoor
