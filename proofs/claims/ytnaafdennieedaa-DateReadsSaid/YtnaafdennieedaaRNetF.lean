/- Layer 5: the fraction and the zone of a time, as the document reads them. -/
import Derived.Test.YtnaafdennieedaaRNetN
namespace Go.Proofs.Ytnaafdennieedaa
open Go.RowKit

theorem frac_ref (t : List UInt8) (h : 20 ≤ t.length) : (frE t ≠ 20 ∧ fracF t 19 false = (frE t, false)) ∨ (frE t = 20 ∧ (fracF t 19 false).2 = true) := by
  unfold fracF frE
  by_cases k : pk t 19 = 46
  · rw [if_pos k, if_pos k]
    rcases num_ref t 1 20 h with ⟨a, b, c⟩ | ⟨a, c⟩
    · left
      rw [show (19 + 1 : Nat) = 20 from rfl, c]
      obtain ⟨_, e⟩ := skipD_yes t 20 ((rdg_one t 20 (by omega)).1 a)
      have := skipD_from t (20 + 1)
      exact ⟨by rw [e]; omega, by rw [e]⟩
    · right
      refine ⟨skipD_no t 20 h ?_, c⟩
      by_cases hlt : 20 < t.length
      · have := rdg_one t 20 hlt
        cases hd : dgB (pk t 20) with
        | false => rfl
        | true => have := this.2 hd; omega
      · obtain h' : t.length = 20 := by omega
        rw [← h', pk_end]
        rfl
  · rw [if_neg k, if_neg k]
    exact .inl ⟨by decide, rfl⟩
theorem pk_drop (t : List UInt8) (p i : Nat) : pk (t.drop p) i = pk t (p + i) := by
  unfold pk
  rw [List.getD_eq_getElem?_getD, List.getD_eq_getElem?_getD, List.getElem?_drop]
theorem rdg_drop (t : List UInt8) (p : Nat) : ∀ (k i : Nat) (v : Int), rdg (t.drop p) k i v = rdg t k (p + i) v
  | 0, _, _ => rfl
  | k + 1, i, v => by
    rw [rdg_succ, rdg_succ, pk_drop, rdg_drop t p k]
    rfl
theorem rdgR_drop (t : List UInt8) (p i k : Nat) (hp : p ≤ t.length) : rdgR (t.drop p) i k = rdgR t (p + i) k := by
  unfold rdgR
  rw [rdg_drop, List.length_drop]
  by_cases h : p + i + k ≤ t.length
  · rw [if_pos h, if_pos (by omega)]
  · rw [if_neg h, if_neg (by omega)]
end Go.Proofs.Ytnaafdennieedaa
