/- Layer 5: date's Net is the document's, plainly. -/
import Derived.Test.YtnaafdennieedaaRNetZ
namespace Go.Proofs.Ytnaafdennieedaa
open Go.RowKit

theorem nz_lt {t : List UInt8} {p : Nat} {z : Bool} (h : (nzF t p z).2.2 = false) : p < t.length := by
  unfold nzF at h
  dsimp only at h
  split at h
  · exact (sgn_up rfl h).2.1
  · unfold offZ at h
    rw [Bool.or_eq_false_iff] at h
    exact (sgn_up rfl (num_flag (sgn_up rfl (num_flag h.1)).1)).2.1
/-- What the document's Net tells. -/
def rnetR (t : List UInt8) : Int × Int :=
  match rofO (t.drop (frE t)) with
  | some o => mres (rdgR t 0 4) (rdgR t 5 2) (rdgR t 8 2) (rdgR t 11 2) (rdgR t 14 2) (rdgR t 17 2) o
  | none => (0, 4)
theorem net_yes (t : List UInt8) (h20 : 20 ≤ t.length) (H : rhdC t) (hf : frE t ≠ 20) : netR t = rnetR t := by
  rw [netR_yes t H]
  rcases frac_ref t h20 with ⟨_, f2⟩ | ⟨f1, _⟩
  · rw [f2]
    dsimp only
    unfold rnetR
    cases ho : rofO (t.drop (frE t)) with
    | some o =>
      rw [nz_some t (frE t) (frE_le t h20) o ho]
      exact secR_len t _ _ _ _ _ _ _
    | none =>
      unfold secR
      rw [if_pos]
      cases hz : (nzF t (frE t) false).2.2 with
      | true => exact .inl rfl
      | false =>
        right
        intro hl
        obtain ⟨o, e⟩ := nz_back t (frE t) (frE_le t h20) hz hl
        rw [ho] at e
        cases e
  · exact (hf f1).elim
theorem net_no (t : List UInt8) (h : ¬ (20 ≤ t.length ∧ rhdC t ∧ frE t ≠ 20)) : netR t = (0, 4) := by
  by_cases H : rhdC t
  · rw [netR_yes t H]
    unfold secR
    rw [if_pos]
    left
    by_cases h20 : 20 ≤ t.length
    · rcases frac_ref t h20 with ⟨f1, _⟩ | ⟨_, f2⟩
      · exact (h ⟨h20, H, f1⟩).elim
      · cases hz : (nzF t (fracF t 19 false).1 (fracF t 19 false).2).2.2 with
        | true => rfl
        | false => rw [nz_flag hz] at f2; cases f2
    · have h19 : t.length = 19 := by have := H.1; omega
      have e : fracF t 19 false = (19, false) := if_neg (by rw [← h19, pk_end]; decide)
      rw [e]
      cases hz : (nzF t 19 false).2.2 with
      | true => rfl
      | false => have := nz_lt hz; omega
  · exact netR_no t H
end Go.Proofs.Ytnaafdennieedaa
