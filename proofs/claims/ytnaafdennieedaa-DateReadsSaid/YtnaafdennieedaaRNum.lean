/- Layer 5: plain facts: the document's digits are the reader's number. -/
import Derived.Test.YtnaafdennieedaaRZone
namespace Go.Proofs.Ytnaafdennieedaa
open Go.RowKit

theorem dgB_mem (c : UInt8) : dgB c = true ↔ c ∈ digs := by
  unfold dgB
  simp only [Bool.and_eq_true, decide_eq_true_eq]
  constructor
  · intro h
    have e : c = UInt8.ofNat c.toNat := by simp
    have : c.toNat = 48 ∨ c.toNat = 49 ∨ c.toNat = 50 ∨ c.toNat = 51 ∨ c.toNat = 52 ∨ c.toNat = 53 ∨ c.toNat = 54 ∨ c.toNat = 55 ∨ c.toNat = 56 ∨ c.toNat = 57 := by omega
    rcases this with h | h | h | h | h | h | h | h | h | h <;> rw [e, h] <;> decide
  · intro h
    have h2 : ∀ c ∈ digs, 48 ≤ c.toNat ∧ c.toNat ≤ 57 := by decide
    exact h2 c h
theorem sgn_dig (t : List UInt8) (p : Nat) (z : Bool) : sgnF digs t p z = if p < t.length ∧ dgB (pk t p) = true then (pk t p, p + 1, z) else (0, p, true) := by
  unfold sgnF
  by_cases h : p < t.length ∧ dgB (pk t p) = true
  · rw [if_pos h, if_pos ⟨h.1, (dgB_mem _).1 h.2⟩]
  · rw [if_neg h, if_neg (fun g => h ⟨g.1, (dgB_mem _).2 g.2⟩)]
theorem numF_rdg (t : List UInt8) : ∀ (wd p : Nat) (v : Int), 0 ≤ v →
    (p + wd ≤ t.length ∧ 0 ≤ rdg t wd p v → numF t wd v p false = (rdg t wd p v, p + wd, false)) ∧ (¬ (p + wd ≤ t.length ∧ 0 ≤ rdg t wd p v) → p ≤ t.length → (numF t wd v p false).2.2 = true)
  | 0, p, v, hv => ⟨fun _ => rfl, fun h hp => absurd ⟨by omega, hv⟩ h⟩
  | wd + 1, p, v, hv => by
    have es := sgn_dig t p false
    rw [numF_succ, rdg_succ]
    by_cases hlt : p < t.length
    · by_cases hd : dgB (pk t p) = true
      · have h48 : 48 ≤ (pk t p).toNat := by
          have := hd
          unfold dgB at this
          simp only [Bool.and_eq_true, decide_eq_true_eq] at this
          exact this.1
        rw [if_pos ⟨hlt, hd⟩] at es
        rw [es, if_pos hd]
        simp only
        have ih := numF_rdg t wd (p + 1) (10 * v + ((pk t p).toNat : Int) - 48) (by omega)
        rw [show p + (wd + 1) = p + 1 + wd by omega]
        exact ⟨ih.1, fun h _ => ih.2 h hlt⟩
      · rw [if_neg (fun g => hd g.2)] at es
        rw [es, if_neg hd]
        simp only
        refine ⟨fun h => absurd h.2 (by omega), fun _ _ => ?_⟩
        exact numF_bad t wd _ _
    · rw [if_neg (fun g => hlt g.1)] at es
      rw [es]
      simp only
      refine ⟨fun h => absurd h.1 (by omega), fun _ _ => ?_⟩
      exact numF_bad t wd _ _
/-- A number read: as the document reads its digits, or nothing. -/
theorem num_ref (t : List UInt8) (wd p : Nat) (hp : p ≤ t.length) :
    (0 ≤ rdgR t p wd ∧ p + wd ≤ t.length ∧ numF t wd 0 p false = (rdgR t p wd, p + wd, false)) ∨ (rdgR t p wd < 0 ∧ (numF t wd 0 p false).2.2 = true) := by
  have h := numF_rdg t wd p 0 (by omega)
  unfold rdgR
  by_cases g : p + wd ≤ t.length
  · rw [if_pos g]
    by_cases g2 : 0 ≤ rdg t wd p 0
    · exact .inl ⟨g2, g, h.1 ⟨g, g2⟩⟩
    · exact .inr ⟨by omega, h.2 (fun x => g2 x.2) hp⟩
  · rw [if_neg g]
    exact .inr ⟨by omega, h.2 (fun x => g x.1) hp⟩
end Go.Proofs.Ytnaafdennieedaa
