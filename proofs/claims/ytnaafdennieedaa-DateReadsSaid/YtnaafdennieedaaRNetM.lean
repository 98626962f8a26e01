/- Layer 5: what hblref1.Net tells, plainly. -/
import Derived.Test.YtnaafdennieedaaRZone
import Derived.Test.YtnaafdennieedaaRNum
namespace Go.Proofs.Ytnaafdennieedaa
open Go.RowKit

/-- Where the zone begins. -/
def frE (t : List UInt8) : Nat := if pk t 19 = 46 then skipD t 20 else 19
/-- The zone's seconds. -/
def rofO (z : List UInt8) : Option Int :=
  if z = [90] ∨ z = [122] then some 0 else
  if z.length = 6 ∧ (pk z 0 = 43 ∨ pk z 0 = 45) ∧ pk z 3 = 58 ∧ roffB (rdgR z 1 2) (rdgR z 4 2) = true then some (offV (pk z 0) (rdgR z 1 2) (rdgR z 4 2)) else none
theorem skipD_from (t : List UInt8) (p : Nat) : p ≤ skipD t p := by unfold skipD; omega
theorem frE_ge (t : List UInt8) : 19 ≤ frE t := by
  unfold frE
  split
  · have := skipD_from t 20; omega
  · omega
theorem frE_le (t : List UInt8) (h : 20 ≤ t.length) : frE t ≤ t.length := by
  unfold frE
  split
  · exact skipD_le t 20 h
  · omega
theorem rdg_neg (t : List UInt8) : ∀ (k p : Nat) (v : Int), 0 ≤ v → -1 ≤ rdg t k p v
  | 0, _, v, h => by show -1 ≤ v; omega
  | k + 1, p, v, h => by
    rw [rdg_succ]
    split
    · rename_i g
      have : 48 ≤ (pk t p).toNat := by unfold dgB at g; simp at g; omega
      exact rdg_neg t k (p + 1) _ (by omega)
    · omega
/-- One digit. -/
theorem rdg_one (t : List UInt8) (p : Nat) (hp : p < t.length) : (0 ≤ rdgR t p 1) ↔ dgB (pk t p) = true := by
  unfold rdgR
  rw [if_pos (by omega), rdg_succ]
  by_cases g : dgB (pk t p) = true
  · rw [if_pos g]
    have : 48 ≤ (pk t p).toNat := by unfold dgB at g; simp at g; omega
    show 0 ≤ 10 * 0 + ((pk t p).toNat : Int) - 48 ↔ _
    exact ⟨fun _ => g, fun _ => by omega⟩
  · rw [if_neg g]
    exact ⟨fun h => by omega, fun h => absurd h g⟩
theorem sgn_up {of t : List UInt8} {p : Nat} {z : Bool} {r : UInt8 × Nat × Bool} (e : sgnF of t p z = r) (h : r.2.2 = false) : z = false ∧ p < t.length ∧ pk t p ∈ of ∧ r.1 = pk t p ∧ r.2.1 = p + 1 := by
  subst e
  unfold sgnF at h ⊢
  by_cases g : p < t.length ∧ pk t p ∈ of
  · rw [if_pos g] at h ⊢
    exact ⟨h, g.1, g.2, rfl, rfl⟩
  · rw [if_neg g] at h
    cases h
theorem num_flag {t : List UInt8} : ∀ {k : Nat} {n : Int} {p : Nat} {z : Bool}, (numF t k n p z).2.2 = false → z = false
  | 0, _, _, _, h => h
  | _ + 1, _, _, _, h => by
    rw [numF_succ] at h
    exact (sgn_up rfl (num_flag h)).1
/-- A number read, and nothing bad: as the document reads it. -/
theorem num_up {t : List UInt8} {k p : Nat} {z : Bool} {r : Int × Nat × Bool} (e : numF t k 0 p z = r) (hp : p ≤ t.length) (h : r.2.2 = false) : z = false ∧ 0 ≤ rdgR t p k ∧ p + k ≤ t.length ∧ r.1 = rdgR t p k ∧ r.2.1 = p + k := by
  subst e
  have hz := num_flag h
  subst hz
  rcases num_ref t k p hp with ⟨a, b, c⟩ | ⟨_, c⟩
  · rw [c]
    exact ⟨rfl, a, b, rfl, rfl⟩
  · rw [c] at h
    cases h
end Go.Proofs.Ytnaafdennieedaa
