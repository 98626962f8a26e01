/- In a seat without the reader of texts. -/
import Derived.Test.YtjnejbeeoepdnaaDoorTRound
namespace Go.Proofs.YtjnejbeeoepdnaaDoor
open Go.RowKit


def slN (l : List UInt8) : Nat := (l.filter fun c => decide (qb c ≠ [c])).length
theorem slN_snoc (l : List UInt8) (c : UInt8) : slN (l ++ [c]) = slN l + if qb c ≠ [c] then 1 else 0 := by
  unfold slN
  rw [List.filter_append, List.length_append]
  by_cases h : qb c = [c] <;> simp [h]
theorem slN_le (l : List UInt8) : slN l ≤ l.length := List.length_filter_le _ _
theorem qb_len1 (c : UInt8) (h : qb c ≠ [c]) : 2 ≤ (qb c).length := by
  unfold qb at h ⊢
  split
  · simp
  split
  · simp
  · next h1 h2 => rw [if_neg h1, if_neg h2] at h; exact absurd rfl h
theorem slN_zero : ∀ l : List UInt8, slN l = 0 → qbL l = l
  | [], _ => rfl
  | c :: t, h => by
    unfold slN at h
    rw [List.filter_cons] at h
    split at h
    · simp at h
    · next hc =>
      have := slN_zero t h
      have hc' : qb c = [c] := by simpa using hc
      simp only [qbL, List.flatMap_cons] at this ⊢
      rw [this, hc']; rfl
theorem slN_pos : ∀ l : List UInt8, l.length + slN l ≤ (qbL l).length
  | [] => by simp [slN, qbL]
  | c :: t => by
    have ih := slN_pos t
    unfold slN at ih ⊢
    rw [List.filter_cons]
    simp only [qbL, List.flatMap_cons, List.length_append, List.length_cons] at ih ⊢
    split
    · next hc =>
      have := qb_len1 c (by simpa using hc)
      simp only [List.length_cons]; omega
    · next hc =>
      have hc' : qb c = [c] := by simpa using hc
      rw [hc']; simp only [List.length_cons, List.length_nil]; omega

/-- Great digits of 16. -/
def hexU (n : Nat) : UInt8 := [48, 49, 50, 51, 52, 53, 54, 55, 56, 57, 65, 66, 67, 68, 69, 70].getD n 0
theorem hexU_cut : ∀ m : Fin 16, (ByteArray.mk #[48, 49, 50, 51, 52, 53, 54, 55, 56, 57, 65, 66, 67, 68, 69, 70]).extract m.val (m.val + 1) = ByteArray.mk [hexU m.val].toArray := by decide +kernel
theorem hexS_cut : ∀ m : Fin 16, (ByteArray.mk #[48, 49, 50, 51, 52, 53, 54, 55, 56, 57, 97, 98, 99, 100, 101, 102]).extract m.val (m.val + 1) = ByteArray.mk [hexS m.val].toArray := by decide +kernel

end Go.Proofs.YtjnejbeeoepdnaaDoor
