/- Versions: how many are not above a time: plain facts. -/
import Derived.Test.YtdlacjdddjebgaaRdV
import Derived.Test.YtdlacjdddjebgaaMrgMath
import Derived.Test.YtdlacjdddjebgaaRowsF
namespace Go.Proofs.Ytdlacjdddjebgaa
open Go.RowKit

/-- How many are not above a time. -/
def upN (l : List Int) (t : Int) : Nat := (l.filter (fun a => decide (a ≤ t))).length
/-- Times rise. -/
def RisT (l : List Int) : Prop := l.Pairwise (fun a b => a < b)
theorem upN_is {l : List Int} {t : Int} {n : Nat} (hn : n ≤ l.length) (h1 : ∀ p (h : p < l.length), p < n → l[p] ≤ t) (h2 : ∀ p (h : p < l.length), n ≤ p → t < l[p]) : upN l t = n := by
  unfold upN
  rw [← List.take_append_drop n l, List.filter_append, List.filter_eq_self.2, List.filter_eq_nil_iff.2]
  · simp; omega
  · intro a ha
    obtain ⟨i, hi, rfl⟩ := List.mem_iff_getElem.1 ha
    rw [List.length_drop] at hi
    rw [List.getElem_drop]
    have := h2 (n + i) (by omega) (by omega)
    simp; omega
  · intro a ha
    obtain ⟨i, hi, rfl⟩ := List.mem_iff_getElem.1 ha
    rw [List.length_take] at hi
    rw [List.getElem_take]
    have := h1 i (by omega) (by omega)
    simpa using this
theorem upN_le (l : List Int) (t : Int) : upN l t ≤ l.length := List.length_filter_le _ _
theorem risT_at {l : List Int} (h : RisT l) {i j : Nat} (hi : i < l.length) (hj : j < l.length) (hij : i < j) : l[i] < l[j] := List.pairwise_iff_getElem.1 h i j hi hj hij
/-- In a rising list they are the first ones. -/
theorem upN_spec : ∀ {l : List Int} (_ : RisT l) (t : Int), (∀ p (h : p < l.length), p < upN l t → l[p] ≤ t) ∧ (∀ p (h : p < l.length), upN l t ≤ p → t < l[p])
  | [], _, t => ⟨fun p h => absurd h (Nat.not_lt_zero _), fun p h => absurd h (Nat.not_lt_zero _)⟩
  | a :: l, hr, t => by
    obtain ⟨r1, r2⟩ := List.pairwise_cons.1 hr
    obtain ⟨i1, i2⟩ := upN_spec (l := l) r2 t
    by_cases ha : a ≤ t
    · have e : upN (a :: l) t = upN l t + 1 := by unfold upN; simp [ha]
      rw [e]
      refine ⟨fun p h hp => ?_, fun p h hp => ?_⟩
      · match p, h with
        | 0, _ => exact ha
        | p + 1, h => exact i1 p (by simpa using h) (by omega)
      · match p, h with
        | 0, _ => omega
        | p + 1, h => exact i2 p (by simpa using h) (by omega)
    · have e0 : upN l t = 0 := by
        unfold upN
        rw [List.length_eq_zero_iff, List.filter_eq_nil_iff]
        intro b hb
        have := r1 b hb
        simp; omega
      have e : upN (a :: l) t = 0 := by unfold upN at e0 ⊢; simp [ha]; simpa using e0
      rw [e]
      refine ⟨fun p h hp => by omega, fun p h hp => ?_⟩
      match p, h with
      | 0, _ => simp; omega
      | p + 1, h => exact i2 p (by simpa using h) (by omega)
end Go.Proofs.Ytdlacjdddjebgaa
