/- VersNumbers: plain facts. -/
import Derived.Test.YtdlacjdddjebgaaVOneVI
namespace Go.Proofs.Ytdlacjdddjebgaa
open Go.RowKit

/-- Numbers put at rising times. -/
def numA (i : Nat) : List Int → List VerVI
  | [] => []
  | x :: t => (((i + 1 : Nat) : Int), x, false) :: numA (i + 1) t
theorem numA_len : ∀ (i : Nat) (l : List Int), (numA i l).length = l.length
  | _, [] => rfl
  | i, _ :: t => by simp [numA, numA_len (i + 1) t]
theorem numA_at : ∀ (i : Nat) (l : List Int) (j : Nat) (h : j < (numA i l).length) (h' : j < l.length), (numA i l)[j] = (((i + j + 1 : Nat) : Int), l[j], false)
  | i, x :: t, 0, _, _ => rfl
  | i, x :: t, j + 1, h, h' => by
    simp only [numA, List.getElem_cons_succ]
    rw [numA_at (i + 1) t j (by simpa [numA] using h) (by simpa using h')]
    congr 2
    omega
theorem numA_app : ∀ (i : Nat) (l : List Int) (x : Int), numA i (l ++ [x]) = numA i l ++ [(((i + l.length + 1 : Nat) : Int), x, false)]
  | i, [], x => rfl
  | i, y :: t, x => by
    simp only [List.cons_append, numA, numA_app (i + 1) t x, List.length_cons]
    congr 4
    omega
abbrev numV (l : List Int) : List VerVI := numA 0 l
theorem numV_take {l : List Int} {k : Nat} (h : k < l.length) : numV (l.take (k + 1)) = numV (l.take k) ++ [((k : Int) + 1, l[k], false)] := by
  unfold numV
  rw [List.take_succ_eq_append_getElem h, numA_app]
  have : (l.take k).length = k := by simp; omega
  rw [this]
  simp
theorem numV_last (l : List Int) : lastTVI (numV l) = (l.length : Int) := by
  unfold lastTVI
  rw [List.getLast?_eq_getElem?, numA_len]
  cases l with
  | nil => rfl
  | cons x t =>
    have h : (x :: t).length - 1 < (numA 0 (x :: t)).length := by rw [numA_len]; simp
    rw [List.getElem?_eq_getElem h, numA_at 0 (x :: t) _ h (by simp)]
    simp
/-- The times of what is left. -/
theorem times_drop (l : List Int) (d p : Nat) (h : p < (timesVI ((numV l).drop d)).length) : (timesVI ((numV l).drop d))[p] = ((d + p + 1 : Nat) : Int) := by
  have h1 : (numA 0 l).length = l.length := numA_len 0 l
  have h2 : d + p < l.length := by
    unfold timesVI at h
    rw [List.length_map, List.length_drop, h1] at h
    omega
  have h3 : p < ((numV l).drop d).length := by rw [List.length_drop, h1]; omega
  have e : (timesVI ((numV l).drop d))[p] = (((numV l).drop d)[p]'h3).1 := by simp [timesVI]
  rw [e, List.getElem_drop]
  rw [numA_at 0 l (d + p) (by omega) h2]
  simp
theorem times_len (l : List Int) (d : Nat) : (timesVI ((numV l).drop d)).length = l.length - d := by
  unfold timesVI
  rw [List.length_map, List.length_drop, numA_len]
theorem up_drop (l : List Int) (d : Nat) (t : Int) (n : Nat) (hn : n ≤ l.length - d) (h1 : n = 0 ∨ ((d + n : Nat) : Int) ≤ t) (h2 : n = l.length - d ∨ t < ((d + n + 1 : Nat) : Int)) : upN (timesVI ((numV l).drop d)) t = n := by
  refine upN_is (by rw [times_len]; exact hn) (fun p hp hpn => ?_) (fun p hp hpn => ?_)
  · rw [times_drop]; omega
  · rw [times_drop]
    rw [times_len] at hp
    omega
theorem seen_drop (l : List Int) (d at1 : Nat) (h1 : d < at1) (h2 : at1 ≤ l.length) : seenVI ((numV l).drop d) (at1 : Int) = some (l[at1 - 1]'(by omega)) := by
  unfold seenVI
  rw [up_drop l d (at1 : Int) (at1 - d) (by omega) (.inr (by omega)) (.inr (by omega))]
  obtain ⟨m, hm⟩ : ∃ m, at1 - d = m + 1 := ⟨at1 - d - 1, by omega⟩
  have hl : m < ((numV l).drop d).length := by rw [List.length_drop, numA_len]; omega
  rw [hm, lastVI_succ hl]
  have : ((numV l).drop d)[m] = (((0 + (d + m) + 1 : Nat) : Int), l[d + m]'(by omega), false) := by
    rw [List.getElem_drop]
    exact numA_at 0 l (d + m) _ (by omega)
  rw [this]
  simp only [Bool.false_eq_true, if_false, Option.some.injEq]
  congr 1
  omega
theorem drop_num (l : List Int) (low : Int) (h : 0 < low) (d : Nat) (hd : (d : Int) = max (min low (l.length : Int) - 1) 0) : dropNVI (numV l) low = d := by
  unfold dropNVI
  have h0 := up_drop l 0 low (min low (l.length : Int)).toNat (by omega) (by omega) (by omega)
  rw [List.drop_zero] at h0
  rw [h0]
  obtain ⟨u, hu⟩ : ∃ u, u = (min low (l.length : Int)).toNat := ⟨_, rfl⟩
  rw [← hu]
  cases u with
  | zero => show 0 = d; omega
  | succ n =>
    have hn : n < (numV l).length := by rw [numA_len]; omega
    show (match (numV l)[n]? with | some v => if v.2.2 = true then n + 1 else n | none => 0) = d
    rw [List.getElem?_eq_getElem hn, numA_at 0 l n hn (by rw [numA_len] at hn; exact hn)]
    show n = d
    omega
theorem add_ok (l : List Int) (x : Int) (k : Nat) (hk : k = l.length) (h : k ≤ 200) : addCVI (numV l) 0 ((k : Int) + 1, x, false) = 0 := by
  unfold addCVI
  rw [numV_last, ← hk]
  dsimp only
  rw [if_neg (by omega), if_neg (by omega)]
theorem add_clash (l : List Int) (x : Int) (k : Nat) (hk : k + 1 = l.length) (h : k ≤ 200) : addCVI (numV l) 0 ((k : Int) + 1, x, false) = 12 := by
  unfold addCVI
  rw [numV_last, ← hk]
  dsimp only
  rw [if_neg (by omega), if_pos (by omega)]
end Go.Proofs.Ytdlacjdddjebgaa
