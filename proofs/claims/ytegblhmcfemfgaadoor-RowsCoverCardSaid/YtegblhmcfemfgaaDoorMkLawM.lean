/- A mark more: plain facts. -/
import Derived.Test.YtegblhmcfemfgaaDoorMkMath
namespace Go.Proofs.YtegblhmcfemfgaaDoor
open Go.RowKit

theorem stair_of {l : List MarkT} (h1 : ∀ m ∈ l, mayB m = true) (h2 : l.Pairwise (fun a b => b.1 < a.1 ∧ a.2 < b.2)) : StairK l l.length := by
  intro i hi _
  refine ⟨h1 _ (List.getElem_mem hi), fun j hj e => ?_⟩
  have := List.pairwise_iff_getElem.1 h2 j i hj hi (by omega)
  unfold nextB
  exact decide_eq_true this
theorem insM_stair {m : MarkT} : ∀ {l : List MarkT}, l.Pairwise (fun a b => b.1 < a.1 ∧ a.2 < b.2) → (∀ x ∈ l, domB x m = false ∧ domB m x = false) → (insM m l).Pairwise (fun a b => b.1 < a.1 ∧ a.2 < b.2)
  | [], _, _ => by simp [insM]
  | x :: t, h, hn => by
    obtain ⟨h1, h2⟩ := List.pairwise_cons.1 h
    obtain ⟨n1, n2⟩ := hn x (by simp)
    simp only [domB, decide_eq_false_iff_not] at n1 n2
    unfold insM
    split
    · next e =>
      refine List.pairwise_cons.2 ⟨fun y hy => ?_, h⟩
      rcases List.mem_cons.1 hy with rfl | hy
      · exact ⟨e, by omega⟩
      · have := h1 y hy
        exact ⟨by omega, by omega⟩
    · next e =>
      refine List.pairwise_cons.2 ⟨fun y hy => ?_, insM_stair h2 (fun z hz => hn z (by simp [hz]))⟩
      have := (insM_perm m t).mem_iff.1 hy
      rcases List.mem_cons.1 this with rfl | hy
      · exact ⟨by omega, by omega⟩
      · exact h1 y hy
theorem covL_perm {a b : List MarkT} (h : a.Perm b) (num time : Int) : covL a num time = covL b num time := by
  unfold covL
  rw [Bool.eq_iff_iff, List.any_eq_true, List.any_eq_true]
  constructor
  · rintro ⟨x, hx, h2⟩; exact ⟨x, h.mem_iff.1 hx, h2⟩
  · rintro ⟨x, hx, h2⟩; exact ⟨x, h.mem_iff.2 hx, h2⟩
theorem addL_cases (l : List MarkT) (m : MarkT) : addL l m = ([], 4) ∨ addL l m = ([], 17) ∨
    (MayL l ∧ mayB m = true ∧ ((l.any (fun x => domB x m) = true ∧ addL l m = (l, 0)) ∨ (l.any (fun x => domB x m) = false ∧ (leftM m l).length + 1 ≤ 8 ∧ addL l m = (insM m (leftM m l), 0)))) := by
  cases h1 : mayLk l with
  | false => exact .inl (addL_bad (.inl h1))
  | true =>
    cases h2 : mayB m with
    | false => exact .inl (addL_bad (.inr h2))
    | true =>
      cases h3 : l.any (fun x => domB x m) with
      | true => exact .inr (.inr ⟨mayLk_of h1, rfl, .inl ⟨rfl, addL_dom h1 h2 h3⟩⟩)
      | false =>
        by_cases h4 : 8 < (leftM m l).length + 1
        · exact .inr (.inl (addL_many h1 h2 h3 h4))
        · exact .inr (.inr ⟨mayLk_of h1, rfl, .inr ⟨rfl, by omega, addL_new h1 h2 h3 h4⟩⟩)
/-- Marks with one more: they may be; just what was covered is, or what the mark covers. -/
theorem addL_ok {l r : List MarkT} {m : MarkT} (h : addL l m = (r, 0)) : MayL l ∧ mayB m = true ∧ MayL r ∧ ∀ num time, covL r num time = (covL l num time || decide (time ≤ m.1 ∧ num < m.2)) := by
  rcases addL_cases l m with h' | h' | ⟨hl, hm, ⟨hd, h'⟩ | ⟨hd, h8, h'⟩⟩
  · rw [h'] at h; simp at h
  · rw [h'] at h; simp at h
  · rw [h'] at h
    obtain rfl : l = r := by simpa using h
    refine ⟨hl, hm, hl, fun num time => ?_⟩
    by_cases hc : time ≤ m.1 ∧ num < m.2
    · rw [decide_eq_true hc, Bool.or_true]
      obtain ⟨x, hx, hxd⟩ := List.any_eq_true.1 hd
      simp only [domB, decide_eq_true_eq] at hxd
      unfold covL
      exact List.any_eq_true.2 ⟨x, hx, decide_eq_true ⟨by omega, by omega⟩⟩
    · rw [decide_eq_false hc, Bool.or_false]
  · rw [h'] at h
    obtain rfl : insM m (leftM m l) = r := by simpa using h
    refine ⟨hl, hm, ⟨stair_of ?_ ?_, by rw [insM_len]; exact h8⟩, fun num time => ?_⟩
    · intro x hx
      rcases List.mem_cons.1 ((insM_perm m _).mem_iff.1 hx) with rfl | hx
      · exact hm
      · exact stair_may hl.1 x (List.mem_filter.1 hx).1
    · refine insM_stair ((stair_pairs hl.1).filter _) (fun x hx => ?_)
      obtain ⟨h1, h2⟩ := List.mem_filter.1 hx
      exact ⟨by have := List.any_eq_false.1 hd x h1; simpa using this, by simpa using h2⟩
    · rw [covL_perm (insM_perm m _), Bool.eq_iff_iff]
      unfold covL leftM
      simp only [List.any_cons, Bool.or_eq_true, decide_eq_true_eq, List.any_eq_true, List.mem_filter, domB, Bool.not_eq_true', decide_eq_false_iff_not]
      constructor
      · rintro (h | ⟨x, ⟨hx, _⟩, h⟩)
        · exact .inr h
        · exact .inl ⟨x, hx, h⟩
      · rintro (⟨x, hx, h⟩ | h)
        · by_cases hxd : x.1 ≤ m.1 ∧ x.2 ≤ m.2
          · exact .inl ⟨by omega, by omega⟩
          · exact .inr ⟨x, ⟨hx, hxd⟩, h⟩
        · exact .inl h
theorem mayL_nil : MayL [] := ⟨fun i hi => absurd hi (Nat.not_lt_zero _), by decide⟩
end Go.Proofs.YtegblhmcfemfgaaDoor
