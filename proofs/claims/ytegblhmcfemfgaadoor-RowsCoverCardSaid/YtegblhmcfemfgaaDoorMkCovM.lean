/- Marks: stairs that cover alike are the same: plain facts. -/
import Derived.Test.YtegblhmcfemfgaaDoorMkLawM
namespace Go.Proofs.YtegblhmcfemfgaaDoor
open Go.RowKit

theorem covL_iff (l : List MarkT) (num time : Int) : covL l num time = true ↔ ∃ z ∈ l, time ≤ z.1 ∧ num < z.2 := by
  unfold covL
  rw [List.any_eq_true]
  constructor
  · rintro ⟨z, h1, h2⟩; exact ⟨z, h1, by simpa using h2⟩
  · rintro ⟨z, h1, h2⟩; exact ⟨z, h1, by simpa using h2⟩
theorem covL_all (l : List MarkT) (num time : Int) : covL l num time = true ↔ ∃ z ∈ l, time ≤ z.1 ∧ num < z.2 := covL_iff l num time
/-- The rest of a stair, by the whole. -/
theorem covL_rest {x : MarkT} {s : List MarkT} (h : (x :: s).Pairwise (fun a b => b.1 < a.1 ∧ a.2 < b.2)) (num time : Int) : covL s num time = covL (x :: s) (max num x.2) time := by
  rw [Bool.eq_iff_iff, covL_iff, covL_iff]
  have hx := (List.pairwise_cons.1 h).1
  constructor
  · rintro ⟨z, hz, h1, h2⟩
    have := hx z hz
    exact ⟨z, by simp [hz], h1, by omega⟩
  · rintro ⟨z, hz, h1, h2⟩
    rcases List.mem_cons.1 hz with rfl | hz
    · omega
    · exact ⟨z, hz, h1, by omega⟩
theorem stair_head {x y : MarkT} {t : List MarkT} (h : (y :: t).Pairwise (fun a b => b.1 < a.1 ∧ a.2 < b.2)) (hc : covL (y :: t) (x.2 - 1) x.1 = true) : x.1 ≤ y.1 ∧ (x.1 = y.1 → x.2 ≤ y.2) := by
  obtain ⟨z, hz, h1, h2⟩ := (covL_iff _ _ _).1 hc
  have hy := (List.pairwise_cons.1 h).1
  rcases List.mem_cons.1 hz with rfl | hz
  · exact ⟨h1, fun _ => by omega⟩
  · have := hy z hz
    exact ⟨by omega, fun e => by omega⟩
theorem stair_ext : ∀ {a b : List MarkT}, a.Pairwise (fun a b => b.1 < a.1 ∧ a.2 < b.2) → b.Pairwise (fun a b => b.1 < a.1 ∧ a.2 < b.2) → (∀ num time, covL a num time = covL b num time) → a = b
  | [], [], _, _, _ => rfl
  | [], y :: t, _, _, h => by
    have := h (y.2 - 1) y.1
    have h2 : covL (y :: t) (y.2 - 1) y.1 = true := (covL_iff _ _ _).2 ⟨y, by simp, Int.le_refl _, by omega⟩
    rw [h2] at this
    simp [covL] at this
  | x :: s, [], _, _, h => by
    have := h (x.2 - 1) x.1
    have h2 : covL (x :: s) (x.2 - 1) x.1 = true := (covL_iff _ _ _).2 ⟨x, by simp, Int.le_refl _, by omega⟩
    rw [h2] at this
    simp [covL] at this
  | x :: s, y :: t, ha, hb, h => by
    have h1 : covL (x :: s) (x.2 - 1) x.1 = true := (covL_iff _ _ _).2 ⟨x, by simp, Int.le_refl _, by omega⟩
    have h2 : covL (y :: t) (y.2 - 1) y.1 = true := (covL_iff _ _ _).2 ⟨y, by simp, Int.le_refl _, by omega⟩
    rw [h] at h1
    rw [← h] at h2
    obtain ⟨p1, p2⟩ := stair_head (x := x) hb h1
    obtain ⟨q1, q2⟩ := stair_head (x := y) ha h2
    have e1 : x.1 = y.1 := by omega
    have e2 : x.2 = y.2 := by
      have := p2 e1
      have := q2 e1.symm
      omega
    obtain rfl : x = y := Prod.ext e1 e2
    congr 1
    exact stair_ext (List.pairwise_cons.1 ha).2 (List.pairwise_cons.1 hb).2 (fun num time => by rw [covL_rest ha, covL_rest hb, h])
/-- A mark laid among others: a stair, whatever its length. -/
theorem new_ok {l : List MarkT} {m : MarkT} (hl : MayL l) (hd : l.any (fun x => domB x m) = false) :
    (insM m (leftM m l)).Pairwise (fun a b => b.1 < a.1 ∧ a.2 < b.2) ∧ ∀ num time, covL (insM m (leftM m l)) num time = (covL l num time || decide (time ≤ m.1 ∧ num < m.2)) := by
  refine ⟨?_, fun num time => ?_⟩
  · refine insM_stair ((stair_pairs hl.1).filter _) (fun x hx => ?_)
    obtain ⟨h1, h2⟩ := List.mem_filter.1 hx
    exact ⟨by have := List.any_eq_false.1 hd x h1; simpa using this, by simpa using h2⟩
  · rw [covL_perm (insM_perm m _), Bool.eq_iff_iff]
    unfold covL leftM
    simp only [List.any_cons, Bool.or_eq_true, decide_eq_true_eq, List.any_eq_true, List.mem_filter, domB, Bool.not_eq_true', decide_eq_false_iff_not]
    constructor
    · rintro (h | ⟨x, ⟨hx, _⟩, h⟩)
      · exact .inr h
      · exact .inl ⟨x, hx, h⟩
    · rintro (⟨x, hx, h⟩ | h)
      · by_cases hxd : x.1 ≤ m.1 ∧ x.2 ≤ m.2
        · exact .inl ⟨by omega, by omega⟩
        · exact .inr ⟨x, ⟨hx, hxd⟩, h⟩
      · exact .inl h
/-- Told twice it is the same. -/
theorem add_twice {l a : List MarkT} {m : MarkT} (h : addL l m = (a, 0)) : addL a m = (a, 0) := by
  obtain ⟨_, hm, ha, hc⟩ := addL_ok h
  have h1 : covL a (m.2 - 1) m.1 = true := by
    rw [hc, Bool.or_eq_true]
    exact .inr (decide_eq_true ⟨Int.le_refl _, by omega⟩)
  obtain ⟨z, hz, z1, z2⟩ := (covL_iff _ _ _).1 h1
  refine addL_dom (mayL_yes ha) hm (List.any_eq_true.2 ⟨z, hz, ?_⟩)
  unfold domB
  exact decide_eq_true ⟨z1, by omega⟩
/-- In whichever order two are told. -/
theorem add_swap {l a c d : List MarkT} {m o : MarkT} (h1 : addL l m = (a, 0)) (h2 : addL a o = (c, 0)) (h3 : addL l o = (d, 0)) : addL d m = (c, 0) := by
  obtain ⟨_, hm, _, hca⟩ := addL_ok h1
  obtain ⟨_, _, hc, hcc⟩ := addL_ok h2
  obtain ⟨_, _, hd, hcd⟩ := addL_ok h3
  have hall : ∀ num time, covL c num time = (covL d num time || decide (time ≤ m.1 ∧ num < m.2)) := fun num time => by
    rw [hcc, hca, hcd, Bool.or_assoc, Bool.or_assoc, Bool.or_comm (decide (time ≤ m.1 ∧ num < m.2))]
  cases hx : d.any (fun x => domB x m) with
  | true =>
    have e : d = c := stair_ext (stair_pairs hd.1) (stair_pairs hc.1) (fun num time => by
      rw [hall]
      by_cases hh : time ≤ m.1 ∧ num < m.2
      · obtain ⟨x, hxm, hxd⟩ := List.any_eq_true.1 hx
        simp only [domB, decide_eq_true_eq] at hxd
        have : covL d num time = true := (covL_iff _ _ _).2 ⟨x, hxm, by omega, by omega⟩
        rw [this, Bool.true_or]
      · rw [decide_eq_false hh, Bool.or_false])
    rw [addL_dom (mayL_yes hd) hm hx, e]
  | false =>
    obtain ⟨g1, g2⟩ := new_ok hd hx
    have e : insM m (leftM m d) = c := stair_ext g1 (stair_pairs hc.1) (fun num time => by rw [g2, hall])
    have hl : (leftM m d).length + 1 ≤ 8 := by
      have := congrArg List.length e
      rw [insM_len] at this
      have := hc.2
      omega
    rw [addL_new (mayL_yes hd) hm hx (by omega), e]
end Go.Proofs.YtegblhmcfemfgaaDoor
