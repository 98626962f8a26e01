/- Layer 5: a time's zone, as the document reads it. -/
import Derived.Test.YtnaafdennieedaaRNetF
namespace Go.Proofs.Ytnaafdennieedaa
open Go.RowKit

theorem nz_some (t : List UInt8) (p : Nat) (hp : p ≤ t.length) (o : Int) (h : rofO (t.drop p) = some o) : nzF t p false = (o, t.length, false) := by
  have e0 : pk (t.drop p) 0 = pk t p := by rw [pk_drop]; rfl
  unfold rofO at h
  split at h
  · rename_i h1
    cases h
    have hl : t.length = p + 1 := by
      have : (t.drop p).length = 1 := by rcases h1 with h | h <;> rw [h] <;> rfl
      rw [List.length_drop] at this; omega
    have hc : pk t p = 90 ∨ pk t p = 122 := by
      rw [← e0]
      rcases h1 with h | h
      · left; rw [h]; rfl
      · right; rw [h]; rfl
    have es : sgnF [90, 122, 43, 45] t p false = (pk t p, p + 1, false) := sgn_on (by omega) (by rcases hc with h | h <;> rw [h] <;> decide)
    unfold nzF
    simp only [es]
    rw [if_pos hc, hl]
  · split at h
    · rename_i h1 h2
      cases h
      obtain ⟨a1, a2, a3, a4⟩ := h2
      rw [List.length_drop] at a1
      rw [e0] at a2 ⊢
      rw [pk_drop] at a3
      rw [rdgR_drop t p _ _ hp, rdgR_drop t p _ _ hp] at a4 ⊢
      unfold roffB at a4
      rw [decide_eq_true_eq] at a4
      have es : sgnF [90, 122, 43, 45] t p false = (pk t p, p + 1, false) := sgn_on (by omega) (by rcases a2 with h | h <;> rw [h] <;> decide)
      have en : numF t 2 0 (p + 1) false = (rdgR t (p + 1) 2, p + 3, false) := num_hit (by omega) a4.1
      have ek : sgnF [58] t (p + 3) false = (pk t (p + 3), p + 4, false) := sgn_on (by omega) (by rw [a3]; decide)
      have em : numF t 2 0 (p + 4) false = (rdgR t (p + 4) 2, p + 6, false) := num_hit (by omega) a4.2.2.1
      have hno : ¬ (pk t p = 90 ∨ pk t p = 122) := by rcases a2 with h | h <;> rw [h] <;> decide
      unfold nzF
      simp only [es, en, ek, em]
      rw [if_neg hno]
      unfold offZ
      rw [decide_eq_false (by omega : ¬ 23 < rdgR t (p + 1) 2), decide_eq_false (by omega : ¬ 59 < rdgR t (p + 4) 2), show t.length = p + 6 by omega]
      rfl
    · cases h
theorem nz_back (t : List UInt8) (p : Nat) (hp : p ≤ t.length) (h : (nzF t p false).2.2 = false) (hl : (nzF t p false).2.1 = t.length) : ∃ o, rofO (t.drop p) = some o := by
  have e0 : pk (t.drop p) 0 = pk t p := by rw [pk_drop]; rfl
  obtain ⟨c, p1, z1, es⟩ : ∃ a b c, sgnF [90, 122, 43, 45] t p false = (a, b, c) := ⟨_, _, _, rfl⟩
  obtain ⟨va, p2, z2, en⟩ : ∃ a b c, numF t 2 0 p1 z1 = (a, b, c) := ⟨_, _, _, rfl⟩
  obtain ⟨vk, p3, z3, ek⟩ : ∃ a b c, sgnF [58] t p2 z2 = (a, b, c) := ⟨_, _, _, rfl⟩
  obtain ⟨vm, p4, z4, em⟩ : ∃ a b c, numF t 2 0 p3 z3 = (a, b, c) := ⟨_, _, _, rfl⟩
  unfold nzF at h hl
  simp only [es, en, ek, em] at h hl
  by_cases hc : c = 90 ∨ c = 122
  · rw [if_pos hc] at h hl
    dsimp only at h hl
    subst h
    obtain ⟨_, l1, _, q1, q2⟩ := sgn_up es rfl
    dsimp only at q1 q2
    have hd : t.drop p = [c] := by
      rw [List.drop_eq_getElem_cons l1, List.drop_eq_nil_of_le (by omega), q1, pk_lt t p l1]
    refine ⟨0, ?_⟩
    unfold rofO
    rw [hd, if_pos (by rcases hc with h | h <;> rw [h] <;> decide)]
  · rw [if_neg hc] at h hl
    dsimp only at h hl
    unfold offZ at h
    rw [Bool.or_eq_false_iff, Bool.or_eq_false_iff, decide_eq_false_iff_not, decide_eq_false_iff_not] at h
    obtain ⟨f4, g1, g2⟩ := h
    subst f4
    have f3 : z3 = false := num_flag (by rw [em])
    subst f3
    have f2 : z2 = false := (sgn_up ek rfl).1
    subst f2
    have f1 : z1 = false := num_flag (by rw [en])
    subst f1
    obtain ⟨_, l1, k1, q1, q2⟩ := sgn_up es rfl
    dsimp only at q1 q2
    subst q2
    obtain ⟨_, r2, l2, v2, q3⟩ := num_up en (by omega) rfl
    dsimp only at v2 q3
    subst q3
    obtain ⟨_, l3, k3, _, q4⟩ := sgn_up ek rfl
    dsimp only at q4
    subst q4
    obtain ⟨_, r4, l4, v4, q5⟩ := num_up em (by omega) rfl
    dsimp only at v4 q5
    subst q5
    have hs : pk t p = 43 ∨ pk t p = 45 := by
      rw [q1] at hc
      simp only [List.mem_cons, List.not_mem_nil, or_false] at k1
      rcases k1 with h | h | h | h
      · exact (hc (.inl h)).elim
      · exact (hc (.inr h)).elim
      · exact .inl h
      · exact .inr h
    have k3' : pk t (p + 3) = 58 := List.mem_singleton.1 k3
    unfold rofO
    by_cases h1 : t.drop p = [90] ∨ t.drop p = [122]
    · exact ⟨_, if_pos h1⟩
    · refine ⟨_, (if_neg h1).trans (if_pos ⟨by rw [List.length_drop]; omega, by rw [e0]; exact hs, by rw [pk_drop]; exact k3', ?_⟩)⟩
      rw [rdgR_drop t p _ _ hp, rdgR_drop t p _ _ hp]
      unfold roffB
      rw [show p + 1 + 2 + 1 = p + 4 by omega] at v4 r4
      rw [v2] at g1
      rw [v4] at g2
      exact decide_eq_true ⟨r2, by omega, r4, by omega⟩
end Go.Proofs.Ytnaafdennieedaa
