/- Layer 5: date's Net by places. -/
import Derived.Test.YtnaafdennieedaaRNetM
namespace Go.Proofs.Ytnaafdennieedaa
open Go.RowKit

/-- Signs and numbers stand where they must. -/
def rhdC (t : List UInt8) : Prop := 19 ≤ t.length ∧ pk t 4 ∈ [(45 : UInt8)] ∧ pk t 7 ∈ [(45 : UInt8)] ∧ pk t 10 ∈ [(84 : UInt8), 116] ∧ pk t 13 ∈ [(58 : UInt8)] ∧ pk t 16 ∈ [(58 : UInt8)] ∧ 0 ≤ rdgR t 0 4 ∧ 0 ≤ rdgR t 5 2 ∧ 0 ≤ rdgR t 8 2 ∧ 0 ≤ rdgR t 11 2 ∧ 0 ≤ rdgR t 14 2 ∧ 0 ≤ rdgR t 17 2
theorem frac_flag {t : List UInt8} {p : Nat} {z : Bool} (h : (fracF t p z).2 = false) : z = false := by
  unfold fracF at h
  split at h
  · exact num_flag h
  · exact h
theorem nz_flag {t : List UInt8} {p : Nat} {z : Bool} (h : (nzF t p z).2.2 = false) : z = false := by
  unfold nzF at h
  dsimp only at h
  split at h
  · exact (sgn_up rfl h).1
  · unfold offZ at h
    rw [Bool.or_eq_false_iff] at h
    exact (sgn_up rfl (num_flag (sgn_up rfl (num_flag h.1)).1)).1
theorem num_hit {t : List UInt8} {k p : Nat} (hp : p ≤ t.length) (h : 0 ≤ rdgR t p k) : numF t k 0 p false = (rdgR t p k, p + k, false) := by
  rcases num_ref t k p hp with ⟨_, _, c⟩ | ⟨c, _⟩
  · exact c
  · omega
theorem sgn_on {of t : List UInt8} {p : Nat} (hp : p < t.length) (h : pk t p ∈ of) : sgnF of t p false = (pk t p, p + 1, false) := if_pos ⟨hp, h⟩
theorem netR_yes (t : List UInt8) (H : rhdC t) : netR t = secR t (nzF t (fracF t 19 false).1 (fracF t 19 false).2).2.1 (nzF t (fracF t 19 false).1 (fracF t 19 false).2).2.2 (rdgR t 0 4) (rdgR t 5 2) (rdgR t 8 2) (rdgR t 11 2) (rdgR t 14 2) (rdgR t 17 2) (nzF t (fracF t 19 false).1 (fracF t 19 false).2).1 := by
  obtain ⟨hl, k4, k7, k10, k13, k16, r0, r5, r8, r11, r14, r17⟩ := H
  have e0 : numF t 4 0 0 false = (rdgR t 0 4, 4, false) := num_hit (by omega) r0
  have e1 : sgnF [45] t 4 false = (pk t 4, 5, false) := sgn_on (by omega) k4
  have e2 : numF t 2 0 5 false = (rdgR t 5 2, 7, false) := num_hit (by omega) r5
  have e3 : sgnF [45] t 7 false = (pk t 7, 8, false) := sgn_on (by omega) k7
  have e4 : numF t 2 0 8 false = (rdgR t 8 2, 10, false) := num_hit (by omega) r8
  have e5 : sgnF [84, 116] t 10 false = (pk t 10, 11, false) := sgn_on (by omega) k10
  have e6 : numF t 2 0 11 false = (rdgR t 11 2, 13, false) := num_hit (by omega) r11
  have e7 : sgnF [58] t 13 false = (pk t 13, 14, false) := sgn_on (by omega) k13
  have e8 : numF t 2 0 14 false = (rdgR t 14 2, 16, false) := num_hit (by omega) r14
  have e9 : sgnF [58] t 16 false = (pk t 16, 17, false) := sgn_on (by omega) k16
  have e10 : numF t 2 0 17 false = (rdgR t 17 2, 19, false) := num_hit (by omega) r17
  unfold netR
  simp only [e0, e1, e2, e3, e4, e5, e6, e7, e8, e9, e10]
theorem netR_no (t : List UInt8) (H : ¬ rhdC t) : netR t = (0, 4) := by
  obtain ⟨v0, p0, z0, e0⟩ : ∃ a b c, numF t 4 0 0 false = (a, b, c) := ⟨_, _, _, rfl⟩
  obtain ⟨v1, p1, z1, e1⟩ : ∃ a b c, sgnF [45] t p0 z0 = (a, b, c) := ⟨_, _, _, rfl⟩
  obtain ⟨v2, p2, z2, e2⟩ : ∃ a b c, numF t 2 0 p1 z1 = (a, b, c) := ⟨_, _, _, rfl⟩
  obtain ⟨v3, p3, z3, e3⟩ : ∃ a b c, sgnF [45] t p2 z2 = (a, b, c) := ⟨_, _, _, rfl⟩
  obtain ⟨v4, p4, z4, e4⟩ : ∃ a b c, numF t 2 0 p3 z3 = (a, b, c) := ⟨_, _, _, rfl⟩
  obtain ⟨v5, p5, z5, e5⟩ : ∃ a b c, sgnF [84, 116] t p4 z4 = (a, b, c) := ⟨_, _, _, rfl⟩
  obtain ⟨v6, p6, z6, e6⟩ : ∃ a b c, numF t 2 0 p5 z5 = (a, b, c) := ⟨_, _, _, rfl⟩
  obtain ⟨v7, p7, z7, e7⟩ : ∃ a b c, sgnF [58] t p6 z6 = (a, b, c) := ⟨_, _, _, rfl⟩
  obtain ⟨v8, p8, z8, e8⟩ : ∃ a b c, numF t 2 0 p7 z7 = (a, b, c) := ⟨_, _, _, rfl⟩
  obtain ⟨v9, p9, z9, e9⟩ : ∃ a b c, sgnF [58] t p8 z8 = (a, b, c) := ⟨_, _, _, rfl⟩
  obtain ⟨v10, p10, z10, e10⟩ : ∃ a b c, numF t 2 0 p9 z9 = (a, b, c) := ⟨_, _, _, rfl⟩
  obtain ⟨pf, zf, ef⟩ : ∃ b c, fracF t p10 z10 = (b, c) := ⟨_, _, rfl⟩
  obtain ⟨va, pa, za, ea⟩ : ∃ a b c, nzF t pf zf = (a, b, c) := ⟨_, _, _, rfl⟩
  have e : netR t = secR t pa za v0 v2 v4 v6 v8 v10 va := by unfold netR; simp only [e0, e1, e2, e3, e4, e5, e6, e7, e8, e9, e10, ef, ea]
  rw [e]
  unfold secR
  cases za
  case true => exact if_pos (.inl rfl)
  exfalso
  apply H
  have hf : zf = false := nz_flag (by rw [ea])
  subst hf
  have f10 : z10 = false := frac_flag (by rw [ef])
  subst f10
  have f9 : z9 = false := num_flag (by rw [e10])
  subst f9
  have f8 : z8 = false := (sgn_up e9 rfl).1
  subst f8
  have f7 : z7 = false := num_flag (by rw [e8])
  subst f7
  have f6 : z6 = false := (sgn_up e7 rfl).1
  subst f6
  have f5 : z5 = false := num_flag (by rw [e6])
  subst f5
  have f4 : z4 = false := (sgn_up e5 rfl).1
  subst f4
  have f3 : z3 = false := num_flag (by rw [e4])
  subst f3
  have f2 : z2 = false := (sgn_up e3 rfl).1
  subst f2
  have f1 : z1 = false := num_flag (by rw [e2])
  subst f1
  have f0 : z0 = false := (sgn_up e1 rfl).1
  subst f0
  obtain ⟨_, r0, l0, _, q0⟩ := num_up e0 (Nat.zero_le _) rfl
  dsimp only at q0
  subst q0
  obtain ⟨_, l1, k4, _, q1⟩ := sgn_up e1 rfl
  dsimp only at q1
  subst q1
  obtain ⟨_, r5, l2, _, q2⟩ := num_up e2 (by omega) rfl
  dsimp only at q2
  subst q2
  obtain ⟨_, l3, k7, _, q3⟩ := sgn_up e3 rfl
  dsimp only at q3
  subst q3
  obtain ⟨_, r8, l4, _, q4⟩ := num_up e4 (by omega) rfl
  dsimp only at q4
  subst q4
  obtain ⟨_, l5, k10, _, q5⟩ := sgn_up e5 rfl
  dsimp only at q5
  subst q5
  obtain ⟨_, r11, l6, _, q6⟩ := num_up e6 (by omega) rfl
  dsimp only at q6
  subst q6
  obtain ⟨_, l7, k13, _, q7⟩ := sgn_up e7 rfl
  dsimp only at q7
  subst q7
  obtain ⟨_, r14, l8, _, q8⟩ := num_up e8 (by omega) rfl
  dsimp only at q8
  subst q8
  obtain ⟨_, l9, k16, _, q9⟩ := sgn_up e9 rfl
  dsimp only at q9
  subst q9
  obtain ⟨_, r17, l10, _, q10⟩ := num_up e10 (by omega) rfl
  dsimp only at q10
  subst q10
  exact ⟨by omega, k4, k7, k10, k13, k16, r0, r5, r8, r11, r14, r17⟩
end Go.Proofs.Ytnaafdennieedaa
