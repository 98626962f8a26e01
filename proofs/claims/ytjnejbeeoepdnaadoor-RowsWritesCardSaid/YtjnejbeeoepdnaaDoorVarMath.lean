/- Plain facts on numbers in few bytes, read again: no condition. -/
import Derived.Test.YtjnejbeeoepdnaaDoorMath
namespace Go.Proofs.YtjnejbeeoepdnaaDoor
open Go.RowKit

theorem rv_cons (f : Nat) (c : UInt8) (t : List UInt8) (p i acc : Nat) : rv (f + 1) (c :: t) p i acc =
    if 127 < c.toNat then rv f t (p + 1) (i + 1) (acc + c.toNat % 128 * 128 ^ i)
    else if c.toNat = 0 ∧ 0 < i then (0, 0, 4) else (acc + c.toNat % 128 * 128 ^ i, p + 1, 0) := rfl

theorem ofNat_toNat (n : Nat) (h : n < 256) : (UInt8.ofNat n).toNat = n := by rw [UInt8.toNat_ofNat']; omega

/-- What was written is read again, whatever stands behind it. -/
theorem rv_varL (rest : List UInt8) : ∀ (f n p i acc : Nat), (varL n).length ≤ f → (i = 0 ∨ 0 < n) → rv f (varL n ++ rest) p i acc = (acc + n * 128 ^ i, p + (varL n).length, 0)
  | 0, n, p, i, acc, h, _ => by have := varL_pos n; omega
  | f + 1, n, p, i, acc, h, hi => by
    by_cases hn : n < 128
    · rw [varL_small n hn, List.singleton_append, rv_cons, ofNat_toNat n (by omega), if_neg (by omega), if_neg (by omega), Nat.mod_eq_of_lt hn]
      rfl
    · rw [varL_big n hn, List.length_cons] at h
      rw [varL_big n hn, List.cons_append, rv_cons, ofNat_toNat _ (by omega), if_pos (by omega), rv_varL rest f (n / 128) _ _ _ (by omega) (.inr (by omega))]
      have e : (n % 128 + 128) % 128 = n % 128 := by omega
      have e2 : n % 128 * 128 ^ i + n / 128 * 128 ^ (i + 1) = n * 128 ^ i := by
        rw [Nat.pow_succ, Nat.mul_comm (128 ^ i) 128, ← Nat.mul_assoc, ← Nat.add_mul]
        congr 1
        omega
      rw [e, List.length_cons, Nat.add_assoc acc, e2]
      congr 2
      omega

/-- Bytes that all say that more follow. -/
def Cont (l : List UInt8) : Prop := ∀ c ∈ l, 127 < c.toNat
theorem rv_cont : ∀ (l : List UInt8) (f p i acc : Nat) (t : List UInt8), Cont l → l.length ≤ f → ∃ acc', rv f (l ++ t) p i acc = rv (f - l.length) t (p + l.length) (i + l.length) acc'
  | [], f, p, i, acc, t, _, _ => ⟨acc, by simp⟩
  | c :: l, 0, p, i, acc, t, _, h => by simp at h
  | c :: l, f + 1, p, i, acc, t, hc, h => by
    have h1 := hc c (by simp)
    obtain ⟨acc', e⟩ := rv_cont l f (p + 1) (i + 1) (acc + c.toNat % 128 * 128 ^ i) t (fun x hx => hc x (by simp [hx])) (by simpa using h)
    refine ⟨acc', ?_⟩
    rw [List.cons_append, rv_cons, if_pos h1, e, List.length_cons]
    congr 1 <;> omega

/-- All bytes but the last say that more follow. -/
theorem varL_form : ∀ (k n : Nat), n ≤ k → Cont (varL n).dropLast
  | 0, n, h => by rw [varL_small n (by omega)]; intro c hc; simp at hc
  | k + 1, n, h => by
    by_cases hn : n < 128
    · rw [varL_small n hn]; intro c hc; simp at hc
    · rw [varL_big n hn]
      have ih := varL_form k (n / 128) (by omega)
      have hp := varL_pos (n / 128)
      rw [List.dropLast_cons_of_ne_nil (by intro e; rw [e] at hp; simp at hp)]
      intro c hc
      rcases List.mem_cons.1 hc with rfl | hc
      · rw [ofNat_toNat _ (by omega)]; omega
      · exact ih c hc

/-- Cut off, it is too short. -/
theorem rv_cut (n c : Nat) (h : c < (varL n).length) (h8 : (varL n).length ≤ 8) : (rv 8 ((varL n).take c) 0 0 0) = (0, 0, 2) := by
  have hc : Cont ((varL n).take c) := by
    intro x hx
    refine varL_form n n (Nat.le_refl _) x ?_
    rw [List.dropLast_eq_take]
    have : (varL n).take c = ((varL n).take ((varL n).length - 1)).take c := by rw [List.take_take]; congr 1; omega
    rw [this] at hx
    exact List.mem_of_mem_take hx
  have hl : ((varL n).take c).length = c := by simp; omega
  obtain ⟨acc', e⟩ := rv_cont _ 8 0 0 0 [] hc (by omega)
  rw [List.append_nil, hl] at e
  rw [e, show 8 - c = (7 - c) + 1 by omega, rv_nil]

/-- With a 0 laid behind it, it is none. -/
theorem rv_long (l : List UInt8) (hc : Cont l) (h1 : 0 < l.length) (h8 : l.length ≤ 8) : (rv 8 (l ++ [0]) 0 0 0) = (0, 0, 4) := by
  obtain ⟨acc', e⟩ := rv_cont _ 8 0 0 0 [0] hc h8
  rw [e]
  by_cases h : l.length = 8
  · rw [h]; rfl
  · rw [show 8 - l.length = (7 - l.length) + 1 by omega, rv_cons, if_neg (by decide), if_pos ⟨by decide, by omega⟩]

/-- No number's bytes begin another's. -/
theorem varL_prefix (a b : Nat) (ha : (varL a).length ≤ 8) (hb : (varL b).length ≤ 8) (h : (varL b).take (varL a).length = varL a) : a = b := by
  have h1 := rv_varL ((varL b).drop (varL a).length) 8 a 0 0 0 ha (.inl rfl)
  have h2 := rv_varL [] 8 b 0 0 0 hb (.inl rfl)
  have e : varL a ++ (varL b).drop (varL a).length = varL b := by
    conv => lhs; lhs; rw [← h]
    exact List.take_append_drop _ _
  rw [e] at h1
  rw [List.append_nil] at h2
  have := h1.symm.trans h2
  simp at this
  exact this.1

theorem or128_u8 (c : UInt8) : bits .or .u8 (c.toNat : Int) 128 = ((c ||| 128).toNat : Int) := by
  rw [show (128 : Int) = ((128 : Nat) : Int) from rfl, u8_or_nat _ _ (by have := c.toNat_lt; omega) (by omega)]
  simp
theorem or128_big (c : UInt8) : 127 < (c ||| 128).toNat := by
  rw [UInt8.toNat_or]
  have h : 128 ≤ c.toNat ||| 128 := Nat.right_le_or
  exact h
end Go.Proofs.YtjnejbeeoepdnaaDoor
