/- Plain facts on digits and on numbers in few bytes: no condition. -/
import Derived.Test.YtnaafdennieedaaKit
namespace Go.Proofs.Ytnaafdennieedaa
open Go.RowKit

theorem digL_succ (n wd : Nat) : digL n (wd + 1) = db n wd :: digL n wd := by
  unfold digL
  rw [List.range_succ_eq_map, List.map_cons, List.map_map]
  congr 1
  apply List.map_congr_left
  intro j hj
  simp only [Function.comp_apply]
  congr 1
  omega

theorem db_toNat (n j : Nat) : (db n j).toNat = 48 + n / 10 ^ j % 10 := by
  unfold db; rw [UInt8.toNat_ofNat']; omega

theorem db_lt (a b j : Nat) : (db a j < db b j) ↔ a / 10 ^ j % 10 < b / 10 ^ j % 10 := by
  rw [UInt8.lt_iff_toNat_lt, db_toNat, db_toNat]; omega
theorem db_eq (a b j : Nat) : (db a j = db b j) ↔ a / 10 ^ j % 10 = b / 10 ^ j % 10 := by
  rw [← UInt8.toNat_inj, db_toNat, db_toNat]; omega

theorem mod_succ (a wd : Nat) : a % 10 ^ (wd + 1) = a % 10 ^ wd + 10 ^ wd * (a / 10 ^ wd % 10) := by
  rw [Nat.pow_succ, Nat.mod_mul]

theorem lex_lt (p d e r s : Nat) (hr : r < p) (hs : s < p) : (r + p * d < s + p * e) ↔ (d < e ∨ (d = e ∧ r < s)) := by
  constructor
  · intro h
    rcases Nat.lt_trichotomy d e with h1 | h1 | h1
    · exact .inl h1
    · subst h1; exact .inr ⟨rfl, by omega⟩
    · have : p * (e + 1) ≤ p * d := Nat.mul_le_mul_left p h1
      rw [Nat.mul_add] at this; omega
  · rintro (h | ⟨rfl, h⟩)
    · have : p * (d + 1) ≤ p * e := Nat.mul_le_mul_left p h
      rw [Nat.mul_add] at this; omega
    · omega
theorem lex_eq (p d e r s : Nat) (hr : r < p) (hs : s < p) : (r + p * d = s + p * e) ↔ (d = e ∧ r = s) := by
  have h1 := lex_lt p d e r s hr hs
  have h2 := lex_lt p e d s r hs hr
  constructor
  · intro h
    have a : ¬ (r + p * d < s + p * e) := by omega
    have b : ¬ (s + p * e < r + p * d) := by omega
    rw [h1] at a; rw [h2] at b
    omega
  · rintro ⟨rfl, rfl⟩; rfl

theorem digL_lt_eq (a b : Nat) : ∀ wd, Op.bytesLess (digL a wd) (digL b wd) = decide (a % 10 ^ wd < b % 10 ^ wd) ∧ (digL a wd == digL b wd) = decide (a % 10 ^ wd = b % 10 ^ wd)
  | 0 => by simp [digL, Op.bytesLess, Nat.mod_one]
  | wd + 1 => by
    have ih := digL_lt_eq a b wd
    have hr := Nat.mod_lt a (Nat.pow_pos (n := wd) (show 0 < 10 by omega))
    have hs := Nat.mod_lt b (Nat.pow_pos (n := wd) (show 0 < 10 by omega))
    rw [digL_succ, digL_succ, mod_succ, mod_succ]
    have e1 := lex_lt (10 ^ wd) (a / 10 ^ wd % 10) (b / 10 ^ wd % 10) _ _ hr hs
    have e2 := lex_eq (10 ^ wd) (a / 10 ^ wd % 10) (b / 10 ^ wd % 10) _ _ hr hs
    have f1 := db_lt a b wd
    have f2 := db_eq a b wd
    have g : (db a wd == db b wd) = decide (a / 10 ^ wd % 10 = b / 10 ^ wd % 10) := by
      rw [Bool.eq_iff_iff, beq_iff_eq, decide_eq_true_iff, f2]
    constructor
    · rw [Op.bytesLess, ih.1, g, Bool.eq_iff_iff]
      simp only [Bool.or_eq_true, Bool.and_eq_true, decide_eq_true_iff]
      rw [f1, e1]
    · rw [List.cons_beq_cons, ih.2, g, Bool.eq_iff_iff]
      simp only [Bool.and_eq_true, decide_eq_true_iff]
      rw [e2]

theorem dig_less (a b wd : Nat) (ha : a < 10 ^ wd) (hb : b < 10 ^ wd) : Op.bytesLess (digL a wd) (digL b wd) = decide (a < b) := by
  rw [(digL_lt_eq a b wd).1, Nat.mod_eq_of_lt ha, Nat.mod_eq_of_lt hb]
theorem dig_same (a b wd : Nat) (ha : a < 10 ^ wd) (hb : b < 10 ^ wd) : (digL a wd == digL b wd) = decide (a = b) := by
  rw [(digL_lt_eq a b wd).2, Nat.mod_eq_of_lt ha, Nat.mod_eq_of_lt hb]

theorem varL_mono : ∀ (n m k : Nat), n ≤ k → m ≤ n → (varL m).length ≤ (varL n).length := by
  intro n m k
  induction k generalizing n m with
  | zero => intro h1 h2; rw [show m = 0 by omega, show n = 0 by omega]; exact Nat.le_refl _
  | succ k ih =>
    intro h1 h2
    by_cases hm : m < 128
    · rw [varL_small m hm]; exact varL_pos n
    · rw [varL_big m hm, varL_big n (by omega), List.length_cons, List.length_cons]
      have := ih (n / 128) (m / 128) (by omega) (Nat.div_le_div_right h2)
      omega
end Go.Proofs.Ytnaafdennieedaa
