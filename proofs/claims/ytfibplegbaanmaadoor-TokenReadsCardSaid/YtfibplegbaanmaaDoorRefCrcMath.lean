/- The check sum bit by bit is the one by four bits: no condition. -/
import Derived.Test.YtfibplegbaanmaaDoorCrcMath
namespace Go.Proofs.YtfibplegbaanmaaDoor
open Go.RowKit

def bitQ (b : Nat) : Nat := if b = 1 then 3988292384 else 0
/-- A bit goes by. -/
def bitB (s : Nat) : Nat := (s >>> 1) ^^^ bitQ (s &&& 1)
def bitI : Nat → Nat → Nat
  | 0, s => s
  | k + 1, s => bitB (bitI k s)
theorem bitQ_all : ∀ i j : Fin 2, bitQ (i.val ^^^ j.val) = bitQ i.val ^^^ bitQ j.val := by decide
theorem and1_lt (s : Nat) : s &&& 1 < 2 := by have := Nat.and_le_right (n := s) (m := 1); omega
theorem bitB_xor (s t : Nat) : bitB (s ^^^ t) = bitB s ^^^ bitB t := by
  unfold bitB
  rw [Nat.shiftRight_xor_distrib, Nat.and_xor_distrib_right, bitQ_all ⟨s &&& 1, and1_lt s⟩ ⟨t &&& 1, and1_lt t⟩]
  exact xor4 _ _ _ _
theorem bitI_xor : ∀ (k s t : Nat), bitI k (s ^^^ t) = bitI k s ^^^ bitI k t
  | 0, _, _ => rfl
  | k + 1, s, t => by rw [bitI, bitI_xor k, bitB_xor]; rfl
theorem bitB_even (x : Nat) : bitB (2 * x) = x := by
  unfold bitB
  rw [show (1 : Nat) = 2 ^ 1 - 1 from rfl, Nat.and_two_pow_sub_one_eq_mod, show 2 * x % 2 ^ 1 = 0 by omega, Nat.shiftRight_eq_div_pow]
  simp [bitQ]
theorem bitI_high (h : Nat) : bitI 4 (16 * h) = h := by
  show bitB (bitB (bitB (bitB (16 * h)))) = h
  rw [show 16 * h = 2 * (2 * (2 * (2 * h))) by omega, bitB_even, bitB_even, bitB_even, bitB_even]
theorem bitI_low : ∀ i : Fin 16, bitI 4 i.val = nib i.val := by decide
theorem split16 (s : Nat) : s = (16 * (s / 16)) ^^^ (s &&& 15) := by
  rw [show (15 : Nat) = 2 ^ 4 - 1 from rfl, Nat.and_two_pow_sub_one_eq_mod]
  have e : (16 * (s / 16)) ^^^ (s % 2 ^ 4) = (16 * (s / 16)) ||| (s % 2 ^ 4) := by
    apply Nat.eq_of_testBit_eq
    intro i
    rw [Nat.testBit_xor, Nat.testBit_or, show 16 * (s / 16) = 2 ^ 4 * (s / 16) from rfl, Nat.testBit_two_pow_mul, Nat.testBit_mod_two_pow]
    by_cases h : i < 4
    · have h2 : ¬ 4 ≤ i := by omega
      simp [h, h2]
    · simp [h]
  rw [e]
  have := nat_join 4 (16 * (s / 16)) (s % 2 ^ 4) (by omega) (by omega)
  omega
theorem crcG_bits (s : Nat) : crcG s = bitI 4 s := by
  conv => rhs; rw [split16 s, bitI_xor, bitI_high, bitI_low ⟨s &&& 15, and15_lt s⟩]
  unfold crcG
  rw [Nat.shiftRight_eq_div_pow]
theorem bitI_add : ∀ (a b s : Nat), bitI (a + b) s = bitI a (bitI b s)
  | 0, b, s => by rw [Nat.zero_add]; rfl
  | a + 1, b, s => by rw [show a + 1 + b = (a + b) + 1 by omega, bitI, bitI_add a b s]; rfl
theorem crcF_bits (s : Nat) (c : UInt8) : crcF s c = bitI 8 (s ^^^ c.toNat) := by
  unfold crcF
  rw [crcG_bits, crcG_bits, ← bitI_add]
theorem bitB_lt (s : Nat) (h : s < 4294967296) : bitB s < 4294967296 := by
  refine xor_lt _ _ (by rw [Nat.shiftRight_eq_div_pow]; omega) ?_
  unfold bitQ; split <;> decide
theorem bitI_lt : ∀ (k s : Nat), s < 4294967296 → bitI k s < 4294967296
  | 0, _, h => h
  | k + 1, s, h => bitB_lt _ (bitI_lt k s h)
theorem bit_and (s : Nat) (hs : s < 4294967296) : bits .and .u32 (s : Int) 1 = ((s % 2 : Nat) : Int) := by
  have := u32_and_nat s 1 hs (by decide)
  rw [show (s &&& 1) = s % 2 from Nat.and_two_pow_sub_one_eq_mod s 1] at this
  exact this
theorem bit_odd (s : Nat) (hs : s < 4294967296) (h : s % 2 = 1) : bits .xor .u32 ((s : Int) / 2) 3988292384 = ((bitB s : Nat) : Int) := by
  have e : ((s : Int) / (2 : Int)) = ((s >>> 1 : Nat) : Int) := by rw [Nat.shiftRight_eq_div_pow]; omega
  have := u32_xor_nat (s >>> 1) 3988292384 (by rw [Nat.shiftRight_eq_div_pow]; omega) (by decide)
  rw [e]
  refine this.trans ?_
  unfold bitB
  rw [show (s &&& 1) = s % 2 from Nat.and_two_pow_sub_one_eq_mod s 1, h]
  rfl
theorem bit_even (s : Nat) (h : ¬ s % 2 = 1) : (s : Int) / 2 = ((bitB s : Nat) : Int) := by
  unfold bitB
  rw [show (s &&& 1) = s % 2 from Nat.and_two_pow_sub_one_eq_mod s 1, Nat.shiftRight_eq_div_pow]
  unfold bitQ
  rw [if_neg h, Nat.xor_zero]
  omega
end Go.Proofs.YtfibplegbaanmaaDoor
