/- Signs and their bytes, plainly: no condition. -/
import Derived.Test.YtjnejbeeoepdnaaDoorKit
namespace Go.Proofs.YtjnejbeeoepdnaaDoor
open Go.RowKit

/-- Is a number a sign? -/
def signB (c : Nat) : Bool := decide (c ≤ 1114111) && (decide (c < 55296) || decide (57343 < c))
/-- k bytes behind a sign's first one. -/
def tailR : Nat → List UInt8 → Nat → Option Nat
  | 0, _, acc => some acc
  | _ + 1, [], _ => none
  | k + 1, b :: t, acc => if b.toNat / 64 = 2 then tailR k t (acc * 64 + b.toNat % 64) else none
def tailE (k least : Nat) (r : Option Nat) : Nat × Nat :=
  match r with
  | none => (0, 0)
  | some a => if a < least ∨ signB a = false then (0, 0) else (a, k + 1)
/-- The sign that begins a list of bytes, and how many bytes it has; (0, 0): there is none. -/
def sgn : List UInt8 → Nat × Nat
  | [] => (0, 0)
  | c :: t =>
    if c.toNat < 128 then (c.toNat, 1)
    else if 192 ≤ c.toNat ∧ c.toNat < 224 then tailE 1 128 (tailR 1 t (c.toNat % 32))
    else if 224 ≤ c.toNat ∧ c.toNat < 240 then tailE 2 2048 (tailR 2 t (c.toNat % 16))
    else if 240 ≤ c.toNat ∧ c.toNat < 248 then tailE 3 65536 (tailR 3 t (c.toNat % 8))
    else (0, 0)
def sgnE (r : Nat × Nat) : Ending := .returned (.tuple #[.int .i64 (r.1 : Int), .int .i64 (r.2 : Int)])

theorem tailR_short : ∀ (k : Nat) (t : List UInt8) (acc : Nat), t.length < k → tailR k t acc = none
  | 0, _, _, h => by omega
  | k + 1, [], _, _ => rfl
  | k + 1, b :: t, acc, h => by
    rw [tailR]
    split
    · exact tailR_short k t _ (by simpa using h)
    · rfl
theorem tailR_next (k : Nat) (t : List UInt8) (j acc : Nat) (h : j < t.length) : tailR (k + 1) (t.drop j) acc = if t[j].toNat / 64 = 2 then tailR k (t.drop (j + 1)) (acc * 64 + t[j].toNat % 64) else none := by
  rw [List.drop_eq_getElem_cons h, tailR]
theorem and192 (c : UInt8) : bits .and .u8 (c.toNat : Int) 192 = ((c.toNat / 64 * 64 : Nat) : Int) := by
  have hc := c.toNat_lt
  rw [show (192 : Int) = ((192 : Nat) : Int) from rfl, u8_and_nat _ _ (by omega) (by omega)]
  have : ∀ i : Fin 256, i.val &&& 192 = i.val / 64 * 64 := by decide +kernel
  rw [this ⟨c.toNat, by omega⟩]
theorem and63 (c : UInt8) : bits .and .u8 (c.toNat : Int) 63 = ((c.toNat % 64 : Nat) : Int) := by
  have hc := c.toNat_lt
  rw [show (63 : Int) = ((63 : Nat) : Int) from rfl, u8_and_nat _ _ (by omega) (by omega), nat_mask6]
theorem or6 (n m : Nat) (hn : n < 16777216) (hm : m < 64) : bits .or .i64 ((n : Int) * 64) (m : Int) = ((n * 64 + m : Nat) : Int) := by
  rw [bits_join .i64 63 (by decide) wraps_i64 6 _ _ (by omega) (by omega) (by omega) (by omega) (by omega) (by omega)]
  omega
theorem andI (n m j : Nat) (hm : m = 2 ^ j - 1) (hn : n < 9223372036854775808) (hm2 : m < 9223372036854775808) : bits .and .i64 (n : Int) (m : Int) = ((n % 2 ^ j : Nat) : Int) := by
  have h1 : (BitVec.ofInt 64 (n : Int)).toNat = n := by rw [BitVec.toNat_ofInt]; omega
  have h2 : (BitVec.ofInt 64 (m : Int)).toNat = m := by rw [BitVec.toNat_ofInt]; omega
  show IntKind.i64.wrap ((BitVec.ofInt 64 (n : Int) &&& BitVec.ofInt 64 (m : Int)).toNat : Nat) = _
  rw [BitVec.toNat_and, h1, h2, hm, Nat.and_two_pow_sub_one_eq_mod]
  have : n % 2 ^ j ≤ n := Nat.mod_le _ _
  exact IntWalk.i64_in _ ⟨by omega, by omega⟩
theorem tailE_ok {k least a : Nat} (h1 : ¬ a < least) (h2 : signB a = true) : tailE k least (some a) = (a, k + 1) := by
  simp only [tailE]
  rw [if_neg]
  simp [h1, h2]
end Go.Proofs.YtjnejbeeoepdnaaDoor
