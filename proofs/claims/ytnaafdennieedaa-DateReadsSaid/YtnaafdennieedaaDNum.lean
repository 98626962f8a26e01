/- Layer 5: the reader of times: number, name, year. -/
import Derived.Test.YtnaafdennieedaaDRd
namespace Go.Proofs.Ytnaafdennieedaa
open Go.RowKit

def digs : List UInt8 := [48, 49, 50, 51, 52, 53, 54, 55, 56, 57]
/-- What number reads. -/
def numF (t : List UInt8) : Nat → Int → Nat → Bool → Int × Nat × Bool
  | 0, n, p, bad => (n, p, bad)
  | k + 1, n, p, bad => numF t k (10 * n + ((sgnF digs t p bad).1.toNat : Int) - 48) (sgnF digs t p bad).2.1 (sgnF digs t p bad).2.2
theorem numF_zero (t : List UInt8) (n : Int) (p : Nat) (bad : Bool) : numF t 0 n p bad = (n, p, bad) := rfl
theorem numF_succ (t : List UInt8) (k : Nat) (n : Int) (p : Nat) (bad : Bool) : numF t (k + 1) n p bad = numF t k (10 * n + ((sgnF digs t p bad).1.toNat : Int) - 48) (sgnF digs t p bad).2.1 (sgnF digs t p bad).2.2 := rfl
theorem sgnF_le (of t : List UInt8) (p : Nat) (bad : Bool) (hp : p ≤ t.length) : (sgnF of t p bad).2.1 ≤ t.length := by
  unfold sgnF; split
  · next h => exact h.1
  · exact hp
theorem sgnF_dig (t : List UInt8) (p : Nat) (bad : Bool) : (sgnF digs t p bad).1.toNat ≤ 57 := by
  unfold sgnF; split
  · next h =>
    have h2 : ∀ c ∈ digs, c.toNat ≤ 57 := by decide
    exact h2 _ h.2
  · simp
theorem numF_le (t : List UInt8) : ∀ (k : Nat) (n : Int) (p : Nat) (bad : Bool), p ≤ t.length → (numF t k n p bad).2.1 ≤ t.length
  | 0, _, _, _, h => h
  | k + 1, n, p, bad, h => by rw [numF_succ]; exact numF_le t k _ _ _ (sgnF_le _ _ _ _ h)
theorem numF_bd (t : List UInt8) : ∀ (k m : Nat) (n : Int) (p : Nat) (bad : Bool), 6 - 60 * (10 : Int) ^ m ≤ n → n ≤ (10 : Int) ^ m - 1 →
    6 - 60 * (10 : Int) ^ (m + k) ≤ (numF t k n p bad).1 ∧ (numF t k n p bad).1 ≤ (10 : Int) ^ (m + k) - 1
  | 0, _, _, _, _, h1, h2 => ⟨h1, h2⟩
  | k + 1, m, n, p, bad, h1, h2 => by
    rw [numF_succ, show m + (k + 1) = m + 1 + k by omega]
    have := sgnF_dig t p bad
    refine numF_bd t k (m + 1) _ _ _ ?_ ?_
    · rw [Int.pow_succ]; omega
    · rw [Int.pow_succ]; omega
theorem num2_bd (t : List UInt8) (p : Nat) (bad : Bool) : -6000 ≤ (numF t 2 0 p bad).1 ∧ (numF t 2 0 p bad).1 ≤ 99 := by
  have := numF_bd t 2 0 0 p bad (by simp) (by simp)
  simp at this; omega
theorem num4_bd (t : List UInt8) (p : Nat) (bad : Bool) : -600000 ≤ (numF t 4 0 p bad).1 ∧ (numF t 4 0 p bad).1 ≤ 9999 := by
  have := numF_bd t 4 0 0 p bad (by simp) (by simp)
  simp at this; omega
theorem num1_bd (t : List UInt8) (p : Nat) (bad : Bool) : -600 ≤ (numF t 1 0 p bad).1 ∧ (numF t 1 0 p bad).1 ≤ 9 := by
  have := numF_bd t 1 0 0 p bad (by simp) (by simp)
  simp at this; omega

set_option maxHeartbeats 400000 in
theorem dnumber_any (wd : Nat) (t : List UInt8) (b p : Nat) (bad : Bool) (w : World) (h : DR w b t p bad) (hp : p ≤ t.length) (hl : t.length ≤ 140737488355328) (hwd : wd ≤ 4) :
    Calls Try.prog 24 #[.pointer (some ⟨b, 0, none⟩), .int .i64 (wd : Int)] w fun e w' =>
      e = .returned (.int .i64 (numF t wd 0 p bad).1) ∧ DR w' b t (numF t wd 0 p bad).2.1 (numF t wd 0 p bad).2.2 ∧ Below b w w' := by
  obtain ⟨R, hR⟩ : ∃ R, R = numF t wd 0 p bad := ⟨_, rfl⟩
  rw [← hR]
  have HR := Lib.hid hR
  have HD := Lib.hid h
  clear hR h
  go_enter Try.func24, Try.ntmps24
  go_wp2_with fail
  go_loopw [5, 7] (fun n i wr => ∃ (k : Nat) (x : Int) (q : Nat) (z : Bool), k ≤ wd ∧ i = .int .i64 k ∧ n = .int .i64 x ∧ 6 - 60 * (10 : Int) ^ k ≤ x ∧ x ≤ (10 : Int) ^ k - 1 ∧ q ≤ t.length ∧ Hid (numF t (wd - k) x q z = R) ∧ Hid (DR wr b t q z) ∧ Hid (Below b w wr)) (fun _ i _ => wd - (intOf i).toNat)
  case atStart => exact ⟨0, 0, p, bad, Nat.zero_le _, rfl, rfl, by simp, by simp, hp, Lib.hid HR.out.symm, HD, Lib.hid (Below.refl _ _)⟩
  case round =>
    obtain ⟨k, x, q, z, hk, rfl, rfl, hx1, hx2, hq, HE, HDq, HB⟩ := hrel
    by_cases hlt : k < wd
    · have hpow : (10 : Int) ^ k ≤ 10000 := by
        have : 10 ^ k ≤ 10 ^ 4 := Nat.pow_le_pow_right (by omega) (by omega)
        have e : ((10 : Nat) ^ k : Nat) = (10 : Int) ^ k := by norm_cast
        omega
      have b1 : -600000 ≤ x := by omega
      have b2 : x ≤ 10000 := by omega
      have hd := sgnF_dig t q z
      obtain ⟨S, hS⟩ : ∃ S, S = sgnF digs t q z := ⟨_, rfl⟩
      have CS := Lib.hid (fun W h => sign_any digs t b q z W h hq hl)
      rw [← hS] at hd CS
      have HS := Lib.hid hS
      have hle := sgnF_le digs t q z hq
      rw [← hS] at hle
      have HE2 : Hid (numF t (wd - (k + 1)) (10 * x + (S.1.toNat : Int) - 48) S.2.1 S.2.2 = R) := by
        have e := HE.out
        rw [show wd - k = (wd - (k + 1)) + 1 by omega, numF_succ, ← hS] at e
        exact Lib.hid e
      clear hS
      obtain ⟨c, q', z'⟩ := S
      simp only at hd CS hle HE2
      have n1 : (k : Int) < (wd : Int) := by omega
      have n2 : (k : Int) ≤ 4 := by omega
      have HX : Hid (6 - 60 * (10 : Int) ^ (k + 1) ≤ 10 * x + (c.toNat : Int) - 48 ∧ 10 * x + (c.toNat : Int) - 48 ≤ (10 : Int) ^ (k + 1) - 1) := by
        refine Lib.hid ?_
        rw [Int.pow_succ]; omega
      clear hx1 hx2 hpow
      have hc0 : 0 ≤ (c.toNat : Int) := by omega
      have hc1 : (c.toNat : Int) ≤ 57 := by omega
      go_wp2_with fail
      refine (CS.out _ HDq.out).mono ?_
      rintro e w1 ⟨rfl, hd1, hb1⟩
      have HD1 := Lib.hid hd1
      have HB1 := Lib.hid (HB.out.trans hb1)
      clear hd1 hb1
      go_wp2_with fail
      go_roundw
      case rel => exact ⟨k + 1, _, q', z', by omega, by go_num, rfl, HX.out.1, HX.out.2, hle, HE2, HD1, HB1⟩
      case measure => simp [intOf]; omega
    · obtain rfl : k = wd := by omega
      have n1 : ¬ (k : Int) < (k : Int) := by omega
      have e : (x, q, z) = R := by
        have := HE.out
        rw [Nat.sub_self, numF_zero] at this
        exact this
      subst e
      go_wp2_with fail
      go_ret
      exact ⟨rfl, HDq.out, HB.out⟩
end Go.Proofs.Ytnaafdennieedaa
