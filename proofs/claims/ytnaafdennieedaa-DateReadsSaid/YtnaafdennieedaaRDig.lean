/- Layer 5: the document's digits. -/
import Derived.Test.YtnaafdennieedaaRMade
namespace Go.Proofs.Ytnaafdennieedaa
open Go.RowKit

def rdg (t : List UInt8) : Nat → Nat → Int → Int
  | 0, _, v => v
  | k + 1, p, v => if dgB (pk t p) = true then rdg t k (p + 1) (10 * v + ((pk t p).toNat : Int) - 48) else -1
theorem rdg_succ (t : List UInt8) (k p : Nat) (v : Int) : rdg t (k + 1) p v = if dgB (pk t p) = true then rdg t k (p + 1) (10 * v + ((pk t p).toNat : Int) - 48) else -1 := rfl
def rdgR (t : List UInt8) (at_ n : Nat) : Int := if at_ + n ≤ t.length then rdg t n at_ 0 else -1
set_option maxHeartbeats 800000 in
theorem rdigits_any (t : List UInt8) (at_ n : Nat) (w : World) (hl : t.length ≤ 140737488355328) (ha : at_ ≤ 140737488355328) (hn : n ≤ 4) :
    Calls Try.prog 31 #[str t, .int .i64 (at_ : Int), .int .i64 (n : Int)] w fun e w' => e = .returned (.int .i64 (rdgR t at_ n)) ∧ w' = w := by
  have n1 : ¬ (at_ : Int) < 0 := by omega
  unfold rdgR
  by_cases hf : at_ + n ≤ t.length
  · rw [if_pos hf]
    have n2 : ¬ (t.length : Int) < (at_ : Int) + (n : Int) := by omega
    have b1 : (0 : Int) ≤ (at_ : Int) := by omega
    have b2 : (at_ : Int) ≤ 140737488355328 := by omega
    have b3 : (0 : Int) ≤ (n : Int) := by omega
    have b4 : (n : Int) ≤ 4 := by omega
    obtain ⟨R, hR⟩ : ∃ R, R = rdg t n at_ 0 := ⟨_, rfl⟩
    rw [← hR]
    have HR := Lib.hid hR
    clear hR
    go_enter Try.func31, Try.ntmps31
    go_wp2_with fail
    go_loop [7, 8] (fun v i => ∃ (k p : Nat) (x : Int), k ≤ n ∧ Hid (p = at_ + k) ∧ i = .int .i64 (p : Int) ∧ v = .int .i64 x ∧ 0 ≤ x ∧ x < 10 ^ k ∧ Hid (rdg t (n - k) p x = R)) (fun _ i => (at_ + n) - (intOf i).toNat)
    case atStart => exact ⟨0, at_, 0, Nat.zero_le _, Lib.hid rfl, rfl, rfl, by omega, by simp, Lib.hid HR.out.symm⟩
    case round =>
      obtain ⟨k, p, x, hk, HP, rfl, rfl, x0, x1, HE⟩ := hrel
      have hp := HP.out
      by_cases hlt : k < n
      · have hpow : (10 : Int) ^ k ≤ 10000 := by
          have : 10 ^ k ≤ 10 ^ 4 := Nat.pow_le_pow_right (by omega) (by omega)
          have e : ((10 : Nat) ^ k : Nat) = (10 : Int) ^ k := by norm_cast
          omega
        have x2 : x ≤ 10000 := by omega
        have g1 : (p : Int) < (at_ : Int) + (n : Int) := by omega
        have g2 : (0 : Int) ≤ (p : Int) := by omega
        have hpl : p < t.length := by omega
        have g3 : (p : Int) < (t.length : Int) := by omega
        have g4 : (p : Int) ≤ 140737488355328 := by omega
        obtain ⟨c, hc⟩ : ∃ c, c = pk t p := ⟨_, rfl⟩
        have hgc : (ByteArray.mk t.toArray)[p]'(by simpa [ByteArray.size] using hpl) = c := by rw [hc, pk_lt t p hpl]; rfl
        have HE2 := HE.out
        rw [show n - k = (n - (k + 1)) + 1 by omega, rdg_succ, ← hc] at HE2
        have HX : Hid (x < 10 ^ k) := Lib.hid x1
        cases hd : dgB c with
        | true =>
          rw [hd, if_pos rfl] at HE2
          have hd' := hd
          unfold dgB at hd'
          simp only [Bool.and_eq_true, decide_eq_true_eq] at hd'
          have c1 : ¬ (c.toNat : Int) < 48 := by omega
          have c2 : ¬ (57 : Int) < (c.toNat : Int) := by omega
          have c3 : (48 : Int) ≤ (c.toNat : Int) := by omega
          have c4 : (c.toNat : Int) ≤ 57 := by omega
          have HE3 := Lib.hid HE2
          clear HE2 hc hd hd' hp hpow x1
          go_wp2_with fail
          go_round
          case rel =>
            refine ⟨k + 1, p + 1, _, by omega, Lib.hid (by have := HP.out; omega), by go_num, rfl, by omega, ?_, Lib.hid ?_⟩
            · have := HX.out; rw [Int.pow_succ]; omega
            · rw [← HE3.out]; congr 1; omega
          case measure => have := HP.out; simp [intOf]; omega
        | false =>
          rw [hd] at HE2
          simp only [Bool.false_eq_true, if_false] at HE2
          subst HE2
          unfold dgB at hd
          simp only [Bool.and_eq_false_iff, decide_eq_false_iff_not] at hd
          have hcs : (c.toNat : Int) < 48 ∨ (¬ (c.toNat : Int) < 48 ∧ (57 : Int) < (c.toNat : Int)) := by omega
          clear hc hd hp hpow x1
          rcases hcs with c1 | ⟨c1, c2⟩
          all_goals
            go_wp2_with fail
            go_ret
            exact ⟨rfl, rfl⟩
      · obtain rfl : k = n := by omega
        have g1 : ¬ (p : Int) < (at_ : Int) + (k : Int) := by omega
        have e : x = R := by have := HE.out; rw [Nat.sub_self] at this; exact this
        subst e
        clear hp x1
        go_wp2_with fail
        go_ret
        exact ⟨rfl, rfl⟩
  · rw [if_neg hf]
    have n2 : (t.length : Int) < (at_ : Int) + (n : Int) := by omega
    have b1 : (0 : Int) ≤ (at_ : Int) := by omega
    have b2 : (at_ : Int) ≤ 140737488355328 := by omega
    have b3 : (0 : Int) ≤ (n : Int) := by omega
    have b4 : (n : Int) ≤ 4 := by omega
    go_enter Try.func31, Try.ntmps31
    go_wp2_with fail
    go_ret
    exact ⟨rfl, rfl⟩
end Go.Proofs.Ytnaafdennieedaa
