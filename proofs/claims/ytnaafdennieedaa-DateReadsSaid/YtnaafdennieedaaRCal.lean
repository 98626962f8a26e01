/- Layer 5: the document's days: leap, length, first, Make. -/
import Derived.Test.YtnaafdennieedaaDMath
namespace Go.Proofs.Ytnaafdennieedaa
open Go.RowKit

def lpB (y : Int) : Bool := decide (lpI y - lpI (y - 1) = 1)
theorem rleap_any (y : Int) (w : World) (h0 : 0 ≤ y) (h1 : y ≤ 10000) : Calls Try.prog 48 #[.int .i64 y] w fun e w' => e = .returned (.bool (lpB y)) ∧ w' = w := by
  by_cases g4 : y % 4 = 0
  · have t4 : (y % 4 == 0) = true := by rw [g4]; rfl
    by_cases g100 : y % 100 = 0
    · have t100 : (y % 100 != 0) = false := by rw [g100]; rfl
      by_cases g400 : y % 400 = 0
      · have t400 : (y % 400 == 0) = true := by rw [g400]; rfl
        have e : lpB y = true := by unfold lpB lpI; rw [decide_eq_true_eq]; omega
        rw [e]
        clear e g4 g100 g400
        go_enter Try.func48, Try.ntmps48
        go_wp2
        go_ret
        exact ⟨rfl, rfl⟩
      · have t400 : (y % 400 == 0) = false := by rw [beq_eq_false_iff_ne]; exact g400
        have e : lpB y = false := by unfold lpB lpI; rw [decide_eq_false_iff_not]; omega
        rw [e]
        clear e g4 g100 g400
        go_enter Try.func48, Try.ntmps48
        go_wp2
        go_ret
        exact ⟨rfl, rfl⟩
    · have t100 : (y % 100 != 0) = true := by rw [bne_iff_ne]; exact g100
      have e : lpB y = true := by unfold lpB lpI; rw [decide_eq_true_eq]; omega
      rw [e]
      clear e g4 g100
      go_enter Try.func48, Try.ntmps48
      go_wp2
      go_ret
      exact ⟨rfl, rfl⟩
  · have t4 : (y % 4 == 0) = false := by rw [beq_eq_false_iff_ne]; exact g4
    have e : lpB y = false := by
      have c4 : (y - 1) / 4 = y / 4 := by omega
      have c100 : (y - 1) / 100 = y / 100 := by
        have : y % 100 ≠ 0 := by omega
        omega
      have c400 : (y - 1) / 400 = y / 400 := by
        have : y % 400 ≠ 0 := by omega
        omega
      unfold lpB lpI; rw [decide_eq_false_iff_not, c4, c100, c400]; omega
    rw [e]
    clear e g4
    go_enter Try.func48, Try.ntmps48
    go_wp2
    go_ret
    exact ⟨rfl, rfl⟩
set_option maxHeartbeats 1600000 in
theorem rlength_any (y mo : Int) (w : World) (h0 : 0 ≤ y) (h1 : y ≤ 10000) : Calls Try.prog 42 #[.int .i64 y, .int .i64 mo] w fun e w' => e = .returned (.int .i64 (dofI y mo)) ∧ w' = w := by
  have hs := lp_step y h0
  unfold dofI
  by_cases m2 : mo = 2
  · subst m2
    rw [if_pos rfl]
    cases hl : lpB y with
    | true =>
      have e : 28 + lpI y - lpI (y - 1) = 29 := by
        have : lpI y - lpI (y - 1) = 1 := by simpa [lpB] using hl
        omega
      rw [e]
      have HL := Lib.hid hl
      clear e hs hl
      go_enter Try.func42, Try.ntmps42
      go_wp2_with (go_at_call 48; refine (rleap_any _ _ (by omega) (by omega)).mono ?_; rintro e w' ⟨rfl, rfl⟩; rw [HL.out])
      go_ret
      exact ⟨rfl, rfl⟩
    | false =>
      have e : 28 + lpI y - lpI (y - 1) = 28 := by
        have : ¬ lpI y - lpI (y - 1) = 1 := by simpa [lpB] using hl
        omega
      rw [e]
      have HL := Lib.hid hl
      clear e hs hl
      go_enter Try.func42, Try.ntmps42
      go_wp2_with (go_at_call 48; refine (rleap_any _ _ (by omega) (by omega)).mono ?_; rintro e w' ⟨rfl, rfl⟩; rw [HL.out])
      go_ret
      exact ⟨rfl, rfl⟩
  · rw [if_neg m2]
    have n2 : (mo == 2) = false := by rw [beq_eq_false_iff_ne]; exact m2
    clear hs
    by_cases m4 : mo = 4 ∨ mo = 6 ∨ mo = 9 ∨ mo = 11
    · rw [if_pos m4]
      clear m2 n2
      rcases m4 with rfl | rfl | rfl | rfl
      all_goals
        go_enter Try.func42, Try.ntmps42
        go_wp2
        go_ret
        exact ⟨rfl, rfl⟩
    · rw [if_neg m4]
      have n4 : (mo == 4) = false := by rw [beq_eq_false_iff_ne]; omega
      have n6 : (mo == 6) = false := by rw [beq_eq_false_iff_ne]; omega
      have n9 : (mo == 9) = false := by rw [beq_eq_false_iff_ne]; omega
      have n11 : (mo == 11) = false := by rw [beq_eq_false_iff_ne]; omega
      clear m2 m4
      go_enter Try.func42, Try.ntmps42
      go_wp2
      go_ret
      exact ⟨rfl, rfl⟩
theorem rfirst_any (y : Int) (w : World) (h0 : 1970 ≤ y) (h1 : y ≤ 10000) : Calls Try.prog 41 #[.int .i64 y] w fun e w' => e = .returned (.int .i64 (dbyI y)) ∧ w' = w := by
  have e : dbyI y = 365 * (y - 1) + (y - 1) / 4 - (y - 1) / 100 + (y - 1) / 400 - 719162 := by
    unfold dbyI lpI
    have h1969 : (1969 : Int) / 4 - 1969 / 100 + 1969 / 400 = 477 := by decide
    omega
  rw [e]
  clear e
  go_enter Try.func41, Try.ntmps41
  go_wp2
  go_ret
  exact ⟨rfl, rfl⟩
set_option maxRecDepth 100000 in
set_option maxHeartbeats 1600000 in
theorem rmake_yes (y mo d h mi s : Int) (w : World) (H : mkB y mo d h mi s = true) :
    Calls Try.prog 18 #[.int .i64 y, .int .i64 mo, .int .i64 d, .int .i64 h, .int .i64 mi, .int .i64 s] w fun e w' => e = .returned (.tuple #[.int .i64 (mkV y mo d h mi s), .bool true]) ∧ w' = w := by
  obtain ⟨a1, a2, a3, a4, a5, a6, a7, a8, a9, a10, a11, a12⟩ := (mkB_iff _ _ _ _ _ _).1 H
  have hd := (dof_bd y mo (by omega)).2
  obtain ⟨b1, b2⟩ := dby_bd y a1 (by omega)
  have n1 : ¬ y < 1970 := by omega
  have n2 : ¬ 9999 < y := by omega
  have n3 : ¬ mo < 1 := by omega
  have n4 : ¬ 12 < mo := by omega
  have n5 : ¬ d < 1 := by omega
  have n6 : ¬ dofI y mo < d := by omega
  have n7 : ¬ h < 0 := by omega
  have n8 : ¬ 23 < h := by omega
  have n9 : ¬ mi < 0 := by omega
  have n10 : ¬ 59 < mi := by omega
  have n11 : ¬ s < 0 := by omega
  have n12 : ¬ 60 < s := by omega
  have d31 : d ≤ 31 := by omega
  clear H
  go_enter Try.func18, Try.ntmps18
  go_wp2_with (first
    | (go_at_call 42; refine (rlength_any _ _ _ (by omega) (by omega)).mono ?_; rintro e w' ⟨rfl, rfl⟩)
    | (go_at_call 41; refine (rfirst_any _ _ (by omega) (by omega)).mono ?_; rintro e w' ⟨rfl, rfl⟩))
  go_loop [14, 15] (fun n m => ∃ k : Nat, (k : Int) + 1 ≤ mo ∧ m = .int .i64 ((k : Int) + 1) ∧ n = .int .i64 (dbyI y + d - 1 + cumI y k)) (fun _ m => (mo - intOf m).toNat)
  case atStart => exact ⟨0, by omega, rfl, by simp [cumI]⟩
  case round =>
    obtain ⟨k, hk, rfl, rfl⟩ := hrel
    obtain ⟨c1, c2⟩ := cum_bd y (by omega) k
    obtain ⟨c3, c4⟩ := dof_bd y ((k : Int) + 1) (by omega)
    by_cases hlt : (k : Int) + 1 < mo
    · go_wp2_with (go_at_call 42; refine (rlength_any _ _ _ (by omega) (by omega)).mono ?_; rintro e w' ⟨rfl, rfl⟩)
      go_round
      case rel => exact ⟨k + 1, by omega, by go_num, by rw [cumI_succ, Int.add_assoc]⟩
      case measure => simp [intOf]; omega
    · go_wp2_with fail
      go_ret2
      have e : (mo - 1).toNat = k := by omega
      unfold mkV dbI
      rw [e]
      exact ⟨rfl, rfl⟩
end Go.Proofs.Ytnaafdennieedaa
