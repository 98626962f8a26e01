/- Layer 5: days, months, years; date.Make by its contract. -/
import Derived.Test.YtnaafdennieedaaDNum
import Derived.IntWalk
namespace Go.Proofs.Ytnaafdennieedaa
open Go.RowKit

def lpI (y : Int) : Int := y / 4 - y / 100 + y / 400
def dofI (y mo : Int) : Int := if mo = 2 then 28 + lpI y - lpI (y - 1) else if mo = 4 ∨ mo = 6 ∨ mo = 9 ∨ mo = 11 then 30 else 31
def dbyI (y : Int) : Int := 365 * (y - 1970) + lpI (y - 1) - lpI 1969
/-- The days of the first k months. -/
def cumI (y : Int) : Nat → Int
  | 0 => 0
  | k + 1 => cumI y k + dofI y ((k : Int) + 1)
theorem cumI_succ (y : Int) (k : Nat) : cumI y (k + 1) = cumI y k + dofI y ((k : Int) + 1) := rfl
theorem lp_bd (y : Int) (h0 : 0 ≤ y) (h1 : y ≤ 10000) : 0 ≤ lpI y ∧ lpI y ≤ 2425 := by unfold lpI; omega
theorem lp_step (y : Int) (_h0 : 0 ≤ y) : 0 ≤ lpI y - lpI (y - 1) ∧ lpI y - lpI (y - 1) ≤ 1 := by unfold lpI; omega
theorem dof_bd (y mo : Int) (h0 : 0 ≤ y) : 28 ≤ dofI y mo ∧ dofI y mo ≤ 31 := by
  have := lp_step y h0
  unfold dofI; split
  · omega
  · split <;> omega
theorem cum_bd (y : Int) (h0 : 0 ≤ y) : ∀ k : Nat, 28 * (k : Int) ≤ cumI y k ∧ cumI y k ≤ 31 * (k : Int)
  | 0 => by simp [cumI]
  | k + 1 => by
    have := cum_bd y h0 k
    have := dof_bd y ((k : Int) + 1) h0
    rw [cumI_succ]; omega
theorem dby_bd (y : Int) (h0 : 1970 ≤ y) (h1 : y ≤ 10000) : 0 ≤ dbyI y ∧ dbyI y ≤ 2932897 := by unfold dbyI lpI; omega
theorem dby_succ (y : Int) (_h0 : 1970 ≤ y) : 365 ≤ dbyI (y + 1) - dbyI y ∧ dbyI (y + 1) - dbyI y ≤ 366 ∧ dbyI (y + 1) = dbyI y + 365 + (lpI y - lpI (y - 1)) := by
  have e : y + 1 - 1 = y := by omega
  unfold dbyI; rw [e]; unfold lpI; omega

theorem leaps_any (y : Int) (w : World) (h0 : 0 ≤ y) (h1 : y ≤ 10000) : Calls Try.prog 47 #[.int .i64 y] w fun e w' => e = .returned (.int .i64 (lpI y)) ∧ w' = w := by
  go_enter Try.func47, Try.ntmps47
  go_wp2
  go_ret
  exact ⟨rfl, rfl⟩
theorem dby_any (y : Int) (w : World) (h0 : 1970 ≤ y) (h1 : y ≤ 10000) : Calls Try.prog 37 #[.int .i64 y] w fun e w' => e = .returned (.int .i64 (dbyI y)) ∧ w' = w := by
  have b1 := lp_bd (y - 1) (by omega) (by omega)
  have b2 := lp_bd 1969 (by omega) (by omega)
  obtain ⟨b3, b4⟩ := b1
  obtain ⟨b5, b6⟩ := b2
  go_enter Try.func37, Try.ntmps37
  go_wp2_with (go_at_call 47; refine (leaps_any _ _ (by omega) (by omega)).mono ?_; rintro e w' ⟨rfl, rfl⟩)
  go_ret
  exact ⟨rfl, rfl⟩
theorem dof_any (y mo : Int) (w : World) (h0 : 1970 ≤ y) (h1 : y ≤ 10000) : Calls Try.prog 38 #[.int .i64 y, .int .i64 mo] w fun e w' => e = .returned (.int .i64 (dofI y mo)) ∧ w' = w := by
  obtain ⟨b1, b2⟩ := lp_bd y (by omega) (by omega)
  obtain ⟨b3, b4⟩ := lp_bd (y - 1) (by omega) (by omega)
  unfold dofI
  by_cases m2 : mo = 2
  · subst m2
    go_enter Try.func38, Try.ntmps38
    go_wp2_with (go_at_call 47; refine (leaps_any _ _ (by omega) (by omega)).mono ?_; rintro e w' ⟨rfl, rfl⟩)
    go_ret
    exact ⟨rfl, rfl⟩
  · rw [if_neg m2]
    have n2 : (mo == 2) = false := by rw [beq_eq_false_iff_ne]; exact m2
    by_cases m4 : mo = 4
    · subst m4
      clear m2
      go_enter Try.func38, Try.ntmps38
      go_wp2
      go_ret
      exact ⟨rfl, rfl⟩
    have n4 : (mo == 4) = false := by rw [beq_eq_false_iff_ne]; exact m4
    by_cases m6 : mo = 6
    · subst m6
      clear m2 m4
      go_enter Try.func38, Try.ntmps38
      go_wp2
      go_ret
      exact ⟨rfl, rfl⟩
    have n6 : (mo == 6) = false := by rw [beq_eq_false_iff_ne]; exact m6
    by_cases m9 : mo = 9
    · subst m9
      clear m2 m4 m6
      go_enter Try.func38, Try.ntmps38
      go_wp2
      go_ret
      exact ⟨rfl, rfl⟩
    have n9 : (mo == 9) = false := by rw [beq_eq_false_iff_ne]; exact m9
    by_cases m11 : mo = 11
    · subst m11
      clear m2 m4 m6 m9
      go_enter Try.func38, Try.ntmps38
      go_wp2
      go_ret
      exact ⟨rfl, rfl⟩
    have n11 : (mo == 11) = false := by rw [beq_eq_false_iff_ne]; exact m11
    rw [if_neg (by omega)]
    clear m2 m4 m6 m9 m11
    go_enter Try.func38, Try.ntmps38
    go_wp2
    go_ret
    exact ⟨rfl, rfl⟩
/-- The days from 1970 on. -/
def dbI (y mo d : Int) : Int := dbyI y + d - 1 + cumI y (mo - 1).toNat
theorem db_any (y mo d : Int) (w : World) (h0 : 1970 ≤ y) (h1 : y ≤ 9999) (m0 : 1 ≤ mo) (m1 : mo ≤ 12) (d0 : 1 ≤ d) (d1 : d ≤ 31) :
    Calls Try.prog 44 #[.int .i64 y, .int .i64 mo, .int .i64 d] w fun e w' => e = .returned (.int .i64 (dbI y mo d)) ∧ w' = w := by
  obtain ⟨b1, b2⟩ := dby_bd y h0 (by omega)
  unfold dbI
  obtain ⟨R, hR⟩ : ∃ R, R = dbyI y + d - 1 + cumI y (mo - 1).toNat := ⟨_, rfl⟩
  rw [← hR]
  have HR := Lib.hid hR
  clear hR
  go_enter Try.func44, Try.ntmps44
  go_wp2_with (go_at_call 37; refine (dby_any _ _ (by omega) (by omega)).mono ?_; rintro e w' ⟨rfl, rfl⟩)
  go_loop [7, 8] (fun n m => ∃ k : Nat, (k : Int) + 1 ≤ mo ∧ m = .int .i64 ((k : Int) + 1) ∧ n = .int .i64 (dbyI y + d - 1 + cumI y k)) (fun _ m => (mo - intOf m).toNat)
  case atStart => exact ⟨0, by omega, rfl, by simp [cumI]⟩
  case round =>
    obtain ⟨k, hk, rfl, rfl⟩ := hrel
    obtain ⟨c1, c2⟩ := cum_bd y (by omega) k
    obtain ⟨c3, c4⟩ := dof_bd y ((k : Int) + 1) (by omega)
    by_cases hlt : (k : Int) + 1 < mo
    · go_wp2_with (go_at_call 38; refine (dof_any _ _ _ (by omega) (by omega)).mono ?_; rintro e w' ⟨rfl, rfl⟩)
      go_round
      case rel => exact ⟨k + 1, by omega, by go_num, by rw [cumI_succ, Int.add_assoc]⟩
      case measure => simp [intOf]; omega
    · go_wp2_with fail
      go_ret
      have e : (mo - 1).toNat = k := by omega
      rw [HR.out, e]
      exact ⟨rfl, rfl⟩

/-- May a time be? -/
def mkB (y mo d h mi s : Int) : Bool := decide (1970 ≤ y ∧ y ≤ 9999 ∧ 1 ≤ mo ∧ mo ≤ 12 ∧ 1 ≤ d ∧ d ≤ dofI y mo ∧ 0 ≤ h ∧ h ≤ 23 ∧ 0 ≤ mi ∧ mi ≤ 59 ∧ 0 ≤ s ∧ s ≤ 60)
def mkV (y mo d h mi s : Int) : Int := dbI y mo d * 86400 + h * 3600 + mi * 60 + min s 59
theorem mkB_iff (y mo d h mi s : Int) : mkB y mo d h mi s = true ↔ (1970 ≤ y ∧ y ≤ 9999 ∧ 1 ≤ mo ∧ mo ≤ 12 ∧ 1 ≤ d ∧ d ≤ dofI y mo ∧ 0 ≤ h ∧ h ≤ 23 ∧ 0 ≤ mi ∧ mi ≤ 59 ∧ 0 ≤ s ∧ s ≤ 60) := by
  unfold mkB; exact decide_eq_true_iff
def makeE (y mo d h mi s : Int) : Ending := .returned (.tuple #[if mkB y mo d h mi s = true then .int .i64 (mkV y mo d h mi s) else .int .i64 0, .bool (mkB y mo d h mi s)])
theorem db_bd (y mo d : Int) (h0 : 1970 ≤ y) (h1 : y ≤ 9999) (_m0 : 1 ≤ mo) (m1 : mo ≤ 12) (d0 : 1 ≤ d) (d1 : d ≤ 31) : 0 ≤ dbI y mo d ∧ dbI y mo d ≤ 2940000 := by
  have := dby_bd y h0 (by omega)
  have := cum_bd y (by omega) (mo - 1).toNat
  unfold dbI; omega
set_option maxRecDepth 100000 in
theorem make_yes (y mo d h mi s : Int) (w : World) (H : mkB y mo d h mi s = true) :
    Calls Try.prog 17 #[.int .i64 y, .int .i64 mo, .int .i64 d, .int .i64 h, .int .i64 mi, .int .i64 s] w fun e w' => e = .returned (.tuple #[.int .i64 (mkV y mo d h mi s), .bool true]) ∧ w' = w := by
  obtain ⟨a1, a2, a3, a4, a5, a6, a7, a8, a9, a10, a11, a12⟩ := (mkB_iff _ _ _ _ _ _).1 H
  have hd := (dof_bd y mo (by omega)).2
  obtain ⟨b1, b2⟩ := db_bd y mo d a1 a2 a3 a4 a5 (by omega)
  have n1 : ¬ y < 1970 := by omega
  have n2 : ¬ 9999 < y := by omega
  have n3 : ¬ mo < 1 := by omega
  have n4 : ¬ 12 < mo := by omega
  have n5 : ¬ d < 1 := by omega
  have n6 : ¬ dofI y mo < d := by omega
  have n7 : ¬ h < 0 := by omega
  have n8 : ¬ 23 < h := by omega
  have n9 : ¬ mi < 0 := by omega
  have n10 : ¬ 59 < mi := by omega
  have n11 : ¬ s < 0 := by omega
  have n12 : ¬ 60 < s := by omega
  clear H
  go_enter Try.func17, Try.ntmps17
  go_wp2_with (first
    | (go_at_call 38; refine (dof_any _ _ _ (by omega) (by omega)).mono ?_; rintro e w' ⟨rfl, rfl⟩)
    | (go_at_call 44; refine (db_any _ _ _ _ (by omega) (by omega) (by omega) (by omega) (by omega) (by omega)).mono ?_; rintro e w' ⟨rfl, rfl⟩))
  go_ret2
  exact ⟨rfl, rfl⟩
set_option maxRecDepth 100000 in
set_option maxHeartbeats 1600000 in
theorem make_no (y mo d h mi s : Int) (w : World) (H : mkB y mo d h mi s = false) :
    Calls Try.prog 17 #[.int .i64 y, .int .i64 mo, .int .i64 d, .int .i64 h, .int .i64 mi, .int .i64 s] w fun e w' => e = .returned (.tuple #[.int .i64 0, .bool false]) ∧ w' = w := by
  have H' : ¬ (1970 ≤ y ∧ y ≤ 9999 ∧ 1 ≤ mo ∧ mo ≤ 12 ∧ 1 ≤ d ∧ d ≤ dofI y mo ∧ 0 ≤ h ∧ h ≤ 23 ∧ 0 ≤ mi ∧ mi ≤ 59 ∧ 0 ≤ s ∧ s ≤ 60) := by
    rw [← mkB_iff, H]; simp
  clear H
  by_cases c0 : y < 1970
  · clear H'
    go_enter Try.func17, Try.ntmps17
    go_wp2_with (go_at_call 38; refine (dof_any _ _ _ (by omega) (by omega)).mono ?_; rintro e w' ⟨rfl, rfl⟩)
    go_ret2
    exact ⟨rfl, rfl⟩
  by_cases c1 : 9999 < y
  · clear H'
    go_enter Try.func17, Try.ntmps17
    go_wp2_with (go_at_call 38; refine (dof_any _ _ _ (by omega) (by omega)).mono ?_; rintro e w' ⟨rfl, rfl⟩)
    go_ret2
    exact ⟨rfl, rfl⟩
  by_cases c2 : mo < 1
  · clear H'
    go_enter Try.func17, Try.ntmps17
    go_wp2_with (go_at_call 38; refine (dof_any _ _ _ (by omega) (by omega)).mono ?_; rintro e w' ⟨rfl, rfl⟩)
    go_ret2
    exact ⟨rfl, rfl⟩
  by_cases c3 : 12 < mo
  · clear H'
    go_enter Try.func17, Try.ntmps17
    go_wp2_with (go_at_call 38; refine (dof_any _ _ _ (by omega) (by omega)).mono ?_; rintro e w' ⟨rfl, rfl⟩)
    go_ret2
    exact ⟨rfl, rfl⟩
  by_cases c4 : d < 1
  · clear H'
    go_enter Try.func17, Try.ntmps17
    go_wp2_with (go_at_call 38; refine (dof_any _ _ _ (by omega) (by omega)).mono ?_; rintro e w' ⟨rfl, rfl⟩)
    go_ret2
    exact ⟨rfl, rfl⟩
  by_cases c5 : dofI y mo < d
  · clear H'
    go_enter Try.func17, Try.ntmps17
    go_wp2_with (go_at_call 38; refine (dof_any _ _ _ (by omega) (by omega)).mono ?_; rintro e w' ⟨rfl, rfl⟩)
    go_ret2
    exact ⟨rfl, rfl⟩
  by_cases c6 : h < 0
  · clear H'
    go_enter Try.func17, Try.ntmps17
    go_wp2_with (go_at_call 38; refine (dof_any _ _ _ (by omega) (by omega)).mono ?_; rintro e w' ⟨rfl, rfl⟩)
    go_ret2
    exact ⟨rfl, rfl⟩
  by_cases c7 : 23 < h
  · clear H'
    go_enter Try.func17, Try.ntmps17
    go_wp2_with (go_at_call 38; refine (dof_any _ _ _ (by omega) (by omega)).mono ?_; rintro e w' ⟨rfl, rfl⟩)
    go_ret2
    exact ⟨rfl, rfl⟩
  by_cases c8 : mi < 0
  · clear H'
    go_enter Try.func17, Try.ntmps17
    go_wp2_with (go_at_call 38; refine (dof_any _ _ _ (by omega) (by omega)).mono ?_; rintro e w' ⟨rfl, rfl⟩)
    go_ret2
    exact ⟨rfl, rfl⟩
  by_cases c9 : 59 < mi
  · clear H'
    go_enter Try.func17, Try.ntmps17
    go_wp2_with (go_at_call 38; refine (dof_any _ _ _ (by omega) (by omega)).mono ?_; rintro e w' ⟨rfl, rfl⟩)
    go_ret2
    exact ⟨rfl, rfl⟩
  by_cases c10 : s < 0
  · clear H'
    go_enter Try.func17, Try.ntmps17
    go_wp2_with (go_at_call 38; refine (dof_any _ _ _ (by omega) (by omega)).mono ?_; rintro e w' ⟨rfl, rfl⟩)
    go_ret2
    exact ⟨rfl, rfl⟩
  by_cases c11 : 60 < s
  · clear H'
    go_enter Try.func17, Try.ntmps17
    go_wp2_with (go_at_call 38; refine (dof_any _ _ _ (by omega) (by omega)).mono ?_; rintro e w' ⟨rfl, rfl⟩)
    go_ret2
    exact ⟨rfl, rfl⟩
  exact absurd ⟨by omega, by omega, by omega, by omega, by omega, by omega, by omega, by omega, by omega, by omega, by omega, by omega⟩ H'
theorem make_any (y mo d h mi s : Int) (w : World) :
    Calls Try.prog 17 #[.int .i64 y, .int .i64 mo, .int .i64 d, .int .i64 h, .int .i64 mi, .int .i64 s] w fun e w' => e = makeE y mo d h mi s ∧ w' = w := by
  unfold makeE
  cases H : mkB y mo d h mi s with
  | true => exact make_yes y mo d h mi s w H
  | false => exact make_no y mo d h mi s w H
end Go.Proofs.Ytnaafdennieedaa
