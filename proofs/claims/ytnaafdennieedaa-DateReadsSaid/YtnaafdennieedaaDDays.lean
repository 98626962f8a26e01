/- Layer 5: the first look of the statements; DateDays. -/
import Derived.Test.YtnaafdennieedaaDMail
namespace Go.Proofs.Ytnaafdennieedaa
open Go.RowKit

theorem dm_first : mailR [83, 117, 110, 44, 32, 48, 54, 32, 78, 111, 118, 32, 49, 57, 57, 52, 32, 48, 56, 58, 52, 57, 58, 51, 55, 32, 71, 77, 84] = (784111777, 0) := by decide +kernel
theorem dn_first : netR [49, 57, 57, 52, 45, 49, 49, 45, 48, 54, 84, 48, 57, 58, 52, 57, 58, 51, 55, 43, 48, 49, 58, 48, 48] = (784111777, 0) := by decide +kernel
theorem dfirst_any (w : World) : Calls Try.prog 8 #[] w fun e w' => e = .returned (.bool true) ∧ Below w.heap.size w w' := by
  go_enter Try.func8, Try.ntmps8
  go_wp2_with fail
  refine (mail_any [83, 117, 110, 44, 32, 48, 54, 32, 78, 111, 118, 32, 49, 57, 57, 52, 32, 48, 56, 58, 52, 57, 58, 51, 55, 32, 71, 77, 84] _ (by decide)).mono ?_
  rintro e w1 ⟨rfl, hb1⟩
  rw [dm_first]
  unfold twoE
  go_wp2_with fail
  refine (net_any [49, 57, 57, 52, 45, 49, 49, 45, 48, 54, 84, 48, 57, 58, 52, 57, 58, 51, 55, 43, 48, 49, 58, 48, 48] _ (by decide)).mono ?_
  rintro e w2 ⟨rfl, hb2⟩
  rw [dn_first]
  unfold twoE
  have HB := Lib.hid (hb1.trans (hb2.mono hb1.size))
  clear hb1 hb2
  go_wp2_with fail
  go_ret
  exact ⟨rfl, HB.out⟩

theorem mkB_days (y mo d h mi s : Int) (h1 : 0 ≤ h ∧ h ≤ 23) (h2 : 0 ≤ mi ∧ mi ≤ 59) (h3 : 0 ≤ s ∧ s ≤ 60) : mkB y mo d h mi s = mkB y mo d 0 0 0 := by
  rw [Bool.eq_iff_iff, mkB_iff, mkB_iff]
  omega
theorem mkV_days (y mo d h mi s : Int) : mkV y mo d h mi s = mkV y mo d 0 0 0 + (h * 3600 + mi * 60 + min s 59) := by
  unfold mkV; omega
theorem cum12 (y : Int) : cumI y 12 = 365 + (lpI y - lpI (y - 1)) := by
  simp only [cumI, dofI]; simp; omega
/-- A day behind a day of the same month. -/
theorem next_day (y mo d : Int) (H : mkB y mo d 0 0 0 = true) (hd : d + 1 ≤ dofI y mo) : mkB y mo (d + 1) 0 0 0 = true ∧ mkV y mo (d + 1) 0 0 0 = mkV y mo d 0 0 0 + 86400 := by
  obtain ⟨a1, a2, a3, a4, a5, a6, _⟩ := (mkB_iff _ _ _ _ _ _).1 H
  refine ⟨(mkB_iff _ _ _ _ _ _).2 ⟨a1, a2, a3, a4, by omega, hd, by omega, by omega, by omega, by omega, by omega, by omega⟩, ?_⟩
  unfold mkV dbI; omega
theorem last_day (y mo d : Int) (hd : ¬ d + 1 ≤ dofI y mo) : mkB y mo (d + 1) 0 0 0 = false := by
  cases h : mkB y mo (d + 1) 0 0 0 with
  | false => rfl
  | true => exact absurd ((mkB_iff _ _ _ _ _ _).1 h).2.2.2.2.2.1 hd
theorem next_month (y mo d : Int) (H : mkB y mo d 0 0 0 = true) (hd : ¬ d + 1 ≤ dofI y mo) (hm : mo + 1 ≤ 12) : mkB y (mo + 1) 1 0 0 0 = true ∧ mkV y (mo + 1) 1 0 0 0 = mkV y mo d 0 0 0 + 86400 := by
  obtain ⟨a1, a2, a3, a4, a5, a6, _⟩ := (mkB_iff _ _ _ _ _ _).1 H
  have := dof_bd y (mo + 1) (by omega)
  refine ⟨(mkB_iff _ _ _ _ _ _).2 ⟨a1, a2, by omega, hm, by omega, by omega, by omega, by omega, by omega, by omega, by omega, by omega⟩, ?_⟩
  unfold mkV dbI
  have e : (mo + 1 - 1).toNat = (mo - 1).toNat + 1 := by omega
  rw [e, cumI_succ]
  have e2 : ((mo - 1).toNat : Int) + 1 = mo := by omega
  rw [e2]; omega
theorem last_month (y mo : Int) (hm : ¬ mo + 1 ≤ 12) : mkB y (mo + 1) 1 0 0 0 = false := by
  cases h : mkB y (mo + 1) 1 0 0 0 with
  | false => rfl
  | true => exact absurd ((mkB_iff _ _ _ _ _ _).1 h).2.2.2.1 hm
theorem next_year (y mo d : Int) (H : mkB y mo d 0 0 0 = true) (hd : ¬ d + 1 ≤ dofI y mo) (hm : ¬ mo + 1 ≤ 12) (hy : y + 1 ≤ 9999) : mkB (y + 1) 1 1 0 0 0 = true ∧ mkV (y + 1) 1 1 0 0 0 = mkV y mo d 0 0 0 + 86400 := by
  obtain ⟨a1, a2, a3, a4, a5, a6, _⟩ := (mkB_iff _ _ _ _ _ _).1 H
  have := dof_bd (y + 1) 1 (by omega)
  obtain rfl : mo = 12 := by omega
  refine ⟨(mkB_iff _ _ _ _ _ _).2 ⟨by omega, hy, by omega, by omega, by omega, by omega, by omega, by omega, by omega, by omega, by omega, by omega⟩, ?_⟩
  have c := cum12 y
  have e : cumI y 12 = cumI y 11 + dofI y 12 := rfl
  have s := (dby_succ y a1).2.2
  unfold mkV dbI
  have e1 : ((1 : Int) - 1).toNat = 0 := rfl
  have e2 : ((12 : Int) - 1).toNat = 11 := rfl
  rw [e1, e2, s]
  simp only [cumI] at *
  omega
theorem last_year (y : Int) (hy : ¬ y + 1 ≤ 9999) : mkB (y + 1) 1 1 0 0 0 = false := by
  cases h : mkB (y + 1) 1 1 0 0 0 with
  | false => rfl
  | true => exact absurd ((mkB_iff _ _ _ _ _ _).1 h).2.1 hy

set_option maxHeartbeats 1600000 in
set_option maxRecDepth 100000 in
theorem days_last (w : World) : Calls Try.prog 5 #[.int .i64 9999, .int .i64 12, .int .i64 31] w fun e w' => e = .returned (.bool true) ∧ Below w.heap.size w w' := by
  have H : mkB 9999 12 31 0 0 0 = true := by decide
  obtain ⟨v1, v2⟩ := mkV_bd 9999 12 31 0 0 0 H
  have M1 := Lib.hid (fun W => make_yes 9999 12 31 0 0 0 W H)
  have M5 := Lib.hid (fun W => make_yes 9999 12 31 23 59 60 W (by decide))
  have M6 := Lib.hid (fun W => make_yes 9999 12 31 23 59 59 W (by decide))
  have M2 := Lib.hid (fun W => make_no 9999 12 32 0 0 0 W (by decide))
  have M3 := Lib.hid (fun W => make_no 9999 13 1 0 0 0 W (by decide))
  have M4 := Lib.hid (fun W => make_no 10000 1 1 0 0 0 W (by decide))
  rw [mkV_days 9999 12 31 23 59 60] at M5
  rw [mkV_days 9999 12 31 23 59 59] at M6
  obtain ⟨V, hV⟩ : ∃ V, V = mkV 9999 12 31 0 0 0 := ⟨_, rfl⟩
  rw [← hV] at v1 v2 M1 M5 M6
  have e59 : V + (23 * 3600 + 59 * 60 + min 59 59) = V + 86399 := by omega
  have e60 : V + (23 * 3600 + 59 * 60 + min 60 59) = V + 86399 := by omega
  rw [e60] at M5
  rw [e59] at M6
  clear hV H e59 e60
  go_enter Try.func5, Try.ntmps5
  go_wp2_with fail
  refine (dfirst_any _).mono ?_
  rintro e w1 ⟨rfl, hb1⟩
  have HB1 := Lib.hid hb1
  clear hb1
  go_wp2_with (first
    | (go_at_call 17; with_reducible refine (M1.out _).mono ?_; rintro e w' ⟨rfl, rfl⟩)
    | (go_at_call 17; with_reducible refine (M2.out _).mono ?_; rintro e w' ⟨rfl, rfl⟩)
    | (go_at_call 17; with_reducible refine (M3.out _).mono ?_; rintro e w' ⟨rfl, rfl⟩)
    | (go_at_call 17; with_reducible refine (M4.out _).mono ?_; rintro e w' ⟨rfl, rfl⟩)
    | (go_at_call 17; with_reducible refine (M5.out _).mono ?_; rintro e w' ⟨rfl, rfl⟩)
    | (go_at_call 17; with_reducible refine (M6.out _).mono ?_; rintro e w' ⟨rfl, rfl⟩))
  refine (dfirst_any _).mono ?_
  rintro e w2 ⟨rfl, hb2⟩
  have HB2 := Lib.hid (HB1.out.trans (hb2.mono HB1.out.size))
  clear hb2
  go_wp2_with fail
  go_ret
  exact ⟨rfl, HB2.out⟩
set_option maxHeartbeats 6400000 in
set_option maxRecDepth 100000 in
theorem days_walk (y mo d : Int) (w : World) (_hy : -9223372036854775808 ≤ y ∧ y ≤ 9223372036854775807) (_hm : -9223372036854775808 ≤ mo ∧ mo ≤ 9223372036854775807) (_hd : -9223372036854775808 ≤ d ∧ d ≤ 9223372036854775807) :
    Calls Try.prog 5 #[.int .i64 y, .int .i64 mo, .int .i64 d] w fun e w' => e = .returned (.bool true) ∧ Below w.heap.size w w' := by
  cases H : mkB y mo d 0 0 0 with
  | false =>
    have M1 := Lib.hid (fun W => make_no y mo d 0 0 0 W H)
    have M2 := Lib.hid (fun W => make_no y mo d 23 59 59 W (by rw [mkB_days _ _ _ _ _ _ (by omega) (by omega) (by omega)]; exact H))
    clear H
    go_enter Try.func5, Try.ntmps5
    go_wp2_with fail
    refine (dfirst_any _).mono ?_
    rintro e w1 ⟨rfl, hb1⟩
    have HB1 := Lib.hid hb1
    clear hb1
    go_wp2_with (first
      | (go_at_call 17; with_reducible refine (M1.out _).mono ?_; rintro e w' ⟨rfl, rfl⟩)
      | (go_at_call 17; with_reducible refine (M2.out _).mono ?_; rintro e w' ⟨rfl, rfl⟩))
    refine (dfirst_any _).mono ?_
    rintro e w2 ⟨rfl, hb2⟩
    have HB2 := Lib.hid (HB1.out.trans (hb2.mono HB1.out.size))
    clear hb2
    go_wp2_with fail
    go_ret
    exact ⟨rfl, HB2.out⟩
  | true =>
    obtain ⟨a1, a2, a3, a4, a5, a6, _⟩ := (mkB_iff _ _ _ _ _ _).1 H
    have hdb := dof_bd y mo (by omega)
    obtain ⟨v1, v2⟩ := mkV_bd y mo d 0 0 0 H
    have M1 := Lib.hid (fun W => make_yes y mo d 0 0 0 W H)
    have M5 := Lib.hid (fun W => make_yes y mo d 23 59 60 W (by rw [mkB_days _ _ _ _ _ _ (by omega) (by omega) (by omega)]; exact H))
    have M6 := Lib.hid (fun W => make_yes y mo d 23 59 59 W (by rw [mkB_days _ _ _ _ _ _ (by omega) (by omega) (by omega)]; exact H))
    rw [mkV_days y mo d 23 59 60] at M5
    rw [mkV_days y mo d 23 59 59] at M6
    have ND := fun h => next_day y mo d H h
    have NM := fun h1 h2 => next_month y mo d H h1 h2
    have NY := fun h1 h2 h3 => next_year y mo d H h1 h2 h3
    obtain ⟨V, hV⟩ : ∃ V, V = mkV y mo d 0 0 0 := ⟨_, rfl⟩
    simp only [← hV] at v1 v2 M1 M5 M6 ND NM NY
    have e59 : V + (23 * 3600 + 59 * 60 + min 59 59) = V + 86399 := by omega
    have e60 : V + (23 * 3600 + 59 * 60 + min 60 59) = V + 86399 := by omega
    rw [e60] at M5
    rw [e59] at M6
    clear hV H e59 e60
    have hd31 : d ≤ 31 := by omega
    by_cases hd : d + 1 ≤ dofI y mo
    · obtain ⟨q1, q2⟩ := ND hd
      have M2 := Lib.hid (fun W => make_yes y mo (d + 1) 0 0 0 W q1)
      rw [q2] at M2
      clear ND NM NY q1 q2 hdb hd a6
      go_enter Try.func5, Try.ntmps5
      go_wp2_with fail
      refine (dfirst_any _).mono ?_
      rintro e w1 ⟨rfl, hb1⟩
      have HB1 := Lib.hid hb1
      clear hb1
      go_wp2_with (first
        | (go_at_call 17; with_reducible refine (M1.out _).mono ?_; rintro e w' ⟨rfl, rfl⟩)
        | (go_at_call 17; with_reducible refine (M2.out _).mono ?_; rintro e w' ⟨rfl, rfl⟩)
        | (go_at_call 17; with_reducible refine (M5.out _).mono ?_; rintro e w' ⟨rfl, rfl⟩)
        | (go_at_call 17; with_reducible refine (M6.out _).mono ?_; rintro e w' ⟨rfl, rfl⟩))
      refine (dfirst_any _).mono ?_
      rintro e w2 ⟨rfl, hb2⟩
      have HB2 := Lib.hid (HB1.out.trans (hb2.mono HB1.out.size))
      clear hb2
      go_wp2_with fail
      go_ret
      exact ⟨rfl, HB2.out⟩
    have M2 := Lib.hid (fun W => make_no y mo (d + 1) 0 0 0 W (last_day y mo d hd))
    by_cases hm : mo + 1 ≤ 12
    · obtain ⟨q1, q2⟩ := NM hd hm
      have M3 := Lib.hid (fun W => make_yes y (mo + 1) 1 0 0 0 W q1)
      rw [q2] at M3
      clear ND NM NY q1 q2 hdb hd a6
      go_enter Try.func5, Try.ntmps5
      go_wp2_with fail
      refine (dfirst_any _).mono ?_
      rintro e w1 ⟨rfl, hb1⟩
      have HB1 := Lib.hid hb1
      clear hb1
      go_wp2_with (first
        | (go_at_call 17; with_reducible refine (M1.out _).mono ?_; rintro e w' ⟨rfl, rfl⟩)
        | (go_at_call 17; with_reducible refine (M2.out _).mono ?_; rintro e w' ⟨rfl, rfl⟩)
        | (go_at_call 17; with_reducible refine (M3.out _).mono ?_; rintro e w' ⟨rfl, rfl⟩)
        | (go_at_call 17; with_reducible refine (M5.out _).mono ?_; rintro e w' ⟨rfl, rfl⟩)
        | (go_at_call 17; with_reducible refine (M6.out _).mono ?_; rintro e w' ⟨rfl, rfl⟩))
      refine (dfirst_any _).mono ?_
      rintro e w2 ⟨rfl, hb2⟩
      have HB2 := Lib.hid (HB1.out.trans (hb2.mono HB1.out.size))
      clear hb2
      go_wp2_with fail
      go_ret
      exact ⟨rfl, HB2.out⟩
    have M3 := Lib.hid (fun W => make_no y (mo + 1) 1 0 0 0 W (last_month y mo hm))
    by_cases hy : y + 1 ≤ 9999
    · obtain ⟨q1, q2⟩ := NY hd hm hy
      have M4 := Lib.hid (fun W => make_yes (y + 1) 1 1 0 0 0 W q1)
      rw [q2] at M4
      clear ND NM NY q1 q2 hdb hd a6
      go_enter Try.func5, Try.ntmps5
      go_wp2_with fail
      refine (dfirst_any _).mono ?_
      rintro e w1 ⟨rfl, hb1⟩
      have HB1 := Lib.hid hb1
      clear hb1
      go_wp2_with (first
        | (go_at_call 17; with_reducible refine (M1.out _).mono ?_; rintro e w' ⟨rfl, rfl⟩)
        | (go_at_call 17; with_reducible refine (M2.out _).mono ?_; rintro e w' ⟨rfl, rfl⟩)
        | (go_at_call 17; with_reducible refine (M3.out _).mono ?_; rintro e w' ⟨rfl, rfl⟩)
        | (go_at_call 17; with_reducible refine (M4.out _).mono ?_; rintro e w' ⟨rfl, rfl⟩)
        | (go_at_call 17; with_reducible refine (M5.out _).mono ?_; rintro e w' ⟨rfl, rfl⟩)
        | (go_at_call 17; with_reducible refine (M6.out _).mono ?_; rintro e w' ⟨rfl, rfl⟩))
      refine (dfirst_any _).mono ?_
      rintro e w2 ⟨rfl, hb2⟩
      have HB2 := Lib.hid (HB1.out.trans (hb2.mono HB1.out.size))
      clear hb2
      go_wp2_with fail
      go_ret
      exact ⟨rfl, HB2.out⟩
    have M4 := Lib.hid (fun W => make_no (y + 1) 1 1 0 0 0 W (last_year y hy))
    have e31 : dofI y mo = 31 := by
      have : mo = 12 := by omega
      subst this; rfl
    obtain rfl : y = 9999 := by omega
    obtain rfl : mo = 12 := by omega
    obtain rfl : d = 31 := by omega
    exact days_last w
end Go.Proofs.Ytnaafdennieedaa
