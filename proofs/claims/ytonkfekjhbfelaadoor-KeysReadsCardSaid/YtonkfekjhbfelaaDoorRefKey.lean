/- hblref14.Key, by its contract. -/
import Derived.Test.YtonkfekjhbfelaaDoorKMath
import Derived.Test.YtonkfekjhbfelaaDoorRefDig
import Derived.Test.YtonkfekjhbfelaaDoorRefName
import Derived.Test.YtonkfekjhbfelaaDoorRefHex
import Derived.Deep.QuietTactic
import Derived.BigQuiet
import Derived.Deep.RegionWith
namespace Go.Proofs.YtonkfekjhbfelaaDoor
open Go.RowKit
attribute [local go_sem] str_cat
theorem rdig6_any (i : Int) (w : World) (hi : -9223372036854775808 ≤ i ∧ i ≤ 9223372036854775807) :
    Calls Tryd.prog 32 #[.int .i64 i, .int .i64 6] w fun e w' => e = .returned (.tuple #[str (if i < 0 ∨ 999999 < i then [] else digL i.toNat 6), .bool (!decide (i < 0 ∨ 999999 < i))]) ∧ Below w.heap.size w w' := by
  by_cases h0 : i < 0
  · rw [if_pos (show (i < 0 ∨ 999999 < i) from .inl h0), decide_eq_true (show (i < 0 ∨ 999999 < i) from .inl h0)]
    refine (rdig_bad i 6 w (.inl h0)).mono ?_
    rintro e w' ⟨rfl, rfl⟩
    exact ⟨rfl, Below.refl _ _⟩
  · obtain ⟨n, rfl⟩ : ∃ n : Nat, i = (n : Int) := ⟨i.toNat, by omega⟩
    refine (rdig_any n 6 w (by omega) (by omega) (by omega)).mono ?_
    rintro e w' ⟨rfl, hb⟩
    refine ⟨?_, hb⟩
    unfold digE
    have e6 : (10 : Nat) ^ 6 = 1000000 := by decide
    rw [e6]
    by_cases h : n < 1000000
    · rw [if_pos h, if_neg (show ¬ ((n : Int) < 0 ∨ 999999 < (n : Int)) by omega), decide_eq_true h, decide_eq_false (show ¬ ((n : Int) < 0 ∨ 999999 < (n : Int)) by omega)]
      simp
    · rw [if_neg h, if_pos (show ((n : Int) < 0 ∨ 999999 < (n : Int)) by omega), decide_eq_false h, decide_eq_true (show ((n : Int) < 0 ∨ 999999 < (n : Int)) by omega)]
      simp
theorem name20 {f : List UInt8} {F : Bool} (hF : F = nameB f) (h : F = true) : f.length ≤ 20 := (nameB_len (hF ▸ h)).2
theorem underL_no {a b : List UInt8} (h : nameB b = false) : underL a b = [] := by unfold underL; rw [if_pos (.inr h)]
theorem withinL_no {a b : List UInt8} (h : nameB b = false) : withinL a b = [] := by unfold withinL; rw [if_pos (underL_no h)]
theorem underL_nil (b : List UInt8) : underL [] b = [] := by unfold underL; rw [if_pos (.inl rfl)]
theorem withinL_nil (b : List UInt8) : withinL [] b = [] := by unfold withinL; rw [if_pos (underL_nil b)]
theorem numbL_nil (i : Int) : numbL [] i = [] := by unfold numbL; rw [if_pos (.inl rfl)]
theorem underL_is {a b : List UInt8} (ha : a ≠ []) (h : nameB b = true) : underL a b = a ++ b := by unfold underL; rw [if_neg (by simp [ha, h])]
theorem withinL_is {a b : List UInt8} (ha : a ≠ []) (h : nameB b = true) : withinL a b = a ++ b ++ [47] := by
  unfold withinL
  rw [underL_is ha h, if_neg (by simp [ha])]
theorem numbL_is {a : List UInt8} {i : Int} (ha : a ≠ []) (h : ¬ (i < 0 ∨ 999999 < i)) : numbL a i = a ++ digL i.toNat 6 := by unfold numbL; rw [if_neg (by simp only [not_or] at h ⊢; exact ⟨ha, h.1, h.2⟩)]
theorem kept2 {W w' : World} {p0 p1 : Addr} {a b : Value} (h : W.cell? p0 = some a ∧ W.cell? p1 = some b) (hb : Below W.heap.size W w') : w'.cell? p0 = some a ∧ w'.cell? p1 = some b := by
  obtain ⟨h0, h1⟩ := h
  refine ⟨?_, ?_⟩
  · rw [hb.cell (World.block_lt_of_cell? W _ h0)]; exact h0
  · rw [hb.cell (World.block_lt_of_cell? W _ h1)]; exact h1
theorem numbL_out (a : List UInt8) {i : Int} (h : i < 0 ∨ 999999 < i) : numbL a i = [] := by unfold numbL; rw [if_pos (.inr h)]
set_option maxRecDepth 100000 in
set_option maxHeartbeats 2000000 in
theorem rkey1 (u f n g : List UInt8) (i : Int) (w : World) (hi : -9223372036854775808 ≤ i ∧ i ≤ 9223372036854775807) (hu : u.length ≤ 9223372036854775807) (hf : f.length ≤ 9223372036854775807) (hn : n.length ≤ 9223372036854775807) (_hg : g.length ≤ 9223372036854775807) :
    Calls Tryd.prog 10 #[pak 1 u f n g i] w fun e w' => e = .returned (str (keyL 1 u f n g i)) ∧ Below w.heap.size w w' := by
  have HP := Lib.hid (PK.made w 1 u f n g i 27)
  have HB := Lib.hid (below_alloc w (.cells #[.int .i64 1, str u, str f, str n, str g, .int .i64 i] 27))
  have CD := Lib.hid (fun W => rdig6_any i W hi)
  have NU := Lib.hid (fun W => rname_any u W hu)
  have NF := Lib.hid (fun W => rname_any f W hf)
  have NN := Lib.hid (fun W => rname_any n W hn)
  obtain ⟨U, hU⟩ : ∃ U, U = nameB u := ⟨_, rfl⟩
  obtain ⟨F, hF⟩ : ∃ U, U = nameB f := ⟨_, rfl⟩
  obtain ⟨N, hN⟩ : ∃ U, U = nameB n := ⟨_, rfl⟩
  rw [← hU] at NU
  rw [← hF] at NF
  rw [← hN] at NN
  obtain ⟨D, hD⟩ : ∃ D, D = (if i < 0 ∨ 999999 < i then [] else digL i.toNat 6) := ⟨_, rfl⟩
  obtain ⟨B, hB⟩ : ∃ B, B = !decide (i < 0 ∨ 999999 < i) := ⟨_, rfl⟩
  rw [← hD, ← hB] at CD
  have hD6 : D.length ≤ 6 := by rw [hD]; split <;> simp [digL_length]
  cases hFb : F
  · have hf0 : nameB f = false := by rw [← hF, hFb]
    subst hFb
    have HE := Lib.hid (show keyL 1 u f n g i = [] by show underL [102, 47] f = []; exact underL_no hf0)
    clear hf0
    clear hU hF hN hD hB hi hu hf hn _hg
    go_enter Tryd.func10, Tryd.ntmps10
    go_wp2_with fail
    refine (CD.out _).mono ?_
    rintro e w1 ⟨rfl, hb1⟩
    obtain ⟨c0, c1, c2, c3, c4, c5⟩ := (pk_up HP.out hb1).cs
    have HB1 := Lib.hid (HB.out.trans (hb1.mono HB.out.size))
    clear hb1 CD HP HB
    go_wp2_with fail
    go_quiet ((first
      | (go_at_call 13; with_reducible exact Calls.quiet_of_same (NU.out _))
      | (go_at_call 13; with_reducible exact Calls.quiet_of_same (NF.out _))
      | fail))
    go_wp2_with fail
    go_ret
    exact ⟨by rw [HE.out]; rfl, Below.drewsN HB1.out _⟩
  · have hf1 : nameB f = true := by rw [← hF, hFb]
    have l1 := (nameB_len hf1).2
    subst hFb
    have HE := Lib.hid (show keyL 1 u f n g i = [102, 47] ++ f by show underL [102, 47] f = _; exact underL_is (by simp) hf1)
    clear hf1
    clear hU hF hN hD hB hi hu hf hn _hg
    go_enter Tryd.func10, Tryd.ntmps10
    go_wp2_with fail
    refine (CD.out _).mono ?_
    rintro e w1 ⟨rfl, hb1⟩
    obtain ⟨c0, c1, c2, c3, c4, c5⟩ := (pk_up HP.out hb1).cs
    have HB1 := Lib.hid (HB.out.trans (hb1.mono HB.out.size))
    clear hb1 CD HP HB
    go_wp2_with fail
    go_quiet ((first
      | (go_at_call 13; with_reducible exact Calls.quiet_of_same (NU.out _))
      | (go_at_call 13; with_reducible exact Calls.quiet_of_same (NF.out _))
      | fail))
    go_wp2_with fail
    go_ret
    exact ⟨by rw [HE.out]; rfl, Below.drewsN HB1.out _⟩
set_option maxRecDepth 100000 in
set_option maxHeartbeats 2000000 in
theorem rkey2 (u f n g : List UInt8) (i : Int) (w : World) (hi : -9223372036854775808 ≤ i ∧ i ≤ 9223372036854775807) (hu : u.length ≤ 9223372036854775807) (hf : f.length ≤ 9223372036854775807) (hn : n.length ≤ 9223372036854775807) (_hg : g.length ≤ 9223372036854775807) :
    Calls Tryd.prog 10 #[pak 2 u f n g i] w fun e w' => e = .returned (str (keyL 2 u f n g i)) ∧ Below w.heap.size w w' := by
  have HP := Lib.hid (PK.made w 2 u f n g i 27)
  have HB := Lib.hid (below_alloc w (.cells #[.int .i64 2, str u, str f, str n, str g, .int .i64 i] 27))
  have CD := Lib.hid (fun W => rdig6_any i W hi)
  have NU := Lib.hid (fun W => rname_any u W hu)
  have NF := Lib.hid (fun W => rname_any f W hf)
  have NN := Lib.hid (fun W => rname_any n W hn)
  obtain ⟨U, hU⟩ : ∃ U, U = nameB u := ⟨_, rfl⟩
  obtain ⟨F, hF⟩ : ∃ U, U = nameB f := ⟨_, rfl⟩
  obtain ⟨N, hN⟩ : ∃ U, U = nameB n := ⟨_, rfl⟩
  rw [← hU] at NU
  rw [← hF] at NF
  rw [← hN] at NN
  obtain ⟨D, hD⟩ : ∃ D, D = (if i < 0 ∨ 999999 < i then [] else digL i.toNat 6) := ⟨_, rfl⟩
  obtain ⟨B, hB⟩ : ∃ B, B = !decide (i < 0 ∨ 999999 < i) := ⟨_, rfl⟩
  rw [← hD, ← hB] at CD
  have hD6 : D.length ≤ 6 := by rw [hD]; split <;> simp [digL_length]
  cases hFb : F
  · have hf0 : nameB f = false := by rw [← hF, hFb]
    subst hFb
    have HE := Lib.hid (show keyL 2 u f n g i = [] by show numbL (withinL [101, 47] f) i = []; rw [withinL_no hf0, numbL_nil])
    clear hf0
    clear hU hF hN hD hB hi hu hf hn _hg
    go_enter Tryd.func10, Tryd.ntmps10
    go_wp2_with fail
    refine (CD.out _).mono ?_
    rintro e w1 ⟨rfl, hb1⟩
    obtain ⟨c0, c1, c2, c3, c4, c5⟩ := (pk_up HP.out hb1).cs
    have HB1 := Lib.hid (HB.out.trans (hb1.mono HB.out.size))
    clear hb1 CD HP HB
    go_wp2_with fail
    go_quiet ((first
      | (go_at_call 13; with_reducible exact Calls.quiet_of_same (NU.out _))
      | (go_at_call 13; with_reducible exact Calls.quiet_of_same (NF.out _))
      | fail))
    go_wp2_with fail
    go_ret
    exact ⟨by rw [HE.out]; rfl, Below.drewsN HB1.out _⟩
  · have hf1 : nameB f = true := by rw [← hF, hFb]
    have l1 := (nameB_len hf1).2
    subst hFb
    by_cases hr : i < 0 ∨ 999999 < i
    · rw [decide_eq_true hr] at hB
      subst hB
      have HE := Lib.hid (show keyL 2 u f n g i = [] by show numbL (withinL [101, 47] f) i = []; exact numbL_out _ hr)
      clear hf1 hr
      clear hU hF hN hD hi hu hf hn _hg
      go_enter Tryd.func10, Tryd.ntmps10
      go_wp2_with fail
      refine (CD.out _).mono ?_
      rintro e w1 ⟨rfl, hb1⟩
      obtain ⟨c0, c1, c2, c3, c4, c5⟩ := (pk_up HP.out hb1).cs
      have HB1 := Lib.hid (HB.out.trans (hb1.mono HB.out.size))
      clear hb1 CD HP HB
      go_wp2_with fail
      go_quiet ((first
        | (go_at_call 13; with_reducible exact Calls.quiet_of_same (NU.out _))
        | (go_at_call 13; with_reducible exact Calls.quiet_of_same (NF.out _))
        | fail))
      go_wp2_with fail
      go_ret
      exact ⟨by rw [HE.out]; rfl, Below.drewsN HB1.out _⟩
    · rw [decide_eq_false hr] at hB
      rw [if_neg hr] at hD
      subst hB
      have HE := Lib.hid (show keyL 2 u f n g i = 101 :: 47 :: (f ++ 47 :: D) by show numbL (withinL [101, 47] f) i = _; rw [withinL_is (by simp) hf1, numbL_is (by simp) hr, hD]; simp)
      clear hf1 hr
      clear hU hF hN hD hi hu hf hn _hg
      go_enter Tryd.func10, Tryd.ntmps10
      go_wp2_with fail
      refine (CD.out _).mono ?_
      rintro e w1 ⟨rfl, hb1⟩
      obtain ⟨c0, c1, c2, c3, c4, c5⟩ := (pk_up HP.out hb1).cs
      have HB1 := Lib.hid (HB.out.trans (hb1.mono HB.out.size))
      clear hb1 CD HP HB
      go_wp2_with fail
      go_quiet ((first
        | (go_at_call 13; with_reducible exact Calls.quiet_of_same (NU.out _))
        | (go_at_call 13; with_reducible exact Calls.quiet_of_same (NF.out _))
        | fail))
      go_wp2_with fail
      go_ret
      exact ⟨by rw [HE.out]; rfl, Below.drewsN HB1.out _⟩
set_option maxRecDepth 100000 in
set_option maxHeartbeats 2000000 in
theorem rkey3 (u f n g : List UInt8) (i : Int) (w : World) (hi : -9223372036854775808 ≤ i ∧ i ≤ 9223372036854775807) (hu : u.length ≤ 9223372036854775807) (hf : f.length ≤ 9223372036854775807) (hn : n.length ≤ 9223372036854775807) (_hg : g.length ≤ 9223372036854775807) :
    Calls Tryd.prog 10 #[pak 3 u f n g i] w fun e w' => e = .returned (str (keyL 3 u f n g i)) ∧ Below w.heap.size w w' := by
  have HP := Lib.hid (PK.made w 3 u f n g i 27)
  have HB := Lib.hid (below_alloc w (.cells #[.int .i64 3, str u, str f, str n, str g, .int .i64 i] 27))
  have CD := Lib.hid (fun W => rdig6_any i W hi)
  have NU := Lib.hid (fun W => rname_any u W hu)
  have NF := Lib.hid (fun W => rname_any f W hf)
  have NN := Lib.hid (fun W => rname_any n W hn)
  obtain ⟨U, hU⟩ : ∃ U, U = nameB u := ⟨_, rfl⟩
  obtain ⟨F, hF⟩ : ∃ U, U = nameB f := ⟨_, rfl⟩
  obtain ⟨N, hN⟩ : ∃ U, U = nameB n := ⟨_, rfl⟩
  rw [← hU] at NU
  rw [← hF] at NF
  rw [← hN] at NN
  obtain ⟨D, hD⟩ : ∃ D, D = (if i < 0 ∨ 999999 < i then [] else digL i.toNat 6) := ⟨_, rfl⟩
  obtain ⟨B, hB⟩ : ∃ B, B = !decide (i < 0 ∨ 999999 < i) := ⟨_, rfl⟩
  rw [← hD, ← hB] at CD
  have hD6 : D.length ≤ 6 := by rw [hD]; split <;> simp [digL_length]
  cases hFb : F
  · have hf0 : nameB f = false := by rw [← hF, hFb]
    subst hFb
    have HE := Lib.hid (show keyL 3 u f n g i = [] by show guidL f g = []; unfold guidL; rw [if_pos (.inl hf0)])
    clear hf0
    clear hU hF hN hD hB hi hu hf hn _hg
    go_enter Tryd.func10, Tryd.ntmps10
    go_wp2_with fail
    refine (CD.out _).mono ?_
    rintro e w1 ⟨rfl, hb1⟩
    obtain ⟨c0, c1, c2, c3, c4, c5⟩ := (pk_up HP.out hb1).cs
    have HB1 := Lib.hid (HB.out.trans (hb1.mono HB.out.size))
    clear hb1 CD HP HB
    go_wp2_with fail
    go_quiet ((first
      | (go_at_call 13; with_reducible exact Calls.quiet_of_same (NU.out _))
      | (go_at_call 13; with_reducible exact Calls.quiet_of_same (NF.out _))
      | fail))
    go_wp2_with fail
    go_ret
    exact ⟨by rw [HE.out]; rfl, Below.drewsN HB1.out _⟩
  · have hf1 : nameB f = true := by rw [← hF, hFb]
    have l1 := (nameB_len hf1).2
    subst hFb
    by_cases h0 : g = []
    · have t0 : ¬ (1 : Int) ≤ (g.length : Int) := by rw [h0]; simp
      have HE := Lib.hid (show keyL 3 u f n g i = [] by show guidL f g = []; unfold guidL; rw [if_pos (.inr (.inl h0))])
      clear hf1 h0
      clear hU hF hN hD hB hi hu hf hn _hg
      go_enter Tryd.func10, Tryd.ntmps10
      go_wp2_with fail
      refine (CD.out _).mono ?_
      rintro e w1 ⟨rfl, hb1⟩
      obtain ⟨c0, c1, c2, c3, c4, c5⟩ := (pk_up HP.out hb1).cs
      have HB1 := Lib.hid (HB.out.trans (hb1.mono HB.out.size))
      clear hb1 CD HP HB
      go_wp2_with fail
      go_quiet ((first
        | (go_at_call 13; with_reducible exact Calls.quiet_of_same (NU.out _))
        | (go_at_call 13; with_reducible exact Calls.quiet_of_same (NF.out _))
        | fail))
      go_wp2_with fail
      go_ret
      exact ⟨by rw [HE.out]; rfl, Below.drewsN HB1.out _⟩
    have t0 : (1 : Int) ≤ (g.length : Int) := by have := List.length_pos_iff.2 h0; omega
    by_cases h1 : 500 < g.length
    · have t1 : ¬ (g.length : Int) ≤ 500 := by omega
      have HE := Lib.hid (show keyL 3 u f n g i = [] by show guidL f g = []; unfold guidL; rw [if_pos (.inr (.inr h1))])
      clear hf1 h0 h1
      clear hU hF hN hD hB hi hu hf hn _hg
      go_enter Tryd.func10, Tryd.ntmps10
      go_wp2_with fail
      refine (CD.out _).mono ?_
      rintro e w1 ⟨rfl, hb1⟩
      obtain ⟨c0, c1, c2, c3, c4, c5⟩ := (pk_up HP.out hb1).cs
      have HB1 := Lib.hid (HB.out.trans (hb1.mono HB.out.size))
      clear hb1 CD HP HB
      go_wp2_with fail
      go_quiet ((first
        | (go_at_call 13; with_reducible exact Calls.quiet_of_same (NU.out _))
        | (go_at_call 13; with_reducible exact Calls.quiet_of_same (NF.out _))
        | fail))
      go_wp2_with fail
      go_ret
      exact ⟨by rw [HE.out]; rfl, Below.drewsN HB1.out _⟩
    have t1 : (g.length : Int) ≤ 500 := by omega
    have HE := Lib.hid (show keyL 3 u f n g i = 103 :: 47 :: (f ++ 47 :: hexL g) by show guidL f g = _; unfold guidL; rw [if_neg (by simp [hf1, h0]; omega)])
    clear hf1 h0 h1
    clear hU hF hN hD hB hi hu hf hn _hg
    go_enter Tryd.func10, Tryd.ntmps10
    go_wp2_with fail
    refine (CD.out _).mono ?_
    rintro e w1 ⟨rfl, hb1⟩
    obtain ⟨c0, c1, c2, c3, c4, c5⟩ := (pk_up HP.out hb1).cs
    have HB1 := Lib.hid (HB.out.trans (hb1.mono HB.out.size))
    clear hb1 CD HP HB
    go_wp2_with fail
    go_quiet ((first
      | (go_at_call 13; with_reducible exact Calls.quiet_of_same (NU.out _))
      | (go_at_call 13; with_reducible exact Calls.quiet_of_same (NF.out _))
      | fail))
    go_wp2_with fail
    obtain ⟨W9, hW9⟩ : ∃ W, W = w1.drewN nq := ⟨_, rfl⟩
    have HB9 : Hid (Below w.heap.size w W9.drew) := Lib.hid (by rw [hW9]; exact below_drew (Below.drewsN HB1.out nq))
    have d2 : W9.cell? ⟨w.heap.size, 2, none⟩ = some (str f) := by rw [hW9]; exact c2
    have d4 : W9.cell? ⟨w.heap.size, 4, none⟩ = some (str g) := by rw [hW9]; exact c4
    rw [← hW9]
    clear hW9 c0 c1 c2 c3 c4 c5 NU NF NN
    obtain ⟨cap, w2, hcv, hrd, hb2⟩ := bytes_run g W9.drew (by omega)
    rw [show W9.drew.heap.size = W9.heap.size from rfl] at hcv hrd
    have CH := Lib.hid (refHex_any _ g w2 hrd (by omega))
    have hxl : (hexL g).length ≤ 1000 := by rw [hexL_length]; omega
    have HK2 : Hid (w2.cell? ⟨w.heap.size, 2, none⟩ = some (str f) ∧ w2.cell? ⟨w.heap.size, 4, none⟩ = some (str g)) := Lib.hid (kept2 (show W9.drew.cell? _ = _ ∧ W9.drew.cell? _ = _ from ⟨d2, d4⟩) hb2)
    obtain ⟨X, hX⟩ : ∃ X, X = hexL g := ⟨_, rfl⟩
    rw [← hX] at CH HE hxl
    have HB2 := Lib.hid (HB9.out.trans (hb2.mono HB9.out.size))
    have e1 := str_cat [103, 47] f
    have e2 : ¬ (9223372036854775807 < 2 + f.length) := by omega
    have e3 := str_cat (103 :: 47 :: f) [47]
    have e4 := str_cat (103 :: 47 :: (f ++ [47])) X
    have e5 : ¬ (9223372036854775807 < f.length + 1 + 1 + 1 + X.length) := by omega
    have e6 : 103 :: 47 :: (f ++ [47]) ++ X = 103 :: 47 :: (f ++ 47 :: X) := by simp
    have e7 : ¬ (9223372036854775807 < f.length + 1 + 1 + 1) := by omega
    rw [e6] at e4
    clear hrd hb2 hX e6
    obtain ⟨k2, k4⟩ := HK2.out
    go_region_with ((first
      | (go_at_call 33
         (with_reducible refine CH.out.mono ?_)
         rintro e w3 ⟨rfl, hb3⟩
         obtain ⟨m2, m4⟩ := kept2 HK2.out hb3)
      | fail))
    all_goals
      have HB3 := Lib.hid (HB2.out.trans (hb3.mono HB2.out.size))
      clear hb3
      go_wp2_with fail
      go_ret
      exact ⟨by rw [HE.out]; rfl, HB3.out⟩
set_option maxRecDepth 100000 in
set_option maxHeartbeats 2000000 in
theorem rkey4 (u f n g : List UInt8) (i : Int) (w : World) (hi : -9223372036854775808 ≤ i ∧ i ≤ 9223372036854775807) (hu : u.length ≤ 9223372036854775807) (hf : f.length ≤ 9223372036854775807) (hn : n.length ≤ 9223372036854775807) (_hg : g.length ≤ 9223372036854775807) :
    Calls Tryd.prog 10 #[pak 4 u f n g i] w fun e w' => e = .returned (str (keyL 4 u f n g i)) ∧ Below w.heap.size w w' := by
  have HP := Lib.hid (PK.made w 4 u f n g i 27)
  have HB := Lib.hid (below_alloc w (.cells #[.int .i64 4, str u, str f, str n, str g, .int .i64 i] 27))
  have CD := Lib.hid (fun W => rdig6_any i W hi)
  have NU := Lib.hid (fun W => rname_any u W hu)
  have NF := Lib.hid (fun W => rname_any f W hf)
  have NN := Lib.hid (fun W => rname_any n W hn)
  obtain ⟨U, hU⟩ : ∃ U, U = nameB u := ⟨_, rfl⟩
  obtain ⟨F, hF⟩ : ∃ U, U = nameB f := ⟨_, rfl⟩
  obtain ⟨N, hN⟩ : ∃ U, U = nameB n := ⟨_, rfl⟩
  rw [← hU] at NU
  rw [← hF] at NF
  rw [← hN] at NN
  obtain ⟨D, hD⟩ : ∃ D, D = (if i < 0 ∨ 999999 < i then [] else digL i.toNat 6) := ⟨_, rfl⟩
  obtain ⟨B, hB⟩ : ∃ B, B = !decide (i < 0 ∨ 999999 < i) := ⟨_, rfl⟩
  rw [← hD, ← hB] at CD
  have hD6 : D.length ≤ 6 := by rw [hD]; split <;> simp [digL_length]
  cases hUb : U
  · have hu0 : nameB u = false := by rw [← hU, hUb]
    subst hUb
    have HE := Lib.hid (show keyL 4 u f n g i = [] by show underL (withinL [115, 47] u) f = []; rw [withinL_no hu0, underL_nil])
    clear hu0
    clear hU hF hN hD hB hi hu hf hn _hg
    go_enter Tryd.func10, Tryd.ntmps10
    go_wp2_with fail
    refine (CD.out _).mono ?_
    rintro e w1 ⟨rfl, hb1⟩
    obtain ⟨c0, c1, c2, c3, c4, c5⟩ := (pk_up HP.out hb1).cs
    have HB1 := Lib.hid (HB.out.trans (hb1.mono HB.out.size))
    clear hb1 CD HP HB
    go_wp2_with fail
    go_quiet ((first
      | (go_at_call 13; with_reducible exact Calls.quiet_of_same (NU.out _))
      | (go_at_call 13; with_reducible exact Calls.quiet_of_same (NF.out _))
      | fail))
    go_wp2_with fail
    go_ret
    exact ⟨by rw [HE.out]; rfl, Below.drewsN HB1.out _⟩
  · have hu1 : nameB u = true := by rw [← hU, hUb]
    have l0 := (nameB_len hu1).2
    subst hUb
    cases hFb : F
    · have hf0 : nameB f = false := by rw [← hF, hFb]
      subst hFb
      have HE := Lib.hid (show keyL 4 u f n g i = [] by show underL (withinL [115, 47] u) f = []; exact underL_no hf0)
      clear hu1 hf0
      clear hU hF hN hD hB hi hu hf hn _hg
      go_enter Tryd.func10, Tryd.ntmps10
      go_wp2_with fail
      refine (CD.out _).mono ?_
      rintro e w1 ⟨rfl, hb1⟩
      obtain ⟨c0, c1, c2, c3, c4, c5⟩ := (pk_up HP.out hb1).cs
      have HB1 := Lib.hid (HB.out.trans (hb1.mono HB.out.size))
      clear hb1 CD HP HB
      go_wp2_with fail
      go_quiet ((first
        | (go_at_call 13; with_reducible exact Calls.quiet_of_same (NU.out _))
        | (go_at_call 13; with_reducible exact Calls.quiet_of_same (NF.out _))
        | fail))
      go_wp2_with fail
      go_ret
      exact ⟨by rw [HE.out]; rfl, Below.drewsN HB1.out _⟩
    · have hf1 : nameB f = true := by rw [← hF, hFb]
      have l1 := (nameB_len hf1).2
      subst hFb
      have HE := Lib.hid (show keyL 4 u f n g i = 115 :: 47 :: (u ++ 47 :: f) by show underL (withinL [115, 47] u) f = _; rw [withinL_is (by simp) hu1, underL_is (by simp) hf1]; simp)
      clear hu1 hf1
      clear hU hF hN hD hB hi hu hf hn _hg
      go_enter Tryd.func10, Tryd.ntmps10
      go_wp2_with fail
      refine (CD.out _).mono ?_
      rintro e w1 ⟨rfl, hb1⟩
      obtain ⟨c0, c1, c2, c3, c4, c5⟩ := (pk_up HP.out hb1).cs
      have HB1 := Lib.hid (HB.out.trans (hb1.mono HB.out.size))
      clear hb1 CD HP HB
      go_wp2_with fail
      go_quiet ((first
        | (go_at_call 13; with_reducible exact Calls.quiet_of_same (NU.out _))
        | (go_at_call 13; with_reducible exact Calls.quiet_of_same (NF.out _))
        | fail))
      go_wp2_with fail
      go_ret
      exact ⟨by rw [HE.out]; rfl, Below.drewsN HB1.out _⟩
set_option maxRecDepth 100000 in
set_option maxHeartbeats 2000000 in
theorem rkey7 (u f n g : List UInt8) (i : Int) (w : World) (hi : -9223372036854775808 ≤ i ∧ i ≤ 9223372036854775807) (hu : u.length ≤ 9223372036854775807) (hf : f.length ≤ 9223372036854775807) (hn : n.length ≤ 9223372036854775807) (_hg : g.length ≤ 9223372036854775807) :
    Calls Tryd.prog 10 #[pak 7 u f n g i] w fun e w' => e = .returned (str (keyL 7 u f n g i)) ∧ Below w.heap.size w w' := by
  have HP := Lib.hid (PK.made w 7 u f n g i 27)
  have HB := Lib.hid (below_alloc w (.cells #[.int .i64 7, str u, str f, str n, str g, .int .i64 i] 27))
  have CD := Lib.hid (fun W => rdig6_any i W hi)
  have NU := Lib.hid (fun W => rname_any u W hu)
  have NF := Lib.hid (fun W => rname_any f W hf)
  have NN := Lib.hid (fun W => rname_any n W hn)
  obtain ⟨U, hU⟩ : ∃ U, U = nameB u := ⟨_, rfl⟩
  obtain ⟨F, hF⟩ : ∃ U, U = nameB f := ⟨_, rfl⟩
  obtain ⟨N, hN⟩ : ∃ U, U = nameB n := ⟨_, rfl⟩
  rw [← hU] at NU
  rw [← hF] at NF
  rw [← hN] at NN
  obtain ⟨D, hD⟩ : ∃ D, D = (if i < 0 ∨ 999999 < i then [] else digL i.toNat 6) := ⟨_, rfl⟩
  obtain ⟨B, hB⟩ : ∃ B, B = !decide (i < 0 ∨ 999999 < i) := ⟨_, rfl⟩
  rw [← hD, ← hB] at CD
  have hD6 : D.length ≤ 6 := by rw [hD]; split <;> simp [digL_length]
  cases hUb : U
  · have hu0 : nameB u = false := by rw [← hU, hUb]
    subst hUb
    have HE := Lib.hid (show keyL 7 u f n g i = [] by show underL (withinL [109, 47] u) f = []; rw [withinL_no hu0, underL_nil])
    clear hu0
    clear hU hF hN hD hB hi hu hf hn _hg
    go_enter Tryd.func10, Tryd.ntmps10
    go_wp2_with fail
    refine (CD.out _).mono ?_
    rintro e w1 ⟨rfl, hb1⟩
    obtain ⟨c0, c1, c2, c3, c4, c5⟩ := (pk_up HP.out hb1).cs
    have HB1 := Lib.hid (HB.out.trans (hb1.mono HB.out.size))
    clear hb1 CD HP HB
    go_wp2_with fail
    go_quiet ((first
      | (go_at_call 13; with_reducible exact Calls.quiet_of_same (NU.out _))
      | (go_at_call 13; with_reducible exact Calls.quiet_of_same (NF.out _))
      | fail))
    go_wp2_with fail
    go_ret
    exact ⟨by rw [HE.out]; rfl, Below.drewsN HB1.out _⟩
  · have hu1 : nameB u = true := by rw [← hU, hUb]
    have l0 := (nameB_len hu1).2
    subst hUb
    cases hFb : F
    · have hf0 : nameB f = false := by rw [← hF, hFb]
      subst hFb
      have HE := Lib.hid (show keyL 7 u f n g i = [] by show underL (withinL [109, 47] u) f = []; exact underL_no hf0)
      clear hu1 hf0
      clear hU hF hN hD hB hi hu hf hn _hg
      go_enter Tryd.func10, Tryd.ntmps10
      go_wp2_with fail
      refine (CD.out _).mono ?_
      rintro e w1 ⟨rfl, hb1⟩
      obtain ⟨c0, c1, c2, c3, c4, c5⟩ := (pk_up HP.out hb1).cs
      have HB1 := Lib.hid (HB.out.trans (hb1.mono HB.out.size))
      clear hb1 CD HP HB
      go_wp2_with fail
      go_quiet ((first
        | (go_at_call 13; with_reducible exact Calls.quiet_of_same (NU.out _))
        | (go_at_call 13; with_reducible exact Calls.quiet_of_same (NF.out _))
        | fail))
      go_wp2_with fail
      go_ret
      exact ⟨by rw [HE.out]; rfl, Below.drewsN HB1.out _⟩
    · have hf1 : nameB f = true := by rw [← hF, hFb]
      have l1 := (nameB_len hf1).2
      subst hFb
      have HE := Lib.hid (show keyL 7 u f n g i = 109 :: 47 :: (u ++ 47 :: f) by show underL (withinL [109, 47] u) f = _; rw [withinL_is (by simp) hu1, underL_is (by simp) hf1]; simp)
      clear hu1 hf1
      clear hU hF hN hD hB hi hu hf hn _hg
      go_enter Tryd.func10, Tryd.ntmps10
      go_wp2_with fail
      refine (CD.out _).mono ?_
      rintro e w1 ⟨rfl, hb1⟩
      obtain ⟨c0, c1, c2, c3, c4, c5⟩ := (pk_up HP.out hb1).cs
      have HB1 := Lib.hid (HB.out.trans (hb1.mono HB.out.size))
      clear hb1 CD HP HB
      go_wp2_with fail
      go_quiet ((first
        | (go_at_call 13; with_reducible exact Calls.quiet_of_same (NU.out _))
        | (go_at_call 13; with_reducible exact Calls.quiet_of_same (NF.out _))
        | fail))
      go_wp2_with fail
      go_ret
      exact ⟨by rw [HE.out]; rfl, Below.drewsN HB1.out _⟩
set_option maxRecDepth 100000 in
set_option maxHeartbeats 2000000 in
theorem rkey5 (u f n g : List UInt8) (i : Int) (w : World) (hi : -9223372036854775808 ≤ i ∧ i ≤ 9223372036854775807) (hu : u.length ≤ 9223372036854775807) (hf : f.length ≤ 9223372036854775807) (hn : n.length ≤ 9223372036854775807) (_hg : g.length ≤ 9223372036854775807) :
    Calls Tryd.prog 10 #[pak 5 u f n g i] w fun e w' => e = .returned (str (keyL 5 u f n g i)) ∧ Below w.heap.size w w' := by
  have HP := Lib.hid (PK.made w 5 u f n g i 27)
  have HB := Lib.hid (below_alloc w (.cells #[.int .i64 5, str u, str f, str n, str g, .int .i64 i] 27))
  have CD := Lib.hid (fun W => rdig6_any i W hi)
  have NU := Lib.hid (fun W => rname_any u W hu)
  have NF := Lib.hid (fun W => rname_any f W hf)
  have NN := Lib.hid (fun W => rname_any n W hn)
  obtain ⟨U, hU⟩ : ∃ U, U = nameB u := ⟨_, rfl⟩
  obtain ⟨F, hF⟩ : ∃ U, U = nameB f := ⟨_, rfl⟩
  obtain ⟨N, hN⟩ : ∃ U, U = nameB n := ⟨_, rfl⟩
  rw [← hU] at NU
  rw [← hF] at NF
  rw [← hN] at NN
  obtain ⟨D, hD⟩ : ∃ D, D = (if i < 0 ∨ 999999 < i then [] else digL i.toNat 6) := ⟨_, rfl⟩
  obtain ⟨B, hB⟩ : ∃ B, B = !decide (i < 0 ∨ 999999 < i) := ⟨_, rfl⟩
  rw [← hD, ← hB] at CD
  have hD6 : D.length ≤ 6 := by rw [hD]; split <;> simp [digL_length]
  cases hUb : U
  · have hu0 : nameB u = false := by rw [← hU, hUb]
    subst hUb
    have HE := Lib.hid (show keyL 5 u f n g i = [] by show underL (withinL [100, 47] u) n = []; rw [withinL_no hu0, underL_nil])
    clear hu0
    clear hU hF hN hD hB hi hu hf hn _hg
    go_enter Tryd.func10, Tryd.ntmps10
    go_wp2_with fail
    refine (CD.out _).mono ?_
    rintro e w1 ⟨rfl, hb1⟩
    obtain ⟨c0, c1, c2, c3, c4, c5⟩ := (pk_up HP.out hb1).cs
    have HB1 := Lib.hid (HB.out.trans (hb1.mono HB.out.size))
    clear hb1 CD HP HB
    go_wp2_with fail
    go_quiet ((first
      | (go_at_call 13; with_reducible exact Calls.quiet_of_same (NU.out _))
      | (go_at_call 13; with_reducible exact Calls.quiet_of_same (NF.out _))
      | fail))
    go_wp2_with fail
    go_ret
    exact ⟨by rw [HE.out]; rfl, Below.drewsN HB1.out _⟩
  · have hu1 : nameB u = true := by rw [← hU, hUb]
    have l0 := (nameB_len hu1).2
    subst hUb
    cases hNb : N
    · have hn0 : nameB n = false := by rw [← hN, hNb]
      subst hNb
      have HE := Lib.hid (show keyL 5 u f n g i = [] by show underL (withinL [100, 47] u) n = []; exact underL_no hn0)
      clear hu1 hn0
      clear hU hF hN hD hB hi hu hf hn _hg
      go_enter Tryd.func10, Tryd.ntmps10
      go_wp2_with fail
      refine (CD.out _).mono ?_
      rintro e w1 ⟨rfl, hb1⟩
      obtain ⟨c0, c1, c2, c3, c4, c5⟩ := (pk_up HP.out hb1).cs
      have HB1 := Lib.hid (HB.out.trans (hb1.mono HB.out.size))
      clear hb1 CD HP HB
      go_wp2_with fail
      go_quiet ((first
        | (go_at_call 13; with_reducible exact Calls.quiet_of_same (NU.out _))
        | (go_at_call 13; with_reducible exact Calls.quiet_of_same (NF.out _))
        | fail))
      go_wp2_with fail
      refine (NN.out _).mono ?_
      rintro e w2 ⟨rfl, rfl⟩
      go_wp2_with fail
      go_ret
      exact ⟨by rw [HE.out]; rfl, Below.drewsN HB1.out _⟩
    · have hn1 : nameB n = true := by rw [← hN, hNb]
      have l1 := (nameB_len hn1).2
      subst hNb
      have HE := Lib.hid (show keyL 5 u f n g i = 100 :: 47 :: (u ++ 47 :: n) by show underL (withinL [100, 47] u) n = _; rw [withinL_is (by simp) hu1, underL_is (by simp) hn1]; simp)
      clear hu1 hn1
      clear hU hF hN hD hB hi hu hf hn _hg
      go_enter Tryd.func10, Tryd.ntmps10
      go_wp2_with fail
      refine (CD.out _).mono ?_
      rintro e w1 ⟨rfl, hb1⟩
      obtain ⟨c0, c1, c2, c3, c4, c5⟩ := (pk_up HP.out hb1).cs
      have HB1 := Lib.hid (HB.out.trans (hb1.mono HB.out.size))
      clear hb1 CD HP HB
      go_wp2_with fail
      go_quiet ((first
        | (go_at_call 13; with_reducible exact Calls.quiet_of_same (NU.out _))
        | (go_at_call 13; with_reducible exact Calls.quiet_of_same (NF.out _))
        | fail))
      go_wp2_with fail
      refine (NN.out _).mono ?_
      rintro e w2 ⟨rfl, rfl⟩
      go_wp2_with fail
      go_ret
      exact ⟨by rw [HE.out]; rfl, Below.drewsN HB1.out _⟩
set_option maxRecDepth 100000 in
set_option maxHeartbeats 2000000 in
theorem rkey6 (u f n g : List UInt8) (i : Int) (w : World) (hi : -9223372036854775808 ≤ i ∧ i ≤ 9223372036854775807) (hu : u.length ≤ 9223372036854775807) (hf : f.length ≤ 9223372036854775807) (hn : n.length ≤ 9223372036854775807) (_hg : g.length ≤ 9223372036854775807) :
    Calls Tryd.prog 10 #[pak 6 u f n g i] w fun e w' => e = .returned (str (keyL 6 u f n g i)) ∧ Below w.heap.size w w' := by
  have HP := Lib.hid (PK.made w 6 u f n g i 27)
  have HB := Lib.hid (below_alloc w (.cells #[.int .i64 6, str u, str f, str n, str g, .int .i64 i] 27))
  have CD := Lib.hid (fun W => rdig6_any i W hi)
  have NU := Lib.hid (fun W => rname_any u W hu)
  have NF := Lib.hid (fun W => rname_any f W hf)
  have NN := Lib.hid (fun W => rname_any n W hn)
  obtain ⟨U, hU⟩ : ∃ U, U = nameB u := ⟨_, rfl⟩
  obtain ⟨F, hF⟩ : ∃ U, U = nameB f := ⟨_, rfl⟩
  obtain ⟨N, hN⟩ : ∃ U, U = nameB n := ⟨_, rfl⟩
  rw [← hU] at NU
  rw [← hF] at NF
  rw [← hN] at NN
  obtain ⟨D, hD⟩ : ∃ D, D = (if i < 0 ∨ 999999 < i then [] else digL i.toNat 6) := ⟨_, rfl⟩
  obtain ⟨B, hB⟩ : ∃ B, B = !decide (i < 0 ∨ 999999 < i) := ⟨_, rfl⟩
  rw [← hD, ← hB] at CD
  have hD6 : D.length ≤ 6 := by rw [hD]; split <;> simp [digL_length]
  cases hUb : U
  · have hu0 : nameB u = false := by rw [← hU, hUb]
    subst hUb
    have HE := Lib.hid (show keyL 6 u f n g i = [] by show numbL (withinL (withinL [114, 47] u) f) i = []; rw [withinL_no hu0, withinL_nil, numbL_nil])
    clear hu0
    clear hU hF hN hD hB hi hu hf hn _hg
    go_enter Tryd.func10, Tryd.ntmps10
    go_wp2_with fail
    refine (CD.out _).mono ?_
    rintro e w1 ⟨rfl, hb1⟩
    obtain ⟨c0, c1, c2, c3, c4, c5⟩ := (pk_up HP.out hb1).cs
    have HB1 := Lib.hid (HB.out.trans (hb1.mono HB.out.size))
    clear hb1 CD HP HB
    go_wp2_with fail
    go_quiet ((first
      | (go_at_call 13; with_reducible exact Calls.quiet_of_same (NU.out _))
      | (go_at_call 13; with_reducible exact Calls.quiet_of_same (NF.out _))
      | fail))
    go_wp2_with fail
    go_ret
    exact ⟨by rw [HE.out]; rfl, Below.drewsN HB1.out _⟩
  · have hu1 : nameB u = true := by rw [← hU, hUb]
    have l0 := (nameB_len hu1).2
    subst hUb
    cases hFb : F
    · have hf0 : nameB f = false := by rw [← hF, hFb]
      subst hFb
      have HE := Lib.hid (show keyL 6 u f n g i = [] by show numbL (withinL (withinL [114, 47] u) f) i = []; rw [withinL_no hf0, numbL_nil])
      clear hu1 hf0
      clear hU hF hN hD hB hi hu hf hn _hg
      go_enter Tryd.func10, Tryd.ntmps10
      go_wp2_with fail
      refine (CD.out _).mono ?_
      rintro e w1 ⟨rfl, hb1⟩
      obtain ⟨c0, c1, c2, c3, c4, c5⟩ := (pk_up HP.out hb1).cs
      have HB1 := Lib.hid (HB.out.trans (hb1.mono HB.out.size))
      clear hb1 CD HP HB
      go_wp2_with fail
      go_quiet ((first
        | (go_at_call 13; with_reducible exact Calls.quiet_of_same (NU.out _))
        | (go_at_call 13; with_reducible exact Calls.quiet_of_same (NF.out _))
        | fail))
      go_wp2_with fail
      go_ret
      exact ⟨by rw [HE.out]; rfl, Below.drewsN HB1.out _⟩
    · have hf1 : nameB f = true := by rw [← hF, hFb]
      have l1 := (nameB_len hf1).2
      subst hFb
      by_cases hr : i < 0 ∨ 999999 < i
      · rw [decide_eq_true hr] at hB
        subst hB
        have HE := Lib.hid (show keyL 6 u f n g i = [] by show numbL (withinL (withinL [114, 47] u) f) i = []; exact numbL_out _ hr)
        clear hu1 hf1 hr
        clear hU hF hN hD hi hu hf hn _hg
        go_enter Tryd.func10, Tryd.ntmps10
        go_wp2_with fail
        refine (CD.out _).mono ?_
        rintro e w1 ⟨rfl, hb1⟩
        obtain ⟨c0, c1, c2, c3, c4, c5⟩ := (pk_up HP.out hb1).cs
        have HB1 := Lib.hid (HB.out.trans (hb1.mono HB.out.size))
        clear hb1 CD HP HB
        go_wp2_with fail
        go_quiet ((first
          | (go_at_call 13; with_reducible exact Calls.quiet_of_same (NU.out _))
          | (go_at_call 13; with_reducible exact Calls.quiet_of_same (NF.out _))
          | fail))
        go_wp2_with fail
        go_ret
        exact ⟨by rw [HE.out]; rfl, Below.drewsN HB1.out _⟩
      · rw [decide_eq_false hr] at hB
        rw [if_neg hr] at hD
        subst hB
        have HE := Lib.hid (show keyL 6 u f n g i = 114 :: 47 :: (u ++ 47 :: (f ++ 47 :: D)) by show numbL (withinL (withinL [114, 47] u) f) i = _; rw [withinL_is (by simp) hu1, withinL_is (by simp) hf1, numbL_is (by simp) hr, hD]; simp)
        clear hu1 hf1 hr
        clear hU hF hN hD hi hu hf hn _hg
        go_enter Tryd.func10, Tryd.ntmps10
        go_wp2_with fail
        refine (CD.out _).mono ?_
        rintro e w1 ⟨rfl, hb1⟩
        obtain ⟨c0, c1, c2, c3, c4, c5⟩ := (pk_up HP.out hb1).cs
        have HB1 := Lib.hid (HB.out.trans (hb1.mono HB.out.size))
        clear hb1 CD HP HB
        go_wp2_with fail
        go_quiet ((first
          | (go_at_call 13; with_reducible exact Calls.quiet_of_same (NU.out _))
          | (go_at_call 13; with_reducible exact Calls.quiet_of_same (NF.out _))
          | fail))
        go_wp2_with fail
        go_ret
        exact ⟨by rw [HE.out]; rfl, Below.drewsN HB1.out _⟩
set_option maxRecDepth 100000 in
set_option maxHeartbeats 2000000 in
theorem rkeyX (k : Int) (n1 : k ≠ 1) (n2 : k ≠ 2) (n3 : k ≠ 3) (n4 : k ≠ 4) (n5 : k ≠ 5) (n6 : k ≠ 6) (n7 : k ≠ 7) (u f n g : List UInt8) (i : Int) (w : World) (hi : -9223372036854775808 ≤ i ∧ i ≤ 9223372036854775807) (hu : u.length ≤ 9223372036854775807) (hf : f.length ≤ 9223372036854775807) (hn : n.length ≤ 9223372036854775807) (_hg : g.length ≤ 9223372036854775807) :
    Calls Tryd.prog 10 #[pak k u f n g i] w fun e w' => e = .returned (str (keyL k u f n g i)) ∧ Below w.heap.size w w' := by
  have HP := Lib.hid (PK.made w k u f n g i 27)
  have HB := Lib.hid (below_alloc w (.cells #[.int .i64 k, str u, str f, str n, str g, .int .i64 i] 27))
  have CD := Lib.hid (fun W => rdig6_any i W hi)
  have NU := Lib.hid (fun W => rname_any u W hu)
  have NF := Lib.hid (fun W => rname_any f W hf)
  have NN := Lib.hid (fun W => rname_any n W hn)
  obtain ⟨U, hU⟩ : ∃ U, U = nameB u := ⟨_, rfl⟩
  obtain ⟨F, hF⟩ : ∃ U, U = nameB f := ⟨_, rfl⟩
  obtain ⟨N, hN⟩ : ∃ U, U = nameB n := ⟨_, rfl⟩
  rw [← hU] at NU
  rw [← hF] at NF
  rw [← hN] at NN
  obtain ⟨D, hD⟩ : ∃ D, D = (if i < 0 ∨ 999999 < i then [] else digL i.toNat 6) := ⟨_, rfl⟩
  obtain ⟨B, hB⟩ : ∃ B, B = !decide (i < 0 ∨ 999999 < i) := ⟨_, rfl⟩
  rw [← hD, ← hB] at CD
  have hD6 : D.length ≤ 6 := by rw [hD]; split <;> simp [digL_length]
  have t1 : (k == 1) = false := by rw [beq_eq_false_iff_ne]; exact n1
  have t2 : (k == 2) = false := by rw [beq_eq_false_iff_ne]; exact n2
  have t3 : (k == 3) = false := by rw [beq_eq_false_iff_ne]; exact n3
  have t4 : (k == 4) = false := by rw [beq_eq_false_iff_ne]; exact n4
  have t5 : (k == 5) = false := by rw [beq_eq_false_iff_ne]; exact n5
  have t6 : (k == 6) = false := by rw [beq_eq_false_iff_ne]; exact n6
  have t7 : (k == 7) = false := by rw [beq_eq_false_iff_ne]; exact n7
  have HE := Lib.hid (show keyL k u f n g i = [] by unfold keyL; rw [if_neg n1, if_neg n2, if_neg n3, if_neg n4, if_neg n5, if_neg n6, if_neg n7])
  clear n1 n2 n3 n4 n5 n6 n7
  clear hU hF hN hD hB hi hu hf hn _hg
  go_enter Tryd.func10, Tryd.ntmps10
  go_wp2_with fail
  refine (CD.out _).mono ?_
  rintro e w1 ⟨rfl, hb1⟩
  obtain ⟨c0, c1, c2, c3, c4, c5⟩ := (pk_up HP.out hb1).cs
  have HB1 := Lib.hid (HB.out.trans (hb1.mono HB.out.size))
  clear hb1 CD HP HB
  go_wp2_with fail
  go_quiet ((first
    | (go_at_call 13; with_reducible exact Calls.quiet_of_same (NU.out _))
    | (go_at_call 13; with_reducible exact Calls.quiet_of_same (NF.out _))
    | fail))
  go_wp2_with fail
  go_ret
  exact ⟨by rw [HE.out]; rfl, Below.drewsN HB1.out _⟩
theorem rkey_any (k : Int) (u f n g : List UInt8) (i : Int) (w : World) (hi : -9223372036854775808 ≤ i ∧ i ≤ 9223372036854775807) (hu : u.length ≤ 9223372036854775807) (hf : f.length ≤ 9223372036854775807) (hn : n.length ≤ 9223372036854775807) (hg : g.length ≤ 9223372036854775807) :
    Calls Tryd.prog 10 #[pak k u f n g i] w fun e w' => e = .returned (str (keyL k u f n g i)) ∧ Below w.heap.size w w' := by
  by_cases h1 : k = 1
  · subst h1; exact rkey1 u f n g i w hi hu hf hn hg
  by_cases h2 : k = 2
  · subst h2; exact rkey2 u f n g i w hi hu hf hn hg
  by_cases h3 : k = 3
  · subst h3; exact rkey3 u f n g i w hi hu hf hn hg
  by_cases h4 : k = 4
  · subst h4; exact rkey4 u f n g i w hi hu hf hn hg
  by_cases h5 : k = 5
  · subst h5; exact rkey5 u f n g i w hi hu hf hn hg
  by_cases h6 : k = 6
  · subst h6; exact rkey6 u f n g i w hi hu hf hn hg
  by_cases h7 : k = 7
  · subst h7; exact rkey7 u f n g i w hi hu hf hn hg
  exact rkeyX k h1 h2 h3 h4 h5 h6 h7 u f n g i w hi hu hf hn hg
end Go.Proofs.YtonkfekjhbfelaaDoor
