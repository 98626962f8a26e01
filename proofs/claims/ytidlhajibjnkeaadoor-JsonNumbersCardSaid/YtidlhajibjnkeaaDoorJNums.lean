/- JsonNumbers: the walk. -/
import Derived.Test.YtidlhajibjnkeaaDoorJFirst
import Derived.Test.YtidlhajibjnkeaaDoorJNumM
import Derived.Test.YtidlhajibjnkeaaDoorJStr
import Derived.Test.YtidlhajibjnkeaaDoorDecN
import Derived.Deep.CutRange
namespace Go.Proofs.YtidlhajibjnkeaaDoor
open Go.RowKit
attribute [local go_sem] str_cat

set_option maxRecDepth 100000 in
set_option maxHeartbeats 8000000 in
theorem nums_walk (n : Int) (w : World) (h0 : -9223372036854775808 ≤ n ∧ n ≤ 9223372036854775807) (ht : TabJ w.heap.size w) :
    Calls Tryd.prog 6 #[.int .i64 n] w fun e w' => e = .returned (.bool true) ∧ Below w.heap.size w w' := by
  have C1 := Lib.hid (jfirst_any w ht)
  have HT := Lib.hid ht
  clear ht
  have hmay := may_num n
  have hil := itoa_len h0
  have CD0 : Hid (∀ W, Calls Tryd.prog 16 #[.int .i64 n] W fun e w' => e = .returned (str (Lib.itoa n)) ∧ Below W.heap.size W w') := Lib.hid (fun W => decN_any n h0 W)
  have HP0 := Lib.hid (par_num n (by omega))
  have HP1 := Lib.hid (par_pt n 46 [48] (.inl rfl) (by simp; omega))
  have HP2 := Lib.hid (par_pt n 101 [49] (.inr (.inl rfl)) (by simp; omega))
  have HP3 := Lib.hid (par_0 n (by omega))
  have hlp : (prV (.mk 4 n [] [] [])).length ≤ 70368744177664 := by
    have e1 : prV (.mk 4 n [] [] []) = Lib.itoa n := rfl
    rw [e1]; omega
  have e1 : prV (.mk 4 n [] [] []) = Lib.itoa n := rfl
  by_cases h1 : n < -9007199254740991
  · have d1 : decide (-9007199254740991 ≤ n) = false := decide_eq_false (by omega)
    have y1 : decide ((-9007199254740991 : Int) ≤ n) = false := d1
    rw [d1, Bool.false_and] at hmay
    rw [if_pos (.inr h1)] at HP0
    clear d1 e1 h0
    generalize Lib.itoa n = I at *
    have HMAY := Lib.hid hmay
    clear h1 hmay hlp
    go_enter Tryd.func6, Tryd.ntmps6
    go_wp2_with fail
    refine C1.out.mono ?_
    rintro e w1 ⟨rfl, hb1⟩
    have CP := Lib.hid (print_no (F := fun _ => True) (plainJ w1 _ 4 n []) HMAY.out)
    have HB1 := Lib.hid hb1
    clear hb1 C1 HMAY
    go_wp2_with fail
    refine CP.out.mono ?_
    rintro e w2 ⟨rfl, hb2⟩
    have HB2 := Lib.hid (HB1.out.trans (hb2.mono HB1.out.size))
    have CD := Lib.hid (CD0.out w2)
    clear hb2 CP HB1 CD0
    go_wp2_with fail
    refine CD.out.mono ?_
    rintro e w3 ⟨rfl, hb3⟩
    have HB3 := Lib.hid (HB2.out.trans (hb3.mono HB2.out.size))
    clear hb3 CD HB2
    obtain ⟨cap3, x3, hconv3, hrd3, hx3⟩ := bytes_run I w3 (by omega)
    have CP := parse_any hrd3 (by omega)
    rw [HP0.out] at CP
    have CP := Lib.hid CP
    have HX3 := Lib.hid (And.intro hx3 (HB3.out.trans (hx3.mono HB3.out.size)))
    clear hrd3 hx3
    go_wp2_with fail
    refine CP.out.mono ?_
    rintro e w4 ⟨rfl, _, hb4⟩
    obtain ⟨w5, hw5⟩ : ∃ w5, w5 = w4.alloc (.cells #[.int .i64 0, .int .i64 0, str [], .slice none 0 0, .slice none 0 0] 25) := ⟨_, rfl⟩
    have hb45 : Below w4.heap.size w4 w5 := by rw [hw5]; exact below_alloc _ _
    have hbx5 : w5.heap[w4.heap.size]? = some (.cells #[.int .i64 0, .int .i64 0, str [], .slice none 0 0, .slice none 0 0] 25 (0, 0)) := by rw [hw5]; exact heap_alloc_new _ _
    have hz5 : w3.heap.size ≤ w4.heap.size := by have := HX3.out.1.size; have := hb4.size; omega
    have hb5 : Below w3.heap.size w3 w5 := (HX3.out.1.trans (hb4.mono HX3.out.1.size)).trans (hb45.mono hz5)
    have HB5 := Lib.hid (And.intro (HB3.out.trans (hb5.mono HB3.out.size)) hbx5)
    clear hb4 hb45 hbx5 hz5 hb5 CP HX3 HB3 hconv3
    go_upto_region 9 with fail
    rw [← hw5]
    clear hw5
    obtain ⟨cap5, x5, hconv5, hrd5, hx5⟩ := bytes_run (I ++ ([46, 48] : List UInt8)) w5 (by simp; omega)
    have CP := parse_any hrd5 (by simp; omega)
    rw [HP1.out, (show (I ++ ([46, 48] : List UInt8)).length = I.length + 2 from by simp)] at CP
    have CP := Lib.hid CP
    have HX5 := Lib.hid hx5
    clear hrd5 hx5
    go_wp2_with fail
    refine CP.out.mono ?_
    rintro e w6 ⟨rfl, _, hb6⟩
    obtain ⟨w7, hw7⟩ : ∃ w7, w7 = w6.alloc (.cells #[.int .i64 0, .int .i64 0, str [], .slice none 0 0, .slice none 0 0] 25) := ⟨_, rfl⟩
    have hs7 : Below w5.heap.size w5 w7 := by rw [hw7]; exact (HX5.out.trans (hb6.mono HX5.out.size)).trans ((below_alloc _ _).mono (by have := HX5.out.size; have := hb6.size; omega))
    have HB7 := Lib.hid (And.intro (HB5.out.1.trans (hs7.mono HB5.out.1.size)) (box_up HB5.out.2 hs7))
    clear hb6 hs7 CP HX5 HB5 hconv5
    go_upto_region 10 with fail
    rw [← hw7]
    clear hw7
    obtain ⟨cap7, x7, hconv7, hrd7, hx7⟩ := bytes_run (I ++ ([101, 49] : List UInt8)) w7 (by simp; omega)
    have CP := parse_any hrd7 (by simp; omega)
    rw [HP2.out, (show (I ++ ([101, 49] : List UInt8)).length = I.length + 2 from by simp)] at CP
    have CP := Lib.hid CP
    have HX7 := Lib.hid hx7
    clear hrd7 hx7
    go_wp2_with fail
    refine CP.out.mono ?_
    rintro e w8 ⟨rfl, _, hb8⟩
    obtain ⟨w9, hw9⟩ : ∃ w9, w9 = w8.alloc (.cells #[.int .i64 0, .int .i64 0, str [], .slice none 0 0, .slice none 0 0] 25) := ⟨_, rfl⟩
    have hs9 : Below w7.heap.size w7 w9 := by rw [hw9]; exact (HX7.out.trans (hb8.mono HX7.out.size)).trans ((below_alloc _ _).mono (by have := HX7.out.size; have := hb8.size; omega))
    have HB9 := Lib.hid (And.intro (HB7.out.1.trans (hs9.mono HB7.out.1.size)) (box_up HB7.out.2 hs9))
    clear hb8 hs9 CP HX7 HB7 hconv7
    go_upto_region 11 with fail
    rw [← hw9]
    clear hw9
    obtain ⟨cap9, x9, hconv9, hrd9, hx9⟩ := bytes_run (48 :: I) w9 (by simp; omega)
    have CP := parse_any hrd9 (by simp; omega)
    rw [HP3.out, (show (48 :: I).length = I.length + 1 from by simp)] at CP
    have CP := Lib.hid CP
    have HX9 := Lib.hid hx9
    clear hrd9 hx9
    go_wp2_with fail
    refine CP.out.mono ?_
    rintro e w10 ⟨rfl, _, hb10⟩
    obtain ⟨w11, hw11⟩ : ∃ w11, w11 = w10.alloc (.cells #[.int .i64 0, .int .i64 0, str [], .slice none 0 0, .slice none 0 0] 25) := ⟨_, rfl⟩
    have hs11 : Below w9.heap.size w9 w11 := by rw [hw11]; exact (HX9.out.trans (hb10.mono HX9.out.size)).trans ((below_alloc _ _).mono (by have := HX9.out.size; have := hb10.size; omega))
    have HB11 := Lib.hid (And.intro (HB9.out.1.trans (hs11.mono HB9.out.1.size)) (box_up HB9.out.2 hs11))
    clear hb10 hs11 CP HX9 HB9 hconv9
    go_upto_region 12 with fail
    rw [← hw11]
    clear hw11
    have C2 := Lib.hid (jfirst_any w11 (HT.out.up HB11.out.1 HB11.out.1.size))
    go_wp2_with fail
    refine C2.out.mono ?_
    rintro e w20 ⟨rfl, hb20⟩
    have HX := Lib.hid (HB11.out.1.trans (hb20.mono HB11.out.1.size))
    clear hb20 C2
    go_wp2_with fail
    go_ret
    exact ⟨rfl, HX.out⟩
  · have d1 : decide (-9007199254740991 ≤ n) = true := decide_eq_true (by omega)
    rw [d1, Bool.true_and] at hmay
    by_cases h2 : 9007199254740991 < n
    · have d2 : decide (n ≤ 9007199254740991) = false := decide_eq_false (by omega)
      rw [d2] at hmay
      rw [if_pos (.inl h2)] at HP0
      clear e1 h0
      generalize Lib.itoa n = I at *
      have HMAY := Lib.hid hmay
      clear h1 h2 hmay hlp
      go_enter Tryd.func6, Tryd.ntmps6
      go_wp2_with fail
      refine C1.out.mono ?_
      rintro e w1 ⟨rfl, hb1⟩
      have CP := Lib.hid (print_no (F := fun _ => True) (plainJ w1 _ 4 n []) HMAY.out)
      have HB1 := Lib.hid hb1
      clear hb1 C1 HMAY
      go_wp2_with fail
      refine CP.out.mono ?_
      rintro e w2 ⟨rfl, hb2⟩
      have HB2 := Lib.hid (HB1.out.trans (hb2.mono HB1.out.size))
      have CD := Lib.hid (CD0.out w2)
      clear hb2 CP HB1 CD0
      go_wp2_with fail
      refine CD.out.mono ?_
      rintro e w3 ⟨rfl, hb3⟩
      have HB3 := Lib.hid (HB2.out.trans (hb3.mono HB2.out.size))
      clear hb3 CD HB2
      obtain ⟨cap3, x3, hconv3, hrd3, hx3⟩ := bytes_run I w3 (by omega)
      have CP := parse_any hrd3 (by omega)
      rw [HP0.out] at CP
      have CP := Lib.hid CP
      have HX3 := Lib.hid (And.intro hx3 (HB3.out.trans (hx3.mono HB3.out.size)))
      clear hrd3 hx3
      go_wp2_with fail
      refine CP.out.mono ?_
      rintro e w4 ⟨rfl, _, hb4⟩
      obtain ⟨w5, hw5⟩ : ∃ w5, w5 = w4.alloc (.cells #[.int .i64 0, .int .i64 0, str [], .slice none 0 0, .slice none 0 0] 25) := ⟨_, rfl⟩
      have hb45 : Below w4.heap.size w4 w5 := by rw [hw5]; exact below_alloc _ _
      have hbx5 : w5.heap[w4.heap.size]? = some (.cells #[.int .i64 0, .int .i64 0, str [], .slice none 0 0, .slice none 0 0] 25 (0, 0)) := by rw [hw5]; exact heap_alloc_new _ _
      have hz5 : w3.heap.size ≤ w4.heap.size := by have := HX3.out.1.size; have := hb4.size; omega
      have hb5 : Below w3.heap.size w3 w5 := (HX3.out.1.trans (hb4.mono HX3.out.1.size)).trans (hb45.mono hz5)
      have HB5 := Lib.hid (And.intro (HB3.out.trans (hb5.mono HB3.out.size)) hbx5)
      clear hb4 hb45 hbx5 hz5 hb5 CP HX3 HB3 hconv3
      go_upto_region 9 with fail
      rw [← hw5]
      clear hw5
      obtain ⟨cap5, x5, hconv5, hrd5, hx5⟩ := bytes_run (I ++ ([46, 48] : List UInt8)) w5 (by simp; omega)
      have CP := parse_any hrd5 (by simp; omega)
      rw [HP1.out, (show (I ++ ([46, 48] : List UInt8)).length = I.length + 2 from by simp)] at CP
      have CP := Lib.hid CP
      have HX5 := Lib.hid hx5
      clear hrd5 hx5
      go_wp2_with fail
      refine CP.out.mono ?_
      rintro e w6 ⟨rfl, _, hb6⟩
      obtain ⟨w7, hw7⟩ : ∃ w7, w7 = w6.alloc (.cells #[.int .i64 0, .int .i64 0, str [], .slice none 0 0, .slice none 0 0] 25) := ⟨_, rfl⟩
      have hs7 : Below w5.heap.size w5 w7 := by rw [hw7]; exact (HX5.out.trans (hb6.mono HX5.out.size)).trans ((below_alloc _ _).mono (by have := HX5.out.size; have := hb6.size; omega))
      have HB7 := Lib.hid (And.intro (HB5.out.1.trans (hs7.mono HB5.out.1.size)) (box_up HB5.out.2 hs7))
      clear hb6 hs7 CP HX5 HB5 hconv5
      go_upto_region 10 with fail
      rw [← hw7]
      clear hw7
      obtain ⟨cap7, x7, hconv7, hrd7, hx7⟩ := bytes_run (I ++ ([101, 49] : List UInt8)) w7 (by simp; omega)
      have CP := parse_any hrd7 (by simp; omega)
      rw [HP2.out, (show (I ++ ([101, 49] : List UInt8)).length = I.length + 2 from by simp)] at CP
      have CP := Lib.hid CP
      have HX7 := Lib.hid hx7
      clear hrd7 hx7
      go_wp2_with fail
      refine CP.out.mono ?_
      rintro e w8 ⟨rfl, _, hb8⟩
      obtain ⟨w9, hw9⟩ : ∃ w9, w9 = w8.alloc (.cells #[.int .i64 0, .int .i64 0, str [], .slice none 0 0, .slice none 0 0] 25) := ⟨_, rfl⟩
      have hs9 : Below w7.heap.size w7 w9 := by rw [hw9]; exact (HX7.out.trans (hb8.mono HX7.out.size)).trans ((below_alloc _ _).mono (by have := HX7.out.size; have := hb8.size; omega))
      have HB9 := Lib.hid (And.intro (HB7.out.1.trans (hs9.mono HB7.out.1.size)) (box_up HB7.out.2 hs9))
      clear hb8 hs9 CP HX7 HB7 hconv7
      go_upto_region 11 with fail
      rw [← hw9]
      clear hw9
      obtain ⟨cap9, x9, hconv9, hrd9, hx9⟩ := bytes_run (48 :: I) w9 (by simp; omega)
      have CP := parse_any hrd9 (by simp; omega)
      rw [HP3.out, (show (48 :: I).length = I.length + 1 from by simp)] at CP
      have CP := Lib.hid CP
      have HX9 := Lib.hid hx9
      clear hrd9 hx9
      go_wp2_with fail
      refine CP.out.mono ?_
      rintro e w10 ⟨rfl, _, hb10⟩
      obtain ⟨w11, hw11⟩ : ∃ w11, w11 = w10.alloc (.cells #[.int .i64 0, .int .i64 0, str [], .slice none 0 0, .slice none 0 0] 25) := ⟨_, rfl⟩
      have hs11 : Below w9.heap.size w9 w11 := by rw [hw11]; exact (HX9.out.trans (hb10.mono HX9.out.size)).trans ((below_alloc _ _).mono (by have := HX9.out.size; have := hb10.size; omega))
      have HB11 := Lib.hid (And.intro (HB9.out.1.trans (hs11.mono HB9.out.1.size)) (box_up HB9.out.2 hs11))
      clear hb10 hs11 CP HX9 HB9 hconv9
      go_upto_region 12 with fail
      rw [← hw11]
      clear hw11
      have C2 := Lib.hid (jfirst_any w11 (HT.out.up HB11.out.1 HB11.out.1.size))
      go_wp2_with fail
      refine C2.out.mono ?_
      rintro e w20 ⟨rfl, hb20⟩
      have HX := Lib.hid (HB11.out.1.trans (hb20.mono HB11.out.1.size))
      clear hb20 C2
      go_wp2_with fail
      go_ret
      exact ⟨rfl, HX.out⟩
    · have d2 : decide (n ≤ 9007199254740991) = true := decide_eq_true (by omega)
      rw [d2] at hmay
      rw [if_neg (by omega)] at HP0
      clear h0 e1
      have PY : Hid (∀ W : World, TabJ W.heap.size W → Calls Tryd.prog 10 #[.agg #[.int .i64 4, .int .i64 n, str [], .slice none 0 0, .slice none 0 0]] W fun e w' => ∃ v', e = .returned (.tuple #[v', .int .i64 0]) ∧ Own 5 w' W.heap.size v' (Lib.itoa n) ∧ Below W.heap.size W w') := Lib.hid (fun W ht => print_yes (F := fun _ => True) (plainJ W _ 4 n []) hmay hlp ht)
      generalize Lib.itoa n = I at *
      have HMAY := Lib.hid hmay
      clear h1 h2 hmay hlp
      go_enter Tryd.func6, Tryd.ntmps6
      go_wp2_with fail
      refine C1.out.mono ?_
      rintro e w1 ⟨rfl, hb1⟩
      have CP := Lib.hid (PY.out _ (HT.out.up hb1 hb1.size))
      have HB1 := Lib.hid hb1
      clear hb1 C1 HMAY
      go_wp2_with fail
      refine CP.out.mono ?_
      rintro e w2 ⟨v2, rfl, hown, hb2⟩
      obtain ⟨a2, n2, c2, rfl⟩ := hown.form
      have HO2 := Lib.hid hown.rd
      clear hown
      have HB2 := Lib.hid (HB1.out.trans (hb2.mono HB1.out.size))
      have CD := Lib.hid (CD0.out w2)
      clear hb2 CP HB1 CD0
      go_wp2_with fail
      refine CD.out.mono ?_
      rintro e w3 ⟨rfl, hb3⟩
      have HB3 := Lib.hid (HB2.out.trans (hb3.mono HB2.out.size))
      have HO3 := Lib.hid (HO2.out.below hb3 (Nat.le_refl _))
      clear HO2
      clear hb3 CD HB2
      obtain ⟨cap3, x3, hconv3, hrd3, hx3⟩ := bytes_run I w3 (by omega)
      have CP := parse_any hrd3 (by omega)
      rw [HP0.out] at CP
      have CP := Lib.hid CP
      have HX3 := Lib.hid (And.intro hx3 (HB3.out.trans (hx3.mono HB3.out.size)))
      clear hrd3 hx3
      go_wp2_with fail
      refine CP.out.mono ?_
      rintro e w4 ⟨cs, rfl, hv, hb4⟩
      have hv1 := hv.mono (G := fun _ => True) (fun _ _ _ => trivial)
      clear hv
      obtain ⟨al, ll, cl, am, lm, cm, rfl, _, _⟩ := hv1.open
      clear hv1
      dsimp only [JV.kind, JV.n, JV.s, JV.l, JV.m] at *
      obtain ⟨w5, hw5⟩ : ∃ w5, w5 = w4.alloc (.cells #[.int .i64 4, .int .i64 n, str [], .slice al ll cl, .slice am lm cm] 25) := ⟨_, rfl⟩
      have hb45 : Below w4.heap.size w4 w5 := by rw [hw5]; exact below_alloc _ _
      have hbx5 : w5.heap[w4.heap.size]? = some (.cells #[.int .i64 4, .int .i64 n, str [], .slice al ll cl, .slice am lm cm] 25 (0, 0)) := by rw [hw5]; exact heap_alloc_new _ _
      have hz5 : w3.heap.size ≤ w4.heap.size := by have := HX3.out.1.size; have := hb4.size; omega
      have hb5 : Below w3.heap.size w3 w5 := (HX3.out.1.trans (hb4.mono HX3.out.1.size)).trans (hb45.mono hz5)
      have HB5 := Lib.hid (And.intro (HB3.out.trans (hb5.mono HB3.out.size)) hbx5)
      have HO5 := Lib.hid (HO3.out.below hb5 (Nat.le_refl _))
      clear HO3
      clear hb4 hb45 hbx5 hz5 hb5 CP HX3 HB3 hconv3
      go_upto_region 9 with fail
      rw [← hw5]
      clear hw5
      obtain ⟨cap5, x5, hconv5, hrd5, hx5⟩ := bytes_run (I ++ ([46, 48] : List UInt8)) w5 (by simp; omega)
      have CP := parse_any hrd5 (by simp; omega)
      rw [HP1.out, (show (I ++ ([46, 48] : List UInt8)).length = I.length + 2 from by simp)] at CP
      have CP := Lib.hid CP
      have HX5 := Lib.hid hx5
      clear hrd5 hx5
      go_wp2_with fail
      refine CP.out.mono ?_
      rintro e w6 ⟨rfl, _, hb6⟩
      obtain ⟨w7, hw7⟩ : ∃ w7, w7 = w6.alloc (.cells #[.int .i64 0, .int .i64 0, str [], .slice none 0 0, .slice none 0 0] 25) := ⟨_, rfl⟩
      have hs7 : Below w5.heap.size w5 w7 := by rw [hw7]; exact (HX5.out.trans (hb6.mono HX5.out.size)).trans ((below_alloc _ _).mono (by have := HX5.out.size; have := hb6.size; omega))
      have HB7 := Lib.hid (And.intro (HB5.out.1.trans (hs7.mono HB5.out.1.size)) (box_up HB5.out.2 hs7))
      have HO7 := Lib.hid (HO5.out.below hs7 (Nat.le_refl _))
      clear HO5
      clear hb6 hs7 CP HX5 HB5 hconv5
      go_upto_region 10 with fail
      rw [← hw7]
      clear hw7
      obtain ⟨cap7, x7, hconv7, hrd7, hx7⟩ := bytes_run (I ++ ([101, 49] : List UInt8)) w7 (by simp; omega)
      have CP := parse_any hrd7 (by simp; omega)
      rw [HP2.out, (show (I ++ ([101, 49] : List UInt8)).length = I.length + 2 from by simp)] at CP
      have CP := Lib.hid CP
      have HX7 := Lib.hid hx7
      clear hrd7 hx7
      go_wp2_with fail
      refine CP.out.mono ?_
      rintro e w8 ⟨rfl, _, hb8⟩
      obtain ⟨w9, hw9⟩ : ∃ w9, w9 = w8.alloc (.cells #[.int .i64 0, .int .i64 0, str [], .slice none 0 0, .slice none 0 0] 25) := ⟨_, rfl⟩
      have hs9 : Below w7.heap.size w7 w9 := by rw [hw9]; exact (HX7.out.trans (hb8.mono HX7.out.size)).trans ((below_alloc _ _).mono (by have := HX7.out.size; have := hb8.size; omega))
      have HB9 := Lib.hid (And.intro (HB7.out.1.trans (hs9.mono HB7.out.1.size)) (box_up HB7.out.2 hs9))
      have HO9 := Lib.hid (HO7.out.below hs9 (Nat.le_refl _))
      clear HO7
      clear hb8 hs9 CP HX7 HB7 hconv7
      go_upto_region 11 with fail
      rw [← hw9]
      clear hw9
      obtain ⟨cap9, x9, hconv9, hrd9, hx9⟩ := bytes_run (48 :: I) w9 (by simp; omega)
      have CP := parse_any hrd9 (by simp; omega)
      rw [HP3.out, (show (48 :: I).length = I.length + 1 from by simp)] at CP
      have CP := Lib.hid CP
      have HX9 := Lib.hid hx9
      clear hrd9 hx9
      go_wp2_with fail
      refine CP.out.mono ?_
      rintro e w10 ⟨rfl, _, hb10⟩
      obtain ⟨w11, hw11⟩ : ∃ w11, w11 = w10.alloc (.cells #[.int .i64 0, .int .i64 0, str [], .slice none 0 0, .slice none 0 0] 25) := ⟨_, rfl⟩
      have hs11 : Below w9.heap.size w9 w11 := by rw [hw11]; exact (HX9.out.trans (hb10.mono HX9.out.size)).trans ((below_alloc _ _).mono (by have := HX9.out.size; have := hb10.size; omega))
      have HB11 := Lib.hid (And.intro (HB9.out.1.trans (hs11.mono HB9.out.1.size)) (box_up HB9.out.2 hs11))
      have HO11 := Lib.hid (HO9.out.below hs11 (Nat.le_refl _))
      clear HO9
      clear hb10 hs11 CP HX9 HB9 hconv9
      go_upto_region 12 with fail
      rw [← hw11]
      clear hw11
      have C2 := Lib.hid (jfirst_any w11 (HT.out.up HB11.out.1 HB11.out.1.size))
      go_wp2_with fail
      refine C2.out.mono ?_
      rintro e w20 ⟨rfl, hb20⟩
      have HX := Lib.hid (HB11.out.1.trans (hb20.mono HB11.out.1.size))
      have hconv := bt.toString Tryd.underlying9 (HO11.out.below hb20 (Nat.le_refl _))
      have hbx := box_up HB11.out.2 hb20
      have b0 := box_cell hbx 0
      have b1 := box_cell hbx 1
      have r1 : (I == I) = true := beq_self_eq_true _
      clear hb20 C2 hbx
      go_wp2_with fail
      go_ret
      exact ⟨rfl, HX.out⟩
end Go.Proofs.YtidlhajibjnkeaaDoor
