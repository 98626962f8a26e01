/- Layer 5: DateMails, one of its cases. -/
import Derived.Test.YtnaafdennieedaaDMails
import Derived.Deep.RegionHeld3
import Derived.Deep.RegionWith
namespace Go.Proofs.Ytnaafdennieedaa
open Go.RowKit
set_option maxHeartbeats 12800000 in
set_option maxRecDepth 100000 in
theorem dmails_b (d k y h mi s q : Nat) (O SH V : Int) (w : World) (hd1 : 1 ≤ d) (hd2 : d ≤ 99) (hk : k < 12) (hy1 : 1970 ≤ y) (hy2 : y ≤ 2068) (hh : h ≤ 99) (hmi : mi ≤ 99) (hs : s ≤ 99) (hq : q < 10)
    (_sh1 : -28800 ≤ SH) (_sh2 : SH ≤ 5400) (HV : Hid (V = mkV y ((k : Int) + 1) d h mi s)) (HSH : Hid (SH = zoneS q)) (HM : Hid (mkB y ((k : Int) + 1) d h mi s = true)) (v0 : 0 ≤ V) (v1 : V ≤ 253370851199) (g1 : ¬ V - SH < 0) (o1 : -8 ≤ O) (o2 : O ≤ 0) (t9 : ((q : Int) == 9) = false) (hsh : O * 3600 = SH) (hO : O = zoneO q) :
    Calls Try.prog 6 #[.int .i64 (d : Int), .int .i64 ((k : Int) + 1), .int .i64 (y : Int), .int .i64 (h : Int), .int .i64 (mi : Int), .int .i64 (s : Int), .int .i64 (q : Int)] w fun e w' => e = .returned (.bool true) ∧ Below w.heap.size w w' := by
  have a1 : (1 : Int) ≤ (d : Int) := by omega
  have a2 : (d : Int) ≤ 99 := by omega
  have a3 : (1 : Int) ≤ (k : Int) + 1 := by omega
  have a4 : (k : Int) + 1 ≤ 12 := by omega
  have a5 : (1970 : Int) ≤ (y : Int) := by omega
  have a6 : (y : Int) ≤ 2068 := by omega
  have a7 : (0 : Int) ≤ (h : Int) := by omega
  have a8 : (h : Int) ≤ 99 := by omega
  have a9 : (0 : Int) ≤ (mi : Int) := by omega
  have a10 : (mi : Int) ≤ 99 := by omega
  have a11 : (0 : Int) ≤ (s : Int) := by omega
  have a12 : (s : Int) ≤ 99 := by omega
  have a13 : (0 : Int) ≤ (q : Int) := by omega
  have a14 : (q : Int) ≤ 9 := by omega
  have hOq : ([.int .i64 0, .int .i64 (-5), .int .i64 (-4), .int .i64 (-6), .int .i64 (-5), .int .i64 (-7), .int .i64 (-6), .int .i64 (-8), .int .i64 (-7), .int .i64 0] : List Value)[q]'(by simpa using hq) = .int .i64 O := by
    rw [hO]
    have : q = 0 ∨ q = 1 ∨ q = 2 ∨ q = 3 ∨ q = 4 ∨ q = 5 ∨ q = 6 ∨ q = 7 ∨ q = 8 ∨ q = 9 := by omega
    rcases this with h | h | h | h | h | h | h | h | h | h <;> subst h <;> rfl
  clear hO
  have CM := Lib.hid (fun W => make_yes y ((k : Int) + 1) d h mi s W HM.out)
  rw [← HV.out] at CM
  go_enter Try.func6, Try.ntmps6
  go_wp2_with fail
  refine (dfirst_any _).mono ?_
  rintro e w1 ⟨rfl, hb1⟩
  have HB1 := Lib.hid hb1
  clear hb1
  go_wp2_with fail
  clear hOq
  have HW := Lib.hid (mails_world w1)
  generalize ((w1.alloc (.cells #[str [74, 97, 110], str [70, 101, 98], str [77, 97, 114], str [65, 112, 114], str [77, 97, 121], str [74, 117, 110], str [74, 117, 108], str [65, 117, 103], str [83, 101, 112], str [79, 99, 116], str [78, 111, 118], str [68, 101, 99]] 9)).alloc
    (.cells #[str [71, 77, 84], str [69, 83, 84], str [69, 68, 84], str [67, 83, 84], str [67, 68, 84], str [77, 83, 84], str [77, 68, 84], str [80, 83, 84], str [80, 68, 84], str [43, 48, 49, 51, 48]] 9)).alloc
    (.cells #[.int .i64 0, .int .i64 (-5), .int .i64 (-4), .int .i64 (-6), .int .i64 (-5), .int .i64 (-7), .int .i64 (-6), .int .i64 (-8), .int .i64 (-7), .int .i64 0] 3) = w2 at HW ⊢
  refine (CM.out _).mono ?_
  rintro e w3 ⟨rfl, rfl⟩
  go_wp2_with fail
  have HB3 := Lib.hid (HB1.out.trans (HW.out.1.mono HB1.out.size))
  have HN3 := Lib.hid HW.out.2.1
  have HZ3 := Lib.hid HW.out.2.2
  refine (two_any (y / 100) _ _ (by omega) (by omega)).mono ?_
  rintro e w4 ⟨rfl, hb4⟩
  have HB4 := Lib.hid (HB3.out.trans (hb4.mono HB3.out.size))
  have HN4 := Lib.hid (HN3.out.below hb4)
  have HZ4 := Lib.hid (HZ3.out.below hb4)
  clear hb4 HW HB3 HN3 HZ3
  obtain ⟨Y1, hY1⟩ : ∃ Y1, Y1 = digL (y / 100) 2 := ⟨_, rfl⟩
  have lY1 : Y1.length = 2 := by rw [hY1]; exact digL_length _ _
  have HY1 := Lib.hid hY1
  rw [← hY1]
  clear hY1
  go_wp2_with fail
  refine (two_any y _ _ rfl (by omega)).mono ?_
  rintro e w5 ⟨rfl, hb5⟩
  have HB5 := Lib.hid (HB4.out.trans (hb5.mono HB4.out.size))
  have HN5 := Lib.hid (HN4.out.below hb5)
  have HZ5 := Lib.hid (HZ4.out.below hb5)
  clear hb5 HB4 HN4 HZ4
  obtain ⟨Y2, hY2⟩ : ∃ Y2, Y2 = digL y 2 := ⟨_, rfl⟩
  have lY2 : Y2.length = 2 := by rw [hY2]; exact digL_length _ _
  have HY2 := Lib.hid hY2
  rw [← hY2]
  clear hY2
  have x1 := str_cat Y1 Y2
  have x2 : ¬ (9223372036854775807 < Y1.length + Y2.length) := by omega
  go_wp2_with fail
  obtain ⟨MN, hMN⟩ : ∃ MN, MN = monN k := ⟨_, rfl⟩
  have lMN : MN.length = 3 := by rw [hMN]; exact monN_len k hk
  obtain ⟨D2, hD2⟩ : ∃ D2, D2 = digL d 2 := ⟨_, rfl⟩
  have lD2 : D2.length = 2 := by rw [hD2]; exact digL_length _ _
  have CT := Lib.hid (fun W => two_any d (d : Int) W rfl (by omega))
  rw [← hD2] at CT
  have hcell : w5.cell? ⟨w1.heap.size, k, none⟩ = some (str MN) := by rw [hMN]; exact HN5.out k hk
  have HCELL := Lib.hid hcell
  have HMN := Lib.hid hMN
  have HD2 := Lib.hid hD2
  clear x1 x2 hMN hD2 hcell
  have y1 := str_cat D2 [32]
  have y2 := str_cat (D2 ++ [32]) MN
  have y3 := str_cat (D2 ++ 32 :: MN) [32]
  have z1 : ¬ (9223372036854775807 < D2.length + 1) := by omega
  have z2 : ¬ (9223372036854775807 < D2.length + 1 + MN.length) := by omega
  have z3 : ¬ (9223372036854775807 < D2.length + 1 + MN.length + 1) := by omega
  have z4 : ¬ (9223372036854775807 < D2.length + (MN.length + 1) + 1) := by omega
  have i1 : IntKind.i64.wrap ((k : Int) + 1 - 1) = (k : Int) := by rw [show (k : Int) + 1 - 1 = (k : Int) by omega]; exact IntWalk.i64_in _ ⟨by omega, by omega⟩
  have i4 : IntKind.i64.wrap (k : Int) = (k : Int) := IntWalk.i64_in _ ⟨by omega, by omega⟩
  have i2 : (0 : Int) ≤ (k : Int) := by omega
  have i3 : (k : Int) < 12 := by omega
  have HB5d := Lib.hid (Below.drewsN HB5.out 1)
  go_region_held3 (fun w' => w'.cell? ⟨w1.heap.size, k, none⟩ = some (str MN))
    (first
      | (refine keep1 ?_ hb6; assumption)
      | (exact HCELL.out)
      | go_keep)
    ((first
      | (go_at_call 19
         (with_reducible refine (CT.out _).mono ?_)
         rintro e w6 ⟨rfl, hb6⟩)
      | fail))
  have HB6 := Lib.hid (HB5d.out.trans (hb6.mono HB5d.out.size))
  have HZ6 := Lib.hid (ZB.below (show ZB w5.drew (w1.heap.size + 1) from fun j hj => HZ5.out j hj) hb6)
  clear hb6 y1 y2 y3 z1 z2 z3 z4 i1 i4 HB5 HN5 HZ5 HCELL CT
  obtain ⟨A, hA⟩ : ∃ A, A = D2 ++ 32 :: (MN ++ [32]) := ⟨_, rfl⟩
  have lA : A.length = 7 := by rw [hA]; simp; omega
  have HA := Lib.hid hA
  first | rw [← hA] | skip
  go_wp2_with fail
  obtain ⟨ZN, hZN⟩ : ∃ ZN, ZN = zoneN q := ⟨_, rfl⟩
  have lZN : ZN.length ≤ 5 := by
    rw [hZN]
    have : q = 0 ∨ q = 1 ∨ q = 2 ∨ q = 3 ∨ q = 4 ∨ q = 5 ∨ q = 6 ∨ q = 7 ∨ q = 8 ∨ q = 9 := by omega
    rcases this with h | h | h | h | h | h | h | h | h | h <;> subst h <;> decide
  obtain ⟨H2, hH2⟩ : ∃ H2, H2 = digL h 2 := ⟨_, rfl⟩
  have lH2 : H2.length = 2 := by rw [hH2]; exact digL_length _ _
  obtain ⟨I2, hI2⟩ : ∃ I2, I2 = digL mi 2 := ⟨_, rfl⟩
  have lI2 : I2.length = 2 := by rw [hI2]; exact digL_length _ _
  obtain ⟨S2, hS2⟩ : ∃ S2, S2 = digL s 2 := ⟨_, rfl⟩
  have lS2 : S2.length = 2 := by rw [hS2]; exact digL_length _ _
  have CH := Lib.hid (fun W => two_any h (h : Int) W rfl (by omega))
  have CI := Lib.hid (fun W => two_any mi (mi : Int) W rfl (by omega))
  have CS := Lib.hid (fun W => two_any s (s : Int) W rfl (by omega))
  rw [← hH2] at CH
  rw [← hI2] at CI
  rw [← hS2] at CS
  have hcell : w6.cell? ⟨w1.heap.size + 1, q, none⟩ = some (str ZN) := by rw [hZN]; exact HZ6.out q (by omega)
  have HCELL := Lib.hid hcell
  have HZN := Lib.hid hZN
  have HH2 := Lib.hid hH2
  have HI2 := Lib.hid hI2
  have HS2 := Lib.hid hS2
  clear hZN hH2 hI2 hS2 hcell hA
  have y1 := str_cat [32] H2
  have y2 := str_cat (32 :: H2) [58]
  have y3 := str_cat (32 :: (H2 ++ [58])) I2
  have y4 := str_cat (32 :: (H2 ++ 58 :: I2)) [58]
  have y5 := str_cat (32 :: (H2 ++ 58 :: (I2 ++ [58]))) S2
  have y6 := str_cat (32 :: (H2 ++ 58 :: (I2 ++ 58 :: S2))) [32]
  have y7 := str_cat (32 :: (H2 ++ 58 :: (I2 ++ 58 :: (S2 ++ [32])))) ZN
  have z0 : ¬ (9223372036854775807 < 1 + H2.length) := by omega
  have z1 : ¬ (9223372036854775807 < H2.length + 1 + 1) := by omega
  have z2 : ¬ (9223372036854775807 < H2.length + 1 + 1 + I2.length) := by omega
  have z3 : ¬ (9223372036854775807 < H2.length + (I2.length + 1) + 1 + 1) := by omega
  have z4 : ¬ (9223372036854775807 < H2.length + (I2.length + 1 + 1) + 1 + S2.length) := by omega
  have z5 : ¬ (9223372036854775807 < H2.length + (I2.length + (S2.length + 1) + 1) + 1 + 1) := by omega
  have z7 : ¬ (9223372036854775807 < 10 + ZN.length) := by omega
  have z6 : ¬ (9223372036854775807 < H2.length + (I2.length + (S2.length + 1 + 1) + 1) + 1 + ZN.length) := by omega
  have i2 : (0 : Int) ≤ (q : Int) := by omega
  have i3 : (q : Int) < 10 := by omega
  have HB6d := Lib.hid (Below.drewsN HB6.out 1)
  go_region_held3 (fun w' => w'.cell? ⟨w1.heap.size + 1, q, none⟩ = some (str ZN))
    (first
      | (refine keep1 ?_ hb9; assumption)
      | (refine keep1 ?_ hb8; assumption)
      | (refine keep1 ?_ hb7; assumption)
      | (exact HCELL.out)
      | go_keep)
    ((first
      | (go_at_call 19
         (with_reducible refine (CH.out _).mono ?_)
         rintro e w7 ⟨rfl, hb7⟩)
      | (go_at_call 19
         (with_reducible refine (CI.out _).mono ?_)
         rintro e w8 ⟨rfl, hb8⟩)
      | (go_at_call 19
         (with_reducible refine (CS.out _).mono ?_)
         rintro e w9 ⟨rfl, hb9⟩)
      | fail))
  have HB9 := Lib.hid (HB6d.out.trans ((hb7.trans ((hb8.trans (hb9.mono hb8.size)).mono hb7.size)).mono HB6d.out.size))
  clear hb7 hb8 hb9 y1 y2 y3 y4 y5 y6 y7 z0 z1 z2 z3 z4 z5 z6 z7 i2 i3 HCELL CH CI CS HB6 HZ6 HB6d HB5d
  obtain ⟨U, hU⟩ : ∃ U, U = 32 :: (H2 ++ 58 :: (I2 ++ 58 :: (S2 ++ 32 :: ZN))) := ⟨_, rfl⟩
  have lU : U.length ≤ 15 := by rw [hU]; simp; omega
  rw [← hU]
  have HU := Lib.hid hU
  have eA : A = digL d 2 ++ (32 :: (monN k ++ [32])) := by rw [HA.out, HD2.out, HMN.out]
  have eU : U = 32 :: (digL h 2 ++ (58 :: (digL mi 2 ++ (58 :: (digL s 2 ++ (32 :: zoneN q)))))) := by rw [hU, HH2.out, HI2.out, HS2.out, HZN.out]
  have t1 : A ++ (Y1 ++ (Y2 ++ U)) = mtext d k (digL (y / 100) 2 ++ digL y 2) h mi s q := by
    rw [eA, eU, HY1.out, HY2.out]; unfold mtext; simp
  have t2 : 84 :: 117 :: 101 :: 44 :: 32 :: (A ++ (Y2 ++ U)) = [84, 117, 101, 44, 32] ++ mtext d k (digL y 2) h mi s q := by
    rw [eA, eU, HY2.out]; unfold mtext; simp
  have r1 := mail_r1 d k y h mi s q V SH true (by omega) hk hy2 (by omega) (by omega) (by omega) (by omega) HV.out HM.out.symm HSH.out
  have r2 := mail_r2 d k y h mi s q V SH true (by omega) hk hy1 hy2 (by omega) (by omega) (by omega) (by omega) HV.out HM.out.symm HSH.out
  rw [← t1, if_neg (by simp; omega)] at r1
  rw [← t2, if_neg (by simp; omega)] at r2
  have r3 := mail_three (100 :: 97 :: 121 :: 44 :: 32 :: (A ++ (Y1 ++ (Y2 ++ U))))
  have C1 := Lib.hid (fun W => mail_any (A ++ (Y1 ++ (Y2 ++ U))) W (by simp; omega))
  have C2 := Lib.hid (fun W => mail_any (84 :: 117 :: 101 :: 44 :: 32 :: (A ++ (Y2 ++ U))) W (by simp; omega))
  have C3 := Lib.hid (fun W => mail_any ([84, 117, 101, 115] ++ (100 :: 97 :: 121 :: 44 :: 32 :: (A ++ (Y1 ++ (Y2 ++ U))))) W (by simp; omega))
  rw [r1] at C1
  rw [r2] at C2
  rw [r3] at C3
  unfold twoE at C1 C2 C3
  clear r1 r2 r3 t1 t2 eA eU hU
  have CY := Lib.hid (fun W => two_any y (y : Int) W rfl (by omega))
  rw [← HY2.out] at CY
  have y1 := str_cat A (Y1 ++ Y2)
  have y2 := str_cat (A ++ (Y1 ++ Y2)) U
  have y3 := str_cat [84, 117, 101, 44, 32] A
  have y4 := str_cat (84 :: 117 :: 101 :: 44 :: 32 :: A) Y2
  have y5 := str_cat (84 :: 117 :: 101 :: 44 :: 32 :: (A ++ Y2)) U
  have y6 := str_cat [84, 117, 101, 115, 100, 97, 121, 44, 32] A
  have y7 := str_cat (84 :: 117 :: 101 :: 115 :: 100 :: 97 :: 121 :: 44 :: 32 :: A) (Y1 ++ Y2)
  have y8 := str_cat (84 :: 117 :: 101 :: 115 :: 100 :: 97 :: 121 :: 44 :: 32 :: (A ++ (Y1 ++ Y2))) U
  have z1 : ¬ (9223372036854775807 < 11 + U.length) := by omega
  have z2 : ¬ (9223372036854775807 < 14 + U.length) := by omega
  have z3 : ¬ (9223372036854775807 < 20 + U.length) := by omega
  go_wp2_with fail
  refine (C1.out _).mono ?_
  rintro e w10 ⟨rfl, hb10⟩
  have HB10 := Lib.hid (HB9.out.trans (hb10.mono HB9.out.size))
  clear hb10
  go_wp2_with fail
  refine (CY.out _).mono ?_
  rintro e w11 ⟨rfl, hb11⟩
  have HB11 := Lib.hid (HB10.out.trans (hb11.mono HB10.out.size))
  clear hb11
  go_wp2_with fail
  refine (C2.out _).mono ?_
  rintro e w12 ⟨rfl, hb12⟩
  have HB12 := Lib.hid (HB11.out.trans (hb12.mono HB11.out.size))
  clear hb12
  go_wp2_with fail
  refine (C3.out _).mono ?_
  rintro e w13 ⟨rfl, hb13⟩
  have HB13 := Lib.hid (HB12.out.trans (hb13.mono HB12.out.size))
  clear hb13
  go_wp2_with fail
  refine (dfirst_any _).mono ?_
  rintro e w14 ⟨rfl, hb14⟩
  have HB14 := Lib.hid (HB13.out.trans (hb14.mono HB13.out.size))
  clear hb14
  go_wp2_with fail
  go_ret
  exact ⟨rfl, HB14.out⟩
end Go.Proofs.Ytnaafdennieedaa
