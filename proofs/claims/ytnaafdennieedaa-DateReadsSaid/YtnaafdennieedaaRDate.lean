/- Layer 5: hblref1.Date. -/
import Derived.Test.YtnaafdennieedaaRPlace
import Derived.Test.YtnaafdennieedaaDMath
namespace Go.Proofs.Ytnaafdennieedaa
open Go.RowKit

/-- A second is told in one way. -/
theorem dtext_eq (y mo d h mi s y' mo' d' h' mi' s' : Nat) (H : mkB y mo d h mi s = true) (hs : s ≤ 59) (H' : mkB y' mo' d' h' mi' s' = true) (hs' : s' ≤ 59) (e : mkV y mo d h mi s = mkV y' mo' d' h' mi' s') :
    dtext y mo d h mi s = dtext y' mo' d' h' mi' s' := by
  have k1 : ¬ lex6 y mo d h mi s y' mo' d' h' mi' s' := fun hl => by have := mk_lex y mo d h mi s y' mo' d' h' mi' s' H hs H' hs' hl; omega
  have k2 : ¬ lex6 y' mo' d' h' mi' s' y mo d h mi s := fun hl => by have := mk_lex y' mo' d' h' mi' s' y mo d h mi s H' hs' H hs hl; omega
  unfold lex6 at k1 k2
  obtain rfl : y = y' := by omega
  obtain rfl : mo = mo' := by omega
  obtain rfl : d = d' := by omega
  obtain rfl : h = h' := by omega
  obtain rfl : mi = mi' := by omega
  obtain rfl : s = s' := by omega
  rfl
theorem rdate_no (t : Int) (w : World) (h : t < 0 ∨ 253402300800 ≤ t) : Calls Try.prog 16 #[.int .i64 t] w fun e w' => e = .returned (.tuple #[str [], .int .i64 1]) ∧ w' = w := by
  have CI := rin_any t w
  rw [show inB t = false by unfold inB; exact decide_eq_false (by omega)] at CI
  go_enter Try.func16, Try.ntmps16
  go_wp2_with (go_at_call 40; refine CI.mono ?_; rintro e w' ⟨rfl, rfl⟩)
  go_ret2
  exact ⟨rfl, rfl⟩
theorem dig_four (y : Nat) : digL (y / 100) 2 ++ digL y 2 = digL y 4 := by
  rw [digL_snoc y 3, digL_snoc (y / 10) 2, digL_snoc y 1, digL_snoc (y / 10) 0, Nat.div_div_eq_div_mul]
  simp [digL]
set_option maxHeartbeats 6400000 in
set_option maxRecDepth 100000 in
theorem rdate_yes (t : Int) (w : World) (h0 : 0 ≤ t) (h1 : t < 253402300800) : Calls Try.prog 16 #[.int .i64 t] w (PrintPost t w.heap.size w) := by
  have CI := rin_any t w
  rw [show inB t = true by unfold inB; exact decide_eq_true (by omega)] at CI
  have d0 : 0 ≤ t / 86400 := by omega
  have d1 : t / 86400 ≤ 2932896 := by omega
  have s0 : 0 ≤ t % 86400 := by omega
  have s1 : t % 86400 < 86400 := by omega
  have s2 : 0 ≤ t % 86400 / 60 := by omega
  go_enter Try.func16, Try.ntmps16
  go_wp2_with (go_at_call 40; refine CI.mono ?_; rintro e w' ⟨rfl, rfl⟩)
  go_loop [6] (fun y => YRel (t / 86400) y) (fun y => (9999 - intOf y).toNat)
  case atStart => exact ⟨1970, by omega, by omega, by rw [show dbyI 1970 = 0 by decide]; exact d0, rfl⟩
  case round =>
    obtain ⟨Y, y1, y2, y3, rfl⟩ := hrel
    clear CI
    obtain ⟨b1, b2⟩ := dby_bd (Y + 1) (by omega) (by omega)
    have hmx : Y = 9999 → dbyI (Y + 1) = 2932897 := by intro e; subst e; rfl
    by_cases hc : dbyI (Y + 1) ≤ t / 86400
    · have y9 : Y ≠ 9999 := fun e => by have := hmx e; omega
      clear hmx
      go_wp2_with (go_at_call 41; refine (rfirst_any _ _ (by omega) (by omega)).mono ?_; rintro e w' ⟨rfl, rfl⟩)
      go_round
      case rel => exact ⟨Y + 1, by omega, by omega, hc, rfl⟩
      case measure => simp [intOf]; omega
    · clear hmx
      have hsc := dby_succ Y y1
      have c12 := cum12 Y
      have HC := Lib.hid (show cumI Y 12 = dbyI (Y + 1) - dbyI Y by omega)
      clear hsc c12
      obtain ⟨b3, b4⟩ := dby_bd Y (by omega) (by omega)
      go_wp2_with (go_at_call 41; refine (rfirst_any _ _ (by omega) (by omega)).mono ?_; rintro e w' ⟨rfl, rfl⟩)
      go_loop [7, 8] (fun d m => ∃ (k : Nat) (x : Int), k ≤ 11 ∧ m = .int .i64 ((k : Int) + 1) ∧ d = .int .i64 x ∧ 0 ≤ x ∧ x ≤ 366 ∧ Hid (x = t / 86400 - dbyI Y - cumI Y k)) (fun _ m => (13 - intOf m).toNat)
      case atStart => exact ⟨0, _, by omega, rfl, rfl, by omega, by have := cum_bd Y (by omega) 12; have := HC.out; have := (dby_succ Y y1).2.1; omega, Lib.hid (by simp [cumI])⟩
      case round =>
        obtain ⟨k, x, hk, rfl, rfl, x1, x2, HX⟩ := hrel
        obtain ⟨c3, c4⟩ := dof_bd Y ((k : Int) + 1) (by omega)
        by_cases hx : dofI Y ((k : Int) + 1) ≤ x
        · have hk11 : k ≠ 11 := by
            intro e
            subst e
            have e1 := HC.out
            have e2 := HX.out
            have e3 : cumI Y 12 = cumI Y 11 + dofI Y (((11 : Nat) : Int) + 1) := rfl
            omega
          go_wp2_with (go_at_call 42; refine (rlength_any _ _ _ (by omega) (by omega)).mono ?_; rintro e w' ⟨rfl, rfl⟩)
          go_round
          case rel => exact ⟨k + 1, _, by omega, by go_num, rfl, by omega, by omega, Lib.hid (by rw [cumI_succ]; have := HX.out; omega)⟩
          case measure => simp [intOf]; omega
        · obtain ⟨y, rfl⟩ : ∃ n : Nat, Y = (n : Int) := ⟨Y.toNat, by omega⟩
          obtain ⟨d, rfl⟩ : ∃ n : Nat, x = (n : Int) := ⟨x.toNat, by omega⟩
          obtain ⟨h, hh⟩ : ∃ n : Nat, t % 86400 / 3600 = (n : Int) := ⟨(t % 86400 / 3600).toNat, by omega⟩
          obtain ⟨mi, hmi⟩ : ∃ n : Nat, t % 86400 / 60 % 60 = (n : Int) := ⟨(t % 86400 / 60 % 60).toNat, by omega⟩
          obtain ⟨s, hs⟩ : ∃ n : Nat, t % 86400 % 60 = (n : Int) := ⟨(t % 86400 % 60).toNat, by omega⟩
          have hh24 : h ≤ 23 := by omega
          have hmi59 : mi ≤ 59 := by omega
          have hs59 : s ≤ 59 := by omega
          have HV : Hid (mkB y ((k + 1 : Nat) : Int) ((d + 1 : Nat) : Int) h mi s = true ∧ mkV y ((k + 1 : Nat) : Int) ((d + 1 : Nat) : Int) h mi s = t) := by
            refine Lib.hid ⟨(mkB_iff _ _ _ _ _ _).2 ⟨y1, y2, by omega, by omega, by omega, ?_, by omega, by omega, by omega, by omega, by omega, by omega⟩, ?_⟩
            · rw [show ((k + 1 : Nat) : Int) = (k : Int) + 1 by omega]; omega
            · have e1 := HX.out
              unfold mkV dbI
              rw [show (((k + 1 : Nat) : Int) - 1).toNat = k by omega]
              omega
          have p0 : (0 : Int) ≤ (d : Int) := by omega
          have p1 : (d : Int) ≤ 366 := x2
          obtain ⟨Y1, hY1⟩ : ∃ l, l = digL (y / 100) 2 := ⟨_, rfl⟩
          obtain ⟨Y2, hY2⟩ : ∃ l, l = digL y 2 := ⟨_, rfl⟩
          obtain ⟨Y4, hY4⟩ : ∃ l, l = digL y 4 := ⟨_, rfl⟩
          obtain ⟨MO, hMO⟩ : ∃ l, l = digL (k + 1) 2 := ⟨_, rfl⟩
          obtain ⟨DD, hDD⟩ : ∃ l, l = digL (d + 1) 2 := ⟨_, rfl⟩
          obtain ⟨HH, hHH⟩ : ∃ l, l = digL h 2 := ⟨_, rfl⟩
          obtain ⟨MI, hMI⟩ : ∃ l, l = digL mi 2 := ⟨_, rfl⟩
          obtain ⟨SS, hSS⟩ : ∃ l, l = digL s 2 := ⟨_, rfl⟩
          have lY1 : Y1.length = 2 := by rw [hY1]; exact digL_length _ _
          have lY2 : Y2.length = 2 := by rw [hY2]; exact digL_length _ _
          have lY4 : Y4.length = 4 := by rw [hY4]; exact digL_length _ _
          have lMO : MO.length = 2 := by rw [hMO]; exact digL_length _ _
          have lDD : DD.length = 2 := by rw [hDD]; exact digL_length _ _
          have lHH : HH.length = 2 := by rw [hHH]; exact digL_length _ _
          have lMI : MI.length = 2 := by rw [hMI]; exact digL_length _ _
          have lSS : SS.length = 2 := by rw [hSS]; exact digL_length _ _
          have HT : Hid (Y4 ++ 45 :: (MO ++ 45 :: (DD ++ 84 :: (HH ++ 58 :: (MI ++ 58 :: (SS ++ [90]))))) = dtext y (k + 1) (d + 1) h mi s) := Lib.hid (by rw [hY4, hMO, hDD, hHH, hMI, hSS]; unfold dtext; simp)
          have q1 := str_cat Y1 Y2
          rw [show Y1 ++ Y2 = Y4 by rw [hY1, hY2, hY4]; exact dig_four y] at q1
          have q2 := str_cat (Y4) [45]
          have q3 := str_cat (Y4 ++ [45]) MO
          have q4 := str_cat (Y4 ++ 45 :: MO) [45]
          have q5 := str_cat (Y4 ++ 45 :: (MO ++ [45])) DD
          have q6 := str_cat (Y4 ++ 45 :: (MO ++ 45 :: DD)) [84]
          have q7 := str_cat (Y4 ++ 45 :: (MO ++ 45 :: (DD ++ [84]))) HH
          have q8 := str_cat (Y4 ++ 45 :: (MO ++ 45 :: (DD ++ 84 :: HH))) [58]
          have q9 := str_cat (Y4 ++ 45 :: (MO ++ 45 :: (DD ++ 84 :: (HH ++ [58])))) MI
          have q10 := str_cat (Y4 ++ 45 :: (MO ++ 45 :: (DD ++ 84 :: (HH ++ 58 :: MI)))) [58]
          have q11 := str_cat (Y4 ++ 45 :: (MO ++ 45 :: (DD ++ 84 :: (HH ++ 58 :: (MI ++ [58]))))) SS
          have q12 := str_cat (Y4 ++ 45 :: (MO ++ 45 :: (DD ++ 84 :: (HH ++ 58 :: (MI ++ 58 :: SS))))) [90]
          have C1 : Hid (∀ (z : Int) W, z = ((y / 100 : Nat) : Int) → Calls Try.prog 43 #[.int .i64 z] W fun e w' => e = .returned (str Y1) ∧ Below W.heap.size W w') := Lib.hid (fun z W hz => by rw [hY1]; exact rtwo_any _ z W hz (by omega))
          have C2 : Hid (∀ (z : Int) W, z = (y : Int) → Calls Try.prog 43 #[.int .i64 z] W fun e w' => e = .returned (str Y2) ∧ Below W.heap.size W w') := Lib.hid (fun z W hz => by rw [hY2]; exact rtwo_any _ z W hz (by omega))
          have C3 : Hid (∀ (z : Int) W, z = ((k + 1 : Nat) : Int) → Calls Try.prog 43 #[.int .i64 z] W fun e w' => e = .returned (str MO) ∧ Below W.heap.size W w') := Lib.hid (fun z W hz => by rw [hMO]; exact rtwo_any _ z W hz (by omega))
          have C4 : Hid (∀ (z : Int) W, z = ((d + 1 : Nat) : Int) → Calls Try.prog 43 #[.int .i64 z] W fun e w' => e = .returned (str DD) ∧ Below W.heap.size W w') := Lib.hid (fun z W hz => by rw [hDD]; exact rtwo_any _ z W hz (by omega))
          have C5 : Hid (∀ (z : Int) W, z = (h : Int) → Calls Try.prog 43 #[.int .i64 z] W fun e w' => e = .returned (str HH) ∧ Below W.heap.size W w') := Lib.hid (fun z W hz => by rw [hHH]; exact rtwo_any _ z W hz (by omega))
          have C6 : Hid (∀ (z : Int) W, z = (mi : Int) → Calls Try.prog 43 #[.int .i64 z] W fun e w' => e = .returned (str MI) ∧ Below W.heap.size W w') := Lib.hid (fun z W hz => by rw [hMI]; exact rtwo_any _ z W hz (by omega))
          have C7 : Hid (∀ (z : Int) W, z = (s : Int) → Calls Try.prog 43 #[.int .i64 z] W fun e w' => e = .returned (str SS) ∧ Below W.heap.size W w') := Lib.hid (fun z W hz => by rw [hSS]; exact rtwo_any _ z W hz (by omega))
          clear y3 x1 x2 hY1 hY2 hY4 hMO hDD hHH hMI hSS
          go_wp2_with (go_at_call 42; refine (rlength_any _ _ _ (by omega) (by omega)).mono ?_; rintro e w' ⟨rfl, rfl⟩)
          refine (C1.out _ _ (by omega)).mono ?_
          rintro e w1 ⟨rfl, hb1⟩
          have B1 := Lib.hid hb1
          clear hb1 C1
          go_wp2_with fail
          refine (C2.out _ _ (by omega)).mono ?_
          rintro e w2 ⟨rfl, hb2⟩
          have B2 := Lib.hid (B1.out.trans (hb2.mono B1.out.size))
          clear hb2 C2 B1
          go_wp2_with fail
          refine (C3.out _ _ (by omega)).mono ?_
          rintro e w3 ⟨rfl, hb3⟩
          have B3 := Lib.hid (B2.out.trans (hb3.mono B2.out.size))
          clear hb3 C3 B2
          go_wp2_with fail
          refine (C4.out _ _ (by omega)).mono ?_
          rintro e w4 ⟨rfl, hb4⟩
          have B4 := Lib.hid (B3.out.trans (hb4.mono B3.out.size))
          clear hb4 C4 B3
          go_wp2_with fail
          refine (C5.out _ _ (by omega)).mono ?_
          rintro e w5 ⟨rfl, hb5⟩
          have B5 := Lib.hid (B4.out.trans (hb5.mono B4.out.size))
          clear hb5 C5 B4
          go_wp2_with fail
          refine (C6.out _ _ (by omega)).mono ?_
          rintro e w6 ⟨rfl, hb6⟩
          have B6 := Lib.hid (B5.out.trans (hb6.mono B5.out.size))
          clear hb6 C6 B5
          go_wp2_with fail
          refine (C7.out _ _ (by omega)).mono ?_
          rintro e w7 ⟨rfl, hb7⟩
          have B7 := Lib.hid (B6.out.trans (hb7.mono B6.out.size))
          clear hb7 C7 B6
          go_wp2_with fail
          go_ret2
          exact ⟨y, k + 1, d + 1, h, mi, s, by rw [HT.out]; rfl, HV.out.1, HV.out.2, hs59, B7.out⟩
end Go.Proofs.Ytnaafdennieedaa
