/- Layer 5: a told time read by Net; DateOrder. -/
import Derived.Test.YtnaafdennieedaaDMath
namespace Go.Proofs.Ytnaafdennieedaa
open Go.RowKit

theorem net_told (t r : List UInt8) (y mo d h mi s : Nat) (e : t = digL y 4 ++ (45 :: (digL mo 2 ++ (45 :: (digL d 2 ++ (84 :: (digL h 2 ++ (58 :: (digL mi 2 ++ (58 :: (digL s 2 ++ r))))))))))) (hy : y < 10000) (hmo : mo < 100) (hd : d < 100) (hh : h < 100) (hmi : mi < 100) (hs : s < 100) :
    netR t = secR t (nzF t (fracF t 19 false).1 (fracF t 19 false).2).2.1 (nzF t (fracF t 19 false).1 (fracF t 19 false).2).2.2 y mo d h mi s (nzF t (fracF t 19 false).1 (fracF t 19 false).2).1 ∧ t.drop 19 = r := by
  have d0 : t.drop 0 = digL y 4 ++ (45 :: (digL mo 2 ++ (45 :: (digL d 2 ++ (84 :: (digL h 2 ++ (58 :: (digL mi 2 ++ (58 :: (digL s 2 ++ r)))))))))) := by rw [List.drop_zero]; exact e
  have e0 := numF_hit t false y _ 4 0 0 d0
  have d4 := drop_hits t 0 _ _ d0
  rw [digL_length] at d4
  have e1 := sgnF_hit [45] t 4 false 45 _ d4 (by decide)
  have d5 := drop_hit t 4 _ _ d4
  have e2 := numF_hit t false mo _ 2 0 5 d5
  have d7 := drop_hits t 5 _ _ d5
  rw [digL_length] at d7
  have e3 := sgnF_hit [45] t 7 false 45 _ d7 (by decide)
  have d8 := drop_hit t 7 _ _ d7
  have e4 := numF_hit t false d _ 2 0 8 d8
  have d10 := drop_hits t 8 _ _ d8
  rw [digL_length] at d10
  have e5 := sgnF_hit [84, 116] t 10 false 84 _ d10 (by decide)
  have d11 := drop_hit t 10 _ _ d10
  have e6 := numF_hit t false h _ 2 0 11 d11
  have d13 := drop_hits t 11 _ _ d11
  rw [digL_length] at d13
  have e7 := sgnF_hit [58] t 13 false 58 _ d13 (by decide)
  have d14 := drop_hit t 13 _ _ d13
  have e8 := numF_hit t false mi _ 2 0 14 d14
  have d16 := drop_hits t 14 _ _ d14
  rw [digL_length] at d16
  have e9 := sgnF_hit [58] t 16 false 58 _ d16 (by decide)
  have d17 := drop_hit t 16 _ _ d16
  have e10 := numF_hit t false s _ 2 0 17 d17
  have d19 := drop_hits t 17 _ _ d17
  rw [digL_length] at d19
  refine ⟨?_, d19⟩
  unfold netR
  simp only [e0, e1, e2, e3, e4, e5, e6, e7, e8, e9, e10]
  have m1 : (0 : Int) * 10 ^ 4 + ((y % 10 ^ 4 : Nat) : Int) = y := by rw [Nat.mod_eq_of_lt (by omega)]; omega
  have m2 : ∀ x : Nat, x < 100 → (0 : Int) * 10 ^ 2 + ((x % 10 ^ 2 : Nat) : Int) = x := fun x hx => by rw [Nat.mod_eq_of_lt (by omega)]; omega
  rw [m1, m2 mo hmo, m2 d hd, m2 h hh, m2 mi hmi, m2 s hs]
theorem dtext_cons (y mo d h mi s : Nat) : dtext y mo d h mi s = digL y 4 ++ (45 :: (digL mo 2 ++ (45 :: (digL d 2 ++ (84 :: (digL h 2 ++ (58 :: (digL mi 2 ++ (58 :: (digL s 2 ++ [90])))))))))) := by
  unfold dtext
  simp only [List.append_assoc, List.cons_append, List.nil_append]
theorem dtext_len (y mo d h mi s : Nat) : (dtext y mo d h mi s).length = 20 := by
  unfold dtext; simp [digL_length]
theorem net_Z (t : List UInt8) (h : t.drop 19 = [90]) : fracF t 19 false = (19, false) ∧ nzF t 19 false = (0, 20, false) ∧ t.length = 20 := by
  have e1 := pk_hit t 19 90 [] h
  have e2 := sgnF_hit [90, 122, 43, 45] t 19 false 90 [] h (by decide)
  have e3 := congrArg List.length h
  rw [List.length_drop] at e3
  refine ⟨?_, ?_, by simp at e3; omega⟩
  · unfold fracF; rw [e1, if_neg (by decide)]
  · unfold nzF; simp only [e2]; rfl
theorem secR_ok (t : List UInt8) (p : Nat) (y mo d h mi s a : Int) (hp : p = t.length) (H : mkB y mo d h mi s = true) :
    secR t p false y mo d h mi s a = if mkV y mo d h mi s - a < 0 ∨ 253402300800 ≤ mkV y mo d h mi s - a then (0, 1) else (mkV y mo d h mi s - a, 0) := by
  unfold secR
  rw [if_neg (by simp [hp]), H]
  simp only [Bool.true_eq_false, false_or]
theorem mk_small (y mo d h mi s : Nat) (H : mkB y mo d h mi s = true) : y < 10000 ∧ mo < 100 ∧ d < 100 ∧ h < 100 ∧ mi < 100 ∧ s < 100 := by
  obtain ⟨a1, a2, a3, a4, a5, a6, a7, a8, a9, a10, a11, a12⟩ := (mkB_iff _ _ _ _ _ _).1 H
  have := dof_bd y mo (by omega)
  exact ⟨by omega, by omega, by omega, by omega, by omega, by omega⟩
theorem mkV_max (y mo d h mi s : Nat) (H : mkB y mo d h mi s = true) (_hs : s ≤ 59) : 0 ≤ mkV y mo d h mi s ∧ mkV y mo d h mi s < 253402300800 := by
  obtain ⟨a1, a2, a3, a4, a5, a6, a7, a8, a9, a10, a11, a12⟩ := (mkB_iff _ _ _ _ _ _).1 H
  have k := db_lt_year y mo d 10000 1 1 a1 a3 a4 a6 (by omega) (by omega) (by omega)
  have e : dbI 10000 1 1 = 2932897 := by rfl
  refine ⟨(mkV_bd _ _ _ _ _ _ H).1, ?_⟩
  unfold mkV; omega
theorem net_dtext (y mo d h mi s : Nat) (H : mkB y mo d h mi s = true) (hs : s ≤ 59) : netR (dtext y mo d h mi s) = (mkV y mo d h mi s, 0) := by
  obtain ⟨b1, b2, b3, b4, b5, b6⟩ := mk_small y mo d h mi s H
  obtain ⟨e1, e2⟩ := net_told _ _ y mo d h mi s (dtext_cons y mo d h mi s) b1 b2 b3 b4 b5 b6
  obtain ⟨e3, e4, e5⟩ := net_Z _ e2
  rw [e1, e3]
  simp only [e4]
  rw [secR_ok _ _ _ _ _ _ _ _ _ e5.symm H, Int.sub_zero, if_neg]
  have := mkV_max y mo d h mi s H hs
  omega

set_option maxHeartbeats 6400000 in
set_option maxRecDepth 100000 in
theorem dorder_yes (a b : Int) (w : World) (a0 : 0 ≤ a) (a1 : a < 253402300800) (b0 : 0 ≤ b) (b1 : b < 253402300800) :
    Calls Try.prog 7 #[.int .i64 a, .int .i64 b] w fun e w' => e = .returned (.bool true) ∧ Below w.heap.size w w' := by
  go_enter Try.func7, Try.ntmps7
  go_wp2_with fail
  refine (dfirst_any _).mono ?_
  rintro e w1 ⟨rfl, hb1⟩
  have HB1 := Lib.hid hb1
  clear hb1
  go_wp2_with fail
  refine (print_yes a _ a0 a1).mono ?_
  rintro e w2 ⟨y, mo, d, h, mi, s, rfl, H, hV, hs, hb2⟩
  have HB2 := Lib.hid (HB1.out.trans (hb2.mono HB1.out.size))
  have HX := Lib.hid (show mkB y mo d h mi s = true ∧ mkV y mo d h mi s = a ∧ s ≤ 59 from ⟨H, hV, hs⟩)
  have N1 := net_dtext y mo d h mi s H hs
  rw [hV] at N1
  have L1 := dtext_len y mo d h mi s
  obtain ⟨X, hX⟩ : ∃ X, X = dtext y mo d h mi s := ⟨_, rfl⟩
  rw [← hX] at N1 L1
  rw [← hX]
  have HXX := Lib.hid hX
  have HN1 := Lib.hid N1
  have HL1 := Lib.hid L1
  clear hb2 H hV hs N1 L1 hX
  go_wp2_with fail
  refine (print_yes b _ b0 b1).mono ?_
  rintro e w3 ⟨y', mo', d', h', mi', s', rfl, H, hV, hs, hb3⟩
  have HB3 := Lib.hid (HB2.out.trans (hb3.mono HB2.out.size))
  have HO := dtext_order y mo d h mi s y' mo' d' h' mi' s' HX.out.1 HX.out.2.2 H hs
  rw [HX.out.2.1, hV, ← HXX.out] at HO
  obtain ⟨Y, hY⟩ : ∃ Y, Y = dtext y' mo' d' h' mi' s' := ⟨_, rfl⟩
  rw [← hY] at HO
  rw [← hY]
  have HH := Lib.hid HO
  clear hb3 H hV hs hY HO
  go_wp2_with fail
  refine (any_any X _ (by rw [HL1.out]; decide)).mono ?_
  rintro e w4 ⟨rfl, hb4⟩
  have HB4 := Lib.hid (HB3.out.trans (hb4.mono HB3.out.size))
  clear hb4
  rw [HN1.out]
  unfold twoE
  simp only [Int.reduceEq, if_false]
  go_wp2_with fail
  refine (dfirst_any _).mono ?_
  rintro e w5 ⟨rfl, hb5⟩
  have HB5 := Lib.hid (HB4.out.trans (hb5.mono HB4.out.size))
  clear hb5
  obtain ⟨bb, t1, t2⟩ : ∃ bb : Bool, decide (a < b) = bb ∧ Op.bytesLess X Y = bb := ⟨_, rfl, HH.out⟩
  cases bb
  all_goals
    go_wp2_with fail
    go_ret
    exact ⟨rfl, HB5.out⟩
/-- What Print tells, whatever it is. -/
def PrintAny (t : Int) (w : World) (e : Ending) (w' : World) : Prop := ∃ (l : List UInt8) (x : Int), e = .returned (.tuple #[str l, .int .i64 x]) ∧ (t < 0 ∨ 253402300800 ≤ t → x = 1) ∧ Below w.heap.size w w'
theorem print_any (t : Int) (w : World) : Calls Try.prog 15 #[.int .i64 t] w (PrintAny t w) := by
  by_cases h : t < 0 ∨ 253402300800 ≤ t
  · exact (print_no t w h).mono fun e w' ⟨he, hw⟩ => ⟨[], 1, he, fun _ => rfl, by rw [hw]; exact Below.refl _ _⟩
  · exact (print_yes t w (by omega) (by omega)).mono fun e w' ⟨y, mo, d, hh, mi, s, he, _, _, _, hb⟩ => ⟨_, 0, he, fun g => absurd g h, hb⟩
set_option maxHeartbeats 1600000 in
theorem dorder_no (a b : Int) (w : World) (hno : (a < 0 ∨ 253402300800 ≤ a) ∨ (b < 0 ∨ 253402300800 ≤ b)) :
    Calls Try.prog 7 #[.int .i64 a, .int .i64 b] w fun e w' => e = .returned (.bool true) ∧ Below w.heap.size w w' := by
  have HN := Lib.hid hno
  clear hno
  go_enter Try.func7, Try.ntmps7
  go_wp2_with fail
  refine (dfirst_any _).mono ?_
  rintro e w1 ⟨rfl, hb1⟩
  have HB1 := Lib.hid hb1
  clear hb1
  go_wp2_with fail
  refine (print_any a _).mono ?_
  rintro e w2 ⟨l, x, rfl, hx, hb2⟩
  have HB2 := Lib.hid (HB1.out.trans (hb2.mono HB1.out.size))
  have HX := Lib.hid hx
  clear hb2 hx
  go_wp2_with fail
  refine (print_any b _).mono ?_
  rintro e w3 ⟨l2, x2, rfl, hx, hb3⟩
  have HB3 := Lib.hid (HB2.out.trans (hb3.mono HB2.out.size))
  have hxs : x = 1 ∨ x2 = 1 := by
    rcases HN.out with h | h
    · exact .inl (HX.out h)
    · exact .inr (hx h)
  clear hb3 hx HX
  have t1 : (x != 0) = true ∨ ((x != 0) = false ∧ (x2 != 0) = true) := by
    by_cases g : x = 0
    · subst g
      have : x2 = 1 := by omega
      subst this
      exact .inr ⟨rfl, rfl⟩
    · exact .inl (by rw [bne_iff_ne]; exact g)
  clear hxs
  rcases t1 with t1 | ⟨t1, t2⟩
  all_goals
    go_wp2_with fail
    refine (dfirst_any _).mono ?_
    rintro e w4 ⟨rfl, hb4⟩
    have HB4 := Lib.hid (HB3.out.trans (hb4.mono HB3.out.size))
    clear hb4
    go_wp2_with fail
    go_ret
    exact ⟨rfl, HB4.out⟩
theorem dorder_walk (a b : Int) (w : World) (_ha : -9223372036854775808 ≤ a ∧ a ≤ 9223372036854775807) (_hb : -9223372036854775808 ≤ b ∧ b ≤ 9223372036854775807) :
    Calls Try.prog 7 #[.int .i64 a, .int .i64 b] w fun e w' => e = .returned (.bool true) ∧ Below w.heap.size w w' := by
  by_cases h : (a < 0 ∨ 253402300800 ≤ a) ∨ (b < 0 ∨ 253402300800 ≤ b)
  · exact dorder_no a b w h
  · exact dorder_yes a b w (by omega) (by omega) (by omega) (by omega)
end Go.Proofs.Ytnaafdennieedaa
