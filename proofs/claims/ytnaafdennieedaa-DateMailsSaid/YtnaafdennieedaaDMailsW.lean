/- Layer 5: DateMails, whole. -/
import Derived.Test.YtnaafdennieedaaDMailsA
import Derived.Test.YtnaafdennieedaaDMailsB
import Derived.Test.YtnaafdennieedaaDMailsC
import Derived.Test.YtnaafdennieedaaDMailsE
import Derived.Test.YtnaafdennieedaaDMailsF
namespace Go.Proofs.Ytnaafdennieedaa
open Go.RowKit
theorem dmails_in (d k y h mi s q : Nat) (w : World) (hd1 : 1 ≤ d) (hd2 : d ≤ 99) (hk : k < 12) (hy1 : 1970 ≤ y) (hy2 : y ≤ 2068) (hh : h ≤ 99) (hmi : mi ≤ 99) (hs : s ≤ 99) (hq : q < 10) :
    Calls Try.prog 6 #[.int .i64 (d : Int), .int .i64 ((k : Int) + 1), .int .i64 (y : Int), .int .i64 (h : Int), .int .i64 (mi : Int), .int .i64 (s : Int), .int .i64 (q : Int)] w fun e w' => e = .returned (.bool true) ∧ Below w.heap.size w w' := by
  have o1 : -8 ≤ zoneO q ∧ zoneO q ≤ 0 := by
    have : q = 0 ∨ q = 1 ∨ q = 2 ∨ q = 3 ∨ q = 4 ∨ q = 5 ∨ q = 6 ∨ q = 7 ∨ q = 8 ∨ q = 9 := by omega
    rcases this with h | h | h | h | h | h | h | h | h | h <;> subst h <;> decide
  have sh : -28800 ≤ zoneS q ∧ zoneS q ≤ 5400 := by unfold zoneS; split <;> omega
  have hv : mkB y ((k : Int) + 1) d h mi s = true → 0 ≤ mkV y ((k : Int) + 1) d h mi s ∧ mkV y ((k : Int) + 1) d h mi s ≤ 253370851199 := by
    intro e
    have g1 := (mkV_bd _ _ _ _ _ _ e).1
    obtain ⟨b1, b2, b3, b4, b5, b6, b7, b8, b9, b10, b11, b12⟩ := (mkB_iff _ _ _ _ _ _).1 e
    have g2 := db_lt_year y ((k : Int) + 1) d 9999 1 1 b1 b3 b4 b6 (by omega) (by omega) (by omega)
    have g3 : dbI 9999 1 1 = 2932532 := by rfl
    refine ⟨g1, ?_⟩
    unfold mkV; omega
  by_cases h9 : q = 9
  · have h5 : zoneS q = 5400 := by rw [h9]; rfl
    cases hM : mkB y ((k : Int) + 1) d h mi s with
    | false => exact dmails_e d k y h mi s q 0 _ _ w hd1 hd2 hk hy1 hy2 hh hmi hs hq sh.1 sh.2 (Lib.hid rfl) (Lib.hid rfl) (Lib.hid hM) h9 h5
    | true =>
      obtain ⟨v0, v1⟩ := hv hM
      by_cases g1 : mkV y ((k : Int) + 1) d h mi s - zoneS q < 0
      · exact dmails_c d k y h mi s q 0 _ _ w hd1 hd2 hk hy1 hy2 hh hmi hs hq sh.1 sh.2 (Lib.hid rfl) (Lib.hid rfl) (Lib.hid hM) v0 v1 g1 h9 h5
      · exact dmails_a d k y h mi s q 0 _ _ w hd1 hd2 hk hy1 hy2 hh hmi hs hq sh.1 sh.2 (Lib.hid rfl) (Lib.hid rfl) (Lib.hid hM) v0 v1 g1 h9 h5
  · have t9 : ((q : Int) == 9) = false := by rw [beq_eq_false_iff_ne]; omega
    have hsh : zoneO q * 3600 = zoneS q := by rw [zoneS, if_neg h9]
    cases hM : mkB y ((k : Int) + 1) d h mi s with
    | false => exact dmails_f d k y h mi s q _ _ _ w hd1 hd2 hk hy1 hy2 hh hmi hs hq sh.1 sh.2 (Lib.hid rfl) (Lib.hid rfl) (Lib.hid hM) o1.1 o1.2 t9 hsh rfl
    | true =>
      obtain ⟨v0, v1⟩ := hv hM
      exact dmails_b d k y h mi s q _ _ _ w hd1 hd2 hk hy1 hy2 hh hmi hs hq sh.1 sh.2 (Lib.hid rfl) (Lib.hid rfl) (Lib.hid hM) v0 v1 (by omega) o1.1 o1.2 t9 hsh rfl
set_option maxHeartbeats 12800000 in
set_option maxRecDepth 100000 in
theorem dmails_out (d mo y h mi s q : Int) (w : World) (ho : ¬ (1 ≤ d ∧ d ≤ 99 ∧ 1 ≤ mo ∧ mo ≤ 12 ∧ 1970 ≤ y ∧ y ≤ 2068 ∧ 0 ≤ h ∧ h ≤ 99 ∧ 0 ≤ mi ∧ mi ≤ 99 ∧ 0 ≤ s ∧ s ≤ 99 ∧ 0 ≤ q ∧ q ≤ 9)) :
    Calls Try.prog 6 #[.int .i64 d, .int .i64 mo, .int .i64 y, .int .i64 h, .int .i64 mi, .int .i64 s, .int .i64 q] w fun e w' => e = .returned (.bool true) ∧ Below w.heap.size w w' := by
  by_cases c0 : d < 1
  · clear ho
    go_enter Try.func6, Try.ntmps6
    go_wp2_with fail
    refine (dfirst_any _).mono ?_
    rintro e w1 ⟨rfl, hb1⟩
    have HB1 := Lib.hid hb1
    clear hb1
    go_wp2_with fail
    refine (dfirst_any _).mono ?_
    rintro e w2 ⟨rfl, hb2⟩
    have HB2 := Lib.hid (HB1.out.trans (hb2.mono HB1.out.size))
    clear hb2
    go_wp2_with fail
    go_ret
    exact ⟨rfl, HB2.out⟩
  by_cases c1 : 99 < d
  · clear ho
    go_enter Try.func6, Try.ntmps6
    go_wp2_with fail
    refine (dfirst_any _).mono ?_
    rintro e w1 ⟨rfl, hb1⟩
    have HB1 := Lib.hid hb1
    clear hb1
    go_wp2_with fail
    refine (dfirst_any _).mono ?_
    rintro e w2 ⟨rfl, hb2⟩
    have HB2 := Lib.hid (HB1.out.trans (hb2.mono HB1.out.size))
    clear hb2
    go_wp2_with fail
    go_ret
    exact ⟨rfl, HB2.out⟩
  by_cases c2 : mo < 1
  · clear ho
    go_enter Try.func6, Try.ntmps6
    go_wp2_with fail
    refine (dfirst_any _).mono ?_
    rintro e w1 ⟨rfl, hb1⟩
    have HB1 := Lib.hid hb1
    clear hb1
    go_wp2_with fail
    refine (dfirst_any _).mono ?_
    rintro e w2 ⟨rfl, hb2⟩
    have HB2 := Lib.hid (HB1.out.trans (hb2.mono HB1.out.size))
    clear hb2
    go_wp2_with fail
    go_ret
    exact ⟨rfl, HB2.out⟩
  by_cases c3 : 12 < mo
  · clear ho
    go_enter Try.func6, Try.ntmps6
    go_wp2_with fail
    refine (dfirst_any _).mono ?_
    rintro e w1 ⟨rfl, hb1⟩
    have HB1 := Lib.hid hb1
    clear hb1
    go_wp2_with fail
    refine (dfirst_any _).mono ?_
    rintro e w2 ⟨rfl, hb2⟩
    have HB2 := Lib.hid (HB1.out.trans (hb2.mono HB1.out.size))
    clear hb2
    go_wp2_with fail
    go_ret
    exact ⟨rfl, HB2.out⟩
  by_cases c4 : y < 1970
  · clear ho
    go_enter Try.func6, Try.ntmps6
    go_wp2_with fail
    refine (dfirst_any _).mono ?_
    rintro e w1 ⟨rfl, hb1⟩
    have HB1 := Lib.hid hb1
    clear hb1
    go_wp2_with fail
    refine (dfirst_any _).mono ?_
    rintro e w2 ⟨rfl, hb2⟩
    have HB2 := Lib.hid (HB1.out.trans (hb2.mono HB1.out.size))
    clear hb2
    go_wp2_with fail
    go_ret
    exact ⟨rfl, HB2.out⟩
  by_cases c5 : 2068 < y
  · clear ho
    go_enter Try.func6, Try.ntmps6
    go_wp2_with fail
    refine (dfirst_any _).mono ?_
    rintro e w1 ⟨rfl, hb1⟩
    have HB1 := Lib.hid hb1
    clear hb1
    go_wp2_with fail
    refine (dfirst_any _).mono ?_
    rintro e w2 ⟨rfl, hb2⟩
    have HB2 := Lib.hid (HB1.out.trans (hb2.mono HB1.out.size))
    clear hb2
    go_wp2_with fail
    go_ret
    exact ⟨rfl, HB2.out⟩
  by_cases c6 : h < 0
  · clear ho
    go_enter Try.func6, Try.ntmps6
    go_wp2_with fail
    refine (dfirst_any _).mono ?_
    rintro e w1 ⟨rfl, hb1⟩
    have HB1 := Lib.hid hb1
    clear hb1
    go_wp2_with fail
    refine (dfirst_any _).mono ?_
    rintro e w2 ⟨rfl, hb2⟩
    have HB2 := Lib.hid (HB1.out.trans (hb2.mono HB1.out.size))
    clear hb2
    go_wp2_with fail
    go_ret
    exact ⟨rfl, HB2.out⟩
  by_cases c7 : 99 < h
  · clear ho
    go_enter Try.func6, Try.ntmps6
    go_wp2_with fail
    refine (dfirst_any _).mono ?_
    rintro e w1 ⟨rfl, hb1⟩
    have HB1 := Lib.hid hb1
    clear hb1
    go_wp2_with fail
    refine (dfirst_any _).mono ?_
    rintro e w2 ⟨rfl, hb2⟩
    have HB2 := Lib.hid (HB1.out.trans (hb2.mono HB1.out.size))
    clear hb2
    go_wp2_with fail
    go_ret
    exact ⟨rfl, HB2.out⟩
  by_cases c8 : mi < 0
  · clear ho
    go_enter Try.func6, Try.ntmps6
    go_wp2_with fail
    refine (dfirst_any _).mono ?_
    rintro e w1 ⟨rfl, hb1⟩
    have HB1 := Lib.hid hb1
    clear hb1
    go_wp2_with fail
    refine (dfirst_any _).mono ?_
    rintro e w2 ⟨rfl, hb2⟩
    have HB2 := Lib.hid (HB1.out.trans (hb2.mono HB1.out.size))
    clear hb2
    go_wp2_with fail
    go_ret
    exact ⟨rfl, HB2.out⟩
  by_cases c9 : 99 < mi
  · clear ho
    go_enter Try.func6, Try.ntmps6
    go_wp2_with fail
    refine (dfirst_any _).mono ?_
    rintro e w1 ⟨rfl, hb1⟩
    have HB1 := Lib.hid hb1
    clear hb1
    go_wp2_with fail
    refine (dfirst_any _).mono ?_
    rintro e w2 ⟨rfl, hb2⟩
    have HB2 := Lib.hid (HB1.out.trans (hb2.mono HB1.out.size))
    clear hb2
    go_wp2_with fail
    go_ret
    exact ⟨rfl, HB2.out⟩
  by_cases c10 : s < 0
  · clear ho
    go_enter Try.func6, Try.ntmps6
    go_wp2_with fail
    refine (dfirst_any _).mono ?_
    rintro e w1 ⟨rfl, hb1⟩
    have HB1 := Lib.hid hb1
    clear hb1
    go_wp2_with fail
    refine (dfirst_any _).mono ?_
    rintro e w2 ⟨rfl, hb2⟩
    have HB2 := Lib.hid (HB1.out.trans (hb2.mono HB1.out.size))
    clear hb2
    go_wp2_with fail
    go_ret
    exact ⟨rfl, HB2.out⟩
  by_cases c11 : 99 < s
  · clear ho
    go_enter Try.func6, Try.ntmps6
    go_wp2_with fail
    refine (dfirst_any _).mono ?_
    rintro e w1 ⟨rfl, hb1⟩
    have HB1 := Lib.hid hb1
    clear hb1
    go_wp2_with fail
    refine (dfirst_any _).mono ?_
    rintro e w2 ⟨rfl, hb2⟩
    have HB2 := Lib.hid (HB1.out.trans (hb2.mono HB1.out.size))
    clear hb2
    go_wp2_with fail
    go_ret
    exact ⟨rfl, HB2.out⟩
  by_cases c12 : q < 0
  · clear ho
    go_enter Try.func6, Try.ntmps6
    go_wp2_with fail
    refine (dfirst_any _).mono ?_
    rintro e w1 ⟨rfl, hb1⟩
    have HB1 := Lib.hid hb1
    clear hb1
    go_wp2_with fail
    refine (dfirst_any _).mono ?_
    rintro e w2 ⟨rfl, hb2⟩
    have HB2 := Lib.hid (HB1.out.trans (hb2.mono HB1.out.size))
    clear hb2
    go_wp2_with fail
    go_ret
    exact ⟨rfl, HB2.out⟩
  by_cases c13 : 9 < q
  · clear ho
    go_enter Try.func6, Try.ntmps6
    go_wp2_with fail
    refine (dfirst_any _).mono ?_
    rintro e w1 ⟨rfl, hb1⟩
    have HB1 := Lib.hid hb1
    clear hb1
    go_wp2_with fail
    refine (dfirst_any _).mono ?_
    rintro e w2 ⟨rfl, hb2⟩
    have HB2 := Lib.hid (HB1.out.trans (hb2.mono HB1.out.size))
    clear hb2
    go_wp2_with fail
    go_ret
    exact ⟨rfl, HB2.out⟩
  exact absurd ⟨by omega, by omega, by omega, by omega, by omega, by omega, by omega, by omega, by omega, by omega, by omega, by omega, by omega, by omega⟩ ho
theorem dmails_walk (d mo y h mi s q : Int) (w : World) (_h1 : -9223372036854775808 ≤ d ∧ d ≤ 9223372036854775807) (_h2 : -9223372036854775808 ≤ mo ∧ mo ≤ 9223372036854775807) (_h3 : -9223372036854775808 ≤ y ∧ y ≤ 9223372036854775807) (_h4 : -9223372036854775808 ≤ h ∧ h ≤ 9223372036854775807)
    (_h5 : -9223372036854775808 ≤ mi ∧ mi ≤ 9223372036854775807) (_h6 : -9223372036854775808 ≤ s ∧ s ≤ 9223372036854775807) (_h7 : -9223372036854775808 ≤ q ∧ q ≤ 9223372036854775807) :
    Calls Try.prog 6 #[.int .i64 d, .int .i64 mo, .int .i64 y, .int .i64 h, .int .i64 mi, .int .i64 s, .int .i64 q] w fun e w' => e = .returned (.bool true) ∧ Below w.heap.size w w' := by
  by_cases ho : 1 ≤ d ∧ d ≤ 99 ∧ 1 ≤ mo ∧ mo ≤ 12 ∧ 1970 ≤ y ∧ y ≤ 2068 ∧ 0 ≤ h ∧ h ≤ 99 ∧ 0 ≤ mi ∧ mi ≤ 99 ∧ 0 ≤ s ∧ s ≤ 99 ∧ 0 ≤ q ∧ q ≤ 9
  · obtain ⟨a1, a2, a3, a4, a5, a6, a7, a8, a9, a10, a11, a12, a13, a14⟩ := ho
    obtain ⟨d, rfl⟩ : ∃ n : Nat, d = (n : Int) := ⟨d.toNat, by omega⟩
    obtain ⟨k, rfl⟩ : ∃ n : Nat, mo = (n : Int) + 1 := ⟨(mo - 1).toNat, by omega⟩
    obtain ⟨y, rfl⟩ : ∃ n : Nat, y = (n : Int) := ⟨y.toNat, by omega⟩
    obtain ⟨h, rfl⟩ : ∃ n : Nat, h = (n : Int) := ⟨h.toNat, by omega⟩
    obtain ⟨mi, rfl⟩ : ∃ n : Nat, mi = (n : Int) := ⟨mi.toNat, by omega⟩
    obtain ⟨s, rfl⟩ : ∃ n : Nat, s = (n : Int) := ⟨s.toNat, by omega⟩
    obtain ⟨q, rfl⟩ : ∃ n : Nat, q = (n : Int) := ⟨q.toNat, by omega⟩
    exact dmails_in d k y h mi s q w (by omega) (by omega) (by omega) (by omega) (by omega) (by omega) (by omega) (by omega) (by omega)
  · exact dmails_out d mo y h mi s q w ho
end Go.Proofs.Ytnaafdennieedaa
