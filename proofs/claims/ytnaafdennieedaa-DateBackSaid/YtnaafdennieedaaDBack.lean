/- Layer 5: DateBack. -/
import Derived.Test.YtnaafdennieedaaDBMath
namespace Go.Proofs.Ytnaafdennieedaa
open Go.RowKit
set_option maxHeartbeats 6400000 in
set_option maxRecDepth 100000 in
theorem dback_yes (t : Int) (hr mn : Nat) (w : World) (t0 : 0 ≤ t) (t1 : t < 253402300800) (hh1 : hr ≤ 23) (mm1 : mn ≤ 59) :
    Calls Try.prog 4 #[.int .i64 t, .int .i64 (hr : Int), .int .i64 (mn : Int)] w fun e w' => e = .returned (.bool true) ∧ Below w.heap.size w w' := by
  have h0 : (0 : Int) ≤ (hr : Int) := by omega
  have h1 : (hr : Int) ≤ 23 := by omega
  have m0 : (0 : Int) ≤ (mn : Int) := by omega
  have m1 : (mn : Int) ≤ 59 := by omega
  go_enter Try.func4, Try.ntmps4
  go_wp2_with fail
  refine (dfirst_any _).mono ?_
  rintro e w1 ⟨rfl, hb1⟩
  have HB1 := Lib.hid hb1
  clear hb1
  go_wp2_with fail
  refine (print_yes t _ t0 t1).mono ?_
  rintro e w2 ⟨y, mo, d, h, mi, s, rfl, H, hV, hs, hb2⟩
  have HB2 := Lib.hid (HB1.out.trans (hb2.mono HB1.out.size))
  have HX := Lib.hid (show mkB y mo d h mi s = true ∧ mkV y mo d h mi s = t ∧ s ≤ 59 from ⟨H, hV, hs⟩)
  have N1 := net_dtext y mo d h mi s H hs
  rw [hV] at N1
  have L1 := dtext_len y mo d h mi s
  obtain ⟨X, hX⟩ : ∃ X, X = dtext y mo d h mi s := ⟨_, rfl⟩
  rw [← hX] at N1 L1
  rw [← hX]
  have HXX := Lib.hid hX
  have HN1 := Lib.hid N1
  have HL1 := Lib.hid L1
  clear hb2 H hV hs N1 L1 hX
  go_wp2_with fail
  refine (net_any X _ (by rw [HL1.out]; decide)).mono ?_
  rintro e w4 ⟨rfl, hb4⟩
  have HB4 := Lib.hid (HB2.out.trans (hb4.mono HB2.out.size))
  clear hb4
  rw [HN1.out]
  unfold twoE
  have n20 : ((X.length : Int) != 20) = false := by rw [HL1.out]; rfl
  have n19 : (19 : Int) ≤ (X.length : Int) := by rw [HL1.out]; decide
  have s1 : (ByteArray.mk X.toArray).extract 0 19 = ByteArray.mk (X.take 19).toArray := by rw [str_cut]; simp
  obtain ⟨Z, hZ⟩ : ∃ Z, Z = digL hr 2 ++ (58 :: digL mn 2) := ⟨_, rfl⟩
  have hconv : (convert 31 9 (.slice (some ⟨w4.heap.size, 0, none⟩) 5 5)).run Try.prog (w4.alloc (.cells #[.int .u8 (48 + (hr : Int) / 10), .int .u8 (48 + (hr : Int) % 10), .int .u8 58, .int .u8 (48 + (mn : Int) / 10), .int .u8 (48 + (mn : Int) % 10)] 5)) =
      .ok (str Z) (w4.alloc (.cells #[.int .u8 (48 + (hr : Int) / 10), .int .u8 (48 + (hr : Int) % 10), .int .u8 58, .int .u8 (48 + (mn : Int) / 10), .int .u8 (48 + (mn : Int) % 10)] 5)) := by
    have e : #[.int .u8 (48 + (hr : Int) / 10), .int .u8 (48 + (hr : Int) % 10), .int .u8 58, .int .u8 (48 + (mn : Int) / 10), .int .u8 (48 + (mn : Int) % 10)] = (Z.map bv).toArray := by
      rw [hZ, digL2 hr (by omega), digL2 mn (by omega)]
      simp only [List.cons_append, List.nil_append, List.map_cons, List.map_nil, bv_ofNat _ (show 48 + hr / 10 < 256 by omega), bv_ofNat _ (show 48 + hr % 10 < 256 by omega), bv_ofNat _ (show 48 + mn / 10 < 256 by omega), bv_ofNat _ (show 48 + mn % 10 < 256 by omega)]
      have e58 : bv 58 = .int .u8 58 := rfl
      rw [e58]
      push_cast
      rfl
    have hl : Z.length = 5 := by rw [hZ]; simp [digL_length]
    rw [e]
    have := bt.toString (S := 9) Try.underlying9 (Rd.row 5 w4 Z (by omega))
    rw [hl] at this
    exact this
  have q1 := str_cat (X.take 19) [45]
  have q2 := str_cat (X.take 19 ++ [45]) Z
  have q3 := str_cat (X.take 19) [43]
  have q4 := str_cat (X.take 19 ++ [43]) Z
  have q5 := str_cat (X.take 19) [46, 50, 53]
  have q6 := str_cat (X.take 19 ++ [46, 50, 53]) [90]
  have lX : (X.take 19).length = 19 := by rw [List.length_take, HL1.out]; rfl
  have lZ : Z.length = 5 := by rw [hZ]; simp [digL_length]
  have v1 := net_off y mo d h mi s 45 (.inl rfl) hr mn hh1 mm1 HX.out.1
  have v2 := net_off y mo d h mi s 43 (.inr rfl) hr mn hh1 mm1 HX.out.1
  have v3 := net_frac y mo d h mi s HX.out.1 HX.out.2.2
  rw [HX.out.2.1, ← HXX.out, ← hZ] at v1 v2
  rw [HX.out.2.1, ← HXX.out] at v3
  have o1 : offV 45 hr mn = -((hr : Int) * 3600 + (mn : Int) * 60) := by
    unfold offV; rw [if_pos rfl]; omega
  have o2 : offV 43 hr mn = (hr : Int) * 3600 + (mn : Int) * 60 := by
    unfold offV; rw [if_neg (by decide)]
  rw [o1] at v1
  rw [o2] at v2
  obtain ⟨P, hP⟩ : ∃ P, P = X.take 19 := ⟨_, rfl⟩
  simp only [← hP] at v1 v2 v3 q1 q2 q3 q4 q5 q6 lX s1
  have lA : (P ++ 45 :: Z).length = 25 := by simp [lX, lZ]
  have lB : (P ++ 43 :: Z).length = 25 := by simp [lX, lZ]
  have lC : (P ++ [46, 50, 53, 90]).length = 23 := by simp [lX]
  have CA := Lib.hid (fun W => net_any (P ++ 45 :: Z) W (by rw [lA]; decide))
  have CB := Lib.hid (fun W => net_any (P ++ 43 :: Z) W (by rw [lB]; decide))
  have CC := Lib.hid (fun W => net_any (P ++ [46, 50, 53, 90]) W (by rw [lC]; decide))
  rw [v1] at CA
  rw [v2] at CB
  rw [v3] at CC
  have r1 : ¬ (9223372036854775807 < P.length + 1) := by omega
  have r2 : ¬ (9223372036854775807 < P.length + 1 + Z.length) := by omega
  have r4 : ¬ (9223372036854775807 < P.length + 3) := by omega
  have r5 : ¬ (9223372036854775807 < P.length + 3 + 1) := by omega
  clear hP o1 o2 v1 v2 v3 lA lB lC hZ lX lZ
  obtain ⟨off, hoff⟩ : ∃ off, off = (hr : Int) * 3600 + (mn : Int) * 60 := ⟨_, rfl⟩
  have off0 : 0 ≤ off := by omega
  have off1 : off ≤ 86340 := by omega
  simp only [← hoff] at CA CB
  have HOFF := Lib.hid hoff
  have hoff' : (hr : Int) * 3600 + (mn : Int) * 60 = off := hoff.symm
  clear hoff
  go_wp2_with fail
  have HBA := Lib.hid (HB4.out.alloc HB4.out.size (.cells #[.int .u8 (48 + (hr : Int) / 10), .int .u8 (48 + (hr : Int) % 10), .int .u8 58, .int .u8 (48 + (mn : Int) / 10), .int .u8 (48 + (mn : Int) % 10)] 5))
  refine (CA.out _).mono ?_
  rintro e w5 ⟨rfl, hb5⟩
  have HB5 := Lib.hid (HBA.out.trans (hb5.mono HBA.out.size))
  clear hb5 hconv
  have hs1 : t - -off = t + off := by omega
  rw [hs1]
  clear hs1
  unfold twoE
  by_cases g1 : t + off < 253402300800
  · have c1 : ¬ (t + off < 0 ∨ 253402300800 ≤ t + off) := by omega
    rw [if_neg c1]
    by_cases g2 : off ≤ t
    · have c2 : ¬ (t - off < 0 ∨ 253402300800 ≤ t - off) := by omega
      have HC2 := Lib.hid c2
      clear c1 c2
      go_wp2_with fail
      refine (CB.out _).mono ?_
      rintro e w6 ⟨rfl, hb6⟩
      have HB6 := Lib.hid (HB5.out.trans (hb6.mono HB5.out.size))
      clear hb6
      rw [if_neg HC2.out]
      unfold twoE
      go_wp2_with fail
      refine (CC.out _).mono ?_
      rintro e w7 ⟨rfl, hb7⟩
      have HB7 := Lib.hid (HB6.out.trans (hb7.mono HB6.out.size))
      clear hb7
      unfold twoE
      go_wp2_with fail
      refine (dfirst_any _).mono ?_
      rintro e w8 ⟨rfl, hb8⟩
      have HB8 := Lib.hid (HB7.out.trans (hb8.mono HB7.out.size))
      clear hb8
      go_wp2_with fail
      go_ret
      exact ⟨rfl, HB8.out⟩
    · have c2 : t - off < 0 ∨ 253402300800 ≤ t - off := by omega
      have HC2 := Lib.hid c2
      clear c1 c2
      go_wp2_with fail
      refine (CB.out _).mono ?_
      rintro e w6 ⟨rfl, hb6⟩
      have HB6 := Lib.hid (HB5.out.trans (hb6.mono HB5.out.size))
      clear hb6
      rw [if_pos HC2.out]
      unfold twoE
      go_wp2_with fail
      refine (CC.out _).mono ?_
      rintro e w7 ⟨rfl, hb7⟩
      have HB7 := Lib.hid (HB6.out.trans (hb7.mono HB6.out.size))
      clear hb7
      unfold twoE
      go_wp2_with fail
      refine (dfirst_any _).mono ?_
      rintro e w8 ⟨rfl, hb8⟩
      have HB8 := Lib.hid (HB7.out.trans (hb8.mono HB7.out.size))
      clear hb8
      go_wp2_with fail
      go_ret
      exact ⟨rfl, HB8.out⟩
  · have c1 : t + off < 0 ∨ 253402300800 ≤ t + off := by omega
    rw [if_pos c1]
    have g2 : off ≤ t := by omega
    have c2 : ¬ (t - off < 0 ∨ 253402300800 ≤ t - off) := by omega
    have HC2 := Lib.hid c2
    clear c1 c2
    go_wp2_with fail
    refine (CB.out _).mono ?_
    rintro e w6 ⟨rfl, hb6⟩
    have HB6 := Lib.hid (HB5.out.trans (hb6.mono HB5.out.size))
    clear hb6
    rw [if_neg HC2.out]
    unfold twoE
    go_wp2_with fail
    refine (CC.out _).mono ?_
    rintro e w7 ⟨rfl, hb7⟩
    have HB7 := Lib.hid (HB6.out.trans (hb7.mono HB6.out.size))
    clear hb7
    unfold twoE
    go_wp2_with fail
    refine (dfirst_any _).mono ?_
    rintro e w8 ⟨rfl, hb8⟩
    have HB8 := Lib.hid (HB7.out.trans (hb8.mono HB7.out.size))
    clear hb8
    go_wp2_with fail
    go_ret
    exact ⟨rfl, HB8.out⟩
set_option maxHeartbeats 1600000 in
set_option maxRecDepth 100000 in
theorem dback_err (t hour minute : Int) (w : World) (ht : t < 0 ∨ 253402300800 ≤ t) :
    Calls Try.prog 4 #[.int .i64 t, .int .i64 hour, .int .i64 minute] w fun e w' => e = .returned (.bool true) ∧ Below w.heap.size w w' := by
  have HP := Lib.hid (fun W => print_no t W ht)
  have hcs : t < 0 ∨ (¬ t < 0 ∧ 253402300800 ≤ t) := by omega
  clear ht
  rcases hcs with h1 | ⟨h1, h2⟩
  all_goals
    go_enter Try.func4, Try.ntmps4
    go_wp2_with fail
    refine (dfirst_any _).mono ?_
    rintro e w1 ⟨rfl, hb1⟩
    have HB1 := Lib.hid hb1
    clear hb1
    go_wp2_with fail
    refine (HP.out _).mono ?_
    rintro e w2 ⟨rfl, rfl⟩
    go_wp2_with fail
    refine (dfirst_any _).mono ?_
    rintro e w3 ⟨rfl, hb3⟩
    have HB3 := Lib.hid (HB1.out.trans (hb3.mono HB1.out.size))
    clear hb3
    go_wp2_with fail
    go_ret
    exact ⟨rfl, HB3.out⟩
set_option maxHeartbeats 6400000 in
set_option maxRecDepth 100000 in
theorem dback_out (t hour minute : Int) (w : World) (t0 : 0 ≤ t) (t1 : t < 253402300800) (ho : hour < 0 ∨ 23 < hour ∨ minute < 0 ∨ 59 < minute) :
    Calls Try.prog 4 #[.int .i64 t, .int .i64 hour, .int .i64 minute] w fun e w' => e = .returned (.bool true) ∧ Below w.heap.size w w' := by
  have hcs : hour < 0 ∨ (¬ hour < 0 ∧ 23 < hour) ∨ (¬ hour < 0 ∧ ¬ 23 < hour ∧ minute < 0) ∨ (¬ hour < 0 ∧ ¬ 23 < hour ∧ ¬ minute < 0 ∧ 59 < minute) := by omega
  clear ho
  rcases hcs with h1 | ⟨h1, h2⟩ | ⟨h1, h2, h3⟩ | ⟨h1, h2, h3, h4⟩
  all_goals
    go_enter Try.func4, Try.ntmps4
    go_wp2_with fail
    refine (dfirst_any _).mono ?_
    rintro e w1 ⟨rfl, hb1⟩
    have HB1 := Lib.hid hb1
    clear hb1
    go_wp2_with fail
    refine (print_yes t _ t0 t1).mono ?_
    rintro e w2 ⟨y, mo, d, h, mi, s, rfl, H, hV, hs, hb2⟩
    have HB2 := Lib.hid (HB1.out.trans (hb2.mono HB1.out.size))
    have N1 := net_dtext y mo d h mi s H hs
    rw [hV] at N1
    have L1 := dtext_len y mo d h mi s
    obtain ⟨X, hX⟩ : ∃ X, X = dtext y mo d h mi s := ⟨_, rfl⟩
    rw [← hX] at N1 L1
    rw [← hX]
    have HN1 := Lib.hid N1
    have HL1 := Lib.hid L1
    clear hb2 H hV hs N1 L1 hX
    go_wp2_with fail
    refine (net_any X _ (by rw [HL1.out]; decide)).mono ?_
    rintro e w4 ⟨rfl, hb4⟩
    have HB4 := Lib.hid (HB2.out.trans (hb4.mono HB2.out.size))
    clear hb4
    rw [HN1.out]
    unfold twoE
    have n20 : ((X.length : Int) != 20) = false := by rw [HL1.out]; rfl
    go_wp2_with fail
    refine (dfirst_any _).mono ?_
    rintro e w8 ⟨rfl, hb8⟩
    have HB8 := Lib.hid (HB4.out.trans (hb8.mono HB4.out.size))
    clear hb8
    go_wp2_with fail
    go_ret
    exact ⟨rfl, HB8.out⟩
theorem dback_walk (t hour minute : Int) (w : World) (_ha : -9223372036854775808 ≤ t ∧ t ≤ 9223372036854775807) (_hb : -9223372036854775808 ≤ hour ∧ hour ≤ 9223372036854775807) (_hc : -9223372036854775808 ≤ minute ∧ minute ≤ 9223372036854775807) :
    Calls Try.prog 4 #[.int .i64 t, .int .i64 hour, .int .i64 minute] w fun e w' => e = .returned (.bool true) ∧ Below w.heap.size w w' := by
  by_cases ht : t < 0 ∨ 253402300800 ≤ t
  · exact dback_err t hour minute w ht
  by_cases ho : hour < 0 ∨ 23 < hour ∨ minute < 0 ∨ 59 < minute
  · exact dback_out t hour minute w (by omega) (by omega) ho
  obtain ⟨hr, rfl⟩ : ∃ n : Nat, hour = (n : Int) := ⟨hour.toNat, by omega⟩
  obtain ⟨mn, rfl⟩ : ∃ n : Nat, minute = (n : Int) := ⟨minute.toNat, by omega⟩
  exact dback_yes t hr mn w (by omega) (by omega) (by omega) (by omega)
end Go.Proofs.Ytnaafdennieedaa
