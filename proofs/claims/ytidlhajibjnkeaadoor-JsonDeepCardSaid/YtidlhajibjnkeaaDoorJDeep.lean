/- JsonDeep: the walk. -/
import Derived.Test.YtidlhajibjnkeaaDoorJFirst
import Derived.Test.YtidlhajibjnkeaaDoorJParM
import Derived.Test.YtidlhajibjnkeaaDoorJStr
namespace Go.Proofs.YtidlhajibjnkeaaDoor
open Go.RowKit
attribute [local go_sem] str_cat

def opT (o : Bool) : List UInt8 := if o then [123, 34, 97, 34, 58] else [91]
def enT (o : Bool) : List UInt8 := if o then [125] else [93]
theorem nsT_zero (o : Bool) : opT o ++ (nsT o 0 ++ enT o) = (if o then [123, 34, 97, 34, 58, 125] else nsT o 1) := by cases o <;> rfl
theorem nsT_more (o : Bool) (k : Nat) : opT o ++ (nsT o (k + 1) ++ enT o) = nsT o (k + 2) := by
  show _ = prV (nst o (k + 1))
  rw [nst_pr]
  cases o <;> simp [opT, enT, nsT]
set_option maxRecDepth 100000 in
set_option maxHeartbeats 4000000 in
theorem deep_walk (n : Int) (o : Bool) (w : World) (h0 : -9223372036854775808 ≤ n ∧ n ≤ 9223372036854775807) (ht : TabJ w.heap.size w) :
    Calls Tryd.prog 4 #[.int .i64 n, .bool o] w fun e w' => e = .returned (.bool true) ∧ Below w.heap.size w w' := by
  have C1 := Lib.hid (jfirst_any w ht)
  have HT := Lib.hid ht
  clear ht
  by_cases hn : n < 1 ∨ 200 < n
  · have key : ∃ b1 b2 : Bool, decide (n < 1) = b1 ∧ decide (200 < n) = b2 ∧ (b1 = false → b2 = true) := by
      refine ⟨_, _, rfl, rfl, fun h => decide_eq_true ?_⟩
      have := of_decide_eq_false h
      omega
    obtain ⟨b1, b2, e1, e2, e3⟩ := key
    have E3 := Lib.hid e3
    clear hn e3
    cases b1 with
    | true =>
      go_enter Tryd.func4, Tryd.ntmps4
      go_wp2_with fail
      refine C1.out.mono ?_
      rintro e w1 ⟨rfl, hb1⟩
      have C2 := Lib.hid (jfirst_any w1 (HT.out.up hb1 hb1.size))
      have HB := Lib.hid hb1
      clear hb1 C1
      go_wp2_with fail
      refine C2.out.mono ?_
      rintro e w2 ⟨rfl, hb2⟩
      have HX := Lib.hid (HB.out.trans (hb2.mono HB.out.size))
      clear hb2 C2
      go_wp2_with fail
      go_ret
      exact ⟨rfl, HX.out⟩
    | false =>
      obtain rfl := E3.out rfl
      go_enter Tryd.func4, Tryd.ntmps4
      go_wp2_with fail
      refine C1.out.mono ?_
      rintro e w1 ⟨rfl, hb1⟩
      have C2 := Lib.hid (jfirst_any w1 (HT.out.up hb1 hb1.size))
      have HB := Lib.hid hb1
      clear hb1 C1
      go_wp2_with fail
      refine C2.out.mono ?_
      rintro e w2 ⟨rfl, hb2⟩
      have HX := Lib.hid (HB.out.trans (hb2.mono HB.out.size))
      clear hb2 C2
      go_wp2_with fail
      go_ret
      exact ⟨rfl, HX.out⟩
  · obtain ⟨m, rfl⟩ : ∃ m : Nat, n = (m : Int) := ⟨n.toNat, by omega⟩
    have e1 : decide ((m : Int) < 1) = false := decide_eq_false (by omega)
    have e2 : decide ((200 : Int) < (m : Int)) = false := decide_eq_false (by omega)
    have hm1 : 1 ≤ m := by omega
    have hm2 : m ≤ 200 := by omega
    have HP := Lib.hid (par_nst o m hm1 hm2)
    have hlen := nsT_len o m
    clear hn h0
    cases o with
    | false =>
      go_enter Tryd.func4, Tryd.ntmps4
      go_wp2_with fail
      refine C1.out.mono ?_
      rintro e w1 ⟨rfl, hb1⟩
      have HB := Lib.hid hb1
      clear hb1 C1
      go_wp2_with fail
      go_loop [7, 8] (fun v7 v8 => ∃ k : Nat, k ≤ m ∧ v8 = .int .i64 (k : Int) ∧ v7 = str (nsT false k)) (fun _ i => m - (intOf i).toNat)
      case atStart => exact ⟨0, Nat.zero_le _, rfl, rfl⟩
      case round =>
        obtain ⟨k, hk, rfl, rfl⟩ := hrel
        by_cases hlt : k < m
        · have g1 : (k : Int) < (m : Int) := by omega
          by_cases hk0 : k = 0
          · subst hk0
            have e0 : nsT false 0 = [] := rfl
            rw [e0]
            clear e0
            go_wp2_with fail
            go_round
            case rel => exact ⟨1, by omega, rfl, rfl⟩
            case measure => simp [intOf]; omega
          · obtain ⟨j, rfl⟩ : ∃ j, k = j + 1 := ⟨k - 1, by omega⟩
            have g2 : (((j + 1 : Nat) : Int) == 0) = false := by rw [beq_eq_false_iff_ne]; omega
            have g2' : ((j : Int) + 1 == 0) = false := by rw [beq_eq_false_iff_ne]; omega
            have hl := nsT_len false (j + 1)
            have HM := Lib.hid (nsT_more false j)
            obtain ⟨u, hu⟩ : ∃ u, u = nsT false (j + 1) := ⟨_, rfl⟩
            rw [← hu] at hl HM ⊢
            clear hu
            have g4 : ([91] ++ u).length ≤ 1300 := by simp; omega
            have g5 : ([91] ++ u ++ [93]).length ≤ 1300 := by simp; omega
            go_wp2_with fail
            go_round
            case rel => exact ⟨j + 2, by omega, by go_num, by rw [← HM.out]; rfl⟩
            case measure => simp [intOf]; omega
        · obtain rfl : k = m := by omega
          have g1 : ¬ (k : Int) < (k : Int) := by omega
          obtain ⟨cap, w2, hconv, hrd, hb2⟩ := bytes_run (nsT false k) w1 (by omega)
          have CP := parse_any hrd (by omega)
          have HB2 := Lib.hid (HB.out.trans (hb2.mono HB.out.size))
          by_cases h64 : 64 < k
          · have g3 : decide ((64 : Int) < (k : Int)) = true := decide_eq_true (by omega)
            rw [HP.out.2 h64] at CP
            have CP := Lib.hid CP
            clear hrd hb2 h64 HP HB
            generalize nsT false k = u at *
            go_wp2_with fail
            refine CP.out.mono ?_
            rintro e w3 ⟨rfl, _, hb3⟩
            have hb4 := (HB2.out.trans (hb3.mono HB2.out.size)).trans ((below_alloc w3 (.cells #[.int .i64 0, .int .i64 0, str [], .slice none 0 0, .slice none 0 0] 25)).mono (by have := hb3.size; have := HB2.out.size; omega))
            have C2 := Lib.hid (jfirst_any _ (HT.out.up hb4 hb4.size))
            have HB4 := Lib.hid hb4
            clear hb3 hb4 CP HB2 hconv
            go_wp2_with fail
            refine C2.out.mono ?_
            rintro e w5 ⟨rfl, hb5⟩
            have HX := Lib.hid (HB4.out.trans (hb5.mono HB4.out.size))
            clear hb5 C2 HB4
            go_wp2_with fail
            go_ret
            exact ⟨rfl, HX.out⟩
          · have g3 : decide ((64 : Int) < (k : Int)) = false := decide_eq_false (by omega)
            obtain ⟨hp, hm⟩ := HP.out.1 (by omega)
            rw [hp] at CP
            have CP := Lib.hid CP
            have HM := Lib.hid hm
            clear hrd hb2 h64 HP HB hp hm
            generalize nst false (k - 1) = v at *
            generalize nsT false k = u at *
            go_wp2_with fail
            refine CP.out.mono ?_
            rintro e w3 ⟨cs, rfl, hv, hb3⟩
            have hv1 := hv.mono (G := fun _ => True) (fun _ _ _ => trivial)
            clear hv
            obtain ⟨al, ll, cl, am, lm, cm, rfl, _, _⟩ := hv1.open
            obtain ⟨w4, hw4⟩ : ∃ w4, w4 = w3.alloc (.cells #[.int .i64 v.kind, .int .i64 v.n, str v.s, .slice al ll cl, .slice am lm cm] 25) := ⟨_, rfl⟩
            have hb34 : Below w3.heap.size w3 w4 := by rw [hw4]; exact below_alloc _ _
            have hb4 := (HB2.out.trans (hb3.mono HB2.out.size)).trans (hb34.mono (by have := hb3.size; have := HB2.out.size; omega))
            have hbx : w4.heap[w3.heap.size]? = some (.cells #[.int .i64 v.kind, .int .i64 v.n, str v.s, .slice al ll cl, .slice am lm cm] 25 (0, 0)) := by rw [hw4]; exact heap_alloc_new _ _
            have C2 := Lib.hid (jfirst_any _ (HT.out.up hb4 hb4.size))
            have HV4 := Lib.hid (And.intro (hv1.up hb34) hbx)
            have HB4 := Lib.hid hb4
            clear hb3 hb4 CP HB2 hconv hv1 hbx hb34
            go_wp2_with fail
            rw [← hw4]
            clear hw4
            refine C2.out.mono ?_
            rintro e w5 ⟨rfl, hb5⟩
            have HX := Lib.hid (HB4.out.trans (hb5.mono HB4.out.size))
            have CM := Lib.hid (jmay_any (HV4.out.1.up hb5))
            rw [HM.out] at CM
            have hbx := box_up HV4.out.2 hb5
            have b0 := box_cell hbx 0
            have b1 := box_cell hbx 1
            have b2 := box_cell hbx 2
            have b3 := box_cell hbx 3
            have b4 := box_cell hbx 4
            clear hb5 C2 HB4 hbx HV4
            go_wp2_with fail
            refine CM.out.mono ?_
            rintro e w6 ⟨rfl, hb6⟩
            have HY := Lib.hid (HX.out.trans (hb6.mono HX.out.size))
            clear hb6 CM HX b0 b1 b2 b3 b4
            go_wp2_with fail
            go_ret
            exact ⟨rfl, HY.out⟩
    | true =>
      go_enter Tryd.func4, Tryd.ntmps4
      go_wp2_with fail
      refine C1.out.mono ?_
      rintro e w1 ⟨rfl, hb1⟩
      have HB := Lib.hid hb1
      clear hb1 C1
      go_wp2_with fail
      go_loop [7, 8] (fun v7 v8 => ∃ k : Nat, k ≤ m ∧ v8 = .int .i64 (k : Int) ∧ v7 = str (nsT true k)) (fun _ i => m - (intOf i).toNat)
      case atStart => exact ⟨0, Nat.zero_le _, rfl, rfl⟩
      case round =>
        obtain ⟨k, hk, rfl, rfl⟩ := hrel
        by_cases hlt : k < m
        · have g1 : (k : Int) < (m : Int) := by omega
          by_cases hk0 : k = 0
          · subst hk0
            have e0 : nsT true 0 = [] := rfl
            rw [e0]
            clear e0
            go_wp2_with fail
            go_round
            case rel => exact ⟨1, by omega, rfl, rfl⟩
            case measure => simp [intOf]; omega
          · obtain ⟨j, rfl⟩ : ∃ j, k = j + 1 := ⟨k - 1, by omega⟩
            have g2 : (((j + 1 : Nat) : Int) == 0) = false := by rw [beq_eq_false_iff_ne]; omega
            have g2' : ((j : Int) + 1 == 0) = false := by rw [beq_eq_false_iff_ne]; omega
            have hl := nsT_len true (j + 1)
            have HM := Lib.hid (nsT_more true j)
            obtain ⟨u, hu⟩ : ∃ u, u = nsT true (j + 1) := ⟨_, rfl⟩
            rw [← hu] at hl HM ⊢
            clear hu
            have g4 : ([123, 34, 97, 34, 58] ++ u).length ≤ 1300 := by simp; omega
            have g5 : ([123, 34, 97, 34, 58] ++ u ++ [125]).length ≤ 1300 := by simp; omega
            go_wp2_with fail
            go_round
            case rel => exact ⟨j + 2, by omega, by go_num, by rw [← HM.out]; rfl⟩
            case measure => simp [intOf]; omega
        · obtain rfl : k = m := by omega
          have g1 : ¬ (k : Int) < (k : Int) := by omega
          obtain ⟨cap, w2, hconv, hrd, hb2⟩ := bytes_run (nsT true k) w1 (by omega)
          have CP := parse_any hrd (by omega)
          have HB2 := Lib.hid (HB.out.trans (hb2.mono HB.out.size))
          by_cases h64 : 64 < k
          · have g3 : decide ((64 : Int) < (k : Int)) = true := decide_eq_true (by omega)
            rw [HP.out.2 h64] at CP
            have CP := Lib.hid CP
            clear hrd hb2 h64 HP HB
            generalize nsT true k = u at *
            go_wp2_with fail
            refine CP.out.mono ?_
            rintro e w3 ⟨rfl, _, hb3⟩
            have hb4 := (HB2.out.trans (hb3.mono HB2.out.size)).trans ((below_alloc w3 (.cells #[.int .i64 0, .int .i64 0, str [], .slice none 0 0, .slice none 0 0] 25)).mono (by have := hb3.size; have := HB2.out.size; omega))
            have C2 := Lib.hid (jfirst_any _ (HT.out.up hb4 hb4.size))
            have HB4 := Lib.hid hb4
            clear hb3 hb4 CP HB2 hconv
            go_wp2_with fail
            refine C2.out.mono ?_
            rintro e w5 ⟨rfl, hb5⟩
            have HX := Lib.hid (HB4.out.trans (hb5.mono HB4.out.size))
            clear hb5 C2 HB4
            go_wp2_with fail
            go_ret
            exact ⟨rfl, HX.out⟩
          · have g3 : decide ((64 : Int) < (k : Int)) = false := decide_eq_false (by omega)
            obtain ⟨hp, hm⟩ := HP.out.1 (by omega)
            rw [hp] at CP
            have CP := Lib.hid CP
            have HM := Lib.hid hm
            clear hrd hb2 h64 HP HB hp hm
            generalize nst true (k - 1) = v at *
            generalize nsT true k = u at *
            go_wp2_with fail
            refine CP.out.mono ?_
            rintro e w3 ⟨cs, rfl, hv, hb3⟩
            have hv1 := hv.mono (G := fun _ => True) (fun _ _ _ => trivial)
            clear hv
            obtain ⟨al, ll, cl, am, lm, cm, rfl, _, _⟩ := hv1.open
            obtain ⟨w4, hw4⟩ : ∃ w4, w4 = w3.alloc (.cells #[.int .i64 v.kind, .int .i64 v.n, str v.s, .slice al ll cl, .slice am lm cm] 25) := ⟨_, rfl⟩
            have hb34 : Below w3.heap.size w3 w4 := by rw [hw4]; exact below_alloc _ _
            have hb4 := (HB2.out.trans (hb3.mono HB2.out.size)).trans (hb34.mono (by have := hb3.size; have := HB2.out.size; omega))
            have hbx : w4.heap[w3.heap.size]? = some (.cells #[.int .i64 v.kind, .int .i64 v.n, str v.s, .slice al ll cl, .slice am lm cm] 25 (0, 0)) := by rw [hw4]; exact heap_alloc_new _ _
            have C2 := Lib.hid (jfirst_any _ (HT.out.up hb4 hb4.size))
            have HV4 := Lib.hid (And.intro (hv1.up hb34) hbx)
            have HB4 := Lib.hid hb4
            clear hb3 hb4 CP HB2 hconv hv1 hbx hb34
            go_wp2_with fail
            rw [← hw4]
            clear hw4
            refine C2.out.mono ?_
            rintro e w5 ⟨rfl, hb5⟩
            have HX := Lib.hid (HB4.out.trans (hb5.mono HB4.out.size))
            have CM := Lib.hid (jmay_any (HV4.out.1.up hb5))
            rw [HM.out] at CM
            have hbx := box_up HV4.out.2 hb5
            have b0 := box_cell hbx 0
            have b1 := box_cell hbx 1
            have b2 := box_cell hbx 2
            have b3 := box_cell hbx 3
            have b4 := box_cell hbx 4
            clear hb5 C2 HB4 hbx HV4
            go_wp2_with fail
            refine CM.out.mono ?_
            rintro e w6 ⟨rfl, hb6⟩
            have HY := Lib.hid (HX.out.trans (hb6.mono HX.out.size))
            clear hb6 CM HX b0 b1 b2 b3 b4
            go_wp2_with fail
            go_ret
            exact ⟨rfl, HY.out⟩
end Go.Proofs.YtidlhajibjnkeaaDoor
