import Derived.Test.YtegblhmcfemfgaaGreatDoorMkMay
import Derived.Test.YtegblhmcfemfgaaGreatDoorQuietB
namespace Go.Proofs.YtegblhmcfemfgaaGreatDoor
open Go.RowKit
theorem mayB_dec (m : MarkT) (w : World) {r : Bool} (h : mayB m = r) : Calls Tryz.prog 48 #[encM m] w fun e w' => e = .returned (.bool r) ∧ Below w.heap.size w w' := by
 rw [← h]; exact may_any m w
set_option maxRecDepth 100000 in
set_option maxHeartbeats 16000000 in
theorem pmay_any (v : Value) (l : List MarkT) (w : World) (hv : RdMk w v l) : Calls Tryz.prog 31 #[v] w fun e w' => e = .returned (.bool (mayLk l)) ∧ Below w.heap.size w w' := by
 obtain ⟨av, cv, rfl, hlen⟩ := hv.form
 have HV := Lib.hid hv
 obtain ⟨R, hR⟩ : ∃ R, R = mayLk l := ⟨_, rfl⟩
 rw [← hR]
 have HR := Lib.hid hR
 clear hv hR
 go_enter Tryz.func31, Tryz.ntmps31
 go_wp2_with fail
 go_loopw [7] (fun i wr => ∃ k : Nat, k ≤ l.length ∧ i = .int .i64 (k : Int) ∧ Hid (Below w.heap.size w wr ∧ StairK l k)) (fun i _ => l.length - (intOf i).toNat)
 case atStart => exact ⟨0, Nat.zero_le _, rfl, Lib.hid ⟨Below.refl _ _, stairK_zero l⟩⟩
 case round =>
  obtain ⟨k, hk, rfl, HW⟩ := hrel
  by_cases hlt : k < l.length
  · have g3 : (k : Int) < (l.length : Int) := by omega
    have g4 : (0 : Int) ≤ (k : Int) := by omega
    obtain ⟨bA, oA, rfl, c0, c1⟩ := HV.out.get hlt
    obtain ⟨x, hx⟩ : ∃ x, x = l[k] := ⟨_, rfl⟩
    rw [← hx] at c0 c1
    obtain ⟨a, b⟩ := x
    dsimp only at c0 c1
    have hlA := World.block_lt_of_cell? w _ c0
    have d0 : wr.cell? ⟨bA, oA + k * 2, none⟩ = some (.int .i64 a) := (HW.out.1.cell (p := ⟨bA, oA + k * 2, none⟩) hlA).trans c0
    have d1 : wr.cell? ⟨bA, oA + k * 2 + 1, none⟩ = some (.int .i64 b) := (HW.out.1.cell (p := ⟨bA, oA + k * 2 + 1, none⟩) hlA).trans c1
    have hBx := below_alloc wr (.cells #[.int .i64 a, .int .i64 b] 67)
    have HB := Lib.hid (And.intro (HW.out.1.trans (hBx.mono HW.out.1.size)) (And.intro HW.out.1.size (Nat.le_trans HW.out.1.size hBx.size)))
    have n0 : (wr.alloc (.cells #[.int .i64 a, .int .i64 b] 67)).cell? ⟨wr.heap.size, 0, none⟩ = some (.int .i64 a) := by simp
    have n1 : (wr.alloc (.cells #[.int .i64 a, .int .i64 b] 67)).cell? ⟨wr.heap.size, 1, none⟩ = some (.int .i64 b) := by simp
    have z0 := Lib.hid (fun p : BelowBy (wr.alloc (.cells #[.int .i64 a, .int .i64 b] 67)) => BelowBy.cell n0 p)
    have z1 := Lib.hid (fun p : BelowBy (wr.alloc (.cells #[.int .i64 a, .int .i64 b] 67)) => BelowBy.cell n1 p)
    clear n0 n1
    cases hq : mayB (a, b) with
    | false =>
     have HF : Hid (R = false) := Lib.hid (by rw [HR.out]; exact not_may_at hlt (by rw [← hx]; exact hq))
     have C := Lib.hid (fun W => mayB_dec (a, b) W hq)
     clear c0 c1 hx hlA HV hq HR HW hBx
     go_wp2_with fail
     refine wp_region_quiet_below (by kernel_rfl) (by kernel_rfl) ?_
     repeat (first | go_big_quiet_skip | (go_big_quiet_want; go_big_quiet_op; first | go_big_quiet_on | (simp only [z0.out, z1.out, Result.andThen, true_and, forall_const, exists_eq_left']; go_big_quiet_on) | go_big_quiet_call ((go_at_call 48; exact Calls.below_of (C.out _)))) | fail)
     refine wpQuiet_nil ?_
     rintro w3 ⟨⟨_, hb3⟩, rfl⟩
     all_goals
      have HX := Lib.hid (HB.out.1.trans (hb3.mono HB.out.2.2))
      clear hb3
      go_wp2_with fail
      go_ret
      exact ⟨by rw [HF.out]; rfl, HX.out⟩
    | true =>
     have C := Lib.hid (fun W => mayB_dec (a, b) W hq)
     by_cases h0 : k = 0
     · have z : decide ((0 : Int) < (k : Int)) = false := dF (by omega)
       have z' : decide (0 < k) = false := dF (by omega)
       have HN : Hid (StairK l (k + 1)) := Lib.hid (stairK_succ HW.out.2 hlt (by rw [← hx]; exact hq) (fun j _ e => by omega))
       clear c0 c1 hx hlA HV hq HR HW hBx h0
       go_wp2_with fail
       refine wp_region_quiet_below (by kernel_rfl) (by kernel_rfl) ?_
       repeat (first | go_big_quiet_skip | (go_big_quiet_want; go_big_quiet_op; first | go_big_quiet_on | (simp only [z0.out, z1.out, Result.andThen, true_and, forall_const, exists_eq_left']; go_big_quiet_on) | go_big_quiet_call ((go_at_call 48; exact Calls.below_of (C.out _)))) | fail)
       refine wpQuiet_nil ?_
       rintro w3 ⟨⟨_, hb3⟩, rfl⟩
       all_goals
        have HX : Hid (Below w.heap.size w w3 ∧ StairK l (k + 1)) := Lib.hid ⟨HB.out.1.trans (hb3.mono HB.out.2.2), HN.out⟩
        clear hb3
        go_wp2_with fail
        go_roundw
        case rel => exact ⟨k + 1, by omega, by go_num, HX⟩
        case measure => simp [intOf]; omega
     have z : decide ((0 : Int) < (k : Int)) = true := dT (by omega)
     have z' : decide (0 < k) = true := dT (by omega)
     obtain ⟨m, hm⟩ : ∃ m, m + 1 = k := ⟨k - 1, by omega⟩
     have hml : m < l.length := by omega
     have tm : IntKind.i64.wrap ((k : Int) - 1) = (m : Int) := by rw [show (k : Int) - 1 = (m : Int) by omega]; exact IntWalk.i64_in _ (by omega)
     have gm : (m : Int) < (l.length : Int) := by omega
     have gm0 : (0 : Int) ≤ (m : Int) := by omega
     obtain ⟨bB, oB, hE, e0, e1⟩ := HV.out.get hml
     cases hE
     obtain ⟨y, hy⟩ : ∃ y, y = l[m] := ⟨_, rfl⟩
     rw [← hy] at e0 e1
     obtain ⟨c, d⟩ := y
     dsimp only at e0 e1
     have f0 : wr.cell? ⟨bA, oA + m * 2, none⟩ = some (.int .i64 c) := (HW.out.1.cell (p := ⟨bA, oA + m * 2, none⟩) hlA).trans e0
     have f1 : wr.cell? ⟨bA, oA + m * 2 + 1, none⟩ = some (.int .i64 d) := (HW.out.1.cell (p := ⟨bA, oA + m * 2 + 1, none⟩) hlA).trans e1
     have hlR : bA < wr.heap.size := by have := HW.out.1.size; have : bA < w.heap.size := hlA; omega
     have k0' : (wr.alloc (.cells #[.int .i64 a, .int .i64 b] 67)).cell? ⟨bA, oA + m * 2, none⟩ = some (.int .i64 c) := (hBx.cell (p := ⟨bA, oA + m * 2, none⟩) hlR).trans f0
     have k1' : (wr.alloc (.cells #[.int .i64 a, .int .i64 b] 67)).cell? ⟨bA, oA + m * 2 + 1, none⟩ = some (.int .i64 d) := (hBx.cell (p := ⟨bA, oA + m * 2 + 1, none⟩) hlR).trans f1
     have k0 := Lib.hid (fun p : BelowBy (wr.alloc (.cells #[.int .i64 a, .int .i64 b] 67)) => BelowBy.cell k0' p)
     have k1 := Lib.hid (fun p : BelowBy (wr.alloc (.cells #[.int .i64 a, .int .i64 b] 67)) => BelowBy.cell k1' p)
     clear k0' k1'
     by_cases r1 : c ≤ a
     · have HF : Hid (R = false) := Lib.hid (by rw [HR.out]; exact not_next_at hlt hml hm (by rw [← hx, ← hy]; unfold nextB; simp; omega))
       have s1 : decide (c ≤ a) = true := dT r1
       clear c0 c1 e0 e1 f0 f1 hx hy hlA HV hq HR HW h0 hm hml hBx hlR r1
       go_wp2_with fail
       refine wp_region_quiet_below (by kernel_rfl) (by kernel_rfl) ?_
       repeat (first | go_big_quiet_skip | (go_big_quiet_want; go_big_quiet_op; first | go_big_quiet_on | (simp only [z0.out, z1.out, k0.out, Result.andThen, true_and, forall_const, exists_eq_left']; go_big_quiet_on) | go_big_quiet_call ((go_at_call 48; exact Calls.below_of (C.out _)))) | fail)
       refine wpQuiet_nil ?_
       rintro w3 ⟨⟨_, hb3⟩, rfl⟩
       all_goals
        have HX := Lib.hid (HB.out.1.trans (hb3.mono HB.out.2.2))
        clear hb3
        go_wp2_with fail
        go_ret
        exact ⟨by rw [HF.out]; rfl, HX.out⟩
     by_cases r2 : b ≤ d
     · have HF : Hid (R = false) := Lib.hid (by rw [HR.out]; exact not_next_at hlt hml hm (by rw [← hx, ← hy]; unfold nextB; simp; omega))
       have s1 : decide (c ≤ a) = false := dF r1
       have s2 : decide (b ≤ d) = true := dT r2
       clear c0 c1 e0 e1 f0 f1 hx hy hlA HV hq HR HW h0 hm hml hBx hlR r1 r2
       go_wp2_with fail
       refine wp_region_quiet_below (by kernel_rfl) (by kernel_rfl) ?_
       repeat (first | go_big_quiet_skip | (go_big_quiet_want; go_big_quiet_op; first | go_big_quiet_on | (simp only [z0.out, z1.out, k0.out, k1.out, Result.andThen, true_and, forall_const, exists_eq_left']; go_big_quiet_on) | go_big_quiet_call ((go_at_call 48; exact Calls.below_of (C.out _)))) | fail)
       refine wpQuiet_nil ?_
       rintro w3 ⟨⟨_, hb3⟩, rfl⟩
       all_goals
        have HX := Lib.hid (HB.out.1.trans (hb3.mono HB.out.2.2))
        clear hb3
        go_wp2_with fail
        go_ret
        exact ⟨by rw [HF.out]; rfl, HX.out⟩
     have HN : Hid (StairK l (k + 1)) := Lib.hid (stairK_succ HW.out.2 hlt (by rw [← hx]; exact hq) (fun j hj e => by
      obtain rfl : j = m := by omega
      rw [← hx, ← hy]; unfold nextB; simp; omega))
     have s1 : decide (c ≤ a) = false := dF r1
     have s2 : decide (b ≤ d) = false := dF r2
     clear c0 c1 e0 e1 f0 f1 hx hy hlA HV hq HR HW h0 hm hml hBx hlR r1 r2
     go_wp2_with fail
     refine wp_region_quiet_below (by kernel_rfl) (by kernel_rfl) ?_
     repeat (first | go_big_quiet_skip | (go_big_quiet_want; go_big_quiet_op; first | go_big_quiet_on | (simp only [z0.out, z1.out, k0.out, k1.out, Result.andThen, true_and, forall_const, exists_eq_left']; go_big_quiet_on) | go_big_quiet_call ((go_at_call 48; exact Calls.below_of (C.out _)))) | fail)
     refine wpQuiet_nil ?_
     rintro w3 ⟨⟨_, hb3⟩, rfl⟩
     all_goals
      have HX : Hid (Below w.heap.size w w3 ∧ StairK l (k + 1)) := Lib.hid ⟨HB.out.1.trans (hb3.mono HB.out.2.2), HN.out⟩
      clear hb3
      go_wp2_with fail
      go_roundw
      case rel => exact ⟨k + 1, by omega, by go_num, HX⟩
      case measure => simp [intOf]; omega
  obtain rfl : k = l.length := by omega
  have g3 : ¬ (l.length : Int) < (l.length : Int) := by omega
  have h8 : decide ((l.length : Int) ≤ 8) = R := by
   rw [HR.out]
   by_cases h : l.length ≤ 8
   · rw [mayL_yes ⟨HW.out.2, h⟩]; simp; omega
   rw [mayL_no (fun q => h q.2)]; simp; omega
  go_wp2_with fail
  go_ret
  exact ⟨rfl, HW.out.1⟩
end Go.Proofs.YtegblhmcfemfgaaGreatDoor
