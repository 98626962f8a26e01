import Derived.Test.YtegblhmcfemfgaaGreatDoorMkBase
import Derived.Deep.RegionHeld3
import Derived.IntWalk
namespace Go.Proofs.YtegblhmcfemfgaaGreatDoor
open Go.RowKit
theorem dT {p : Prop} [Decidable p] (h : p) : decide p = true := decide_eq_true h
theorem dF {p : Prop} [Decidable p] (h : ¬ p) : decide p = false := decide_eq_false h
theorem mayB_cases {a b : Int} (h : mayB (a, b) = false) : decide (a < 0) = true ∨ (decide (a < 0) = false ∧ decide (1099511627776 < a) = true) ∨ (decide (a < 0) = false ∧ decide (1099511627776 < a) = false ∧ decide (b < 1) = true) ∨ (decide (a < 0) = false ∧ decide (1099511627776 < a) = false ∧ decide (b < 1) = false ∧ decide (1000000 < b) = true) := by
 unfold mayB at h
 simp at h ⊢
 omega
theorem mayB_all {a b : Int} (h : mayB (a, b) = true) : decide (a < 0) = false ∧ decide (1099511627776 < a) = false ∧ decide (b < 1) = false ∧ decide (1000000 < b) = false := by
 unfold mayB at h
 simp at h ⊢
 omega
theorem not_may_at {l : List MarkT} {k : Nat} (hk : k < l.length) (h : mayB l[k] = false) : mayLk l = false :=
 mayL_no fun ⟨h1, _⟩ => by have := (h1 k hk hk).1; rw [h] at this; cases this
theorem not_next_at {l : List MarkT} {k m : Nat} (hk : k < l.length) (hm : m < l.length) (e : m + 1 = k) (h : nextB l[m] l[k] = false) : mayLk l = false :=
 mayL_no fun ⟨h1, _⟩ => by have := (h1 k hk hk).2 m hm e; rw [h] at this; cases this
set_option maxRecDepth 100000 in
set_option maxHeartbeats 16000000 in
theorem rmay_any (v : Value) (l : List MarkT) (w : World) (hv : RdMk w v l) : Calls Tryz.prog 67 #[v] w fun e w' => e = .returned (.bool (mayLk l)) ∧ Below w.heap.size w w' := by
 obtain ⟨av, cv, rfl, hlen⟩ := hv.form
 have HV := Lib.hid hv
 obtain ⟨R, hR⟩ : ∃ R, R = mayLk l := ⟨_, rfl⟩
 rw [← hR]
 have HR := Lib.hid hR
 clear hv hR
 go_enter Tryz.func67, Tryz.ntmps67
 go_wp2_with fail
 go_loopw [3] (fun i wr => ∃ k : Nat, k ≤ l.length ∧ i = .int .i64 (k : Int) ∧ Hid (Below w.heap.size w wr ∧ StairK l k)) (fun i _ => l.length - (intOf i).toNat)
 case atStart => exact ⟨0, Nat.zero_le _, rfl, Lib.hid ⟨Below.refl _ _, stairK_zero l⟩⟩
 case round =>
  obtain ⟨k, hk, rfl, HW⟩ := hrel
  by_cases hlt : k < l.length
  · have g3 : (k : Int) < (l.length : Int) := by omega
    have g4 : (0 : Int) ≤ (k : Int) := by omega
    obtain ⟨bA, oA, rfl, c0, c1⟩ := HV.out.get hlt
    obtain ⟨x, hx⟩ : ∃ x, x = l[k] := ⟨_, rfl⟩
    rw [← hx] at c0 c1
    obtain ⟨a, b⟩ := x
    dsimp only at c0 c1
    have hlA := World.block_lt_of_cell? w _ c0
    have d0 : wr.cell? ⟨bA, oA + k * 2, none⟩ = some (.int .i64 a) := (HW.out.1.cell (p := ⟨bA, oA + k * 2, none⟩) hlA).trans c0
    have d1 : wr.cell? ⟨bA, oA + k * 2 + 1, none⟩ = some (.int .i64 b) := (HW.out.1.cell (p := ⟨bA, oA + k * 2 + 1, none⟩) hlA).trans c1
    have HB := Lib.hid (HW.out.1.alloc HW.out.1.size (.cells #[.int .i64 a, .int .i64 b] 91))
    cases hq : mayB (a, b) with
    | false =>
     have HF : Hid (R = false) := Lib.hid (by rw [HR.out]; exact not_may_at hlt (by rw [← hx]; exact hq))
     rcases mayB_cases hq with q1 | ⟨q1, q2⟩ | ⟨q1, q2, q3⟩ | ⟨q1, q2, q3, q4⟩
     all_goals
      clear c0 c1 hx hlA HV hq HR HW
      go_wp2_with fail
      go_quiet (fail)
      go_wp2_with fail
      go_ret
      exact ⟨by rw [HF.out]; rfl, Below.drewsN HB.out _⟩
    | true =>
     obtain ⟨q1, q2, q3, q4⟩ := mayB_all hq
     by_cases h0 : k = 0
     · have z : decide ((0 : Int) < (k : Int)) = false := dF (by omega)
       have z' : decide (0 < k) = false := dF (by omega)
       have HN : Hid (StairK l (k + 1)) := Lib.hid (stairK_succ HW.out.2 hlt (by rw [← hx]; exact hq) (fun j _ e => by omega))
       clear c0 c1 hx hlA HV hq HR HW h0
       go_wp2_with fail
       go_quiet (fail)
       go_wp2_with fail
       go_roundw
       case rel => exact ⟨k + 1, by omega, by go_num, Lib.hid ⟨Below.drewsN HB.out _, HN.out⟩⟩
       case measure => simp [intOf]; omega
     have z : decide ((0 : Int) < (k : Int)) = true := dT (by omega)
     have z' : decide (0 < k) = true := dT (by omega)
     obtain ⟨m, hm⟩ : ∃ m, m + 1 = k := ⟨k - 1, by omega⟩
     have hml : m < l.length := by omega
     have tm : IntKind.i64.wrap ((k : Int) - 1) = (m : Int) := by rw [show (k : Int) - 1 = (m : Int) by omega]; exact IntWalk.i64_in _ (by omega)
     have gm : (m : Int) < (l.length : Int) := by omega
     have gm0 : (0 : Int) ≤ (m : Int) := by omega
     obtain ⟨bB, oB, hE, e0, e1⟩ := HV.out.get hml
     cases hE
     obtain ⟨y, hy⟩ : ∃ y, y = l[m] := ⟨_, rfl⟩
     rw [← hy] at e0 e1
     obtain ⟨c, d⟩ := y
     dsimp only at e0 e1
     have f0 : wr.cell? ⟨bA, oA + m * 2, none⟩ = some (.int .i64 c) := (HW.out.1.cell (p := ⟨bA, oA + m * 2, none⟩) hlA).trans e0
     have f1 : wr.cell? ⟨bA, oA + m * 2 + 1, none⟩ = some (.int .i64 d) := (HW.out.1.cell (p := ⟨bA, oA + m * 2 + 1, none⟩) hlA).trans e1
     have hBx := below_alloc wr (.cells #[.int .i64 a, .int .i64 b] 91)
     have hlR : bA < wr.heap.size := by have := HW.out.1.size; have : bA < w.heap.size := hlA; omega
     have k0 : (wr.alloc (.cells #[.int .i64 a, .int .i64 b] 91)).cell? ⟨bA, oA + m * 2, none⟩ = some (.int .i64 c) := (hBx.cell (p := ⟨bA, oA + m * 2, none⟩) hlR).trans f0
     have k1 : (wr.alloc (.cells #[.int .i64 a, .int .i64 b] 91)).cell? ⟨bA, oA + m * 2 + 1, none⟩ = some (.int .i64 d) := (hBx.cell (p := ⟨bA, oA + m * 2 + 1, none⟩) hlR).trans f1
     clear hBx hlR f0 f1
     by_cases r1 : c ≤ a
     · have HF : Hid (R = false) := Lib.hid (by rw [HR.out]; exact not_next_at hlt hml hm (by rw [← hx, ← hy]; unfold nextB; simp; omega))
       have s1 : decide (c ≤ a) = true := dT r1
       clear c0 c1 e0 e1 hx hy hlA HV hq HR HW h0 hm hml
       go_wp2_with fail
       go_quiet (fail)
       go_wp2_with fail
       go_ret
       exact ⟨by rw [HF.out]; rfl, Below.drewsN HB.out _⟩
     by_cases r2 : b ≤ d
     · have HF : Hid (R = false) := Lib.hid (by rw [HR.out]; exact not_next_at hlt hml hm (by rw [← hx, ← hy]; unfold nextB; simp; omega))
       have s1 : decide (c ≤ a) = false := dF r1
       have s2 : decide (b ≤ d) = true := dT r2
       clear c0 c1 e0 e1 hx hy hlA HV hq HR HW h0 hm hml
       go_wp2_with fail
       go_quiet (fail)
       go_wp2_with fail
       go_ret
       exact ⟨by rw [HF.out]; rfl, Below.drewsN HB.out _⟩
     have HN : Hid (StairK l (k + 1)) := Lib.hid (stairK_succ HW.out.2 hlt (by rw [← hx]; exact hq) (fun j hj e => by
      obtain rfl : j = m := by omega
      rw [← hx, ← hy]; unfold nextB; simp; omega))
     have s1 : decide (c ≤ a) = false := dF r1
     have s2 : decide (b ≤ d) = false := dF r2
     clear c0 c1 e0 e1 hx hy hlA HV hq HR HW h0 hm hml
     go_wp2_with fail
     go_quiet (fail)
     go_wp2_with fail
     go_roundw
     case rel => exact ⟨k + 1, by omega, by go_num, Lib.hid ⟨Below.drewsN HB.out _, HN.out⟩⟩
     case measure => simp [intOf]; omega
  · obtain rfl : k = l.length := by omega
    have g3 : ¬ (l.length : Int) < (l.length : Int) := by omega
    have h8 : decide ((l.length : Int) ≤ 8) = R := by
     rw [HR.out]
     by_cases h : l.length ≤ 8
     · rw [mayL_yes ⟨HW.out.2, h⟩]; simp; omega
     rw [mayL_no (fun q => h q.2)]; simp; omega
    go_wp2_with fail
    go_ret
    exact ⟨rfl, HW.out.1⟩
end Go.Proofs.YtegblhmcfemfgaaGreatDoor
