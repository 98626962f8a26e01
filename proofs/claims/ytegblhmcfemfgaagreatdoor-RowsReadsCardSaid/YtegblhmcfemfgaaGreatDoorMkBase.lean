import Derived.Test.YtegblhmcfemfgaaGreatDoorMkMath
import Derived.Test.YtegblhmcfemfgaaGreatDoorKit
import Derived.Test.YtegblhmcfemfgaaGreatDoorRows
import Derived.Deep.LoopGhost
import Derived.Deep.QuietTactic
import Derived.BigQuiet
namespace Go.Proofs.YtegblhmcfemfgaaGreatDoor
open Go.RowKit
abbrev encM (m : MarkT) : Value := .agg #[.int .i64 m.1, .int .i64 m.2]
theorem time_yes (a : Int) (w : World) (h1 : 0 ≤ a) (h2 : a ≤ 1099511627776) : Calls Tryz.prog 29 #[.int .i64 a] w fun e w' => e = .returned (.bool true) ∧ w = w' := by
 go_enter Tryz.func29, Tryz.ntmps29
 go_wp2_with fail
 go_ret
 exact ⟨rfl, rfl⟩
theorem time_no (a : Int) (w : World) (h : ¬ (0 ≤ a ∧ a ≤ 1099511627776)) : Calls Tryz.prog 29 #[.int .i64 a] w fun e w' => e = .returned (.bool false) ∧ w = w' := by
 by_cases h1 : 0 ≤ a
 · have h2 : ¬ a ≤ 1099511627776 := fun h2 => h ⟨h1, h2⟩
   clear h
   go_enter Tryz.func29, Tryz.ntmps29
   go_wp2_with fail
   go_ret
   exact ⟨rfl, rfl⟩
 clear h
 go_enter Tryz.func29, Tryz.ntmps29
 go_wp2_with fail
 go_ret
 exact ⟨rfl, rfl⟩
theorem may_any (m : MarkT) (w : World) : Calls Tryz.prog 48 #[encM m] w fun e w' => e = .returned (.bool (mayB m)) ∧ Below w.heap.size w w' := by
 obtain ⟨a, b⟩ := m
 have hB := below_alloc w (.cells #[.int .i64 a, .int .i64 b] 67)
 by_cases ht : 0 ≤ a ∧ a ≤ 1099511627776
 · have C := Lib.hid (fun W => time_yes a W ht.1 ht.2)
   by_cases h1 : 1 ≤ b
   · by_cases h2 : b ≤ 1000000
     · have e : mayB (a, b) = true := by unfold mayB; simp; omega
       rw [e]
       have HB := Lib.hid hB
       clear hB e ht
       go_enter Tryz.func48, Tryz.ntmps48
       go_wp2_with fail
       refine (C.out _).mono ?_
       rintro e w' ⟨rfl, rfl⟩
       go_wp2_with fail
       go_ret
       exact ⟨rfl, HB.out⟩
     have e : mayB (a, b) = false := by unfold mayB; simp; omega
     have h2' : decide (b ≤ 1000000) = false := by simpa using h2
     rw [e]
     have HB := Lib.hid hB
     clear hB e ht
     go_enter Tryz.func48, Tryz.ntmps48
     go_wp2_with fail
     refine (C.out _).mono ?_
     rintro e w' ⟨rfl, rfl⟩
     go_wp2_with fail
     go_ret
     exact ⟨rfl, HB.out⟩
   have e : mayB (a, b) = false := by unfold mayB; simp; omega
   rw [e]
   have HB := Lib.hid hB
   clear hB e ht
   go_enter Tryz.func48, Tryz.ntmps48
   go_wp2_with fail
   refine (C.out _).mono ?_
   rintro e w' ⟨rfl, rfl⟩
   go_wp2_with fail
   go_ret
   exact ⟨rfl, HB.out⟩
 have C := Lib.hid (fun W => time_no a W ht)
 have e : mayB (a, b) = false := by unfold mayB; simp; omega
 rw [e]
 have HB := Lib.hid hB
 clear hB e ht
 go_enter Tryz.func48, Tryz.ntmps48
 go_wp2_with fail
 refine (C.out _).mono ?_
 rintro e w' ⟨rfl, rfl⟩
 go_wp2_with fail
 go_ret
 exact ⟨rfl, HB.out⟩
theorem below_two (w : World) (o p : Obj) : Below w.heap.size w ((w.alloc o).alloc p) := (below_alloc w o).alloc (by simp) p
theorem dom_any (x m : MarkT) (w : World) : Calls Tryz.prog 51 #[encM x, encM m] w fun e w' => e = .returned (.bool (domB x m)) ∧ Below w.heap.size w w' := by
 obtain ⟨a, b⟩ := x
 obtain ⟨c, d⟩ := m
 have HB := Lib.hid (below_two w (.cells #[.int .i64 a, .int .i64 b] 67) (.cells #[.int .i64 c, .int .i64 d] 67))
 by_cases h1 : c ≤ a
 · by_cases h2 : d ≤ b
   · have e : domB (a, b) (c, d) = true := by unfold domB; simp; omega
     rw [e]; clear e
     go_enter Tryz.func51, Tryz.ntmps51
     go_wp2_with fail
     go_ret
     exact ⟨rfl, HB.out⟩
   have e : domB (a, b) (c, d) = false := by unfold domB; simp; omega
   rw [e]; clear e
   go_enter Tryz.func51, Tryz.ntmps51
   go_wp2_with fail
   go_ret
   exact ⟨rfl, HB.out⟩
 have e : domB (a, b) (c, d) = false := by unfold domB; simp; omega
 rw [e]; clear e
 go_enter Tryz.func51, Tryz.ntmps51
 go_wp2_with fail
 go_ret
 exact ⟨rfl, HB.out⟩
theorem cloDom_any (x m : MarkT) (B : Nat) (w : World) (c0 : w.cell? ⟨B, 0, none⟩ = some (.int .i64 m.1)) (c1 : w.cell? ⟨B, 1, none⟩ = some (.int .i64 m.2)) :
 Calls Tryz.prog 50 #[encM x, .pointer (some ⟨B, 0, none⟩)] w fun e w' => e = .returned (.bool (domB x m)) ∧ Below w.heap.size w w' := by
 obtain ⟨a, b⟩ := x
 obtain ⟨c, d⟩ := m
 dsimp only at c0 c1
 have hlt := World.block_lt_of_cell? w _ c0
 have hB := below_alloc w (.cells #[.int .i64 a, .int .i64 b] 67)
 have d0 : (w.alloc (.cells #[.int .i64 a, .int .i64 b] 67)).cell? ⟨B, 0, none⟩ = some (.int .i64 c) := (hB.cell (p := ⟨B, 0, none⟩) hlt).trans c0
 have d1 : (w.alloc (.cells #[.int .i64 a, .int .i64 b] 67)).cell? ⟨B, 1, none⟩ = some (.int .i64 d) := (hB.cell (p := ⟨B, 1, none⟩) hlt).trans c1
 have HB := Lib.hid hB
 have C := Lib.hid (fun W => dom_any (a, b) (c, d) W)
 obtain ⟨r, hr⟩ : ∃ r, r = domB (a, b) (c, d) := ⟨_, rfl⟩
 rw [← hr] at C ⊢
 clear hB c0 c1 hlt hr
 go_enter Tryz.func50, Tryz.ntmps50
 go_wp2_with fail
 refine (C.out _).mono ?_
 rintro e w' ⟨rfl, hb'⟩
 have HX := Lib.hid (HB.out.trans (hb'.mono HB.out.size))
 clear hb'
 go_wp2_with fail
 go_ret
 exact ⟨rfl, HX.out⟩
def IdxE (w : World) (b : Bool) (e : Ending) (w' : World) : Prop := ∃ r : Int, e = .returned (.int .i64 r) ∧ decide (0 ≤ r) = b ∧ -1 ≤ r ∧ r ≤ 9223372036854775807 ∧ Below w.heap.size w w'
set_option maxHeartbeats 2000000 in
theorem index_any (g : Nat) (lb : Array Value) (eg : ∀ args w, (callFunc g args).run Tryz.prog w = .ok (.enter g args) w) (p : MarkT → Bool) (v : Value) (l : List MarkT) (w : World) (hv : RdMk w v l)
 (hp : ∀ W (x : MarkT), Below w.heap.size w W → Calls Tryz.prog g (#[encM x] ++ lb) W fun e w' => e = .returned (.bool (p x)) ∧ Below W.heap.size W w') :
 Calls Tryz.prog 68 #[v, .func (.func g) #[] lb] w (IdxE w (l.any p)) := by
 obtain ⟨av, cv, rfl, hlen⟩ := hv.form
 have HV := Lib.hid hv
 have HP := Lib.hid hp
 obtain ⟨R, hR⟩ : ∃ R, R = l.any p := ⟨_, rfl⟩
 rw [← hR]
 have HR := Lib.hid hR
 clear hv hp hR
 go_enter Tryz.func68, Tryz.ntmps68
 go_wp2_with fail
 go_loopw [8] (fun i wr => ∃ k : Nat, k ≤ l.length ∧ i = .int .i64 (k : Int) ∧ Hid (Below w.heap.size w wr ∧ (l.take k).any p = false)) (fun i _ => l.length - (intOf i).toNat)
 case atStart => exact ⟨0, Nat.zero_le _, rfl, Lib.hid ⟨Below.refl _ _, by simp⟩⟩
 case round =>
  obtain ⟨k, hk, rfl, HW⟩ := hrel
  by_cases hlt : k < l.length
  · have g3 : (k : Int) < (l.length : Int) := by omega
    have g4 : (0 : Int) ≤ (k : Int) := by omega
    obtain ⟨bA, oA, rfl, c0, c1⟩ := HV.out.get hlt
    obtain ⟨x, hx⟩ : ∃ x, x = l[k] := ⟨_, rfl⟩
    have HT := Lib.hid (show (l.take (k + 1)).any p = ((l.take k).any p || p x) by rw [List.take_succ_eq_append_getElem hlt, List.any_append, ← hx]; simp)
    have HM := Lib.hid (show x ∈ l by rw [hx]; exact List.getElem_mem hlt)
    rw [← hx] at c0 c1
    obtain ⟨a, b⟩ := x
    dsimp only at c0 c1
    have hlA := World.block_lt_of_cell? w _ c0
    have d0 : wr.cell? ⟨bA, oA + k * 2, none⟩ = some (.int .i64 a) := (HW.out.1.cell (p := ⟨bA, oA + k * 2, none⟩) hlA).trans c0
    have d1 : wr.cell? ⟨bA, oA + k * 2 + 1, none⟩ = some (.int .i64 b) := (HW.out.1.cell (p := ⟨bA, oA + k * 2 + 1, none⟩) hlA).trans c1
    have hc := HP.out wr (a, b) HW.out.1
    cases hq : p (a, b) with
    | true =>
     rw [hq] at hc
     have HC := Lib.hid hc
     have HE : Hid (R = true) := Lib.hid (by rw [HR.out, List.any_eq_true]; exact ⟨_, HM.out, hq⟩)
     clear hc c0 c1 hx hlA HV HP hq HR
     go_wp2_with fail
     refine HC.out.mono ?_
     rintro e w' ⟨rfl, hb'⟩
     have HX := Lib.hid (HW.out.1.trans (hb'.mono HW.out.1.size))
     clear hb' HC
     go_wp2_with fail
     go_ret
     exact ⟨k, rfl, by rw [HE.out]; simp, by omega, by omega, HX.out⟩
    | false =>
     rw [hq] at hc
     have HC := Lib.hid hc
     have HF := Lib.hid (show (l.take (k + 1)).any p = false by rw [HT.out, HW.out.2, hq]; rfl)
     clear hc c0 c1 hx hlA HV HP hq HR HT HM
     go_wp2_with fail
     refine HC.out.mono ?_
     rintro e w' ⟨rfl, hb'⟩
     have HX : Hid (Below w.heap.size w w' ∧ (l.take (k + 1)).any p = false) := Lib.hid ⟨HW.out.1.trans (hb'.mono HW.out.1.size), HF.out⟩
     clear hb' HC HF
     go_wp2_with fail
     go_roundw
     case rel => exact ⟨k + 1, by omega, by go_num, HX⟩
     case measure => simp [intOf]; omega
  obtain rfl : k = l.length := by omega
  have g3 : ¬ (l.length : Int) < (l.length : Int) := by omega
  go_wp2_with fail
  go_ret
  have h := HW.out.2
  rw [List.take_length] at h
  exact ⟨-1, rfl, by rw [HR.out, h]; rfl, by omega, by omega, HW.out.1⟩
theorem contains_any (g : Nat) (lb : Array Value) (eg : ∀ args w, (callFunc g args).run Tryz.prog w = .ok (.enter g args) w) (p : MarkT → Bool) (v : Value) (l : List MarkT) (w : World) (hv : RdMk w v l)
 (hp : ∀ W (x : MarkT), Below w.heap.size w W → Calls Tryz.prog g (#[encM x] ++ lb) W fun e w' => e = .returned (.bool (p x)) ∧ Below W.heap.size W w') :
 Calls Tryz.prog 49 #[v, .func (.func g) #[] lb] w fun e w' => e = .returned (.bool (l.any p)) ∧ Below w.heap.size w w' := by
 have C := Lib.hid (index_any g lb eg p v l w hv hp)
 obtain ⟨R, hR⟩ : ∃ R, R = l.any p := ⟨_, rfl⟩
 rw [← hR] at C ⊢
 clear hv hp hR eg
 go_enter Tryz.func49, Tryz.ntmps49
 go_wp2_with fail
 refine C.out.mono ?_
 rintro e w' ⟨r, rfl, hr, h1, h2, hb⟩
 have HB := Lib.hid hb
 clear hb C
 cases R with
 | true =>
  have g : 0 ≤ r := by simpa using hr
  clear hr
  go_wp2_with fail
  go_ret
  exact ⟨rfl, HB.out⟩
 | false =>
  go_wp2_with fail
  go_ret
  exact ⟨rfl, HB.out⟩
end Go.Proofs.YtegblhmcfemfgaaGreatDoor
