/- hbllaw15.first. -/
import Derived.Test.YtegblhmcfemfgaaDoorMkAdd
import Derived.Test.YtegblhmcfemfgaaDoorMkLawM
namespace Go.Proofs.YtegblhmcfemfgaaDoor
open Go.RowKit

theorem add_ex1 : addL [(100, 5)] (50, 10) = ([(100, 5), (50, 10)], 0) := by decide
theorem add_ex2 : addL [(50, 5)] (100, 10) = ([(100, 10)], 0) := by decide
set_option maxRecDepth 100000 in
set_option maxHeartbeats 2000000 in
theorem mkfirst_any (w : World) : Calls Tryd.prog 5 #[] w fun e w' => e = .returned (.bool true) ∧ Below w.heap.size w w' := by
  have C1 := Lib.hid (padd_any (.slice (some ⟨w.heap.size, 0, none⟩) 1 1) [(100, 5)] (50, 10) (w.alloc (.cells #[.int .i64 100, .int .i64 5] 24)) (RdF.lit [cellsM (100, 5)] (by simp [cellsM]) (heap_alloc_new _ _) rfl (by simp)) (fun c h => by cases h))
  have C2 := Lib.hid (fun W : World => padd_any (.slice (some ⟨W.heap.size, 0, none⟩) 1 1) [(50, 5)] (100, 10) (W.alloc (.cells #[.int .i64 50, .int .i64 5] 24)) (RdF.lit [cellsM (50, 5)] (by simp [cellsM]) (heap_alloc_new _ _) rfl (by simp)) (fun c h => by cases h))
  rw [add_ex1] at C1
  rw [add_ex2] at C2
  have H0 := Lib.hid (below_alloc w (.cells #[.int .i64 100, .int .i64 5] 24))
  go_enter Tryd.func5, Tryd.ntmps5
  go_wp2_with fail
  refine C1.out.mono ?_
  rintro e w1 ⟨u1, rfl, hr1, _, _, hb1⟩
  have H1 := Lib.hid (And.intro hr1 (H0.out.trans (hb1.mono H0.out.size)))
  clear hr1 hb1 C1 H0
  go_wp2_with fail
  refine (C2.out w1).mono ?_
  rintro e w2 ⟨u2, rfl, hr2, _, _, hb2⟩
  have hb3 := (below_alloc w1 (.cells #[.int .i64 50, .int .i64 5] 24)).trans (hb2.mono (by simp))
  obtain ⟨a1, c1, rfl, _⟩ := H1.out.1.form
  obtain ⟨a2, c2, rfl, _⟩ := hr2.form
  obtain ⟨b1, o1, rfl, x0, _⟩ := RdMk.get (H1.out.1.up hb3) (i := 0) (by simp)
  obtain ⟨b2, o2, rfl, _, y1⟩ := RdMk.get hr2 (i := 0) (by simp)
  have HX := Lib.hid (H1.out.2.trans (hb3.mono H1.out.2.size))
  simp at x0 y1
  clear hb2 hb3 hr2 C2 H1
  go_wp2_with fail
  go_ret
  exact ⟨rfl, HX.out⟩
end Go.Proofs.YtegblhmcfemfgaaDoor
