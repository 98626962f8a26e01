/- frame.Scan, by its contract. -/
import Derived.Test.YtainkmbjllklaaaDoorFScan
namespace Go.Proofs.YtainkmbjllklaaaDoor
open Go.RowKit

theorem box_new (w : World) (t : TypeId) (v : Value) : (w.alloc (.cells #[v] t)).heap[w.heap.size]? = some (.cells #[v] t (0, 0)) := World.alloc_heap_new w _
/-- Scan: a copy in a box. -/
theorem scan_any (x : Value) (l : List UInt8) (w : World) (hx : Rd w x l) (hl : l.length ≤ 1000000000) :
    Calls Tryd.prog 13 #[x] w fun e w' => ∃ B v0, e = .returned (.func (.func 22) #[] #[.pointer (some ⟨B, 0, none⟩)]) ∧ Boxed w' B 22 v0 ∧ Own 5 w' w.heap.size v0 l ∧ w.heap.size ≤ B ∧ Below w.heap.size w w' := by
  have CC := Lib.hid (clone_any x l w hx hl)
  obtain ⟨xa, xc, rfl, _⟩ := hx
  go_enter Tryd.func13, Tryd.ntmps13
  go_wp2_with fail
  refine CC.out.mono ?_
  rintro e w1 ⟨v, rfl, hown, hb⟩
  have H := Lib.hid (And.intro hown hb)
  obtain ⟨a1, c1, rfl, _⟩ := hown.rd
  clear hown hb CC
  go_wp2_with fail
  go_ret
  obtain ⟨h1, h2⟩ := H.out
  have hb := below_alloc w1 (.cells #[.slice a1 l.length c1] 22)
  exact ⟨_, _, rfl, box_new w1 _ _, h1.alloc _, h2.size, h2.trans (hb.mono h2.size)⟩
end Go.Proofs.YtainkmbjllklaaaDoor
