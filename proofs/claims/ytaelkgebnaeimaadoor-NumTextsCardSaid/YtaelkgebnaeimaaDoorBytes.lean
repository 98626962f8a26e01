/- hblref.Bytes, hblref.CopyBytes by their contracts. -/
import Derived.Test.YtaelkgebnaeimaaDoorVar
namespace Go.Proofs.YtaelkgebnaeimaaDoor
open Go.RowKit

theorem bytes_any (x y : Value) (l m : List UInt8) (w : World) (hx : Rd w x l) (hy : Rd w y m) :
    Calls Tryd.prog 10 #[x, y] w fun e w' => e = .returned (.bool (l == m)) ∧ w' = w := by
  have c1 := bt.toString (w := w) (S := 9) Tryd.underlying9 hx
  have c2 := bt.toString (w := w) (S := 9) Tryd.underlying9 hy
  go_enter Tryd.func10, Tryd.ntmps10
  go_wp2
  go_ret
  exact ⟨rfl, rfl⟩

theorem copy_any (x : Value) (l : List UInt8) (w : World) (hx : Rd w x l) (hl : l.length ≤ 140737488355328) :
    Calls Tryd.prog 13 #[x] w fun e w' => ∃ v, e = .returned v ∧ Own 5 w' w.heap.size v l ∧ Below w.heap.size w w' := by
  go_enter Tryd.func13, Tryd.ntmps13
  go_wp2_with (at_builtin; refine hold ?_)
  intro _
  refine bt.appendS rfl _ _ rfl w.heap.size _ x [] l (Own.made0 5 w) (hx.alloc _) rfl rfl (by simpa using hl) (by simp) ?_
  intro v' w2 hown2 hg2
  have hb2 := (Own.made0 5 w).grows hg2 (Nat.le_refl _) (by simp)
  go_wp2_with fail
  go_ret
  exact ⟨v', rfl, hown2, (below_alloc w _).trans hb2⟩
end Go.Proofs.YtaelkgebnaeimaaDoor
