/- What the chapter's examples fix: the statement's own first look, by its contract. -/
import Derived.Test.YtaelkgebnaeimaaDoorPut
import Derived.Test.YtaelkgebnaeimaaDoorDig
import Derived.Test.YtaelkgebnaeimaaDoorBytes
namespace Go.Proofs.YtaelkgebnaeimaaDoor
open Go.RowKit

theorem put258 : putL 258 2 = [1, 2] := by decide
theorem var300 : varL 300 = [172, 2] := by rw [varL_big 300 (by decide), varL_small (300 / 128) (by decide)]; decide
theorem dig7 : digE 7 3 = .returned (.tuple #[str [48, 48, 55], .bool true]) := by
  unfold digE; rw [if_pos (by decide), decide_eq_true (by decide), show digL 7 3 = [48, 48, 55] by decide]

theorem first_any (w : World) : Calls Tryd.prog 5 #[] w fun e w' => e = .returned (.bool true) ∧ Below w.heap.size w w' := by
  have p := put_ok 258 2 w (by omega) (by omega) (by omega)
  rw [put258] at p
  go_enter Tryd.func5, Tryd.ntmps5
  go_wp2_with fail
  refine p.mono ?_
  rintro e w1 ⟨v1, rfl, ho1, hb1⟩
  go_wp2_with fail
  have q := var_ok 300 w1 (by omega)
  rw [var300] at q
  refine q.mono ?_
  rintro e w2 ⟨v2, rfl, ho2, hb2⟩
  go_wp2_with fail
  have r := dig_any 7 3 w2 (by omega) (by omega) (by omega)
  rw [dig7] at r
  refine r.mono ?_
  rintro e w3 ⟨rfl, hb3⟩
  have k1 : Rd w3 v1 [1, 2] := (ho1.rd.below hb2 (Nat.le_refl _)).below hb3 (Nat.le_refl _)
  have k2 : Rd w3 v2 [172, 2] := ho2.rd.below hb3 (Nat.le_refl _)
  have c1 := bt.toString (w := w3) (S := 9) Tryd.underlying9 k1
  have c2 := bt.toString (w := w3) (S := 9) Tryd.underlying9 k2
  go_wp2_with fail
  go_ret
  exact ⟨rfl, (hb1.trans (hb2.mono hb1.size)).trans (hb3.mono (Nat.le_trans hb1.size hb2.size))⟩
end Go.Proofs.YtaelkgebnaeimaaDoor
