/- frame's sumOf, Put, and bytes.Clone, by their contracts. -/
import Derived.Test.YtainkmbjllklaaaDoorFPut
import Derived.Test.YtainkmbjllklaaaDoorFGet
import Derived.Test.YtainkmbjllklaaaDoorCrc
namespace Go.Proofs.YtainkmbjllklaaaDoor
open Go.RowKit

/-- The check sum of two rows of bytes. -/
theorem sum_any (x y : Value) (l m : List UInt8) (w : World) (hx : Rd w x l) (hy : Rd w y m) (ht : Tab w) (hl : l.length ≤ 1000000) (hm : m.length ≤ 1000000000) :
    Calls Tryd.prog 17 #[x, y] w fun e w' => e = .returned (.int .i64 ((crcN (l ++ m) : Nat) : Int)) ∧ Below w.heap.size w w' := by
  have HC := Lib.hid (fun (v : Value) (w' : World) (h : Rd w' v (l ++ m)) (hb : Below w.heap.size w w') => crc_any v (l ++ m) w' h (ht.below hb (Nat.le_refl _)))
  obtain ⟨xa, xc, rfl, hx0⟩ := id hx
  obtain ⟨ya, yc, rfl, hy0⟩ := id hy
  have HX := Lib.hid hx
  have HY := Lib.hid hy
  clear hx hy hx0 hy0 ht
  obtain ⟨c, hc⟩ : ∃ c, c = crcN (l ++ m) := ⟨_, rfl⟩
  have hc2 : c < 4294967296 := by rw [hc]; exact crcN_lt _
  rw [← hc] at HC ⊢
  clear hc
  go_enter Tryd.func17, Tryd.ntmps17
  go_wp2_with (at_make; refine hold ?_)
  intro _
  refine bt.make0 rfl _ _ rfl (l.length + m.length) _ (by first | rfl | omega) rfl rfl (by omega) ?_
  intro w1 hown1 hg1
  have hb1 : Below w.heap.size w w1 := (Below.refl _ _).grown hg1 (Nat.le_refl _) (by simp)
  go_wp2_with (at_builtin; refine hold ?_)
  intro _
  refine bt.appendS rfl _ _ rfl w.heap.size _ _ [] l hown1 (HX.out.below hb1 (Nat.le_refl _)) rfl rfl (by simp; omega) hb1.size ?_
  intro v2 w2 hown2 hg2
  have hb2 := hb1.grown hg2 hb1.size (fun b e => (hown1.base b e).1)
  go_wp2_with (at_builtin; refine hold ?_)
  intro _
  refine bt.appendS rfl _ _ rfl w.heap.size _ _ ([] ++ l) m hown2 (HY.out.below hb2 (Nat.le_refl _)) rfl rfl (by simp; omega) hb2.size ?_
  intro v3 w3 hown3 hg3
  have hb3 := hb2.grown hg3 hb2.size (fun b e => (hown2.base b e).1)
  rw [List.nil_append] at hown3
  have CC := Lib.hid (HC.out v3 w3 hown3.rd hb3)
  have HB := Lib.hid hb3
  clear hown1 hown2 hown3 hg1 hg2 hg3 hb1 hb2 hb3 HC HX HY
  go_wp2_with fail
  refine CC.out.mono ?_
  rintro e w4 ⟨rfl, rfl⟩
  go_wp2_with fail
  go_ret
  exact ⟨rfl, HB.out⟩
end Go.Proofs.YtainkmbjllklaaaDoor
