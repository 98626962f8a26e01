/- hblref8.Frame, by its contract: the answer of ours. -/
import Derived.Test.YtainkmbjllklaaaDoorFRef
import Derived.Test.YtainkmbjllklaaaDoorLRd
import Derived.Test.YtainkmbjllklaaaDoorFPutF
namespace Go.Proofs.YtainkmbjllklaaaDoor
open Go.RowKit

theorem rframe_long (x : Value) (p : List UInt8) (w : World) (hx : Rd w x p) (hp : 60000 < p.length) :
    Calls Tryd.prog 9 #[x] w fun e w' => e = .returned (.tuple #[.slice none 0 0, .int .i64 3]) ∧ w' = w := by
  have hl := hx.lens
  obtain ⟨xa, xc, rfl, _⟩ := hx
  have g : (60000 : Int) < (p.length : Int) := by omega
  go_enter Tryd.func9, Tryd.ntmps9
  go_wp2
  go_ret2
  exact ⟨rfl, rfl⟩
theorem rframe_ok (x : Value) (p : List UInt8) (w : World) (hx : Rd w x p) (hp : p.length ≤ 60000) :
    Calls Tryd.prog 9 #[x] w fun e w' => ∃ v, e = .returned (.tuple #[v, .int .i64 0]) ∧ Own 5 w' w.heap.size v (frmL p) ∧ Below w.heap.size w w' := by
  obtain ⟨xa, xc, rfl, hx0⟩ := id hx
  have HX := Lib.hid hx
  clear hx hx0
  have g : ¬ (60000 : Int) < (p.length : Int) := by omega
  have C1 := Lib.hid (rput_ok p.length 2 w (by omega) (by omega) (by omega))
  obtain ⟨L2, hL2⟩ : ∃ L2, L2 = putL p.length 2 := ⟨_, rfl⟩
  have hl2 : L2.length = 2 := by rw [hL2]; exact putL_length _ _
  rw [← hL2] at C1
  obtain ⟨c, hc⟩ : ∃ c, c = crcN (L2 ++ p) := ⟨_, rfl⟩
  have hc2 : c < 4294967296 := by rw [hc]; exact crcN_lt _
  obtain ⟨L4, hL4⟩ : ∃ L4, L4 = putL c 4 := ⟨_, rfl⟩
  have hl4 : L4.length = 4 := by rw [hL4]; exact putL_length _ _
  have HF : Hid (frmL p = L2 ++ (L4 ++ p)) := Lib.hid (by unfold frmL; rw [← hL2, ← hc, ← hL4])
  have HCE := Lib.hid (And.intro hc hL4)
  clear hL2 hc hL4
  go_enter Tryd.func9, Tryd.ntmps9
  go_wp2_with fail
  refine C1.out.mono ?_
  rintro e w1 ⟨v1, rfl, hown1, hb1⟩
  have H1 := Lib.hid (And.intro hown1 hb1)
  clear hown1 hb1 C1
  have C2 := Lib.hid (copy_bytes v1 L2 w1 H1.out.1.rd (by omega))
  go_wp2_with fail
  refine C2.out.mono ?_
  rintro e w2 ⟨v2, rfl, hown2, hb2⟩
  have H2 : Hid (Own 5 w2 w.heap.size v1 L2 ∧ Below w.heap.size w w2 ∧ Own 5 w2 w1.heap.size v2 L2 ∧ w1.heap.size ≤ w2.heap.size ∧ Below w1.heap.size w1 w2) := Lib.hid ⟨H1.out.1.below hb2 (Nat.le_refl _), H1.out.2.trans (hb2.mono H1.out.2.size), hown2, hb2.size, hb2⟩
  clear hb2 C2 hown2
  go_wp2_with (at_builtin; refine hold ?_)
  intro _
  refine bt.appendS rfl _ _ rfl w1.heap.size _ _ L2 p H2.out.2.2.1 (HX.out.below H2.out.2.1 (Nat.le_refl _)) rfl rfl (by omega) H2.out.2.2.2.1 ?_
  intro v3 w3 hown3 hg3
  have hb3 : Below w1.heap.size w1 w3 := H2.out.2.2.2.2.grown hg3 H2.out.2.2.2.1 (fun b e => (H2.out.2.2.1.base b e).1)
  have H3 : Hid (Own 5 w3 w.heap.size v1 L2 ∧ Below w.heap.size w w3 ∧ Rd w3 v3 (L2 ++ p)) := Lib.hid ⟨H1.out.1.below hb3 (Nat.le_refl _), H1.out.2.trans (hb3.mono H1.out.2.size), hown3.rd⟩
  clear hown3 hg3 hb3 H2 H1
  have C3 := Lib.hid (refCrc_any v3 (L2 ++ p) w3 H3.out.2.2)
  rw [← HCE.out.1] at C3
  go_wp2_with fail
  refine C3.out.mono ?_
  rintro e w4 ⟨rfl, rfl⟩
  clear C3
  have C4 := Lib.hid (rput_ok c 4 w4 (by omega) (by omega) (by have : (256 : Nat) ^ 4 = 4294967296 := rfl; omega))
  rw [← HCE.out.2] at C4
  go_wp2_with fail
  refine C4.out.mono ?_
  rintro e w5 ⟨v5, rfl, hown5, hb5⟩
  have H5 : Hid (Own 5 w5 w.heap.size v1 L2 ∧ Below w.heap.size w w5 ∧ Rd w5 v5 L4) := Lib.hid ⟨H3.out.1.below hb5 (Nat.le_refl _), H3.out.2.1.trans (hb5.mono H3.out.2.1.size), hown5.rd⟩
  clear C4 H3 hown5 hb5
  go_wp2_with (at_builtin; refine hold ?_)
  intro _
  refine bt.appendS rfl _ _ rfl w.heap.size _ _ L2 L4 H5.out.1 H5.out.2.2 rfl rfl (by omega) H5.out.2.1.size ?_
  intro v6 w6 hown6 hg6
  have H6 : Hid (Own 5 w6 w.heap.size v6 (L2 ++ L4) ∧ Below w.heap.size w w6) := Lib.hid ⟨hown6, H5.out.2.1.grown hg6 H5.out.2.1.size (fun b e => (H5.out.1.base b e).1)⟩
  clear hown6 hg6 H5
  go_wp2_with (at_builtin; refine hold ?_)
  intro _
  refine bt.appendS rfl _ _ rfl w.heap.size _ _ (L2 ++ L4) p H6.out.1 (HX.out.below H6.out.2 (Nat.le_refl _)) rfl rfl (by simp; omega) H6.out.2.size ?_
  intro v7 w7 hown7 hg7
  have HZ : Hid (Own 5 w7 w.heap.size v7 (frmL p) ∧ Below w.heap.size w w7) := Lib.hid ⟨by rw [HF.out]; simpa using hown7, H6.out.2.grown hg7 H6.out.2.size (fun b e => (H6.out.1.base b e).1)⟩
  clear hown7 hg7 H6 HX
  go_wp2_with fail
  go_ret2
  exact ⟨v7, rfl, HZ.out.1, HZ.out.2⟩
end Go.Proofs.YtainkmbjllklaaaDoor
