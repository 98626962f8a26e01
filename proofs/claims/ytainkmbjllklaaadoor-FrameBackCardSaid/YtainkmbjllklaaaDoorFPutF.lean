/- frame.Put and bytes.Clone, by their contracts. -/
import Derived.Test.YtainkmbjllklaaaDoorFSum
namespace Go.Proofs.YtainkmbjllklaaaDoor
open Go.RowKit

/-- A frame. -/
def frmL (p : List UInt8) : List UInt8 := putL p.length 2 ++ (putL (crcN (putL p.length 2 ++ p)) 4 ++ p)
theorem frmL_len (p : List UInt8) : (frmL p).length = p.length + 6 := by simp [frmL, putL_length]; omega
theorem fput_long (x : Value) (p : List UInt8) (w : World) (hx : Rd w x p) (hp : 60000 < p.length) :
    Calls Tryd.prog 8 #[x] w fun e w' => e = .returned (.tuple #[.slice none 0 0, .int .i64 3]) ∧ w' = w := by
  have hl := hx.lens
  obtain ⟨xa, xc, rfl, _⟩ := hx
  have g : (60000 : Int) < (p.length : Int) := by omega
  go_enter Tryd.func8, Tryd.ntmps8
  go_wp2
  go_ret2
  exact ⟨rfl, rfl⟩
theorem fput_ok (x : Value) (p : List UInt8) (w : World) (hx : Rd w x p) (ht : Tab w) (hp : p.length ≤ 60000) :
    Calls Tryd.prog 8 #[x] w fun e w' => ∃ v, e = .returned (.tuple #[v, .int .i64 0]) ∧ Own 5 w' w.heap.size v (frmL p) ∧ Below w.heap.size w w' := by
  obtain ⟨xa, xc, rfl, hx0⟩ := id hx
  have HX := Lib.hid hx
  have HT := Lib.hid ht
  clear hx hx0 ht
  have g : ¬ (60000 : Int) < (p.length : Int) := by omega
  have C1 := Lib.hid (put_ok p.length 2 w (by omega) (by omega) (by omega))
  obtain ⟨L2, hL2⟩ : ∃ L2, L2 = putL p.length 2 := ⟨_, rfl⟩
  have hl2 : L2.length = 2 := by rw [hL2]; exact putL_length _ _
  rw [← hL2] at C1
  obtain ⟨c, hc⟩ : ∃ c, c = crcN (L2 ++ p) := ⟨_, rfl⟩
  have hc2 : c < 4294967296 := by rw [hc]; exact crcN_lt _
  obtain ⟨L4, hL4⟩ : ∃ L4, L4 = putL c 4 := ⟨_, rfl⟩
  have hl4 : L4.length = 4 := by rw [hL4]; exact putL_length _ _
  have HF : Hid (frmL p = L2 ++ (L4 ++ p)) := Lib.hid (by unfold frmL; rw [← hL2, ← hc, ← hL4])
  have HCE := Lib.hid (And.intro hc hL4)
  clear hL2 hc hL4
  go_enter Tryd.func8, Tryd.ntmps8
  go_wp2_with fail
  refine C1.out.mono ?_
  rintro e w1 ⟨v1, rfl, hown1, hb1⟩
  have H1 := Lib.hid (And.intro hown1 hb1)
  clear hown1 hb1 C1
  have C2 := Lib.hid (sum_any v1 (.slice xa p.length xc) L2 p w1 H1.out.1.rd (HX.out.below H1.out.2 (Nat.le_refl _)) (HT.out.below H1.out.2 (Nat.le_refl _)) (by omega) (by omega))
  rw [← HCE.out.1] at C2
  go_wp2_with fail
  refine C2.out.mono ?_
  rintro e w2 ⟨rfl, hb2⟩
  have H2 : Hid (Own 5 w2 w.heap.size v1 L2 ∧ Below w.heap.size w w2) := Lib.hid ⟨H1.out.1.below hb2 (Nat.le_refl _), H1.out.2.trans (hb2.mono H1.out.2.size)⟩
  clear hb2 C2 H1
  have C3 := Lib.hid (put_ok c 4 w2 (by omega) (by omega) (by have : (256 : Nat) ^ 4 = 4294967296 := rfl; omega))
  rw [← HCE.out.2] at C3
  go_wp2_with fail
  refine C3.out.mono ?_
  rintro e w3 ⟨v3, rfl, hown3, hb3⟩
  have H3 : Hid (Own 5 w3 w.heap.size v1 L2 ∧ Rd w3 v3 L4 ∧ Below w.heap.size w w3) := Lib.hid ⟨H2.out.1.below hb3 (Nat.le_refl _), hown3.rd, H2.out.2.trans (hb3.mono H2.out.2.size)⟩
  clear hown3 hb3 C3 H2
  go_wp2_with (at_make; refine hold ?_)
  intro _
  refine bt.make0 rfl _ _ rfl (6 + p.length) _ (by first | rfl | omega) rfl rfl (by omega) ?_
  intro w4 hown4 hg4
  have hsz3 := H3.out.2.2.size
  have hb4 : Below w3.heap.size w3 w4 := (Below.refl _ _).grown hg4 (Nat.le_refl _) (by simp)
  have hB4 := H3.out.2.2.trans (hb4.mono hsz3)
  go_wp2_with (at_builtin; refine hold ?_)
  intro _
  refine bt.appendS rfl _ _ rfl w3.heap.size _ _ [] L2 hown4 (H3.out.1.rd.below hb4 (Nat.le_refl _)) rfl rfl (by simp; omega) hb4.size ?_
  intro v5 w5 hown5 hg5
  have hb5 := hb4.grown hg5 hb4.size (fun b e => (hown4.base b e).1)
  go_wp2_with (at_builtin; refine hold ?_)
  intro _
  refine bt.appendS rfl _ _ rfl w3.heap.size _ _ ([] ++ L2) L4 hown5 (H3.out.2.1.below hb5 (Nat.le_refl _)) rfl rfl (by simp; omega) hb5.size ?_
  intro v6 w6 hown6 hg6
  have hb6 := hb5.grown hg6 hb5.size (fun b e => (hown5.base b e).1)
  go_wp2_with (at_builtin; refine hold ?_)
  intro _
  refine bt.appendS rfl _ _ rfl w3.heap.size _ _ ([] ++ L2 ++ L4) p hown6 (HX.out.below (H3.out.2.2.trans (hb6.mono hsz3)) (Nat.le_refl _)) rfl rfl (by simp; omega) hb6.size ?_
  intro v7 w7 hown7 hg7
  have hb7 := hb6.grown hg7 hb6.size (fun b e => (hown6.base b e).1)
  have HZ : Hid (Own 5 w7 w.heap.size v7 (frmL p) ∧ Below w.heap.size w w7) := Lib.hid ⟨by rw [HF.out]; have := hown7.mono hsz3; simpa using this, H3.out.2.2.trans (hb7.mono hsz3)⟩
  clear hown4 hown5 hown6 hown7 hg4 hg5 hg6 hg7 hb4 hb5 hb6 hb7 hB4 H3 HX
  go_wp2_with fail
  go_ret2
  exact ⟨v7, rfl, HZ.out.1, HZ.out.2⟩
/-- A copy. -/
theorem clone_any (x : Value) (l : List UInt8) (w : World) (hx : Rd w x l) (hl : l.length ≤ 1000000000) :
    Calls Tryd.prog 21 #[x] w fun e w' => ∃ v, e = .returned v ∧ Own 5 w' w.heap.size v l ∧ Below w.heap.size w w' := by
  have HX := Lib.hid hx
  obtain ⟨xa, xc, rfl, h1, h2, h3, h4⟩ := hx
  cases xa with
  | none =>
    obtain rfl := h3 rfl
    obtain rfl : l = [] := List.eq_nil_of_length_eq_zero (by omega)
    clear HX
    have hn : ∀ w, (binOp .eql 22 (.slice none ([] : List UInt8).length 0) (.slice none 0 0)).run Tryd.prog w = .ok (.bool true) w := fun w => by kernel_rfl
    have hn0 : ∀ w, (binOp .eql 22 (.slice none 0 0) (.slice none 0 0)).run Tryd.prog w = .ok (.bool true) w := fun w => by kernel_rfl
    go_enter Tryd.func21, Tryd.ntmps21
    go_wp2
    go_ret
    exact ⟨_, rfl, Own.nil _ _ _, Below.refl _ _⟩
  | some xa =>
    clear h1 h2 h3 h4
    have hn : ∀ w, (binOp .eql 22 (.slice (some xa) l.length xc) (.slice none 0 0)).run Tryd.prog w = .ok (.bool false) w := fun w => by kernel_rfl
    go_enter Tryd.func21, Tryd.ntmps21
    go_wp2_with (at_builtin; refine hold ?_)
    intro _
    refine bt.appendS rfl _ _ rfl w.heap.size _ _ [] l (Own.made0 5 w) (HX.out.alloc _) rfl rfl (by simp; omega) (by simp) ?_
    intro v2 w2 hown2 hg2
    have hb2 : Below w.heap.size w w2 := (below_alloc w _).grown hg2 (by simp) (fun b e => ((Own.made0 5 w).base b e).1)
    rw [List.nil_append] at hown2
    have HZ := Lib.hid (And.intro hown2 hb2)
    clear hown2 hb2 hg2 HX
    go_wp2_with fail
    go_ret
    exact ⟨v2, rfl, HZ.out.1, HZ.out.2⟩
end Go.Proofs.YtainkmbjllklaaaDoor
