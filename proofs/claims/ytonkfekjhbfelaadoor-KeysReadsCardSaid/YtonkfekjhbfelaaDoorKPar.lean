/- keys.Parts as a value, in a block; the key of parts, by its contract. -/
import Derived.Test.YtonkfekjhbfelaaDoorKFun
namespace Go.Proofs.YtonkfekjhbfelaaDoor
open Go.RowKit

/-- Parts, as a value. -/
abbrev pak (k : Int) (u f n g : List UInt8) (i : Int) : Value := .agg #[.int .i64 k, str u, str f, str n, str g, .int .i64 i]
/-- Parts in a block. -/
def PK (w : World) (b : Nat) (k : Int) (u f n g : List UInt8) (i : Int) : Prop := ∃ T, w.heap[b]? = some (.cells #[.int .i64 k, str u, str f, str n, str g, .int .i64 i] T (0, 0))
theorem PK.made (w : World) (k : Int) (u f n g : List UInt8) (i : Int) (T : TypeId) : PK (w.alloc (.cells #[.int .i64 k, str u, str f, str n, str g, .int .i64 i] T)) w.heap.size k u f n g i := ⟨T, heap_alloc_new w _⟩
section
variable {w w' : World} {b : Nat} {k i : Int} {u f n g : List UInt8}
theorem PK.lt (h : PK w b k u f n g i) : b < w.heap.size := by
  obtain ⟨T, h⟩ := h; exact (Array.getElem?_eq_some_iff.1 h).1
theorem PK.cs (h : PK w b k u f n g i) : w.cell? ⟨b, 0, none⟩ = some (.int .i64 k) ∧ w.cell? ⟨b, 1, none⟩ = some (str u) ∧ w.cell? ⟨b, 2, none⟩ = some (str f) ∧ w.cell? ⟨b, 3, none⟩ = some (str n) ∧ w.cell? ⟨b, 4, none⟩ = some (str g) ∧ w.cell? ⟨b, 5, none⟩ = some (.int .i64 i) := by
  obtain ⟨T, h⟩ := h
  refine ⟨?_, ?_, ?_, ?_, ?_, ?_⟩ <;> (rw [cell_of_row w b _ _ T _ h]; rfl)
theorem PK.fr (h : PK w b k u f n g i) (j : Nat) : w.frozen? ⟨b, j, none⟩ = false := by
  obtain ⟨T, h⟩ := h; exact frozen_of_row w b j _ T h
theorem PK.below {B : Nat} (h : PK w b k u f n g i) (hb : Below B w w') (hB : b < B) : PK w' b k u f n g i := by
  obtain ⟨T, h⟩ := h
  exact ⟨T, (hb.block b hB).trans h⟩
theorem six_set {b j : Nat} {c : Array Value} {t : TypeId} (h : w.heap[b]? = some (.cells c t (0, 0))) (x : Value) : (w.setCell ⟨b, j, none⟩ x).heap[b]? = some (.cells (c.setIfInBounds j x) t (0, 0)) := by
  have hlt := (Array.getElem?_eq_some_iff.1 h).1
  have h' : w.heap[b] = .cells c t (0, 0) := by simpa [Array.getElem?_eq_getElem hlt] using h
  show (w.heap.modify b _)[b]? = _
  rw [Array.getElem?_eq_getElem (by simpa using hlt), Array.getElem_modify_self, h']
  rfl
abbrev set6 (w : World) (b : Nat) (k : Int) (u f n g : List UInt8) (i : Int) : World :=
  (((((w.setCell ⟨b, 0, none⟩ (.int .i64 k)).setCell ⟨b, 1, none⟩ (str u)).setCell ⟨b, 2, none⟩ (str f)).setCell ⟨b, 3, none⟩ (str n)).setCell ⟨b, 4, none⟩ (str g)).setCell ⟨b, 5, none⟩ (.int .i64 i)
theorem PK.set {k0 i0 : Int} {u0 f0 n0 g0 : List UInt8} (h : PK w b k0 u0 f0 n0 g0 i0) (k : Int) (u f n g : List UInt8) (i : Int) : PK (set6 w b k u f n g i) b k u f n g i := by
  obtain ⟨T, h⟩ := h
  exact ⟨T, six_set (six_set (six_set (six_set (six_set (six_set h _) _) _) _) _) _⟩
theorem below_set6 {B : Nat} (h : Below B w w') (hb : B ≤ b) (k : Int) (u f n g : List UInt8) (i : Int) : Below B w (set6 w' b k u f n g i) :=
  Below.setCell (p := ⟨b, 5, none⟩) (Below.setCell (p := ⟨b, 4, none⟩) (Below.setCell (p := ⟨b, 3, none⟩) (Below.setCell (p := ⟨b, 2, none⟩) (Below.setCell (p := ⟨b, 1, none⟩) (Below.setCell (p := ⟨b, 0, none⟩) h hb _) hb _) hb _) hb _) hb _) hb _
end
/-- The key of parts. -/
def keyL (k : Int) (u f n g : List UInt8) (i : Int) : List UInt8 :=
  if k = 1 then underL [102, 47] f else if k = 2 then numbL (withinL [101, 47] f) i else if k = 3 then guidL f g else if k = 4 then underL (withinL [115, 47] u) f
  else if k = 5 then underL (withinL [100, 47] u) n else if k = 6 then numbL (withinL (withinL [114, 47] u) f) i else if k = 7 then underL (withinL [109, 47] u) f else []
set_option maxHeartbeats 2000000 in
theorem pkey_any (k : Int) (u f n g : List UInt8) (i : Int) (w : World) (hi : -9223372036854775808 ≤ i ∧ i ≤ 9223372036854775807) (hu : u.length ≤ 9223372036854775807) (hf : f.length ≤ 9223372036854775807) (hn : n.length ≤ 9223372036854775807) (hg : g.length ≤ 9223372036854775807) :
    Calls Tryd.prog 25 #[pak k u f n g i] w fun e w' => e = .returned (str (keyL k u f n g i)) ∧ Below w.heap.size w w' := by
  obtain ⟨W, hW⟩ : ∃ W, W = w.alloc (.cells #[.int .i64 k, str u, str f, str n, str g, .int .i64 i] 23) := ⟨_, rfl⟩
  have HB : Hid (Below w.heap.size w W) := Lib.hid (by rw [hW]; exact below_alloc w _)
  obtain ⟨c0, c1, c2, c3, c4, c5⟩ := (PK.made w k u f n g i 23).cs
  rw [← hW] at c0 c1 c2 c3 c4 c5
  have key : k = 1 ∨ k = 2 ∨ k = 3 ∨ k = 4 ∨ k = 5 ∨ k = 6 ∨ k = 7 ∨ (k ≠ 1 ∧ k ≠ 2 ∧ k ≠ 3 ∧ k ≠ 4 ∧ k ≠ 5 ∧ k ≠ 6 ∧ k ≠ 7) := by omega
  rcases key with rfl | rfl | rfl | rfl | rfl | rfl | rfl | ⟨n1, n2, n3, n4, n5, n6, n7⟩
  · have C := Lib.hid (feed_any f _ (by omega) : Calls _ _ _ W _)
    have HE := Lib.hid (show keyL 1 u f n g i = _ from rfl)
    clear hi hu hf hn hg
    go_enter Tryd.func25, Tryd.ntmps25
    go_wp2_with fail
    simp only [← hW]
    go_wp2_with fail
    refine C.out.mono ?_
    rintro e w' ⟨rfl, rfl⟩
    go_wp2_with fail
    go_ret
    exact ⟨rfl, by first | exact HB.out | (rw [← hW]; exact HB.out)⟩
  · have C := Lib.hid (entry_any f i _ (by omega) hi : Calls _ _ _ W _)
    have HE := Lib.hid (show keyL 2 u f n g i = _ from rfl)
    clear hi hu hf hn hg
    go_enter Tryd.func25, Tryd.ntmps25
    go_wp2_with fail
    simp only [← hW]
    go_wp2_with fail
    refine C.out.mono ?_
    rintro e w' ⟨rfl, hb⟩
    have HB2 := Lib.hid (HB.out.trans (hb.mono HB.out.size))
    clear hb
    go_wp2_with fail
    go_ret
    exact ⟨rfl, HB2.out⟩
  · have C := Lib.hid (guid_any f g _ (by omega) (by omega) : Calls _ _ _ W _)
    have HE := Lib.hid (show keyL 3 u f n g i = _ from rfl)
    clear hi hu hf hn hg
    go_enter Tryd.func25, Tryd.ntmps25
    go_wp2_with fail
    simp only [← hW]
    go_wp2_with fail
    refine C.out.mono ?_
    rintro e w' ⟨rfl, hb⟩
    have HB2 := Lib.hid (HB.out.trans (hb.mono HB.out.size))
    clear hb
    go_wp2_with fail
    go_ret
    exact ⟨rfl, HB2.out⟩
  · have C := Lib.hid (sub_any u f _ (by omega) (by omega) : Calls _ _ _ W _)
    have HE := Lib.hid (show keyL 4 u f n g i = _ from rfl)
    clear hi hu hf hn hg
    go_enter Tryd.func25, Tryd.ntmps25
    go_wp2_with fail
    simp only [← hW]
    go_wp2_with fail
    refine C.out.mono ?_
    rintro e w' ⟨rfl, rfl⟩
    go_wp2_with fail
    go_ret
    exact ⟨rfl, by first | exact HB.out | (rw [← hW]; exact HB.out)⟩
  · have C := Lib.hid (folder_any u n _ (by omega) (by omega) : Calls _ _ _ W _)
    have HE := Lib.hid (show keyL 5 u f n g i = _ from rfl)
    clear hi hu hf hn hg
    go_enter Tryd.func25, Tryd.ntmps25
    go_wp2_with fail
    simp only [← hW]
    go_wp2_with fail
    refine C.out.mono ?_
    rintro e w' ⟨rfl, rfl⟩
    go_wp2_with fail
    go_ret
    exact ⟨rfl, by first | exact HB.out | (rw [← hW]; exact HB.out)⟩
  · have C := Lib.hid (state_any u f i _ (by omega) (by omega) hi : Calls _ _ _ W _)
    have HE := Lib.hid (show keyL 6 u f n g i = _ from rfl)
    clear hi hu hf hn hg
    go_enter Tryd.func25, Tryd.ntmps25
    go_wp2_with fail
    simp only [← hW]
    go_wp2_with fail
    refine C.out.mono ?_
    rintro e w' ⟨rfl, hb⟩
    have HB2 := Lib.hid (HB.out.trans (hb.mono HB.out.size))
    clear hb
    go_wp2_with fail
    go_ret
    exact ⟨rfl, HB2.out⟩
  · have C := Lib.hid (marks_any u f _ (by omega) (by omega) : Calls _ _ _ W _)
    have HE := Lib.hid (show keyL 7 u f n g i = _ from rfl)
    clear hi hu hf hn hg
    go_enter Tryd.func25, Tryd.ntmps25
    go_wp2_with fail
    simp only [← hW]
    go_wp2_with fail
    refine C.out.mono ?_
    rintro e w' ⟨rfl, rfl⟩
    go_wp2_with fail
    go_ret
    exact ⟨rfl, by first | exact HB.out | (rw [← hW]; exact HB.out)⟩
  · have HE := Lib.hid (show keyL k u f n g i = [] by unfold keyL; rw [if_neg n1, if_neg n2, if_neg n3, if_neg n4, if_neg n5, if_neg n6, if_neg n7])
    have t1 : (k == 1) = false := by rw [beq_eq_false_iff_ne]; exact n1
    have t2 : (k == 2) = false := by rw [beq_eq_false_iff_ne]; exact n2
    have t3 : (k == 3) = false := by rw [beq_eq_false_iff_ne]; exact n3
    have t4 : (k == 4) = false := by rw [beq_eq_false_iff_ne]; exact n4
    have t5 : (k == 5) = false := by rw [beq_eq_false_iff_ne]; exact n5
    have t6 : (k == 6) = false := by rw [beq_eq_false_iff_ne]; exact n6
    have t7 : (k == 7) = false := by rw [beq_eq_false_iff_ne]; exact n7
    clear hi hu hf hn hg n1 n2 n3 n4 n5 n6 n7
    go_enter Tryd.func25, Tryd.ntmps25
    go_wp2_with fail
    simp only [← hW]
    go_wp2_with fail
    go_ret
    exact ⟨by rw [HE.out]; rfl, by first | exact HB.out | (rw [← hW]; exact HB.out)⟩
set_option maxHeartbeats 2000000 in
theorem lkey_any (k : Int) (u f n g : List UInt8) (i : Int) (w : World) (hi : -9223372036854775808 ≤ i ∧ i ≤ 9223372036854775807) (hu : u.length ≤ 9223372036854775807) (hf : f.length ≤ 9223372036854775807) (hn : n.length ≤ 9223372036854775807) (hg : g.length ≤ 9223372036854775807) :
    Calls Tryd.prog 9 #[pak k u f n g i] w fun e w' => e = .returned (str (keyL k u f n g i)) ∧ Below w.heap.size w w' := by
  obtain ⟨W, hW⟩ : ∃ W, W = w.alloc (.cells #[.int .i64 k, str u, str f, str n, str g, .int .i64 i] 23) := ⟨_, rfl⟩
  have HB : Hid (Below w.heap.size w W) := Lib.hid (by rw [hW]; exact below_alloc w _)
  obtain ⟨c0, c1, c2, c3, c4, c5⟩ := (PK.made w k u f n g i 23).cs
  rw [← hW] at c0 c1 c2 c3 c4 c5
  have key : k = 1 ∨ k = 2 ∨ k = 3 ∨ k = 4 ∨ k = 5 ∨ k = 6 ∨ k = 7 ∨ (k ≠ 1 ∧ k ≠ 2 ∧ k ≠ 3 ∧ k ≠ 4 ∧ k ≠ 5 ∧ k ≠ 6 ∧ k ≠ 7) := by omega
  rcases key with rfl | rfl | rfl | rfl | rfl | rfl | rfl | ⟨n1, n2, n3, n4, n5, n6, n7⟩
  · have C := Lib.hid (feed_any f _ (by omega) : Calls _ _ _ W _)
    have HE := Lib.hid (show keyL 1 u f n g i = _ from rfl)
    clear hi hu hf hn hg
    go_enter Tryd.func9, Tryd.ntmps9
    go_wp2_with fail
    simp only [← hW]
    go_wp2_with fail
    refine C.out.mono ?_
    rintro e w' ⟨rfl, rfl⟩
    go_wp2_with fail
    go_ret
    exact ⟨rfl, by first | exact HB.out | (rw [← hW]; exact HB.out)⟩
  · have C := Lib.hid (entry_any f i _ (by omega) hi : Calls _ _ _ W _)
    have HE := Lib.hid (show keyL 2 u f n g i = _ from rfl)
    clear hi hu hf hn hg
    go_enter Tryd.func9, Tryd.ntmps9
    go_wp2_with fail
    simp only [← hW]
    go_wp2_with fail
    refine C.out.mono ?_
    rintro e w' ⟨rfl, hb⟩
    have HB2 := Lib.hid (HB.out.trans (hb.mono HB.out.size))
    clear hb
    go_wp2_with fail
    go_ret
    exact ⟨rfl, HB2.out⟩
  · have C := Lib.hid (guid_any f g _ (by omega) (by omega) : Calls _ _ _ W _)
    have HE := Lib.hid (show keyL 3 u f n g i = _ from rfl)
    clear hi hu hf hn hg
    go_enter Tryd.func9, Tryd.ntmps9
    go_wp2_with fail
    simp only [← hW]
    go_wp2_with fail
    refine C.out.mono ?_
    rintro e w' ⟨rfl, hb⟩
    have HB2 := Lib.hid (HB.out.trans (hb.mono HB.out.size))
    clear hb
    go_wp2_with fail
    go_ret
    exact ⟨rfl, HB2.out⟩
  · have C := Lib.hid (sub_any u f _ (by omega) (by omega) : Calls _ _ _ W _)
    have HE := Lib.hid (show keyL 4 u f n g i = _ from rfl)
    clear hi hu hf hn hg
    go_enter Tryd.func9, Tryd.ntmps9
    go_wp2_with fail
    simp only [← hW]
    go_wp2_with fail
    refine C.out.mono ?_
    rintro e w' ⟨rfl, rfl⟩
    go_wp2_with fail
    go_ret
    exact ⟨rfl, by first | exact HB.out | (rw [← hW]; exact HB.out)⟩
  · have C := Lib.hid (folder_any u n _ (by omega) (by omega) : Calls _ _ _ W _)
    have HE := Lib.hid (show keyL 5 u f n g i = _ from rfl)
    clear hi hu hf hn hg
    go_enter Tryd.func9, Tryd.ntmps9
    go_wp2_with fail
    simp only [← hW]
    go_wp2_with fail
    refine C.out.mono ?_
    rintro e w' ⟨rfl, rfl⟩
    go_wp2_with fail
    go_ret
    exact ⟨rfl, by first | exact HB.out | (rw [← hW]; exact HB.out)⟩
  · have C := Lib.hid (state_any u f i _ (by omega) (by omega) hi : Calls _ _ _ W _)
    have HE := Lib.hid (show keyL 6 u f n g i = _ from rfl)
    clear hi hu hf hn hg
    go_enter Tryd.func9, Tryd.ntmps9
    go_wp2_with fail
    simp only [← hW]
    go_wp2_with fail
    refine C.out.mono ?_
    rintro e w' ⟨rfl, hb⟩
    have HB2 := Lib.hid (HB.out.trans (hb.mono HB.out.size))
    clear hb
    go_wp2_with fail
    go_ret
    exact ⟨rfl, HB2.out⟩
  · have C := Lib.hid (marks_any u f _ (by omega) (by omega) : Calls _ _ _ W _)
    have HE := Lib.hid (show keyL 7 u f n g i = _ from rfl)
    clear hi hu hf hn hg
    go_enter Tryd.func9, Tryd.ntmps9
    go_wp2_with fail
    simp only [← hW]
    go_wp2_with fail
    refine C.out.mono ?_
    rintro e w' ⟨rfl, rfl⟩
    go_wp2_with fail
    go_ret
    exact ⟨rfl, by first | exact HB.out | (rw [← hW]; exact HB.out)⟩
  · have HE := Lib.hid (show keyL k u f n g i = [] by unfold keyL; rw [if_neg n1, if_neg n2, if_neg n3, if_neg n4, if_neg n5, if_neg n6, if_neg n7])
    have t1 : (k == 1) = false := by rw [beq_eq_false_iff_ne]; exact n1
    have t2 : (k == 2) = false := by rw [beq_eq_false_iff_ne]; exact n2
    have t3 : (k == 3) = false := by rw [beq_eq_false_iff_ne]; exact n3
    have t4 : (k == 4) = false := by rw [beq_eq_false_iff_ne]; exact n4
    have t5 : (k == 5) = false := by rw [beq_eq_false_iff_ne]; exact n5
    have t6 : (k == 6) = false := by rw [beq_eq_false_iff_ne]; exact n6
    have t7 : (k == 7) = false := by rw [beq_eq_false_iff_ne]; exact n7
    clear hi hu hf hn hg n1 n2 n3 n4 n5 n6 n7
    go_enter Tryd.func9, Tryd.ntmps9
    go_wp2_with fail
    simp only [← hW]
    go_wp2_with fail
    go_ret
    exact ⟨by rw [HE.out]; rfl, by first | exact HB.out | (rw [← hW]; exact HB.out)⟩
end Go.Proofs.YtonkfekjhbfelaaDoor
