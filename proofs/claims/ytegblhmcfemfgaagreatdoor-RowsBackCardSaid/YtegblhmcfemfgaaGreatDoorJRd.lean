/- JSON: the reader: blanks, next, leave, enter, behind. -/
import Derived.Test.YtegblhmcfemfgaaGreatDoorJPar
import Derived.Test.YtegblhmcfemfgaaGreatDoorIdx
import Derived.Lib.IndexLaws
import Derived.Deep.LoopGhost
namespace Go.Proofs.YtegblhmcfemfgaaGreatDoor
open Go.RowKit

/-- The reader in block b: its text, its place, how many are open. -/
def JRb (w : World) (b : Nat) (t : List UInt8) (p o : Nat) : Prop := ∃ T, w.heap[b]? = some (.cells #[str t, .int .i64 (p : Int), .int .i64 (o : Int)] T (0, 0))
section
variable {w : World} {b p o : Nat} {t : List UInt8}
theorem JRb.lt (h : JRb w b t p o) : b < w.heap.size := by
  obtain ⟨T, h⟩ := h
  exact (Array.getElem?_eq_some_iff.1 h).1
theorem JRb.c0 (h : JRb w b t p o) : w.cell? ⟨b, 0, none⟩ = some (str t) := by
  obtain ⟨T, h⟩ := h
  simp [World.cell?, h]
theorem JRb.c1 (h : JRb w b t p o) : w.cell? ⟨b, 1, none⟩ = some (.int .i64 (p : Int)) := by
  obtain ⟨T, h⟩ := h
  simp [World.cell?, h]
theorem JRb.c2 (h : JRb w b t p o) : w.cell? ⟨b, 2, none⟩ = some (.int .i64 (o : Int)) := by
  obtain ⟨T, h⟩ := h
  simp [World.cell?, h]
theorem JRb.fr (h : JRb w b t p o) (j : Nat) : w.frozen? ⟨b, j, none⟩ = false := by
  obtain ⟨T, h⟩ := h
  exact frozen_of_row w b j _ T h
theorem JRb.setAt (h : JRb w b t p o) (q : Nat) (n : Int) (hn : n = (q : Int)) : JRb (w.setCell ⟨b, 1, none⟩ (.int .i64 n)) b t q o := by
  obtain ⟨T, h⟩ := h
  subst hn
  exact ⟨T, (three_setCell h).1⟩
theorem JRb.setOpen (h : JRb w b t p o) (q : Nat) (n : Int) (hn : n = (q : Int)) : JRb (w.setCell ⟨b, 2, none⟩ (.int .i64 n)) b t p q := by
  obtain ⟨T, h⟩ := h
  subst hn
  exact ⟨T, (three_setCell h).2⟩
theorem JRb.made (w : World) (t : List UInt8) (n m : Int) (hn : n = 0) (hm : m = 0) (T : TypeId) : JRb (w.alloc (.cells #[str t, .int .i64 n, .int .i64 m] T)) w.heap.size t 0 0 := by
  subst hn hm
  exact ⟨T, heap_alloc_new w _⟩
theorem JRb.below {w' : World} (h : JRb w b t p o) (hb : Below w.heap.size w w') : JRb w' b t p o := by
  have hlt := h.lt
  obtain ⟨T, h⟩ := h
  exact ⟨T, by rw [hb.block b hlt]; exact h⟩
theorem JRb.frm {w' : World} {G : Nat → Prop} (h : JRb w b t p o) (hf : Frm G w w') (hn : ¬ G b) : JRb w' b t p o := by
  have hlt := h.lt
  obtain ⟨T, h⟩ := h
  exact ⟨T, by rw [hf.block b hlt hn]; exact h⟩
end
/-- The reader, with all else as it was. -/
def JSt (w : World) (b : Nat) (t : List UInt8) (p o : Nat) (w' : World) : Prop := JRb w' b t p o ∧ Frm (fun i => i = b) w w'
section
variable {w W W' : World} {b p o : Nat} {t : List UInt8}
theorem JSt.refl (h : JRb w b t p o) : JSt w b t p o w := ⟨h, Frm.refl _ _⟩
theorem JSt.below (h : JSt w b t p o W) (hb : Below W.heap.size W W') : JSt w b t p o W' := ⟨h.1.below hb, h.2.trans (Frm.of_below hb) (fun _ _ h => h)⟩
theorem JSt.drewN (h : JSt w b t p o W) (n : Nat) : JSt w b t p o (W.drewN n) := h.below (Below.drewsN (Below.refl _ _) n)
theorem JSt.setAt (h : JSt w b t p o W) (q : Nat) (n : Int) (hn : n = (q : Int)) : JSt w b t q o (W.setCell ⟨b, 1, none⟩ (.int .i64 n)) := ⟨h.1.setAt q n hn, h.2.trans (Frm.set (F := fun i => i = b) _ rfl) (fun _ _ h => h)⟩
theorem JSt.setOpen (h : JSt w b t p o W) (q : Nat) (n : Int) (hn : n = (q : Int)) : JSt w b t p q (W.setCell ⟨b, 2, none⟩ (.int .i64 n)) := ⟨h.1.setOpen q n hn, h.2.trans (Frm.set (F := fun i => i = b) _ rfl) (fun _ _ h => h)⟩
theorem JSt.trans {p' o' : Nat} (h : JSt w b t p o W) (k : JSt W b t p' o' W') : JSt w b t p' o' W' := ⟨k.1, h.2.trans k.2 (fun _ _ h => h)⟩
end
theorem idxJ (l : List UInt8) (c : UInt8) : (Lib.indexByte l c < 0) ↔ c ∉ l := by
  have h := Lib.indexByte_ge l c
  constructor
  · intro hl
    have h' := Lib.indexByte_none (l := l) (c := c) (by omega)
    intro hm
    obtain ⟨k, hk, e⟩ := List.getElem_of_mem hm
    exact h' k (by rw [List.getElem?_eq_getElem hk, e])
  · intro hm
    by_cases hl : Lib.indexByte l c < 0
    · exact hl
    · have e : Lib.indexByte l c = ((Lib.indexByte l c).toNat : Int) := by omega
      have := (Lib.indexByte_some (l := l) (c := c) (o := (Lib.indexByte l c).toNat) e).1
      exact absurd (List.mem_of_getElem? this) hm
/-- Whether a byte is among others. -/
theorem inJ (l : List UInt8) (c : UInt8) : ∃ i : Int, (∀ W, Calls Tryz.prog 96 #[str l, .int .u8 (c.toNat : Int)] W fun e w' => e = .returned (.int .i64 i) ∧ w' = W) ∧ (0 ≤ i ↔ c ∈ l) := by
  refine ⟨Lib.indexByte l c, fun W => (Tryz.strings_IndexByte ⟨l.toArray⟩ (c.toNat : Int) W).mono fun e w' ⟨he, hw⟩ => ⟨by rw [he]; simp, hw⟩, ?_⟩
  have := idxJ l c
  constructor
  · intro h
    by_cases hm : c ∈ l
    · exact hm
    · have := this.2 hm; omega
  · intro h
    by_cases hl : Lib.indexByte l c < 0
    · exact absurd h (this.1 hl)
    · omega
theorem isBl_mem (c : UInt8) : c ∈ ([32, 9, 10, 13] : List UInt8) ↔ isBl c = true := by
  simp [isBl, or_assoc]
set_option maxHeartbeats 1000000 in
theorem blanks_any (t : List UInt8) (b p o : Nat) (w : World) (h : JRb w b t p o) (hp : p ≤ t.length) (hl : t.length ≤ 140737488355328) :
    Calls Tryz.prog 74 #[.pointer (some ⟨b, 0, none⟩)] w fun e w' => e = .returned (.tuple #[]) ∧ JSt w b t (skp t p) o w' := by
  have HD := Lib.hid (JSt.refl h)
  clear h
  go_enter Tryz.func74, Tryz.ntmps74
  go_wp2_with fail
  go_loopg [] (t.length - p) (fun n wr => ∃ q : Nat, q + n = t.length ∧ Hid (skp t q = skp t p) ∧ Hid (JSt w b t q o wr))
  case atStart => exact ⟨p, by omega, Lib.hid rfl, HD⟩
  case round =>
    obtain ⟨q, hq, HS, HD⟩ := hrel
    have c0 := HD.out.1.c0
    have c1 := HD.out.1.c1
    have f1 := HD.out.1.fr 1
    by_cases hlt : q < t.length
    · have n1 : (q : Int) < (t.length : Int) := by omega
      have n3 : (0 : Int) ≤ (q : Int) := by omega
      obtain ⟨c, hc⟩ : ∃ c, c = t[q] := ⟨_, rfl⟩
      have hgd : (ByteArray.mk t.toArray)[q]'(by simpa [ByteArray.size] using hlt) = c := hc.symm
      have hg? : t[q]? = some c := by rw [hc]; exact List.getElem?_eq_getElem hlt
      obtain ⟨i, CI, hi⟩ := inJ [32, 9, 10, 13] c
      rw [isBl_mem] at hi
      have CI := Lib.hid CI
      cases hb : isBl c with
      | true =>
        have hi0 : decide (0 ≤ i) = true := decide_eq_true (hi.2 hb)
        have HS2 : Hid (skp t (q + 1) = skp t p) := Lib.hid (by rw [← HS.out, skp_bl hg? hb])
        have HQ := Lib.hid hq
        clear hc hg? hi hb hq HS
        go_wp2_with fail
        go_quiet ((go_at_call 96; exact Calls.quiet_of_same (CI.out _)))
        go_wp2_with fail
        go_roundg (gk - 1)
        case measure => have := HQ.out; omega
        case rel => exact ⟨q + 1, by have := HQ.out; omega, HS2, Lib.hid ((HD.out.drewN _).setAt (q + 1) _ (by omega))⟩
      | false =>
        have hi0 : decide (0 ≤ i) = false := decide_eq_false (fun h => by rw [hi.1 h] at hb; cases hb)
        have HS2 : Hid (skp t p = q) := Lib.hid (by rw [← HS.out, skp_no hg? hb])
        clear hc hg? hi hb hq HS
        go_wp2_with fail
        go_quiet ((go_at_call 96; exact Calls.quiet_of_same (CI.out _)))
        go_wp2_with fail
        go_end0
        rw [HS2.out]
        exact ⟨rfl, HD.out.drewN _⟩
    · obtain rfl : q = t.length := by omega
      have n1 : decide ((t.length : Int) < (t.length : Int)) = false := decide_eq_false (by omega)
      have n2 : ¬ ((t.length : Int) < (t.length : Int)) := by omega
      have HS2 : Hid (skp t p = t.length) := Lib.hid (by rw [← HS.out, skp_end])
      clear hq HS
      go_wp2_with fail
      go_quiet (fail)
      go_wp2_with fail
      go_end0
      rw [HS2.out]
      exact ⟨rfl, HD.out.drewN _⟩
end Go.Proofs.YtegblhmcfemfgaaGreatDoor
