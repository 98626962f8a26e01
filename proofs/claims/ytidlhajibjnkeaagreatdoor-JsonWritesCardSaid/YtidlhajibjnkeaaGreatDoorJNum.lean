import Derived.Shelf.Small.Strs
import Derived.Shelf.Strings.Search1
import Derived.Test.YtidlhajibjnkeaaGreatDoorProg
import Derived.Test.YtidlhajibjnkeaaGreatDoorJPar
import Derived.Lib.IndexLaws
import Derived.Deep.LoopGhost
import Derived.Test.YtidlhajibjnkeaaGreatDoorQuietB
/- The contract of strings.IndexByte, off the shelf. -/
namespace Go.Proofs
open Go.Shelf
def Tryz.lays137_ren : Go.Shelf.Ren := ⟨fun | 137 => 39 | 217 => 61 | 266 => 79 | n => n, fun | 9 => 9 | 5 => 5 | 3 => 3 | n => n, fun | n => n⟩
theorem Tryz.lays137 : Go.Proofs.Lays.n137 Tryz.prog Tryz.lays137_ren := {
  mixed := by kernel_rfl
  f137 := Tryz.func39.trans (congrArg some (by kernel_rfl))
  f217 := Tryz.func61.trans (congrArg some (by kernel_rfl))
  f266 := Tryz.func79.trans (congrArg some (by kernel_rfl))
  t3 := Tryz.underlying3
  a3 := Tryz.isAgg3
  z3 := Tryz.sizeOf3
  v3 := Tryz.zeroValue3
  t5 := Tryz.underlying5
  a5 := Tryz.isAgg5
  z5 := Tryz.sizeOf5
  v5 := Tryz.zeroValue5
  t9 := Tryz.underlying9
  a9 := Tryz.isAgg9
  z9 := Tryz.sizeOf9
  v9 := Tryz.zeroValue9 }
open Go.RowKit in
/-- strings.IndexByte: "IndexByte returns the index of the first instance of c in s, or -1 if c is not present in s.": IT RETURNS 'Lib.indexByte s c'; the world is as it was. (LAID: no walk: one application.) -/
theorem Tryz.strings_IndexByte (s : ByteArray) (c : Int) (w : World) :
    Calls Tryz.prog 39 #[.string s, .int .u8 c] w fun e w' => e = .returned (.int .i64 (Lib.indexByte s.data.toList c.toNat.toUInt8)) ∧ w' = w := Any.strings_IndexByte Tryz.lays137 s c w
end Go.Proofs

/- JSON: the reader: blanks, next, leave, enter, behind. -/
namespace Go.Proofs.YtidlhajibjnkeaaGreatDoor
open Go.RowKit

/-- The reader in block b: its text, its place, how many are open. -/
def JRb (w : World) (b : Nat) (t : List UInt8) (p o : Nat) : Prop := ∃ T, w.heap[b]? = some (.cells #[str t, .int .i64 (p : Int), .int .i64 (o : Int)] T (0, 0))
section
variable {w : World} {b p o : Nat} {t : List UInt8}
theorem JRb.lt (h : JRb w b t p o) : b < w.heap.size := by
  obtain ⟨T, h⟩ := h
  exact (Array.getElem?_eq_some_iff.1 h).1
theorem JRb.c0 (h : JRb w b t p o) : w.cell? ⟨b, 0, none⟩ = some (str t) := by
  obtain ⟨T, h⟩ := h
  simp [World.cell?, h]
theorem JRb.c1 (h : JRb w b t p o) : w.cell? ⟨b, 1, none⟩ = some (.int .i64 (p : Int)) := by
  obtain ⟨T, h⟩ := h
  simp [World.cell?, h]
theorem JRb.c2 (h : JRb w b t p o) : w.cell? ⟨b, 2, none⟩ = some (.int .i64 (o : Int)) := by
  obtain ⟨T, h⟩ := h
  simp [World.cell?, h]
theorem JRb.fr (h : JRb w b t p o) (j : Nat) : w.frozen? ⟨b, j, none⟩ = false := by
  obtain ⟨T, h⟩ := h
  exact frozen_of_row w b j _ T h
theorem JRb.setAt (h : JRb w b t p o) (q : Nat) (n : Int) (hn : n = (q : Int)) : JRb (w.setCell ⟨b, 1, none⟩ (.int .i64 n)) b t q o := by
  obtain ⟨T, h⟩ := h
  subst hn
  exact ⟨T, (three_setCell h).1⟩
theorem JRb.setOpen (h : JRb w b t p o) (q : Nat) (n : Int) (hn : n = (q : Int)) : JRb (w.setCell ⟨b, 2, none⟩ (.int .i64 n)) b t p q := by
  obtain ⟨T, h⟩ := h
  subst hn
  exact ⟨T, (three_setCell h).2⟩
theorem JRb.made (w : World) (t : List UInt8) (n m : Int) (hn : n = 0) (hm : m = 0) (T : TypeId) : JRb (w.alloc (.cells #[str t, .int .i64 n, .int .i64 m] T)) w.heap.size t 0 0 := by
  subst hn hm
  exact ⟨T, heap_alloc_new w _⟩
theorem JRb.below {w' : World} (h : JRb w b t p o) (hb : Below w.heap.size w w') : JRb w' b t p o := by
  have hlt := h.lt
  obtain ⟨T, h⟩ := h
  exact ⟨T, by rw [hb.block b hlt]; exact h⟩
theorem JRb.frm {w' : World} {G : Nat → Prop} (h : JRb w b t p o) (hf : Frm G w w') (hn : ¬ G b) : JRb w' b t p o := by
  have hlt := h.lt
  obtain ⟨T, h⟩ := h
  exact ⟨T, by rw [hf.block b hlt hn]; exact h⟩
end
/-- The reader, with all else as it was. -/
def JSt (w : World) (b : Nat) (t : List UInt8) (p o : Nat) (w' : World) : Prop := JRb w' b t p o ∧ Frm (fun i => i = b) w w'
section
variable {w W W' : World} {b p o : Nat} {t : List UInt8}
theorem JSt.refl (h : JRb w b t p o) : JSt w b t p o w := ⟨h, Frm.refl _ _⟩
theorem JSt.below (h : JSt w b t p o W) (hb : Below W.heap.size W W') : JSt w b t p o W' := ⟨h.1.below hb, h.2.trans (Frm.of_below hb) (fun _ _ h => h)⟩
theorem JSt.drewN (h : JSt w b t p o W) (n : Nat) : JSt w b t p o (W.drewN n) := h.below (Below.drewsN (Below.refl _ _) n)
theorem JSt.setAt (h : JSt w b t p o W) (q : Nat) (n : Int) (hn : n = (q : Int)) : JSt w b t q o (W.setCell ⟨b, 1, none⟩ (.int .i64 n)) := ⟨h.1.setAt q n hn, h.2.trans (Frm.set (F := fun i => i = b) _ rfl) (fun _ _ h => h)⟩
theorem JSt.setOpen (h : JSt w b t p o W) (q : Nat) (n : Int) (hn : n = (q : Int)) : JSt w b t p q (W.setCell ⟨b, 2, none⟩ (.int .i64 n)) := ⟨h.1.setOpen q n hn, h.2.trans (Frm.set (F := fun i => i = b) _ rfl) (fun _ _ h => h)⟩
theorem JSt.trans {p' o' : Nat} (h : JSt w b t p o W) (k : JSt W b t p' o' W') : JSt w b t p' o' W' := ⟨k.1, h.2.trans k.2 (fun _ _ h => h)⟩
end
theorem idxJ (l : List UInt8) (c : UInt8) : (Lib.indexByte l c < 0) ↔ c ∉ l := by
  have h := Lib.indexByte_ge l c
  constructor
  · intro hl
    have h' := Lib.indexByte_none (l := l) (c := c) (by omega)
    intro hm
    obtain ⟨k, hk, e⟩ := List.getElem_of_mem hm
    exact h' k (by rw [List.getElem?_eq_getElem hk, e])
  · intro hm
    by_cases hl : Lib.indexByte l c < 0
    · exact hl
    · have e : Lib.indexByte l c = ((Lib.indexByte l c).toNat : Int) := by omega
      have := (Lib.indexByte_some (l := l) (c := c) (o := (Lib.indexByte l c).toNat) e).1
      exact absurd (List.mem_of_getElem? this) hm
/-- Whether a byte is among others. -/
theorem inJ (l : List UInt8) (c : UInt8) : ∃ i : Int, (∀ W, Calls Tryz.prog 39 #[str l, .int .u8 (c.toNat : Int)] W fun e w' => e = .returned (.int .i64 i) ∧ w' = W) ∧ (0 ≤ i ↔ c ∈ l) := by
  refine ⟨Lib.indexByte l c, fun W => (Tryz.strings_IndexByte ⟨l.toArray⟩ (c.toNat : Int) W).mono fun e w' ⟨he, hw⟩ => ⟨by rw [he]; simp, hw⟩, ?_⟩
  have := idxJ l c
  constructor
  · intro h
    by_cases hm : c ∈ l
    · exact hm
    · have := this.2 hm; omega
  · intro h
    by_cases hl : Lib.indexByte l c < 0
    · exact absurd h (this.1 hl)
    · omega
theorem isBl_mem (c : UInt8) : c ∈ ([32, 9, 10, 13] : List UInt8) ↔ isBl c = true := by
  simp [isBl, or_assoc]
set_option maxHeartbeats 1000000 in
theorem blanks_any (t : List UInt8) (b p o : Nat) (w : World) (h : JRb w b t p o) (hp : p ≤ t.length) (hl : t.length ≤ 140737488355328) :
    Calls Tryz.prog 25 #[.pointer (some ⟨b, 0, none⟩)] w fun e w' => e = .returned (.tuple #[]) ∧ JSt w b t (skp t p) o w' := by
  have HD := Lib.hid (JSt.refl h)
  clear h
  go_enter Tryz.func25, Tryz.ntmps25
  go_wp2_with fail
  go_loopg [] (t.length - p) (fun n wr => ∃ q : Nat, q + n = t.length ∧ Hid (skp t q = skp t p) ∧ Hid (JSt w b t q o wr))
  case atStart => exact ⟨p, by omega, Lib.hid rfl, HD⟩
  case round =>
    obtain ⟨q, hq, HS, HD⟩ := hrel
    have c0 := HD.out.1.c0
    have c1 := HD.out.1.c1
    have f1 := HD.out.1.fr 1
    by_cases hlt : q < t.length
    · have n1 : (q : Int) < (t.length : Int) := by omega
      have n3 : (0 : Int) ≤ (q : Int) := by omega
      obtain ⟨c, hc⟩ : ∃ c, c = t[q] := ⟨_, rfl⟩
      have hgd : (ByteArray.mk t.toArray)[q]'(by simpa [ByteArray.size] using hlt) = c := hc.symm
      have hg? : t[q]? = some c := by rw [hc]; exact List.getElem?_eq_getElem hlt
      obtain ⟨i, CI, hi⟩ := inJ [32, 9, 10, 13] c
      rw [isBl_mem] at hi
      have CI := Lib.hid CI
      cases hb : isBl c with
      | true =>
        have hi0 : decide (0 ≤ i) = true := decide_eq_true (hi.2 hb)
        have HS2 : Hid (skp t (q + 1) = skp t p) := Lib.hid (by rw [← HS.out, skp_bl hg? hb])
        have HQ := Lib.hid hq
        clear hc hg? hi hb hq HS
        go_wp2_with fail
        go_quiet ((go_at_call 39; exact Calls.quiet_of_same (CI.out _)))
        go_wp2_with fail
        go_roundg (gk - 1)
        case measure => have := HQ.out; omega
        case rel => exact ⟨q + 1, by have := HQ.out; omega, HS2, Lib.hid ((HD.out.drewN _).setAt (q + 1) _ (by omega))⟩
      | false =>
        have hi0 : decide (0 ≤ i) = false := decide_eq_false (fun h => by rw [hi.1 h] at hb; cases hb)
        have HS2 : Hid (skp t p = q) := Lib.hid (by rw [← HS.out, skp_no hg? hb])
        clear hc hg? hi hb hq HS
        go_wp2_with fail
        go_quiet ((go_at_call 39; exact Calls.quiet_of_same (CI.out _)))
        go_wp2_with fail
        go_end0
        rw [HS2.out]
        exact ⟨rfl, HD.out.drewN _⟩
    · obtain rfl : q = t.length := by omega
      have n1 : decide ((t.length : Int) < (t.length : Int)) = false := decide_eq_false (by omega)
      have n2 : ¬ ((t.length : Int) < (t.length : Int)) := by omega
      have HS2 : Hid (skp t p = t.length) := Lib.hid (by rw [← HS.out, skp_end])
      clear hq HS
      go_wp2_with fail
      go_quiet (fail)
      go_wp2_with fail
      go_end0
      rw [HS2.out]
      exact ⟨rfl, HD.out.drewN _⟩
end Go.Proofs.YtidlhajibjnkeaaGreatDoor

/- JSON: the reader: next, leave, enter, behind, text. -/
namespace Go.Proofs.YtidlhajibjnkeaaGreatDoor
open Go.RowKit

/-- What next tells. -/
def nxC (t : List UInt8) (p : Nat) : UInt8 := t.getD (skp t p) 0
def nxE (t : List UInt8) (p : Nat) : Nat := if skp t p < t.length then 0 else 2
set_option maxHeartbeats 1000000 in
theorem next_any (t : List UInt8) (b p o : Nat) (w : World) (h : JRb w b t p o) (hp : p ≤ t.length) (hl : t.length ≤ 140737488355328) :
    Calls Tryz.prog 38 #[.pointer (some ⟨b, 0, none⟩)] w fun e w' => e = .returned (.tuple #[.int .u8 ((nxC t p).toNat : Int), .int .i64 (nxE t p : Int)]) ∧ JSt w b t (skp t p) o w' := by
  have CB := Lib.hid (blanks_any t b p o w h hp hl)
  obtain ⟨q, hq⟩ : ∃ q, q = skp t p := ⟨_, rfl⟩
  have hql : q ≤ t.length := by rw [hq]; exact skp_le t hp
  unfold nxC nxE
  rw [← hq] at CB ⊢
  clear hq h
  by_cases hlt : q < t.length
  · rw [if_pos hlt]
    have n1 : ((q : Int) == (t.length : Int)) = false := by rw [beq_eq_false_iff_ne]; omega
    have n2 : (q : Int) < (t.length : Int) := by omega
    have n3 : (0 : Int) ≤ (q : Int) := by omega
    obtain ⟨c, hc⟩ : ∃ c, c = t[q] := ⟨_, rfl⟩
    have hgd : (ByteArray.mk t.toArray)[q]'(by simpa [ByteArray.size] using hlt) = c := hc.symm
    have e : t.getD q 0 = c := by simp [List.getD, hlt, hc]
    rw [e]
    clear hc e
    go_enter Tryz.func38, Tryz.ntmps38
    go_wp2_with fail
    refine CB.out.mono ?_
    rintro e w1 ⟨rfl, h1⟩
    have HD := Lib.hid h1
    have c0 := h1.1.c0
    have c1 := h1.1.c1
    clear h1 CB
    go_wp2_with fail
    go_quiet (fail)
    go_wp2_with fail
    go_quiet (fail)
    go_wp2_with fail
    go_ret2
    exact ⟨rfl, (HD.out.drewN _).drewN _⟩
  · obtain rfl : q = t.length := by omega
    rw [if_neg hlt]
    have n1 : ((t.length : Int) == (t.length : Int)) = true := beq_self_eq_true _
    have e : t.getD t.length 0 = 0 := by simp
    rw [e]
    clear e
    go_enter Tryz.func38, Tryz.ntmps38
    go_wp2_with fail
    refine CB.out.mono ?_
    rintro e w1 ⟨rfl, h1⟩
    have HD := Lib.hid h1
    have c0 := h1.1.c0
    have c1 := h1.1.c1
    clear h1 CB
    go_wp2_with fail
    go_quiet (fail)
    go_wp2_with fail
    go_ret2
    exact ⟨rfl, HD.out.drewN _⟩
theorem leave_any (t : List UInt8) (b p o : Nat) (w : World) (h : JRb w b t p (o + 1)) (hp : p ≤ 140737488355328) (ho : o ≤ 1000) :
    Calls Tryz.prog 80 #[.pointer (some ⟨b, 0, none⟩)] w fun e w' => e = .returned (.tuple #[]) ∧ JSt w b t (p + 1) o w' := by
  have HD := Lib.hid (JSt.refl h)
  have c1 := h.c1
  have f1 := h.fr 1
  have c2 : (w.setCell ⟨b, 1, none⟩ (.int .i64 ((p : Int) + 1))).cell? ⟨b, 2, none⟩ = some (.int .i64 ((o + 1 : Nat) : Int)) := (h.setAt (p + 1) _ (by omega)).c2
  have f2 : (w.setCell ⟨b, 1, none⟩ (.int .i64 ((p : Int) + 1))).frozen? ⟨b, 2, none⟩ = false := (h.setAt (p + 1) _ (by omega)).fr 2
  clear h
  go_enter Tryz.func80, Tryz.ntmps80
  go_wp2_with fail
  go_end0
  exact ⟨rfl, (HD.out.setAt (p + 1) _ (by omega)).setOpen o _ (by omega)⟩
/-- What enter tells. -/
def EntJ (t : List UInt8) (w : World) (b o : Nat) (r : JR Bool) (e : Ending) (w' : World) : Prop :=
  match r with
  | .err c => e = .returned (.tuple #[.bool false, .int .i64 (c : Int)]) ∧ c ≠ 0 ∧ ∃ q o', JSt w b t q o' w'
  | .ok true q => e = .returned (.tuple #[.bool true, .int .i64 0]) ∧ JSt w b t q o w' ∧ q ≤ t.length
  | .ok false q => e = .returned (.tuple #[.bool false, .int .i64 0]) ∧ JSt w b t q (o + 1) w' ∧ q ≤ t.length
theorem nx_some {t : List UInt8} {p : Nat} {c : UInt8} (h : t[skp t p]? = some c) : nxC t p = c ∧ nxE t p = 0 ∧ skp t p < t.length := by
  obtain ⟨h1, h2⟩ := List.getElem?_eq_some_iff.1 h
  refine ⟨?_, if_pos h1, h1⟩
  unfold nxC
  simp [List.getD, h]
theorem nx_none {t : List UInt8} {p : Nat} (h : t[skp t p]? = none) : nxC t p = 0 ∧ nxE t p = 2 := by
  have h1 := List.getElem?_eq_none_iff.1 h
  refine ⟨?_, if_neg (by omega)⟩
  unfold nxC
  simp [List.getD, h]
set_option maxHeartbeats 1000000 in
theorem enter_any (t : List UInt8) (b p o : Nat) (d : UInt8) (w : World) (h : JRb w b t p o) (hp : p < t.length) (hl : t.length ≤ 140737488355328) (ho : o ≤ 1000) :
    Calls Tryz.prog 62 #[.pointer (some ⟨b, 0, none⟩), .int .u8 (d.toNat : Int)] w (EntJ t w b o (entP t d p)) := by
  have HD := Lib.hid (JSt.refl h)
  have c1 := h.c1
  have f1 := h.fr 1
  have c2 : (w.setCell ⟨b, 1, none⟩ (.int .i64 ((p : Int) + 1))).cell? ⟨b, 2, none⟩ = some (.int .i64 (o : Int)) := (h.setAt (p + 1) _ (by omega)).c2
  have f2 : (w.setCell ⟨b, 1, none⟩ (.int .i64 ((p : Int) + 1))).frozen? ⟨b, 2, none⟩ = false := (h.setAt (p + 1) _ (by omega)).fr 2
  have HD2 := Lib.hid ((HD.out.setAt (p + 1) ((p : Int) + 1) (by omega)).setOpen (o + 1) ((o : Int) + 1) (by omega))
  have CN := Lib.hid (next_any t b (p + 1) (o + 1) _ HD2.out.1 (by omega) hl)
  have hq := skp_le t (p := p + 1) (by omega)
  clear h HD
  cases hx : t[skp t (p + 1)]? with
  | none =>
    obtain ⟨e1, e2⟩ := nx_none hx
    have hE : entP t d p = .err 2 := by unfold entP; rw [hx]
    rw [hE]
    rw [e1, e2] at CN
    clear hx e1 e2 hE
    go_enter Tryz.func62, Tryz.ntmps62
    go_wp2_with fail
    refine CN.out.mono ?_
    rintro e w1 ⟨rfl, h1⟩
    have HX := Lib.hid (HD2.out.trans h1)
    clear h1 CN c1 f1 c2 f2 HD2
    go_wp2_with fail
    go_ret2
    exact ⟨rfl, by decide, _, _, HX.out⟩
  | some c =>
    obtain ⟨e1, e2, hlt⟩ := nx_some hx
    rw [e1, e2] at CN
    obtain ⟨q, hqq⟩ : ∃ q, q = skp t (p + 1) := ⟨_, rfl⟩
    by_cases hcd : c = d
    · subst hcd
      have hE : entP t c p = .ok true (q + 1) := by unfold entP; rw [hx]; simp [hqq]
      rw [hE]
      rw [← hqq] at CN hlt
      clear hx e1 e2 hE hqq hq
      have n1 : ((c.toNat : Int) != (c.toNat : Int)) = false := bne_self_eq_false _
      go_enter Tryz.func62, Tryz.ntmps62
      go_wp2_with fail
      refine CN.out.mono ?_
      rintro e w1 ⟨rfl, h1⟩
      have HX := Lib.hid (HD2.out.trans h1)
      have CL := Lib.hid (leave_any t b q o w1 h1.1 (by omega) ho)
      clear h1 CN c1 f1 c2 f2 HD2
      go_wp2_with fail
      refine CL.out.mono ?_
      rintro e w2 ⟨rfl, h2⟩
      have HX2 := Lib.hid (HX.out.trans h2)
      clear h2 CL HX
      go_wp2_with fail
      go_ret2
      exact ⟨rfl, HX2.out, hlt⟩
    · have hE : entP t d p = .ok false q := by unfold entP; rw [hx]; simp [hcd, hqq]
      rw [hE]
      rw [← hqq] at CN hq
      have n1 : ((c.toNat : Int) != (d.toNat : Int)) = true := by
        rw [bne_iff_ne]; intro h; exact hcd (UInt8.toNat_inj.1 (by omega))
      clear hx e1 e2 hE hqq hcd hlt
      go_enter Tryz.func62, Tryz.ntmps62
      go_wp2_with fail
      refine CN.out.mono ?_
      rintro e w1 ⟨rfl, h1⟩
      have HX := Lib.hid (HD2.out.trans h1)
      clear h1 CN c1 f1 c2 f2 HD2
      go_wp2_with fail
      go_ret2
      exact ⟨rfl, HX.out, hq⟩
/-- What behind tells: the one that ends it takes one away. -/
def BehJ (t : List UInt8) (w : World) (b o : Nat) (r : JR Bool) (e : Ending) (w' : World) : Prop :=
  match r with
  | .err c => e = .returned (.tuple #[.bool false, .int .i64 (c : Int)]) ∧ c ≠ 0 ∧ ∃ q o', JSt w b t q o' w'
  | .ok true q => e = .returned (.tuple #[.bool true, .int .i64 0]) ∧ JSt w b t q o w' ∧ q ≤ t.length
  | .ok false q => e = .returned (.tuple #[.bool false, .int .i64 0]) ∧ JSt w b t q (o + 1) w' ∧ q ≤ t.length
set_option maxHeartbeats 1000000 in
theorem behind_any (t : List UInt8) (b p o : Nat) (d : UInt8) (w : World) (h : JRb w b t p (o + 1)) (hp : p ≤ t.length) (hl : t.length ≤ 140737488355328) (ho : o ≤ 1000) :
    Calls Tryz.prog 63 #[.pointer (some ⟨b, 0, none⟩), .int .u8 (d.toNat : Int)] w (BehJ t w b o (behP t d p)) := by
  have CN := Lib.hid (next_any t b p (o + 1) _ h hp hl)
  clear h
  cases hx : t[skp t p]? with
  | none =>
    obtain ⟨e1, e2⟩ := nx_none hx
    have hE : behP t d p = .err 2 := by unfold behP; rw [hx]
    rw [hE]
    rw [e1, e2] at CN
    clear hx e1 e2 hE
    go_enter Tryz.func63, Tryz.ntmps63
    go_wp2_with fail
    refine CN.out.mono ?_
    rintro e w1 ⟨rfl, h1⟩
    have HX := Lib.hid h1
    clear h1 CN
    go_wp2_with fail
    go_ret2
    exact ⟨rfl, by decide, _, _, HX.out⟩
  | some c =>
    obtain ⟨e1, e2, hlt⟩ := nx_some hx
    rw [e1, e2] at CN
    obtain ⟨q, hqq⟩ : ∃ q, q = skp t p := ⟨_, rfl⟩
    by_cases hcd : c = d
    · subst hcd
      have hE : behP t c p = .ok true (q + 1) := by unfold behP; rw [hx]; simp [hqq]
      rw [hE]
      rw [← hqq] at CN hlt
      clear hx e1 e2 hE hqq
      have n1 : ((c.toNat : Int) == (c.toNat : Int)) = true := beq_self_eq_true _
      go_enter Tryz.func63, Tryz.ntmps63
      go_wp2_with fail
      refine CN.out.mono ?_
      rintro e w1 ⟨rfl, h1⟩
      have HX := Lib.hid h1
      have CL := Lib.hid (leave_any t b q o w1 h1.1 (by omega) ho)
      clear h1 CN
      go_wp2_with fail
      refine CL.out.mono ?_
      rintro e w2 ⟨rfl, h2⟩
      have HX2 := Lib.hid (HX.out.trans h2)
      clear h2 CL HX
      go_wp2_with fail
      go_ret2
      exact ⟨rfl, HX2.out, hlt⟩
    · have n1 : ((c.toNat : Int) == (d.toNat : Int)) = false := by
        rw [beq_eq_false_iff_ne]; intro h; exact hcd (UInt8.toNat_inj.1 (by omega))
      by_cases hc44 : c = 44
      · subst hc44
        have hE : behP t d p = .ok false (q + 1) := by unfold behP; rw [hx]; simp [hqq, hcd]
        rw [hE]
        rw [← hqq] at CN hlt
        have n1' : ((44 : Int) == (d.toNat : Int)) = false := n1
        clear hx e1 e2 hE hqq hcd
        go_enter Tryz.func63, Tryz.ntmps63
        go_wp2_with fail
        refine CN.out.mono ?_
        rintro e w1 ⟨rfl, h1⟩
        have HX := Lib.hid h1
        have c1 := h1.1.c1
        have f1 := h1.1.fr 1
        clear h1 CN
        go_wp2_with fail
        go_ret2
        exact ⟨rfl, HX.out.setAt (q + 1) _ (by omega), hlt⟩
      · have hE : behP t d p = .err 4 := by unfold behP; rw [hx]; simp [hcd, hc44]
        rw [hE]
        have n2 : ((c.toNat : Int) == 44) = false := by
          rw [beq_eq_false_iff_ne]; intro h; exact hc44 (UInt8.toNat_inj.1 (by have : (44 : UInt8).toNat = 44 := rfl; omega))
        clear hx e1 e2 hE hqq hcd hc44
        go_enter Tryz.func63, Tryz.ntmps63
        go_wp2_with fail
        refine CN.out.mono ?_
        rintro e w1 ⟨rfl, h1⟩
        have HX := Lib.hid h1
        clear h1 CN
        go_wp2_with fail
        go_ret2
        exact ⟨rfl, by decide, _, _, HX.out⟩
/-- What text tells. -/
def TxtJ (t : List UInt8) (w : World) (b o : Nat) (r : JR (List UInt8)) (e : Ending) (w' : World) : Prop :=
  match r with
  | .err c => e = .returned (.tuple #[str [], .int .i64 (c : Int)]) ∧ c ≠ 0 ∧ ∃ q o', JSt w b t q o' w'
  | .ok s q => e = .returned (.tuple #[str s, .int .i64 0]) ∧ JSt w b t q o w' ∧ q ≤ t.length ∧ s.length ≤ 8000
set_option maxHeartbeats 1000000 in
theorem jtext_any (t : List UInt8) (b p o : Nat) (w : World) (h : JRb w b t p o) (hl : t.length ≤ 17592186044416) :
    Calls Tryz.prog 42 #[.pointer (some ⟨b, 0, none⟩)] w (TxtJ t w b o (txtP t p)) := by
  have HD := Lib.hid (JSt.refl h)
  have CU := Lib.hid (fun W => unquote_any t (p : Int) W hl)
  obtain ⟨hu1, hu2⟩ := unqR_len t (p : Int)
  unfold txtP
  have cc0 := h.c0
  have cc1 := h.c1
  clear h
  obtain ⟨⟨s, q, c⟩, hu⟩ : ∃ u, u = unqR t (p : Int) := ⟨_, rfl⟩
  rw [← hu] at CU hu1 hu2 ⊢
  dsimp only at hu1 hu2 ⊢
  unfold unqE at CU
  dsimp only at CU
  clear hu
  have z0 := Lib.hid (fun p : BelowBy w => BelowBy.cell cc0 p)
  have z1 := Lib.hid (fun p : BelowBy w => BelowBy.cell cc1 p)
  clear cc0 cc1
  by_cases hc : c = 0
  · subst hc
    rw [if_neg (by simp)]
    by_cases hs : 8000 < s.length
    · rw [if_pos hs]
      have d1 : decide ((8000 : Int) < (s.length : Int)) = true := decide_eq_true (by omega)
      go_enter Tryz.func42, Tryz.ntmps42
      go_wp2_with fail
      refine wp_region_quiet_below (by kernel_rfl) (by kernel_rfl) ?_
      iterate 16 (first | go_big_quiet_skip | (go_big_quiet_want; go_big_quiet_op; first | go_big_quiet_on | (simp only [z0.out, z1.out, Result.andThen, true_and, forall_const, exists_eq_left']; go_big_quiet_on) | go_big_quiet_call ((go_at_call 68; exact Calls.below_of (CU.out _)))) | fail)
      refine wpQuiet_nil ?_
      rintro w3 ⟨⟨_, hb3⟩, rfl⟩
      have HX := Lib.hid (HD.out.below hb3)
      clear hb3 CU z0 z1
      go_wp2_with fail
      go_ret2
      exact ⟨rfl, by decide, _, _, HX.out⟩
    · rw [if_neg hs]
      have d1 : decide ((8000 : Int) < (s.length : Int)) = false := decide_eq_false (by omega)
      go_enter Tryz.func42, Tryz.ntmps42
      go_wp2_with fail
      refine wp_region_quiet_below (by kernel_rfl) (by kernel_rfl) ?_
      iterate 16 (first | go_big_quiet_skip | (go_big_quiet_want; go_big_quiet_op; first | go_big_quiet_on | (simp only [z0.out, z1.out, Result.andThen, true_and, forall_const, exists_eq_left']; go_big_quiet_on) | go_big_quiet_call ((go_at_call 68; exact Calls.below_of (CU.out _)))) | fail)
      refine wpQuiet_nil ?_
      rintro w3 ⟨⟨_, hb3⟩, rfl⟩
      have h3 := HD.out.below hb3
      have f1 := h3.1.fr 1
      have k1 := h3.1.c1
      have HX := Lib.hid h3
      clear h3 hb3 CU z0 z1
      go_wp2_with fail
      go_ret2
      exact ⟨rfl, HX.out.setAt q _ rfl, hu2, by omega⟩
  · rw [if_pos hc]
    have d1 : ((c : Int) != 0) = true := by rw [bne_iff_ne]; omega
    go_enter Tryz.func42, Tryz.ntmps42
    go_wp2_with fail
    refine wp_region_quiet_below (by kernel_rfl) (by kernel_rfl) ?_
    iterate 16 (first | go_big_quiet_skip | (go_big_quiet_want; go_big_quiet_op; first | go_big_quiet_on | (simp only [z0.out, z1.out, Result.andThen, true_and, forall_const, exists_eq_left']; go_big_quiet_on) | go_big_quiet_call ((go_at_call 68; exact Calls.below_of (CU.out _)))) | fail)
    refine wpQuiet_nil ?_
    rintro w3 ⟨⟨_, hb3⟩, rfl⟩
    have HX := Lib.hid (HD.out.below hb3)
    clear hb3 CU z0 z1
    go_wp2_with fail
    go_ret2
    exact ⟨rfl, hc, _, _, HX.out⟩
end Go.Proofs.YtidlhajibjnkeaaGreatDoor

/- JSON: the reader: word, number. -/
namespace Go.Proofs.YtidlhajibjnkeaaGreatDoor
open Go.RowKit

theorem jdigit_any (c : UInt8) (w : World) : Calls Tryz.prog 43 #[.int .u8 (c.toNat : Int)] w fun e w' => e = .returned (.bool (dgJ c)) ∧ w' = w := by
  unfold dgJ
  by_cases h1 : 48 ≤ c.toNat
  · by_cases h2 : c.toNat ≤ 57
    · have a1 : (48 : Int) ≤ (c.toNat : Int) := by omega
      have a2 : (c.toNat : Int) ≤ 57 := by omega
      go_enter Tryz.func43, Tryz.ntmps43
      go_wp2
      go_ret
      exact ⟨by simp_all, rfl⟩
    · have a1 : (48 : Int) ≤ (c.toNat : Int) := by omega
      have a2 : ¬ (c.toNat : Int) ≤ 57 := by omega
      go_enter Tryz.func43, Tryz.ntmps43
      go_wp2
      go_ret
      exact ⟨by simp_all, rfl⟩
  · have a1 : ¬ (48 : Int) ≤ (c.toNat : Int) := by omega
    go_enter Tryz.func43, Tryz.ntmps43
    go_wp2
    go_ret
    exact ⟨by simp_all, rfl⟩
/-- What word tells. -/
def WrdJ (t : List UInt8) (w : World) (b o p : Nat) (wd : List UInt8) (e : Ending) (w' : World) : Prop :=
  e = .returned (.int .i64 (wrdP t wd p : Int)) ∧ (wrdP t wd p = 0 → JSt w b t (p + wd.length) o w' ∧ p + wd.length ≤ t.length) ∧ ∃ q o', JSt w b t q o' w'
theorem wrdP_at (t wd : List UInt8) (p k : Nat) (hk : k < wd.length) : wrdP t (wd.drop k) (p + k) = match t[p + k]? with
    | none => 2
    | some d => if d = wd[k] then wrdP t (wd.drop (k + 1)) (p + (k + 1)) else 4 := by
  rw [List.drop_eq_getElem_cons hk]
  rfl
set_option maxHeartbeats 1000000 in
theorem word_any (t wd : List UInt8) (b p o : Nat) (w : World) (h : JRb w b t p o) (hp : p ≤ t.length) (hl : t.length ≤ 140737488355328) (hw : wd.length ≤ 100) :
    Calls Tryz.prog 45 #[.pointer (some ⟨b, 0, none⟩), str wd] w (WrdJ t w b o p wd) := by
  have HD := Lib.hid (JSt.refl h)
  clear h
  obtain ⟨R, hR⟩ : ∃ R, R = wrdP t wd p := ⟨_, rfl⟩
  unfold WrdJ
  rw [← hR]
  have HR := Lib.hid hR
  clear hR
  go_enter Tryz.func45, Tryz.ntmps45
  go_wp2_with fail
  go_loopw [8] (fun i wr => ∃ k q : Nat, k ≤ wd.length ∧ i = .int .i64 (k : Int) ∧ q ≤ t.length ∧ Hid (q = p + k) ∧ Hid (wrdP t (wd.drop k) q = R) ∧ Hid (JSt w b t q o wr)) (fun i _ => wd.length - (intOf i).toNat)
  case atStart => exact ⟨0, p, Nat.zero_le _, rfl, hp, Lib.hid rfl, Lib.hid HR.out.symm, HD⟩
  case round =>
    obtain ⟨k, q, hk, rfl, hq, HQ, HE, HD⟩ := hrel
    have c0 := HD.out.1.c0
    have c1 := HD.out.1.c1
    have f1 := HD.out.1.fr 1
    by_cases hlt : k < wd.length
    · have g1 : (k : Int) < (wd.length : Int) := by omega
      have g2 : (0 : Int) ≤ (k : Int) := by omega
      have hat := wrdP_at t wd p k hlt
      rw [← HQ.out, HE.out, show p + (k + 1) = q + 1 by have := HQ.out; omega] at hat
      obtain ⟨x, hx⟩ : ∃ x, x = wd[k] := ⟨_, rfl⟩
      have hgx : (ByteArray.mk wd.toArray)[k]'(by simpa [ByteArray.size] using hlt) = x := hx.symm
      rw [← hx] at hat
      by_cases hpl : q < t.length
      · have n1 : ((q : Int) == (t.length : Int)) = false := by rw [beq_eq_false_iff_ne]; omega
        have n2 : (q : Int) < (t.length : Int) := by omega
        have n3 : (0 : Int) ≤ (q : Int) := by omega
        obtain ⟨c, hc⟩ : ∃ c, c = t[q] := ⟨_, rfl⟩
        have hgc : (ByteArray.mk t.toArray)[q]'(by simpa [ByteArray.size] using hpl) = c := hc.symm
        rw [List.getElem?_eq_getElem hpl, ← hc] at hat
        dsimp only at hat
        by_cases hcx : c = x
        · rw [if_pos hcx] at hat
          subst hcx
          have m1 : ((c.toNat : Int) != (c.toNat : Int)) = false := bne_self_eq_false _
          have HE2 := Lib.hid hat.symm
          clear hat hc hx HE
          go_wp2_with fail
          go_quiet (fail)
          go_wp2_with fail
          go_quiet (fail)
          go_wp2_with fail
          go_roundw
          case rel => exact ⟨k + 1, q + 1, by omega, by go_num, by omega, Lib.hid (by have := HQ.out; omega), HE2, Lib.hid ((HD.out.drewN _).setAt (q + 1) ((q : Int) + 1) (by omega))⟩
          case measure => simp [intOf]; omega
        · rw [if_neg hcx] at hat
          have m1 : ((c.toNat : Int) != (x.toNat : Int)) = true := by rw [bne_iff_ne]; intro h; exact hcx (UInt8.toNat_inj.1 (by omega))
          subst hat
          clear hc hx HE hcx HR
          go_wp2_with fail
          go_quiet (fail)
          go_wp2_with fail
          go_quiet (fail)
          go_wp2_with fail
          go_ret
          exact ⟨rfl, by simp, _, _, (HD.out.drewN _).drewN _⟩
      · obtain rfl : q = t.length := by omega
        have n1 : ((t.length : Int) == (t.length : Int)) = true := beq_self_eq_true _
        rw [List.getElem?_eq_none (by omega)] at hat
        dsimp only at hat
        subst hat
        clear hx HE HR
        go_wp2_with fail
        go_quiet (fail)
        go_wp2_with fail
        go_ret
        exact ⟨rfl, by simp, _, _, HD.out.drewN _⟩
    · obtain rfl : k = wd.length := by omega
      have g1 : ¬ ((wd.length : Int) < (wd.length : Int)) := by omega
      have e : R = 0 := by have := HE.out; rw [List.drop_length] at this; exact this.symm
      subst e
      clear HE HR
      go_wp2_with fail
      go_ret
      exact ⟨rfl, by simpa [HQ.out] using And.intro HD.out hq, _, _, HD.out⟩
/-- A callee that leaves the world as it is, in a second region that draws. -/
theorem quiet_two {P : Program} {f : FuncId} {args : Array Value} {w : World} {k n : Nat} {v : Value}
    (h : Calls P f args (w.drewN (k + n)) fun e w' => e = .returned v ∧ w' = w.drewN (k + n)) : Calls P f args (w.drewN (k + n)) fun e w'' => e = .returned v ∧ ∃ m, w'' = w.drewN (k + m) :=
  h.mono fun _ _ ⟨he, hm⟩ => ⟨he, n, hm⟩
/-- Facts on digits. -/
theorem dgs_le : ∀ l : List UInt8, (dgs l).length ≤ l.length
  | [] => Nat.le_refl _
  | c :: t => by
    unfold dgs
    split
    · have := dgs_le t; simp; omega
    · simp
theorem dgs_at : ∀ (l : List UInt8) (k : Nat) (h : k < (dgs l).length), l[k]? = some (dgs l)[k] ∧ dgJ (dgs l)[k] = true
  | [], k, h => by simp [dgs] at h
  | c :: t, k, h => by
    unfold dgs at h ⊢
    split at h
    · next hd =>
      simp only [hd, if_true]
      cases k with
      | zero => simp [hd]
      | succ k => simpa using dgs_at t k (by simpa using h)
    · simp at h
theorem dgs_end : ∀ (l : List UInt8) (c : UInt8), l[(dgs l).length]? = some c → dgJ c = false
  | [], c, h => by simp [dgs] at h
  | d :: t, c, h => by
    unfold dgs at h
    split at h
    · next hd => exact dgs_end t c (by simpa using h)
    · next hd => simp at h; subst h; simpa using hd
theorem capF_snoc (c : UInt8) : ∀ (l : List UInt8) (n : Nat), capF (l ++ [c]) n = if capF l n ≤ 9007199254740991 then 10 * capF l n + (c.toNat - 48) else capF l n
  | [], n => rfl
  | d :: t, n => by simp only [List.cons_append, capF]; exact capF_snoc c t _
theorem capF_le : ∀ (l : List UInt8) (n : Nat), (∀ c ∈ l, c.toNat ≤ 57) → n ≤ 90071992547409919 → capF l n ≤ 90071992547409919
  | [], _, _, h => h
  | c :: t, n, hc, h => by
    unfold capF
    refine capF_le t _ (fun d hd => hc d (by simp [hd])) ?_
    have := hc c (by simp)
    split <;> omega
theorem dgJ_iff (c : UInt8) : dgJ c = true ↔ 48 ≤ c.toNat ∧ c.toNat ≤ 57 := by simp [dgJ]
/-- What number tells. -/
def NumJ (t : List UInt8) (w : World) (b o : Nat) (r : JR Int) (e : Ending) (w' : World) : Prop :=
  match r with
  | .err c => e = .returned (.tuple #[.int .i64 0, .int .i64 (c : Int)]) ∧ c ≠ 0 ∧ ∃ q o', JSt w b t q o' w'
  | .ok n q => e = .returned (.tuple #[.int .i64 n, .int .i64 0]) ∧ JSt w b t q o w' ∧ q ≤ t.length ∧ -9007199254740991 ≤ n ∧ n ≤ 9007199254740991
end Go.Proofs.YtidlhajibjnkeaaGreatDoor
