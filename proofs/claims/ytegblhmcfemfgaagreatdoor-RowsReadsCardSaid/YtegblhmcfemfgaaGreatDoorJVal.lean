import Derived.Shelf.Small.Strs
import Derived.Shelf.Strings.Search1
import Derived.Test.YtegblhmcfemfgaaGreatDoorProg
import Derived.Test.YtegblhmcfemfgaaGreatDoorJPar
import Derived.Lib.IndexLaws
import Derived.Deep.LoopGhost
import Derived.Test.YtegblhmcfemfgaaGreatDoorQuietB
import Derived.Test.YtegblhmcfemfgaaGreatDoorWTake
import Derived.Test.YtegblhmcfemfgaaGreatDoorBx
import Derived.Deep.CutRange
import Derived.Deep.CutBlock
namespace Go.Proofs
open Go.Shelf
def Tryz.lays137_ren : Go.Shelf.Ren := ⟨fun | 137 => 96 | 217 => 121 | 266 => 141 | n => n, fun | 9 => 9 | 5 => 5 | 3 => 3 | n => n, fun | n => n⟩
theorem Tryz.lays137 : Go.Proofs.Lays.n137 Tryz.prog Tryz.lays137_ren := {
 mixed := by kernel_rfl
 f137 := Tryz.func96.trans (congrArg some (by kernel_rfl))
 f217 := Tryz.func121.trans (congrArg some (by kernel_rfl))
 f266 := Tryz.func141.trans (congrArg some (by kernel_rfl))
 t3 := Tryz.underlying3
 a3 := Tryz.isAgg3
 z3 := Tryz.sizeOf3
 v3 := Tryz.zeroValue3
 t5 := Tryz.underlying5
 a5 := Tryz.isAgg5
 z5 := Tryz.sizeOf5
 v5 := Tryz.zeroValue5
 t9 := Tryz.underlying9
 a9 := Tryz.isAgg9
 z9 := Tryz.sizeOf9
 v9 := Tryz.zeroValue9 }
open Go.RowKit in
theorem Tryz.strings_IndexByte (s : ByteArray) (c : Int) (w : World) :
 Calls Tryz.prog 96 #[.string s, .int .u8 c] w fun e w' => e = .returned (.int .i64 (Lib.indexByte s.data.toList c.toNat.toUInt8)) ∧ w' = w := Any.strings_IndexByte Tryz.lays137 s c w
end Go.Proofs
namespace Go.Proofs.YtegblhmcfemfgaaGreatDoor
open Go.RowKit
def JRb (w : World) (b : Nat) (t : List UInt8) (p o : Nat) : Prop := ∃ T, w.heap[b]? = some (.cells #[str t, .int .i64 (p : Int), .int .i64 (o : Int)] T (0, 0))
section
variable {w : World} {b p o : Nat} {t : List UInt8}
theorem JRb.lt (h : JRb w b t p o) : b < w.heap.size := by
 obtain ⟨T, h⟩ := h
 exact (Array.getElem?_eq_some_iff.1 h).1
theorem JRb.c0 (h : JRb w b t p o) : w.cell? ⟨b, 0, none⟩ = some (str t) := by
 obtain ⟨T, h⟩ := h
 simp [World.cell?, h]
theorem JRb.c1 (h : JRb w b t p o) : w.cell? ⟨b, 1, none⟩ = some (.int .i64 (p : Int)) := by
 obtain ⟨T, h⟩ := h
 simp [World.cell?, h]
theorem JRb.c2 (h : JRb w b t p o) : w.cell? ⟨b, 2, none⟩ = some (.int .i64 (o : Int)) := by
 obtain ⟨T, h⟩ := h
 simp [World.cell?, h]
theorem JRb.fr (h : JRb w b t p o) (j : Nat) : w.frozen? ⟨b, j, none⟩ = false := by
 obtain ⟨T, h⟩ := h
 exact frozen_of_row w b j _ T h
theorem JRb.setAt (h : JRb w b t p o) (q : Nat) (n : Int) (hn : n = (q : Int)) : JRb (w.setCell ⟨b, 1, none⟩ (.int .i64 n)) b t q o := by
 obtain ⟨T, h⟩ := h
 subst hn
 exact ⟨T, (three_setCell h).1⟩
theorem JRb.setOpen (h : JRb w b t p o) (q : Nat) (n : Int) (hn : n = (q : Int)) : JRb (w.setCell ⟨b, 2, none⟩ (.int .i64 n)) b t p q := by
 obtain ⟨T, h⟩ := h
 subst hn
 exact ⟨T, (three_setCell h).2⟩
theorem JRb.made (w : World) (t : List UInt8) (n m : Int) (hn : n = 0) (hm : m = 0) (T : TypeId) : JRb (w.alloc (.cells #[str t, .int .i64 n, .int .i64 m] T)) w.heap.size t 0 0 := by
 subst hn hm
 exact ⟨T, heap_alloc_new w _⟩
theorem JRb.below {w' : World} (h : JRb w b t p o) (hb : Below w.heap.size w w') : JRb w' b t p o := by
 have hlt := h.lt
 obtain ⟨T, h⟩ := h
 exact ⟨T, by rw [hb.block b hlt]; exact h⟩
theorem JRb.frm {w' : World} {G : Nat → Prop} (h : JRb w b t p o) (hf : Frm G w w') (hn : ¬ G b) : JRb w' b t p o := by
 have hlt := h.lt
 obtain ⟨T, h⟩ := h
 exact ⟨T, by rw [hf.block b hlt hn]; exact h⟩
end
def JSt (w : World) (b : Nat) (t : List UInt8) (p o : Nat) (w' : World) : Prop := JRb w' b t p o ∧ Frm (fun i => i = b) w w'
section
variable {w W W' : World} {b p o : Nat} {t : List UInt8}
theorem JSt.refl (h : JRb w b t p o) : JSt w b t p o w := ⟨h, Frm.refl _ _⟩
theorem JSt.below (h : JSt w b t p o W) (hb : Below W.heap.size W W') : JSt w b t p o W' := ⟨h.1.below hb, h.2.trans (Frm.of_below hb) (fun _ _ h => h)⟩
theorem JSt.drewN (h : JSt w b t p o W) (n : Nat) : JSt w b t p o (W.drewN n) := h.below (Below.drewsN (Below.refl _ _) n)
theorem JSt.setAt (h : JSt w b t p o W) (q : Nat) (n : Int) (hn : n = (q : Int)) : JSt w b t q o (W.setCell ⟨b, 1, none⟩ (.int .i64 n)) := ⟨h.1.setAt q n hn, h.2.trans (Frm.set (F := fun i => i = b) _ rfl) (fun _ _ h => h)⟩
theorem JSt.setOpen (h : JSt w b t p o W) (q : Nat) (n : Int) (hn : n = (q : Int)) : JSt w b t p q (W.setCell ⟨b, 2, none⟩ (.int .i64 n)) := ⟨h.1.setOpen q n hn, h.2.trans (Frm.set (F := fun i => i = b) _ rfl) (fun _ _ h => h)⟩
theorem JSt.trans {p' o' : Nat} (h : JSt w b t p o W) (k : JSt W b t p' o' W') : JSt w b t p' o' W' := ⟨k.1, h.2.trans k.2 (fun _ _ h => h)⟩
end
theorem idxJ (l : List UInt8) (c : UInt8) : (Lib.indexByte l c < 0) ↔ c ∉ l := by
 have h := Lib.indexByte_ge l c
 constructor
 · intro hl
   have h' := Lib.indexByte_none (l := l) (c := c) (by omega)
   intro hm
   obtain ⟨k, hk, e⟩ := List.getElem_of_mem hm
   exact h' k (by rw [List.getElem?_eq_getElem hk, e])
 intro hm
 by_cases hl : Lib.indexByte l c < 0
 · exact hl
 have e : Lib.indexByte l c = ((Lib.indexByte l c).toNat : Int) := by omega
 have := (Lib.indexByte_some (l := l) (c := c) (o := (Lib.indexByte l c).toNat) e).1
 exact absurd (List.mem_of_getElem? this) hm
theorem inJ (l : List UInt8) (c : UInt8) : ∃ i : Int, (∀ W, Calls Tryz.prog 96 #[str l, .int .u8 (c.toNat : Int)] W fun e w' => e = .returned (.int .i64 i) ∧ w' = W) ∧ (0 ≤ i ↔ c ∈ l) := by
 refine ⟨Lib.indexByte l c, fun W => (Tryz.strings_IndexByte ⟨l.toArray⟩ (c.toNat : Int) W).mono fun e w' ⟨he, hw⟩ => ⟨by rw [he]; simp, hw⟩, ?_⟩
 have := idxJ l c
 constructor
 · intro h
   by_cases hm : c ∈ l
   · exact hm
   have := this.2 hm; omega
 intro h
 by_cases hl : Lib.indexByte l c < 0
 · exact absurd h (this.1 hl)
 omega
theorem isBl_mem (c : UInt8) : c ∈ ([32, 9, 10, 13] : List UInt8) ↔ isBl c = true := by
 simp [isBl, or_assoc]
set_option maxHeartbeats 1000000 in
theorem blanks_any (t : List UInt8) (b p o : Nat) (w : World) (h : JRb w b t p o) (hp : p ≤ t.length) (hl : t.length ≤ 140737488355328) :
 Calls Tryz.prog 74 #[.pointer (some ⟨b, 0, none⟩)] w fun e w' => e = .returned (.tuple #[]) ∧ JSt w b t (skp t p) o w' := by
 have HD := Lib.hid (JSt.refl h)
 clear h
 go_enter Tryz.func74, Tryz.ntmps74
 go_wp2_with fail
 go_loopg [] (t.length - p) (fun n wr => ∃ q : Nat, q + n = t.length ∧ Hid (skp t q = skp t p) ∧ Hid (JSt w b t q o wr))
 case atStart => exact ⟨p, by omega, Lib.hid rfl, HD⟩
 case round =>
  obtain ⟨q, hq, HS, HD⟩ := hrel
  have c0 := HD.out.1.c0
  have c1 := HD.out.1.c1
  have f1 := HD.out.1.fr 1
  by_cases hlt : q < t.length
  · have n1 : (q : Int) < (t.length : Int) := by omega
    have n3 : (0 : Int) ≤ (q : Int) := by omega
    obtain ⟨c, hc⟩ : ∃ c, c = t[q] := ⟨_, rfl⟩
    have hgd : (ByteArray.mk t.toArray)[q]'(by simpa [ByteArray.size] using hlt) = c := hc.symm
    have hg? : t[q]? = some c := by rw [hc]; exact List.getElem?_eq_getElem hlt
    obtain ⟨i, CI, hi⟩ := inJ [32, 9, 10, 13] c
    rw [isBl_mem] at hi
    have CI := Lib.hid CI
    cases hb : isBl c with
    | true =>
     have hi0 : decide (0 ≤ i) = true := decide_eq_true (hi.2 hb)
     have HS2 : Hid (skp t (q + 1) = skp t p) := Lib.hid (by rw [← HS.out, skp_bl hg? hb])
     have HQ := Lib.hid hq
     clear hc hg? hi hb hq HS
     go_wp2_with fail
     go_quiet ((go_at_call 96; exact Calls.quiet_of_same (CI.out _)))
     go_wp2_with fail
     go_roundg (gk - 1)
     case measure => have := HQ.out; omega
     case rel => exact ⟨q + 1, by have := HQ.out; omega, HS2, Lib.hid ((HD.out.drewN _).setAt (q + 1) _ (by omega))⟩
    | false =>
     have hi0 : decide (0 ≤ i) = false := decide_eq_false (fun h => by rw [hi.1 h] at hb; cases hb)
     have HS2 : Hid (skp t p = q) := Lib.hid (by rw [← HS.out, skp_no hg? hb])
     clear hc hg? hi hb hq HS
     go_wp2_with fail
     go_quiet ((go_at_call 96; exact Calls.quiet_of_same (CI.out _)))
     go_wp2_with fail
     go_end0
     rw [HS2.out]
     exact ⟨rfl, HD.out.drewN _⟩
  obtain rfl : q = t.length := by omega
  have n1 : decide ((t.length : Int) < (t.length : Int)) = false := decide_eq_false (by omega)
  have n2 : ¬ ((t.length : Int) < (t.length : Int)) := by omega
  have HS2 : Hid (skp t p = t.length) := Lib.hid (by rw [← HS.out, skp_end])
  clear hq HS
  go_wp2_with fail
  go_quiet (fail)
  go_wp2_with fail
  go_end0
  rw [HS2.out]
  exact ⟨rfl, HD.out.drewN _⟩
end Go.Proofs.YtegblhmcfemfgaaGreatDoor
set_option maxHeartbeats 1000000
namespace Go.Proofs.YtegblhmcfemfgaaGreatDoor
open Go.RowKit
def nxC (t : List UInt8) (p : Nat) : UInt8 := t.getD (skp t p) 0
def nxE (t : List UInt8) (p : Nat) : Nat := if skp t p < t.length then 0 else 2
theorem next_any (t : List UInt8) (b p o : Nat) (w : World) (h : JRb w b t p o) (hp : p ≤ t.length) (hl : t.length ≤ 140737488355328) :
 Calls Tryz.prog 95 #[.pointer (some ⟨b, 0, none⟩)] w fun e w' => e = .returned (.tuple #[.int .u8 ((nxC t p).toNat : Int), .int .i64 (nxE t p : Int)]) ∧ JSt w b t (skp t p) o w' := by
 have CB := Lib.hid (blanks_any t b p o w h hp hl)
 obtain ⟨q, hq⟩ : ∃ q, q = skp t p := ⟨_, rfl⟩
 have hql : q ≤ t.length := by rw [hq]; exact skp_le t hp
 unfold nxC nxE
 rw [← hq] at CB ⊢
 clear hq h
 by_cases hlt : q < t.length
 · rw [if_pos hlt]
   have n1 : ((q : Int) == (t.length : Int)) = false := by rw [beq_eq_false_iff_ne]; omega
   have n2 : (q : Int) < (t.length : Int) := by omega
   have n3 : (0 : Int) ≤ (q : Int) := by omega
   obtain ⟨c, hc⟩ : ∃ c, c = t[q] := ⟨_, rfl⟩
   have hgd : (ByteArray.mk t.toArray)[q]'(by simpa [ByteArray.size] using hlt) = c := hc.symm
   have e : t.getD q 0 = c := by simp [List.getD, hlt, hc]
   rw [e]
   clear hc e
   go_enter Tryz.func95, Tryz.ntmps95
   go_wp2_with fail
   refine CB.out.mono ?_
   rintro e w1 ⟨rfl, h1⟩
   have HD := Lib.hid h1
   have c0 := h1.1.c0
   have c1 := h1.1.c1
   clear h1 CB
   go_wp2_with fail
   go_quiet (fail)
   go_wp2_with fail
   go_quiet (fail)
   go_wp2_with fail
   go_ret2
   exact ⟨rfl, (HD.out.drewN _).drewN _⟩
 obtain rfl : q = t.length := by omega
 rw [if_neg hlt]
 have n1 : ((t.length : Int) == (t.length : Int)) = true := beq_self_eq_true _
 have e : t.getD t.length 0 = 0 := by simp
 rw [e]
 clear e
 go_enter Tryz.func95, Tryz.ntmps95
 go_wp2_with fail
 refine CB.out.mono ?_
 rintro e w1 ⟨rfl, h1⟩
 have HD := Lib.hid h1
 have c0 := h1.1.c0
 have c1 := h1.1.c1
 clear h1 CB
 go_wp2_with fail
 go_quiet (fail)
 go_wp2_with fail
 go_ret2
 exact ⟨rfl, HD.out.drewN _⟩
theorem leave_any (t : List UInt8) (b p o : Nat) (w : World) (h : JRb w b t p (o + 1)) (hp : p ≤ 140737488355328) (ho : o ≤ 1000) :
 Calls Tryz.prog 142 #[.pointer (some ⟨b, 0, none⟩)] w fun e w' => e = .returned (.tuple #[]) ∧ JSt w b t (p + 1) o w' := by
 have HD := Lib.hid (JSt.refl h)
 have c1 := h.c1
 have f1 := h.fr 1
 have c2 : (w.setCell ⟨b, 1, none⟩ (.int .i64 ((p : Int) + 1))).cell? ⟨b, 2, none⟩ = some (.int .i64 ((o + 1 : Nat) : Int)) := (h.setAt (p + 1) _ (by omega)).c2
 have f2 : (w.setCell ⟨b, 1, none⟩ (.int .i64 ((p : Int) + 1))).frozen? ⟨b, 2, none⟩ = false := (h.setAt (p + 1) _ (by omega)).fr 2
 clear h
 go_enter Tryz.func142, Tryz.ntmps142
 go_wp2_with fail
 go_end0
 exact ⟨rfl, (HD.out.setAt (p + 1) _ (by omega)).setOpen o _ (by omega)⟩
def EntJ (t : List UInt8) (w : World) (b o : Nat) (r : JR Bool) (e : Ending) (w' : World) : Prop :=
 match r with
 | .err c => e = .returned (.tuple #[.bool false, .int .i64 (c : Int)]) ∧ c ≠ 0 ∧ ∃ q o', JSt w b t q o' w'
 | .ok true q => e = .returned (.tuple #[.bool true, .int .i64 0]) ∧ JSt w b t q o w' ∧ q ≤ t.length
 | .ok false q => e = .returned (.tuple #[.bool false, .int .i64 0]) ∧ JSt w b t q (o + 1) w' ∧ q ≤ t.length
theorem nx_some {t : List UInt8} {p : Nat} {c : UInt8} (h : t[skp t p]? = some c) : nxC t p = c ∧ nxE t p = 0 ∧ skp t p < t.length := by
 obtain ⟨h1, h2⟩ := List.getElem?_eq_some_iff.1 h
 refine ⟨?_, if_pos h1, h1⟩
 unfold nxC
 simp [List.getD, h]
theorem nx_none {t : List UInt8} {p : Nat} (h : t[skp t p]? = none) : nxC t p = 0 ∧ nxE t p = 2 := by
 have h1 := List.getElem?_eq_none_iff.1 h
 refine ⟨?_, if_neg (by omega)⟩
 unfold nxC
 simp [List.getD, h]
theorem enter_any (t : List UInt8) (b p o : Nat) (d : UInt8) (w : World) (h : JRb w b t p o) (hp : p < t.length) (hl : t.length ≤ 140737488355328) (ho : o ≤ 1000) :
 Calls Tryz.prog 122 #[.pointer (some ⟨b, 0, none⟩), .int .u8 (d.toNat : Int)] w (EntJ t w b o (entP t d p)) := by
 have HD := Lib.hid (JSt.refl h)
 have c1 := h.c1
 have f1 := h.fr 1
 have c2 : (w.setCell ⟨b, 1, none⟩ (.int .i64 ((p : Int) + 1))).cell? ⟨b, 2, none⟩ = some (.int .i64 (o : Int)) := (h.setAt (p + 1) _ (by omega)).c2
 have f2 : (w.setCell ⟨b, 1, none⟩ (.int .i64 ((p : Int) + 1))).frozen? ⟨b, 2, none⟩ = false := (h.setAt (p + 1) _ (by omega)).fr 2
 have HD2 := Lib.hid ((HD.out.setAt (p + 1) ((p : Int) + 1) (by omega)).setOpen (o + 1) ((o : Int) + 1) (by omega))
 have CN := Lib.hid (next_any t b (p + 1) (o + 1) _ HD2.out.1 (by omega) hl)
 have hq := skp_le t (p := p + 1) (by omega)
 clear h HD
 cases hx : t[skp t (p + 1)]? with
 | none =>
  obtain ⟨e1, e2⟩ := nx_none hx
  have hE : entP t d p = .err 2 := by unfold entP; rw [hx]
  rw [hE]
  rw [e1, e2] at CN
  clear hx e1 e2 hE
  go_enter Tryz.func122, Tryz.ntmps122
  go_wp2_with fail
  refine CN.out.mono ?_
  rintro e w1 ⟨rfl, h1⟩
  have HX := Lib.hid (HD2.out.trans h1)
  clear h1 CN c1 f1 c2 f2 HD2
  go_wp2_with fail
  go_ret2
  exact ⟨rfl, by decide, _, _, HX.out⟩
 | some c =>
  obtain ⟨e1, e2, hlt⟩ := nx_some hx
  rw [e1, e2] at CN
  obtain ⟨q, hqq⟩ : ∃ q, q = skp t (p + 1) := ⟨_, rfl⟩
  by_cases hcd : c = d
  · subst hcd
    have hE : entP t c p = .ok true (q + 1) := by unfold entP; rw [hx]; simp [hqq]
    rw [hE]
    rw [← hqq] at CN hlt
    clear hx e1 e2 hE hqq hq
    have n1 : ((c.toNat : Int) != (c.toNat : Int)) = false := bne_self_eq_false _
    go_enter Tryz.func122, Tryz.ntmps122
    go_wp2_with fail
    refine CN.out.mono ?_
    rintro e w1 ⟨rfl, h1⟩
    have HX := Lib.hid (HD2.out.trans h1)
    have CL := Lib.hid (leave_any t b q o w1 h1.1 (by omega) ho)
    clear h1 CN c1 f1 c2 f2 HD2
    go_wp2_with fail
    refine CL.out.mono ?_
    rintro e w2 ⟨rfl, h2⟩
    have HX2 := Lib.hid (HX.out.trans h2)
    clear h2 CL HX
    go_wp2_with fail
    go_ret2
    exact ⟨rfl, HX2.out, hlt⟩
  have hE : entP t d p = .ok false q := by unfold entP; rw [hx]; simp [hcd, hqq]
  rw [hE]
  rw [← hqq] at CN hq
  have n1 : ((c.toNat : Int) != (d.toNat : Int)) = true := by
   rw [bne_iff_ne]; intro h; exact hcd (UInt8.toNat_inj.1 (by omega))
  clear hx e1 e2 hE hqq hcd hlt
  go_enter Tryz.func122, Tryz.ntmps122
  go_wp2_with fail
  refine CN.out.mono ?_
  rintro e w1 ⟨rfl, h1⟩
  have HX := Lib.hid (HD2.out.trans h1)
  clear h1 CN c1 f1 c2 f2 HD2
  go_wp2_with fail
  go_ret2
  exact ⟨rfl, HX.out, hq⟩
def BehJ (t : List UInt8) (w : World) (b o : Nat) (r : JR Bool) (e : Ending) (w' : World) : Prop :=
 match r with
 | .err c => e = .returned (.tuple #[.bool false, .int .i64 (c : Int)]) ∧ c ≠ 0 ∧ ∃ q o', JSt w b t q o' w'
 | .ok true q => e = .returned (.tuple #[.bool true, .int .i64 0]) ∧ JSt w b t q o w' ∧ q ≤ t.length
 | .ok false q => e = .returned (.tuple #[.bool false, .int .i64 0]) ∧ JSt w b t q (o + 1) w' ∧ q ≤ t.length
theorem behind_any (t : List UInt8) (b p o : Nat) (d : UInt8) (w : World) (h : JRb w b t p (o + 1)) (hp : p ≤ t.length) (hl : t.length ≤ 140737488355328) (ho : o ≤ 1000) :
 Calls Tryz.prog 123 #[.pointer (some ⟨b, 0, none⟩), .int .u8 (d.toNat : Int)] w (BehJ t w b o (behP t d p)) := by
 have CN := Lib.hid (next_any t b p (o + 1) _ h hp hl)
 clear h
 cases hx : t[skp t p]? with
 | none =>
  obtain ⟨e1, e2⟩ := nx_none hx
  have hE : behP t d p = .err 2 := by unfold behP; rw [hx]
  rw [hE]
  rw [e1, e2] at CN
  clear hx e1 e2 hE
  go_enter Tryz.func123, Tryz.ntmps123
  go_wp2_with fail
  refine CN.out.mono ?_
  rintro e w1 ⟨rfl, h1⟩
  have HX := Lib.hid h1
  clear h1 CN
  go_wp2_with fail
  go_ret2
  exact ⟨rfl, by decide, _, _, HX.out⟩
 | some c =>
  obtain ⟨e1, e2, hlt⟩ := nx_some hx
  rw [e1, e2] at CN
  obtain ⟨q, hqq⟩ : ∃ q, q = skp t p := ⟨_, rfl⟩
  by_cases hcd : c = d
  · subst hcd
    have hE : behP t c p = .ok true (q + 1) := by unfold behP; rw [hx]; simp [hqq]
    rw [hE]
    rw [← hqq] at CN hlt
    clear hx e1 e2 hE hqq
    have n1 : ((c.toNat : Int) == (c.toNat : Int)) = true := beq_self_eq_true _
    go_enter Tryz.func123, Tryz.ntmps123
    go_wp2_with fail
    refine CN.out.mono ?_
    rintro e w1 ⟨rfl, h1⟩
    have HX := Lib.hid h1
    have CL := Lib.hid (leave_any t b q o w1 h1.1 (by omega) ho)
    clear h1 CN
    go_wp2_with fail
    refine CL.out.mono ?_
    rintro e w2 ⟨rfl, h2⟩
    have HX2 := Lib.hid (HX.out.trans h2)
    clear h2 CL HX
    go_wp2_with fail
    go_ret2
    exact ⟨rfl, HX2.out, hlt⟩
  have n1 : ((c.toNat : Int) == (d.toNat : Int)) = false := by
   rw [beq_eq_false_iff_ne]; intro h; exact hcd (UInt8.toNat_inj.1 (by omega))
  by_cases hc44 : c = 44
  · subst hc44
    have hE : behP t d p = .ok false (q + 1) := by unfold behP; rw [hx]; simp [hqq, hcd]
    rw [hE]
    rw [← hqq] at CN hlt
    have n1' : ((44 : Int) == (d.toNat : Int)) = false := n1
    clear hx e1 e2 hE hqq hcd
    go_enter Tryz.func123, Tryz.ntmps123
    go_wp2_with fail
    refine CN.out.mono ?_
    rintro e w1 ⟨rfl, h1⟩
    have HX := Lib.hid h1
    have c1 := h1.1.c1
    have f1 := h1.1.fr 1
    clear h1 CN
    go_wp2_with fail
    go_ret2
    exact ⟨rfl, HX.out.setAt (q + 1) _ (by omega), hlt⟩
  have hE : behP t d p = .err 4 := by unfold behP; rw [hx]; simp [hcd, hc44]
  rw [hE]
  have n2 : ((c.toNat : Int) == 44) = false := by
   rw [beq_eq_false_iff_ne]; intro h; exact hc44 (UInt8.toNat_inj.1 (by have : (44 : UInt8).toNat = 44 := rfl; omega))
  clear hx e1 e2 hE hqq hcd hc44
  go_enter Tryz.func123, Tryz.ntmps123
  go_wp2_with fail
  refine CN.out.mono ?_
  rintro e w1 ⟨rfl, h1⟩
  have HX := Lib.hid h1
  clear h1 CN
  go_wp2_with fail
  go_ret2
  exact ⟨rfl, by decide, _, _, HX.out⟩
def TxtJ (t : List UInt8) (w : World) (b o : Nat) (r : JR (List UInt8)) (e : Ending) (w' : World) : Prop :=
 match r with
 | .err c => e = .returned (.tuple #[str [], .int .i64 (c : Int)]) ∧ c ≠ 0 ∧ ∃ q o', JSt w b t q o' w'
 | .ok s q => e = .returned (.tuple #[str s, .int .i64 0]) ∧ JSt w b t q o w' ∧ q ≤ t.length ∧ s.length ≤ 8000
theorem jtext_any (t : List UInt8) (b p o : Nat) (w : World) (h : JRb w b t p o) (hl : t.length ≤ 17592186044416) :
 Calls Tryz.prog 99 #[.pointer (some ⟨b, 0, none⟩)] w (TxtJ t w b o (txtP t p)) := by
 have HD := Lib.hid (JSt.refl h)
 have CU := Lib.hid (fun W => unquote_any t (p : Int) W hl)
 obtain ⟨hu1, hu2⟩ := unqR_len t (p : Int)
 unfold txtP
 have cc0 := h.c0
 have cc1 := h.c1
 clear h
 obtain ⟨⟨s, q, c⟩, hu⟩ : ∃ u, u = unqR t (p : Int) := ⟨_, rfl⟩
 rw [← hu] at CU hu1 hu2 ⊢
 dsimp only at hu1 hu2 ⊢
 unfold unqE at CU
 dsimp only at CU
 clear hu
 have z0 := Lib.hid (fun p : BelowBy w => BelowBy.cell cc0 p)
 have z1 := Lib.hid (fun p : BelowBy w => BelowBy.cell cc1 p)
 clear cc0 cc1
 by_cases hc : c = 0
 · subst hc
   rw [if_neg (by simp)]
   by_cases hs : 8000 < s.length
   · rw [if_pos hs]
     have d1 : decide ((8000 : Int) < (s.length : Int)) = true := decide_eq_true (by omega)
     go_enter Tryz.func99, Tryz.ntmps99
     go_wp2_with fail
     refine wp_region_quiet_below (by kernel_rfl) (by kernel_rfl) ?_
     iterate 16 (first | go_big_quiet_skip | (go_big_quiet_want; go_big_quiet_op; first | go_big_quiet_on | (simp only [z0.out, z1.out, Result.andThen, true_and, forall_const, exists_eq_left']; go_big_quiet_on) | go_big_quiet_call ((go_at_call 128; exact Calls.below_of (CU.out _)))) | fail)
     refine wpQuiet_nil ?_
     rintro w3 ⟨⟨_, hb3⟩, rfl⟩
     have HX := Lib.hid (HD.out.below hb3)
     clear hb3 CU z0 z1
     go_wp2_with fail
     go_ret2
     exact ⟨rfl, by decide, _, _, HX.out⟩
   rw [if_neg hs]
   have d1 : decide ((8000 : Int) < (s.length : Int)) = false := decide_eq_false (by omega)
   go_enter Tryz.func99, Tryz.ntmps99
   go_wp2_with fail
   refine wp_region_quiet_below (by kernel_rfl) (by kernel_rfl) ?_
   iterate 16 (first | go_big_quiet_skip | (go_big_quiet_want; go_big_quiet_op; first | go_big_quiet_on | (simp only [z0.out, z1.out, Result.andThen, true_and, forall_const, exists_eq_left']; go_big_quiet_on) | go_big_quiet_call ((go_at_call 128; exact Calls.below_of (CU.out _)))) | fail)
   refine wpQuiet_nil ?_
   rintro w3 ⟨⟨_, hb3⟩, rfl⟩
   have h3 := HD.out.below hb3
   have f1 := h3.1.fr 1
   have k1 := h3.1.c1
   have HX := Lib.hid h3
   clear h3 hb3 CU z0 z1
   go_wp2_with fail
   go_ret2
   exact ⟨rfl, HX.out.setAt q _ rfl, hu2, by omega⟩
 rw [if_pos hc]
 have d1 : ((c : Int) != 0) = true := by rw [bne_iff_ne]; omega
 go_enter Tryz.func99, Tryz.ntmps99
 go_wp2_with fail
 refine wp_region_quiet_below (by kernel_rfl) (by kernel_rfl) ?_
 iterate 16 (first | go_big_quiet_skip | (go_big_quiet_want; go_big_quiet_op; first | go_big_quiet_on | (simp only [z0.out, z1.out, Result.andThen, true_and, forall_const, exists_eq_left']; go_big_quiet_on) | go_big_quiet_call ((go_at_call 128; exact Calls.below_of (CU.out _)))) | fail)
 refine wpQuiet_nil ?_
 rintro w3 ⟨⟨_, hb3⟩, rfl⟩
 have HX := Lib.hid (HD.out.below hb3)
 clear hb3 CU z0 z1
 go_wp2_with fail
 go_ret2
 exact ⟨rfl, hc, _, _, HX.out⟩
theorem jdigit_any (c : UInt8) (w : World) : Calls Tryz.prog 100 #[.int .u8 (c.toNat : Int)] w fun e w' => e = .returned (.bool (dgJ c)) ∧ w' = w := by
 unfold dgJ
 by_cases h1 : 48 ≤ c.toNat
 · by_cases h2 : c.toNat ≤ 57
   · have a1 : (48 : Int) ≤ (c.toNat : Int) := by omega
     have a2 : (c.toNat : Int) ≤ 57 := by omega
     go_enter Tryz.func100, Tryz.ntmps100
     go_wp2
     go_ret
     exact ⟨by simp_all, rfl⟩
   have a1 : (48 : Int) ≤ (c.toNat : Int) := by omega
   have a2 : ¬ (c.toNat : Int) ≤ 57 := by omega
   go_enter Tryz.func100, Tryz.ntmps100
   go_wp2
   go_ret
   exact ⟨by simp_all, rfl⟩
 have a1 : ¬ (48 : Int) ≤ (c.toNat : Int) := by omega
 go_enter Tryz.func100, Tryz.ntmps100
 go_wp2
 go_ret
 exact ⟨by simp_all, rfl⟩
def WrdJ (t : List UInt8) (w : World) (b o p : Nat) (wd : List UInt8) (e : Ending) (w' : World) : Prop :=
 e = .returned (.int .i64 (wrdP t wd p : Int)) ∧ (wrdP t wd p = 0 → JSt w b t (p + wd.length) o w' ∧ p + wd.length ≤ t.length) ∧ ∃ q o', JSt w b t q o' w'
theorem wrdP_at (t wd : List UInt8) (p k : Nat) (hk : k < wd.length) : wrdP t (wd.drop k) (p + k) = match t[p + k]? with
 | none => 2
 | some d => if d = wd[k] then wrdP t (wd.drop (k + 1)) (p + (k + 1)) else 4 := by
 rw [List.drop_eq_getElem_cons hk]
 rfl
set_option maxHeartbeats 1000000 in
theorem word_any (t wd : List UInt8) (b p o : Nat) (w : World) (h : JRb w b t p o) (hp : p ≤ t.length) (hl : t.length ≤ 140737488355328) (hw : wd.length ≤ 100) :
 Calls Tryz.prog 102 #[.pointer (some ⟨b, 0, none⟩), str wd] w (WrdJ t w b o p wd) := by
 have HD := Lib.hid (JSt.refl h)
 clear h
 obtain ⟨R, hR⟩ : ∃ R, R = wrdP t wd p := ⟨_, rfl⟩
 unfold WrdJ
 rw [← hR]
 have HR := Lib.hid hR
 clear hR
 go_enter Tryz.func102, Tryz.ntmps102
 go_wp2_with fail
 go_loopw [8] (fun i wr => ∃ k q : Nat, k ≤ wd.length ∧ i = .int .i64 (k : Int) ∧ q ≤ t.length ∧ Hid (q = p + k) ∧ Hid (wrdP t (wd.drop k) q = R) ∧ Hid (JSt w b t q o wr)) (fun i _ => wd.length - (intOf i).toNat)
 case atStart => exact ⟨0, p, Nat.zero_le _, rfl, hp, Lib.hid rfl, Lib.hid HR.out.symm, HD⟩
 case round =>
  obtain ⟨k, q, hk, rfl, hq, HQ, HE, HD⟩ := hrel
  have c0 := HD.out.1.c0
  have c1 := HD.out.1.c1
  have f1 := HD.out.1.fr 1
  by_cases hlt : k < wd.length
  · have g1 : (k : Int) < (wd.length : Int) := by omega
    have g2 : (0 : Int) ≤ (k : Int) := by omega
    have hat := wrdP_at t wd p k hlt
    rw [← HQ.out, HE.out, show p + (k + 1) = q + 1 by have := HQ.out; omega] at hat
    obtain ⟨x, hx⟩ : ∃ x, x = wd[k] := ⟨_, rfl⟩
    have hgx : (ByteArray.mk wd.toArray)[k]'(by simpa [ByteArray.size] using hlt) = x := hx.symm
    rw [← hx] at hat
    by_cases hpl : q < t.length
    · have n1 : ((q : Int) == (t.length : Int)) = false := by rw [beq_eq_false_iff_ne]; omega
      have n2 : (q : Int) < (t.length : Int) := by omega
      have n3 : (0 : Int) ≤ (q : Int) := by omega
      obtain ⟨c, hc⟩ : ∃ c, c = t[q] := ⟨_, rfl⟩
      have hgc : (ByteArray.mk t.toArray)[q]'(by simpa [ByteArray.size] using hpl) = c := hc.symm
      rw [List.getElem?_eq_getElem hpl, ← hc] at hat
      dsimp only at hat
      by_cases hcx : c = x
      · rw [if_pos hcx] at hat
        subst hcx
        have m1 : ((c.toNat : Int) != (c.toNat : Int)) = false := bne_self_eq_false _
        have HE2 := Lib.hid hat.symm
        clear hat hc hx HE
        go_wp2_with fail
        go_quiet (fail)
        go_wp2_with fail
        go_quiet (fail)
        go_wp2_with fail
        go_roundw
        case rel => exact ⟨k + 1, q + 1, by omega, by go_num, by omega, Lib.hid (by have := HQ.out; omega), HE2, Lib.hid ((HD.out.drewN _).setAt (q + 1) ((q : Int) + 1) (by omega))⟩
        case measure => simp [intOf]; omega
      rw [if_neg hcx] at hat
      have m1 : ((c.toNat : Int) != (x.toNat : Int)) = true := by rw [bne_iff_ne]; intro h; exact hcx (UInt8.toNat_inj.1 (by omega))
      subst hat
      clear hc hx HE hcx HR
      go_wp2_with fail
      go_quiet (fail)
      go_wp2_with fail
      go_quiet (fail)
      go_wp2_with fail
      go_ret
      exact ⟨rfl, by simp, _, _, (HD.out.drewN _).drewN _⟩
    obtain rfl : q = t.length := by omega
    have n1 : ((t.length : Int) == (t.length : Int)) = true := beq_self_eq_true _
    rw [List.getElem?_eq_none (by omega)] at hat
    dsimp only at hat
    subst hat
    clear hx HE HR
    go_wp2_with fail
    go_quiet (fail)
    go_wp2_with fail
    go_ret
    exact ⟨rfl, by simp, _, _, HD.out.drewN _⟩
  obtain rfl : k = wd.length := by omega
  have g1 : ¬ ((wd.length : Int) < (wd.length : Int)) := by omega
  have e : R = 0 := by have := HE.out; rw [List.drop_length] at this; exact this.symm
  subst e
  clear HE HR
  go_wp2_with fail
  go_ret
  exact ⟨rfl, by simpa [HQ.out] using And.intro HD.out hq, _, _, HD.out⟩
theorem quiet_two {P : Program} {f : FuncId} {args : Array Value} {w : World} {k n : Nat} {v : Value}
 (h : Calls P f args (w.drewN (k + n)) fun e w' => e = .returned v ∧ w' = w.drewN (k + n)) : Calls P f args (w.drewN (k + n)) fun e w'' => e = .returned v ∧ ∃ m, w'' = w.drewN (k + m) :=
 h.mono fun _ _ ⟨he, hm⟩ => ⟨he, n, hm⟩
theorem dgs_le : ∀ l : List UInt8, (dgs l).length ≤ l.length
 | [] => Nat.le_refl _
 | c :: t => by
   unfold dgs
   split
   · have := dgs_le t; simp; omega
   simp
theorem dgs_at : ∀ (l : List UInt8) (k : Nat) (h : k < (dgs l).length), l[k]? = some (dgs l)[k] ∧ dgJ (dgs l)[k] = true
 | [], k, h => by simp [dgs] at h
 | c :: t, k, h => by
   unfold dgs at h ⊢
   split at h
   · next hd =>
     simp only [hd, if_true]
     cases k with
     | zero => simp [hd]
     | succ k => simpa using dgs_at t k (by simpa using h)
   simp at h
theorem dgs_end : ∀ (l : List UInt8) (c : UInt8), l[(dgs l).length]? = some c → dgJ c = false
 | [], c, h => by simp [dgs] at h
 | d :: t, c, h => by
   unfold dgs at h
   split at h
   · next hd => exact dgs_end t c (by simpa using h)
   next hd => simp at h; subst h; simpa using hd
theorem capF_snoc (c : UInt8) : ∀ (l : List UInt8) (n : Nat), capF (l ++ [c]) n = if capF l n ≤ 9007199254740991 then 10 * capF l n + (c.toNat - 48) else capF l n
 | [], n => rfl
 | d :: t, n => by simp only [List.cons_append, capF]; exact capF_snoc c t _
theorem dgJ_iff (c : UInt8) : dgJ c = true ↔ 48 ≤ c.toNat ∧ c.toNat ≤ 57 := by simp [dgJ]
def NumJ (t : List UInt8) (w : World) (b o : Nat) (r : JR Int) (e : Ending) (w' : World) : Prop :=
 match r with
 | .err c => e = .returned (.tuple #[.int .i64 0, .int .i64 (c : Int)]) ∧ c ≠ 0 ∧ ∃ q o', JSt w b t q o' w'
 | .ok n q => e = .returned (.tuple #[.int .i64 n, .int .i64 0]) ∧ JSt w b t q o w' ∧ q ≤ t.length ∧ -9007199254740991 ≤ n ∧ n ≤ 9007199254740991
theorem digP_short {t : List UInt8} {sg : Int} {p : Nat} (h : p = t.length) : digP t sg p = .err 2 := by unfold digP; rw [if_pos h]
theorem digP_form {t : List UInt8} {sg : Int} {p : Nat} (h : p ≠ t.length) (h1 : (dgs (t.drop p)).length = 0 ∨ (t[p]? = some 48 ∧ 1 < (dgs (t.drop p)).length)) : digP t sg p = .err 4 := by unfold digP; rw [if_neg h, if_pos h1]
theorem digP_point {t : List UInt8} {sg : Int} {p : Nat} (h : p ≠ t.length) (h1 : ¬ ((dgs (t.drop p)).length = 0 ∨ (t[p]? = some 48 ∧ 1 < (dgs (t.drop p)).length))) (h2 : ∃ c, t[p + (dgs (t.drop p)).length]? = some c ∧ (c = 46 ∨ c = 101 ∨ c = 69)) : digP t sg p = .err 4 := by unfold digP; rw [if_neg h, if_neg h1, if_pos h2]
theorem digP_range {t : List UInt8} {sg : Int} {p : Nat} (h : p ≠ t.length) (h1 : ¬ ((dgs (t.drop p)).length = 0 ∨ (t[p]? = some 48 ∧ 1 < (dgs (t.drop p)).length))) (h2 : ¬ ∃ c, t[p + (dgs (t.drop p)).length]? = some c ∧ (c = 46 ∨ c = 101 ∨ c = 69)) (h3 : 9007199254740991 < capF (dgs (t.drop p)) 0) : digP t sg p = .err 1 := by unfold digP; rw [if_neg h, if_neg h1, if_neg h2, if_pos h3]
theorem digP_ok {t : List UInt8} {sg : Int} {p : Nat} (h : p ≠ t.length) (h1 : ¬ ((dgs (t.drop p)).length = 0 ∨ (t[p]? = some 48 ∧ 1 < (dgs (t.drop p)).length))) (h2 : ¬ ∃ c, t[p + (dgs (t.drop p)).length]? = some c ∧ (c = 46 ∨ c = 101 ∨ c = 69)) (h3 : ¬ 9007199254740991 < capF (dgs (t.drop p)) 0) : digP t sg p = .ok (sg * (capF (dgs (t.drop p)) 0 : Int)) (p + (dgs (t.drop p)).length) := by unfold digP; rw [if_neg h, if_neg h1, if_neg h2, if_neg h3]
theorem ptE (c : UInt8) : c ∈ ([46, 101, 69] : List UInt8) ↔ (c = 46 ∨ c = 101 ∨ c = 69) := by simp
set_option maxRecDepth 100000 in
set_option maxHeartbeats 4000000 in
theorem number_any (t : List UInt8) (b p o : Nat) (w : World) (h : JRb w b t p o) (hp : p < t.length) (hl : t.length ≤ 140737488355328) :
 Calls Tryz.prog 101 #[.pointer (some ⟨b, 0, none⟩)] w (NumJ t w b o (numP t p)) := by
 have HD := Lib.hid (JSt.refl h)
 have c0 := h.c0
 have c1 := h.c1
 have f1 := h.fr 1
 clear h
 obtain ⟨R, hR⟩ : ∃ R, R = numP t p := ⟨_, rfl⟩
 rw [← hR]
 have HR := Lib.hid hR
 clear hR
 have n2 : (p : Int) < (t.length : Int) := by omega
 have n3 : (0 : Int) ≤ (p : Int) := by omega
 obtain ⟨c, hc⟩ : ∃ c, c = t[p] := ⟨_, rfl⟩
 have hgc : (ByteArray.mk t.toArray)[p]'(by simpa [ByteArray.size] using hp) = c := hc.symm
 have hc? : t[p]? = some c := by rw [hc]; exact List.getElem?_eq_getElem hp
 by_cases hs : c = 45
 · have HP : Hid (R = digP t (-1) (p + 1)) := Lib.hid (by rw [HR.out]; unfold numP; rw [hc?, hs, if_pos rfl])
   have s1 : ((c.toNat : Int) == 45) = true := by rw [hs]; rfl
   clear hc hc? hs HR
   go_enter Tryz.func101, Tryz.ntmps101
   go_wp2_with fail
   go_quiet (fail)
   obtain ⟨P1, hP1⟩ : ∃ P1, P1 = p + 1 := ⟨_, rfl⟩
   have hp1 : P1 ≤ t.length := by omega
   have HD1 := Lib.hid ((HD.out.drewN nq).setAt P1 ((p : Int) + 1) (by omega))
   rw [← hP1] at HP
   have e1 : (p : Int) + 1 = (P1 : Int) := by omega
   rw [e1] at HD1
   clear hP1
   go_wp2_with fail
   generalize (w.drewN nq).setCell ⟨b, 1, none⟩ (.int .i64 (P1 : Int)) = W1 at *
   have HD := HD1
   clear HD1 c0 c1 f1 n2 n3 hgc
   have c0 := HD.out.1.c0
   have c1 := HD.out.1.c1
   by_cases hpe : P1 = t.length
   · have m1 : ((P1 : Int) == (t.length : Int)) = true := by rw [hpe]; exact beq_self_eq_true _
     have HE : Hid (R = .err 2) := Lib.hid (by rw [HP.out]; exact digP_short hpe)
     clear HP hpe
     go_quiet (fail)
     go_wp2_with fail
     go_ret2
     rw [HE.out]
     exact ⟨rfl, by decide, _, _, HD.out.drewN _⟩
   have m1 : ((P1 : Int) == (t.length : Int)) = false := by rw [beq_eq_false_iff_ne]; omega
   have m2 : (P1 : Int) < (t.length : Int) := by omega
   have m3 : (0 : Int) ≤ (P1 : Int) := by omega
   obtain ⟨g, hg⟩ : ∃ g, g = t[P1] := ⟨_, rfl⟩
   have hgg : (ByteArray.mk t.toArray)[P1]'(by simp [ByteArray.size]; omega) = g := hg.symm
   have HG : Hid (t[P1]? = some g) := Lib.hid (by rw [hg]; exact List.getElem?_eq_getElem (by omega))
   obtain ⟨D, hD⟩ : ∃ D, D = dgs (t.drop P1) := ⟨_, rfl⟩
   have HDl : Hid (∀ k (h : k < D.length), t[P1 + k]? = some D[k] ∧ dgJ D[k] = true) := Lib.hid (fun k h => by
    subst hD
    have := dgs_at (t.drop P1) k h
    rw [List.getElem?_drop] at this
    exact this)
   have HDe : Hid (∀ x, t[P1 + D.length]? = some x → dgJ x = false) := Lib.hid (fun x h => by
    subst hD
    exact dgs_end (t.drop P1) x (by rw [List.getElem?_drop]; exact h))
   have hDl : P1 + D.length ≤ t.length := by
    have := dgs_le (t.drop P1)
    rw [← hD, List.length_drop] at this; omega
   have HF1 : Hid (D.length = 0 ∨ (t[P1]? = some 48 ∧ 1 < D.length) → R = .err 4) := Lib.hid (fun h => by rw [HP.out]; exact digP_form hpe (by rw [← hD]; exact h))
   have HF2 : Hid (¬ (D.length = 0 ∨ (t[P1]? = some 48 ∧ 1 < D.length)) → (∃ c, t[P1 + D.length]? = some c ∧ (c = 46 ∨ c = 101 ∨ c = 69)) → R = .err 4) := Lib.hid (fun h h2 => by rw [HP.out]; exact digP_point hpe (by rw [← hD]; exact h) (by rw [← hD]; exact h2))
   have HF3 : Hid (¬ (D.length = 0 ∨ (t[P1]? = some 48 ∧ 1 < D.length)) → (¬ ∃ c, t[P1 + D.length]? = some c ∧ (c = 46 ∨ c = 101 ∨ c = 69)) → 9007199254740991 < capF D 0 → R = .err 1) := Lib.hid (fun h h2 h3 => by rw [HP.out]; exact digP_range hpe (by rw [← hD]; exact h) (by rw [← hD]; exact h2) (by rw [← hD]; exact h3))
   have HF4 : Hid (¬ (D.length = 0 ∨ (t[P1]? = some 48 ∧ 1 < D.length)) → (¬ ∃ c, t[P1 + D.length]? = some c ∧ (c = 46 ∨ c = 101 ∨ c = 69)) → ¬ 9007199254740991 < capF D 0 → R = .ok ((-1) * (capF D 0 : Int)) (P1 + D.length)) := Lib.hid (fun h h2 h3 => by rw [HP.out, hD]; exact digP_ok hpe (by rw [← hD]; exact h) (by rw [← hD]; exact h2) (by rw [← hD]; exact h3))
   clear hg hD HP hpe
   go_quiet (fail)
   go_wp2_with fail
   go_loopg [6] D.length (fun gk v wr => ∃ (k q n : Nat), k + gk = D.length ∧ v = .int .i64 (n : Int) ∧ Hid (n = capF (D.take k) 0) ∧ Hid (q = P1 + k) ∧ q ≤ t.length ∧ n ≤ 90071992547409919 ∧ Hid (JSt w b t q o wr))
   case atStart => exact ⟨0, P1, 0, by omega, rfl, Lib.hid rfl, Lib.hid rfl, hp1, by omega, Lib.hid (HD.out.drewN _)⟩
   case round =>
    obtain ⟨k, q, n, hk, rfl, HN, HQ, hq, hn, HD⟩ := hrel
    have c0 := HD.out.1.c0
    have c1 := HD.out.1.c1
    have f1 := HD.out.1.fr 1
    by_cases hlt : k < D.length
    · obtain ⟨e1, e2⟩ := HDl.out k hlt
      rw [← HQ.out] at e1
      have hql : q < t.length := (List.getElem?_eq_some_iff.1 e1).1
      obtain ⟨x, hx⟩ : ∃ x, x = D[k] := ⟨_, rfl⟩
      rw [← hx] at e1 e2
      have hgx : (ByteArray.mk t.toArray)[q]'(by simpa [ByteArray.size] using hql) = x := (List.getElem?_eq_some_iff.1 e1).2
      obtain ⟨a1, a2⟩ := (dgJ_iff x).1 e2
      have a3 : (48 : Int) ≤ (x.toNat : Int) := by omega
      have a4 : (x.toNat : Int) ≤ 57 := by omega
      have n1 : (q : Int) < (t.length : Int) := by omega
      have n3 : (0 : Int) ≤ (q : Int) := by omega
      have CD : Hid (∀ W, Calls Tryz.prog 100 #[.int .u8 (x.toNat : Int)] W fun e w' => e = .returned (.bool true) ∧ w' = W) := Lib.hid (fun W => by have := jdigit_any x W; rw [e2] at this; exact this)
      have hsn : capF (D.take (k + 1)) 0 = if n ≤ 9007199254740991 then 10 * n + (x.toNat - 48) else n := by
       rw [List.take_add_one, List.getElem?_eq_getElem hlt, ← hx]
       show capF (D.take k ++ [x]) 0 = _
       rw [capF_snoc, ← HN.out]
      have HK := Lib.hid hk
      clear hx e1 e2 hk
      by_cases hbig : n ≤ 9007199254740991
      · rw [if_pos hbig] at hsn
        have g1 : decide ((n : Int) ≤ 9007199254740991) = true := decide_eq_true (by omega)
        obtain ⟨n', hn'⟩ : ∃ n', n' = 10 * n + (x.toNat - 48) := ⟨_, rfl⟩
        have hn'l : n' ≤ 90071992547409919 := by omega
        have u1 : (10 : Int) * (n : Int) + ((x.toNat : Int) - 48) = (n' : Int) := by omega
        have HS2 : Hid (n' = capF (D.take (k + 1)) 0) := Lib.hid (by rw [hsn, hn'])
        clear hn' hsn
        go_wp2_with fail
        go_quiet ((go_at_call 100; exact Calls.quiet_of_same (CD.out _)))
        go_wp2_with fail
        go_quiet (fail)
        go_wp2_with fail
        go_roundg (gk - 1)
        case measure => have := HK.out; omega
        case rel => exact ⟨k + 1, q + 1, n', by have := HK.out; omega, by first | rfl | exact congrArg (Value.int .i64) u1 | exact congrArg (Value.int .i64) (by omega), HS2, Lib.hid (by have := HQ.out; omega), by omega, hn'l, Lib.hid ((HD.out.drewN _).setAt (q + 1) ((q : Int) + 1) (by omega))⟩
      rw [if_neg hbig] at hsn
      have g1 : decide ((n : Int) ≤ 9007199254740991) = false := decide_eq_false (by omega)
      have HS2 : Hid (n = capF (D.take (k + 1)) 0) := Lib.hid hsn.symm
      clear hsn
      go_wp2_with fail
      go_quiet ((go_at_call 100; exact Calls.quiet_of_same (CD.out _)))
      go_wp2_with fail
      go_roundg (gk - 1)
      case measure => have := HK.out; omega
      case rel => exact ⟨k + 1, q + 1, n, by have := HK.out; omega, rfl, HS2, Lib.hid (by have := HQ.out; omega), by omega, hn, Lib.hid ((HD.out.drewN _).setAt (q + 1) ((q : Int) + 1) (by omega))⟩
    obtain rfl : k = D.length := by omega
    have HN2 : Hid (n = capF D 0) := Lib.hid (by have := HN.out; rwa [List.take_length] at this)
    clear hk HN hlt
    have HA : Hid ((D.length = 0 ∨ (t[P1]? = some 48 ∧ 1 < D.length)) ↔ (q = P1 ∨ (g = 48 ∧ P1 + 1 < q))) := Lib.hid (by
     have h1 := HQ.out
     have h2 := HG.out
     rw [h2]
     simp only [Option.some.injEq]
     constructor
     · rintro (h | ⟨h, h'⟩)
       · exact .inl (by omega)
       exact .inr ⟨h, by omega⟩
     rintro (h | ⟨h, h'⟩)
     · exact .inl (by omega)
     exact .inr ⟨h, by omega⟩)
    by_cases hql : q < t.length
    · have n1 : (q : Int) < (t.length : Int) := by omega
      have n3 : (0 : Int) ≤ (q : Int) := by omega
      obtain ⟨x, hx⟩ : ∃ x, x = t[q] := ⟨_, rfl⟩
      have hgx : (ByteArray.mk t.toArray)[q]'(by simpa [ByteArray.size] using hql) = x := hx.symm
      have hx? : t[P1 + D.length]? = some x := by rw [← HQ.out, hx]; exact List.getElem?_eq_getElem hql
      have CD : Hid (∀ W, Calls Tryz.prog 100 #[.int .u8 (x.toNat : Int)] W fun e w' => e = .returned (.bool false) ∧ w' = W) := Lib.hid (fun W => by have := jdigit_any x W; rw [HDe.out x hx?] at this; exact this)
      obtain ⟨i, CI, hi⟩ := inJ [46, 101, 69] x
      rw [ptE] at hi
      have CI := Lib.hid CI
      have HB : Hid ((∃ c, t[P1 + D.length]? = some c ∧ (c = 46 ∨ c = 101 ∨ c = 69)) ↔ 0 ≤ i) := Lib.hid (by
       rw [hx?, hi]
       constructor
       · rintro ⟨c, hc, h⟩; cases hc; exact h
       intro h; exact ⟨x, rfl, h⟩)
      clear hx hx? hi
      by_cases hA : q = P1 ∨ (g = 48 ∧ P1 + 1 < q)
      · have HE := Lib.hid (HF1.out (HA.out.2 hA))
        rcases hA with hA | ⟨hA, hA2⟩
        · have t1 : ((q : Int) == (P1 : Int)) = true := by rw [hA]; exact beq_self_eq_true _
          have HA1 := Lib.hid hA
          clear hA
          go_wp2_with fail
          go_quiet ((go_at_call 100; exact Calls.quiet_of_same (CD.out _)))
          go_wp2_with fail
          go_ret2
          rw [HE.out]
          exact ⟨rfl, by decide, _, _, by first | exact HD.out.drewN _ | exact (HD.out.drewN _).drewN _⟩
        have t1 : ((q : Int) == (P1 : Int)) = false := by rw [beq_eq_false_iff_ne]; omega
        have t2 : ((g.toNat : Int) == 48) = true := by rw [hA]; rfl
        have t3 : decide ((P1 : Int) + 1 < (q : Int)) = true := decide_eq_true (by omega)
        have HA1 := Lib.hid hA
        clear hA
        go_wp2_with fail
        go_quiet ((go_at_call 100; exact Calls.quiet_of_same (CD.out _)))
        go_wp2_with fail
        go_ret2
        rw [HE.out]
        exact ⟨rfl, by decide, _, _, by first | exact HD.out.drewN _ | exact (HD.out.drewN _).drewN _⟩
      have HnA : Hid (¬ (D.length = 0 ∨ (t[P1]? = some 48 ∧ 1 < D.length))) := Lib.hid (fun h => hA (HA.out.1 h))
      have t1 : ((q : Int) == (P1 : Int)) = false := by rw [beq_eq_false_iff_ne]; intro h; exact hA (.inl (by omega))
      have key : ∃ b2 : Bool, ((g.toNat : Int) == 48) = b2 ∧ (b2 = true → decide ((P1 : Int) + 1 < (q : Int)) = false) := by
       refine ⟨_, rfl, fun h => decide_eq_false (fun h2 => hA (.inr ⟨?_, by omega⟩))⟩
       have := eq_of_beq h
       exact UInt8.toNat_inj.1 (by have h48 : (48 : UInt8).toNat = 48 := rfl; omega)
      obtain ⟨b2, t2, t3⟩ := key
      clear hA HA HF1
      by_cases hpt : 0 ≤ i
      · have d1 : decide (0 ≤ i) = true := decide_eq_true hpt
        have HE := Lib.hid (HF2.out HnA.out (HB.out.2 hpt))
        cases b2
        all_goals
         try replace t3 := t3 rfl
         go_wp2_with fail
         go_quiet ((go_at_call 100; exact Calls.quiet_of_same (CD.out _)))
         go_wp2_with fail
         go_quiet ((go_at_call 96; exact quiet_two (CI.out _)))
         go_wp2_with fail
         go_ret2
         rw [HE.out]
         exact ⟨rfl, by decide, _, _, by first | exact HD.out.drewN _ | exact (HD.out.drewN _).drewN _⟩
      have d1 : decide (0 ≤ i) = false := decide_eq_false hpt
      have HnB : Hid (¬ ∃ c, t[P1 + D.length]? = some c ∧ (c = 46 ∨ c = 101 ∨ c = 69)) := Lib.hid (fun h => hpt (HB.out.1 h))
      by_cases hr : 9007199254740991 < n
      · have d2 : decide ((9007199254740991 : Int) < (n : Int)) = true := decide_eq_true (by omega)
        have HE := Lib.hid (HF3.out HnA.out HnB.out (by rw [← HN2.out]; exact hr))
        cases b2
        all_goals
         try replace t3 := t3 rfl
         go_wp2_with fail
         go_quiet ((go_at_call 100; exact Calls.quiet_of_same (CD.out _)))
         go_wp2_with fail
         go_quiet ((go_at_call 96; exact quiet_two (CI.out _)))
         go_wp2_with fail
         go_ret2
         rw [HE.out]
         exact ⟨rfl, by decide, _, _, by first | exact HD.out.drewN _ | exact (HD.out.drewN _).drewN _⟩
      have d2 : decide ((9007199254740991 : Int) < (n : Int)) = false := decide_eq_false (by omega)
      have HE := Lib.hid (HF4.out HnA.out HnB.out (by rw [← HN2.out]; exact hr))
      cases b2
      all_goals
       try replace t3 := t3 rfl
       go_wp2_with fail
       go_quiet ((go_at_call 100; exact Calls.quiet_of_same (CD.out _)))
       go_wp2_with fail
       go_quiet ((go_at_call 96; exact quiet_two (CI.out _)))
       go_wp2_with fail
       go_ret2
       rw [HE.out, ← HN2.out, ← HQ.out]
       exact ⟨by simp, HD.out.drewN _, by omega, by omega, by omega⟩
    obtain rfl : q = t.length := by omega
    have n1 : decide ((t.length : Int) < (t.length : Int)) = false := decide_eq_false (by omega)
    have n2 : ¬ ((t.length : Int) < (t.length : Int)) := by omega
    have HnB : Hid (¬ ∃ c, t[P1 + D.length]? = some c ∧ (c = 46 ∨ c = 101 ∨ c = 69)) := Lib.hid (by rw [← HQ.out, List.getElem?_eq_none (Nat.le_refl _)]; rintro ⟨c, h, _⟩; cases h)
    by_cases hA : t.length = P1 ∨ (g = 48 ∧ P1 + 1 < t.length)
    · have HE := Lib.hid (HF1.out (HA.out.2 hA))
      rcases hA with hA | ⟨hA, hA2⟩
      · exfalso; omega
      have t1 : ((t.length : Int) == (P1 : Int)) = false := by rw [beq_eq_false_iff_ne]; omega
      have t2 : ((g.toNat : Int) == 48) = true := by rw [hA]; rfl
      have t3 : decide ((P1 : Int) + 1 < (t.length : Int)) = true := decide_eq_true (by omega)
      have HA1 := Lib.hid hA
      clear hA
      go_wp2_with fail
      go_quiet (fail)
      go_wp2_with fail
      go_ret2
      rw [HE.out]
      exact ⟨rfl, by decide, _, _, by first | exact HD.out.drewN _ | exact (HD.out.drewN _).drewN _⟩
    have HnA : Hid (¬ (D.length = 0 ∨ (t[P1]? = some 48 ∧ 1 < D.length))) := Lib.hid (fun h => hA (HA.out.1 h))
    have t1 : ((t.length : Int) == (P1 : Int)) = false := by rw [beq_eq_false_iff_ne]; intro h; exact hA (.inl (by omega))
    have key : ∃ b2 : Bool, ((g.toNat : Int) == 48) = b2 ∧ (b2 = true → decide ((P1 : Int) + 1 < (t.length : Int)) = false) := by
     refine ⟨_, rfl, fun h => decide_eq_false (fun h2 => hA (.inr ⟨?_, by omega⟩))⟩
     have := eq_of_beq h
     exact UInt8.toNat_inj.1 (by have h48 : (48 : UInt8).toNat = 48 := rfl; omega)
    obtain ⟨b2, t2, t3⟩ := key
    clear hA HA HF1
    by_cases hr : 9007199254740991 < n
    · have d2 : decide ((9007199254740991 : Int) < (n : Int)) = true := decide_eq_true (by omega)
      have HE := Lib.hid (HF3.out HnA.out HnB.out (by rw [← HN2.out]; exact hr))
      cases b2
      all_goals
       try replace t3 := t3 rfl
       go_wp2_with fail
       go_quiet (fail)
       go_wp2_with fail
       go_quiet (fail)
       go_wp2_with fail
       go_ret2
       rw [HE.out]
       exact ⟨rfl, by decide, _, _, by first | exact HD.out.drewN _ | exact (HD.out.drewN _).drewN _⟩
    have d2 : decide ((9007199254740991 : Int) < (n : Int)) = false := decide_eq_false (by omega)
    have HE := Lib.hid (HF4.out HnA.out HnB.out (by rw [← HN2.out]; exact hr))
    cases b2
    all_goals
     try replace t3 := t3 rfl
     go_wp2_with fail
     go_quiet (fail)
     go_wp2_with fail
     go_quiet (fail)
     go_wp2_with fail
     go_ret2
     rw [HE.out, ← HN2.out, ← HQ.out]
     exact ⟨by simp, HD.out.drewN _, by omega, by omega, by omega⟩
 have HP : Hid (R = digP t 1 p) := Lib.hid (by rw [HR.out]; unfold numP; rw [hc?, if_neg (by simpa using hs)])
 have s1 : ((c.toNat : Int) == 45) = false := by rw [beq_eq_false_iff_ne]; intro h; exact hs (UInt8.toNat_inj.1 (by have : (45 : UInt8).toNat = 45 := rfl; omega))
 clear hc hc? hs HR
 go_enter Tryz.func101, Tryz.ntmps101
 go_wp2_with fail
 go_quiet (fail)
 go_wp2_with fail
 obtain ⟨P1, hP1⟩ : ∃ P1, P1 = p := ⟨_, rfl⟩
 have hp1 : P1 ≤ t.length := by omega
 have HD1 := Lib.hid (HD.out.drewN nq)
 subst hP1
 generalize w.drewN nq = W1 at *
 have HD := HD1
 clear HD1 c0 c1 f1 n2 n3 hgc hp
 have c0 := HD.out.1.c0
 have c1 := HD.out.1.c1
 by_cases hpe : P1 = t.length
 · have m1 : ((P1 : Int) == (t.length : Int)) = true := by rw [hpe]; exact beq_self_eq_true _
   have HE : Hid (R = .err 2) := Lib.hid (by rw [HP.out]; exact digP_short hpe)
   clear HP hpe
   go_quiet (fail)
   go_wp2_with fail
   go_ret2
   rw [HE.out]
   exact ⟨rfl, by decide, _, _, HD.out.drewN _⟩
 have m1 : ((P1 : Int) == (t.length : Int)) = false := by rw [beq_eq_false_iff_ne]; omega
 have m2 : (P1 : Int) < (t.length : Int) := by omega
 have m3 : (0 : Int) ≤ (P1 : Int) := by omega
 obtain ⟨g, hg⟩ : ∃ g, g = t[P1] := ⟨_, rfl⟩
 have hgg : (ByteArray.mk t.toArray)[P1]'(by simp [ByteArray.size]; omega) = g := hg.symm
 have HG : Hid (t[P1]? = some g) := Lib.hid (by rw [hg]; exact List.getElem?_eq_getElem (by omega))
 obtain ⟨D, hD⟩ : ∃ D, D = dgs (t.drop P1) := ⟨_, rfl⟩
 have HDl : Hid (∀ k (h : k < D.length), t[P1 + k]? = some D[k] ∧ dgJ D[k] = true) := Lib.hid (fun k h => by
  subst hD
  have := dgs_at (t.drop P1) k h
  rw [List.getElem?_drop] at this
  exact this)
 have HDe : Hid (∀ x, t[P1 + D.length]? = some x → dgJ x = false) := Lib.hid (fun x h => by
  subst hD
  exact dgs_end (t.drop P1) x (by rw [List.getElem?_drop]; exact h))
 have hDl : P1 + D.length ≤ t.length := by
  have := dgs_le (t.drop P1)
  rw [← hD, List.length_drop] at this; omega
 have HF1 : Hid (D.length = 0 ∨ (t[P1]? = some 48 ∧ 1 < D.length) → R = .err 4) := Lib.hid (fun h => by rw [HP.out]; exact digP_form hpe (by rw [← hD]; exact h))
 have HF2 : Hid (¬ (D.length = 0 ∨ (t[P1]? = some 48 ∧ 1 < D.length)) → (∃ c, t[P1 + D.length]? = some c ∧ (c = 46 ∨ c = 101 ∨ c = 69)) → R = .err 4) := Lib.hid (fun h h2 => by rw [HP.out]; exact digP_point hpe (by rw [← hD]; exact h) (by rw [← hD]; exact h2))
 have HF3 : Hid (¬ (D.length = 0 ∨ (t[P1]? = some 48 ∧ 1 < D.length)) → (¬ ∃ c, t[P1 + D.length]? = some c ∧ (c = 46 ∨ c = 101 ∨ c = 69)) → 9007199254740991 < capF D 0 → R = .err 1) := Lib.hid (fun h h2 h3 => by rw [HP.out]; exact digP_range hpe (by rw [← hD]; exact h) (by rw [← hD]; exact h2) (by rw [← hD]; exact h3))
 have HF4 : Hid (¬ (D.length = 0 ∨ (t[P1]? = some 48 ∧ 1 < D.length)) → (¬ ∃ c, t[P1 + D.length]? = some c ∧ (c = 46 ∨ c = 101 ∨ c = 69)) → ¬ 9007199254740991 < capF D 0 → R = .ok (1 * (capF D 0 : Int)) (P1 + D.length)) := Lib.hid (fun h h2 h3 => by rw [HP.out, hD]; exact digP_ok hpe (by rw [← hD]; exact h) (by rw [← hD]; exact h2) (by rw [← hD]; exact h3))
 clear hg hD HP hpe
 go_quiet (fail)
 go_wp2_with fail
 go_loopg [6] D.length (fun gk v wr => ∃ (k q n : Nat), k + gk = D.length ∧ v = .int .i64 (n : Int) ∧ Hid (n = capF (D.take k) 0) ∧ Hid (q = P1 + k) ∧ q ≤ t.length ∧ n ≤ 90071992547409919 ∧ Hid (JSt w b t q o wr))
 case atStart => exact ⟨0, P1, 0, by omega, rfl, Lib.hid rfl, Lib.hid rfl, hp1, by omega, Lib.hid (HD.out.drewN _)⟩
 case round =>
  obtain ⟨k, q, n, hk, rfl, HN, HQ, hq, hn, HD⟩ := hrel
  have c0 := HD.out.1.c0
  have c1 := HD.out.1.c1
  have f1 := HD.out.1.fr 1
  by_cases hlt : k < D.length
  · obtain ⟨e1, e2⟩ := HDl.out k hlt
    rw [← HQ.out] at e1
    have hql : q < t.length := (List.getElem?_eq_some_iff.1 e1).1
    obtain ⟨x, hx⟩ : ∃ x, x = D[k] := ⟨_, rfl⟩
    rw [← hx] at e1 e2
    have hgx : (ByteArray.mk t.toArray)[q]'(by simpa [ByteArray.size] using hql) = x := (List.getElem?_eq_some_iff.1 e1).2
    obtain ⟨a1, a2⟩ := (dgJ_iff x).1 e2
    have a3 : (48 : Int) ≤ (x.toNat : Int) := by omega
    have a4 : (x.toNat : Int) ≤ 57 := by omega
    have n1 : (q : Int) < (t.length : Int) := by omega
    have n3 : (0 : Int) ≤ (q : Int) := by omega
    have CD : Hid (∀ W, Calls Tryz.prog 100 #[.int .u8 (x.toNat : Int)] W fun e w' => e = .returned (.bool true) ∧ w' = W) := Lib.hid (fun W => by have := jdigit_any x W; rw [e2] at this; exact this)
    have hsn : capF (D.take (k + 1)) 0 = if n ≤ 9007199254740991 then 10 * n + (x.toNat - 48) else n := by
     rw [List.take_add_one, List.getElem?_eq_getElem hlt, ← hx]
     show capF (D.take k ++ [x]) 0 = _
     rw [capF_snoc, ← HN.out]
    have HK := Lib.hid hk
    clear hx e1 e2 hk
    by_cases hbig : n ≤ 9007199254740991
    · rw [if_pos hbig] at hsn
      have g1 : decide ((n : Int) ≤ 9007199254740991) = true := decide_eq_true (by omega)
      obtain ⟨n', hn'⟩ : ∃ n', n' = 10 * n + (x.toNat - 48) := ⟨_, rfl⟩
      have hn'l : n' ≤ 90071992547409919 := by omega
      have u1 : (10 : Int) * (n : Int) + ((x.toNat : Int) - 48) = (n' : Int) := by omega
      have HS2 : Hid (n' = capF (D.take (k + 1)) 0) := Lib.hid (by rw [hsn, hn'])
      clear hn' hsn
      go_wp2_with fail
      go_quiet ((go_at_call 100; exact Calls.quiet_of_same (CD.out _)))
      go_wp2_with fail
      go_quiet (fail)
      go_wp2_with fail
      go_roundg (gk - 1)
      case measure => have := HK.out; omega
      case rel => exact ⟨k + 1, q + 1, n', by have := HK.out; omega, by first | rfl | exact congrArg (Value.int .i64) u1 | exact congrArg (Value.int .i64) (by omega), HS2, Lib.hid (by have := HQ.out; omega), by omega, hn'l, Lib.hid ((HD.out.drewN _).setAt (q + 1) ((q : Int) + 1) (by omega))⟩
    rw [if_neg hbig] at hsn
    have g1 : decide ((n : Int) ≤ 9007199254740991) = false := decide_eq_false (by omega)
    have HS2 : Hid (n = capF (D.take (k + 1)) 0) := Lib.hid hsn.symm
    clear hsn
    go_wp2_with fail
    go_quiet ((go_at_call 100; exact Calls.quiet_of_same (CD.out _)))
    go_wp2_with fail
    go_roundg (gk - 1)
    case measure => have := HK.out; omega
    case rel => exact ⟨k + 1, q + 1, n, by have := HK.out; omega, rfl, HS2, Lib.hid (by have := HQ.out; omega), by omega, hn, Lib.hid ((HD.out.drewN _).setAt (q + 1) ((q : Int) + 1) (by omega))⟩
  obtain rfl : k = D.length := by omega
  have HN2 : Hid (n = capF D 0) := Lib.hid (by have := HN.out; rwa [List.take_length] at this)
  clear hk HN hlt
  have HA : Hid ((D.length = 0 ∨ (t[P1]? = some 48 ∧ 1 < D.length)) ↔ (q = P1 ∨ (g = 48 ∧ P1 + 1 < q))) := Lib.hid (by
   have h1 := HQ.out
   have h2 := HG.out
   rw [h2]
   simp only [Option.some.injEq]
   constructor
   · rintro (h | ⟨h, h'⟩)
     · exact .inl (by omega)
     exact .inr ⟨h, by omega⟩
   rintro (h | ⟨h, h'⟩)
   · exact .inl (by omega)
   exact .inr ⟨h, by omega⟩)
  by_cases hql : q < t.length
  · have n1 : (q : Int) < (t.length : Int) := by omega
    have n3 : (0 : Int) ≤ (q : Int) := by omega
    obtain ⟨x, hx⟩ : ∃ x, x = t[q] := ⟨_, rfl⟩
    have hgx : (ByteArray.mk t.toArray)[q]'(by simpa [ByteArray.size] using hql) = x := hx.symm
    have hx? : t[P1 + D.length]? = some x := by rw [← HQ.out, hx]; exact List.getElem?_eq_getElem hql
    have CD : Hid (∀ W, Calls Tryz.prog 100 #[.int .u8 (x.toNat : Int)] W fun e w' => e = .returned (.bool false) ∧ w' = W) := Lib.hid (fun W => by have := jdigit_any x W; rw [HDe.out x hx?] at this; exact this)
    obtain ⟨i, CI, hi⟩ := inJ [46, 101, 69] x
    rw [ptE] at hi
    have CI := Lib.hid CI
    have HB : Hid ((∃ c, t[P1 + D.length]? = some c ∧ (c = 46 ∨ c = 101 ∨ c = 69)) ↔ 0 ≤ i) := Lib.hid (by
     rw [hx?, hi]
     constructor
     · rintro ⟨c, hc, h⟩; cases hc; exact h
     intro h; exact ⟨x, rfl, h⟩)
    clear hx hx? hi
    by_cases hA : q = P1 ∨ (g = 48 ∧ P1 + 1 < q)
    · have HE := Lib.hid (HF1.out (HA.out.2 hA))
      rcases hA with hA | ⟨hA, hA2⟩
      · have t1 : ((q : Int) == (P1 : Int)) = true := by rw [hA]; exact beq_self_eq_true _
        have HA1 := Lib.hid hA
        clear hA
        go_wp2_with fail
        go_quiet ((go_at_call 100; exact Calls.quiet_of_same (CD.out _)))
        go_wp2_with fail
        go_ret2
        rw [HE.out]
        exact ⟨rfl, by decide, _, _, by first | exact HD.out.drewN _ | exact (HD.out.drewN _).drewN _⟩
      have t1 : ((q : Int) == (P1 : Int)) = false := by rw [beq_eq_false_iff_ne]; omega
      have t2 : ((g.toNat : Int) == 48) = true := by rw [hA]; rfl
      have t3 : decide ((P1 : Int) + 1 < (q : Int)) = true := decide_eq_true (by omega)
      have HA1 := Lib.hid hA
      clear hA
      go_wp2_with fail
      go_quiet ((go_at_call 100; exact Calls.quiet_of_same (CD.out _)))
      go_wp2_with fail
      go_ret2
      rw [HE.out]
      exact ⟨rfl, by decide, _, _, by first | exact HD.out.drewN _ | exact (HD.out.drewN _).drewN _⟩
    have HnA : Hid (¬ (D.length = 0 ∨ (t[P1]? = some 48 ∧ 1 < D.length))) := Lib.hid (fun h => hA (HA.out.1 h))
    have t1 : ((q : Int) == (P1 : Int)) = false := by rw [beq_eq_false_iff_ne]; intro h; exact hA (.inl (by omega))
    have key : ∃ b2 : Bool, ((g.toNat : Int) == 48) = b2 ∧ (b2 = true → decide ((P1 : Int) + 1 < (q : Int)) = false) := by
     refine ⟨_, rfl, fun h => decide_eq_false (fun h2 => hA (.inr ⟨?_, by omega⟩))⟩
     have := eq_of_beq h
     exact UInt8.toNat_inj.1 (by have h48 : (48 : UInt8).toNat = 48 := rfl; omega)
    obtain ⟨b2, t2, t3⟩ := key
    clear hA HA HF1
    by_cases hpt : 0 ≤ i
    · have d1 : decide (0 ≤ i) = true := decide_eq_true hpt
      have HE := Lib.hid (HF2.out HnA.out (HB.out.2 hpt))
      cases b2
      all_goals
       try replace t3 := t3 rfl
       go_wp2_with fail
       go_quiet ((go_at_call 100; exact Calls.quiet_of_same (CD.out _)))
       go_wp2_with fail
       go_quiet ((go_at_call 96; exact quiet_two (CI.out _)))
       go_wp2_with fail
       go_ret2
       rw [HE.out]
       exact ⟨rfl, by decide, _, _, by first | exact HD.out.drewN _ | exact (HD.out.drewN _).drewN _⟩
    have d1 : decide (0 ≤ i) = false := decide_eq_false hpt
    have HnB : Hid (¬ ∃ c, t[P1 + D.length]? = some c ∧ (c = 46 ∨ c = 101 ∨ c = 69)) := Lib.hid (fun h => hpt (HB.out.1 h))
    by_cases hr : 9007199254740991 < n
    · have d2 : decide ((9007199254740991 : Int) < (n : Int)) = true := decide_eq_true (by omega)
      have HE := Lib.hid (HF3.out HnA.out HnB.out (by rw [← HN2.out]; exact hr))
      cases b2
      all_goals
       try replace t3 := t3 rfl
       go_wp2_with fail
       go_quiet ((go_at_call 100; exact Calls.quiet_of_same (CD.out _)))
       go_wp2_with fail
       go_quiet ((go_at_call 96; exact quiet_two (CI.out _)))
       go_wp2_with fail
       go_ret2
       rw [HE.out]
       exact ⟨rfl, by decide, _, _, by first | exact HD.out.drewN _ | exact (HD.out.drewN _).drewN _⟩
    have d2 : decide ((9007199254740991 : Int) < (n : Int)) = false := decide_eq_false (by omega)
    have HE := Lib.hid (HF4.out HnA.out HnB.out (by rw [← HN2.out]; exact hr))
    cases b2
    all_goals
     try replace t3 := t3 rfl
     go_wp2_with fail
     go_quiet ((go_at_call 100; exact Calls.quiet_of_same (CD.out _)))
     go_wp2_with fail
     go_quiet ((go_at_call 96; exact quiet_two (CI.out _)))
     go_wp2_with fail
     go_ret2
     rw [HE.out, ← HN2.out, ← HQ.out]
     exact ⟨by simp, HD.out.drewN _, by omega, by omega, by omega⟩
  obtain rfl : q = t.length := by omega
  have n1 : decide ((t.length : Int) < (t.length : Int)) = false := decide_eq_false (by omega)
  have n2 : ¬ ((t.length : Int) < (t.length : Int)) := by omega
  have HnB : Hid (¬ ∃ c, t[P1 + D.length]? = some c ∧ (c = 46 ∨ c = 101 ∨ c = 69)) := Lib.hid (by rw [← HQ.out, List.getElem?_eq_none (Nat.le_refl _)]; rintro ⟨c, h, _⟩; cases h)
  by_cases hA : t.length = P1 ∨ (g = 48 ∧ P1 + 1 < t.length)
  · have HE := Lib.hid (HF1.out (HA.out.2 hA))
    rcases hA with hA | ⟨hA, hA2⟩
    · exfalso; omega
    have t1 : ((t.length : Int) == (P1 : Int)) = false := by rw [beq_eq_false_iff_ne]; omega
    have t2 : ((g.toNat : Int) == 48) = true := by rw [hA]; rfl
    have t3 : decide ((P1 : Int) + 1 < (t.length : Int)) = true := decide_eq_true (by omega)
    have HA1 := Lib.hid hA
    clear hA
    go_wp2_with fail
    go_quiet (fail)
    go_wp2_with fail
    go_ret2
    rw [HE.out]
    exact ⟨rfl, by decide, _, _, by first | exact HD.out.drewN _ | exact (HD.out.drewN _).drewN _⟩
  have HnA : Hid (¬ (D.length = 0 ∨ (t[P1]? = some 48 ∧ 1 < D.length))) := Lib.hid (fun h => hA (HA.out.1 h))
  have t1 : ((t.length : Int) == (P1 : Int)) = false := by rw [beq_eq_false_iff_ne]; intro h; exact hA (.inl (by omega))
  have key : ∃ b2 : Bool, ((g.toNat : Int) == 48) = b2 ∧ (b2 = true → decide ((P1 : Int) + 1 < (t.length : Int)) = false) := by
   refine ⟨_, rfl, fun h => decide_eq_false (fun h2 => hA (.inr ⟨?_, by omega⟩))⟩
   have := eq_of_beq h
   exact UInt8.toNat_inj.1 (by have h48 : (48 : UInt8).toNat = 48 := rfl; omega)
  obtain ⟨b2, t2, t3⟩ := key
  clear hA HA HF1
  by_cases hr : 9007199254740991 < n
  · have d2 : decide ((9007199254740991 : Int) < (n : Int)) = true := decide_eq_true (by omega)
    have HE := Lib.hid (HF3.out HnA.out HnB.out (by rw [← HN2.out]; exact hr))
    cases b2
    all_goals
     try replace t3 := t3 rfl
     go_wp2_with fail
     go_quiet (fail)
     go_wp2_with fail
     go_quiet (fail)
     go_wp2_with fail
     go_ret2
     rw [HE.out]
     exact ⟨rfl, by decide, _, _, by first | exact HD.out.drewN _ | exact (HD.out.drewN _).drewN _⟩
  have d2 : decide ((9007199254740991 : Int) < (n : Int)) = false := decide_eq_false (by omega)
  have HE := Lib.hid (HF4.out HnA.out HnB.out (by rw [← HN2.out]; exact hr))
  cases b2
  all_goals
   try replace t3 := t3 rfl
   go_wp2_with fail
   go_quiet (fail)
   go_wp2_with fail
   go_quiet (fail)
   go_wp2_with fail
   go_ret2
   rw [HE.out, ← HN2.out, ← HQ.out]
   exact ⟨by simp, HD.out.drewN _, by omega, by omega, by omega⟩
theorem infoJ : (Tryz.prog.info? 72).map (fun i => (i.zero, i.size, i.bytes)) = some (some (.agg #[.int .i64 0, .int .i64 0, str [], .slice none 0 0, .slice none 0 0]), 5, 80) := by kernel_rfl
def ValJ (t : List UInt8) (w : World) (b o : Nat) (r : JR JV) (e : Ending) (w' : World) : Prop :=
 match r with
 | .err c => ∃ v cs, e = .returned (.tuple #[.agg cs.toArray, .int .i64 (c : Int)]) ∧ c ≠ 0 ∧ RdJ w' (fun i => w.heap.size ≤ i) v cs ∧ ∃ q o', JSt w b t q o' w'
 | .ok v q => ∃ cs, e = .returned (.tuple #[.agg cs.toArray, .int .i64 0]) ∧ RdJ w' (fun i => w.heap.size ≤ i) v cs ∧ JSt w b t q o w' ∧ q ≤ t.length
theorem JSt.grow {w W W' : World} {b p o : Nat} {t : List UInt8} {G : Nat → Prop} (h : JSt w b t p o W) (hf : Frm G W W') (hG : ∀ i, G i → i ≠ b ∧ w.heap.size ≤ i) : JSt w b t p o W' :=
 ⟨h.1.frm hf (fun g => (hG b g).1 rfl), h.2.trans hf (fun i hi g => by have := (hG i g).2; omega)⟩
def LstP (s : Nat) (acc : List JV) (vl : Value) (rows : List (List Value)) (W : World) : Prop :=
 W.heap[s]? = some (.cells #[.int .i64 0, .int .i64 0, str [], .slice none 0 0, .slice none 0 0] 72 (0, 0)) ∧
 W.heap[s + 1]? = some (.cells #[.int .i64 6, .int .i64 0, str [], vl, .slice none 0 0] 72 (0, 0)) ∧ W.ownsRow (s + 2) 72 5 vl acc.length rows.flatten ∧ RdL W (fun i => s + 1 < i ∧ i < W.heap.size ∧ vl.ownBlock ≠ some i) acc rows
def LstS (s : Nat) (acc : List JV) (W : World) : Prop := ∃ vl rows, LstP s acc vl rows W
theorem LstP.frm {s : Nat} {acc : List JV} {vl : Value} {rows : List (List Value)} {W W' : World} {G : Nat → Prop} (h : LstP s acc vl rows W) (hf : Frm G W W') (hG : ∀ i, s ≤ i → i < W.heap.size → ¬ G i) : LstP s acc vl rows W' := by
 obtain ⟨h1, h2, h3, h4⟩ := h
 have l1 := (Array.getElem?_eq_some_iff.1 h1).1
 have l2 := (Array.getElem?_eq_some_iff.1 h2).1
 refine ⟨box_frm h1 hf (hG _ (Nat.le_refl _) l1), box_frm h2 hf (hG _ (by omega) l2), owns_frm h3 hf (fun k hk => by have := h3.lt k hk; exact hG k (by omega) this.2), ?_⟩
 have := h4.frm hf (fun i hi => hG i (by omega) hi.2.1)
 exact this.mono (fun i hi hF => ⟨hF.1, hi, hF.2.2⟩)
theorem LstS.frm {s : Nat} {acc : List JV} {W W' : World} {G : Nat → Prop} (h : LstS s acc W) (hf : Frm G W W') (hG : ∀ i, s ≤ i → i < W.heap.size → ¬ G i) : LstS s acc W' := by
 obtain ⟨vl, rows, h⟩ := h
 exact ⟨vl, rows, h.frm hf hG⟩
theorem LstP.sz {s : Nat} {acc : List JV} {vl : Value} {rows : List (List Value)} {W : World} (h : LstP s acc vl rows W) : s + 2 ≤ W.heap.size ∧ ∀ k, vl.ownBlock = some k → k < W.heap.size :=
 ⟨(Array.getElem?_eq_some_iff.1 h.2.1).1, fun k hk => (h.2.2.1.lt k hk).2⟩
theorem LstP.add {s : Nat} {acc : List JV} {vl : Value} {rows : List (List Value)} {W w4 : World} {g cap B0 : Nat} {v : JV} {cs : List Value} {ob : Obj} (h : LstP s acc vl rows W) (hB : s + 2 ≤ B0) (hvb : ∀ k, vl.ownBlock = some k → k < B0) (hv : RdJ W (fun i => B0 ≤ i) v cs)
 (ho : w4.ownsRow (s + 2) 72 5 (.slice (some ⟨g, 0, none⟩) (acc.length + 1) cap) (acc.length + 1) (rows.flatten ++ cs)) (hg : (W.alloc ob).grownBy w4 vl.ownBlock) (hl : vl.ownBlock = some g ∨ g = W.heap.size + 1) :
 LstP s (acc ++ [v]) (.slice (some ⟨g, 0, none⟩) (acc.length + 1) cap) (rows ++ [cs]) (w4.setCell ⟨s + 1, 3, none⟩ (.slice (some ⟨g, 0, none⟩) (acc.length + 1) cap)) ∧ Frm (fun i => s ≤ i) W (w4.setCell ⟨s + 1, 3, none⟩ (.slice (some ⟨g, 0, none⟩) (acc.length + 1) cap)) := by
 have hsz := h.sz
 obtain ⟨h1, h2, h3, h4⟩ := h
 have hgb : ∀ k, vl.ownBlock = some k → s + 2 ≤ k := fun k hk => (h3.lt k hk).1
 have f1 : Frm (fun i => vl.ownBlock = some i) W w4 := (Frm.of_below (below_alloc W ob)).trans (Frm.of_grown hg (fun k hk => hk)) (fun _ _ h => h)
 have f2 : Frm (fun i => i = s + 1 ∨ vl.ownBlock = some i) W (w4.setCell ⟨s + 1, 3, none⟩ (.slice (some ⟨g, 0, none⟩) (acc.length + 1) cap)) :=
  (f1.mono (fun _ _ h => .inr h)).trans (Frm.set (F := fun i => i = s + 1) _ rfl) (fun _ _ h => .inl h)
 have hgs : s + 2 ≤ g := by
  rcases hl with h | h
  · exact hgb g h
  omega
 have hbx : w4.heap[s + 1]? = some (.cells #[.int .i64 6, .int .i64 0, str [], vl, .slice none 0 0] 72 (0, 0)) := box_frm h2 f1 (fun e => by have := hgb _ e; omega)
 have g1 : ∀ i, (i = s + 1 ∨ vl.ownBlock = some i) → s + 1 ≤ i := fun i h => by
  rcases h with h | h
  · omega
  have := hgb _ h; omega
 refine ⟨⟨box_frm h1 f2 (fun e => by have := g1 _ e; omega), box_set hbx 3 _, ?_, RdL.snoc ?_ ?_⟩, f2.mono (fun i _ hi => by have := g1 _ hi; omega)⟩
 · rw [List.flatten_append, List.length_append]
   simp only [List.flatten_cons, List.flatten_nil, List.append_nil, List.length_singleton]
   exact owns_frm (F := fun i => i = s + 1) ho (Frm.set _ rfl) (fun k hk e => by simp [Value.ownBlock] at hk; omega)
 · refine RdJ.mono (F := fun i => B0 ≤ i ∧ i < W.heap.size) ?_ (fun i hi hF => ⟨by omega, hi, fun e => ?_⟩)
   · exact (hv.mono (G := fun i => B0 ≤ i ∧ i < W.heap.size) (fun i hi hF => ⟨hF, hi⟩)).frm f2 (fun i hi e => by
      rcases e with e | e
      · omega
      have := hvb i e; omega)
   simp only [Value.ownBlock, Option.some.injEq] at e
   subst e
   rcases hl with h | h
   · have := hvb _ h; omega
   omega
 have := h4.frm f2 (fun i hi e => by
  rcases e with e | e
  · omega
  exact hi.2.2 e)
 refine this.mono (fun i hi hF => ⟨hF.1, hi, fun e => ?_⟩)
 simp only [Value.ownBlock, Option.some.injEq] at e
 subst e
 rcases hl with h | h
 · exact hF.2.2 h
 omega
theorem own_slice {w : World} {base size n : Nat} {e : TypeId} {v : Value} {xs : List Value} (h : w.ownsRow base e size v n xs) : ∃ a c, v = .slice a n c := by
 rcases h.2 with ⟨rfl, rfl⟩ | ⟨g, cap, _, rfl, _⟩
 · exact ⟨none, 0, rfl⟩
 exact ⟨_, cap, rfl⟩
theorem behP_lt {t : List UInt8} {d : UInt8} {p : Nat} {z : Bool} {r : Nat} (h : behP t d p = .ok z r) : p < r := by
 unfold behP at h
 have := skp_ge t p
 split at h
 · cases h
 split at h
 · cases h; omega
 split at h
 · cases h; omega
 cases h
theorem frm3 {wr W1 w2 w3 : World} {b : Nat} (h1 : Below wr.heap.size wr W1) (h2 : Frm (fun i => i = b) W1 w2) (h3 : Frm (fun i => i = wr.heap.size) w2 w3) : Frm (fun i => i = b ∨ i = wr.heap.size) wr w3 :=
 ((Frm.of_below (F := fun i => i = b ∨ i = wr.heap.size) h1).trans h2 (fun _ _ h => .inl h)).trans h3 (fun _ _ h => .inr h)
theorem lstJ {s : Nat} {acc : List JV} {va : Option Addr} {vc : Nat} {rows : List (List Value)} {W W' : World} (h3 : W.ownsRow (s + 2) 72 5 (.slice va acc.length vc) acc.length rows.flatten) (h4 : RdL W (fun i => s + 1 < i ∧ i < W.heap.size ∧ (Value.slice va acc.length vc).ownBlock ≠ some i) acc rows) (hf : Frm (fun i => i = s) W W') :
 RdJ W' (fun i => s ≤ i) (.mk 6 0 [] acc []) [.int .i64 6, .int .i64 0, str [], .slice va acc.length vc, .slice none 0 0] := by
 obtain ⟨r1, r2⟩ := RdL.rows h4
 unfold RdJ
 refine ⟨_, _, rfl, ⟨rows, ?_, ?_⟩, [], RdFB.nil _ _ _, by unfold RdM; trivial⟩
 · have h3' := owns_frm h3 hf (fun k hk e => by have := h3.lt k hk; omega)
   rw [← r1] at h3' ⊢
   exact RdFB.of_row r2 h3' (fun k hk => by have := h3.lt k (by rw [← r1]; exact hk); omega)
 exact (h4.frm hf (fun i hi e => by omega)).mono (fun i _ hi => by omega)
def LRel (t : List UInt8) (w : World) (b o : Nat) (f : Nat → JR JV) (R : JR (List JV)) (n : Nat) (dn : Bool) (c : Nat) (W : World) : Prop :=
 (dn = false ∧ c = 0 ∧ ∃ q acc, q ≤ t.length ∧ t.length - q < n ∧ acc.length + n ≤ t.length + 1 ∧ itsP f t n q acc = R ∧ JSt w b t q (o + 1) W ∧ LstS w.heap.size acc W) ∨
 (dn = true ∧ c = 0 ∧ n = 0 ∧ ∃ q acc, R = .ok acc q ∧ q ≤ t.length ∧ JSt w b t q o W ∧ LstS w.heap.size acc W) ∨
 (c ≠ 0 ∧ n = 0 ∧ R = .err c ∧ ∃ q o' acc, JSt w b t q o' W ∧ LstS w.heap.size acc W)
set_option maxRecDepth 100000 in
set_option maxHeartbeats 4000000 in
theorem list_any (t : List UInt8) (b p o : Nat) (w : World) (f : Nat → JR JV) (CV : ∀ W q, JRb W b t q (o + 1) → q ≤ t.length → Calls Tryz.prog 73 #[.pointer (some ⟨b, 0, none⟩)] W (ValJ t W b (o + 1) (f q)))
 (hf : ∀ q v q1, f q = .ok v q1 → q ≤ q1) (h : JRb w b t p o) (hp : p < t.length) (hl : t.length ≤ 1000000) (ho : o ≤ 1000) :
 Calls Tryz.prog 97 #[.pointer (some ⟨b, 0, none⟩)] w (ValJ t w b o (lstV (lstP f t p))) := by
 have hb := h.lt
 have CV := Lib.hid CV
 obtain ⟨R, hR⟩ : ∃ R, R = lstP f t p := ⟨_, rfl⟩
 rw [← hR]
 obtain ⟨Wa, hWa⟩ : ∃ Wa, Wa = (w.alloc (.cells #[.int .i64 0, .int .i64 0, .string ⟨#[]⟩, .slice none 0 0, .slice none 0 0] 72)).alloc (.cells #[.int .i64 6, .int .i64 0, .string ⟨#[]⟩, .slice none 0 0, .slice none 0 0] 72) := ⟨_, rfl⟩
 have hba : Below w.heap.size w Wa := by rw [hWa]; exact ((Below.refl _ w).alloc (Nat.le_refl _) _).alloc (by simp) _
 have ha : JRb Wa b t p o := h.below hba
 have hLs : LstS w.heap.size [] Wa := by
  refine ⟨.slice none 0 0, [], ?_, ?_, World.ownsRow_nil _ _ _ _, by unfold RdL; trivial⟩
  · rw [hWa]
    exact box_up (heap_alloc_new w _) (below_alloc _ _)
  rw [hWa]
  have := heap_alloc_new (w.alloc (.cells #[.int .i64 0, .int .i64 0, .string ⟨#[]⟩, .slice none 0 0, .slice none 0 0] 72)) (.cells #[.int .i64 6, .int .i64 0, .string ⟨#[]⟩, .slice none 0 0, .slice none 0 0] 72)
  simpa using this
 have CE : Hid (Calls Tryz.prog 122 #[.pointer (some ⟨b, 0, none⟩), .int .u8 93] Wa fun e w1 => ∃ (dn : Bool) (c n : Nat), e = .returned (.tuple #[.bool dn, .int .i64 (c : Int)]) ∧ Hid (LRel t w b o f R n dn c w1)) := Lib.hid ((enter_any t b p o 93 Wa ha hp (by omega) ho).mono (by
  intro e w1 h1
  have gr : ∀ {q o' : Nat}, JSt Wa b t q o' w1 → JSt w b t q o' w1 ∧ LstS w.heap.size [] w1 := fun {q o'} k => ⟨(JSt.below (JSt.refl h) hba).trans ⟨k.1, k.2⟩ |> fun z => z, hLs.frm k.2 (fun i hi _ e => by omega)⟩
  unfold lstP at hR
  cases hx : entP t 93 p with
  | err c =>
   rw [hx] at h1 hR
   obtain ⟨rfl, hc, q, o', hs⟩ := h1
   obtain ⟨g1, g2⟩ := gr hs
   exact ⟨false, c, 0, rfl, Lib.hid (.inr (.inr ⟨hc, rfl, hR, q, o', [], g1, g2⟩))⟩
  | ok dn q =>
   rw [hx] at h1 hR
   cases dn with
   | true =>
    obtain ⟨rfl, hs, hq⟩ := h1
    obtain ⟨g1, g2⟩ := gr hs
    exact ⟨true, 0, 0, rfl, Lib.hid (.inr (.inl ⟨rfl, rfl, rfl, q, [], hR, hq, g1, g2⟩))⟩
   | false =>
    obtain ⟨rfl, hs, hq⟩ := h1
    obtain ⟨g1, g2⟩ := gr hs
    exact ⟨false, 0, t.length + 1, rfl, Lib.hid (.inl ⟨rfl, rfl, q, [], hq, by omega, by simp, hR.symm, g1, g2⟩)⟩))
 clear hR hLs ha hba
 go_enter Tryz.func97, Tryz.ntmps97
 go_wp2_with fail
 rw [← hWa]
 refine CE.out.mono ?_
 rintro e w1 ⟨dn, c, n, rfl, HL⟩
 clear CE hWa
 go_wp2_with fail
 go_loopg [5, 6, 7] n (fun gk v5 v6 v7 wr => ∃ (dn : Bool) (c : Nat), v5 = .bool dn ∧ v6 = .int .i64 (c : Int) ∧ Hid (LRel t w b o f R gk dn c wr))
 case atStart => exact ⟨dn, c, rfl, rfl, HL⟩
 case round =>
  obtain ⟨dn, c, rfl, rfl, HL⟩ := hrel
  rcases HL.out with ⟨rfl, rfl, q, acc, hq, hn, hacc, hR, hs, hls⟩ | ⟨rfl, rfl, hn, q, acc, hR, hq, hs, hls⟩ | ⟨hc, hn, hR, q, o', acc, hs, hls⟩
  · have HQ := Lib.hid (And.intro hq (And.intro hn (And.intro hacc hR)))
    obtain ⟨W1, hW1⟩ : ∃ W1, W1 = wr.alloc (.cells #[.int .i64 0, .int .i64 0, .string ⟨#[]⟩, .slice none 0 0, .slice none 0 0] 72) := ⟨_, rfl⟩
    have hb1 : Below wr.heap.size wr W1 := by rw [hW1]; exact below_alloc _ _
    have hbx : W1.heap[wr.heap.size]? = some (.cells #[.int .i64 0, .int .i64 0, str [], .slice none 0 0, .slice none 0 0] 72 (0, 0)) := by rw [hW1]; exact heap_alloc_new wr _
    obtain ⟨vl, rows, hlp⟩ := hls
    have HS1 := Lib.hid (And.intro (hs.below hb1) (And.intro hlp (And.intro hbx hb1)))
    have HZ : Hid (w.heap.size + 2 ≤ wr.heap.size ∧ W1.heap.size = wr.heap.size + 1 ∧ ∀ k, vl.ownBlock = some k → k < wr.heap.size) := Lib.hid ⟨hlp.sz.1, by rw [hW1]; simp, hlp.sz.2⟩
    have CV1 := Lib.hid (CV.out W1 q HS1.out.1.1 hq)
    clear hq hn hacc hR hs hlp hb1 hbx HL
    go_wp2_with fail
    rw [← hW1]
    clear hW1
    cases hx : f q with
    | err c =>
     rw [hx] at CV1
     refine CV1.out.mono ?_
     rintro e w2 ⟨v, cs, rfl, hc, hv, q', o', hs2⟩
     obtain ⟨al, ll, cl, am, lm, cm, rfl, _, _⟩ := hv.open
     have hbx2 := box_frm HS1.out.2.2.1 hs2.2 (by have := HZ.out.1; omega)
     obtain ⟨hb0, hb1, hb2, hb3, hb4⟩ := box5 hbx2
     have hfz := box_fr hbx2
     have H2 := Lib.hid (And.intro hs2 (And.intro hbx2 hc))
     clear hs2 hbx2 hv hc CV1
     go_upto_region 6 with fail
     refine wp_any_world (fun W => W.heap[wr.heap.size]? = some (.cells #[.int .i64 v.kind, .int .i64 v.n, str v.s, .slice al ll cl, .slice am lm cm] 72 (0, 0)) ∧ Frm (fun i => i = wr.heap.size) w2 W) (five_set H2.out.2.1 _ _ _ _ _) ?_
     clear hb0 hb1 hb2 hb3 hb4 hfz
     rintro w3 ⟨hb3, hf3⟩
     have HX : Hid (LRel t w b o f R 0 false c w3) := Lib.hid (.inr (.inr ⟨H2.out.2.2, rfl, by
      obtain ⟨hq, hn, hacc, hR⟩ := HQ.out
      obtain ⟨m, rfl⟩ : ∃ m, gk = m + 1 := ⟨gk - 1, by omega⟩
      rw [← hR, itsP, hx], q', o', acc, JSt.grow (HS1.out.1.trans H2.out.1) hf3 (fun i e => by have := HZ.out.1; omega), ⟨vl, rows, HS1.out.2.1.frm (frm3 HS1.out.2.2.2 H2.out.1.2 hf3) (fun i h1 h2 e => by rcases e with e | e <;> omega)⟩⟩))
     have hc0 : ((c : Int) == 0) = false := by rw [beq_eq_false_iff_ne]; have := H2.out.2.2; omega
     have HN : Hid (0 < gk) := Lib.hid (by have := HQ.out; omega)
     clear hb3 hf3 H2 HS1 HZ HQ
     go_wp2_with fail
     go_roundg 0
     case measure => exact HN.out
     case rel => exact ⟨false, c, rfl, rfl, HX⟩
    | ok v q1 =>
     rw [hx] at CV1
     refine CV1.out.mono ?_
     rintro e w2 ⟨cs, rfl, hv, hs2, hq1⟩
     have HVO := Lib.hid hv
     obtain ⟨al, ll, cl, am, lm, cm, rfl, _, _⟩ := hv.open
     have hbx2 := box_frm HS1.out.2.2.1 hs2.2 (by have := HZ.out.1; omega)
     obtain ⟨hb0, hb1, hb2, hb3, hb4⟩ := box5 hbx2
     have hfz := box_fr hbx2
     have H2 := Lib.hid (And.intro hs2 (And.intro hbx2 hq1))
     clear hs2 hbx2 hv hq1 CV1
     go_upto_region 6 with fail
     refine wp_any_world (fun W => W.heap[wr.heap.size]? = some (.cells #[.int .i64 v.kind, .int .i64 v.n, str v.s, .slice al ll cl, .slice am lm cm] 72 (0, 0)) ∧ Frm (fun i => i = wr.heap.size) w2 W) (five_set H2.out.2.1 _ _ _ _ _) ?_
     clear hb0 hb1 hb2 hb3 hb4 hfz
     rintro w3 ⟨hb3, hf3⟩
     obtain ⟨hp0, hp1, hp2, hp3, hp4⟩ := box5 hb3
     have HLP := Lib.hid (HS1.out.2.1.frm (frm3 HS1.out.2.2.2 H2.out.1.2 hf3) (fun i h1 h2 e => by rcases e with e | e <;> omega))
     have HJ := Lib.hid (JSt.grow (HS1.out.1.trans H2.out.1) hf3 (fun i e => by have := HZ.out.1; omega))
     have HV3 : Hid (RdJ w3 (fun i => W1.heap.size ≤ i) v [.int .i64 v.kind, .int .i64 v.n, str v.s, .slice al ll cl, .slice am lm cm]) := Lib.hid (HVO.out.frm hf3 (fun i hi e => by have := HZ.out.2.1; omega))
     have hl3 := box_cell HLP.out.2.1 3
     have hlf := box_fr HLP.out.2.1
     clear hb3 hf3 HVO
     obtain ⟨i0, hi, hz0, hz1, hz2⟩ := info_parts infoJ
     go_wp2_with (at_builtin; refine hold ?_)
     intro _
     have hacc : acc.length ≤ 1000000 := by have := HQ.out; omega
     have hB : w.heap.size + 2 ≤ w3.heap.size := HLP.out.sz.1
     refine wpList_append_lies _ (by rfl) _ _ 69 (by rfl) (w.heap.size + 2) 72 i0 _ 5 80 Tryz.underlying69 hi hz0 hz1 hz2 rfl (by decide) vl acc.length rows.flatten (by rfl) (owns_frm (F := fun _ => False) HLP.out.2.2.1 (Frm.of_below (below_alloc w3 _)) (fun _ _ h => h)) ⟨w3.heap.size, 0, none⟩ 1 1 [.int .i64 v.kind, .int .i64 v.n, str v.s, .slice al ll cl, .slice am lm cm] (by rfl) (by rfl) (World.news_of_block (heap_alloc_new w3 _)) (by simp [Value.oneCell']) (by decide) (by simp only [maxLen]; omega) (by omega) (by simp; omega) _ rfl ?_
     intro g cap w4 ho hg hl4 _
     have hadd := HLP.out.add (v := v) (B0 := W1.heap.size) (by have := HZ.out; omega) (fun k hk => by have := HZ.out.2.2 k hk; have := HZ.out.2.1; omega) HV3.out ho hg (by simpa using hl4)
     have HA := Lib.hid hadd
     have hx3 : w4.cell? ⟨w.heap.size + 1, 3, none⟩ = some vl := by
      have := hg.cell_far ⟨w.heap.size + 1, 3, none⟩ (by simp; omega) (fun e => by have := HLP.out.2.2.1.lt _ e.symm; dsimp only at this; omega)
      rw [this]
      have h2 := (below_alloc w3 (.cells #[.int .i64 v.kind, .int .i64 v.n, .string ⟨v.s.toArray⟩, .slice al ll cl, .slice am lm cm] 72)).cell (p := ⟨w.heap.size + 1, 3, none⟩) (by show w.heap.size + 1 < _; omega)
      exact h2.trans hl3
     have hxf : w4.frozen? ⟨w.heap.size + 1, 3, none⟩ = false := by
      refine box_fr (cs := #[.int .i64 6, .int .i64 0, str [], vl, .slice none 0 0]) (T := 72) ?_ 3
      rw [hg.block _ (by simp; omega) (fun e => by have := HLP.out.2.2.1.lt _ e.symm; omega)]
      exact box_up HLP.out.2.1 (below_alloc w3 _)
     clear hadd ho hg hl4 hi hz0 hz1 hz2 hp0 hp1 hp2 hp3 hp4 hl3 hlf
     go_upto_region 8 with fail
     refine wp_any_world (fun W => LstP w.heap.size (acc ++ [v]) (.slice (some ⟨g, 0, none⟩) (acc.length + 1) cap) (rows ++ [[.int .i64 v.kind, .int .i64 v.n, str v.s, .slice al ll cl, .slice am lm cm]]) W ∧ Frm (fun i => w.heap.size ≤ i) w3 W) HA.out ?_
     clear hx3 hxf HA
     rintro w5 ⟨h5, hf5⟩
     have H5 := Lib.hid (And.intro (JSt.grow HJ.out hf5 (fun i e => by omega)) (⟨_, _, h5⟩ : LstS w.heap.size (acc ++ [v]) w5))
     have CB := Lib.hid (behind_any t b q1 o 93 w5 H5.out.1.1 H2.out.2.2 (by omega) ho)
     have HQ2 : Hid (∃ m, gk = m + 1 ∧ (acc ++ [v]).length + m ≤ t.length + 1 ∧ (match behP t 93 q1 with | .err e => .err e | .ok true r => .ok (acc ++ [v]) r | .ok false r => itsP f t m r (acc ++ [v])) = R ∧ t.length - q < m + 1 ∧ q ≤ q1) := Lib.hid (by
      obtain ⟨hq, hn, hacc, hR⟩ := HQ.out
      obtain ⟨m, rfl⟩ : ∃ m, gk = m + 1 := ⟨gk - 1, by omega⟩
      refine ⟨m, rfl, by simp; omega, ?_, hn, ?_⟩
      · rw [itsP, hx] at hR
        dsimp only at hR
        rw [← hR]
        cases behP t 93 q1 with
        | err e => rfl
        | ok d r => cases d <;> rfl
      exact hf q v q1 hx)
     clear h5 hf5 HQ HLP HJ HV3 H2 HZ HS1
     go_wp2_with fail
     refine CB.out.mono ?_
     intro e w6 h6
     have key : ∃ (dn' : Bool) (c' n' : Nat), e = .returned (.tuple #[.bool dn', .int .i64 (c' : Int)]) ∧ n' < gk ∧ Hid (LRel t w b o f R n' dn' c' w6) := by
      obtain ⟨m, hm, hlen, hR, hn, hqq⟩ := HQ2.out
      have gr : ∀ {q o' : Nat}, JSt w5 b t q o' w6 → JSt w b t q o' w6 ∧ LstS w.heap.size (acc ++ [v]) w6 := fun {q o'} k => ⟨H5.out.1.trans k, LstS.frm H5.out.2 k.2 (fun i hi _ e => by omega)⟩
      cases hx2 : behP t 93 q1 with
      | err c =>
       rw [hx2] at h6 hR
       obtain ⟨rfl, hc, q', o', hs⟩ := h6
       obtain ⟨g1, g2⟩ := gr hs
       exact ⟨false, c, 0, rfl, by omega, Lib.hid (.inr (.inr ⟨hc, rfl, hR.symm, q', o', _, g1, g2⟩))⟩
      | ok d r =>
       have hlt := behP_lt hx2
       rw [hx2] at h6 hR
       cases d with
       | true =>
        obtain ⟨rfl, hs, hr⟩ := h6
        obtain ⟨g1, g2⟩ := gr hs
        exact ⟨true, 0, 0, rfl, by omega, Lib.hid (.inr (.inl ⟨rfl, rfl, rfl, r, _, hR.symm, hr, g1, g2⟩))⟩
       | false =>
        obtain ⟨rfl, hs, hr⟩ := h6
        obtain ⟨g1, g2⟩ := gr hs
        exact ⟨false, 0, m, rfl, by omega, Lib.hid (.inl ⟨rfl, rfl, r, _, hr, by omega, hlen, hR, g1, g2⟩)⟩
     obtain ⟨dn', c', n', rfl, hlt, HL'⟩ := key
     have HLT := Lib.hid hlt
     clear h6 hlt HQ2 H5 CB
     go_wp2_with fail
     go_roundg n'
     case measure => exact HLT.out
     case rel => exact ⟨dn', c', rfl, rfl, HL'⟩
  · have HH := Lib.hid (And.intro hR (And.intro hq (And.intro hs hls)))
    obtain ⟨vl, rows, hlp⟩ := hls
    obtain ⟨va, vc, rfl⟩ := own_slice hlp.2.2.1
    obtain ⟨e0, e1, e2, e3, e4⟩ := box5 hlp.2.1
    obtain ⟨d0, d1, d2, d3, d4⟩ := box5 hlp.1
    have df := box_fr hlp.1
    have HP := Lib.hid hlp
    clear hlp hR hq hs hn HL
    go_wp2_with fail
    refine bodyPost_any_world (fun W => W.heap[w.heap.size]? = some (.cells #[.int .i64 6, .int .i64 0, str [], .slice va acc.length vc, .slice none 0 0] 72 (0, 0)) ∧ Frm (fun i => i = w.heap.size) wr W) (five_set HP.out.1 _ _ _ _ _) ?_
    clear e0 e1 e2 e3 e4 d0 d1 d2 d3 d4 df
    rintro w9 ⟨h9, hf9⟩
    obtain ⟨k0, k1, k2, k3, k4⟩ := box5 h9
    refine bodyPost_ret (v := .tuple #[.agg #[.int .i64 6, .int .i64 0, str [], .slice va acc.length vc, .slice none 0 0], .int .i64 0]) (by simp [results, Tryz.results97, go_sem, k0, k1, k2, k3, k4]) rfl ?_
    rw [HH.out.1]
    refine ⟨[.int .i64 6, .int .i64 0, str [], .slice va acc.length vc, .slice none 0 0], rfl, ?_, JSt.grow HH.out.2.2.1 hf9 (fun i e => by omega), HH.out.2.1⟩
    refine lstJ (HP.out.2.2.1) HP.out.2.2.2 hf9
  have HH := Lib.hid (And.intro hR (And.intro hs hc))
  obtain ⟨vl, rows, hlp⟩ := hls
  obtain ⟨va, vc, rfl⟩ := own_slice hlp.2.2.1
  obtain ⟨e0, e1, e2, e3, e4⟩ := box5 hlp.2.1
  obtain ⟨d0, d1, d2, d3, d4⟩ := box5 hlp.1
  have df := box_fr hlp.1
  have hc0 : ((c : Int) == 0) = false := by rw [beq_eq_false_iff_ne]; omega
  have HP := Lib.hid hlp
  clear hlp hR hs hn HL hc
  go_wp2_with fail
  refine bodyPost_any_world (fun W => W.heap[w.heap.size]? = some (.cells #[.int .i64 6, .int .i64 0, str [], .slice va acc.length vc, .slice none 0 0] 72 (0, 0)) ∧ Frm (fun i => i = w.heap.size) wr W) (five_set HP.out.1 _ _ _ _ _) ?_
  clear e0 e1 e2 e3 e4 d0 d1 d2 d3 d4 df
  rintro w9 ⟨h9, hf9⟩
  obtain ⟨k0, k1, k2, k3, k4⟩ := box5 h9
  refine bodyPost_ret (v := .tuple #[.agg #[.int .i64 6, .int .i64 0, str [], .slice va acc.length vc, .slice none 0 0], .int .i64 (c : Int)]) (by simp [results, Tryz.results97, go_sem, k0, k1, k2, k3, k4]) rfl ?_
  rw [HH.out.1]
  refine ⟨.mk 6 0 [] acc [], [.int .i64 6, .int .i64 0, str [], .slice va acc.length vc, .slice none 0 0], rfl, HH.out.2.2, ?_, q, o', JSt.grow HH.out.2.1 hf9 (fun i e => by omega)⟩
  refine lstJ (HP.out.2.2.1) HP.out.2.2.2 hf9
end Go.Proofs.YtegblhmcfemfgaaGreatDoor
