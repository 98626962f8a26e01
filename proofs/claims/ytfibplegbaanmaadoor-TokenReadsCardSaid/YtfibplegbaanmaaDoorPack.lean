/- pack.Reader by its contracts. -/
import Derived.Test.YtfibplegbaanmaaDoorRVar
import Derived.Test.YtfibplegbaanmaaDoorVarMath
import Derived.Test.YtfibplegbaanmaaDoorPrint
import Derived.Deep.QuietTactic
import Derived.BigQuiet
namespace Go.Proofs.YtfibplegbaanmaaDoor
open Go.RowKit

/-- A reader of the bytes l in block b. -/
structure PR (w : World) (b : Nat) (v : Value) (l : List UInt8) (p : Nat) (bad : Bool) : Prop where
  blk : ∃ T, w.heap[b]? = some (.cells #[v, .int .i64 (p : Int), .bool bad] T (0, 0))
  rd : Rd w v l
  lo : ∀ a n c, v = .slice (some a) n c → a.block < b
  pl : p ≤ l.length
theorem PR.lt {w : World} {b p : Nat} {v : Value} {l : List UInt8} {bad : Bool} (h : PR w b v l p bad) : b < w.heap.size := by
  obtain ⟨T, h⟩ := h.blk
  exact (Array.getElem?_eq_some_iff.1 h).1
theorem PR.c0 {w : World} {b p : Nat} {v : Value} {l : List UInt8} {bad : Bool} (h : PR w b v l p bad) : w.cell? ⟨b, 0, none⟩ = some v := by
  obtain ⟨T, h⟩ := h.blk; simp [World.cell?, h]
theorem PR.c1 {w : World} {b p : Nat} {v : Value} {l : List UInt8} {bad : Bool} (h : PR w b v l p bad) : w.cell? ⟨b, 1, none⟩ = some (.int .i64 (p : Int)) := by
  obtain ⟨T, h⟩ := h.blk; simp [World.cell?, h]
theorem PR.c2 {w : World} {b p : Nat} {v : Value} {l : List UInt8} {bad : Bool} (h : PR w b v l p bad) : w.cell? ⟨b, 2, none⟩ = some (.bool bad) := by
  obtain ⟨T, h⟩ := h.blk; simp [World.cell?, h]
theorem PR.fr {w : World} {b p : Nat} {v : Value} {l : List UInt8} {bad : Bool} (h : PR w b v l p bad) (j : Nat) : w.frozen? ⟨b, j, none⟩ = false := by
  obtain ⟨T, h⟩ := h.blk; exact frozen_of_row w b j _ T h
theorem PR.drewN {w : World} {b p : Nat} {v : Value} {l : List UInt8} {bad : Bool} (h : PR w b v l p bad) (n : Nat) : PR (w.drewN n) b v l p bad :=
  ⟨by obtain ⟨T, h⟩ := h.blk; exact ⟨T, by simpa using h⟩, h.rd.drewN n, h.lo, h.pl⟩
theorem Rd.setAbove {w : World} {v : Value} {l : List UInt8} {b j : Nat} {x : Value} (h : Rd w v l) (hlo : ∀ a n c, v = .slice (some a) n c → a.block < b) : Rd (w.setCell ⟨b, j, none⟩ x) v l := by
  obtain ⟨a, cap, hv, h1, h2, h3, h4⟩ := h
  refine ⟨a, cap, hv, h1, h2, h3, fun hl => ?_⟩
  obtain ⟨g, off, ha, hc⟩ := h4 hl
  subst ha
  have hgb : g < b := hlo _ _ _ hv
  refine ⟨g, off, rfl, fun i hi => ?_⟩
  rw [World.cell?_of_block (w := w) (w' := w.setCell ⟨b, j, none⟩ x) (a := ⟨g, off + i, none⟩) (Below.heap_setCell _ _ _ _ (by show g ≠ b; omega))]
  exact hc i hi
theorem three_set {w : World} {b : Nat} {x y z u : Value} {t : TypeId} (h : w.heap[b]? = some (.cells #[x, y, z] t (0, 0))) :
    (w.setCell ⟨b, 1, none⟩ u).heap[b]? = some (.cells #[x, u, z] t (0, 0)) ∧ (w.setCell ⟨b, 2, none⟩ u).heap[b]? = some (.cells #[x, y, u] t (0, 0)) := by
  have hlt := (Array.getElem?_eq_some_iff.1 h).1
  have h' : w.heap[b] = .cells #[x, y, z] t (0, 0) := by simpa [Array.getElem?_eq_getElem hlt] using h
  constructor
  · show (w.heap.modify b _)[b]? = _
    rw [Array.getElem?_eq_getElem (by simpa using hlt), Array.getElem_modify_self, h']
    rfl
  · show (w.heap.modify b _)[b]? = _
    rw [Array.getElem?_eq_getElem (by simpa using hlt), Array.getElem_modify_self, h']
    rfl
theorem PR.setAt {w : World} {b p : Nat} {v : Value} {l : List UInt8} {bad : Bool} (h : PR w b v l p bad) (q : Nat) (n : Int) (hn : n = (q : Int)) (hq : q ≤ l.length) : PR (w.setCell ⟨b, 1, none⟩ (.int .i64 n)) b v l q bad := by
  subst hn
  exact ⟨by obtain ⟨T, h⟩ := h.blk; exact ⟨T, (three_set h).1⟩, h.rd.setAbove h.lo, h.lo, hq⟩
theorem PR.setBad {w : World} {b p : Nat} {v : Value} {l : List UInt8} {bad : Bool} (h : PR w b v l p bad) : PR (w.setCell ⟨b, 2, none⟩ (.bool true)) b v l p true :=
  ⟨by obtain ⟨T, h⟩ := h.blk; exact ⟨T, (three_set h).2⟩, h.rd.setAbove h.lo, h.lo, h.pl⟩

/-- A number read at a place: what it is, the place behind it, whether something is missing. -/
def numR (l : List UInt8) (p : Nat) (bad : Bool) : Nat × Nat × Bool :=
  if bad = true ∨ (rv 8 (l.drop p) p 0 0).2.2 ≠ 0 then (0, p, true) else ((rv 8 (l.drop p) p 0 0).1, (rv 8 (l.drop p) p 0 0).2.1, false)
theorem rv_le : ∀ (f : Nat) (t : List UInt8) (p i acc : Nat), (rv f t p i acc).2.1 ≤ p + t.length
  | 0, t, p, i, acc => by simp [rv]
  | f + 1, [], p, i, acc => by simp [rv]
  | f + 1, c :: t, p, i, acc => by
    rw [rv]
    split
    · have := rv_le f t (p + 1) (i + 1) (acc + c.toNat % 128 * 128 ^ i)
      simp only [List.length_cons]; omega
    split
    · simp
    · simp only [List.length_cons]; omega
theorem rvE_out (r : Nat × Nat × Nat) : rvE r = .returned (.tuple #[.int .i64 (r.1 : Int), .int .i64 (r.2.1 : Int), .int .i64 (r.2.2 : Int)]) := rfl

set_option maxRecDepth 100000 in
set_option maxHeartbeats 3200000 in
theorem rnumber_any (w : World) (b : Nat) (v : Value) (l : List UInt8) (p : Nat) (bad : Bool) (h : PR w b v l p bad) (hl : l.length ≤ 140737488355328) :
    Calls Tryd.prog 25 #[.pointer (some ⟨b, 0, none⟩)] w fun e w' => e = .returned (.int .i64 ((numR l p bad).1 : Int)) ∧ PR w' b v l (numR l p bad).2.1 (numR l p bad).2.2 ∧ Below b w w' := by
  have h0 := h.c0
  have h1 := h.c1
  have h2 := h.c2
  have hf1 := h.fr 1
  have hf2 := h.fr 2
  have hbw := h.lt
  have hp := h.pl
  have hrle := rv_le 8 (l.drop p) p 0 0
  rw [List.length_drop] at hrle
  have CR := Lib.hid (fun (n : Nat) => (rvar_any v l p (w.drewN n) (h.rd.drewN n) hp hl))
  obtain ⟨n, q, e, hr⟩ : ∃ n q e, rv 8 (l.drop p) p 0 0 = (n, q, e) := ⟨_, _, _, rfl⟩
  have hnum : numR l p bad = if bad = true ∨ e ≠ 0 then (0, p, true) else (n, q, false) := by rw [numR, hr]
  rw [hr] at hrle
  simp only at hrle
  have hq : q ≤ l.length := by omega
  have CR2 : Hid (∀ m : Nat, Calls Tryd.prog 34 #[v, .int .i64 (p : Int)] (w.drewN m) fun en w' => en = .returned (.tuple #[.int .i64 (n : Int), .int .i64 (q : Int), .int .i64 (e : Int)]) ∧ w' = w.drewN m) := by
    refine Lib.hid fun m => ?_
    have := CR.out m
    rw [hr] at this
    exact this
  obtain ⟨a0, len0, cap0, rfl⟩ : ∃ a n c, v = .slice a n c := by
    obtain ⟨a, cap, hv, _⟩ := h.rd
    exact ⟨a, _, cap, hv⟩
  have HPR := Lib.hid h
  have HN := Lib.hid hnum
  clear h hr hnum CR hrle
  cases bad
  · by_cases he : e = 0
    · have m1 : ((e : Int) != 0) = false := by rw [he]; rfl
      have hv : numR l p false = (n, q, false) := by rw [HN.out, if_neg (by simp [he])]
      have HV := Lib.hid hv
      clear hv he
      go_enter Tryd.func25, Tryd.ntmps25
      go_wp2_with fail
      go_quiet ((go_at_call 34; exact Calls.quiet_of_same (CR2.out _)))
      go_wp2_with fail
      go_ret
      exact ⟨by rw [HV.out]; rfl, by rw [HV.out]; exact (HPR.out.drewN _).setAt q _ rfl hq, Below.setCell (p := ⟨b, 1, none⟩) (Below.drewsN (Below.refl b _) _) (Nat.le_refl b) _⟩
    · have m1 : ((e : Int) != 0) = true := by rw [bne_iff_ne]; omega
      have hv : numR l p false = (0, p, true) := by rw [HN.out, if_pos (.inr he)]
      have HV := Lib.hid hv
      clear hv he
      go_enter Tryd.func25, Tryd.ntmps25
      go_wp2_with fail
      go_quiet ((go_at_call 34; exact Calls.quiet_of_same (CR2.out _)))
      go_wp2_with fail
      go_ret
      exact ⟨by rw [HV.out]; rfl, by rw [HV.out]; exact (HPR.out.drewN _).setBad, Below.setCell (p := ⟨b, 2, none⟩) (Below.drewsN (Below.refl b _) _) (Nat.le_refl b) _⟩
  · have hv : numR l p true = (0, p, true) := by rw [HN.out, if_pos (.inl rfl)]
    have HV := Lib.hid hv
    clear hv
    go_enter Tryd.func25, Tryd.ntmps25
    go_wp2_with fail
    go_quiet ((go_at_call 34; exact Calls.quiet_of_same (CR2.out _)))
    go_wp2_with fail
    go_ret
    exact ⟨by rw [HV.out]; rfl, by rw [HV.out]; exact (HPR.out.drewN _).setBad, Below.setCell (p := ⟨b, 2, none⟩) (Below.drewsN (Below.refl b _) _) (Nat.le_refl b) _⟩
end Go.Proofs.YtfibplegbaanmaaDoor
