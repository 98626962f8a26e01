/- Layer 5: the reader of times: peek, sign, number. -/
import Derived.Test.YtnaafdennieedaaKit
import Derived.Test.YtnaafdennieedaaRows
import Derived.Test.YtnaafdennieedaaIdx
import Derived.Deep.QuietTactic
import Derived.BigQuiet
import Derived.Lib.IndexLaws
namespace Go.Proofs.Ytnaafdennieedaa
open Go.RowKit
theorem bt : BT Try.prog 31 5 := ⟨Try.underlying31, Try.underlying5, by kernel_rfl⟩

/-- The reader in block b: its text, its place, whether something was none. -/
def DR (w : World) (b : Nat) (t : List UInt8) (p : Nat) (bad : Bool) : Prop := ∃ T, w.heap[b]? = some (.cells #[str t, .int .i64 (p : Int), .bool bad] T (0, 0))
section
variable {w : World} {b p : Nat} {t : List UInt8} {bad : Bool}
theorem DR.lt (h : DR w b t p bad) : b < w.heap.size := by
  obtain ⟨T, h⟩ := h
  exact (Array.getElem?_eq_some_iff.1 h).1
theorem DR.c0 (h : DR w b t p bad) : w.cell? ⟨b, 0, none⟩ = some (str t) := by
  obtain ⟨T, h⟩ := h
  simp [World.cell?, h]
theorem DR.c1 (h : DR w b t p bad) : w.cell? ⟨b, 1, none⟩ = some (.int .i64 (p : Int)) := by
  obtain ⟨T, h⟩ := h
  simp [World.cell?, h]
theorem DR.c2 (h : DR w b t p bad) : w.cell? ⟨b, 2, none⟩ = some (.bool bad) := by
  obtain ⟨T, h⟩ := h
  simp [World.cell?, h]
theorem DR.fr (h : DR w b t p bad) (j : Nat) : w.frozen? ⟨b, j, none⟩ = false := by
  obtain ⟨T, h⟩ := h
  exact frozen_of_row w b j _ T h
theorem DR.drewN (h : DR w b t p bad) (n : Nat) : DR (w.drewN n) b t p bad := by
  obtain ⟨T, h⟩ := h
  exact ⟨T, by simpa using h⟩
theorem dr3_setCell {x y z u : Value} {T : TypeId} (h : w.heap[b]? = some (.cells #[x, y, z] T (0, 0))) :
    (w.setCell ⟨b, 1, none⟩ u).heap[b]? = some (.cells #[x, u, z] T (0, 0)) ∧ (w.setCell ⟨b, 2, none⟩ u).heap[b]? = some (.cells #[x, y, u] T (0, 0)) := by
  have hlt := (Array.getElem?_eq_some_iff.1 h).1
  have h' : w.heap[b] = .cells #[x, y, z] T (0, 0) := by simpa [Array.getElem?_eq_getElem hlt] using h
  constructor
  · show (w.heap.modify b _)[b]? = _
    rw [Array.getElem?_eq_getElem (by simpa using hlt), Array.getElem_modify_self, h']
    rfl
  · show (w.heap.modify b _)[b]? = _
    rw [Array.getElem?_eq_getElem (by simpa using hlt), Array.getElem_modify_self, h']
    rfl
theorem DR.setAt (h : DR w b t p bad) (q : Nat) (n : Int) (hn : n = (q : Int)) : DR (w.setCell ⟨b, 1, none⟩ (.int .i64 n)) b t q bad := by
  obtain ⟨T, h⟩ := h
  subst hn
  exact ⟨T, (dr3_setCell h).1⟩
theorem DR.setBad (h : DR w b t p bad) (c : Bool) : DR (w.setCell ⟨b, 2, none⟩ (.bool c)) b t p c := by
  obtain ⟨T, h⟩ := h
  exact ⟨T, (dr3_setCell h).2⟩
theorem DR.made (w : World) (t : List UInt8) (n : Int) (hn : n = 0) (T : TypeId) : DR (w.alloc (.cells #[str t, .int .i64 n, .bool false] T)) w.heap.size t 0 false := by
  subst hn
  exact ⟨T, heap_alloc_new w _⟩
end

/-- What peek tells. -/
def pk (t : List UInt8) (p : Nat) : UInt8 := t.getD p 0
theorem pk_end (t : List UInt8) : pk t t.length = 0 := by simp [pk]
theorem pk_lt (t : List UInt8) (p : Nat) (h : p < t.length) : pk t p = t[p] := by simp [pk, List.getD, h]

theorem peek_any (t : List UInt8) (b p : Nat) (bad : Bool) (w : World) (h : DR w b t p bad) (hp : p ≤ t.length) (_hl : t.length ≤ 140737488355328) :
    Calls Try.prog 21 #[.pointer (some ⟨b, 0, none⟩)] w fun e w' => e = .returned (.int .u8 ((pk t p).toNat : Int)) ∧ DR w' b t p bad ∧ Below b w w' := by
  have h0 := h.c0
  have h1 := h.c1
  have HD := Lib.hid h
  clear h
  by_cases hlt : p < t.length
  · have n1 : ((p : Int) == (t.length : Int)) = false := by rw [beq_eq_false_iff_ne]; omega
    have n2 : (p : Int) < (t.length : Int) := by omega
    have n3 : (0 : Int) ≤ (p : Int) := by omega
    obtain ⟨d, hd⟩ : ∃ d, d = t[p] := ⟨_, rfl⟩
    have hgd : (ByteArray.mk t.toArray)[p]'(by simpa [ByteArray.size] using hlt) = d := hd.symm
    have e : pk t p = d := by rw [pk_lt t p hlt, hd]
    rw [e]
    clear hd e
    go_enter Try.func21, Try.ntmps21
    go_wp2_with fail
    go_quiet (fail)
    go_wp2_with fail
    go_quiet (fail)
    go_wp2_with fail
    go_ret
    exact ⟨rfl, (HD.out.drewN _).drewN _, Below.drewsN (Below.drewsN (Below.refl _ _) _) _⟩
  · obtain rfl : p = t.length := by omega
    have n1 : ((t.length : Int) == (t.length : Int)) = true := beq_self_eq_true _
    rw [pk_end]
    go_enter Try.func21, Try.ntmps21
    go_wp2_with fail
    go_quiet (fail)
    go_wp2_with fail
    go_ret
    exact ⟨rfl, HD.out.drewN _, Below.drewsN (Below.refl _ _) _⟩

/-- Is a byte a digit? -/
def dgB (c : UInt8) : Bool := decide (48 ≤ c.toNat) && decide (c.toNat ≤ 57)
theorem isDigit_any (c : UInt8) (w : World) : Calls Try.prog 20 #[.int .u8 (c.toNat : Int)] w fun e w' => e = .returned (.bool (dgB c)) ∧ w' = w := by
  unfold dgB
  by_cases h1 : 48 ≤ c.toNat
  · by_cases h2 : c.toNat ≤ 57
    · have a1 : (48 : Int) ≤ (c.toNat : Int) := by omega
      have a2 : (c.toNat : Int) ≤ 57 := by omega
      go_enter Try.func20, Try.ntmps20
      go_wp2
      go_ret
      exact ⟨by simp_all, rfl⟩
    · have a1 : (48 : Int) ≤ (c.toNat : Int) := by omega
      have a2 : ¬ (c.toNat : Int) ≤ 57 := by omega
      go_enter Try.func20, Try.ntmps20
      go_wp2
      go_ret
      exact ⟨by simp_all, rfl⟩
  · have a1 : ¬ (48 : Int) ≤ (c.toNat : Int) := by omega
    go_enter Try.func20, Try.ntmps20
    go_wp2
    go_ret
    exact ⟨by simp_all, rfl⟩

/-- What sign reads: the byte, the place, whether something was none. -/
def sgnF (of : List UInt8) (t : List UInt8) (p : Nat) (bad : Bool) : UInt8 × Nat × Bool := if p < t.length ∧ pk t p ∈ of then (pk t p, p + 1, bad) else (0, p, true)
theorem idx_neg (l : List UInt8) (c : UInt8) : (Lib.indexByte l c < 0) ↔ c ∉ l := by
  have h := Lib.indexByte_ge l c
  constructor
  · intro hl
    have h' := Lib.indexByte_none (l := l) (c := c) (by omega)
    intro hm
    obtain ⟨k, hk, e⟩ := List.getElem_of_mem hm
    exact h' k (by rw [List.getElem?_eq_getElem hk, e])
  · intro hm
    by_cases hl : Lib.indexByte l c < 0
    · exact hl
    · have e : Lib.indexByte l c = ((Lib.indexByte l c).toNat : Int) := by omega
      have := (Lib.indexByte_some (l := l) (c := c) (o := (Lib.indexByte l c).toNat) e).1
      exact absurd (List.mem_of_getElem? this) hm
theorem sign_any (of t : List UInt8) (b p : Nat) (bad : Bool) (w : World) (h : DR w b t p bad) (hp : p ≤ t.length) (hl : t.length ≤ 140737488355328) :
    Calls Try.prog 23 #[.pointer (some ⟨b, 0, none⟩), str of] w fun e w' =>
      e = .returned (.int .u8 ((sgnF of t p bad).1.toNat : Int)) ∧ DR w' b t (sgnF of t p bad).2.1 (sgnF of t p bad).2.2 ∧ Below b w w' := by
  have HD := Lib.hid h
  by_cases hlt : p < t.length
  · have n1 : ((p : Int) == (t.length : Int)) = false := by rw [beq_eq_false_iff_ne]; omega
    have n2 : (p : Int) < (t.length : Int) := by omega
    have n3 : (0 : Int) ≤ (p : Int) := by omega
    have hix : ((pk t p).toNat : Int).toNat.toUInt8 = pk t p := by simp
    by_cases hm : pk t p ∈ of
    · have hneg : ¬ Lib.indexByte of (pk t p) < 0 := by rw [idx_neg]; simpa using hm
      rw [sgnF, if_pos ⟨hlt, hm⟩]
      obtain ⟨c, hc⟩ : ∃ c, c = pk t p := ⟨_, rfl⟩
      rw [← hc] at hneg hix
      obtain ⟨i, hi⟩ : ∃ i, i = Lib.indexByte of c := ⟨_, rfl⟩
      rw [← hi] at hneg
      have CI : ∀ W, Calls Try.prog 45 #[str of, .int .u8 (c.toNat : Int)] W fun e w' => e = .returned (.int .i64 i) ∧ w' = W := fun W =>
        (Try.strings_IndexByte ⟨of.toArray⟩ (c.toNat : Int) W).mono fun e w' ⟨he, hw⟩ => ⟨by rw [he, hix, hi], hw⟩
      have HC := Lib.hid hc
      rw [← hc]
      clear hc hi hix hm h
      go_enter Try.func23, Try.ntmps23
      go_wp2_with fail
      refine (peek_any t b p bad _ HD.out hp hl).mono ?_
      rintro e w1 ⟨rfl, hd1, hb1⟩
      rw [← HC.out]
      have HD1 := Lib.hid hd1
      have HB1 := Lib.hid hb1
      have c0 := hd1.c0
      have c1 := hd1.c1
      have f1 := hd1.fr 1
      clear hd1 hb1
      go_wp2_with fail
      go_quiet ((go_at_call 45; exact Calls.quiet_of_same (CI _)))
      go_wp2_with fail
      go_ret
      exact ⟨rfl, (HD1.out.drewN _).setAt (p + 1) _ (by omega), (Below.drewsN HB1.out _).setCell (p := ⟨b, 1, none⟩) (Nat.le_refl b) _⟩
    · have hneg : Lib.indexByte of (pk t p) < 0 := by rw [idx_neg]; exact hm
      rw [sgnF, if_neg (fun h => hm h.2)]
      obtain ⟨c, hc⟩ : ∃ c, c = pk t p := ⟨_, rfl⟩
      rw [← hc] at hneg hix
      obtain ⟨i, hi⟩ : ∃ i, i = Lib.indexByte of c := ⟨_, rfl⟩
      rw [← hi] at hneg
      have CI : ∀ W, Calls Try.prog 45 #[str of, .int .u8 (c.toNat : Int)] W fun e w' => e = .returned (.int .i64 i) ∧ w' = W := fun W =>
        (Try.strings_IndexByte ⟨of.toArray⟩ (c.toNat : Int) W).mono fun e w' ⟨he, hw⟩ => ⟨by rw [he, hix, hi], hw⟩
      have HC := Lib.hid hc
      clear hc hi hix hm h
      go_enter Try.func23, Try.ntmps23
      go_wp2_with fail
      refine (peek_any t b p bad _ HD.out hp hl).mono ?_
      rintro e w1 ⟨rfl, hd1, hb1⟩
      rw [← HC.out]
      have HD1 := Lib.hid hd1
      have HB1 := Lib.hid hb1
      have c0 := hd1.c0
      have c1 := hd1.c1
      have f1 := hd1.fr 2
      have c2 := hd1.c2
      clear hd1 hb1
      go_wp2_with fail
      go_quiet ((go_at_call 45; exact Calls.quiet_of_same (CI _)))
      go_wp2_with fail
      go_ret
      exact ⟨rfl, (HD1.out.drewN _).setBad true, (Below.drewsN HB1.out _).setCell (p := ⟨b, 2, none⟩) (Nat.le_refl b) _⟩
  · obtain rfl : p = t.length := by omega
    have n1 : ((t.length : Int) == (t.length : Int)) = true := beq_self_eq_true _
    rw [sgnF, if_neg (fun h => hlt h.1)]
    clear h
    go_enter Try.func23, Try.ntmps23
    go_wp2_with fail
    refine (peek_any t b t.length bad _ HD.out hp hl).mono ?_
    rintro e w1 ⟨rfl, hd1, hb1⟩
    have HD1 := Lib.hid hd1
    have HB1 := Lib.hid hb1
    have c0 := hd1.c0
    have c1 := hd1.c1
    have f1 := hd1.fr 2
    have c2 := hd1.c2
    clear hd1 hb1
    go_wp2_with fail
    go_quiet (fail)
    go_wp2_with fail
    go_ret
    exact ⟨rfl, (HD1.out.drewN _).setBad true, (Below.drewsN HB1.out _).setCell (p := ⟨b, 2, none⟩) (Nat.le_refl b) _⟩
end Go.Proofs.Ytnaafdennieedaa
