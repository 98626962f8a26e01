/- The reader's methods by their contracts. -/
import Derived.Test.YtegblhmcfemfgaaGreatDoorQuote
namespace Go.Proofs.YtegblhmcfemfgaaGreatDoor
open Go.RowKit

/-- The reader in block b: its text, its place, what it has read. -/
structure RS (w : World) (b : Nat) (t : List UInt8) (p : Nat) (o : List UInt8) : Prop where
  out : ∃ v T, w.heap[b]? = some (.cells #[str t, .int .i64 (p : Int), v] T (0, 0)) ∧ Own 5 w (b + 1) v o

theorem RS.lt {w : World} {b p : Nat} {t o : List UInt8} (h : RS w b t p o) : b < w.heap.size := by
  obtain ⟨v, T, h, _⟩ := h
  exact (Array.getElem?_eq_some_iff.1 h).1
theorem RS.c0 {w : World} {b p : Nat} {t o : List UInt8} (h : RS w b t p o) : w.cell? ⟨b, 0, none⟩ = some (str t) := by
  obtain ⟨v, T, h, _⟩ := h
  simp [World.cell?, h]
theorem RS.c1 {w : World} {b p : Nat} {t o : List UInt8} (h : RS w b t p o) : w.cell? ⟨b, 1, none⟩ = some (.int .i64 (p : Int)) := by
  obtain ⟨v, T, h, _⟩ := h
  simp [World.cell?, h]
theorem RS.c2 {w : World} {b p : Nat} {t o : List UInt8} (h : RS w b t p o) : ∃ v, w.cell? ⟨b, 2, none⟩ = some v ∧ Own 5 w (b + 1) v o := by
  obtain ⟨v, T, h, ho⟩ := h
  exact ⟨v, by simp [World.cell?, h], ho⟩
theorem RS.fr {w : World} {b p : Nat} {t o : List UInt8} (h : RS w b t p o) (j : Nat) : w.frozen? ⟨b, j, none⟩ = false := by
  obtain ⟨v, T, h, _⟩ := h
  exact frozen_of_row w b j _ T h
theorem RS.drewN {w : World} {b p : Nat} {t o : List UInt8} (h : RS w b t p o) (n : Nat) : RS (w.drewN n) b t p o := by
  obtain ⟨v, T, h, ho⟩ := h
  exact ⟨v, T, by simpa using h, ho⟩
theorem three_setCell {w : World} {b : Nat} {x y z u : Value} {t : TypeId} (h : w.heap[b]? = some (.cells #[x, y, z] t (0, 0))) :
    (w.setCell ⟨b, 1, none⟩ u).heap[b]? = some (.cells #[x, u, z] t (0, 0)) ∧ (w.setCell ⟨b, 2, none⟩ u).heap[b]? = some (.cells #[x, y, u] t (0, 0)) := by
  have hlt := (Array.getElem?_eq_some_iff.1 h).1
  have h' : w.heap[b] = .cells #[x, y, z] t (0, 0) := by simpa [Array.getElem?_eq_getElem hlt] using h
  constructor
  · show (w.heap.modify b _)[b]? = _
    rw [Array.getElem?_eq_getElem (by simpa using hlt), Array.getElem_modify_self, h']
    rfl
  · show (w.heap.modify b _)[b]? = _
    rw [Array.getElem?_eq_getElem (by simpa using hlt), Array.getElem_modify_self, h']
    rfl
theorem RS.setAt {w : World} {b p : Nat} {t o : List UInt8} (h : RS w b t p o) (q : Nat) (n : Int) (hn : n = (q : Int)) : RS (w.setCell ⟨b, 1, none⟩ (.int .i64 n)) b t q o := by
  obtain ⟨v, T, h, ho⟩ := h
  subst hn
  exact ⟨v, T, (three_setCell h).1, ownsRow_setCell_below ho (Nat.lt_succ_self b) _⟩
/-- What was appended to the reader's bytes is stored. -/
theorem RS.setOut {w w' : World} {b p : Nat} {t o o' : List UInt8} {v v' : Value} (h : RS w b t p o) (hc : w.cell? ⟨b, 2, none⟩ = some v) (hg : w.grownBy w' v.ownBlock) (ho' : Own 5 w' (b + 1) v' o') : RS (w'.setCell ⟨b, 2, none⟩ v') b t p o' := by
  obtain ⟨v0, T, h, ho⟩ := h
  have e : v0 = v := by simpa [World.cell?, h] using hc
  subst e
  have hb : w'.heap[b]? = some (.cells #[str t, .int .i64 (p : Int), v0] T (0, 0)) := by
    rw [hg.block b (Array.getElem?_eq_some_iff.1 h).1 (fun e => by have := ho.base b e.symm; omega)]
    exact h
  exact ⟨v', T, (three_setCell hb).2, ownsRow_setCell_below ho' (Nat.lt_succ_self b) _⟩
theorem RS.setBelow {w w' : World} {b p : Nat} {t o o' : List UInt8} {v' : Value} (h : RS w b t p o) (hb : Below (b + 1) w w') (ho' : Own 5 w' (b + 1) v' o') : RS (w'.setCell ⟨b, 2, none⟩ v') b t p o' := by
  obtain ⟨v0, T, h, ho⟩ := h
  have hb : w'.heap[b]? = some (.cells #[str t, .int .i64 (p : Int), v0] T (0, 0)) := by
    rw [hb.block b (Nat.lt_succ_self b)]
    exact h
  exact ⟨v', T, (three_setCell hb).2, ownsRow_setCell_below ho' (Nat.lt_succ_self b) _⟩

/-- Nothing but block b has turned; new blocks may stand behind. -/
def OnlyT (b : Nat) (w w' : World) : Prop := w.heap.size ≤ w'.heap.size ∧ ∀ k, k < w.heap.size → k ≠ b → w'.heap[k]? = w.heap[k]?
theorem OnlyT.drewN (b : Nat) (w : World) (n : Nat) : OnlyT b w (w.drewN n) := ⟨by simp, fun _ _ _ => by simp⟩
theorem OnlyT.setCell {b : Nat} {w w' : World} (h : OnlyT b w w') (j : Nat) (u : Value) : OnlyT b w (w'.setCell ⟨b, j, none⟩ u) :=
  ⟨by simpa [World.setCell] using h.1, fun k hk hne => by rw [Below.heap_setCell _ _ _ _ hne]; exact h.2 k hk hne⟩
theorem OnlyT.trans {b : Nat} {w w' w2 : World} (h : OnlyT b w w') (k : OnlyT b w' w2) : OnlyT b w w2 :=
  ⟨Nat.le_trans h.1 k.1, fun i hi hne => (k.2 i (Nat.lt_of_lt_of_le hi h.1) hne).trans (h.2 i hi hne)⟩
theorem OnlyT.cell {b : Nat} {w w' : World} (h : OnlyT b w w') {g j : Nat} {x : Value} (hc : w.cell? ⟨g, j, none⟩ = some x) (hne : g ≠ b) : w'.cell? ⟨g, j, none⟩ = some x := by
  have hlt := World.block_lt_of_cell? w _ hc
  have := h.2 g hlt hne
  unfold World.cell? at hc ⊢
  simpa [this] using hc
theorem RS.alloc {w : World} {b p : Nat} {t o : List UInt8} (h : RS w b t p o) (x : Obj) : RS (w.alloc x) b t p o := by
  have hlt := h.lt
  obtain ⟨v, T, h, ho⟩ := h
  refine ⟨v, T, ?_, ho.alloc x⟩
  rw [← h]
  exact (below_alloc w x).block b hlt

def wantN (t : List UInt8) (p : Nat) (c : UInt8) : Nat := if p < t.length then (if t[p]? = some c then 0 else 4) else 2

theorem want_any (t o : List UInt8) (b p : Nat) (c : UInt8) (w : World) (h : RS w b t p o) (hp : p ≤ t.length) (hl : t.length ≤ 140737488355328) :
    Calls Tryz.prog 145 #[.pointer (some ⟨b, 0, none⟩), .int .u8 (c.toNat : Int)] w fun e w' =>
      e = .returned (.int .i64 (wantN t p c : Int)) ∧ RS w' b t (if wantN t p c = 0 then p + 1 else p) o ∧ Below b w w' ∧ OnlyT b w w' := by
  have h0 := h.c0
  have h1 := h.c1
  have hf := h.fr 1
  have hbw := h.lt
  have HRS := Lib.hid h
  clear h
  by_cases hlt : p < t.length
  · have n1 : ((p : Int) == (t.length : Int)) = false := by rw [beq_eq_false_iff_ne]; omega
    have n2 : (p : Int) < (t.length : Int) := by omega
    have n3 : (0 : Int) ≤ (p : Int) := by omega
    obtain ⟨d, hd⟩ : ∃ d, d = t[p] := ⟨_, rfl⟩
    have hgd : (ByteArray.mk t.toArray)[p]'(by simpa [ByteArray.size] using hlt) = d := hd.symm
    have hd' : t[p]? = some d := by rw [hd]; exact List.getElem?_eq_getElem hlt
    have HD := Lib.hid hd'
    clear hd hd'
    by_cases hdc : d = c
    · have n4 : ((d.toNat : Int) != (c.toNat : Int)) = false := by rw [hdc, bne_self_eq_false]
      have hw : wantN t p c = 0 := by rw [wantN, if_pos hlt, HD.out, hdc, if_pos rfl]
      rw [hw]
      have HW := Lib.hid hw
      clear hw hdc
      go_enter Tryz.func145, Tryz.ntmps145
      go_wp2_with fail
      go_quiet (fail)
      go_wp2_with fail
      go_quiet (fail)
      go_wp2_with fail
      go_ret
      exact ⟨rfl, (HRS.out.drewN _).setAt (p + 1) _ (by omega), Below.setCell (p := ⟨b, 1, none⟩) (Below.drewsN (Below.refl b _) _) (Nat.le_refl b) _, (OnlyT.drewN b _ _).setCell _ _⟩
    · have n4 : ((d.toNat : Int) != (c.toNat : Int)) = true := by
        rw [bne_iff_ne]; intro h; exact hdc (UInt8.toNat_inj.1 (by omega))
      have hw : wantN t p c = 4 := by rw [wantN, if_pos hlt, HD.out, if_neg (by simpa using hdc)]
      rw [hw]
      have HW := Lib.hid hw
      clear hw hdc
      go_enter Tryz.func145, Tryz.ntmps145
      go_wp2_with fail
      go_quiet (fail)
      go_wp2_with fail
      go_quiet (fail)
      go_wp2_with fail
      go_ret
      exact ⟨rfl, HRS.out.drewN _, Below.drewsN (Below.refl _ _) _, OnlyT.drewN _ _ _⟩
  · obtain rfl : p = t.length := by omega
    have n1 : ((t.length : Int) == (t.length : Int)) = true := beq_self_eq_true _
    have hw : wantN t t.length c = 2 := by rw [wantN, if_neg hlt]
    rw [hw]
    clear hw
    go_enter Tryz.func145, Tryz.ntmps145
    go_wp2_with fail
    go_quiet (fail)
    go_wp2_with fail
    go_ret
    exact ⟨rfl, HRS.out.drewN _, Below.drewsN (Below.refl _ _) _, OnlyT.drewN _ _ _⟩
end Go.Proofs.YtegblhmcfemfgaaGreatDoor
