/- What a tree in order hands on: words. -/
import Derived.Test.YtcgjiddiegepkaaRange
import Derived.Test.YtcgjiddiegepkaaTrMap
import Derived.Shelf.RegionOpen
namespace Go.Proofs.Ytcgjiddiegepkaa
open Go.RowKit

/-- Nodes lie on. -/
def NK (w W : World) : Prop := w.heap.size ≤ W.heap.size ∧ ∀ (b : Nat) (k x : Value) (n : Int) (ol or : Option Addr) (T : TypeId), w.heap[b]? = some (.cells #[k, x, .int .i64 n, .pointer ol, .pointer or] T (0, 0)) → W.heap[b]? = some (.cells #[k, x, .int .i64 n, .pointer ol, .pointer or] T (0, 0))
theorem NK.refl (w : World) : NK w w := ⟨Nat.le_refl _, fun _ _ _ _ _ _ _ h => h⟩
theorem NK.trans {a b c : World} (h : NK a b) (k : NK b c) : NK a c := ⟨Nat.le_trans h.1 k.1, fun i k' x n ol or T hc => k.2 i k' x n ol or T (h.2 i k' x n ol or T hc)⟩
theorem NK.of_below {w W : World} (h : Below w.heap.size w W) : NK w W := ⟨h.size, fun b _ _ _ _ _ _ hc => by rw [h.block b (Array.getElem?_eq_some_iff.1 hc).1]; exact hc⟩
theorem NK.of_only {w W : World} {b : Nat} {u v : Value} {T0 : TypeId} (hb : w.heap[b]? = some (.cells #[u, v] T0 (0, 0))) (h : Only b w W) : NK w W :=
  ⟨h.1, fun g _ _ _ _ _ _ hc => by
    rw [h.2 g (Array.getElem?_eq_some_iff.1 hc).1 (by rintro rfl; rw [hb] at hc; simp at hc)]; exact hc⟩
theorem NK.drew {w W : World} (h : NK w W) : NK w W.drew := ⟨h.1, h.2⟩
theorem NK.own (w : World) {β : Type} : OwnFrom w.heap.size (fun (_ : β) W => NK w W) := fun _ A C row hs hg hr => ⟨Nat.le_trans hs.1 hg.size, fun b k x n ol or T hc => by
  have h := hs.2 b k x n ol or T hc
  rw [hg.block b (Array.getElem?_eq_some_iff.1 h).1 (fun e => by
    have := (hr b e.symm).1
    have := (Array.getElem?_eq_some_iff.1 hc).1
    omega)]
  exact h⟩
/-- A node's cells, wherever nodes lie on. -/
theorem NK.cells {w W : World} (h : NK w W) {b : Nat} {k x : Value} {n : Int} {ol or : Option Addr} {T : TypeId} (hc : w.heap[b]? = some (.cells #[k, x, .int .i64 n, .pointer ol, .pointer or] T (0, 0))) :
    W.cell? ⟨b, 0, none⟩ = some k ∧ W.cell? ⟨b, 1, none⟩ = some x ∧ W.cell? ⟨b, 3, none⟩ = some (.pointer ol) ∧ W.cell? ⟨b, 4, none⟩ = some (.pointer or) := by
  have := h.2 b k x n ol or T hc
  refine ⟨?_, ?_, ?_, ?_⟩ <;> simp [World.cell?, this]
theorem tp_nk {w W : World} (h : NK w W) : ∀ {o : Option Addr} {t : Tr}, TP w o t → TP W o t
  | _, .nil, ht => ht
  | _, .node _ _ _ _ _, ht => by
    obtain ⟨b, T, ol, or, rfl, hc, hl, hr⟩ := ht
    exact ⟨b, T, ol, or, rfl, h.2 b _ _ _ _ _ T hc, tp_nk h hl, tp_nk h hr⟩
/-- A draw changes no block. -/
theorem own_drew {β : Type} {B : Nat} {I : β → World → Prop} (h : OwnFrom B I) {s : β} {W : World} (hs : I s W) : I s W.drew :=
  h s W W.drew none hs ⟨rfl, rfl, rfl, Nat.le_refl _, fun _ _ _ => rfl⟩ (fun _ e => by cases e)
/-- What a recursive walk answers. -/
def RiseP (J Jx : List (Value × Value) → World → Prop) (pre l : List (Value × Value)) (e : Ending) (W' : World) : Prop :=
  (e = .returned (.bool true) ∧ J (pre ++ l) W') ∨ (e = .returned (.bool false) ∧ ∃ q, (∃ t, l = q ++ t) ∧ Jx (pre ++ q) W')
end Go.Proofs.Ytcgjiddiegepkaa
