/- Trees of maps whose values are of three cells (api.Write): how they lie. -/
import Derived.Test.YtcgjiddiegepkaaRiseBase
namespace Go.Proofs.Ytcgjiddiegepkaa
open Go.RowKit

/-- A value's cells. -/
def wA : Value → Value
  | .agg ⟨a :: _⟩ => a
  | _ => undef
def wB : Value → Value
  | .agg ⟨_ :: b :: _⟩ => b
  | _ => undef
def wC : Value → Value
  | .agg ⟨_ :: _ :: c :: _⟩ => c
  | _ => undef
theorem wA_agg (a b c : Value) : wA (.agg #[a, b, c]) = a := rfl
theorem wB_agg (a b c : Value) : wB (.agg #[a, b, c]) = b := rfl
theorem wC_agg (a b c : Value) : wC (.agg #[a, b, c]) = c := rfl
/-- How a tree lies. -/
def TQ (w : World) : Option Addr → Tr → Prop
  | o, .nil => o = none
  | o, .node l k x n r => ∃ b T ol or, o = some ⟨b, 0, none⟩ ∧ w.heap[b]? = some (.cells #[k, wA x, wB x, wC x, .int .i64 (n : Int), .pointer ol, .pointer or] T (0, 0)) ∧ TQ w ol l ∧ TQ w or r
theorem TQ.below {w w' : World} (hb : Below w.heap.size w w') : ∀ {o : Option Addr} {t : Tr}, TQ w o t → TQ w' o t
  | _, .nil, h => h
  | _, .node _ _ _ _ _, h => by
    obtain ⟨b, T, ol, or, rfl, hc, hl, hr⟩ := h
    exact ⟨b, T, ol, or, rfl, by rw [hb.block b (Array.getElem?_eq_some_iff.1 hc).1]; exact hc, TQ.below hb hl, TQ.below hb hr⟩
theorem TQ.drewN {w : World} (n : Nat) : ∀ {o : Option Addr} {t : Tr}, TQ w o t → TQ (w.drewN n) o t
  | _, .nil, h => h
  | _, .node _ _ _ _ _, h => by
    obtain ⟨b, T, ol, or, rfl, hc, hl, hr⟩ := h
    exact ⟨b, T, ol, or, rfl, by simpa using hc, TQ.drewN n hl, TQ.drewN n hr⟩
/-- What tie, join tell. -/
def TieQ (t : Tr) (w : World) (e : Ending) (w' : World) : Prop := ∃ b, e = .returned (.pointer (some ⟨b, 0, none⟩)) ∧ TQ w' (some ⟨b, 0, none⟩) t ∧ Below w.heap.size w w'
/-- The key and the value that a node holds. -/
def KQ (w : World) (o : Option Addr) (k x : Value) : Prop := ∃ b T h pl pr, o = some ⟨b, 0, none⟩ ∧ w.heap[b]? = some (.cells #[k, wA x, wB x, wC x, h, pl, pr] T (0, 0))
theorem KQ.below {w w' : World} {o : Option Addr} {k x : Value} (h : KQ w o k x) (hb : Below w.heap.size w w') : KQ w' o k x := by
  obtain ⟨b, T, hh, pl, pr, rfl, hc⟩ := h
  exact ⟨b, T, hh, pl, pr, rfl, by rw [hb.block b (Array.getElem?_eq_some_iff.1 hc).1]; exact hc⟩
theorem TQ.kv {w : World} {o : Option Addr} {l r : Tr} {k x : Value} {n : Nat} (h : TQ w o (.node l k x n r)) : KQ w o k x := by
  obtain ⟨b, T, ol, or, rfl, hc, _, _⟩ := h
  exact ⟨b, T, _, _, _, rfl, hc⟩
/-- What put tells. -/
def PutQ (t : Tr) (z : Bool) (w : World) (e : Ending) (w' : World) : Prop := ∃ b, e = .returned (.tuple #[.pointer (some ⟨b, 0, none⟩), .bool z]) ∧ TQ w' (some ⟨b, 0, none⟩) t ∧ Below w.heap.size w w'
/-- A map in block b. -/
def MQ (w : World) (b : Nat) (t : Tr) : Prop := ∃ T o, w.heap[b]? = some (.cells #[.pointer o, .int .i64 ((prs t).length : Int)] T (0, 0)) ∧ TQ w o t
theorem TQ.only {w w' : World} {b : Nat} {u v : Value} {T0 : TypeId} (hb : w.heap[b]? = some (.cells #[u, v] T0 (0, 0))) (ho : Only b w w') : ∀ {o : Option Addr} {t : Tr}, TQ w o t → TQ w' o t
  | _, .nil, h => h
  | _, .node _ _ _ _ _, h => by
    obtain ⟨g, T, ol, or, rfl, hc, hl, hr⟩ := h
    refine ⟨g, T, ol, or, rfl, ?_, TQ.only hb ho hl, TQ.only hb ho hr⟩
    rw [ho.2 g (Array.getElem?_eq_some_iff.1 hc).1 ?_]
    · exact hc
    · rintro rfl
      rw [hb] at hc
      simp at hc
theorem MQ.lt {w : World} {b : Nat} {t : Tr} (h : MQ w b t) : b < w.heap.size := by
  obtain ⟨T, o, h, _⟩ := h
  exact (Array.getElem?_eq_some_iff.1 h).1
theorem MQ.below {w w' : World} {b : Nat} {t : Tr} (h : MQ w b t) (hb : Below w.heap.size w w') : MQ w' b t := by
  obtain ⟨T, o, h, ht⟩ := h
  exact ⟨T, o, by rw [hb.block b (Array.getElem?_eq_some_iff.1 h).1]; exact h, TQ.below hb ht⟩
theorem MQ.two {w : World} {b : Nat} {t : Tr} (h : MQ w b t) : ∃ u v T, w.heap[b]? = some (.cells #[u, v] T (0, 0)) := by
  obtain ⟨T, o, h, _⟩ := h
  exact ⟨_, _, T, h⟩
/-- What a map's Put leaves. -/
def MapQ (b : Nat) (t : Tr) (z : Bool) (w : World) (e : Ending) (w' : World) : Prop := e = .returned (.bool z) ∧ MQ w' b t ∧ Only b w w' ∧ Below b w w'
/-- Nodes lie on. -/
def NQ (w W : World) : Prop := w.heap.size ≤ W.heap.size ∧ ∀ (b : Nat) (k x y z : Value) (n : Int) (ol or : Option Addr) (T : TypeId), w.heap[b]? = some (.cells #[k, x, y, z, .int .i64 n, .pointer ol, .pointer or] T (0, 0)) → W.heap[b]? = some (.cells #[k, x, y, z, .int .i64 n, .pointer ol, .pointer or] T (0, 0))
theorem NQ.refl (w : World) : NQ w w := ⟨Nat.le_refl _, fun _ _ _ _ _ _ _ _ _ h => h⟩
theorem NQ.trans {a b c : World} (h : NQ a b) (k : NQ b c) : NQ a c := ⟨Nat.le_trans h.1 k.1, fun i k' x y z n ol or T hc => k.2 i k' x y z n ol or T (h.2 i k' x y z n ol or T hc)⟩
theorem NQ.of_below {w W : World} (h : Below w.heap.size w W) : NQ w W := ⟨h.size, fun b _ _ _ _ _ _ _ _ hc => by rw [h.block b (Array.getElem?_eq_some_iff.1 hc).1]; exact hc⟩
theorem NQ.drew {w W : World} (h : NQ w W) : NQ w W.drew := ⟨h.1, h.2⟩
theorem NQ.own (w : World) {β : Type} : OwnFrom w.heap.size (fun (_ : β) W => NQ w W) := fun _ A C row hs hg hr => ⟨Nat.le_trans hs.1 hg.size, fun b k x y z n ol or T hc => by
  have h := hs.2 b k x y z n ol or T hc
  rw [hg.block b (Array.getElem?_eq_some_iff.1 h).1 (fun e => by
    have := (hr b e.symm).1
    have := (Array.getElem?_eq_some_iff.1 hc).1
    omega)]
  exact h⟩
/-- A node's cells, wherever nodes lie on. -/
theorem NQ.cells {w W : World} (h : NQ w W) {b : Nat} {k x y z : Value} {n : Int} {ol or : Option Addr} {T : TypeId} (hc : w.heap[b]? = some (.cells #[k, x, y, z, .int .i64 n, .pointer ol, .pointer or] T (0, 0))) :
    W.cell? ⟨b, 0, none⟩ = some k ∧ (W.cell? ⟨b, 1, none⟩ = some x ∧ W.cell? ⟨b, 2, none⟩ = some y ∧ W.cell? ⟨b, 3, none⟩ = some z) ∧ W.cell? ⟨b, 5, none⟩ = some (.pointer ol) ∧ W.cell? ⟨b, 6, none⟩ = some (.pointer or) := by
  have := h.2 b k x y z n ol or T hc
  refine ⟨?_, ⟨?_, ?_, ?_⟩, ?_, ?_⟩ <;> simp [World.cell?, this]
theorem tq_nk {w W : World} (h : NQ w W) : ∀ {o : Option Addr} {t : Tr}, TQ w o t → TQ W o t
  | _, .nil, ht => ht
  | _, .node _ _ _ _ _, ht => by
    obtain ⟨b, T, ol, or, rfl, hc, hl, hr⟩ := ht
    exact ⟨b, T, ol, or, rfl, h.2 b _ _ _ _ _ _ _ T hc, tq_nk h hl, tq_nk h hr⟩
end Go.Proofs.Ytcgjiddiegepkaa
