/- Trees of maps in order, plainly: how they lie, their heights, their pairs. -/
import Derived.Test.YtcgjiddiegepkaaKit
import Derived.Test.YtcgjiddiegepkaaRows
import Derived.Deep.QuietTactic
import Derived.BigQuiet
import Derived.IntWalk
namespace Go.Proofs.Ytcgjiddiegepkaa
open Go.RowKit

/-- A tree: keys and values as they lie, the height that each node tells. -/
inductive Tr where
  | nil : Tr
  | node : Tr → Value → Value → Nat → Tr → Tr
/-- The height told. -/
def ht : Tr → Nat
  | .nil => 0
  | .node _ _ _ n _ => n
/-- Each height told is right. -/
def WT : Tr → Prop
  | .nil => True
  | .node l _ _ n r => n = 1 + max (ht l) (ht r) ∧ WT l ∧ WT r
/-- The pairs by rising places. -/
def prs : Tr → List (Value × Value)
  | .nil => []
  | .node l k x _ r => prs l ++ (k, x) :: prs r
/-- How a tree lies. -/
def TP (w : World) : Option Addr → Tr → Prop
  | o, .nil => o = none
  | o, .node l k x n r => ∃ b T ol or, o = some ⟨b, 0, none⟩ ∧ w.heap[b]? = some (.cells #[k, x, .int .i64 (n : Int), .pointer ol, .pointer or] T (0, 0)) ∧ TP w ol l ∧ TP w or r
theorem TP.below {w w' : World} (hb : Below w.heap.size w w') : ∀ {o : Option Addr} {t : Tr}, TP w o t → TP w' o t
  | _, .nil, h => h
  | _, .node _ _ _ _ _, h => by
    obtain ⟨b, T, ol, or, rfl, hc, hl, hr⟩ := h
    exact ⟨b, T, ol, or, rfl, by rw [hb.block b (Array.getElem?_eq_some_iff.1 hc).1]; exact hc, TP.below hb hl, TP.below hb hr⟩
theorem TP.drewN {w : World} (n : Nat) : ∀ {o : Option Addr} {t : Tr}, TP w o t → TP (w.drewN n) o t
  | _, .nil, h => h
  | _, .node _ _ _ _ _, h => by
    obtain ⟨b, T, ol, or, rfl, hc, hl, hr⟩ := h
    exact ⟨b, T, ol, or, rfl, by simpa using hc, TP.drewN n hl, TP.drewN n hr⟩
/-- A node over two trees. -/
def tieT (k x : Value) (l r : Tr) : Tr := .node l k x (1 + max (ht l) (ht r)) r
theorem ht_tie (k x : Value) (l r : Tr) : ht (tieT k x l r) = 1 + max (ht l) (ht r) := rfl
/-- What tie, join tell. -/
def TiePost (t : Tr) (w : World) (e : Ending) (w' : World) : Prop := ∃ b, e = .returned (.pointer (some ⟨b, 0, none⟩)) ∧ TP w' (some ⟨b, 0, none⟩) t ∧ Below w.heap.size w w'
/-- The key and the value that a node holds. -/
def KV (w : World) (o : Option Addr) (k x : Value) : Prop := ∃ b T h pl pr, o = some ⟨b, 0, none⟩ ∧ w.heap[b]? = some (.cells #[k, x, h, pl, pr] T (0, 0))
theorem KV.below {w w' : World} {o : Option Addr} {k x : Value} (h : KV w o k x) (hb : Below w.heap.size w w') : KV w' o k x := by
  obtain ⟨b, T, hh, pl, pr, rfl, hc⟩ := h
  exact ⟨b, T, hh, pl, pr, rfl, by rw [hb.block b (Array.getElem?_eq_some_iff.1 hc).1]; exact hc⟩
theorem TP.kv {w : World} {o : Option Addr} {l r : Tr} {k x : Value} {n : Nat} (h : TP w o (.node l k x n r)) : KV w o k x := by
  obtain ⟨b, T, ol, or, rfl, hc, _, _⟩ := h
  exact ⟨b, T, _, _, _, rfl, hc⟩
end Go.Proofs.Ytcgjiddiegepkaa
