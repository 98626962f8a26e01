/- Maps in order, Merge[string,string]: what is ahead. -/
import Derived.Test.YteibiaplmmdppaaGatherSS
namespace Go.Proofs.Yteibiaplmmdppaa
open Go.RowKit
/-- What is ahead: a slice of pairs in a block from B on. -/
def AheadSS (B : Nat) (W : World) (v : Value) (ra : List (Value × Value)) : Prop :=
  ∃ (a : Option Addr) (cap : Nat), v = .slice a ra.length cap ∧ ra.length ≤ cap ∧ cap ≤ maxLen ∧ (ra ≠ [] → ∃ (g off : Nat) (cur : Array Value), a = some ⟨g, off, none⟩ ∧ B ≤ g ∧ W.heap[g]? = some (.cells cur 95 (0, 0)) ∧
    ∀ i (h : i < ra.length), cur[off + i * 2]? = some ra[i].1 ∧ cur[off + i * 2 + 1]? = some ra[i].2)
theorem AheadSS.of_row {B : Nat} {W : World} {v : Value} {xs : List (Value × Value)} (h : W.ownsRow B 95 2 v xs.length (flatP xs)) : AheadSS B W v xs := by
  rcases h.2 with ⟨rfl, h0⟩ | ⟨g, cap, cur, rfl, hb, hg, h1, h2, h3, h4⟩
  · obtain rfl := List.eq_nil_of_length_eq_zero h0
    exact ⟨none, 0, rfl, Nat.le_refl _, by simp [maxLen], fun h => absurd rfl h⟩
  · refine ⟨_, cap, rfl, h1, h2, fun _ => ⟨g, 0, cur, rfl, hb, hg, fun i hi => ?_⟩⟩
    obtain ⟨e1, e2⟩ := flatP_at xs i hi
    have q1 := congrArg (fun z => z[i * 2]?) h4
    have q2 := congrArg (fun z => z[i * 2 + 1]?) h4
    simp only [List.getElem?_take] at q1 q2
    rw [if_pos (by omega), e1] at q1
    rw [if_pos (by omega), e2] at q2
    exact ⟨by simpa using q1, by simpa using q2⟩
theorem AheadSS.turn {B : Nat} {W W' : World} {v : Value} {ra : List (Value × Value)} (h : AheadSS B W v ra) (hk : ∀ g cur, B ≤ g → W.heap[g]? = some (.cells cur 95 (0, 0)) → W'.heap[g]? = some (.cells cur 95 (0, 0))) : AheadSS B W' v ra := by
  obtain ⟨a, cap, e, h1, h2, h3⟩ := h
  exact ⟨a, cap, e, h1, h2, fun hne => by obtain ⟨g, off, cur, e1, e2, e3, e4⟩ := h3 hne; exact ⟨g, off, cur, e1, e2, hk g cur e2 e3, e4⟩⟩
theorem AheadSS.kt {Wr : TypeId → Prop} {B : Nat} {W W' : World} {v : Value} {ra : List (Value × Value)} (h : AheadSS B W v ra) (hk : KT Wr B W W') (hw : ¬ Wr 95) : AheadSS B W' v ra :=
  h.turn (fun _ _ hg hc => hk.cells hg hc hw)
theorem AheadSS.below {B : Nat} {W W' : World} {v : Value} {ra : List (Value × Value)} (h : AheadSS B W v ra) (hb : Below W.heap.size W W') : AheadSS B W' v ra :=
  h.turn (fun g _ _ hc => by rw [hb.block g (Array.getElem?_eq_some_iff.1 hc).1]; exact hc)
theorem AheadSS.set {B : Nat} {W : World} {v : Value} {ra : List (Value × Value)} (h : AheadSS B W v ra) {b : Nat} {T : TypeId} {u : Value} (hb : Boxed W b T u) (hT : T ≠ 95) (u' : Value) : AheadSS B (W.setCell ⟨b, 0, none⟩ u') v ra :=
  h.turn (fun g cur _ hc => by
    rw [Below.heap_setCell _ _ _ _ (by rintro rfl; rw [show W.heap[g]? = _ from hb] at hc; simp at hc; exact hT hc.2)]; exact hc)
theorem ahead_ownSS {β : Type} (B : Nat) (f : β → Value) (ra : β → List (Value × Value)) : Go.Own (fun s W => AheadSS B W (f s) (ra s)) := fun s X Y row h hg hrow =>
  h.turn (fun g cur _ hc => by
    rw [hg.block g (Array.getElem?_eq_some_iff.1 hc).1 (fun e => by obtain ⟨o, ho, hcs⟩ := hrow g e.symm; rw [hc] at ho; cases ho; cases hcs)]; exact hc)
/-- The first of what is ahead, as the walk reads it. -/
theorem AheadSS.head {B : Nat} {W : World} {v : Value} {p : Value × Value} {ra : List (Value × Value)} (h : AheadSS B W v (p :: ra)) : ∃ g off cap, v = .slice (some ⟨g, off, none⟩) (ra.length + 1) cap ∧ ra.length + 1 ≤ cap ∧ cap ≤ maxLen ∧ B ≤ g ∧
    (∀ W', AheadSS B W' v (p :: ra) → W'.cell? ⟨g, off, none⟩ = some p.1 ∧ W'.cell? ⟨g, off + 1, none⟩ = some p.2) ∧ AheadSS B W (.slice (if cap = 1 then some ⟨g, off, none⟩ else some ⟨g, off + 2, none⟩) ra.length (cap - 1)) ra := by
  obtain ⟨a, cap, e, h1, h2, h3⟩ := h
  obtain ⟨g, off, cur, rfl, hb, hc, hcs⟩ := h3 (by simp)
  subst e
  refine ⟨g, off, cap, rfl, by simpa using h1, h2, hb, fun W' h' => ?_, ?_⟩
  · obtain ⟨a', cap', e', _, _, h3'⟩ := h'
    obtain ⟨g', off', cur', rfl, _, hc', hcs'⟩ := h3' (by simp)
    simp only [Value.slice.injEq, Option.some.injEq, Addr.mk.injEq, and_true] at e'
    obtain ⟨⟨rfl, rfl⟩, _⟩ := e'
    obtain ⟨q1, q2⟩ := hcs' 0 (by simp)
    simp only [Nat.zero_mul, Nat.add_zero, List.getElem_cons_zero] at q1 q2
    rw [cell_of_row W' g _ cur' _ (0, 0) hc', cell_of_row W' g _ cur' _ (0, 0) hc']
    exact ⟨q1, q2⟩
  · refine ⟨_, _, rfl, by simp at h1; omega, by omega, fun hne => ?_⟩
    have : ¬ cap = 1 := by
      have : ra.length ≠ 0 := fun e => hne (List.eq_nil_of_length_eq_zero e)
      simp at h1; omega
    rw [if_neg this]
    refine ⟨g, off + 2, cur, rfl, hb, hc, fun i hi => ?_⟩
    obtain ⟨q1, q2⟩ := hcs (i + 1) (by simpa using hi)
    simp only [List.getElem_cons_succ] at q1 q2
    rw [show off + 2 + i * 2 = off + (i + 1) * 2 by omega]
    exact ⟨q1, q2⟩
/-- What Merge writes of its own. -/
def MrgTSS (T : TypeId) : Prop := T = 92
end Go.Proofs.Yteibiaplmmdppaa
