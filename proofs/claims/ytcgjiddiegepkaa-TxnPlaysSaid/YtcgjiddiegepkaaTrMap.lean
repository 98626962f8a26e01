/- Maps in order: how a map lies; what changes when it is written. -/
import Derived.Test.YtcgjiddiegepkaaTrMath
namespace Go.Proofs.Ytcgjiddiegepkaa
open Go.RowKit

/-- A map in block b. -/
def MP (w : World) (b : Nat) (t : Tr) : Prop := ∃ T o, w.heap[b]? = some (.cells #[.pointer o, .int .i64 ((prs t).length : Int)] T (0, 0)) ∧ TP w o t
/-- Nothing but block b has turned; new blocks may stand behind. -/
def Only (b : Nat) (w w' : World) : Prop := w.heap.size ≤ w'.heap.size ∧ ∀ k, k < w.heap.size → k ≠ b → w'.heap[k]? = w.heap[k]?
theorem Only.of_below {b : Nat} {w w' : World} (h : Below w.heap.size w w') : Only b w w' := ⟨h.size, fun k hk _ => h.block k hk⟩
theorem Only.setCell {b : Nat} {w w' : World} (h : Only b w w') (j : Nat) (u : Value) : Only b w (w'.setCell ⟨b, j, none⟩ u) :=
  ⟨by simpa [World.setCell] using h.1, fun k hk hne => by rw [Below.heap_setCell _ _ _ _ hne]; exact h.2 k hk hne⟩
theorem Only.trans {b : Nat} {w w' w2 : World} (h : Only b w w') (k : Only b w' w2) : Only b w w2 :=
  ⟨Nat.le_trans h.1 k.1, fun i hi hne => (k.2 i (Nat.lt_of_lt_of_le hi h.1) hne).trans (h.2 i hi hne)⟩
theorem Only.refl (b : Nat) (w : World) : Only b w w := ⟨Nat.le_refl _, fun _ _ _ => rfl⟩
/-- A tree stands when a block of two cells turns. -/
theorem TP.only {w w' : World} {b : Nat} {u v : Value} {T0 : TypeId} (hb : w.heap[b]? = some (.cells #[u, v] T0 (0, 0))) (ho : Only b w w') : ∀ {o : Option Addr} {t : Tr}, TP w o t → TP w' o t
  | _, .nil, h => h
  | _, .node _ _ _ _ _, h => by
    obtain ⟨g, T, ol, or, rfl, hc, hl, hr⟩ := h
    refine ⟨g, T, ol, or, rfl, ?_, TP.only hb ho hl, TP.only hb ho hr⟩
    rw [ho.2 g (Array.getElem?_eq_some_iff.1 hc).1 ?_]
    · exact hc
    · rintro rfl
      rw [hb] at hc
      simp at hc
theorem MP.lt {w : World} {b : Nat} {t : Tr} (h : MP w b t) : b < w.heap.size := by
  obtain ⟨T, o, h, _⟩ := h
  exact (Array.getElem?_eq_some_iff.1 h).1
theorem MP.below {w w' : World} {b : Nat} {t : Tr} (h : MP w b t) (hb : Below w.heap.size w w') : MP w' b t := by
  obtain ⟨T, o, h, ht⟩ := h
  exact ⟨T, o, by rw [hb.block b (Array.getElem?_eq_some_iff.1 h).1]; exact h, TP.below hb ht⟩
/-- A map stands when another one turns. -/
theorem MP.only {w w' : World} {b c : Nat} {t : Tr} {u v : Value} {T0 : TypeId} (h : MP w b t) (hc : w.heap[c]? = some (.cells #[u, v] T0 (0, 0))) (ho : Only c w w') (hne : b ≠ c) : MP w' b t := by
  have hlt := h.lt
  obtain ⟨T, o, h, ht⟩ := h
  exact ⟨T, o, by rw [ho.2 b hlt hne]; exact h, TP.only hc ho ht⟩
theorem MP.two {w : World} {b : Nat} {t : Tr} (h : MP w b t) : ∃ u v T, w.heap[b]? = some (.cells #[u, v] T (0, 0)) := by
  obtain ⟨T, o, h, _⟩ := h
  exact ⟨_, _, T, h⟩
theorem two_setCell {w : World} {b : Nat} {x y u : Value} {T : TypeId} (h : w.heap[b]? = some (.cells #[x, y] T (0, 0))) :
    (w.setCell ⟨b, 0, none⟩ u).heap[b]? = some (.cells #[u, y] T (0, 0)) ∧ (w.setCell ⟨b, 1, none⟩ u).heap[b]? = some (.cells #[x, u] T (0, 0)) := by
  have hlt := (Array.getElem?_eq_some_iff.1 h).1
  have h' : w.heap[b] = .cells #[x, y] T (0, 0) := by simpa [Array.getElem?_eq_getElem hlt] using h
  constructor
  · show (w.heap.modify b _)[b]? = _
    rw [Array.getElem?_eq_getElem (by simpa using hlt), Array.getElem_modify_self, h']
    rfl
  · show (w.heap.modify b _)[b]? = _
    rw [Array.getElem?_eq_getElem (by simpa using hlt), Array.getElem_modify_self, h']
    rfl
theorem len_put (k x : Value) : ∀ t : Tr, (prs (putT k x t)).length = (prs t).length + if newT k t = true then 1 else 0
  | .nil => by simp [putT, newT, prs]
  | .node l k' x' n r => by
    unfold putT newT
    split
    · rw [prs_join, prs_node, List.length_append, List.length_append, len_put k x l]; omega
    · split
      · rw [prs_join, prs_node, List.length_append, List.length_append, List.length_cons, List.length_cons, len_put k x r]; omega
      · rw [prs_node, prs_node]; simp
theorem getT_eq {K V : Value → Prop} (O : Ord K) {k : Value} (hk : K k) : ∀ {t : Tr}, WS K V t → Ris (prs t) → getT k t = getL k (prs t)
  | .nil, _, _ => rfl
  | .node l k' x' n r, h, hr => by
    obtain ⟨_, a1, a2, a3, a4⟩ := h
    rw [prs_node, ris_app] at hr
    obtain ⟨r1, r2, r3⟩ := hr
    have hlk : ∀ p ∈ prs l, K p.1 ∧ lessV p.1 k' = true := fun p hp => ⟨(ws_keys a3 p hp).1, r3 p hp (k', x') (List.mem_cons_self ..)⟩
    have right : ∀ (a b : List (Value × Value)), (∀ p ∈ a, lessV k p.1 = false ∧ lessV p.1 k = true) → getL k (a ++ b) = getL k b := by
      intro a b ha
      induction a with
      | nil => rfl
      | cons p a ih =>
        obtain ⟨c, y⟩ := p
        have h0 := ha (c, y) (List.mem_cons_self ..)
        simp only [List.cons_append, getL, h0.1, h0.2, Bool.false_eq_true, if_false, if_true]
        exact ih (fun p hp => ha p (List.mem_cons_of_mem _ hp))
    have left : ∀ (a b : List (Value × Value)), lessV k k' = true → getL k (a ++ (k', x') :: b) = getL k a := by
      intro a b g
      induction a with
      | nil => simp [getL, g]
      | cons p a ih =>
        obtain ⟨c, y⟩ := p
        simp only [List.cons_append, getL, ih]
    unfold getT
    rw [prs_node]
    split
    · next g => rw [getT_eq O hk a3 r1, left _ _ g]
    · next g =>
      have g' : lessV k k' = false := by simpa using g
      split
      · next g2 =>
        rw [getT_eq O hk a4 r2.2, right _ _ (fun p hp => by
          have q1 := O.tr p.1 k' k (hlk p hp).1 a1 hk (hlk p hp).2 g2
          exact ⟨O.asym (hlk p hp).1 hk q1, q1⟩)]
        simp only [getL, g', g2, Bool.false_eq_true, if_false, if_true]
      · next g2 =>
        have g2' : lessV k' k = false := by simpa using g2
        have e := O.tot k k' hk a1 g' g2'
        subst e
        rw [right _ _ (fun p hp => ⟨O.asym (hlk p hp).1 hk (hlk p hp).2, (hlk p hp).2⟩)]
        simp only [getL, g', Bool.false_eq_true, if_false]
/-- What a map's Put leaves. -/
def MapPost (b : Nat) (t : Tr) (z : Bool) (w : World) (e : Ending) (w' : World) : Prop := e = .returned (.bool z) ∧ MP w' b t ∧ Only b w w' ∧ Below b w w'
end Go.Proofs.Ytcgjiddiegepkaa
