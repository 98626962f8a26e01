/- FrameJoins: two rows of frames as they grow. -/
import Derived.Test.YtainkmbjllklaaaDoorFFirst
namespace Go.Proofs.YtainkmbjllklaaaDoor
open Go.RowKit

/-- Two rows of bytes of the call's own, the second begun when the first one is whole. -/
structure JInv (W wr : World) (x y : Value) (X Y : List UInt8) (begun : Prop) : Prop where
  ox : Own 5 wr W.heap.size x X
  oy : ∃ M, W.heap.size ≤ M ∧ M ≤ wr.heap.size ∧ (∀ j, x.ownBlock = some j → j < M) ∧ Own 5 wr M y Y ∧ (¬ begun → y = .slice none 0 0 ∧ Y = [])
  bel : Below W.heap.size W wr
theorem JInv.start (W w : World) (hb : Below W.heap.size W w) (p : Prop) : JInv W w (.slice none 0 0) (.slice none 0 0) [] [] p :=
  ⟨Own.nil _ _ _, ⟨w.heap.size, hb.size, Nat.le_refl _, (fun j e => by simp [Value.ownBlock] at e), Own.nil _ _ _, fun _ => ⟨rfl, rfl⟩⟩, hb⟩
theorem JInv.below {W wr w' : World} {x y : Value} {X Y : List UInt8} {p : Prop} (h : JInv W wr x y X Y p) (hb : Below wr.heap.size wr w') : JInv W w' x y X Y p := by
  obtain ⟨M, h1, h2, h3, h4, h5⟩ := h.oy
  exact ⟨h.ox.below hb (Nat.le_refl _), ⟨M, h1, Nat.le_trans h2 hb.size, h3, h4.below hb (Nat.le_refl _), h5⟩, h.bel.trans (hb.mono h.bel.size)⟩
theorem JInv.firstBegun {W wr : World} {x y : Value} {X Y : List UInt8} {p q : Prop} (h : JInv W wr x y X Y p) (hq : p → q) : JInv W wr x y X Y q := by
  obtain ⟨M, h1, h2, h3, h4, h5⟩ := h.oy
  exact ⟨h.ox, ⟨M, h1, h2, h3, h4, fun hn => h5 fun hp => hn (hq hp)⟩, h.bel⟩
theorem JInv.appX {W wr w' : World} {x y x' : Value} {X Y F : List UInt8} {p q : Prop} (h : JInv W wr x y X Y p) (hp : ¬ p) (ho : Own 5 w' W.heap.size x' (X ++ F)) (hg : wr.grownBy w' x.ownBlock) : JInv W w' x' y (X ++ F) Y q := by
  obtain ⟨M, h1, h2, h3, h4, h5⟩ := h.oy
  obtain ⟨rfl, rfl⟩ := h5 hp
  have hb := h.ox.grows hg (Nat.le_refl _) h.bel.size
  exact ⟨ho, ⟨w'.heap.size, Nat.le_trans h.bel.size hg.size, Nat.le_refl _, fun j e => (ho.base j e).2, Own.nil _ _ _, fun _ => ⟨rfl, rfl⟩⟩, h.bel.trans hb⟩
/-- What holds of the second one for an append. -/
theorem JInv.second {W wr : World} {x y : Value} {X Y : List UInt8} {p : Prop} (h : JInv W wr x y X Y p) : ∃ M, M ≤ wr.heap.size ∧ Own 5 wr M y Y ∧
    ∀ w' y' F, Own 5 w' M y' (Y ++ F) → wr.grownBy w' y.ownBlock → JInv W w' x y' X (Y ++ F) True := by
  obtain ⟨M, h1, h2, h3, h4, h5⟩ := h.oy
  refine ⟨M, h2, h4, fun w' y' F ho hg => ?_⟩
  have hb := h4.grows hg (Nat.le_refl _) h2
  refine ⟨h.ox.kept hg ?_, ⟨M, h1, Nat.le_trans h2 hg.size, h3, ho, fun hn => absurd trivial hn⟩, h.bel.trans (hb.mono h1)⟩
  cases hx : x.ownBlock with
  | none => exact .inl rfl
  | some j => exact .inr fun e => by have := h3 j hx; have := (h4.base j e.symm).1; omega
theorem frms_snoc (l : List (List UInt8)) (p : List UInt8) : frms (l ++ [p]) = frms l ++ frmL p := by rw [frms_append]; simp [frms]
theorem frms_le : ∀ (l : List (List UInt8)), (∀ p ∈ l, p.length ≤ 250) → (frms l).length ≤ 256 * l.length
  | [], _ => by simp [frms]
  | p :: t, h => by
    have h1 := frms_le t (fun q hq => h q (List.mem_cons_of_mem _ hq))
    have h2 := h p (by simp)
    simp [frms, frmL_len]; omega
/-- The bytes that hide what stands behind them. -/
theorem recL_hide (a b : List UInt8) : recL (a ++ ([255, 255, 0, 0, 0, 0] ++ b)) a.length = none := by
  have hw : win (a ++ ([255, 255, 0, 0, 0, 0] ++ b)) a.length 2 = [255, 255] := by
    have := win_at a [255, 255] ([0, 0, 0, 0] ++ b)
    simpa using this
  unfold recL
  rw [hw, if_neg (by simp), if_pos (Or.inl (by decide))]
/-- A row of bytes built at once. -/
theorem Rd.built (E : TypeId) (w : World) (l : List UInt8) (hl : l.length ≤ 1000) : Rd (w.alloc (.cells (l.map bv).toArray E)) (.slice (some ⟨w.heap.size, 0, none⟩) l.length l.length) l := by
  refine ⟨_, l.length, rfl, Nat.le_refl _, by unfold maxLen; omega, (fun h => by cases h), fun _ => ⟨w.heap.size, 0, rfl, fun i hi => ?_⟩⟩
  have h := World.alloc_heap_new w (.cells (l.map bv).toArray E)
  rw [Nat.zero_add, cell_of_row _ w.heap.size i _ E (0, 0) h]
  simp [hi]
theorem all_two (la lb : List (List UInt8)) (X Y : List UInt8) (hX : X = frms la) (hY : Y = frms lb) (hs : ∀ p ∈ la ++ lb, p.length ≤ 60000) (u : Value) (w : World) (hu : Rd w u (X ++ Y)) (ht : Tab w) (h1 : X.length ≤ 20000000) (h2 : Y.length ≤ 20000000) :
    Calls Tryd.prog 10 #[u] w fun e w' => ∃ v, e = .returned (.tuple #[v, .int .i64 ((X.length : Int) + (Y.length : Int))]) ∧ LRd w' v (la ++ lb) ∧ Below w.heap.size w w' := by
  have e0 : X ++ Y = frms (la ++ lb) := by rw [hX, hY, frms_append]
  have hall := all_just (la ++ lb) hs
  rw [← e0] at hall
  refine (all_any u (X ++ Y) w hu ht (by simp; omega)).mono ?_
  rintro e w' ⟨v, rfl, ⟨vs, hrow, he⟩, hb⟩
  rw [hall.1] at he
  rw [hall.2]
  exact ⟨v, by simp, LRd.of_row hrow he, hb⟩
theorem all_hide (la : List (List UInt8)) (X Y : List UInt8) (hX : X = frms la) (hs : ∀ p ∈ la, p.length ≤ 60000) (u : Value) (w : World) (hu : Rd w u (X ++ [255, 255, 0, 0, 0, 0] ++ Y)) (ht : Tab w) (h1 : X.length ≤ 20000000) (h2 : Y.length ≤ 20000000) :
    Calls Tryd.prog 10 #[u] w fun e w' => ∃ v, e = .returned (.tuple #[v, .int .i64 (X.length : Int)]) ∧ LRd w' v la ∧ Below w.heap.size w w' := by
  have hall := all_frms la ([255, 255, 0, 0, 0, 0] ++ Y) hs (recL_hide _ _)
  rw [← hX, ← List.append_assoc] at hall
  refine (all_any u (X ++ [255, 255, 0, 0, 0, 0] ++ Y) w hu ht (by simp; omega)).mono ?_
  rintro e w' ⟨v, rfl, ⟨vs, hrow, he⟩, hb⟩
  rw [hall.1] at he
  rw [hall.2]
  exact ⟨v, rfl, LRd.of_row hrow he, hb⟩
end Go.Proofs.YtainkmbjllklaaaDoor
