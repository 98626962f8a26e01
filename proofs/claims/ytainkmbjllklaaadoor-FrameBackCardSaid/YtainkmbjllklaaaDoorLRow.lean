/- Rows of slices of bytes of the call's own: each reads as some bytes. -/
import Derived.Test.YtainkmbjllklaaaDoorKit
import Derived.Test.YtainkmbjllklaaaDoorRangeV
namespace Go.Proofs.YtainkmbjllklaaaDoor
open Go.RowKit

/-- Each of some slices is of the call's own, and reads as its bytes. -/
structure Each (E : TypeId) (n0 : Nat) (W : World) (vs : List Value) (rs : List (List UInt8)) : Prop where
  len : vs.length = rs.length
  own : ∀ i (h : i < vs.length) (h' : i < rs.length), Own E W n0 vs[i] rs[i]
theorem Each.nil (E : TypeId) (n0 : Nat) (W : World) : Each E n0 W [] [] := ⟨rfl, fun _ h => absurd h (Nat.not_lt_zero _)⟩
section
variable {E : TypeId} {n0 : Nat} {W W' : World} {vs : List Value} {rs : List (List UInt8)}
theorem Each.kept {row : Option Nat} (h : Each E n0 W vs rs) (hg : W.grownBy W' row) (hr : ∀ i (h : i < vs.length), vs[i].ownBlock = none ∨ vs[i].ownBlock ≠ row) : Each E n0 W' vs rs :=
  ⟨h.len, fun i h1 h2 => (h.own i h1 h2).kept hg (hr i h1)⟩
/-- Rows of unlike types lie apart. -/
theorem rowsApart {W : World} {b b' : Nat} {e e' : TypeId} {s s' k k' : Nat} {v v' : Value} {xs xs' : List Value} (h : W.ownsRow b e s v k xs) (h' : W.ownsRow b' e' s' v' k' xs') (hne : e ≠ e') : v.ownBlock = none ∨ v.ownBlock ≠ v'.ownBlock := by
  rcases h.2 with ⟨rfl, _⟩ | ⟨g, cap, cur, rfl, _, hg, _⟩
  · exact .inl rfl
  · rcases h'.2 with ⟨rfl, _⟩ | ⟨g', cap', cur', rfl, _, hg', _⟩
    · exact .inr (by simp [Value.ownBlock])
    · refine .inr fun q => ?_
      obtain rfl : g = g' := by simpa [Value.ownBlock] using q
      rw [hg] at hg'
      simp at hg'
      exact hne hg'.2
theorem Each.apart {b k : Nat} {e : TypeId} {v : Value} {xs : List Value} (h : Each E n0 W vs rs) (hrow : W.ownsRow b e 1 v k xs) (hne : E ≠ e) (hg : W.grownBy W' v.ownBlock) : Each E n0 W' vs rs :=
  h.kept hg fun i h1 => rowsApart (h.own i h1 (by rw [← h.len]; exact h1)) hrow hne
theorem Each.alloc (h : Each E n0 W vs rs) (o : Obj) : Each E n0 (W.alloc o) vs rs := ⟨h.len, fun i h1 h2 => (h.own i h1 h2).alloc o⟩
theorem Each.below {B : Nat} (h : Each E n0 W vs rs) (hb : Below B W W') (hB : W.heap.size ≤ B) : Each E n0 W' vs rs := ⟨h.len, fun i h1 h2 => (h.own i h1 h2).below hb hB⟩
theorem Each.mono {n1 : Nat} (h : Each E n0 W vs rs) (hn : n1 ≤ n0) : Each E n1 W vs rs := ⟨h.len, fun i h1 h2 => (h.own i h1 h2).mono hn⟩
theorem Each.set {B : Nat} (h : Each E n0 W vs rs) (hB : B < n0) (u : Value) : Each E n0 (W.setCell ⟨B, 0, none⟩ u) vs rs :=
  h.kept (grownBy_setCell' W B u) fun i h1 => .inr fun e => by have := (h.own i h1 (by rw [← h.len]; exact h1)).base B e; omega
theorem Each.snoc {v : Value} {r : List UInt8} (h : Each E n0 W vs rs) (hv : Own E W n0 v r) : Each E n0 W (vs ++ [v]) (rs ++ [r]) := by
  refine ⟨by simp [h.len], fun i h1 h2 => ?_⟩
  by_cases hi : i < vs.length
  · rw [List.getElem_append_left hi, List.getElem_append_left (by rw [← h.len]; exact hi)]
    exact h.own i hi _
  · simp at h1
    have hi' : i = vs.length := by omega
    subst hi'
    have e : rs.length = vs.length := h.len.symm
    rw [List.getElem_append_right (Nat.le_refl _), List.getElem_append_right (by omega)]
    simp [e]
    exact hv
theorem own_ownT {Tw : TypeId → Prop} (hE : ¬ Tw E) {v : Value} {l : List UInt8} {b : Nat} {row : Option Nat} (h : Own E W b v l) (hr : ∀ r, row = some r → ∃ o : Obj, W.heap[r]? = some o ∧ (o.isCells = false ∨ ∃ c T p, o = .cells c T p ∧ Tw T)) : v.ownBlock = none ∨ v.ownBlock ≠ row := by
  rcases h.2 with ⟨rfl, _⟩ | ⟨g, cap, cur, rfl, _, hgb, _⟩
  · exact .inl rfl
  · refine .inr fun e' => ?_
    obtain ⟨o, ho, hc⟩ := hr g (by simpa [Value.ownBlock] using e'.symm)
    rw [hgb] at ho
    cases ho
    rcases hc with hc | ⟨c, T, p, hc, hT'⟩
    · cases hc
    · cases hc; exact hE hT'
/-- A box that holds a row of such slices. -/
def BoxL (n0 B : Nat) (T S E : TypeId) (W : World) (rs : List (List UInt8)) : Prop := ∃ vs, BoxRow n0 B T S W vs ∧ Each E n0 W vs rs
theorem boxL_ownT {Tw : TypeId → Prop} {β : Type} (n0 B : Nat) (T S E : TypeId) (f : β → List (List UInt8)) (hT : ¬ Tw T) (hS : ¬ Tw S) (hE : ¬ Tw E) : OwnT Tw (fun s W => BoxL n0 B T S E W (f s)) := by
  rintro s X Y row ⟨vs, hv, he⟩ hg hrow
  exact ⟨vs, boxRow_ownT (β := Unit) n0 B T S (fun _ => vs) hT hS () X Y row hv hg hrow, he.kept hg fun i h1 => own_ownT hE (he.own i h1 (by rw [← he.len]; exact h1)) hrow⟩
theorem boxL_nil {B : Nat} {T S : TypeId} (h : Boxed W B T (.slice none 0 0)) : BoxL n0 B T S E W [] := ⟨[], ⟨_, h, World.ownsRow_nil _ _ _ _⟩, Each.nil _ _ _⟩
/-- What lies between two marks lies as it lay. -/
structure Mid (a b : Nat) (X W : World) : Prop where
  sz : b ≤ X.heap.size
  same : ∀ k, a ≤ k → k < b → W.heap[k]? = X.heap[k]?
theorem Mid.refl {a b : Nat} {X : World} (h : b ≤ X.heap.size) : Mid a b X X := ⟨h, fun _ _ _ => rfl⟩
theorem Mid.grown {a b : Nat} {X : World} {row : Option Nat} (h : Mid a b X W) (hs : b ≤ W.heap.size) (hg : W.grownBy W' row) (hr : ∀ r, row = some r → r < a ∨ b ≤ r) : Mid a b X W' :=
  ⟨h.sz, fun k h1 h2 => (hg.block k (by omega) (fun e => by rcases hr k e.symm with h | h <;> omega)).trans (h.same k h1 h2)⟩
theorem Mid.box {a b : Nat} {X : World} {B : Nat} {T : TypeId} {v : Value} (h : Mid a b X W) (hb : Boxed X B T v) (h1 : a ≤ B) (h2 : B < b) : Boxed W B T v := (h.same B h1 h2).trans hb
theorem Mid.own {a b : Nat} {X : World} {v : Value} {l : List UInt8} (h : Mid a b X W) (ho : Own E X a v l) (hb : b = X.heap.size) : Own E W a v l := by
  refine ⟨ho.1, ?_⟩
  rcases ho.2 with hn | ⟨g, cap, cur, rfl, h1, hg, rest⟩
  · exact .inl hn
  · exact .inr ⟨g, cap, cur, rfl, h1, (h.same g h1 (by rw [hb]; exact (Array.getElem?_eq_some_iff.1 hg).1)).trans hg, rest⟩
theorem mid_ownT {Tw : TypeId → Prop} {β : Type} {a b B : Nat} {X : World} (hB : b ≤ B) (hs : ∀ W, Mid a b X W → b ≤ W.heap.size) : OwnFromT Tw B (fun (_ : β) W => Mid a b X W) :=
  fun _ W _ _ h hg hr => h.grown (hs W h) hg (fun r e => .inr (Nat.le_trans hB (hr r e).1))
theorem Mid.size {a b : Nat} {X : World} (h : Mid a b X W) (hab : a < b) : b ≤ W.heap.size := by
  have h1 := h.same (b - 1) (by omega) (by omega)
  have h2 : b - 1 < X.heap.size := by have := h.sz; omega
  rw [Array.getElem?_eq_getElem h2] at h1
  have := (Array.getElem?_eq_some_iff.1 h1).1
  omega
end
/-- The same, of whoever ranges with less to say. -/
theorem SeqsV.mono {α : Type} {Tw : TypeId → Prop} {P : Program} {gf : Nat} {lb : Array Value} {R R' : α → Array Value → World → Prop} {Ok Ok' : World → Prop} {Wr : TypeId → Prop} {xs : List α} {W : World}
    (h : SeqsV Tw P gf lb R' Ok' Wr xs W) (hR : ∀ x args W, R' x args W → R x args W) (hOk : ∀ W, Ok W → Ok' W) : SeqsV Tw P gf lb R Ok Wr xs W :=
  fun l J Jx h1 h2 h3 h4 h5 => h l J Jx h1 h2 (fun pre W1 hj => hOk _ (h3 pre W1 hj)) (fun pre x args W1 hj hr hx => h4 pre x args W1 hj (hR x args W1 hr) hx) h5
end Go.Proofs.YtainkmbjllklaaaDoor
