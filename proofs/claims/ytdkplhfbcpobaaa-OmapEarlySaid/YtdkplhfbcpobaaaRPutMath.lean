/- hbllaw2's rows: what put does to them; an append of elements of several cells. -/
import Derived.Test.YtdkplhfbcpobaaaRowsMath
import Derived.Test.YtdkplhfbcpobaaaTwoRows
import Derived.Laws.AppendOwnNone
namespace Go.Proofs.Ytdkplhfbcpobaaa
open Go.RowKit

/-- What is appended: m elements. -/
def SrcN (w : World) (v : Value) (m : Nat) (l : List Value) : Prop :=
  ∃ (a : Option Addr) (cap : Nat), v = .slice a m cap ∧ (a = none → cap = 0 ∧ m = 0) ∧ (l ≠ [] → ∃ b off, a = some ⟨b, off, none⟩ ∧ ∀ i (h : i < l.length), w.cell? ⟨b, off + i, none⟩ = some l[i])
theorem step_appendN {F : Fence} {n : Nat} {P : Program} {w : World} {ops : Array Oper} {o : Oper} {a : Act} {K : Act → World → Prop} {Q : Exit → Act → World → Prop} {N : Prop} (hg : o.guard = none) (s x : Operand) (t : TypeId)
    (hop : o.op = Op.call { callee := Callee.builtin Builtin.append, args := #[s, x], argTypes := #[t, t] }) {base : Nat} {e : TypeId} {i : TypeInfo} {z : Value} {size bytes : Nat} (h1 : P.underlying t = some (.slice e)) (h2 : P.info? e = some i) (h3 : i.zero = some z) (h4 : i.size = size) (h5 : i.bytes = bytes)
    (h6 : z.cells.size = size) (h7 : 0 < size) {v : Value} {k m : Nat} {xs news : List Value} (hs : a.eval s = v) (hown : w.ownsRow base e size v k xs) (hy : SrcN w (a.eval x) m news) (hn : news.length = m * size) (hu : ∀ u ∈ news, u.oneCell' = true)
    (b1 : k + m ≤ maxLen) (b2 : (k + m) * bytes ≤ 140737488355328) (b3 : base ≤ w.heap.size)
    (hK : ∀ v' w', w'.ownsRow base e size v' (k + m) (xs ++ news) → w.grownBy w' v.ownBlock → K (a.put o.dst v') w') :
    if Region.wanted o (yielded ops a.tmps) = true then Oper.wpIn F n P o a w K Q else N := by
  have hw : Region.wanted o (yielded ops a.tmps) = true := by simp [Region.wanted, hg]
  rw [if_pos hw]
  have main : ∃ v' w', (Builtin.append_ #[t, t] o.type #[v, a.eval x]).run P w = .ok v' w' ∧ w'.ownsRow base e size v' (k + m) (xs ++ news) ∧ w.grownBy w' v.ownBlock := by
    obtain ⟨ad, cap, hx, hc1, hc2⟩ := hy
    rw [hx]
    cases ad with
    | none =>
      obtain ⟨rfl, rfl⟩ := hc1 rfl
      have hm : news = [] := List.eq_nil_of_length_eq_zero (by simpa using hn)
      subst hm
      exact ⟨v, w, run_append_owned_none (P := P) (w := w) base t o.type e i size h1 h2 v k xs hown, by simpa using hown, rfl, rfl, rfl, Nat.le_refl _, fun _ _ _ => rfl⟩
    | some ad =>
      obtain ⟨v', w', q1, q2, q3, _⟩ := run_append_own (P := P) w base t o.type e i z size bytes h1 h2 h3 h4 h5 h6 h7 v k xs hown ad m cap news hn (fun j u hj => by
        have hjm : j < news.length := (List.getElem?_eq_some_iff.1 hj).1
        obtain ⟨b, off, hab, hcell⟩ := hc2 (by intro e; subst e; simp at hjm)
        simp only [Option.some.injEq] at hab
        subst hab
        rw [Addr.add_lit, hcell j hjm]
        simpa [hjm] using hj) hu b1 b2 b3
      exact ⟨v', w', q1, q2, q3⟩
  obtain ⟨v', w', hrun, r1, r2⟩ := main
  unfold Oper.wpIn
  refine ⟨by simp [Oper.about, hop, resolve, Target.leads, Sem.run_pure], ?_⟩
  rw [Oper.semAt_plain F _ _ (by rw [hop]; intro c hc'; cases hc')]
  simp [execOp, hop, resolve, invoke, builtin, hs, hrun, Result.andThen]
  exact hK v' w' r1 r2
theorem row_eq {W : World} {base k size : Nat} {e : TypeId} {v v' : Value} {xs : List Value} (h : W.ownsRow base e size v k xs) (q : v' = v) : W.ownsRow base e size v' k xs := by rw [q]; exact h
theorem bndR (a b : Nat) (ha : a ≤ 3000000) (hb : b ≤ 3000000) : a + b ≤ maxLen ∧ (a + b) * 24 ≤ 140737488355328 := by
  refine ⟨?_, by omega⟩
  unfold maxLen
  omega
theorem news_one (k : Int) (v : List UInt8) (l : List (Int × List UInt8)) : ∀ u ∈ [.int .i64 k, str v] ++ flatR l, u.oneCell' = true := flatR_one ((k, v) :: l)
theorem srcN_eq {W : World} {v v' : Value} {m : Nat} {l : List Value} (h : SrcN W v m l) (e : v' = v) : SrcN W v' m l := by rw [e]; exact h
theorem srcN_end {W : World} (a : Addr) (c : Nat) : SrcN W (.slice (some a) 0 c) 0 [] := ⟨_, c, rfl, fun e => (by cases e), fun h => absurd rfl h⟩
theorem srcN_nil {W : World} : SrcN W (.slice none 0 0) 0 [] := ⟨none, 0, rfl, fun _ => ⟨rfl, rfl⟩, fun h => absurd rfl h⟩
/-- A row of the call's own as what is appended. -/
theorem srcN_row {W : World} {base k : Nat} {e : TypeId} {v : Value} {xs : List Value} (h : W.ownsRow base e 2 v k xs) : SrcN W v k xs := by
  have hk : xs.length = k * 2 := h.1
  rcases h.2 with ⟨rfl, h0⟩ | ⟨g, cap, cur, rfl, _, hg, h1, h2, h3, h4⟩
  · subst h0
    obtain rfl : xs = [] := List.eq_nil_of_length_eq_zero (by omega)
    exact srcN_nil
  · refine ⟨_, cap, rfl, fun e => (by cases e), fun _ => ⟨g, 0, rfl, fun i hi => ?_⟩⟩
    rw [Nat.zero_add, cell_of_row W g i cur _ (0, 0) hg]
    obtain ⟨y, hy⟩ : ∃ y, y = xs[i] := ⟨_, rfl⟩
    have e1 : xs[i]? = some y := by simp [hi, hy]
    rw [← hy]
    have e2 := congrArg (fun z => z[i]?) h4
    simp only [List.getElem?_take] at e2
    rw [if_pos (by omega), e1] at e2
    simpa using e2
/-- The first elements of a row. -/
theorem row_take2 {W : World} {base g n cap : Nat} {e : TypeId} {xs : List Value} (h : W.ownsRow base e 2 (.slice (some ⟨g, 0, none⟩) n cap) n xs) {k : Nat} (hk : k ≤ n) : W.ownsRow base e 2 (.slice (some ⟨g, 0, none⟩) k cap) k (xs.take (k * 2)) := by
  have hl := h.1
  rcases h.2 with ⟨h', _⟩ | ⟨g', cap', cur, h', hb, hg, h1, h2, h3, h4⟩
  · simp at h'
  · simp only [Value.slice.injEq, Option.some.injEq, Addr.mk.injEq, and_true] at h'
    obtain ⟨rfl, _, rfl⟩ := h'
    refine ⟨by simp; omega, .inr ⟨g, cap, cur, rfl, hb, hg, by omega, h2, h3, ?_⟩⟩
    rw [← h4, List.take_take]
    congr 1
    simp
    omega
/-- What put leaves elsewhere. -/
structure FrR (W W' : World) (bx base : Nat) (vo : Value) : Prop where
  bel : ∀ c, c ≤ bx → c ≤ base → Below c W W'
  size : W.heap.size ≤ W'.heap.size
  other : ∀ k, k < W.heap.size → k ≠ bx → some k ≠ vo.ownBlock → W'.heap[k]? = W.heap[k]?
/-- Rows under way: the box and the row as they stood, in a world that has grown. -/
structure RSt (W₀ W : World) (bx base : Nat) (vo : Value) (rl : List (Int × List UInt8)) : Prop where
  box : Boxed W bx 29 vo
  row : W.ownsRow base 39 2 vo rl.length (flatR rl)
  fr : FrR W₀ W bx base vo
  sz : base ≤ W₀.heap.size
  lt : bx < W₀.heap.size ∧ bx < base
  own : ∀ k, vo.ownBlock = some k → base ≤ k ∧ k < W₀.heap.size
theorem RSt.start {W : World} {bx base : Nat} {vo : Value} {rl : List (Int × List UInt8)} (h : RowsP W bx base vo rl) (hbb : bx < base) : RSt W W bx base vo rl :=
  ⟨h.box, h.row, ⟨fun _ _ _ => Below.refl _ _, Nat.le_refl _, fun _ _ _ _ => rfl⟩, h.sz, ⟨(Array.getElem?_eq_some_iff.1 h.box).1, hbb⟩, h.row.lt⟩
section
variable {W₀ W W' : World} {bx base : Nat} {vo : Value} {rl : List (Int × List UInt8)}
theorem RSt.grown {row : Option Nat} (h : RSt W₀ W bx base vo rl) (hg : W.grownBy W' row) (hr : ∀ k, row = some k → W₀.heap.size ≤ k) : RSt W₀ W' bx base vo rl := by
  have hne : ∀ j, j < W₀.heap.size → some j ≠ row := fun j hj e => by have := hr j e.symm; omega
  have hsz := h.fr.size
  refine ⟨h.box.kept hg (hne _ h.lt.1), h.row.kept hg ?_, ⟨fun c h1 h2 => (h.fr.bel c h1 h2).grown hg (by have := h.sz; omega) (fun k e => by have := hr k e; have := h.sz; omega), Nat.le_trans hsz hg.size, fun k h1 h2 h3 => ?_⟩, h.sz, h.lt, h.own⟩
  · cases hv : vo.ownBlock with
    | none => exact .inl rfl
    | some j => exact .inr (hne j (h.own j hv).2)
  · rw [hg.block k (by omega) (hne k h1)]
    exact h.fr.other k h1 h2 h3
theorem RSt.alloc (h : RSt W₀ W bx base vo rl) (o : Obj) : RSt W₀ (W.alloc o) bx base vo rl := h.grown (World.grownBy_alloc W o none) (fun _ e => by cases e)
theorem RSt.drewN (h : RSt W₀ W bx base vo rl) (n : Nat) : RSt W₀ (W.drewN n) bx base vo rl := h.grown (row := none) ⟨rfl, rfl, rfl, Nat.le_refl _, fun _ _ _ => rfl⟩ (fun _ e => by cases e)
/-- The new row. -/
theorem RSt.temp (h : RSt W₀ W bx base vo rl) (k : Int) (v : List UInt8) : RSt W₀ (W.alloc (.cells #[.int .i64 k, str v] 39)) bx base vo rl ∧
    (W.alloc (.cells #[.int .i64 k, str v] 39)).ownsRow base 39 2 (.slice (some ⟨W.heap.size, 0, none⟩) 1 1) 1 [.int .i64 k, str v] ∧ W₀.heap.size ≤ W.heap.size :=
  ⟨h.alloc _, World.ownsRow_lit (e := 39) (size := 2) W #[.int .i64 k, str v] 1 (Nat.le_trans h.sz h.fr.size) (by decide) rfl, h.fr.size⟩
/-- What stands behind p. -/
theorem RSt.src {g cap p : Nat} (h : RSt W₀ W bx base (.slice (some ⟨g, 0, none⟩) rl.length cap) rl) (hp : p < rl.length) : SrcN W (.slice (some ⟨g, p * 2, none⟩) (rl.length - p) (cap - p)) (rl.length - p) (flatR (rl.drop p)) := by
  refine ⟨_, cap - p, rfl, fun e => (by cases e), fun _ => ⟨g, p * 2, rfl, fun i hi => ?_⟩⟩
  rcases h.row.2 with ⟨h', _⟩ | ⟨g', cap', cur, h', hb, hg, h1, h2, h3, h4⟩
  · simp at h'
  · simp only [Value.slice.injEq, Option.some.injEq, Addr.mk.injEq, and_true] at h'
    obtain ⟨rfl, _, rfl⟩ := h'
    rw [cell_of_row W g _ cur _ (0, 0) hg]
    obtain ⟨y, hy⟩ : ∃ y, y = (flatR (rl.drop p))[i] := ⟨_, rfl⟩
    rw [← hy]
    have e1 : (flatR (rl.drop p))[i]? = some y := by simp [hi, hy]
    rw [← flatR_drop, List.getElem?_drop] at e1
    have hlt : p * 2 + i < rl.length * 2 := by rw [flatR_len, List.length_drop] at hi; omega
    have e2 := congrArg (fun z => z[p * 2 + i]?) h4
    simp only [List.getElem?_take] at e2
    rw [if_pos (by omega), e1] at e2
    simpa using e2
/-- All done: the box turns. -/
theorem RSt.done {w4 : World} {dst v2 : Value} {rl' : List (Int × List UInt8)} (h : RSt W₀ W bx base vo rl) (hd : dst.ownBlock = none ∨ dst.ownBlock = vo.ownBlock) (hg : W.grownBy w4 dst.ownBlock)
    (hr : w4.ownsRow base 39 2 v2 rl'.length (flatR rl')) (hR : RisK rl') : RowsP (w4.setCell ⟨bx, 0, none⟩ v2) bx base v2 rl' ∧ FrR W₀ (w4.setCell ⟨bx, 0, none⟩ v2) bx base vo := by
  have hb4 : Boxed w4 bx 29 vo := h.box.kept hg (fun e => by
    rcases hd with hd | hd
    · rw [hd] at e; cases e
    · rw [hd] at e; have := (h.own bx e.symm).1; have := h.lt.2; omega)
  have hown : ∀ k, dst.ownBlock = some k → base ≤ k := fun k e => by
    rcases hd with hd | hd
    · rw [hd] at e; cases e
    · rw [hd] at e; exact (h.own k e).1
  have hs := h.fr.size
  have hg2 := grownBy_setCell' w4 bx v2
  refine ⟨⟨hb4.set v2, hr.kept hg2 (.inr fun e => by have := (hr.lt bx e).1; have := h.lt.2; omega), hR, ?_⟩, ⟨fun c h1 h2 => ?_, ?_, fun k h1 h2 h3 => ?_⟩⟩
  · have := hg.size; have := h.sz; simp [World.setCell]; omega
  · exact ((h.fr.bel c h1 h2).grown hg (by have := h.sz; omega) (fun k e => by have := hown k e; omega)).setCell (p := ⟨bx, 0, none⟩) h1 v2
  · have := hg.size; simp [World.setCell]; omega
  · rw [Below.heap_setCell _ _ _ _ h2, hg.block k (by omega) (fun e => by
      rcases hd with hd | hd
      · rw [hd] at e; cases e
      · rw [hd] at e; exact h3 e)]
    exact h.fr.other k h1 h2 h3
theorem flatR_set (v : List UInt8) : ∀ (l : List (Int × List UInt8)) (p : Nat) (h : p < l.length), (flatR l).set (p * 2 + 1) (str v) = flatR (l.take p ++ (l[p].1, v) :: l.drop (p + 1))
  | a :: t, 0, _ => by simp [flatR]
  | a :: t, p + 1, h => by
    have e : (p + 1) * 2 + 1 = (p * 2 + 1) + 1 + 1 := by omega
    have := flatR_set v t p (by simpa using h)
    simp only [flatR, e, List.set_cons_succ, List.take_succ_cons, List.cons_append, List.drop_succ_cons, List.getElem_cons_succ, this]
/-- A text stored over another one. -/
theorem RSt.set {g cap p : Nat} (h : RSt W₀ W bx base (.slice (some ⟨g, 0, none⟩) rl.length cap) rl) (hp : p < rl.length) (v : List UInt8) (hR : RisK (rl.take p ++ (rl[p].1, v) :: rl.drop (p + 1))) :
    RowsP (W.setCell ⟨g, p * 2 + 1, none⟩ (str v)) bx base (.slice (some ⟨g, 0, none⟩) rl.length cap) (rl.take p ++ (rl[p].1, v) :: rl.drop (p + 1)) ∧ FrR W₀ (W.setCell ⟨g, p * 2 + 1, none⟩ (str v)) bx base (.slice (some ⟨g, 0, none⟩) rl.length cap) := by
  have hs := World.ownsRow.stored h.row (p * 2 + 1) (str v)
  have hl : (rl.take p ++ (rl[p].1, v) :: rl.drop (p + 1)).length = rl.length := by simp; omega
  have ho := h.own g rfl
  have hlt := h.lt
  have hsz := h.fr.size
  refine ⟨⟨h.box.kept hs.2 (by simp; omega), ?_, hR, ?_⟩, ⟨fun c h1 h2 => (h.fr.bel c h1 h2).setCell (p := ⟨g, p * 2 + 1, none⟩) (by show c ≤ g; omega) _, ?_, fun k h1 h2 h3 => ?_⟩⟩
  · rw [hl, ← flatR_set v rl p hp]; exact hs.1
  · have := h.sz; simp [World.setCell]; omega
  · simp [World.setCell]; omega
  · have hne : k ≠ g := by rintro rfl; exact h3 rfl
    rw [Below.heap_setCell _ _ _ _ hne]
    exact h.fr.other k h1 h2 h3
/-- A cell of the row may be written. -/
theorem RSt.free {g cap : Nat} (h : RSt W₀ W bx base (.slice (some ⟨g, 0, none⟩) rl.length cap) rl) (j : Nat) : W.frozen? ⟨g, j, none⟩ = false := by
  rcases h.row.2 with ⟨h', _⟩ | ⟨g', cap', cur, h', hb, hg, _⟩
  · simp at h'
  · simp only [Value.slice.injEq, Option.some.injEq, Addr.mk.injEq, and_true] at h'
    obtain ⟨rfl, _, rfl⟩ := h'
    exact frozen_of_row W g j cur _ hg
end
end Go.Proofs.Ytdkplhfbcpobaaa
