/- Joined: Range, RdV, RangeW, TrBase, TrMath, TrMap, RiseBase, TwoRows, MrgMath, MkMath, MkBase, MkMay, MkMayP, MkMore, MkSortL, MkSort, MkAdd, MkLawM, MkF0. -/
import Derived.Test.YtjnejbeeoepdnaaDoorKit
import Derived.RangeFuncNested
import Derived.RangeFuncBound
import Derived.RangeFuncCalls
import Derived.RangeFuncLeaves
import Derived.RangeFuncBox
import Derived.Test.YtjnejbeeoepdnaaDoorRows
import Derived.Deep.QuietTactic
import Derived.BigQuiet
import Derived.IntWalk
import Derived.Test.YtjnejbeeoepdnaaDoorBl
import Derived.Shelf.RegionOpen
import Derived.OwnWalkIn
import Derived.TacticsInMore
import Derived.Maps.AppendAt
import Derived.Test.YtjnejbeeoepdnaaDoorRowsF
import Derived.Deep.LoopGhost
import Derived.Deep.RegionHeld3
import Derived.Test.YtjnejbeeoepdnaaDoorQuietB
import Derived.Test.YtjnejbeeoepdnaaDoorAppN
import Derived.Lib.SliceRun
import Derived.Ground.SlsfProg
import Derived.Shelf.SlSortCmp.WholeK
import Derived.Test.YtjnejbeeoepdnaaDoorProg
import Derived.Lib.SmallJoins
namespace Go.Proofs.YtjnejbeeoepdnaaDoor
open Go.RowKit

theorem wide_fn (f : FuncId) : Fence.wide.fn f = True := rfl
theorem wide_depth : Fence.wide.depth = none := rfl
/-- Whatever lies from B on lies as it lay, but for cells of the types Wr. -/
structure KT (Wr : TypeId → Prop) (B : Nat) (W W' : World) : Prop where
  size : W.heap.size ≤ W'.heap.size
  same : ∀ (k : Nat) (o : Obj), B ≤ k → W.heap[k]? = some o → (∀ c T p, o = .cells c T p → ¬ Wr T) → W'.heap[k]? = some o
theorem KT.refl (Wr : TypeId → Prop) (B : Nat) (W : World) : KT Wr B W W := ⟨Nat.le_refl _, fun _ _ _ h _ => h⟩
theorem KT.trans {Wr : TypeId → Prop} {B : Nat} {X Y Z : World} (h : KT Wr B X Y) (k : KT Wr B Y Z) : KT Wr B X Z := ⟨Nat.le_trans h.size k.size, fun i o hB hi ho => k.same i o hB (h.same i o hB hi ho) ho⟩
theorem KT.more {Wr : TypeId → Prop} {B B' : Nat} {W W' : World} (h : KT Wr B W W') (hB : B ≤ B') : KT Wr B' W W' := ⟨h.size, fun k o hk => h.same k o (Nat.le_trans hB hk)⟩
theorem KT.wider {Wr Wr' : TypeId → Prop} {B : Nat} {W W' : World} (h : KT Wr B W W') (hw : ∀ T, Wr T → Wr' T) : KT Wr' B W W' := ⟨h.size, fun k o hk h0 ho => h.same k o hk h0 (fun c T p e q => ho c T p e (hw T q))⟩
/-- What is no cells. -/
theorem KT.others {Wr : TypeId → Prop} {B : Nat} {W W' : World} (h : KT Wr B W W') {k : Nat} {o : Obj} (hk : B ≤ k) (h0 : W.heap[k]? = some o) (ho : o.isCells = false) : W'.heap[k]? = some o :=
  h.same k o hk h0 (fun c T p e => by subst e; cases ho)
/-- Cells of another type. -/
theorem KT.cells {Wr : TypeId → Prop} {B : Nat} {W W' : World} (h : KT Wr B W W') {k : Nat} {c : Array Value} {T : TypeId} {p : Nat × Nat} (hk : B ≤ k) (h0 : W.heap[k]? = some (.cells c T p)) (ho : ¬ Wr T) : W'.heap[k]? = some (.cells c T p) :=
  h.same k _ hk h0 (fun c T p e => by cases e; exact ho)
theorem KT.of_grown {Wr : TypeId → Prop} {B : Nat} {W W' : World} {row : Option Nat} (h : W.grownBy W' row) (hr : ∀ k, row = some k → k < B ∨ ∃ c T p, W.heap[k]? = some (.cells c T p) ∧ Wr T) : KT Wr B W W' :=
  ⟨h.size, fun k o hk h0 ho => (h.block k (Array.getElem?_eq_some_iff.1 h0).1 (fun e => by
    rcases hr k e.symm with h1 | ⟨c, T, p, h1, h2⟩
    · omega
    · rw [h0] at h1; cases h1; exact ho c T p rfl h2)).trans h0⟩
theorem KT.of_below {Wr : TypeId → Prop} {B : Nat} {W W' : World} (h : Below W.heap.size W W') : KT Wr B W W' := ⟨h.size, fun k _ _ h0 _ => (h.block k (Array.getElem?_eq_some_iff.1 h0).1).trans h0⟩
theorem KT.put (Wr : TypeId → Prop) {B l : Nat} (W : World) (o : Obj) (hl : l < B) : KT Wr B W (W.putObj l o) :=
  ⟨by simp, fun _ _ hk h0 _ => (World.putObj_heap_other (by omega)).trans h0⟩
theorem KT.drew (Wr : TypeId → Prop) (B : Nat) (W : World) : KT Wr B W W.drew := ⟨Nat.le_refl _, fun _ _ _ h _ => h⟩
theorem KT.alloc (Wr : TypeId → Prop) (B : Nat) (W : World) (o : Obj) : KT Wr B W (W.alloc o) := KT.of_grown (World.grownBy_alloc W o none) (fun _ e => by cases e)
theorem KT.box {Wr : TypeId → Prop} {B : Nat} {W W' : World} {k : Nat} {t : TypeId} {v : Value} (h : KT Wr B W W') (hb : Boxed W k t v) (hk : B ≤ k) (ho : ¬ Wr t) : Boxed W' k t v := h.cells hk hb ho
/-- A slice in a box, appended to: what of the world lies on. -/
theorem boxT {W w1 : World} {n₀ B : Nat} {t e : TypeId} {size : Nat} {v v' : Value} {k : Nat} {xs : List Value} {tmp : Obj} (hv : Boxed W B t v) (_hte : t ≠ e) (hrow : W.ownsRow n₀ e size v k xs)
    (hgrow : (W.alloc tmp).grownBy w1 v.ownBlock) {Wr : TypeId → Prop} {D : Nat} (hwe : Wr e) (hD : B < D) : KT Wr D W (w1.setCell ⟨B, 0, none⟩ v') := by
  refine ((KT.alloc Wr D W tmp).trans (KT.of_grown hgrow fun j ej => ?_)).trans (KT.of_grown (grownBy_setCell' _ _ _) (fun j ej => .inl (by cases ej; exact hD)))
  rcases (hrow.alloc tmp).2 with ⟨rfl, _⟩ | ⟨g, cap, cur, rfl, _, hgb, _⟩
  · simp [Value.ownBlock] at ej
  · obtain rfl : g = j := by simpa [Value.ownBlock] using ej
    exact .inr ⟨_, _, _, hgb, hwe⟩
theorem row_mono {W : World} {b b' : Nat} {e : TypeId} {size k : Nat} {v : Value} {xs : List Value} (h : W.ownsRow b e size v k xs) (hb : b' ≤ b) : W.ownsRow b' e size v k xs := by
  refine ⟨h.1, ?_⟩
  rcases h.2 with hn | ⟨g, cap, cur, rfl, hg, rest⟩
  · exact .inl hn
  · exact .inr ⟨g, cap, cur, rfl, Nat.le_trans hb hg, rest⟩
/-- Behind an append to a slice in a box that lies ahead of all rows: the boxes, the row, what lay ahead. -/
theorem appended {W w1 : World} {n₀ B : Nat} {t e : TypeId} {v v' : Value} {k m : Nat} {xs ys : List Value} {tmp : Obj} (hv : Boxed W B t v) (hB : B < n₀) (hn : n₀ ≤ W.heap.size) (hrow : W.ownsRow n₀ e 1 v k xs)
    (hown' : w1.ownsRow n₀ e 1 v' m ys) (hgrow : (W.alloc tmp).grownBy w1 v.ownBlock) :
    Boxed w1 B t v ∧ Boxed (w1.setCell ⟨B, 0, none⟩ v') B t v' ∧ (w1.setCell ⟨B, 0, none⟩ v').ownsRow n₀ e 1 v' m ys ∧
    (∀ B' t' u, B' < n₀ → B' ≠ B → Boxed W B' t' u → Boxed w1 B' t' u ∧ Boxed (w1.setCell ⟨B, 0, none⟩ v') B' t' u) ∧ (∀ c, c ≤ B → Below c W (w1.setCell ⟨B, 0, none⟩ v')) := by
  have ne : ∀ j, j < n₀ → some j ≠ v.ownBlock := fun j hj e => by have := (hrow.lt j e.symm).1; omega
  have hv1 : Boxed w1 B t v := (hv.alloc tmp).kept hgrow (ne B hB)
  have ne' : v'.ownBlock = none ∨ v'.ownBlock ≠ some B := .inr fun e => by have := (hown'.lt B e).1; omega
  refine ⟨hv1, hv1.set v', hown'.kept (grownBy_setCell' w1 B v') ne', fun B' t' u h1 h2 h3 => ?_, fun c hc => ?_⟩
  · have h4 := (h3.alloc tmp).kept hgrow (ne B' h1)
    exact ⟨h4, h4.other h2 v'⟩
  · exact (((Below.refl c W).alloc (by omega) tmp).grown hgrow (by simp; omega) (fun j ej => by have := (hrow.lt j ej).1; omega)).setCell (p := ⟨B, 0, none⟩) hc v'
/-- A box that holds a slice of the call's own. -/
def BoxRow (n₀ B : Nat) (T E : TypeId) (W : World) (l : List Value) : Prop := ∃ v, Boxed W B T v ∧ W.ownsRow n₀ E 1 v l.length l
theorem boxRow_own {β : Type} (n₀ B : Nat) (T E : TypeId) (f : β → List Value) : Go.Own (fun s W => BoxRow n₀ B T E W (f s)) := by
  intro s X Y row ⟨v, hv, hr⟩ hg hrow
  obtain ⟨v', h1, h2, _⟩ := holdsRow_own n₀ B T E 1 (fun s => (f s).length) f (fun _ _ => True) s X Y row ⟨v, hv, hr, trivial⟩ hg hrow
  exact ⟨v', h1, h2⟩
/-- How a body may be left. -/
def ownPostT {α : Type} (Wr : TypeId → Prop) (B : Nat) (I : List α → World → Prop) (Ix : Code → List α → World → Prop) (xs : List α) (W : World) : Exit → Act → World → Prop
  | .normal, _, W' => KT Wr B W W' ∧ I xs W'
  | .ret, _, W' => KT Wr B W W' ∧ Ix .ret xs W'
  | .exit id, _, W' => KT Wr B W W' ∧ Ix (.exit id) xs W'
  | .goto t, _, W' => KT Wr B W W' ∧ Ix (.goto t) xs W'
  | .panic _, _, _ => False
  | .outgrown, _, _ => False
/-- A call of yield, in a walk without a fence. -/
def Yld (P : Program) (l : Nat) (args : Array Value) (W : World) (R : Ending → World → Prop) : Prop := ∀ m, YieldAt Fence.wide m P l args W R
theorem Yld.mono {P : Program} {l : Nat} {args : Array Value} {W : World} {R R' : Ending → World → Prop} (h : Yld P l args W R) (hr : ∀ e w, R e w → R' e w) : Yld P l args W R' := fun m => (h m).mono hr
/-- What a round answers: more is asked for, or not; what is no cells from B on lies as it lay. -/
def RndPost {α : Type} (Wr : TypeId → Prop) (B : Nat) (J Jx : List α → World → Prop) (pre : List α) (W : World) (e : Ending) (W' : World) : Prop :=
  KT Wr B W W' ∧ ((e = .returned (.bool true) ∧ J pre W') ∨ (e = .returned (.bool false) ∧ Jx pre W'))
/-- What is ranged over: called with a yield it hands xs on, one behind the other, till no more is asked for; between two rounds it asks Ok of the world. -/
def Seqs {α : Type} (P : Program) (gf : Nat) (lb : Array Value) (encs : α → Array Value) (Ok : World → Prop) (Wr : TypeId → Prop) (xs : List α) (W : World) : Prop :=
  ∀ (l : Nat) (J Jx : List α → World → Prop), OwnFrom W.heap.size J → OwnFrom W.heap.size Jx → (∀ pre W1, J pre W1 → Ok W1) →
    (∀ pre x W1, J pre W1 → (∃ t, xs = pre ++ x :: t) → Yld P l (encs x) W1 (RndPost Wr W.heap.size J Jx (pre ++ [x]) W1)) →
    J [] W → Calls P gf (#[.func (.yield l) #[] #[]] ++ lb) W fun e W' => (∃ v, e = .returned v) ∧ (J xs W' ∨ ∃ pre, (∃ t, xs = pre ++ t) ∧ Jx pre W')
theorem ownFrom_more {β : Type} {B B' : Nat} {I : β → World → Prop} (h : OwnFrom B I) (hB : B ≤ B') : OwnFrom B' I :=
  fun s X Y row hs hg hr => h s X Y row hs hg (fun r e => ⟨Nat.le_trans hB (hr r e).1, (hr r e).2⟩)
/-- A loop's record. -/
abbrev recOf (fn : FuncId) (tmps : Array Value) (ps : Array Tmp) (assign body : Code) (B : Nat) (st : LoopState) (pe : Option Code) : Loop :=
  { state := st, pending := pe, fn, tmps, params := ps, assign, body, defers := B }
/-- A relation beside the two blocks of a loop's book. -/
def Booked {α : Type} (B : Nat) (r : Loop) (I : List α → World → Prop) (pre : List α) (W : World) : Prop := I pre W ∧ W.heap[B + 1]? = some (.loop r) ∧ W.heap[B]? = some (.deferred (some []))
theorem booked_own {α : Type} {B : Nat} {r : Loop} {I : List α → World → Prop} (hI : OwnFrom B I) : OwnFrom (B + 2) (Booked B r I) := by
  intro s A C row ⟨h1, h2, h3⟩ hg hr
  have hne : ∀ k, k < B + 2 → some k ≠ row := fun k hk e => by have := (hr k e.symm).1; omega
  exact ⟨hI _ _ _ _ h1 hg (fun r e => ⟨by have := (hr r e).1; omega, (hr r e).2⟩), (hg.block _ (Array.getElem?_eq_some_iff.1 h2).1 (hne _ (by omega))).trans h2, (hg.block _ (Array.getElem?_eq_some_iff.1 h3).1 (hne _ (by omega))).trans h3⟩
/-- The record turns. -/
theorem booked_turn {α : Type} {B : Nat} {r : Loop} {I I' : List α → World → Prop} {pre : List α} {W : World} (hI : OwnFrom B I) (h : Booked B r I pre W) (r' : Loop) (hw : ∀ W, I pre W → I' pre W) :
    Booked B r' I' pre (W.putObj (B + 1) (.loop r')) :=
  ⟨hw _ (hI.putObj _ h.1 (by omega) h.2.1 rfl), World.putObj_heap_same (Array.getElem?_eq_some_iff.1 h.2.1).1, (World.putObj_heap_other (by omega)).trans h.2.2⟩
/-- A body keeps the book. -/
theorem booked_kept {α : Type} {B : Nat} {r : Loop} {I I' : List α → World → Prop} {pre pre' : List α} {W W' : World} (h : Booked B r I pre W) {Wr : TypeId → Prop} (hk : KT Wr B W W') (h' : I' pre' W') : Booked B r I' pre' W' :=
  ⟨h', hk.others (by omega) h.2.1 rfl, hk.others (Nat.le_refl _) h.2.2 rfl⟩

/-- A body's end, told to the round. -/
theorem round_told {P : Program} {α : Type} {Wr : TypeId → Prop} {B : Nat} {fn : FuncId} {tmps : Array Value} {ps : Array Tmp} {assign body : Code} {I : List α → World → Prop} {Ix : Code → List α → World → Prop} {pre pre' : List α} {W : World}
    (hI : OwnFrom B I) (hIx : ∀ c, OwnFrom B (Ix c)) (h : Booked B (recOf fn tmps ps assign body B .ready none) I pre W) :
    ∀ (e : Exit) (a : Act) (W3 : World), ownPostT Wr B I Ix pre' (W.putObj (B + 1) (.loop (recOf fn tmps ps assign body B .busy none))) e a W3 →
      roundPost P (B + 1) (RndPost Wr (B + 2) (Booked B (recOf fn tmps ps assign body B .ready none) I) (fun pre W => ∃ c, Booked B (recOf fn tmps ps assign body B .done (some c)) (Ix c) pre W) pre' W) e a W3 := by
  have hb := booked_turn (I' := I) hI h (recOf fn tmps ps assign body B .busy none) (fun _ h => h)
  have k1 : KT Wr (B + 2) W (W.putObj (B + 1) (.loop (recOf fn tmps ps assign body B .busy none))) := KT.put Wr W _ (by omega)
  intro e a W3 hp
  cases e with
  | normal =>
    obtain ⟨hk, hi⟩ := hp
    have h3 : Booked B (recOf fn tmps ps assign body B .busy none) I pre' W3 := booked_kept hb hk hi
    exact ⟨_, _, run_endRound none h3.2.1, (k1.trans (hk.more (by omega))).trans (KT.put Wr W3 _ (by omega)), .inl ⟨rfl, booked_turn hI h3 _ (fun _ h => h)⟩⟩
  | ret =>
    obtain ⟨hk, hi⟩ := hp
    have h3 : Booked B (recOf fn tmps ps assign body B .busy none) (Ix .ret) pre' W3 := booked_kept hb hk hi
    exact ⟨_, _, run_endRound (some .ret) h3.2.1, (k1.trans (hk.more (by omega))).trans (KT.put Wr W3 _ (by omega)), .inr ⟨rfl, .ret, booked_turn (hIx _) h3 _ (fun _ h => h)⟩⟩
  | exit id =>
    obtain ⟨hk, hi⟩ := hp
    have h3 : Booked B (recOf fn tmps ps assign body B .busy none) (Ix (.exit id)) pre' W3 := booked_kept hb hk hi
    exact ⟨_, _, run_endRound (some (.exit id)) h3.2.1, (k1.trans (hk.more (by omega))).trans (KT.put Wr W3 _ (by omega)), .inr ⟨rfl, .exit id, booked_turn (hIx _) h3 _ (fun _ h => h)⟩⟩
  | goto t =>
    obtain ⟨hk, hi⟩ := hp
    have h3 : Booked B (recOf fn tmps ps assign body B .busy none) (Ix (.goto t)) pre' W3 := booked_kept hb hk hi
    exact ⟨_, _, run_endRound (some (.goto t)) h3.2.1, (k1.trans (hk.more (by omega))).trans (KT.put Wr W3 _ (by omega)), .inr ⟨rfl, .goto t, booked_turn (hIx _) h3 _ (fun _ h => h)⟩⟩
  | panic ch => exact hp.elim
  | outgrown => exact hp.elim

/-- Who ranges: an invariant of its own on what has come. -/
theorem range_law {n : Nat} {P : Program} {α : Type} {g : Operand} {ps : Array Tmp} {assign body : Code} {Q : Exit → Act → World → Prop} {a : Act} {w : World}
    {gf : Nat} {lb : Array Value} (hg : a.eval g = .func (.func gf) #[] lb) (eg : ∀ args w, (callFunc gf args).run P w = .ok (.enter gf args) w)
    {encs : α → Array Value} {Ok : World → Prop} {Wr : TypeId → Prop} {xs : List α} (hseq : ∀ W', Below w.heap.size w W' → Seqs P gf lb encs Ok Wr xs W') (hps : ∀ x, (encs x).size = ps.size)
    (I : List α → World → Prop) (Ix : Code → List α → World → Prop) (hI : OwnFrom w.heap.size I) (hIx : ∀ c, OwnFrom w.heap.size (Ix c)) (h0 : I [] w) (hOk : ∀ pre W, I pre W → Ok W) (a₁ : α → Act)
    (hassign : ∀ (l : Nat) (x : α) (W : World) (K : Act → World → Prop), K (a₁ x) W →
      assign.wpIn (Fence.wide.inRound l) (n - 1 - 1) P (Exit.then K (fun _ _ _ => False)) { tmps := (ps.zip (encs x)).foldl (fun t (p, v) => t.setIfInBounds p v) a.tmps, defers := [] } W)
    (hbody : ∀ (l : Nat) (pre : List α) (x : α) (W : World), w.heap.size < l → I pre W → (∃ t, xs = pre ++ x :: t) → body.wpIn (Fence.wide.inRound l) (n - 1 - 1) P (ownPostT Wr w.heap.size I Ix (pre ++ [x]) W) (a₁ x) W)
    (hdone : ∀ (D : Nat) (W : World), w.heap.size ≤ D → I xs W → W.heap[D]? = some (.deferred (some [])) → Q .normal { a with defers := { target := .collected D, args := #[] } :: a.defers } W)
    (hstop : ∀ (D : Nat) (c : Code) (pre : List α) (W : World), w.heap.size ≤ D → (∃ t, xs = pre ++ t) → Ix c pre W → W.heap[D]? = some (.deferred (some [])) → c.wpIn Fence.wide n P Q { a with defers := { target := .collected D, args := #[] } :: a.defers } W) :
    (Code.rangeFunc g ps assign body).wpIn Fence.wide n P Q a w := by
  refine wpIn_rangeFunc ?_
  intro fn hfn
  obtain ⟨B, hB⟩ : ∃ B, B = w.heap.size := ⟨_, rfl⟩
  obtain ⟨W1, hW1⟩ : ∃ W1, (w.alloc (.deferred (some []))).alloc (.loop (recOf fn a.tmps ps assign body B .ready none)) = W1 := ⟨_, rfl⟩
  have hs1 : W1.heap.size = B + 2 := by rw [← hW1, hB]; simp
  have hL1 : W1.heap[B + 1]? = some (.loop (recOf fn a.tmps ps assign body B .ready none)) := by
    have := World.alloc_heap_new (w.alloc (.deferred (some []))) (.loop (recOf fn a.tmps ps assign body B .ready none))
    rw [World.size_alloc, ← hB] at this; rw [← hW1]; exact this
  have hD1 : W1.heap[B]? = some (.deferred (some [])) := by
    rw [← hW1, hB]; exact (Below.heap_alloc _ _ _ (by simp)).trans (World.alloc_heap_new w _)
  have hI1 : I [] W1 := by rw [← hW1]; exact hI.alloc _ (hI.alloc _ h0)
  have hb1 : Below w.heap.size w W1 := by rw [← hW1]; exact ((Below.refl _ w).alloc (Nat.le_refl _) _).alloc (by simp) _
  have hsq := hseq W1 hb1
  have he : (Instr.enterLoop fn a.tmps ps assign body none).run P w = .ok (B + 1, [{ target := .collected B, args := #[] }]) W1 := by
    rw [← hW1, hB]; exact run_enterLoop_outer _ _ _ _ _
  rw [← hB] at hI hIx hbody hdone hstop
  clear hseq hb1 h0 hW1 hB
  refine ⟨B + 1, [{ target := .collected B, args := #[] }], W1, { target := .fn (.func gf) lb, args := #[.func (.yield (B + 1)) #[] #[]] }, W1, gf, #[.func (.yield (B + 1)) #[] #[]] ++ lb, W1, he, ?_, ?_, ?_, (fun h => by cases h), ?_⟩
  · simp only [resolve, hg]
    simp [go_sem]
  · intro _ _; trivial
  · simp [invoke, go_sem, eg]
  · refine (callsIn_wide.2 (hsq (B + 1) (Booked B (recOf fn a.tmps ps assign body B .ready none) I) (fun pre W => ∃ c, Booked B (recOf fn a.tmps ps assign body B .done (some c)) (Ix c) pre W)
      (by rw [hs1]; exact booked_own hI)
      (by rw [hs1]; exact fun s A C row hs hg hr => by obtain ⟨c, hc⟩ := hs; exact ⟨c, booked_own (hIx c) s A C row hc hg hr⟩)
      (fun pre W h => hOk pre W h.1) ?_ ⟨hI1, hL1, hD1⟩)).mono ?_
    · intro pre x W hi hx m
      rw [hs1]
      have key := roundIn_of_wpIn (n := n - 1 - 1) (R := RndPost Wr (B + 2) (Booked B (recOf fn a.tmps ps assign body B .ready none) I) (fun pre W => ∃ c, Booked B (recOf fn a.tmps ps assign body B .done (some c)) (Ix c) pre W) (pre ++ [x]) W) hfn
        (hassign (B + 1) x W _ ⟨_, run_beginRound hi.2.1 rfl, wpIn_mono (hbody (B + 1) pre x _ (by omega) (hI.putObj _ hi.1 (by omega) hi.2.1 rfl) hx) (round_told (P := P) hI hIx hi)⟩)
      exact ⟨fn, _, assign, body, run_yield (P := P) (args := encs x) hi.2.1 (hps x), key.1, fun c cs _ => key.2 c cs (room_wide _)⟩
    · rintro e W2 ⟨⟨v, rfl⟩, (hi | ⟨pre, hx, c, hi⟩)⟩
      · exact ⟨none, _, run_endLoop (P := P) hi.2.1 (by simp), hdone _ _ (Nat.le_refl _) (hI.putObj _ hi.1 (by omega) hi.2.1 rfl) ((World.putObj_heap_other (by omega)).trans hi.2.2)⟩
      · exact ⟨some c, _, run_endLoop (P := P) hi.2.1 (by simp), hstop _ c pre _ (Nat.le_refl _) hx ((hIx c).putObj _ hi.1 (by omega) hi.2.1 rfl) ((World.putObj_heap_other (by omega)).trans hi.2.2)⟩
end Go.Proofs.YtjnejbeeoepdnaaDoor
namespace Go.Proofs.YtjnejbeeoepdnaaDoor
open Go.RowKit

/-- A slice that reads as a list of values, one cell each. -/
def RdV (w : World) (v : Value) (l : List Value) : Prop :=
  ∃ (a : Option Addr) (cap : Nat), v = .slice a l.length cap ∧ l.length ≤ 9223372036854775807 ∧ (l ≠ [] → ∃ b off, a = some ⟨b, off, none⟩ ∧ ∀ i (h : i < l.length), w.cell? ⟨b, off + i, none⟩ = some l[i])
theorem RdV.below {B : Nat} {w w' : World} {v : Value} {l : List Value} (h : RdV w v l) (hb : Below B w w') (hB : w.heap.size ≤ B) : RdV w' v l := by
  obtain ⟨a, cap, hv, h1, h4⟩ := h
  refine ⟨a, cap, hv, h1, fun hl => ?_⟩
  obtain ⟨b, off, ha, hc⟩ := h4 hl
  refine ⟨b, off, ha, fun i hi => ?_⟩
  have := hc i hi
  rw [hb.cell (p := ⟨b, off + i, none⟩) (by have := World.block_lt_of_cell? w _ this; exact Nat.lt_of_lt_of_le this hB)]
  exact this
theorem RdV.drewN {w : World} {v : Value} {l : List Value} (h : RdV w v l) (q : Nat) : RdV (w.drewN q) v l := by
  obtain ⟨a, cap, hv, h1, h4⟩ := h
  exact ⟨a, cap, hv, h1, fun hl => by obtain ⟨b, off, ha, hc⟩ := h4 hl; exact ⟨b, off, ha, fun i hi => hc i hi⟩⟩
theorem RdV.of_row {w : World} {base : Nat} {e : TypeId} {v : Value} {l : List Value} (h : w.ownsRow base e 1 v l.length l) : RdV w v l := by
  rcases h.2 with ⟨rfl, hn⟩ | ⟨g, cap, cur, rfl, _, hg, h1, h2, h3, h4⟩
  · obtain rfl := List.eq_nil_of_length_eq_zero hn
    exact ⟨none, 0, rfl, by simp, fun h => absurd rfl h⟩
  · refine ⟨_, cap, rfl, by simp only [maxLen] at h2; omega, fun _ => ⟨g, 0, rfl, fun i hi => ?_⟩⟩
    rw [Nat.zero_add, cell_of_row w g i cur e (0, 0) hg]
    obtain ⟨y, hy⟩ : ∃ y, y = l[i] := ⟨_, rfl⟩
    have e : l[i]? = some y := by simp [hi, hy]
    rw [← hy]
    have e2 := congrArg (fun z => z[i]?) h4
    simp only [List.getElem?_take] at e2
    rw [if_pos (by omega), e] at e2
    simpa using e2
/-- A row of values built at once. -/
theorem RdV.lit {w : World} {b n : Nat} {T : TypeId} (l : List Value) (h : w.heap[b]? = some (.cells l.toArray T (0, 0))) (hn : n = l.length) (hl : l.length ≤ 9223372036854775807) : RdV w (.slice (some ⟨b, 0, none⟩) n n) l := by
  subst hn
  refine ⟨_, _, rfl, hl, fun _ => ⟨b, 0, rfl, fun i hi => ?_⟩⟩
  simp [World.cell?, h, hi]
end Go.Proofs.YtjnejbeeoepdnaaDoor
namespace Go.Proofs.YtjnejbeeoepdnaaDoor
open Go.RowKit

/-- An invariant that abides the turn of what is no cells, and of cells of the types Tw. -/
def OwnT (Tw : TypeId → Prop) {β : Type} (I : β → World → Prop) : Prop :=
  ∀ s W W' row, I s W → W.grownBy W' row → (∀ r, row = some r → ∃ o : Obj, W.heap[r]? = some o ∧ (o.isCells = false ∨ ∃ c T p, o = .cells c T p ∧ Tw T)) → I s W'
/-- The same of what lies from B on. -/
def OwnFromT (Tw : TypeId → Prop) {β : Type} (B : Nat) (I : β → World → Prop) : Prop :=
  ∀ s W W' row, I s W → W.grownBy W' row → (∀ r, row = some r → B ≤ r ∧ ∃ o : Obj, W.heap[r]? = some o ∧ (o.isCells = false ∨ ∃ c T p, o = .cells c T p ∧ Tw T)) → I s W'
section
variable {Tw : TypeId → Prop} {β : Type} {B B' : Nat} {I I' : β → World → Prop}
theorem OwnFromT.plain (h : OwnFromT Tw B I) : OwnFrom B I := fun s W W' row hs hg hr => h s W W' row hs hg (fun r e => by obtain ⟨h1, o, h2, h3⟩ := hr r e; exact ⟨h1, o, h2, .inl h3⟩)
theorem OwnT.from (h : OwnT Tw I) (B : Nat) : OwnFromT Tw B I := fun s W W' row hs hg hr => h s W W' row hs hg (fun r e => (hr r e).2)
theorem OwnFromT.and (h : OwnFromT Tw B I) (h' : OwnFromT Tw B I') : OwnFromT Tw B (fun s W => I s W ∧ I' s W) := fun s W W' row hs hg hr => ⟨h s W W' row hs.1 hg hr, h' s W W' row hs.2 hg hr⟩
theorem OwnFromT.more (h : OwnFromT Tw B I) (hB : B ≤ B') : OwnFromT Tw B' I := fun s X Y row hs hg hr => h s X Y row hs hg (fun r e => ⟨Nat.le_trans hB (hr r e).1, (hr r e).2⟩)
/-- A box of such a type is written. -/
theorem OwnFromT.set (h : OwnFromT Tw B I) {s : β} {W : World} {b : Nat} {T : TypeId} {v : Value} (hs : I s W) (hB : B ≤ b) (hb : Boxed W b T v) (hT : Tw T) (v' : Value) : I s (W.setCell ⟨b, 0, none⟩ v') :=
  h s W _ (some b) hs (grownBy_setCell' W b v') (fun r e => by cases e; exact ⟨hB, _, hb, .inr ⟨_, _, _, rfl, hT⟩⟩)
end
theorem ownFromT_pure (Tw : TypeId → Prop) {β : Type} (B : Nat) (p : β → Prop) : OwnFromT Tw B (fun s (_ : World) => p s) := fun _ _ _ _ hs _ _ => hs
theorem ownFromT_below {Tw : TypeId → Prop} {β : Type} {n₀ B : Nat} {w₀ : World} (hn : n₀ ≤ w₀.heap.size) (hB : n₀ ≤ B) : OwnFromT Tw B (fun (_ : β) W => Below n₀ w₀ W) :=
  fun _ _ _ _ hs hg hr => hs.grown hg (Nat.le_trans hn hs.size) (fun k e => Nat.le_trans hB (hr k e).1)
theorem boxed_ownT {Tw : TypeId → Prop} {β : Type} (B : Nat) (t : TypeId) (f : β → Value) (ht : ¬ Tw t) : OwnT Tw (fun s W => Boxed W B t (f s)) := fun s X Y row hs hg hrow =>
  hs.kept hg (fun e' => by
    obtain ⟨o, ho, hc⟩ := hrow B e'.symm
    rw [show X.heap[B]? = _ from hs] at ho
    cases ho
    rcases hc with hc | ⟨c, T, p, hc, hT⟩
    · cases hc
    · cases hc; exact ht hT)
theorem boxRow_ownT {Tw : TypeId → Prop} {β : Type} (n₀ B : Nat) (T E : TypeId) (f : β → List Value) (hT : ¬ Tw T) (hE : ¬ Tw E) : OwnT Tw (fun s W => BoxRow n₀ B T E W (f s)) := by
  rintro s X Y row ⟨v, hv, hr⟩ hg hrow
  refine ⟨v, boxed_ownT (β := Unit) B T (fun _ => v) hT () X Y row hv hg hrow, hr.kept hg ?_⟩
  rcases hr.2 with ⟨rfl, _⟩ | ⟨g, cap, cur, rfl, _, hgb, _⟩
  · exact .inl rfl
  · refine .inr fun e' => ?_
    obtain ⟨o, ho, hc⟩ := hrow g (by simpa [Value.ownBlock] using e'.symm)
    rw [hgb] at ho
    cases ho
    rcases hc with hc | ⟨c, T, p, hc, hT'⟩
    · cases hc
    · cases hc; exact hE hT'
/-- What is ranged over, and may write boxes of the types Tw. -/
def SeqsW {α : Type} (Tw : TypeId → Prop) (P : Program) (gf : Nat) (lb : Array Value) (encs : α → Array Value) (Ok : World → Prop) (Wr : TypeId → Prop) (xs : List α) (W : World) : Prop :=
  ∀ (l : Nat) (J Jx : List α → World → Prop), OwnFromT Tw W.heap.size J → OwnFromT Tw W.heap.size Jx → (∀ pre W1, J pre W1 → Ok W1) →
    (∀ pre x W1, J pre W1 → (∃ t, xs = pre ++ x :: t) → Yld P l (encs x) W1 (RndPost Wr W.heap.size J Jx (pre ++ [x]) W1)) →
    J [] W → Calls P gf (#[.func (.yield l) #[] #[]] ++ lb) W fun e W' => (∃ v, e = .returned v) ∧ (J xs W' ∨ ∃ pre, (∃ t, xs = pre ++ t) ∧ Jx pre W')
theorem Seqs.toW {α : Type} {Tw : TypeId → Prop} {P : Program} {gf : Nat} {lb : Array Value} {encs : α → Array Value} {Ok : World → Prop} {Wr : TypeId → Prop} {xs : List α} {W : World} (h : Seqs P gf lb encs Ok Wr xs W) : SeqsW Tw P gf lb encs Ok Wr xs W :=
  fun l J Jx h1 h2 h3 h4 h5 => h l J Jx h1.plain h2.plain h3 h4 h5
theorem booked_ownT {Tw : TypeId → Prop} {α : Type} {B : Nat} {r : Loop} {I : List α → World → Prop} (hI : OwnFromT Tw B I) : OwnFromT Tw (B + 2) (Booked B r I) := by
  intro s A C row ⟨h1, h2, h3⟩ hg hr
  have hne : ∀ k, k < B + 2 → some k ≠ row := fun k hk e => by have := (hr k e.symm).1; omega
  exact ⟨hI _ _ _ _ h1 hg (fun r e => ⟨by have := (hr r e).1; omega, (hr r e).2⟩), (hg.block _ (Array.getElem?_eq_some_iff.1 h2).1 (hne _ (by omega))).trans h2, (hg.block _ (Array.getElem?_eq_some_iff.1 h3).1 (hne _ (by omega))).trans h3⟩
/-- Who ranges over what writes boxes of its own: an invariant of its own on what has come. -/
theorem range_lawW {Tw : TypeId → Prop} {n : Nat} {P : Program} {α : Type} {g : Operand} {ps : Array Tmp} {assign body : Code} {Q : Exit → Act → World → Prop} {a : Act} {w : World}
    {gf : Nat} {lb : Array Value} (hg : a.eval g = .func (.func gf) #[] lb) (eg : ∀ args w, (callFunc gf args).run P w = .ok (.enter gf args) w)
    {encs : α → Array Value} {Ok : World → Prop} {Wr : TypeId → Prop} {xs : List α} (hseq : ∀ W', Below w.heap.size w W' → SeqsW Tw P gf lb encs Ok Wr xs W') (hps : ∀ x, (encs x).size = ps.size)
    (I : List α → World → Prop) (Ix : Code → List α → World → Prop) (hIw : OwnFromT Tw w.heap.size I) (hIxw : ∀ c, OwnFromT Tw w.heap.size (Ix c)) (h0 : I [] w) (hOk : ∀ pre W, I pre W → Ok W) (a₁ : α → Act)
    (hassign : ∀ (l : Nat) (x : α) (W : World) (K : Act → World → Prop), K (a₁ x) W →
      assign.wpIn (Fence.wide.inRound l) (n - 1 - 1) P (Exit.then K (fun _ _ _ => False)) { tmps := (ps.zip (encs x)).foldl (fun t (p, v) => t.setIfInBounds p v) a.tmps, defers := [] } W)
    (hbody : ∀ (l : Nat) (pre : List α) (x : α) (W : World), w.heap.size < l → I pre W → (∃ t, xs = pre ++ x :: t) → body.wpIn (Fence.wide.inRound l) (n - 1 - 1) P (ownPostT Wr w.heap.size I Ix (pre ++ [x]) W) (a₁ x) W)
    (hdone : ∀ (D : Nat) (W : World), w.heap.size ≤ D → I xs W → W.heap[D]? = some (.deferred (some [])) → Q .normal { a with defers := { target := .collected D, args := #[] } :: a.defers } W)
    (hstop : ∀ (D : Nat) (c : Code) (pre : List α) (W : World), w.heap.size ≤ D → (∃ t, xs = pre ++ t) → Ix c pre W → W.heap[D]? = some (.deferred (some [])) → c.wpIn Fence.wide n P Q { a with defers := { target := .collected D, args := #[] } :: a.defers } W) :
    (Code.rangeFunc g ps assign body).wpIn Fence.wide n P Q a w := by
  have hI := hIw.plain
  have hIx := fun c => (hIxw c).plain
  refine wpIn_rangeFunc ?_
  intro fn hfn
  obtain ⟨B, hB⟩ : ∃ B, B = w.heap.size := ⟨_, rfl⟩
  obtain ⟨W1, hW1⟩ : ∃ W1, (w.alloc (.deferred (some []))).alloc (.loop (recOf fn a.tmps ps assign body B .ready none)) = W1 := ⟨_, rfl⟩
  have hs1 : W1.heap.size = B + 2 := by rw [← hW1, hB]; simp
  have hL1 : W1.heap[B + 1]? = some (.loop (recOf fn a.tmps ps assign body B .ready none)) := by
    have := World.alloc_heap_new (w.alloc (.deferred (some []))) (.loop (recOf fn a.tmps ps assign body B .ready none))
    rw [World.size_alloc, ← hB] at this; rw [← hW1]; exact this
  have hD1 : W1.heap[B]? = some (.deferred (some [])) := by
    rw [← hW1, hB]; exact (Below.heap_alloc _ _ _ (by simp)).trans (World.alloc_heap_new w _)
  have hI1 : I [] W1 := by rw [← hW1]; exact hI.alloc _ (hI.alloc _ h0)
  have hb1 : Below w.heap.size w W1 := by rw [← hW1]; exact ((Below.refl _ w).alloc (Nat.le_refl _) _).alloc (by simp) _
  have hsq := hseq W1 hb1
  have he : (Instr.enterLoop fn a.tmps ps assign body none).run P w = .ok (B + 1, [{ target := .collected B, args := #[] }]) W1 := by
    rw [← hW1, hB]; exact run_enterLoop_outer _ _ _ _ _
  rw [← hB] at hI hIx hIw hIxw hbody hdone hstop
  clear hseq hb1 h0 hW1 hB
  refine ⟨B + 1, [{ target := .collected B, args := #[] }], W1, { target := .fn (.func gf) lb, args := #[.func (.yield (B + 1)) #[] #[]] }, W1, gf, #[.func (.yield (B + 1)) #[] #[]] ++ lb, W1, he, ?_, ?_, ?_, (fun h => by cases h), ?_⟩
  · simp only [resolve, hg]
    simp [go_sem]
  · intro _ _; trivial
  · simp [invoke, go_sem, eg]
  · refine (callsIn_wide.2 (hsq (B + 1) (Booked B (recOf fn a.tmps ps assign body B .ready none) I) (fun pre W => ∃ c, Booked B (recOf fn a.tmps ps assign body B .done (some c)) (Ix c) pre W)
      (by rw [hs1]; exact booked_ownT hIw)
      (by rw [hs1]; exact fun s A C row hs hg hr => by obtain ⟨c, hc⟩ := hs; exact ⟨c, booked_ownT (hIxw c) s A C row hc hg hr⟩)
      (fun pre W h => hOk pre W h.1) ?_ ⟨hI1, hL1, hD1⟩)).mono ?_
    · intro pre x W hi hx m
      rw [hs1]
      have key := roundIn_of_wpIn (n := n - 1 - 1) (R := RndPost Wr (B + 2) (Booked B (recOf fn a.tmps ps assign body B .ready none) I) (fun pre W => ∃ c, Booked B (recOf fn a.tmps ps assign body B .done (some c)) (Ix c) pre W) (pre ++ [x]) W) hfn
        (hassign (B + 1) x W _ ⟨_, run_beginRound hi.2.1 rfl, wpIn_mono (hbody (B + 1) pre x _ (by omega) (hI.putObj _ hi.1 (by omega) hi.2.1 rfl) hx) (round_told (P := P) hI hIx hi)⟩)
      exact ⟨fn, _, assign, body, run_yield (P := P) (args := encs x) hi.2.1 (hps x), key.1, fun c cs _ => key.2 c cs (room_wide _)⟩
    · rintro e W2 ⟨⟨v, rfl⟩, (hi | ⟨pre, hx, c, hi⟩)⟩
      · exact ⟨none, _, run_endLoop (P := P) hi.2.1 (by simp), hdone _ _ (Nat.le_refl _) (hI.putObj _ hi.1 (by omega) hi.2.1 rfl) ((World.putObj_heap_other (by omega)).trans hi.2.2)⟩
      · exact ⟨some c, _, run_endLoop (P := P) hi.2.1 (by simp), hstop _ c pre _ (Nat.le_refl _) hx ((hIx c).putObj _ hi.1 (by omega) hi.2.1 rfl) ((World.putObj_heap_other (by omega)).trans hi.2.2)⟩
end Go.Proofs.YtjnejbeeoepdnaaDoor
namespace Go.Proofs.YtjnejbeeoepdnaaDoor
open Go.RowKit

/-- A tree: keys and values as they lie, the height that each node tells. -/
inductive Tr where
  | nil : Tr
  | node : Tr → Value → Value → Nat → Tr → Tr
/-- The height told. -/
def ht : Tr → Nat
  | .nil => 0
  | .node _ _ _ n _ => n
/-- Each height told is right. -/
def WT : Tr → Prop
  | .nil => True
  | .node l _ _ n r => n = 1 + max (ht l) (ht r) ∧ WT l ∧ WT r
/-- The pairs by rising places. -/
def prs : Tr → List (Value × Value)
  | .nil => []
  | .node l k x _ r => prs l ++ (k, x) :: prs r
/-- How a tree lies. -/
def TP (w : World) : Option Addr → Tr → Prop
  | o, .nil => o = none
  | o, .node l k x n r => ∃ b T ol or, o = some ⟨b, 0, none⟩ ∧ w.heap[b]? = some (.cells #[k, x, .int .i64 (n : Int), .pointer ol, .pointer or] T (0, 0)) ∧ TP w ol l ∧ TP w or r
theorem TP.below {w w' : World} (hb : Below w.heap.size w w') : ∀ {o : Option Addr} {t : Tr}, TP w o t → TP w' o t
  | _, .nil, h => h
  | _, .node _ _ _ _ _, h => by
    obtain ⟨b, T, ol, or, rfl, hc, hl, hr⟩ := h
    exact ⟨b, T, ol, or, rfl, by rw [hb.block b (Array.getElem?_eq_some_iff.1 hc).1]; exact hc, TP.below hb hl, TP.below hb hr⟩
theorem TP.drewN {w : World} (n : Nat) : ∀ {o : Option Addr} {t : Tr}, TP w o t → TP (w.drewN n) o t
  | _, .nil, h => h
  | _, .node _ _ _ _ _, h => by
    obtain ⟨b, T, ol, or, rfl, hc, hl, hr⟩ := h
    exact ⟨b, T, ol, or, rfl, by simpa using hc, TP.drewN n hl, TP.drewN n hr⟩
/-- A node over two trees. -/
def tieT (k x : Value) (l r : Tr) : Tr := .node l k x (1 + max (ht l) (ht r)) r
theorem ht_tie (k x : Value) (l r : Tr) : ht (tieT k x l r) = 1 + max (ht l) (ht r) := rfl
/-- What tie, join tell. -/
def TiePost (t : Tr) (w : World) (e : Ending) (w' : World) : Prop := ∃ b, e = .returned (.pointer (some ⟨b, 0, none⟩)) ∧ TP w' (some ⟨b, 0, none⟩) t ∧ Below w.heap.size w w'
/-- The key and the value that a node holds. -/
def KV (w : World) (o : Option Addr) (k x : Value) : Prop := ∃ b T h pl pr, o = some ⟨b, 0, none⟩ ∧ w.heap[b]? = some (.cells #[k, x, h, pl, pr] T (0, 0))
theorem KV.below {w w' : World} {o : Option Addr} {k x : Value} (h : KV w o k x) (hb : Below w.heap.size w w') : KV w' o k x := by
  obtain ⟨b, T, hh, pl, pr, rfl, hc⟩ := h
  exact ⟨b, T, hh, pl, pr, rfl, by rw [hb.block b (Array.getElem?_eq_some_iff.1 hc).1]; exact hc⟩
theorem TP.kv {w : World} {o : Option Addr} {l r : Tr} {k x : Value} {n : Nat} (h : TP w o (.node l k x n r)) : KV w o k x := by
  obtain ⟨b, T, ol, or, rfl, hc, _, _⟩ := h
  exact ⟨b, T, _, _, _, rfl, hc⟩
end Go.Proofs.YtjnejbeeoepdnaaDoor
namespace Go.Proofs.YtjnejbeeoepdnaaDoor
open Go.RowKit

/-- Each height told is right; keys and values are of their kinds. -/
def WS (K V : Value → Prop) : Tr → Prop
  | .nil => True
  | .node l k x n r => n = 1 + max (ht l) (ht r) ∧ K k ∧ V x ∧ WS K V l ∧ WS K V r
theorem WS.tie {K V : Value → Prop} {l r : Tr} {k x : Value} (hl : WS K V l) (hr : WS K V r) (hk : K k) (hx : V x) : WS K V (tieT k x l r) := ⟨rfl, hk, hx, hl, hr⟩
theorem WS.pos {K V : Value → Prop} {t : Tr} (_h : WS K V t) (hp : 0 < ht t) : ∃ l k x n r, t = .node l k x n r := by
  cases t with
  | nil => simp [ht] at hp
  | node l k x n r => exact ⟨l, k, x, n, r, rfl⟩
/-- What join makes. -/
def joinT (k x : Value) (l r : Tr) : Tr :=
  if ht r + 1 < ht l then
    match l with
    | .node ll lk lx _ lr =>
      if ht lr ≤ ht ll then tieT lk lx ll (tieT k x lr r)
      else match lr with
        | .node ml mk mx _ mr => tieT mk mx (tieT lk lx ll ml) (tieT k x mr r)
        | .nil => tieT k x l r
    | .nil => tieT k x l r
  else if ht l + 1 < ht r then
    match r with
    | .node rl rk rx _ rr =>
      if ht rl ≤ ht rr then tieT rk rx (tieT k x l rl) rr
      else match rl with
        | .node ml mk mx _ mr => tieT mk mx (tieT k x l ml) (tieT rk rx mr rr)
        | .nil => tieT k x l r
    | .nil => tieT k x l r
  else tieT k x l r
theorem prs_tie (k x : Value) (l r : Tr) : prs (tieT k x l r) = prs l ++ (k, x) :: prs r := rfl
theorem prs_node (k x : Value) (l r : Tr) (n : Nat) : prs (.node l k x n r) = prs l ++ (k, x) :: prs r := rfl
theorem prs_join (k x : Value) (l r : Tr) : prs (joinT k x l r) = prs l ++ (k, x) :: prs r := by
  unfold joinT
  repeat' split
  all_goals simp only [prs_tie, prs_node, List.append_assoc, List.cons_append]
theorem WS.join {K V : Value → Prop} {l r : Tr} {k x : Value} (hl : WS K V l) (hr : WS K V r) (hk : K k) (hx : V x) : WS K V (joinT k x l r) ∧ ht (joinT k x l r) ≤ 1 + max (ht l) (ht r) := by
  unfold joinT
  split
  · next h1 =>
    split
    · next ll lk lx n lr =>
      obtain ⟨e, a1, a2, a3, a4⟩ := hl
      split
      · next h2 =>
        refine ⟨WS.tie a3 (WS.tie a4 hr hk hx) a1 a2, ?_⟩
        simp only [ht_tie]; simp only [ht] at h1 e ⊢; omega
      · next h2 =>
        split
        · next ml mk mx m mr =>
          obtain ⟨e', b1, b2, b3, b4⟩ := a4
          refine ⟨WS.tie (WS.tie a3 b3 a1 a2) (WS.tie b4 hr hk hx) b1 b2, ?_⟩
          simp only [ht_tie]; simp only [ht] at h1 h2 e e' ⊢; omega
        · simp [ht] at h2
    · simp [ht] at h1
  · split
    · next h0 h1 =>
      split
      · next rl rk rx n rr =>
        obtain ⟨e, a1, a2, a3, a4⟩ := hr
        split
        · next h2 =>
          refine ⟨WS.tie (WS.tie hl a3 hk hx) a4 a1 a2, ?_⟩
          simp only [ht_tie]; simp only [ht] at h1 e ⊢; omega
        · next h2 =>
          split
          · next ml mk mx m mr =>
            obtain ⟨e', b1, b2, b3, b4⟩ := a3
            refine ⟨WS.tie (WS.tie hl b3 hk hx) (WS.tie b4 a4 a1 a2) b1 b2, ?_⟩
            simp only [ht_tie]; simp only [ht] at h1 h2 e e' ⊢; omega
          · simp [ht] at h2
      · simp [ht] at h1
    · exact ⟨WS.tie hl hr hk hx, by rw [ht_tie]; exact Nat.le_refl _⟩
/-- Which key is less. -/
def lessV : Value → Value → Bool
  | .int _ a, .int _ b => decide (a < b)
  | .string a, .string b => Op.bytesLess a.data.toList b.data.toList
  | _, _ => false
/-- What Compare tells. -/
def cmpV (a b : Value) : Int := if lessV a b = true then -1 else if lessV b a = true then 1 else 0
/-- What put makes, and whether the key is new. -/
def putT (k x : Value) : Tr → Tr
  | .nil => .node .nil k x 1 .nil
  | .node l k' x' n r => if lessV k k' = true then joinT k' x' (putT k x l) r else if lessV k' k = true then joinT k' x' l (putT k x r) else .node l k x n r
def newT (k : Value) : Tr → Bool
  | .nil => true
  | .node l k' _ _ r => if lessV k k' = true then newT k l else if lessV k' k = true then newT k r else false
theorem WS.put {K V : Value → Prop} {k x : Value} (hk : K k) (hx : V x) : ∀ {t : Tr}, WS K V t → WS K V (putT k x t) ∧ ht (putT k x t) ≤ 1 + ht t
  | .nil, _ => ⟨⟨by simp [ht], hk, hx, trivial, trivial⟩, by simp [putT, ht]⟩
  | .node l k' x' n r, h => by
    obtain ⟨e, a1, a2, a3, a4⟩ := h
    unfold putT
    split
    · obtain ⟨b1, b2⟩ := WS.put hk hx a3
      obtain ⟨c1, c2⟩ := WS.join b1 a4 a1 a2
      refine ⟨c1, ?_⟩
      show _ ≤ 1 + n; omega
    · split
      · obtain ⟨b1, b2⟩ := WS.put hk hx a4
        obtain ⟨c1, c2⟩ := WS.join a3 b1 a1 a2
        refine ⟨c1, ?_⟩
        show _ ≤ 1 + n; omega
      · exact ⟨⟨e, hk, hx, a3, a4⟩, by show n ≤ 1 + n; omega⟩
/-- A pair put among pairs that rise. -/
def insL (k x : Value) : List (Value × Value) → List (Value × Value)
  | [] => [(k, x)]
  | (k', x') :: t => if lessV k k' = true then (k, x) :: (k', x') :: t else if lessV k' k = true then (k', x') :: insL k x t else (k, x) :: t
/-- The value of a key among pairs. -/
def getL (k : Value) : List (Value × Value) → Option Value
  | [] => none
  | (k', x') :: t => if lessV k k' = true then none else if lessV k' k = true then getL k t else some x'
def getT (k : Value) : Tr → Option Value
  | .nil => none
  | .node l k' x' _ r => if lessV k k' = true then getT k l else if lessV k' k = true then getT k r else some x'
/-- Pairs that rise, and what comes behind a key. -/
def Ris : List (Value × Value) → Prop
  | [] => True
  | (k, _) :: t => (∀ q ∈ t, lessV k q.1 = true) ∧ Ris t
theorem ris_app (a b : List (Value × Value)) : Ris (a ++ b) ↔ Ris a ∧ Ris b ∧ ∀ p ∈ a, ∀ q ∈ b, lessV p.1 q.1 = true := by
  induction a with
  | nil => simp [Ris]
  | cons p t ih =>
    obtain ⟨k, x⟩ := p
    simp only [List.cons_append, Ris, ih, List.mem_append, List.mem_cons]
    constructor
    · rintro ⟨h1, h2, h3, h4⟩
      refine ⟨⟨fun q hq => h1 q (.inl hq), h2⟩, h3, fun p hp q hq => ?_⟩
      rcases hp with rfl | hp
      · exact h1 q (.inr hq)
      · exact h4 p hp q hq
    · rintro ⟨⟨h1, h2⟩, h3, h4⟩
      exact ⟨fun q hq => hq.elim (h1 q) (h4 (k, x) (.inl rfl) q), h2, h3, fun p hp => h4 p (.inr hp)⟩
theorem insL_left (k x k' x' : Value) (b : List (Value × Value)) (h : lessV k k' = true) : ∀ a, insL k x (a ++ (k', x') :: b) = insL k x a ++ (k', x') :: b
  | [] => by simp [insL, h]
  | (c, y) :: a => by
    simp only [List.cons_append, insL, insL_left k x k' x' b h a]
    split
    · rfl
    · split <;> rfl
theorem insL_right (k x : Value) (b : List (Value × Value)) : ∀ a : List (Value × Value), (∀ p ∈ a, lessV k p.1 = false ∧ lessV p.1 k = true) → insL k x (a ++ b) = a ++ insL k x b
  | [], _ => rfl
  | (c, y) :: a, h => by
    have h0 := h (c, y) (List.mem_cons_self ..)
    simp only [List.cons_append, insL, h0.1, h0.2, Bool.false_eq_true, if_false, if_true]
    rw [insL_right k x b a (fun p hp => h p (List.mem_cons_of_mem _ hp))]
/-- An order of keys of one kind. -/
structure Ord (K : Value → Prop) : Prop where
  irr : ∀ a, K a → lessV a a = false
  tr : ∀ a b c, K a → K b → K c → lessV a b = true → lessV b c = true → lessV a c = true
  tot : ∀ a b, K a → K b → lessV a b = false → lessV b a = false → a = b
theorem Ord.asym {K : Value → Prop} (O : Ord K) {a b : Value} (ha : K a) (hb : K b) (h : lessV a b = true) : lessV b a = false := by
  cases e : lessV b a with
  | false => rfl
  | true => have := O.tr a b a ha hb ha h e; rw [O.irr a ha] at this; cases this
theorem ws_keys {K V : Value → Prop} : ∀ {t : Tr}, WS K V t → ∀ p ∈ prs t, K p.1 ∧ V p.2
  | .nil, _ => by simp [prs]
  | .node l k x n r, h => by
    obtain ⟨_, a1, a2, a3, a4⟩ := h
    intro p hp
    rw [prs_node, List.mem_append, List.mem_cons] at hp
    rcases hp with hp | rfl | hp
    · exact ws_keys a3 p hp
    · exact ⟨a1, a2⟩
    · exact ws_keys a4 p hp
theorem prs_put {K V : Value → Prop} (O : Ord K) {k x : Value} (hk : K k) : ∀ {t : Tr}, WS K V t → Ris (prs t) → prs (putT k x t) = insL k x (prs t)
  | .nil, _, _ => rfl
  | .node l k' x' n r, h, hr => by
    obtain ⟨_, a1, a2, a3, a4⟩ := h
    rw [prs_node, ris_app] at hr
    obtain ⟨r1, r2, r3⟩ := hr
    have hlk : ∀ p ∈ prs l, K p.1 ∧ lessV p.1 k' = true := fun p hp => ⟨(ws_keys a3 p hp).1, r3 p hp (k', x') (List.mem_cons_self ..)⟩
    unfold putT
    rw [prs_node]
    split
    · next g => rw [prs_join, prs_put O hk a3 r1, insL_left k x k' x' _ g]
    · next g =>
      have g' : lessV k k' = false := by simpa using g
      split
      · next g2 =>
        rw [prs_join, prs_put O hk a4 r2.2]
        rw [insL_right k x _ (prs l) (fun p hp => by
          have q1 := O.tr p.1 k' k (hlk p hp).1 a1 hk (hlk p hp).2 g2
          exact ⟨O.asym (hlk p hp).1 hk q1, q1⟩)]
        simp only [insL, g', g2, Bool.false_eq_true, if_false, if_true]
      · next g2 =>
        have g2' : lessV k' k = false := by simpa using g2
        have e := O.tot k k' hk a1 g' g2'
        subst e
        rw [prs_node, insL_right k x _ (prs l) (fun p hp => ⟨O.asym (hlk p hp).1 hk (hlk p hp).2, (hlk p hp).2⟩)]
        simp only [insL, g', Bool.false_eq_true, if_false]
theorem ris_ins {K : Value → Prop} (O : Ord K) {k x : Value} (hk : K k) : ∀ {l : List (Value × Value)}, (∀ p ∈ l, K p.1) → Ris l → Ris (insL k x l) ∧ ∀ p ∈ insL k x l, p = (k, x) ∨ p ∈ l
  | [], _, _ => by simp [insL, Ris]
  | (k', x') :: t, hK, hr => by
    obtain ⟨h1, h2⟩ := hr
    have hk' := hK (k', x') (List.mem_cons_self ..)
    have hKt : ∀ p ∈ t, K p.1 := fun p hp => hK p (List.mem_cons_of_mem _ hp)
    obtain ⟨i1, i2⟩ := ris_ins (x := x) O hk hKt h2
    unfold insL
    split
    · next g =>
      refine ⟨⟨?_, h1, h2⟩, by simp⟩
      intro q hq
      rcases List.mem_cons.1 hq with rfl | hq
      · exact g
      · exact O.tr _ _ _ hk hk' (hKt q hq) g (h1 q hq)
    · split
      · next g2 =>
        refine ⟨⟨?_, i1⟩, ?_⟩
        · intro q hq
          rcases i2 q hq with rfl | hq
          · exact g2
          · exact h1 q hq
        · intro p hp
          rcases List.mem_cons.1 hp with rfl | hp
          · simp
          · rcases i2 p hp with h | h
            · exact .inl h
            · exact .inr (List.mem_cons_of_mem _ h)
      · next g g2 =>
        have e := O.tot k k' hk hk' (by simpa using g) (by simpa using g2)
        subst e
        refine ⟨⟨h1, h2⟩, ?_⟩
        intro p hp
        rcases List.mem_cons.1 hp with rfl | hp
        · simp
        · exact .inr (List.mem_cons_of_mem _ hp)
/-- What put tells. -/
def PutPost (t : Tr) (z : Bool) (w : World) (e : Ending) (w' : World) : Prop := ∃ b, e = .returned (.tuple #[.pointer (some ⟨b, 0, none⟩), .bool z]) ∧ TP w' (some ⟨b, 0, none⟩) t ∧ Below w.heap.size w w'
end Go.Proofs.YtjnejbeeoepdnaaDoor
namespace Go.Proofs.YtjnejbeeoepdnaaDoor
open Go.RowKit

/-- A map in block b. -/
def MP (w : World) (b : Nat) (t : Tr) : Prop := ∃ T o, w.heap[b]? = some (.cells #[.pointer o, .int .i64 ((prs t).length : Int)] T (0, 0)) ∧ TP w o t
/-- Nothing but block b has turned; new blocks may stand behind. -/
def Only (b : Nat) (w w' : World) : Prop := w.heap.size ≤ w'.heap.size ∧ ∀ k, k < w.heap.size → k ≠ b → w'.heap[k]? = w.heap[k]?
theorem Only.of_below {b : Nat} {w w' : World} (h : Below w.heap.size w w') : Only b w w' := ⟨h.size, fun k hk _ => h.block k hk⟩
theorem Only.setCell {b : Nat} {w w' : World} (h : Only b w w') (j : Nat) (u : Value) : Only b w (w'.setCell ⟨b, j, none⟩ u) :=
  ⟨by simpa [World.setCell] using h.1, fun k hk hne => by rw [Below.heap_setCell _ _ _ _ hne]; exact h.2 k hk hne⟩
theorem Only.trans {b : Nat} {w w' w2 : World} (h : Only b w w') (k : Only b w' w2) : Only b w w2 :=
  ⟨Nat.le_trans h.1 k.1, fun i hi hne => (k.2 i (Nat.lt_of_lt_of_le hi h.1) hne).trans (h.2 i hi hne)⟩
theorem Only.refl (b : Nat) (w : World) : Only b w w := ⟨Nat.le_refl _, fun _ _ _ => rfl⟩
/-- A tree stands when a block of two cells turns. -/
theorem TP.only {w w' : World} {b : Nat} {u v : Value} {T0 : TypeId} (hb : w.heap[b]? = some (.cells #[u, v] T0 (0, 0))) (ho : Only b w w') : ∀ {o : Option Addr} {t : Tr}, TP w o t → TP w' o t
  | _, .nil, h => h
  | _, .node _ _ _ _ _, h => by
    obtain ⟨g, T, ol, or, rfl, hc, hl, hr⟩ := h
    refine ⟨g, T, ol, or, rfl, ?_, TP.only hb ho hl, TP.only hb ho hr⟩
    rw [ho.2 g (Array.getElem?_eq_some_iff.1 hc).1 ?_]
    · exact hc
    · rintro rfl
      rw [hb] at hc
      simp at hc
theorem MP.lt {w : World} {b : Nat} {t : Tr} (h : MP w b t) : b < w.heap.size := by
  obtain ⟨T, o, h, _⟩ := h
  exact (Array.getElem?_eq_some_iff.1 h).1
theorem MP.below {w w' : World} {b : Nat} {t : Tr} (h : MP w b t) (hb : Below w.heap.size w w') : MP w' b t := by
  obtain ⟨T, o, h, ht⟩ := h
  exact ⟨T, o, by rw [hb.block b (Array.getElem?_eq_some_iff.1 h).1]; exact h, TP.below hb ht⟩
/-- A map stands when another one turns. -/
theorem MP.only {w w' : World} {b c : Nat} {t : Tr} {u v : Value} {T0 : TypeId} (h : MP w b t) (hc : w.heap[c]? = some (.cells #[u, v] T0 (0, 0))) (ho : Only c w w') (hne : b ≠ c) : MP w' b t := by
  have hlt := h.lt
  obtain ⟨T, o, h, ht⟩ := h
  exact ⟨T, o, by rw [ho.2 b hlt hne]; exact h, TP.only hc ho ht⟩
theorem MP.two {w : World} {b : Nat} {t : Tr} (h : MP w b t) : ∃ u v T, w.heap[b]? = some (.cells #[u, v] T (0, 0)) := by
  obtain ⟨T, o, h, _⟩ := h
  exact ⟨_, _, T, h⟩
theorem two_setCell {w : World} {b : Nat} {x y u : Value} {T : TypeId} (h : w.heap[b]? = some (.cells #[x, y] T (0, 0))) :
    (w.setCell ⟨b, 0, none⟩ u).heap[b]? = some (.cells #[u, y] T (0, 0)) ∧ (w.setCell ⟨b, 1, none⟩ u).heap[b]? = some (.cells #[x, u] T (0, 0)) := by
  have hlt := (Array.getElem?_eq_some_iff.1 h).1
  have h' : w.heap[b] = .cells #[x, y] T (0, 0) := by simpa [Array.getElem?_eq_getElem hlt] using h
  constructor
  · show (w.heap.modify b _)[b]? = _
    rw [Array.getElem?_eq_getElem (by simpa using hlt), Array.getElem_modify_self, h']
    rfl
  · show (w.heap.modify b _)[b]? = _
    rw [Array.getElem?_eq_getElem (by simpa using hlt), Array.getElem_modify_self, h']
    rfl
theorem len_put (k x : Value) : ∀ t : Tr, (prs (putT k x t)).length = (prs t).length + if newT k t = true then 1 else 0
  | .nil => by simp [putT, newT, prs]
  | .node l k' x' n r => by
    unfold putT newT
    split
    · rw [prs_join, prs_node, List.length_append, List.length_append, len_put k x l]; omega
    · split
      · rw [prs_join, prs_node, List.length_append, List.length_append, List.length_cons, List.length_cons, len_put k x r]; omega
      · rw [prs_node, prs_node]; simp
theorem getT_eq {K V : Value → Prop} (O : Ord K) {k : Value} (hk : K k) : ∀ {t : Tr}, WS K V t → Ris (prs t) → getT k t = getL k (prs t)
  | .nil, _, _ => rfl
  | .node l k' x' n r, h, hr => by
    obtain ⟨_, a1, a2, a3, a4⟩ := h
    rw [prs_node, ris_app] at hr
    obtain ⟨r1, r2, r3⟩ := hr
    have hlk : ∀ p ∈ prs l, K p.1 ∧ lessV p.1 k' = true := fun p hp => ⟨(ws_keys a3 p hp).1, r3 p hp (k', x') (List.mem_cons_self ..)⟩
    have right : ∀ (a b : List (Value × Value)), (∀ p ∈ a, lessV k p.1 = false ∧ lessV p.1 k = true) → getL k (a ++ b) = getL k b := by
      intro a b ha
      induction a with
      | nil => rfl
      | cons p a ih =>
        obtain ⟨c, y⟩ := p
        have h0 := ha (c, y) (List.mem_cons_self ..)
        simp only [List.cons_append, getL, h0.1, h0.2, Bool.false_eq_true, if_false, if_true]
        exact ih (fun p hp => ha p (List.mem_cons_of_mem _ hp))
    have left : ∀ (a b : List (Value × Value)), lessV k k' = true → getL k (a ++ (k', x') :: b) = getL k a := by
      intro a b g
      induction a with
      | nil => simp [getL, g]
      | cons p a ih =>
        obtain ⟨c, y⟩ := p
        simp only [List.cons_append, getL, ih]
    unfold getT
    rw [prs_node]
    split
    · next g => rw [getT_eq O hk a3 r1, left _ _ g]
    · next g =>
      have g' : lessV k k' = false := by simpa using g
      split
      · next g2 =>
        rw [getT_eq O hk a4 r2.2, right _ _ (fun p hp => by
          have q1 := O.tr p.1 k' k (hlk p hp).1 a1 hk (hlk p hp).2 g2
          exact ⟨O.asym (hlk p hp).1 hk q1, q1⟩)]
        simp only [getL, g', g2, Bool.false_eq_true, if_false, if_true]
      · next g2 =>
        have g2' : lessV k' k = false := by simpa using g2
        have e := O.tot k k' hk a1 g' g2'
        subst e
        rw [right _ _ (fun p hp => ⟨O.asym (hlk p hp).1 hk (hlk p hp).2, (hlk p hp).2⟩)]
        simp only [getL, g', Bool.false_eq_true, if_false]
/-- What a map's Put leaves. -/
def MapPost (b : Nat) (t : Tr) (z : Bool) (w : World) (e : Ending) (w' : World) : Prop := e = .returned (.bool z) ∧ MP w' b t ∧ Only b w w' ∧ Below b w w'
end Go.Proofs.YtjnejbeeoepdnaaDoor
namespace Go.Proofs.YtjnejbeeoepdnaaDoor
open Go.RowKit

/-- Nodes lie on. -/
def NK (w W : World) : Prop := w.heap.size ≤ W.heap.size ∧ ∀ (b : Nat) (k x : Value) (n : Int) (ol or : Option Addr) (T : TypeId), w.heap[b]? = some (.cells #[k, x, .int .i64 n, .pointer ol, .pointer or] T (0, 0)) → W.heap[b]? = some (.cells #[k, x, .int .i64 n, .pointer ol, .pointer or] T (0, 0))
theorem NK.refl (w : World) : NK w w := ⟨Nat.le_refl _, fun _ _ _ _ _ _ _ h => h⟩
theorem NK.trans {a b c : World} (h : NK a b) (k : NK b c) : NK a c := ⟨Nat.le_trans h.1 k.1, fun i k' x n ol or T hc => k.2 i k' x n ol or T (h.2 i k' x n ol or T hc)⟩
theorem NK.of_below {w W : World} (h : Below w.heap.size w W) : NK w W := ⟨h.size, fun b _ _ _ _ _ _ hc => by rw [h.block b (Array.getElem?_eq_some_iff.1 hc).1]; exact hc⟩
theorem NK.of_only {w W : World} {b : Nat} {u v : Value} {T0 : TypeId} (hb : w.heap[b]? = some (.cells #[u, v] T0 (0, 0))) (h : Only b w W) : NK w W :=
  ⟨h.1, fun g _ _ _ _ _ _ hc => by
    rw [h.2 g (Array.getElem?_eq_some_iff.1 hc).1 (by rintro rfl; rw [hb] at hc; simp at hc)]; exact hc⟩
theorem NK.drew {w W : World} (h : NK w W) : NK w W.drew := ⟨h.1, h.2⟩
theorem NK.own (w : World) {β : Type} : OwnFrom w.heap.size (fun (_ : β) W => NK w W) := fun _ A C row hs hg hr => ⟨Nat.le_trans hs.1 hg.size, fun b k x n ol or T hc => by
  have h := hs.2 b k x n ol or T hc
  rw [hg.block b (Array.getElem?_eq_some_iff.1 h).1 (fun e => by
    have := (hr b e.symm).1
    have := (Array.getElem?_eq_some_iff.1 hc).1
    omega)]
  exact h⟩
/-- A node's cells, wherever nodes lie on. -/
theorem NK.cells {w W : World} (h : NK w W) {b : Nat} {k x : Value} {n : Int} {ol or : Option Addr} {T : TypeId} (hc : w.heap[b]? = some (.cells #[k, x, .int .i64 n, .pointer ol, .pointer or] T (0, 0))) :
    W.cell? ⟨b, 0, none⟩ = some k ∧ W.cell? ⟨b, 1, none⟩ = some x ∧ W.cell? ⟨b, 3, none⟩ = some (.pointer ol) ∧ W.cell? ⟨b, 4, none⟩ = some (.pointer or) := by
  have := h.2 b k x n ol or T hc
  refine ⟨?_, ?_, ?_, ?_⟩ <;> simp [World.cell?, this]
theorem tp_nk {w W : World} (h : NK w W) : ∀ {o : Option Addr} {t : Tr}, TP w o t → TP W o t
  | _, .nil, ht => ht
  | _, .node _ _ _ _ _, ht => by
    obtain ⟨b, T, ol, or, rfl, hc, hl, hr⟩ := ht
    exact ⟨b, T, ol, or, rfl, h.2 b _ _ _ _ _ T hc, tp_nk h hl, tp_nk h hr⟩
/-- A draw changes no block. -/
theorem own_drew {β : Type} {B : Nat} {I : β → World → Prop} (h : OwnFrom B I) {s : β} {W : World} (hs : I s W) : I s W.drew :=
  h s W W.drew none hs ⟨rfl, rfl, rfl, Nat.le_refl _, fun _ _ _ => rfl⟩ (fun _ e => by cases e)
/-- What a recursive walk answers. -/
def RiseP (J Jx : List (Value × Value) → World → Prop) (pre l : List (Value × Value)) (e : Ending) (W' : World) : Prop :=
  (e = .returned (.bool true) ∧ J (pre ++ l) W') ∨ (e = .returned (.bool false) ∧ ∃ q, (∃ t, l = q ++ t) ∧ Jx (pre ++ q) W')
end Go.Proofs.YtjnejbeeoepdnaaDoor
namespace Go.Proofs.YtjnejbeeoepdnaaDoor
open Go.RowKit

/-- A region is walked on its own. -/
theorem cut_region {F : Fence} {n : Nat} {P : Program} {c : Code} {Q : Exit → Act → World → Prop} {a : Act} {w : World} (R : Act → World → Prop) (h : c.wpIn F n P (fun e a w => e = .normal ∧ R a w) a w) (hQ : ∀ a w, R a w → Q .normal a w) : c.wpIn F n P Q a w :=
  Code.wpIn_mono (fun e a w h => by obtain ⟨rfl, h⟩ := h; exact hQ a w h) h
/-- Nothing is deferred. -/
def noDefer (ops : Array Oper) : Bool := ops.all fun o => match o.op with | .defer _ => false | _ => true
/-- In a round a region goes as out of it, where nothing is deferred. -/
theorem any_inRound {F : Fence} {l n : Nat} {P : Program} {md : Region.Mode} {ops : Array Oper} {Q : Exit → Act → World → Prop} (hro : F.round = none) (hno : noDefer ops = true) :
    ∀ (fuel : Nat) (listed : Array Bool) (a : Act) (w : World), wpAnyIn F n P md ops Q fuel listed a w → wpAnyIn (F.inRound l) n P md ops Q fuel listed a w := by
  have hnd : ∀ (i : Nat) (o : Oper) c, ops[i]? = some o → o.op ≠ .defer c := by
    intro i o c hi hc
    obtain ⟨hlt, hi⟩ := Array.getElem?_eq_some_iff.1 hi
    have := (Array.all_eq_true.1 hno) i hlt
    rw [hi, hc] at this
    simp at this
  intro fuel
  induction fuel with
  | zero => intro listed a w h; exact h
  | succ fuel ih =>
    intro listed a w h
    refine ⟨h.1, fun i hi => ?_⟩
    have h2 := wpOpIn_mono (fun a w h => ih _ a w h) (h.2 i hi)
    unfold wpOpIn at h2 ⊢
    cases ho : ops[i]? with
    | none => simpa [ho] using h2
    | some o =>
      simp only [ho] at h2 ⊢
      have e : ∀ K, Oper.wpIn F n P o a w K Q → Oper.wpIn (F.inRound l) n P o a w K Q := by
        intro K h
        unfold Oper.wpIn at h ⊢
        rw [hro, Oper.semAt_none] at h
        rw [Fence.inRound_round, Oper.semAt_some _ _ _ (fun c => hnd i o c ho)]
        refine ⟨h.1, ?_⟩
        generalize (execOp a.eval o).run P w = r at h ⊢
        rcases r with ⟨v, w'⟩ | ⟨s, w'⟩
        · cases v <;> exact h.2
        · cases s <;> exact h.2
      split
      · next hw => simp only [hw, if_true] at h2; exact e _ h2
      · next hw => simp only [hw] at h2; exact h2
/-- Rows of unlike types lie apart. -/
theorem rows_apart {W : World} {b b' : Nat} {e e' : TypeId} {s s' k k' : Nat} {v v' : Value} {xs xs' : List Value} (h : W.ownsRow b e s v k xs) (h' : W.ownsRow b' e' s' v' k' xs') (hne : e ≠ e') : v.ownBlock = none ∨ v.ownBlock ≠ v'.ownBlock := by
  rcases h.2 with ⟨rfl, _⟩ | ⟨g, cap, cur, rfl, _, hg, _⟩
  · exact .inl rfl
  · rcases h'.2 with ⟨rfl, _⟩ | ⟨g', cap', cur', rfl, _, hg', _⟩
    · exact .inr (by simp [Value.ownBlock])
    · refine .inr fun q => ?_
      obtain rfl : g = g' := by simpa [Value.ownBlock] using q
      rw [hg] at hg'
      simp at hg'
      exact hne hg'.2
/-- An append in a region. -/
theorem step_appendIn {F : Fence} {n : Nat} {P : Program} {w : World} {ops : Array Oper} {o : Oper} {a : Act} {K : Act → World → Prop} {Q : Exit → Act → World → Prop} {N : Prop} (hg : o.guard = none) (s x : Operand) (t : TypeId)
    (hop : o.op = Op.call { callee := Callee.builtin Builtin.append, args := #[s, x], argTypes := #[t, t] }) {base : Nat} {e : TypeId} {i : TypeInfo} {z : Value} {bytes : Nat} (h1 : P.underlying t = some (.slice e)) (h2 : P.info? e = some i) (h3 : i.zero = some z) (h4 : i.size = 1) (h5 : i.bytes = bytes)
    (h6 : z.cells.size = 1) {v : Value} {k : Nat} {xs : List Value} (hs : a.eval s = v) (hown : w.ownsRow base e 1 v k xs) {b : Nat} {u : Value} (hx : a.eval x = .slice (some ⟨b, 0, none⟩) 1 1) (hb : Boxed w b e u) (hu : u.oneCell' = true)
    (b1 : k + 1 ≤ maxLen) (b2 : (k + 1) * bytes ≤ 140737488355328) (b3 : base ≤ w.heap.size) (hK : ∀ v' w', w'.ownsRow base e 1 v' (k + 1) (xs ++ [u]) → w.grownBy w' v.ownBlock → K (a.put o.dst v') w') :
    if Region.wanted o (yielded ops a.tmps) = true then Oper.wpIn F n P o a w K Q else N := by
  have hw : Region.wanted o (yielded ops a.tmps) = true := by simp [Region.wanted, hg]
  rw [if_pos hw]
  obtain ⟨v', w', hrun, r1, r2, _⟩ := run_append_own (P := P) w base t o.type e i z 1 bytes h1 h2 h3 h4 h5 h6 (by decide) v k xs hown ⟨b, 0, none⟩ 1 1 [u] rfl
    (fun j y hj => by
      have hj0 : j = 0 := by
        have := (List.getElem?_eq_some_iff.1 hj).1
        simp at this; exact this
      subst hj0
      simp at hj
      subst hj
      exact hb.cell) (by simpa using hu) b1 b2 b3
  unfold Oper.wpIn
  refine ⟨by simp [Oper.about, hop, resolve, Target.leads, Sem.run_pure], ?_⟩
  rw [Oper.semAt_plain F _ _ (by rw [hop]; intro c hc'; cases hc')]
  simp [execOp, hop, resolve, invoke, builtin, hs, hx, hrun, Result.andThen]
  exact hK v' w' r1 r2
/-- Two boxes, two rows, a third box; what lies on since a world. -/
structure PSt (n₀ D Ba Bb Bn : Nat) (Ta Tb Tn Ea Eb : TypeId) (W₀ W : World) (va vb vn ua ub : Value) (la lb : List Value) : Prop where
  ba : Boxed W Ba Ta va
  bb : Boxed W Bb Tb vb
  bn : Boxed W Bn Tn vn
  ra : W.ownsRow n₀ Ea 1 ua la.length la
  rb : W.ownsRow n₀ Eb 1 ub lb.length lb
  kt : KT (fun T => T = Ea ∨ T = Eb) n₀ W₀ W
  bl : Below D W₀ W
  sz : n₀ ≤ W.heap.size
  la : Ba < n₀ ∧ Bb < n₀ ∧ Bn < n₀ ∧ D ≤ Ba ∧ D ≤ Bb ∧ D ≤ n₀ ∧ Ba ≠ Bb ∧ Ba ≠ Bn ∧ Bb ≠ Bn
  ne : Ea ≠ Eb
section
variable {n₀ D Ba Bb Bn : Nat} {Ta Tb Tn Ea Eb : TypeId} {W₀ W w1 : World} {va vb vn ua ub ua' ub' : Value} {la lb : List Value} {x : Value}
theorem PSt.grown {row : Option Nat} (h : PSt n₀ D Ba Bb Bn Ta Tb Tn Ea Eb W₀ W va vb vn ua ub la lb) (hg : W.grownBy w1 row) (hr : ∀ k, row = some k → n₀ ≤ k) (ha : ua.ownBlock = none ∨ ua.ownBlock ≠ row) (hb : ub.ownBlock = none ∨ ub.ownBlock ≠ row)
    (hkt : KT (fun T => T = Ea ∨ T = Eb) n₀ W w1) : PSt n₀ D Ba Bb Bn Ta Tb Tn Ea Eb W₀ w1 va vb vn ua ub la lb := by
  have ne : ∀ j, j < n₀ → some j ≠ row := fun j hj e => by have := hr j e.symm; omega
  exact ⟨h.ba.kept hg (ne _ h.la.1), h.bb.kept hg (ne _ h.la.2.1), h.bn.kept hg (ne _ h.la.2.2.1), h.ra.kept hg ha, h.rb.kept hg hb, h.kt.trans hkt,
    h.bl.grown hg (Nat.le_trans h.la.2.2.2.2.2.1 h.sz) (fun k e => Nat.le_trans h.la.2.2.2.2.2.1 (hr k e)), Nat.le_trans h.sz hg.size, h.la, h.ne⟩
theorem PSt.alloc (h : PSt n₀ D Ba Bb Bn Ta Tb Tn Ea Eb W₀ W va vb vn ua ub la lb) (o : Obj) : PSt n₀ D Ba Bb Bn Ta Tb Tn Ea Eb W₀ (W.alloc o) va vb vn ua ub la lb :=
  h.grown (World.grownBy_alloc W o none) (fun _ e => by cases e) (by cases hv : ua.ownBlock <;> simp) (by cases hv : ub.ownBlock <;> simp) (KT.alloc _ _ _ _)
theorem PSt.drew (h : PSt n₀ D Ba Bb Bn Ta Tb Tn Ea Eb W₀ W va vb vn ua ub la lb) : PSt n₀ D Ba Bb Bn Ta Tb Tn Ea Eb W₀ W.drew va vb vn ua ub la lb :=
  h.grown (row := none) ⟨rfl, rfl, rfl, Nat.le_refl _, fun _ _ _ => rfl⟩ (fun _ e => by cases e) (by cases hv : ua.ownBlock <;> simp) (by cases hv : ub.ownBlock <;> simp) (KT.drew _ _ _)
theorem kt_row {Wr : TypeId → Prop} {e : TypeId} {k : Nat} {v : Value} {xs : List Value} {B : Nat} (hr : W.ownsRow n₀ e 1 v k xs) (hg : W.grownBy w1 v.ownBlock) (hw : Wr e) : KT Wr B W w1 := by
  refine KT.of_grown hg fun j ej => ?_
  rcases hr.2 with ⟨rfl, _⟩ | ⟨g, cap, cur, rfl, _, hgb, _⟩
  · simp [Value.ownBlock] at ej
  · obtain rfl : g = j := by simpa [Value.ownBlock] using ej
    exact .inr ⟨_, _, _, hgb, hw⟩
theorem PSt.appA (h : PSt n₀ D Ba Bb Bn Ta Tb Tn Ea Eb W₀ W va vb vn ua ub la lb) (hr : w1.ownsRow n₀ Ea 1 ua' (la.length + 1) (la ++ [x])) (hg : W.grownBy w1 ua.ownBlock) :
    PSt n₀ D Ba Bb Bn Ta Tb Tn Ea Eb W₀ w1 va vb vn ua' ub (la ++ [x]) lb := by
  have ne : ∀ j, j < n₀ → some j ≠ ua.ownBlock := fun j hj e => by have := (h.ra.lt j e.symm).1; omega
  exact ⟨h.ba.kept hg (ne _ h.la.1), h.bb.kept hg (ne _ h.la.2.1), h.bn.kept hg (ne _ h.la.2.2.1), by simpa using hr, h.rb.kept hg (rows_apart h.rb h.ra (Ne.symm h.ne)), h.kt.trans (kt_row h.ra hg (.inl rfl)),
    h.bl.grown hg (Nat.le_trans h.la.2.2.2.2.2.1 h.sz) (fun k e => Nat.le_trans h.la.2.2.2.2.2.1 (h.ra.lt k e).1), Nat.le_trans h.sz hg.size, h.la, h.ne⟩
theorem PSt.appB (h : PSt n₀ D Ba Bb Bn Ta Tb Tn Ea Eb W₀ W va vb vn ua ub la lb) (hr : w1.ownsRow n₀ Eb 1 ub' (lb.length + 1) (lb ++ [x])) (hg : W.grownBy w1 ub.ownBlock) :
    PSt n₀ D Ba Bb Bn Ta Tb Tn Ea Eb W₀ w1 va vb vn ua ub' la (lb ++ [x]) := by
  have ne : ∀ j, j < n₀ → some j ≠ ub.ownBlock := fun j hj e => by have := (h.rb.lt j e.symm).1; omega
  exact ⟨h.ba.kept hg (ne _ h.la.1), h.bb.kept hg (ne _ h.la.2.1), h.bn.kept hg (ne _ h.la.2.2.1), h.ra.kept hg (rows_apart h.ra h.rb h.ne), by simpa using hr, h.kt.trans (kt_row h.rb hg (.inr rfl)),
    h.bl.grown hg (Nat.le_trans h.la.2.2.2.2.2.1 h.sz) (fun k e => Nat.le_trans h.la.2.2.2.2.2.1 (h.rb.lt k e).1), Nat.le_trans h.sz hg.size, h.la, h.ne⟩
/-- A block of a new element, through an append of the other kind. -/
theorem temp_kept {k m : Nat} {e e' : TypeId} {v : Value} {xs : List Value} (h : Boxed W k e x) (hr : W.ownsRow n₀ e' 1 v m xs) (hg : W.grownBy w1 v.ownBlock) (hne : e ≠ e') : Boxed w1 k e x := h.kept hg (h.not_row hne hr)
/-- A new element in a block of its own. -/
theorem PSt.temp (h : PSt n₀ D Ba Bb Bn Ta Tb Tn Ea Eb W₀ W va vb vn ua ub la lb) (T : TypeId) (u : Value) : PSt n₀ D Ba Bb Bn Ta Tb Tn Ea Eb W₀ (W.alloc (.cells #[u] T)) va vb vn ua ub la lb ∧ Boxed (W.alloc (.cells #[u] T)) W.heap.size T u :=
  ⟨h.alloc _, Boxed.new W T u⟩
/-- The stores. -/
theorem PSt.setA (h : PSt n₀ D Ba Bb Bn Ta Tb Tn Ea Eb W₀ W va vb vn ua ub la lb) (u : Value) : PSt n₀ D Ba Bb Bn Ta Tb Tn Ea Eb W₀ (W.setCell ⟨Ba, 0, none⟩ u) u vb vn ua ub la lb := by
  have hg := grownBy_setCell' W Ba u
  have row : ∀ {e : TypeId} {v : Value} {k : Nat} {xs : List Value}, W.ownsRow n₀ e 1 v k xs → v.ownBlock = none ∨ v.ownBlock ≠ some Ba := fun hr => .inr fun e => by have := (hr.lt _ e).1; have := h.la.1; omega
  have l := h.la
  exact ⟨h.ba.set u, h.bb.other (by omega) u, h.bn.other (by omega) u, h.ra.kept hg (row h.ra), h.rb.kept hg (row h.rb), h.kt.trans (KT.of_grown hg fun k e => .inl (by cases e; omega)), h.bl.setCell (p := ⟨Ba, 0, none⟩) (by show D ≤ Ba; omega) u, by simpa [World.setCell] using h.sz, h.la, h.ne⟩
theorem PSt.setB (h : PSt n₀ D Ba Bb Bn Ta Tb Tn Ea Eb W₀ W va vb vn ua ub la lb) (u : Value) : PSt n₀ D Ba Bb Bn Ta Tb Tn Ea Eb W₀ (W.setCell ⟨Bb, 0, none⟩ u) va u vn ua ub la lb := by
  have hg := grownBy_setCell' W Bb u
  have row : ∀ {e : TypeId} {v : Value} {k : Nat} {xs : List Value}, W.ownsRow n₀ e 1 v k xs → v.ownBlock = none ∨ v.ownBlock ≠ some Bb := fun hr => .inr fun e => by have := (hr.lt _ e).1; have := h.la.2.1; omega
  have l := h.la
  exact ⟨h.ba.other (by omega) u, h.bb.set u, h.bn.other (by omega) u, h.ra.kept hg (row h.ra), h.rb.kept hg (row h.rb), h.kt.trans (KT.of_grown hg fun k e => .inl (by cases e; omega)), h.bl.setCell (p := ⟨Bb, 0, none⟩) (by show D ≤ Bb; omega) u, by simpa [World.setCell] using h.sz, h.la, h.ne⟩
end
end Go.Proofs.YtjnejbeeoepdnaaDoor
namespace Go.Proofs.YtjnejbeeoepdnaaDoor
open Go.RowKit
/-- The cells of pairs. -/
def flatP : List (Value × Value) → List Value
  | [] => []
  | p :: t => p.1 :: p.2 :: flatP t
theorem flatP_len : ∀ l : List (Value × Value), (flatP l).length = l.length * 2
  | [] => rfl
  | p :: t => by simp [flatP, flatP_len t]; omega
theorem flatP_app : ∀ a b : List (Value × Value), flatP (a ++ b) = flatP a ++ flatP b
  | [], _ => rfl
  | p :: t, b => by simp [flatP, flatP_app t b]
theorem flatP_at : ∀ (l : List (Value × Value)) (i : Nat) (h : i < l.length), (flatP l)[i * 2]? = some l[i].1 ∧ (flatP l)[i * 2 + 1]? = some l[i].2
  | p :: t, 0, _ => by simp [flatP]
  | p :: t, i + 1, h => by
    have e : (i + 1) * 2 = i * 2 + 1 + 1 := by omega
    have := flatP_at t i (by simpa using h)
    simp only [flatP, e, List.getElem?_cons_succ, List.getElem_cons_succ]
    exact this
/-- Behind an append to a slice of elements of any size in a box that lies ahead of all rows. -/
theorem appended2 {W w1 : World} {n₀ B size : Nat} {t e : TypeId} {v v' : Value} {k m : Nat} {xs ys : List Value} {tmp : Obj} (hv : Boxed W B t v) (hB : B < n₀) (hn : n₀ ≤ W.heap.size) (hrow : W.ownsRow n₀ e size v k xs)
    (hown' : w1.ownsRow n₀ e size v' m ys) (hgrow : (W.alloc tmp).grownBy w1 v.ownBlock) :
    Boxed w1 B t v ∧ Boxed (w1.setCell ⟨B, 0, none⟩ v') B t v' ∧ (w1.setCell ⟨B, 0, none⟩ v').ownsRow n₀ e size v' m ys ∧ (∀ c, c ≤ B → Below c W (w1.setCell ⟨B, 0, none⟩ v')) := by
  have ne : ∀ j, j < n₀ → some j ≠ v.ownBlock := fun j hj e => by have := (hrow.lt j e.symm).1; omega
  have hv1 : Boxed w1 B t v := (hv.alloc tmp).kept hgrow (ne B hB)
  have ne' : v'.ownBlock = none ∨ v'.ownBlock ≠ some B := .inr fun e => by have := (hown'.lt B e).1; omega
  refine ⟨hv1, hv1.set v', hown'.kept (grownBy_setCell' w1 B v') ne', fun c hc => ?_⟩
  exact (((Below.refl c W).alloc (by omega) tmp).grown hgrow (by simp; omega) (fun j ej => by have := (hrow.lt j ej).1; omega)).setCell (p := ⟨B, 0, none⟩) hc v'
/-- Two rows of pairs, merged: of a key that both have the second one's. -/
def mrgL : List (Value × Value) → List (Value × Value) → List (Value × Value)
  | ra, [] => ra
  | [], x :: t => x :: mrgL [] t
  | p :: ra, x :: t => if lessV p.1 x.1 = true then p :: mrgL ra (x :: t) else if lessV x.1 p.1 = true then x :: mrgL (p :: ra) t else x :: mrgL ra t
termination_by a b => a.length + b.length
theorem mrg_end (ra : List (Value × Value)) : mrgL ra [] = ra := by cases ra <;> simp [mrgL]
theorem mrg_less {p x : Value × Value} {ra t : List (Value × Value)} (h : lessV p.1 x.1 = true) : mrgL (p :: ra) (x :: t) = p :: mrgL ra (x :: t) := by rw [mrgL, if_pos h]
theorem mrg_more {p x : Value × Value} {ra t : List (Value × Value)} (h : lessV p.1 x.1 = false) (h2 : lessV x.1 p.1 = true) : mrgL (p :: ra) (x :: t) = x :: mrgL (p :: ra) t := by rw [mrgL, if_neg (by simp [h]), if_pos h2]
theorem mrg_same {p x : Value × Value} {ra t : List (Value × Value)} (h : lessV p.1 x.1 = false) (h2 : lessV x.1 p.1 = false) : mrgL (p :: ra) (x :: t) = x :: mrgL ra t := by rw [mrgL, if_neg (by simp [h]), if_neg (by simp [h2])]
theorem mrg_none {x : Value × Value} {t : List (Value × Value)} : mrgL [] (x :: t) = x :: mrgL [] t := by rw [mrgL]
theorem mrg_nil : ∀ t : List (Value × Value), mrgL [] t = t
  | [] => by simp [mrgL]
  | x :: t => by rw [mrg_none, mrg_nil t]
theorem mrg_mem (P : Value × Value → Prop) : ∀ a b : List (Value × Value), (∀ p ∈ a, P p) → (∀ p ∈ b, P p) → ∀ p ∈ mrgL a b, P p
  | ra, [], ha, _ => by rw [mrg_end]; exact ha
  | [], x :: t, _, hb => by rw [mrg_nil]; exact hb
  | p :: ra, x :: t, ha, hb => by
    have a1 := ha p (by simp)
    have a2 : ∀ q ∈ ra, P q := fun q hq => ha q (by simp [hq])
    have b1 := hb x (by simp)
    have b2 : ∀ q ∈ t, P q := fun q hq => hb q (by simp [hq])
    intro q hq
    rw [mrgL] at hq
    split at hq
    · rcases List.mem_cons.1 hq with rfl | hq
      · exact a1
      · exact mrg_mem P ra (x :: t) a2 hb q hq
    · split at hq
      · rcases List.mem_cons.1 hq with rfl | hq
        · exact b1
        · exact mrg_mem P (p :: ra) t ha b2 q hq
      · rcases List.mem_cons.1 hq with rfl | hq
        · exact b1
        · exact mrg_mem P ra t a2 b2 q hq
termination_by a b => a.length + b.length
theorem mrg_len : ∀ a b : List (Value × Value), (mrgL a b).length ≤ a.length + b.length
  | ra, [] => by rw [mrg_end]; simp
  | [], x :: t => by rw [mrg_nil]; simp
  | p :: ra, x :: t => by
    rw [mrgL]
    split
    · have := mrg_len ra (x :: t); simp at this ⊢; omega
    · split
      · have := mrg_len (p :: ra) t; simp at this ⊢; omega
      · have := mrg_len ra t; simp at this ⊢; omega
termination_by a b => a.length + b.length
theorem run_store_fn (P : Program) (w : World) (a : Addr) (m : Mode) (f : Fn) (ts l : Array Value) : (store a (.func f ts l) m).run P w = stored P w a (.func f ts l) m := run_store P w a _ m rfl
theorem grown_below {w w' : World} {B : Nat} (h : Below B w w') (hB : B = w.heap.size := by simp) (row : Option Nat := none) : w.grownBy w' row := by
  subst hB
  exact ⟨h.1, h.2, h.3, h.size, fun k hk _ => h.block k hk⟩
theorem rem_eq {α : Type} {xs pre t rem : List α} {x : α} (h : xs = pre ++ x :: t) (e : xs = pre ++ [x] ++ rem) : rem = t := by
  rw [h] at e
  simpa using e.symm
/-- A relation that a walk leaves alone. -/
def Kept (p : Prop) : Prop := p
theorem Kept.intro {p : Prop} (h : p) : Kept p := h
theorem Kept.out {p : Prop} (h : Kept p) : p := h
/-- The length of the slice in a box. -/
def lenAt (W : World) (b : Nat) : Nat := match W.cell? ⟨b, 0, none⟩ with | some (.slice _ n _) => n | _ => 0
theorem lenAt_box {W : World} {b : Nat} {T : TypeId} {a : Option Addr} {n c : Nat} (h : Boxed W b T (.slice a n c)) : lenAt W b = n := by unfold lenAt; rw [h.cell]
end Go.Proofs.YtjnejbeeoepdnaaDoor
namespace Go.Proofs.YtjnejbeeoepdnaaDoor
open Go.RowKit

/-- A mark: its time, its bound. -/
abbrev MarkT := Int × Int
def cellsM (m : MarkT) : List Value := [.int .i64 m.1, .int .i64 m.2]
theorem cellsM_len (l : List MarkT) : ∀ r ∈ l.map cellsM, r.length = 2 := by
  intro r hr; obtain ⟨p, _, rfl⟩ := List.mem_map.1 hr; rfl
def RdMk (w : World) (v : Value) (l : List MarkT) : Prop := RdF 2 w v (l.map cellsM)
theorem RdMk.up {w w' : World} {v : Value} {l : List MarkT} (h : RdMk w v l) (hb : Below w.heap.size w w') : RdMk w' v l := RdF.below h hb (Nat.le_refl _)
theorem RdMk.drewN {w : World} {v : Value} {l : List MarkT} (h : RdMk w v l) (q : Nat) : RdMk (w.drewN q) v l := RdF.drewN h q
theorem RdMk.form {w : World} {v : Value} {l : List MarkT} (h : RdMk w v l) : ∃ a cap, v = .slice a l.length cap ∧ l.length ≤ 9223372036854775807 := by
  obtain ⟨a, cap, hv, h1, _⟩ := h
  rw [List.length_map] at hv h1
  exact ⟨a, cap, hv, h1⟩
theorem RdMk.get {w : World} {a : Option Addr} {n cap : Nat} {l : List MarkT} (h : RdMk w (.slice a n cap) l) {i : Nat} (hi : i < l.length) : ∃ b off, a = some ⟨b, off, none⟩ ∧ w.cell? ⟨b, off + i * 2, none⟩ = some (.int .i64 l[i].1) ∧ w.cell? ⟨b, off + i * 2 + 1, none⟩ = some (.int .i64 l[i].2) := by
  obtain ⟨a', c', he, _, _, _, h4⟩ := h
  simp only [Value.slice.injEq] at he
  obtain ⟨rfl, _, rfl⟩ := he
  obtain ⟨b, off, ha, hc⟩ := h4 (by intro e; rw [List.map_eq_nil_iff] at e; rw [e] at hi; simp at hi)
  have hi' : i < (l.map cellsM).length := by simpa using hi
  exact ⟨b, off, ha, hc i hi' 0 _ (by simp [cellsM]), hc i hi' 1 _ (by simp [cellsM])⟩
theorem RdMk.of_row {w : World} {base : Nat} {e : TypeId} {v : Value} {l : List MarkT} (h : w.ownsRow base e 2 v l.length (l.map cellsM).flatten) : RdMk w v l := RdF.of_row (cellsM_len l) (by simpa using h)
theorem RdMk.nil (w : World) : RdMk w (.slice none 0 0) [] := ⟨none, 0, rfl, by simp, by simp, by simp, fun h => absurd rfl h⟩
theorem cellsM_one {l : List MarkT} : ∀ u ∈ (l.map cellsM).flatten, u.oneCell' = true := by
  intro u hu
  obtain ⟨r, hr, hu⟩ := List.mem_flatten.1 hu
  obtain ⟨c, _, rfl⟩ := List.mem_map.1 hr
  simp only [cellsM, List.mem_cons, List.not_mem_nil, or_false] at hu
  rcases hu with rfl | rfl <;> rfl
/-- May a mark be? -/
def mayB (m : MarkT) : Bool := decide (0 ≤ m.1 ∧ m.1 ≤ 1099511627776 ∧ 1 ≤ m.2 ∧ m.2 ≤ 1000000)
/-- May a mark stand behind another one? -/
def nextB (p m : MarkT) : Bool := decide (m.1 < p.1 ∧ p.2 < m.2)
/-- May the first k of them be? -/
def StairK (l : List MarkT) (k : Nat) : Prop := ∀ i (h : i < l.length), i < k → mayB l[i] = true ∧ ∀ j (hj : j < l.length), j + 1 = i → nextB l[j] l[i] = true
/-- May they be? -/
def MayL (l : List MarkT) : Prop := StairK l l.length ∧ l.length ≤ 8
instance decStair (l : List MarkT) (k : Nat) : Decidable (StairK l k) := by unfold StairK; infer_instance
instance decMay (l : List MarkT) : Decidable (MayL l) := by unfold MayL; infer_instance
def mayLk (l : List MarkT) : Bool := decide (MayL l)
theorem mayL_yes {l : List MarkT} (h : MayL l) : mayLk l = true := by unfold mayLk; exact decide_eq_true h
theorem mayL_no {l : List MarkT} (h : ¬ MayL l) : mayLk l = false := by unfold mayLk; exact decide_eq_false h
theorem mayLk_of {l : List MarkT} (h : mayLk l = true) : MayL l := by unfold mayLk at h; exact of_decide_eq_true h
theorem stairK_zero (l : List MarkT) : StairK l 0 := fun _ _ h => absurd h (Nat.not_lt_zero _)
theorem stairK_succ {l : List MarkT} {k : Nat} (h : StairK l k) (hk : k < l.length) (h1 : mayB l[k] = true) (h2 : ∀ j (hj : j < l.length), j + 1 = k → nextB l[j] l[k] = true) : StairK l (k + 1) := by
  intro i hi hik
  by_cases e : i = k
  · subst e; exact ⟨h1, h2⟩
  · exact h i hi (by omega)
theorem mayL_one (m : MarkT) : mayLk [m] = mayB m := by
  cases h : mayB m with
  | true =>
    refine mayL_yes ⟨fun i hi _ => ?_, by simp⟩
    obtain rfl : i = 0 := by simpa using hi
    exact ⟨by simpa using h, fun j hj e => by omega⟩
  | false =>
    refine mayL_no fun ⟨h1, _⟩ => ?_
    have := (h1 0 (by simp) (by simp)).1
    simp only [List.getElem_cons_zero] at this
    rw [h] at this; cases this
/-- Does a say all that b says? -/
def domB (a b : MarkT) : Bool := decide (b.1 ≤ a.1 ∧ b.2 ≤ a.2)
/-- A mark laid among marks. -/
def insM (m : MarkT) : List MarkT → List MarkT
  | [] => [m]
  | x :: t => if x.1 < m.1 then m :: x :: t else x :: insM m t
def hasLess (m : MarkT) (l : List MarkT) : Bool := l.any (fun x => decide (x.1 < m.1))
theorem insM_len (m : MarkT) : ∀ l, (insM m l).length = l.length + 1
  | [] => rfl
  | x :: t => by unfold insM; split <;> simp [insM_len m t]
theorem insM_perm (m : MarkT) : ∀ l, (insM m l).Perm (m :: l)
  | [] => List.Perm.refl _
  | x :: t => by
    unfold insM
    split
    · exact List.Perm.refl _
    · exact ((insM_perm m t).cons x).trans (List.Perm.swap m x t)
theorem insM_none {m : MarkT} : ∀ {l}, hasLess m l = false → insM m l = l ++ [m]
  | [], _ => rfl
  | x :: t, h => by
    simp only [hasLess, List.any_cons, Bool.or_eq_false_iff, decide_eq_false_iff_not] at h
    unfold insM
    rw [if_neg h.1, insM_none (l := t) (by unfold hasLess; exact h.2)]
    rfl
theorem insM_app {m : MarkT} (x : MarkT) : ∀ {l}, hasLess m l = true → insM m (l ++ [x]) = insM m l ++ [x]
  | [], h => by simp [hasLess] at h
  | y :: t, h => by
    simp only [List.cons_append, insM]
    by_cases e : y.1 < m.1
    · rw [if_pos e, if_pos e]; rfl
    · rw [if_neg e, if_neg e]
      simp only [hasLess, List.any_cons, Bool.or_eq_true, decide_eq_true_eq] at h
      rw [insM_app x (l := t) (by unfold hasLess; rcases h with h | h; exact absurd h e; exact h)]
      rfl
theorem insM_less {m x : MarkT} : ∀ {l}, hasLess m l = false → x.1 < m.1 → insM m (l ++ [x]) = l ++ [m] ++ [x]
  | [], _, hx => by simp [insM, hx]
  | y :: t, h, hx => by
    simp only [hasLess, List.any_cons, Bool.or_eq_false_iff, decide_eq_false_iff_not] at h
    simp only [List.cons_append, insM]
    rw [if_neg h.1, insM_less (l := t) (by unfold hasLess; exact h.2) hx]
theorem hasLess_snoc (m x : MarkT) (l : List MarkT) : hasLess m (l ++ [x]) = (hasLess m l || decide (x.1 < m.1)) := by simp [hasLess]
/-- What is left when what m says already is taken away. -/
def leftM (m : MarkT) (l : List MarkT) : List MarkT := l.filter (fun x => !domB m x)
theorem leftM_len (m : MarkT) (l : List MarkT) : (leftM m l).length ≤ l.length := List.length_filter_le _ _
theorem leftM_snoc {m : MarkT} {l : List MarkT} {k : Nat} (h : k < l.length) : leftM m (l.take (k + 1)) = leftM m (l.take k) ++ if domB m l[k] = true then [] else [l[k]] := by
  unfold leftM
  rw [List.take_succ_eq_append_getElem h, List.filter_append]
  cases e : domB m l[k] <;> simp [e]
/-- A mark more: the marks, and the error. -/
def addL (l : List MarkT) (m : MarkT) : List MarkT × Int :=
  if mayLk l && mayB m then
    if l.any (fun x => domB x m) then (l, 0)
    else if 8 < (leftM m l).length + 1 then ([], 17) else (insM m (leftM m l), 0)
  else ([], 4)
theorem addL_bad {l : List MarkT} {m : MarkT} (h : mayLk l = false ∨ mayB m = false) : addL l m = ([], 4) := by
  unfold addL
  rw [if_neg]
  simp only [Bool.and_eq_true, not_and, Bool.not_eq_true]
  rcases h with h | h
  · intro h2; rw [h] at h2; cases h2
  · intro _; exact h
theorem addL_dom {l : List MarkT} {m : MarkT} (h1 : mayLk l = true) (h2 : mayB m = true) (h : l.any (fun x => domB x m) = true) : addL l m = (l, 0) := by
  unfold addL
  rw [if_pos (by rw [h1, h2]; rfl), if_pos h]
theorem addL_many {l : List MarkT} {m : MarkT} (h1 : mayLk l = true) (h2 : mayB m = true) (h : l.any (fun x => domB x m) = false) (h3 : 8 < (leftM m l).length + 1) : addL l m = ([], 17) := by
  unfold addL
  rw [if_pos (by rw [h1, h2]; rfl), if_neg (by rw [h]; decide), if_pos h3]
theorem addL_new {l : List MarkT} {m : MarkT} (h1 : mayLk l = true) (h2 : mayB m = true) (h : l.any (fun x => domB x m) = false) (h3 : ¬ 8 < (leftM m l).length + 1) : addL l m = (insM m (leftM m l), 0) := by
  unfold addL
  rw [if_pos (by rw [h1, h2]; rfl), if_neg (by rw [h]; decide), if_neg h3]
/-- Is an entry covered? -/
def covL (l : List MarkT) (num time : Int) : Bool := l.any (fun m => decide (time ≤ m.1 ∧ num < m.2))
/-- Neighbours fall: all do. -/
theorem stair_falls {l : List MarkT} (h : StairK l l.length) : ∀ i j (hi : i < l.length) (hj : j < l.length), i < j → l[j].1 < l[i].1 ∧ l[i].2 < l[j].2 := by
  intro i j hi hj hij
  induction j with
  | zero => omega
  | succ j ih =>
    have hn := (h (j + 1) hj hj).2 j (by omega) rfl
    unfold nextB at hn
    rw [decide_eq_true_eq] at hn
    by_cases e : i = j
    · subst e; exact hn
    · have := ih (by omega) (by omega)
      omega
theorem stair_pairs {l : List MarkT} (h : StairK l l.length) : l.Pairwise (fun a b => b.1 < a.1 ∧ a.2 < b.2) := by
  rw [List.pairwise_iff_getElem]
  intro i j hi hj hij
  exact stair_falls h i j hi hj hij
theorem stair_may {l : List MarkT} (h : StairK l l.length) : ∀ m ∈ l, mayB m = true := by
  intro m hm
  obtain ⟨i, hi, rfl⟩ := List.mem_iff_getElem.1 hm
  exact (h i hi hi).1
/-- Laid among what is left, all times differ and fall. -/
theorem insM_falls {m : MarkT} : ∀ {l : List MarkT}, l.Pairwise (fun a b => b.1 < a.1 ∧ a.2 < b.2) → (∀ x ∈ l, x.1 ≠ m.1) → (insM m l).Pairwise (fun a b => b.1 < a.1)
  | [], _, _ => by simp [insM]
  | x :: t, h, hn => by
    obtain ⟨h1, h2⟩ := List.pairwise_cons.1 h
    unfold insM
    split
    · next e =>
      refine List.pairwise_cons.2 ⟨fun y hy => ?_, h.imp (fun h => h.1)⟩
      rcases List.mem_cons.1 hy with rfl | hy
      · exact e
      · have := (h1 y hy).1; omega
    · next e =>
      refine List.pairwise_cons.2 ⟨fun y hy => ?_, insM_falls h2 (fun z hz => hn z (by simp [hz]))⟩
      have := (insM_perm m t).mem_iff.1 hy
      have hx := hn x (by simp)
      rcases List.mem_cons.1 this with rfl | hy
      · omega
      · exact (h1 y hy).1
theorem left_apart {l : List MarkT} {m : MarkT} (hd : l.any (fun x => domB x m) = false) : ∀ x ∈ leftM m l, x.1 ≠ m.1 := by
  intro x hx e
  unfold leftM at hx
  obtain ⟨h1, h2⟩ := List.mem_filter.1 hx
  have h3 : domB x m = false := by
    have := List.any_eq_false.1 hd x h1
    simpa using this
  simp only [domB, Bool.not_eq_true', decide_eq_false_iff_not] at h2 h3
  omega
/-- Sorted by falling times it is just that. -/
theorem sort_is {l : List MarkT} {m : MarkT} (hl : StairK l l.length) (hd : l.any (fun x => domB x m) = false) {d : List MarkT} (hp : d.Perm (m :: leftM m l)) (hs : d.Pairwise (fun a b => b.1 ≤ a.1)) : d = insM m (leftM m l) := by
  have hf : (insM m (leftM m l)).Pairwise (fun a b => b.1 < a.1) := insM_falls ((stair_pairs hl).filter _) (left_apart hd)
  have hq : d.Perm (insM m (leftM m l)) := hp.trans (insM_perm m _).symm
  have hinj : ∀ a ∈ insM m (leftM m l), ∀ b ∈ insM m (leftM m l), a.1 = b.1 → a = b := by
    intro a ha b hb e
    obtain ⟨i, hi, rfl⟩ := List.mem_iff_getElem.1 ha
    obtain ⟨j, hj, rfl⟩ := List.mem_iff_getElem.1 hb
    rw [List.pairwise_iff_getElem] at hf
    rcases Nat.lt_trichotomy i j with h | h | h
    · have := hf i j hi hj h; omega
    · subst h; rfl
    · have := hf j i hj hi h; omega
  exact hq.eq_of_pairwise (le := fun a b => b.1 ≤ a.1) (fun a b ha hb h1 h2 => hinj a (hq.mem_iff.1 ha) b hb (by omega)) hs (hf.imp (fun h => by omega))
end Go.Proofs.YtjnejbeeoepdnaaDoor
namespace Go.Proofs.YtjnejbeeoepdnaaDoor
open Go.RowKit

abbrev encM (m : MarkT) : Value := .agg #[.int .i64 m.1, .int .i64 m.2]
theorem time_yes (a : Int) (w : World) (h1 : 0 ≤ a) (h2 : a ≤ 1099511627776) : Calls Tryd.prog 26 #[.int .i64 a] w fun e w' => e = .returned (.bool true) ∧ w = w' := by
  go_enter Tryd.func26, Tryd.ntmps26
  go_wp2_with fail
  go_ret
  exact ⟨rfl, rfl⟩
theorem time_no (a : Int) (w : World) (h : ¬ (0 ≤ a ∧ a ≤ 1099511627776)) : Calls Tryd.prog 26 #[.int .i64 a] w fun e w' => e = .returned (.bool false) ∧ w = w' := by
  by_cases h1 : 0 ≤ a
  · have h2 : ¬ a ≤ 1099511627776 := fun h2 => h ⟨h1, h2⟩
    clear h
    go_enter Tryd.func26, Tryd.ntmps26
    go_wp2_with fail
    go_ret
    exact ⟨rfl, rfl⟩
  · clear h
    go_enter Tryd.func26, Tryd.ntmps26
    go_wp2_with fail
    go_ret
    exact ⟨rfl, rfl⟩
theorem may_any (m : MarkT) (w : World) : Calls Tryd.prog 32 #[encM m] w fun e w' => e = .returned (.bool (mayB m)) ∧ Below w.heap.size w w' := by
  obtain ⟨a, b⟩ := m
  have hB := below_alloc w (.cells #[.int .i64 a, .int .i64 b] 49)
  by_cases ht : 0 ≤ a ∧ a ≤ 1099511627776
  · have C := Lib.hid (fun W => time_yes a W ht.1 ht.2)
    by_cases h1 : 1 ≤ b
    · by_cases h2 : b ≤ 1000000
      · have e : mayB (a, b) = true := by unfold mayB; simp; omega
        rw [e]
        have HB := Lib.hid hB
        clear hB e ht
        go_enter Tryd.func32, Tryd.ntmps32
        go_wp2_with fail
        refine (C.out _).mono ?_
        rintro e w' ⟨rfl, rfl⟩
        go_wp2_with fail
        go_ret
        exact ⟨rfl, HB.out⟩
      · have e : mayB (a, b) = false := by unfold mayB; simp; omega
        have h2' : decide (b ≤ 1000000) = false := by simpa using h2
        rw [e]
        have HB := Lib.hid hB
        clear hB e ht
        go_enter Tryd.func32, Tryd.ntmps32
        go_wp2_with fail
        refine (C.out _).mono ?_
        rintro e w' ⟨rfl, rfl⟩
        go_wp2_with fail
        go_ret
        exact ⟨rfl, HB.out⟩
    · have e : mayB (a, b) = false := by unfold mayB; simp; omega
      rw [e]
      have HB := Lib.hid hB
      clear hB e ht
      go_enter Tryd.func32, Tryd.ntmps32
      go_wp2_with fail
      refine (C.out _).mono ?_
      rintro e w' ⟨rfl, rfl⟩
      go_wp2_with fail
      go_ret
      exact ⟨rfl, HB.out⟩
  · have C := Lib.hid (fun W => time_no a W ht)
    have e : mayB (a, b) = false := by unfold mayB; simp; omega
    rw [e]
    have HB := Lib.hid hB
    clear hB e ht
    go_enter Tryd.func32, Tryd.ntmps32
    go_wp2_with fail
    refine (C.out _).mono ?_
    rintro e w' ⟨rfl, rfl⟩
    go_wp2_with fail
    go_ret
    exact ⟨rfl, HB.out⟩
theorem below_two (w : World) (o p : Obj) : Below w.heap.size w ((w.alloc o).alloc p) := (below_alloc w o).alloc (by simp) p
theorem dom_any (x m : MarkT) (w : World) : Calls Tryd.prog 35 #[encM x, encM m] w fun e w' => e = .returned (.bool (domB x m)) ∧ Below w.heap.size w w' := by
  obtain ⟨a, b⟩ := x
  obtain ⟨c, d⟩ := m
  have HB := Lib.hid (below_two w (.cells #[.int .i64 a, .int .i64 b] 49) (.cells #[.int .i64 c, .int .i64 d] 49))
  by_cases h1 : c ≤ a
  · by_cases h2 : d ≤ b
    · have e : domB (a, b) (c, d) = true := by unfold domB; simp; omega
      rw [e]; clear e
      go_enter Tryd.func35, Tryd.ntmps35
      go_wp2_with fail
      go_ret
      exact ⟨rfl, HB.out⟩
    · have e : domB (a, b) (c, d) = false := by unfold domB; simp; omega
      rw [e]; clear e
      go_enter Tryd.func35, Tryd.ntmps35
      go_wp2_with fail
      go_ret
      exact ⟨rfl, HB.out⟩
  · have e : domB (a, b) (c, d) = false := by unfold domB; simp; omega
    rw [e]; clear e
    go_enter Tryd.func35, Tryd.ntmps35
    go_wp2_with fail
    go_ret
    exact ⟨rfl, HB.out⟩
/-- The closure of Add: does x say all that the captured one says? -/
theorem cloDom_any (x m : MarkT) (B : Nat) (w : World) (c0 : w.cell? ⟨B, 0, none⟩ = some (.int .i64 m.1)) (c1 : w.cell? ⟨B, 1, none⟩ = some (.int .i64 m.2)) :
    Calls Tryd.prog 34 #[encM x, .pointer (some ⟨B, 0, none⟩)] w fun e w' => e = .returned (.bool (domB x m)) ∧ Below w.heap.size w w' := by
  obtain ⟨a, b⟩ := x
  obtain ⟨c, d⟩ := m
  dsimp only at c0 c1
  have hlt := World.block_lt_of_cell? w _ c0
  have hB := below_alloc w (.cells #[.int .i64 a, .int .i64 b] 49)
  have d0 : (w.alloc (.cells #[.int .i64 a, .int .i64 b] 49)).cell? ⟨B, 0, none⟩ = some (.int .i64 c) := (hB.cell (p := ⟨B, 0, none⟩) hlt).trans c0
  have d1 : (w.alloc (.cells #[.int .i64 a, .int .i64 b] 49)).cell? ⟨B, 1, none⟩ = some (.int .i64 d) := (hB.cell (p := ⟨B, 1, none⟩) hlt).trans c1
  have HB := Lib.hid hB
  have C := Lib.hid (fun W => dom_any (a, b) (c, d) W)
  obtain ⟨r, hr⟩ : ∃ r, r = domB (a, b) (c, d) := ⟨_, rfl⟩
  rw [← hr] at C ⊢
  clear hB c0 c1 hlt hr
  go_enter Tryd.func34, Tryd.ntmps34
  go_wp2_with fail
  refine (C.out _).mono ?_
  rintro e w' ⟨rfl, hb'⟩
  have HX := Lib.hid (HB.out.trans (hb'.mono HB.out.size))
  clear hb'
  go_wp2_with fail
  go_ret
  exact ⟨rfl, HX.out⟩
def IdxE (w : World) (b : Bool) (e : Ending) (w' : World) : Prop := ∃ r : Int, e = .returned (.int .i64 r) ∧ decide (0 ≤ r) = b ∧ -1 ≤ r ∧ r ≤ 9223372036854775807 ∧ Below w.heap.size w w'
set_option maxHeartbeats 2000000 in
theorem index_any (g : Nat) (lb : Array Value) (eg : ∀ args w, (callFunc g args).run Tryd.prog w = .ok (.enter g args) w) (p : MarkT → Bool) (v : Value) (l : List MarkT) (w : World) (hv : RdMk w v l)
    (hp : ∀ W (x : MarkT), Below w.heap.size w W → Calls Tryd.prog g (#[encM x] ++ lb) W fun e w' => e = .returned (.bool (p x)) ∧ Below W.heap.size W w') :
    Calls Tryd.prog 43 #[v, .func (.func g) #[] lb] w (IdxE w (l.any p)) := by
  obtain ⟨av, cv, rfl, hlen⟩ := hv.form
  have HV := Lib.hid hv
  have HP := Lib.hid hp
  obtain ⟨R, hR⟩ : ∃ R, R = l.any p := ⟨_, rfl⟩
  rw [← hR]
  have HR := Lib.hid hR
  clear hv hp hR
  go_enter Tryd.func43, Tryd.ntmps43
  go_wp2_with fail
  go_loopw [8] (fun i wr => ∃ k : Nat, k ≤ l.length ∧ i = .int .i64 (k : Int) ∧ Hid (Below w.heap.size w wr ∧ (l.take k).any p = false)) (fun i _ => l.length - (intOf i).toNat)
  case atStart => exact ⟨0, Nat.zero_le _, rfl, Lib.hid ⟨Below.refl _ _, by simp⟩⟩
  case round =>
    obtain ⟨k, hk, rfl, HW⟩ := hrel
    by_cases hlt : k < l.length
    · have g3 : (k : Int) < (l.length : Int) := by omega
      have g4 : (0 : Int) ≤ (k : Int) := by omega
      obtain ⟨bA, oA, rfl, c0, c1⟩ := HV.out.get hlt
      obtain ⟨x, hx⟩ : ∃ x, x = l[k] := ⟨_, rfl⟩
      have HT := Lib.hid (show (l.take (k + 1)).any p = ((l.take k).any p || p x) by rw [List.take_succ_eq_append_getElem hlt, List.any_append, ← hx]; simp)
      have HM := Lib.hid (show x ∈ l by rw [hx]; exact List.getElem_mem hlt)
      rw [← hx] at c0 c1
      obtain ⟨a, b⟩ := x
      dsimp only at c0 c1
      have hlA := World.block_lt_of_cell? w _ c0
      have d0 : wr.cell? ⟨bA, oA + k * 2, none⟩ = some (.int .i64 a) := (HW.out.1.cell (p := ⟨bA, oA + k * 2, none⟩) hlA).trans c0
      have d1 : wr.cell? ⟨bA, oA + k * 2 + 1, none⟩ = some (.int .i64 b) := (HW.out.1.cell (p := ⟨bA, oA + k * 2 + 1, none⟩) hlA).trans c1
      have hc := HP.out wr (a, b) HW.out.1
      cases hq : p (a, b) with
      | true =>
        rw [hq] at hc
        have HC := Lib.hid hc
        have HE : Hid (R = true) := Lib.hid (by rw [HR.out, List.any_eq_true]; exact ⟨_, HM.out, hq⟩)
        clear hc c0 c1 hx hlA HV HP hq HR
        go_wp2_with fail
        refine HC.out.mono ?_
        rintro e w' ⟨rfl, hb'⟩
        have HX := Lib.hid (HW.out.1.trans (hb'.mono HW.out.1.size))
        clear hb' HC
        go_wp2_with fail
        go_ret
        exact ⟨k, rfl, by rw [HE.out]; simp, by omega, by omega, HX.out⟩
      | false =>
        rw [hq] at hc
        have HC := Lib.hid hc
        have HF := Lib.hid (show (l.take (k + 1)).any p = false by rw [HT.out, HW.out.2, hq]; rfl)
        clear hc c0 c1 hx hlA HV HP hq HR HT HM
        go_wp2_with fail
        refine HC.out.mono ?_
        rintro e w' ⟨rfl, hb'⟩
        have HX : Hid (Below w.heap.size w w' ∧ (l.take (k + 1)).any p = false) := Lib.hid ⟨HW.out.1.trans (hb'.mono HW.out.1.size), HF.out⟩
        clear hb' HC HF
        go_wp2_with fail
        go_roundw
        case rel => exact ⟨k + 1, by omega, by go_num, HX⟩
        case measure => simp [intOf]; omega
    · obtain rfl : k = l.length := by omega
      have g3 : ¬ (l.length : Int) < (l.length : Int) := by omega
      go_wp2_with fail
      go_ret
      have h := HW.out.2
      rw [List.take_length] at h
      exact ⟨-1, rfl, by rw [HR.out, h]; rfl, by omega, by omega, HW.out.1⟩
theorem contains_any (g : Nat) (lb : Array Value) (eg : ∀ args w, (callFunc g args).run Tryd.prog w = .ok (.enter g args) w) (p : MarkT → Bool) (v : Value) (l : List MarkT) (w : World) (hv : RdMk w v l)
    (hp : ∀ W (x : MarkT), Below w.heap.size w W → Calls Tryd.prog g (#[encM x] ++ lb) W fun e w' => e = .returned (.bool (p x)) ∧ Below W.heap.size W w') :
    Calls Tryd.prog 33 #[v, .func (.func g) #[] lb] w fun e w' => e = .returned (.bool (l.any p)) ∧ Below w.heap.size w w' := by
  have C := Lib.hid (index_any g lb eg p v l w hv hp)
  obtain ⟨R, hR⟩ : ∃ R, R = l.any p := ⟨_, rfl⟩
  rw [← hR] at C ⊢
  clear hv hp hR eg
  go_enter Tryd.func33, Tryd.ntmps33
  go_wp2_with fail
  refine C.out.mono ?_
  rintro e w' ⟨r, rfl, hr, h1, h2, hb⟩
  have HB := Lib.hid hb
  clear hb C
  cases R with
  | true =>
    have g : 0 ≤ r := by simpa using hr
    clear hr
    go_wp2_with fail
    go_ret
    exact ⟨rfl, HB.out⟩
  | false =>
    go_wp2_with fail
    go_ret
    exact ⟨rfl, HB.out⟩
end Go.Proofs.YtjnejbeeoepdnaaDoor
namespace Go.Proofs.YtjnejbeeoepdnaaDoor
open Go.RowKit

theorem dT {p : Prop} [Decidable p] (h : p) : decide p = true := decide_eq_true h
theorem dF {p : Prop} [Decidable p] (h : ¬ p) : decide p = false := decide_eq_false h
theorem mayB_cases {a b : Int} (h : mayB (a, b) = false) : decide (a < 0) = true ∨ (decide (a < 0) = false ∧ decide (1099511627776 < a) = true) ∨ (decide (a < 0) = false ∧ decide (1099511627776 < a) = false ∧ decide (b < 1) = true) ∨ (decide (a < 0) = false ∧ decide (1099511627776 < a) = false ∧ decide (b < 1) = false ∧ decide (1000000 < b) = true) := by
  unfold mayB at h
  simp at h ⊢
  omega
theorem mayB_all {a b : Int} (h : mayB (a, b) = true) : decide (a < 0) = false ∧ decide (1099511627776 < a) = false ∧ decide (b < 1) = false ∧ decide (1000000 < b) = false := by
  unfold mayB at h
  simp at h ⊢
  omega
theorem not_may_at {l : List MarkT} {k : Nat} (hk : k < l.length) (h : mayB l[k] = false) : mayLk l = false :=
  mayL_no fun ⟨h1, _⟩ => by have := (h1 k hk hk).1; rw [h] at this; cases this
theorem not_next_at {l : List MarkT} {k m : Nat} (hk : k < l.length) (hm : m < l.length) (e : m + 1 = k) (h : nextB l[m] l[k] = false) : mayLk l = false :=
  mayL_no fun ⟨h1, _⟩ => by have := (h1 k hk hk).2 m hm e; rw [h] at this; cases this
set_option maxRecDepth 100000 in
set_option maxHeartbeats 16000000 in
theorem rmay_any (v : Value) (l : List MarkT) (w : World) (hv : RdMk w v l) : Calls Tryd.prog 31 #[v] w fun e w' => e = .returned (.bool (mayLk l)) ∧ Below w.heap.size w w' := by
  obtain ⟨av, cv, rfl, hlen⟩ := hv.form
  have HV := Lib.hid hv
  obtain ⟨R, hR⟩ : ∃ R, R = mayLk l := ⟨_, rfl⟩
  rw [← hR]
  have HR := Lib.hid hR
  clear hv hR
  go_enter Tryd.func31, Tryd.ntmps31
  go_wp2_with fail
  go_loopw [3] (fun i wr => ∃ k : Nat, k ≤ l.length ∧ i = .int .i64 (k : Int) ∧ Hid (Below w.heap.size w wr ∧ StairK l k)) (fun i _ => l.length - (intOf i).toNat)
  case atStart => exact ⟨0, Nat.zero_le _, rfl, Lib.hid ⟨Below.refl _ _, stairK_zero l⟩⟩
  case round =>
    obtain ⟨k, hk, rfl, HW⟩ := hrel
    by_cases hlt : k < l.length
    · have g3 : (k : Int) < (l.length : Int) := by omega
      have g4 : (0 : Int) ≤ (k : Int) := by omega
      obtain ⟨bA, oA, rfl, c0, c1⟩ := HV.out.get hlt
      obtain ⟨x, hx⟩ : ∃ x, x = l[k] := ⟨_, rfl⟩
      rw [← hx] at c0 c1
      obtain ⟨a, b⟩ := x
      dsimp only at c0 c1
      have hlA := World.block_lt_of_cell? w _ c0
      have d0 : wr.cell? ⟨bA, oA + k * 2, none⟩ = some (.int .i64 a) := (HW.out.1.cell (p := ⟨bA, oA + k * 2, none⟩) hlA).trans c0
      have d1 : wr.cell? ⟨bA, oA + k * 2 + 1, none⟩ = some (.int .i64 b) := (HW.out.1.cell (p := ⟨bA, oA + k * 2 + 1, none⟩) hlA).trans c1
      have HB := Lib.hid (HW.out.1.alloc HW.out.1.size (.cells #[.int .i64 a, .int .i64 b] 73))
      cases hq : mayB (a, b) with
      | false =>
        have HF : Hid (R = false) := Lib.hid (by rw [HR.out]; exact not_may_at hlt (by rw [← hx]; exact hq))
        rcases mayB_cases hq with q1 | ⟨q1, q2⟩ | ⟨q1, q2, q3⟩ | ⟨q1, q2, q3, q4⟩
        all_goals
          clear c0 c1 hx hlA HV hq HR HW
          go_wp2_with fail
          go_quiet (fail)
          go_wp2_with fail
          go_ret
          exact ⟨by rw [HF.out]; rfl, Below.drewsN HB.out _⟩
      | true =>
        obtain ⟨q1, q2, q3, q4⟩ := mayB_all hq
        by_cases h0 : k = 0
        · have z : decide ((0 : Int) < (k : Int)) = false := dF (by omega)
          have z' : decide (0 < k) = false := dF (by omega)
          have HN : Hid (StairK l (k + 1)) := Lib.hid (stairK_succ HW.out.2 hlt (by rw [← hx]; exact hq) (fun j _ e => by omega))
          clear c0 c1 hx hlA HV hq HR HW h0
          go_wp2_with fail
          go_quiet (fail)
          go_wp2_with fail
          go_roundw
          case rel => exact ⟨k + 1, by omega, by go_num, Lib.hid ⟨Below.drewsN HB.out _, HN.out⟩⟩
          case measure => simp [intOf]; omega
        · have z : decide ((0 : Int) < (k : Int)) = true := dT (by omega)
          have z' : decide (0 < k) = true := dT (by omega)
          obtain ⟨m, hm⟩ : ∃ m, m + 1 = k := ⟨k - 1, by omega⟩
          have hml : m < l.length := by omega
          have tm : IntKind.i64.wrap ((k : Int) - 1) = (m : Int) := by rw [show (k : Int) - 1 = (m : Int) by omega]; exact IntWalk.i64_in _ (by omega)
          have gm : (m : Int) < (l.length : Int) := by omega
          have gm0 : (0 : Int) ≤ (m : Int) := by omega
          obtain ⟨bB, oB, hE, e0, e1⟩ := HV.out.get hml
          cases hE
          obtain ⟨y, hy⟩ : ∃ y, y = l[m] := ⟨_, rfl⟩
          rw [← hy] at e0 e1
          obtain ⟨c, d⟩ := y
          dsimp only at e0 e1
          have f0 : wr.cell? ⟨bA, oA + m * 2, none⟩ = some (.int .i64 c) := (HW.out.1.cell (p := ⟨bA, oA + m * 2, none⟩) hlA).trans e0
          have f1 : wr.cell? ⟨bA, oA + m * 2 + 1, none⟩ = some (.int .i64 d) := (HW.out.1.cell (p := ⟨bA, oA + m * 2 + 1, none⟩) hlA).trans e1
          have hBx := below_alloc wr (.cells #[.int .i64 a, .int .i64 b] 73)
          have hlR : bA < wr.heap.size := by have := HW.out.1.size; have : bA < w.heap.size := hlA; omega
          have k0 : (wr.alloc (.cells #[.int .i64 a, .int .i64 b] 73)).cell? ⟨bA, oA + m * 2, none⟩ = some (.int .i64 c) := (hBx.cell (p := ⟨bA, oA + m * 2, none⟩) hlR).trans f0
          have k1 : (wr.alloc (.cells #[.int .i64 a, .int .i64 b] 73)).cell? ⟨bA, oA + m * 2 + 1, none⟩ = some (.int .i64 d) := (hBx.cell (p := ⟨bA, oA + m * 2 + 1, none⟩) hlR).trans f1
          clear hBx hlR f0 f1
          by_cases r1 : c ≤ a
          · have HF : Hid (R = false) := Lib.hid (by rw [HR.out]; exact not_next_at hlt hml hm (by rw [← hx, ← hy]; unfold nextB; simp; omega))
            have s1 : decide (c ≤ a) = true := dT r1
            clear c0 c1 e0 e1 hx hy hlA HV hq HR HW h0 hm hml
            go_wp2_with fail
            go_quiet (fail)
            go_wp2_with fail
            go_ret
            exact ⟨by rw [HF.out]; rfl, Below.drewsN HB.out _⟩
          · by_cases r2 : b ≤ d
            · have HF : Hid (R = false) := Lib.hid (by rw [HR.out]; exact not_next_at hlt hml hm (by rw [← hx, ← hy]; unfold nextB; simp; omega))
              have s1 : decide (c ≤ a) = false := dF r1
              have s2 : decide (b ≤ d) = true := dT r2
              clear c0 c1 e0 e1 hx hy hlA HV hq HR HW h0 hm hml
              go_wp2_with fail
              go_quiet (fail)
              go_wp2_with fail
              go_ret
              exact ⟨by rw [HF.out]; rfl, Below.drewsN HB.out _⟩
            · have HN : Hid (StairK l (k + 1)) := Lib.hid (stairK_succ HW.out.2 hlt (by rw [← hx]; exact hq) (fun j hj e => by
                obtain rfl : j = m := by omega
                rw [← hx, ← hy]; unfold nextB; simp; omega))
              have s1 : decide (c ≤ a) = false := dF r1
              have s2 : decide (b ≤ d) = false := dF r2
              clear c0 c1 e0 e1 hx hy hlA HV hq HR HW h0 hm hml
              go_wp2_with fail
              go_quiet (fail)
              go_wp2_with fail
              go_roundw
              case rel => exact ⟨k + 1, by omega, by go_num, Lib.hid ⟨Below.drewsN HB.out _, HN.out⟩⟩
              case measure => simp [intOf]; omega
    · obtain rfl : k = l.length := by omega
      have g3 : ¬ (l.length : Int) < (l.length : Int) := by omega
      have h8 : decide ((l.length : Int) ≤ 8) = R := by
        rw [HR.out]
        by_cases h : l.length ≤ 8
        · rw [mayL_yes ⟨HW.out.2, h⟩]; simp; omega
        · rw [mayL_no (fun q => h q.2)]; simp; omega
      go_wp2_with fail
      go_ret
      exact ⟨rfl, HW.out.1⟩

end Go.Proofs.YtjnejbeeoepdnaaDoor
namespace Go.Proofs.YtjnejbeeoepdnaaDoor
open Go.RowKit

theorem mayB_dec (m : MarkT) (w : World) {r : Bool} (h : mayB m = r) : Calls Tryd.prog 32 #[encM m] w fun e w' => e = .returned (.bool r) ∧ Below w.heap.size w w' := by
  rw [← h]; exact may_any m w
set_option maxRecDepth 100000 in
set_option maxHeartbeats 16000000 in
theorem pmay_any (v : Value) (l : List MarkT) (w : World) (hv : RdMk w v l) : Calls Tryd.prog 29 #[v] w fun e w' => e = .returned (.bool (mayLk l)) ∧ Below w.heap.size w w' := by
  obtain ⟨av, cv, rfl, hlen⟩ := hv.form
  have HV := Lib.hid hv
  obtain ⟨R, hR⟩ : ∃ R, R = mayLk l := ⟨_, rfl⟩
  rw [← hR]
  have HR := Lib.hid hR
  clear hv hR
  go_enter Tryd.func29, Tryd.ntmps29
  go_wp2_with fail
  go_loopw [7] (fun i wr => ∃ k : Nat, k ≤ l.length ∧ i = .int .i64 (k : Int) ∧ Hid (Below w.heap.size w wr ∧ StairK l k)) (fun i _ => l.length - (intOf i).toNat)
  case atStart => exact ⟨0, Nat.zero_le _, rfl, Lib.hid ⟨Below.refl _ _, stairK_zero l⟩⟩
  case round =>
    obtain ⟨k, hk, rfl, HW⟩ := hrel
    by_cases hlt : k < l.length
    · have g3 : (k : Int) < (l.length : Int) := by omega
      have g4 : (0 : Int) ≤ (k : Int) := by omega
      obtain ⟨bA, oA, rfl, c0, c1⟩ := HV.out.get hlt
      obtain ⟨x, hx⟩ : ∃ x, x = l[k] := ⟨_, rfl⟩
      rw [← hx] at c0 c1
      obtain ⟨a, b⟩ := x
      dsimp only at c0 c1
      have hlA := World.block_lt_of_cell? w _ c0
      have d0 : wr.cell? ⟨bA, oA + k * 2, none⟩ = some (.int .i64 a) := (HW.out.1.cell (p := ⟨bA, oA + k * 2, none⟩) hlA).trans c0
      have d1 : wr.cell? ⟨bA, oA + k * 2 + 1, none⟩ = some (.int .i64 b) := (HW.out.1.cell (p := ⟨bA, oA + k * 2 + 1, none⟩) hlA).trans c1
      have hBx := below_alloc wr (.cells #[.int .i64 a, .int .i64 b] 49)
      have HB := Lib.hid (And.intro (HW.out.1.trans (hBx.mono HW.out.1.size)) (And.intro HW.out.1.size (Nat.le_trans HW.out.1.size hBx.size)))
      have n0 : (wr.alloc (.cells #[.int .i64 a, .int .i64 b] 49)).cell? ⟨wr.heap.size, 0, none⟩ = some (.int .i64 a) := by simp
      have n1 : (wr.alloc (.cells #[.int .i64 a, .int .i64 b] 49)).cell? ⟨wr.heap.size, 1, none⟩ = some (.int .i64 b) := by simp
      have z0 := Lib.hid (fun p : BelowBy (wr.alloc (.cells #[.int .i64 a, .int .i64 b] 49)) => BelowBy.cell n0 p)
      have z1 := Lib.hid (fun p : BelowBy (wr.alloc (.cells #[.int .i64 a, .int .i64 b] 49)) => BelowBy.cell n1 p)
      clear n0 n1
      cases hq : mayB (a, b) with
      | false =>
        have HF : Hid (R = false) := Lib.hid (by rw [HR.out]; exact not_may_at hlt (by rw [← hx]; exact hq))
        have C := Lib.hid (fun W => mayB_dec (a, b) W hq)
        clear c0 c1 hx hlA HV hq HR HW hBx
        go_wp2_with fail
        refine wp_region_quiet_below (by kernel_rfl) (by kernel_rfl) ?_
        repeat (first | go_big_quiet_skip | (go_big_quiet_want; go_big_quiet_op; first | go_big_quiet_on | (simp only [z0.out, z1.out, Result.andThen, true_and, forall_const, exists_eq_left']; go_big_quiet_on) | go_big_quiet_call ((go_at_call 32; exact Calls.below_of (C.out _)))) | fail)
        refine wpQuiet_nil ?_
        rintro w3 ⟨⟨_, hb3⟩, rfl⟩
        all_goals
          have HX := Lib.hid (HB.out.1.trans (hb3.mono HB.out.2.2))
          clear hb3
          go_wp2_with fail
          go_ret
          exact ⟨by rw [HF.out]; rfl, HX.out⟩
      | true =>
        have C := Lib.hid (fun W => mayB_dec (a, b) W hq)
        by_cases h0 : k = 0
        · have z : decide ((0 : Int) < (k : Int)) = false := dF (by omega)
          have z' : decide (0 < k) = false := dF (by omega)
          have HN : Hid (StairK l (k + 1)) := Lib.hid (stairK_succ HW.out.2 hlt (by rw [← hx]; exact hq) (fun j _ e => by omega))
          clear c0 c1 hx hlA HV hq HR HW hBx h0
          go_wp2_with fail
          refine wp_region_quiet_below (by kernel_rfl) (by kernel_rfl) ?_
          repeat (first | go_big_quiet_skip | (go_big_quiet_want; go_big_quiet_op; first | go_big_quiet_on | (simp only [z0.out, z1.out, Result.andThen, true_and, forall_const, exists_eq_left']; go_big_quiet_on) | go_big_quiet_call ((go_at_call 32; exact Calls.below_of (C.out _)))) | fail)
          refine wpQuiet_nil ?_
          rintro w3 ⟨⟨_, hb3⟩, rfl⟩
          all_goals
            have HX : Hid (Below w.heap.size w w3 ∧ StairK l (k + 1)) := Lib.hid ⟨HB.out.1.trans (hb3.mono HB.out.2.2), HN.out⟩
            clear hb3
            go_wp2_with fail
            go_roundw
            case rel => exact ⟨k + 1, by omega, by go_num, HX⟩
            case measure => simp [intOf]; omega
        · have z : decide ((0 : Int) < (k : Int)) = true := dT (by omega)
          have z' : decide (0 < k) = true := dT (by omega)
          obtain ⟨m, hm⟩ : ∃ m, m + 1 = k := ⟨k - 1, by omega⟩
          have hml : m < l.length := by omega
          have tm : IntKind.i64.wrap ((k : Int) - 1) = (m : Int) := by rw [show (k : Int) - 1 = (m : Int) by omega]; exact IntWalk.i64_in _ (by omega)
          have gm : (m : Int) < (l.length : Int) := by omega
          have gm0 : (0 : Int) ≤ (m : Int) := by omega
          obtain ⟨bB, oB, hE, e0, e1⟩ := HV.out.get hml
          cases hE
          obtain ⟨y, hy⟩ : ∃ y, y = l[m] := ⟨_, rfl⟩
          rw [← hy] at e0 e1
          obtain ⟨c, d⟩ := y
          dsimp only at e0 e1
          have f0 : wr.cell? ⟨bA, oA + m * 2, none⟩ = some (.int .i64 c) := (HW.out.1.cell (p := ⟨bA, oA + m * 2, none⟩) hlA).trans e0
          have f1 : wr.cell? ⟨bA, oA + m * 2 + 1, none⟩ = some (.int .i64 d) := (HW.out.1.cell (p := ⟨bA, oA + m * 2 + 1, none⟩) hlA).trans e1
          have hlR : bA < wr.heap.size := by have := HW.out.1.size; have : bA < w.heap.size := hlA; omega
          have k0' : (wr.alloc (.cells #[.int .i64 a, .int .i64 b] 49)).cell? ⟨bA, oA + m * 2, none⟩ = some (.int .i64 c) := (hBx.cell (p := ⟨bA, oA + m * 2, none⟩) hlR).trans f0
          have k1' : (wr.alloc (.cells #[.int .i64 a, .int .i64 b] 49)).cell? ⟨bA, oA + m * 2 + 1, none⟩ = some (.int .i64 d) := (hBx.cell (p := ⟨bA, oA + m * 2 + 1, none⟩) hlR).trans f1
          have k0 := Lib.hid (fun p : BelowBy (wr.alloc (.cells #[.int .i64 a, .int .i64 b] 49)) => BelowBy.cell k0' p)
          have k1 := Lib.hid (fun p : BelowBy (wr.alloc (.cells #[.int .i64 a, .int .i64 b] 49)) => BelowBy.cell k1' p)
          clear k0' k1'
          by_cases r1 : c ≤ a
          · have HF : Hid (R = false) := Lib.hid (by rw [HR.out]; exact not_next_at hlt hml hm (by rw [← hx, ← hy]; unfold nextB; simp; omega))
            have s1 : decide (c ≤ a) = true := dT r1
            clear c0 c1 e0 e1 f0 f1 hx hy hlA HV hq HR HW h0 hm hml hBx hlR r1
            go_wp2_with fail
            refine wp_region_quiet_below (by kernel_rfl) (by kernel_rfl) ?_
            repeat (first | go_big_quiet_skip | (go_big_quiet_want; go_big_quiet_op; first | go_big_quiet_on | (simp only [z0.out, z1.out, k0.out, Result.andThen, true_and, forall_const, exists_eq_left']; go_big_quiet_on) | go_big_quiet_call ((go_at_call 32; exact Calls.below_of (C.out _)))) | fail)
            refine wpQuiet_nil ?_
            rintro w3 ⟨⟨_, hb3⟩, rfl⟩
            all_goals
              have HX := Lib.hid (HB.out.1.trans (hb3.mono HB.out.2.2))
              clear hb3
              go_wp2_with fail
              go_ret
              exact ⟨by rw [HF.out]; rfl, HX.out⟩
          · by_cases r2 : b ≤ d
            · have HF : Hid (R = false) := Lib.hid (by rw [HR.out]; exact not_next_at hlt hml hm (by rw [← hx, ← hy]; unfold nextB; simp; omega))
              have s1 : decide (c ≤ a) = false := dF r1
              have s2 : decide (b ≤ d) = true := dT r2
              clear c0 c1 e0 e1 f0 f1 hx hy hlA HV hq HR HW h0 hm hml hBx hlR r1 r2
              go_wp2_with fail
              refine wp_region_quiet_below (by kernel_rfl) (by kernel_rfl) ?_
              repeat (first | go_big_quiet_skip | (go_big_quiet_want; go_big_quiet_op; first | go_big_quiet_on | (simp only [z0.out, z1.out, k0.out, k1.out, Result.andThen, true_and, forall_const, exists_eq_left']; go_big_quiet_on) | go_big_quiet_call ((go_at_call 32; exact Calls.below_of (C.out _)))) | fail)
              refine wpQuiet_nil ?_
              rintro w3 ⟨⟨_, hb3⟩, rfl⟩
              all_goals
                have HX := Lib.hid (HB.out.1.trans (hb3.mono HB.out.2.2))
                clear hb3
                go_wp2_with fail
                go_ret
                exact ⟨by rw [HF.out]; rfl, HX.out⟩
            · have HN : Hid (StairK l (k + 1)) := Lib.hid (stairK_succ HW.out.2 hlt (by rw [← hx]; exact hq) (fun j hj e => by
                obtain rfl : j = m := by omega
                rw [← hx, ← hy]; unfold nextB; simp; omega))
              have s1 : decide (c ≤ a) = false := dF r1
              have s2 : decide (b ≤ d) = false := dF r2
              clear c0 c1 e0 e1 f0 f1 hx hy hlA HV hq HR HW h0 hm hml hBx hlR r1 r2
              go_wp2_with fail
              refine wp_region_quiet_below (by kernel_rfl) (by kernel_rfl) ?_
              repeat (first | go_big_quiet_skip | (go_big_quiet_want; go_big_quiet_op; first | go_big_quiet_on | (simp only [z0.out, z1.out, k0.out, k1.out, Result.andThen, true_and, forall_const, exists_eq_left']; go_big_quiet_on) | go_big_quiet_call ((go_at_call 32; exact Calls.below_of (C.out _)))) | fail)
              refine wpQuiet_nil ?_
              rintro w3 ⟨⟨_, hb3⟩, rfl⟩
              all_goals
                have HX : Hid (Below w.heap.size w w3 ∧ StairK l (k + 1)) := Lib.hid ⟨HB.out.1.trans (hb3.mono HB.out.2.2), HN.out⟩
                clear hb3
                go_wp2_with fail
                go_roundw
                case rel => exact ⟨k + 1, by omega, by go_num, HX⟩
                case measure => simp [intOf]; omega
    · obtain rfl : k = l.length := by omega
      have g3 : ¬ (l.length : Int) < (l.length : Int) := by omega
      have h8 : decide ((l.length : Int) ≤ 8) = R := by
        rw [HR.out]
        by_cases h : l.length ≤ 8
        · rw [mayL_yes ⟨HW.out.2, h⟩]; simp; omega
        · rw [mayL_no (fun q => h q.2)]; simp; omega
      go_wp2_with fail
      go_ret
      exact ⟨rfl, HW.out.1⟩
end Go.Proofs.YtjnejbeeoepdnaaDoor
namespace Go.Proofs.YtjnejbeeoepdnaaDoor
open Go.RowKit

theorem infoR : (Tryd.prog.info? 73).map (fun i => (i.zero, i.size, i.bytes)) = some (some (.agg #[.int .i64 0, .int .i64 0]), 2, 16) := by kernel_rfl
theorem infoMk : (Tryd.prog.info? 49).map (fun i => (i.zero, i.size, i.bytes)) = some (some (.agg #[.int .i64 0, .int .i64 0]), 2, 16) := by kernel_rfl
/-- Under way. -/
def MkAt (w W : World) (v : Value) (L : List MarkT) (k : Nat) : Prop := W.ownsRow w.heap.size 73 2 v k ((L.take k).map cellsM).flatten ∧ Below w.heap.size w W
set_option maxRecDepth 100000 in
set_option maxHeartbeats 4000000 in
theorem marks_any (v : Value) (L : List MarkT) (w : World) (hv : RdMk w v L) (hl : L.length ≤ 1000000) :
    Calls Tryd.prog 15 #[v] w fun e w' => ∃ u, e = .returned u ∧ RdMk w' u L ∧ Below w.heap.size w w' := by
  obtain ⟨av, cv, rfl, _⟩ := hv.form
  obtain ⟨i0, hi, hz0, hz1, hz2⟩ := info_parts infoR
  have HV := Lib.hid hv
  clear hv
  go_enter Tryd.func15, Tryd.ntmps15
  go_wp2_with fail
  go_loopw [3, 4] (fun o i wr => ∃ k : Nat, k ≤ L.length ∧ i = .int .i64 (k : Int) ∧ Hid (MkAt w wr o L k)) (fun _ i _ => L.length - (intOf i).toNat)
  case atStart => exact ⟨0, Nat.zero_le _, rfl, Lib.hid ⟨World.ownsRow_nil w _ _ 2, Below.refl _ _⟩⟩
  case round =>
    obtain ⟨k, hk, rfl, HR⟩ := hrel
    obtain ⟨vo, hvo⟩ : ∃ v, v = u3 := ⟨_, rfl⟩
    subst hvo
    by_cases hlt : k < L.length
    · have g3 : (k : Int) < (L.length : Int) := by omega
      have g4 : (0 : Int) ≤ (k : Int) := by omega
      obtain ⟨bA, oA, rfl, c0, c1⟩ := HV.out.get hlt
      obtain ⟨⟨ck, cv1⟩, hc⟩ : ∃ c, c = L[k] := ⟨_, rfl⟩
      rw [← hc] at c0 c1
      dsimp only at c0 c1
      have hlA := World.block_lt_of_cell? w _ c0
      have HS := Lib.hid (show ((L.take (k + 1)).map cellsM).flatten = ((L.take k).map cellsM).flatten ++ [.int .i64 ck, .int .i64 cv1] by
        rw [List.take_succ_eq_append_getElem hlt, ← hc]; simp [cellsM])
      have HK3 : Hid (∀ W, Below w.heap.size w W → W.cell? ⟨bA, oA + k * 2, none⟩ = some (.int .i64 ck) ∧ W.cell? ⟨bA, oA + k * 2 + 1, none⟩ = some (.int .i64 cv1)) := Lib.hid (fun W h => by
        have h3 : bA < w.heap.size := hlA
        rw [h.cell (p := ⟨bA, oA + k * 2, none⟩) h3, h.cell (p := ⟨bA, oA + k * 2 + 1, none⟩) h3]
        exact ⟨c0, c1⟩)
      have HW0 : Hid (MkAt w wr.drew vo L k) := Lib.hid ⟨HR.out.1, Below.drewsN HR.out.2 1⟩
      obtain ⟨d0, d1⟩ := HK3.out wr.drew HW0.out.2
      have HD := Lib.hid (And.intro d0 d1)
      have hsz : w.heap.size ≤ wr.heap.size := HR.out.2.size
      have HA : Hid (Below w.heap.size w (wr.alloc (.cells #[.int .i64 ck, .int .i64 cv1] 73)).drew) := Lib.hid (Below.drewsN (HR.out.2.alloc HR.out.2.size _) 1)
      clear c0 c1 hc hlA HV HR
      go_wp2_with fail
      go_region_held3 (fun W => W.cell? ⟨bA, oA + k * 2, none⟩ = some (.int .i64 ck) ∧ W.cell? ⟨bA, oA + k * 2 + 1, none⟩ = some (.int .i64 cv1))
        (first
          | (exact HK3.out _ HN.out.2)
          | (exact HK3.out _ HA.out)
          | (exact HD.out)
          | go_keep)
        ((first
          | (refine step_appendN (by rfl) _ _ 42 (by rfl) (size := 2) (bytes := 16) Tryd.underlying42 hi hz0 hz1 hz2 rfl (by decide) (by rfl) (World.ownsRow.alloc HW0.out.1 _) [.int .i64 ck, .int .i64 cv1] (by rfl) (heap_alloc_new _ _) rfl ?_ ?_ ?_ ?_ ?_
             · intro u hu
               simp only [List.mem_cons, List.not_mem_nil, or_false] at hu
               rcases hu with rfl | rfl <;> rfl
             · unfold maxLen; omega
             · omega
             · simp; omega
             intro v7 w7 ho7 hg7
             have HN : Hid (MkAt w w7 v7 L (k + 1)) := Lib.hid ⟨by rw [HS.out]; exact ho7, ((HW0.out.2.alloc HW0.out.2.size _).grown hg7 (by simp; omega) (fun j ej => (World.ownsRow.lt HW0.out.1 j ej).1))⟩
             clear ho7 hg7)
          | fail))
      all_goals
        go_wp2_with fail
        go_roundw
        case rel => exact ⟨k + 1, by omega, by go_num, HN⟩
        case measure => simp [intOf]; omega
    · obtain rfl : k = L.length := by omega
      have g3 : ¬ (L.length : Int) < (L.length : Int) := by omega
      have hR : RdMk wr vo L := by
        have h := HR.out.1
        rw [List.take_length] at h
        exact RdMk.of_row h
      have HRR := Lib.hid hR
      clear hR HV
      go_wp2_with fail
      go_ret
      exact ⟨_, rfl, HRR.out, HR.out.2⟩
theorem rmk_neq (c : MarkT) (W : World) : (binOp .neq 73 (encM c) (encM c)).run Tryd.prog W = .ok (.bool false) W := by
  have hS : Tryd.prog.underlying 73 = some (.struct (Tryd.prog.fieldsOf 73)) := by kernel_rfl
  have hp : Tryd.prog.stoodInHeld 73 = false := by kernel_rfl
  unfold encM
  rw [run_neq_struct, show (10000 : Nat) = 9999 + 1 from rfl, run_equalIn_agg W 9999 73 _ _ hS hp]
  simp only [Program.fieldsOf, Tryd.underlying73]
  go_simp
set_option maxRecDepth 100000 in
set_option maxHeartbeats 2000000 in
/-- Marks that read alike. -/
theorem samek_any (va vb : Value) (L : List MarkT) (w : World) (ha : RdMk w va L) (hb : RdMk w vb L) (hl : L.length ≤ 1000000) :
    Calls Tryd.prog 16 #[va, vb] w fun e w' => e = .returned (.bool true) ∧ Below w.heap.size w w' := by
  obtain ⟨ab, cb, rfl, _⟩ := hb.form
  have C := Lib.hid (marks_any va L w ha hl)
  have HB := Lib.hid hb
  clear ha hb
  go_enter Tryd.func16, Tryd.ntmps16
  go_wp2_with fail
  refine C.out.mono ?_
  rintro e w1 ⟨u, rfl, hu, hb1⟩
  obtain ⟨aa, ca, rfl, _⟩ := hu.form
  have HA := Lib.hid hu
  have HB1 := Lib.hid (HB.out.up hb1)
  have H1 := Lib.hid hb1
  clear hu hb1 HB C
  go_wp2_with fail
  go_loopw [6] (fun i wr => ∃ (k q : Nat), k ≤ L.length ∧ i = .int .i64 (k : Int) ∧ wr = w1.drewN q) (fun i _ => L.length - (intOf i).toNat)
  case atStart => exact ⟨0, 0, Nat.zero_le _, rfl, rfl⟩
  case round =>
    obtain ⟨k, q, hk, rfl, rfl⟩ := hrel
    by_cases hlt : k < L.length
    · have g3 : (k : Int) < (L.length : Int) := by omega
      have g4 : (0 : Int) ≤ (k : Int) := by omega
      obtain ⟨bA, oA, rfl, c0, c1⟩ := HA.out.get hlt
      obtain ⟨bB, oB, rfl, e0, e1⟩ := HB1.out.get hlt
      obtain ⟨⟨ck, cv1⟩, hc⟩ : ∃ c, c = L[k] := ⟨_, rfl⟩
      rw [← hc] at c0 c1 e0 e1
      dsimp only at c0 c1 e0 e1
      have hq : ∀ W, (binOp .neq 73 (.agg #[.int .i64 ck, .int .i64 cv1]) (.agg #[.int .i64 ck, .int .i64 cv1])).run Tryd.prog W = .ok (.bool false) W := rmk_neq (ck, cv1)
      clear hc HA HB1
      go_wp2_with fail
      go_quiet (fail)
      go_wp2_with fail
      go_roundw
      case rel => exact ⟨k + 1, _, by omega, by go_num, rfl⟩
      case measure => simp [intOf]; omega
    · obtain rfl : k = L.length := by omega
      have g3 : ¬ (L.length : Int) < (L.length : Int) := by omega
      go_wp2_with fail
      go_ret
      exact ⟨rfl, Below.drewsN H1.out q⟩
theorem covL_take (l : List MarkT) (num time : Int) (k : Nat) (h : k < l.length) : covL (l.take (k + 1)) num time = (covL (l.take k) num time || decide (time ≤ l[k].1 ∧ num < l[k].2)) := by
  unfold covL
  rw [List.take_succ_eq_append_getElem h, List.any_append]; simp
theorem covL_hit (l : List MarkT) (num time : Int) (k : Nat) (h : k < l.length) (h1 : time ≤ l[k].1) (h2 : num < l[k].2) : covL l num time = true := by
  unfold covL
  rw [List.any_eq_true]
  exact ⟨_, List.getElem_mem h, by simp; exact ⟨h1, h2⟩⟩
theorem rdm_row {w : World} {base : Nat} {e : TypeId} {v : Value} {l : List MarkT} (h : w.ownsRow base e 2 v l.length (l.map cellsM).flatten) : RdMk w v l := RdMk.of_row h
theorem rdm_own0 {w : World} {base : Nat} {e : TypeId} {v : Value} {l : List MarkT} {n : Nat} (h : w.ownsRow base e 2 v (0 + n) ([] ++ (l.map cellsM).flatten)) (hn : n = l.length) : w.ownsRow base e 2 v l.length (l.map cellsM).flatten := by
  subst hn; simpa using h
theorem rdm_ones {l : List MarkT} : ∀ u ∈ (l.map cellsM).flatten, u.oneCell' = true := by
  intro u hu
  obtain ⟨r, hr, hu⟩ := List.mem_flatten.1 hu
  obtain ⟨c, _, rfl⟩ := List.mem_map.1 hr
  simp only [cellsM, List.mem_cons, List.not_mem_nil, or_false] at hu
  rcases hu with rfl | rfl <;> rfl
/-- A slice whose block is new. -/
def FreshV (B : Nat) (u : Value) : Prop := ∀ b o n c, u = .slice (some ⟨b, o, none⟩) n c → B ≤ b
theorem FreshV.mono {B C : Nat} {u : Value} (h : FreshV C u) (hb : B ≤ C) : FreshV B u := fun b o n c e => Nat.le_trans hb (h b o n c e)
theorem fresh_nil (B n c : Nat) : FreshV B (.slice none n c) := fun b o n c e => by cases e
theorem fresh_row {w : World} {base size n : Nat} {e : TypeId} {v : Value} {xs : List Value} (h : w.ownsRow base e size v n xs) : FreshV base v := by
  intro b o m c hv
  rcases h.2 with ⟨h1, _⟩ | ⟨g, cap, cur, h1, hb, _⟩
  · rw [h1] at hv; cases hv
  · rw [h1] at hv; cases hv; exact hb
/-- slices.Clone of marks. -/
theorem clone_any (v : Value) (l : List MarkT) (w : World) (hv : RdMk w v l) (hn : ∀ c, v = .slice none 0 c → c = 0) (hl : l.length ≤ 1000000) :
    Calls Tryd.prog 36 #[v] w fun e w' => ∃ u, e = .returned u ∧ RdMk w' u l ∧ (∀ c, u = .slice none 0 c → c = 0) ∧ FreshV w.heap.size u ∧ Below w.heap.size w w' := by
  obtain ⟨i0, hi, hz0, hz1, hz2⟩ := info_parts infoMk
  obtain ⟨av, cv, rfl, _⟩ := hv.form
  cases av with
  | none =>
    have hnil : l = [] := by
      obtain ⟨a', c', he, _, _, _, h4⟩ := hv
      by_cases e : l = []
      · exact e
      · obtain ⟨b, off, ha, _⟩ := h4 (by simpa using e)
        simp only [Value.slice.injEq] at he
        rw [← he.1] at ha; cases ha
    subst hnil
    obtain rfl := hn cv (by simp)
    have qT : ∀ w : World, (binOp .eql 28 (.slice none 0 0) (.slice none 0 0)).run Tryd.prog w = .ok (.bool true) w := fun w => Lib.run_eql_slice_nil w _ _ _ _ _ _ _ Tryd.underlying28
    clear hv hn
    go_enter Tryd.func36, Tryd.ntmps36
    go_wp2_with fail
    go_ret
    exact ⟨_, rfl, ⟨none, 0, rfl, by simp, by simp, by simp, fun h => absurd rfl h⟩, fun c hc => (by cases hc; rfl), fresh_nil _ _ _, Below.refl _ _⟩
  | some ad =>
    have HV := Lib.hid hv
    have qT : ∀ w : World, (binOp .eql 28 (.slice (some ad) l.length cv) (.slice none 0 0)).run Tryd.prog w = .ok (.bool false) w := fun w => Lib.run_eql_slice_nil w _ _ _ _ _ _ _ Tryd.underlying28
    clear hv hn
    go_enter Tryd.func36, Tryd.ntmps36
    go_wp2_with (at_builtin; refine hold ?_)
    intro _
    refine wpList_appendF (by rfl) _ _ 28 (by rfl) w.heap.size 49 i0 _ 2 16 Tryd.underlying28 hi hz0 hz1 hz2 rfl (by decide) _ 0 [] (by rfl) (World.ownsRow_made w #[] 0 (Nat.le_refl _) (by decide) rfl) _ (l.map cellsM) (cellsM_len l) rdm_ones (by rfl) (RdF.below HV.out (below_alloc w _) (Nat.le_refl _)) (fun c h => by cases h) (by simp [maxLen]; omega) (by simp; omega) (by simp) ?_
    intro v' w' ho hg
    have HN : Hid (w'.ownsRow w.heap.size 49 2 v' l.length (l.map cellsM).flatten ∧ Below w.heap.size w w') := Lib.hid ⟨rdm_own0 ho (by simp), (below_alloc w _).grown hg (by simp) (fun k hk => by simp [Value.ownBlock] at hk; omega)⟩
    clear ho hg
    go_wp2_with fail
    go_ret
    refine ⟨_, rfl, rdm_row HN.out.1, ?_, fresh_row HN.out.1, HN.out.2⟩
    intro c hc
    rcases HN.out.1.2 with ⟨h1, _⟩ | ⟨g, cap, cur, h1, _⟩
    · rw [h1] at hc; cases hc; rfl
    · rw [h1] at hc; cases hc
end Go.Proofs.YtjnejbeeoepdnaaDoor
namespace Go.Proofs
open Go.Shelf
def Tryd.sortM_ren : Go.Shelf.Ren := ⟨fun | 6 => 37 | 15 => 45 | 14 => 44 | 28 => 59 | 29 => 60 | 20 => 51 | 21 => 52 | 22 => 53 | 23 => 54 | 24 => 55 | 25 => 56 | 26 => 57 | 27 => 58 | 46 => 70 | 47 => 71 | 48 => 72 | 49 => 73 | 50 => 74 | 57 => 81 | n => n, fun | 22 => 28 | 24 => 49 | 25 => 80 | 3 => 3 | 39 => 89 | 0 => 0 | 53 => 104 | 55 => 106 | 4 => 4 | 46 => 97 | 45 => 96 | 50 => 101 | 5 => 5 | 9 => 9 | 66 => 116 | 70 => 120 | 76 => 124 | 77 => 125 | n => n, fun | n => n⟩
theorem Tryd.sortM : Go.Proofs.SlLaysF0.n6 Tryd.prog Tryd.sortM_ren := {
  mixed := by kernel_rfl
  f6 := ⟨Tryd.f37.name, by decide, Tryd.func37.trans (congrArg some (by kernel_rfl))⟩
  f14 := ⟨Tryd.f44.name, by decide, Tryd.func44.trans (congrArg some (by kernel_rfl))⟩
  f15 := Tryd.func45.trans (congrArg some (by kernel_rfl))
  f20 := ⟨Tryd.f51.name, by decide, Tryd.func51.trans (congrArg some (by kernel_rfl))⟩
  f21 := ⟨Tryd.f52.name, by decide, Tryd.func52.trans (congrArg some (by kernel_rfl))⟩
  f22 := ⟨Tryd.f53.name, by decide, Tryd.func53.trans (congrArg some (by kernel_rfl))⟩
  f23 := ⟨Tryd.f54.name, by decide, Tryd.func54.trans (congrArg some (by kernel_rfl))⟩
  f24 := ⟨Tryd.f55.name, by decide, Tryd.func55.trans (congrArg some (by kernel_rfl))⟩
  f25 := ⟨Tryd.f56.name, by decide, Tryd.func56.trans (congrArg some (by kernel_rfl))⟩
  f26 := ⟨Tryd.f57.name, by decide, Tryd.func57.trans (congrArg some (by kernel_rfl))⟩
  f27 := ⟨Tryd.f58.name, by decide, Tryd.func58.trans (congrArg some (by kernel_rfl))⟩
  f28 := Tryd.func59.trans (congrArg some (by kernel_rfl))
  f29 := Tryd.func60.trans (congrArg some (by kernel_rfl))
  f46 := ⟨Tryd.f70.name, by decide, Tryd.func70.trans (congrArg some (by kernel_rfl))⟩
  f47 := Tryd.func71.trans (congrArg some (by kernel_rfl))
  f48 := Tryd.func72.trans (congrArg some (by kernel_rfl))
  f49 := ⟨Tryd.f73.name, by decide, Tryd.func73.trans (congrArg some (by kernel_rfl))⟩
  f50 := ⟨Tryd.f74.name, by decide, Tryd.func74.trans (congrArg some (by kernel_rfl))⟩
  f57 := ⟨Tryd.f81.name, by decide, Tryd.func81.trans (congrArg some (by kernel_rfl))⟩
  t0 := Tryd.underlying0
  a0 := Tryd.isAgg0
  z0 := Tryd.sizeOf0
  v0 := Tryd.zeroValue0
  t3 := Tryd.underlying3
  a3 := Tryd.isAgg3
  z3 := Tryd.sizeOf3
  v3 := Tryd.zeroValue3
  t4 := Tryd.underlying4
  a4 := Tryd.isAgg4
  z4 := Tryd.sizeOf4
  v4 := Tryd.zeroValue4
  t5 := Tryd.underlying5
  a5 := Tryd.isAgg5
  z5 := Tryd.sizeOf5
  v5 := Tryd.zeroValue5
  t9 := Tryd.underlying9
  a9 := Tryd.isAgg9
  z9 := Tryd.sizeOf9
  v9 := Tryd.zeroValue9
  t22 := Tryd.underlying28
  a22 := Tryd.isAgg28
  z22 := Tryd.sizeOf28
  v22 := Tryd.zeroValue28
  t25 := Tryd.underlying80
  a25 := Tryd.isAgg80
  z25 := Tryd.sizeOf80
  v25 := Tryd.zeroValue80
  t39 := Tryd.underlying89
  a39 := Tryd.isAgg89
  z39 := Tryd.sizeOf89
  v39 := Tryd.zeroValue89
  t45 := Tryd.underlying96
  a45 := Tryd.isAgg96
  z45 := Tryd.sizeOf96
  v45 := Tryd.zeroValue96
  t46 := Tryd.underlying97
  a46 := Tryd.isAgg97
  z46 := Tryd.sizeOf97
  v46 := Tryd.zeroValue97
  t50 := Tryd.underlying101
  a50 := Tryd.isAgg101
  z50 := Tryd.sizeOf101
  v50 := Tryd.zeroValue101
  t53 := Tryd.underlying104
  a53 := Tryd.isAgg104
  z53 := Tryd.sizeOf104
  v53 := Tryd.zeroValue104
  t55 := Tryd.underlying106
  a55 := Tryd.isAgg106
  z55 := Tryd.sizeOf106
  v55 := Tryd.zeroValue106
  t66 := Tryd.underlying116
  a66 := Tryd.isAgg116
  z66 := Tryd.sizeOf116
  v66 := Tryd.zeroValue116
  t70 := Tryd.underlying120
  a70 := Tryd.isAgg120
  z70 := Tryd.sizeOf120
  v70 := Tryd.zeroValue120
  t76 := Tryd.underlying124
  a76 := Tryd.isAgg124
  z76 := Tryd.sizeOf124
  v76 := Tryd.zeroValue124
  t77 := Tryd.underlying125
  a77 := Tryd.isAgg125
  z77 := Tryd.sizeOf125
  v77 := Tryd.zeroValue125 }
end Go.Proofs
namespace Go.Proofs.YtjnejbeeoepdnaaDoor
open Go.RowKit

/-- A mark that may be. -/
def MayM : Type := {m : MarkT // mayB m = true}
instance inhMay : Inhabited MayM := ⟨⟨(0, 1), rfl⟩⟩
def encY (x : MayM) : List Value := cellsM x.1
def cfM (x y : MayM) : Int := y.1.1 - x.1.1
theorem may_time (x : MayM) : 0 ≤ x.1.1 ∧ x.1.1 ≤ 1099511627776 := by
  have := x.2
  unfold mayB at this
  rw [decide_eq_true_eq] at this
  exact ⟨this.1, this.2.1⟩
theorem cloSort_any (x y : MayM) (W : World) : Calls Tryd.prog 38 #[encM x.1, encM y.1] W fun e w' => e = .returned (.int .i64 (cfM x y)) ∧ ∃ q os', w' = Go.Sort.grow (W.drewN q) os' := by
  obtain ⟨h1, h2⟩ := may_time x
  obtain ⟨h3, h4⟩ := may_time y
  unfold cfM
  obtain ⟨⟨a, b⟩, _⟩ := x
  obtain ⟨⟨c, d⟩, _⟩ := y
  dsimp only at h1 h2 h3 h4 ⊢
  have hw : IntKind.i64.wrap (c - a) = c - a := IntWalk.i64_in _ (by omega)
  go_enter Tryd.func38, Tryd.ntmps38
  go_wp2_with fail
  go_ret
  exact ⟨rfl, 0, _, by rw [Go.Sort.alloc_eq_grow, Go.Sort.alloc_eq_grow, Go.Sort.grow_grow]; rfl⟩
theorem ltM (x y : MayM) : ltOf cfM x y = decide (y.1.1 < x.1.1) := by
  unfold ltOf cfM
  by_cases h : y.1.1 < x.1.1
  · rw [decide_eq_true h, decide_eq_true (by omega)]
  · rw [decide_eq_false h, decide_eq_false (by omega)]
theorem swoM : Go.Sort.SWO (ltOf cfM) where
  irrefl x := by rw [ltM]; simp
  trans x y z h1 h2 := by rw [ltM] at *; simp at *; omega
  ntrans x y z h1 h2 := by rw [ltM] at *; simp at *; omega
/-- The marks that may be, as such. -/
def mayOf : (l : List MarkT) → (∀ m ∈ l, mayB m = true) → List MayM
  | [], _ => []
  | x :: t, h => ⟨x, h x (by simp)⟩ :: mayOf t (fun m hm => h m (by simp [hm]))
theorem mayOf_map : ∀ (l : List MarkT) (h : ∀ m ∈ l, mayB m = true), (mayOf l h).map (fun x : MayM => x.1) = l
  | [], _ => rfl
  | x :: t, h => by
    show x :: (mayOf t _).map (fun x : MayM => x.1) = x :: t
    rw [mayOf_map t]
theorem mayOf_len (l : List MarkT) (h : ∀ m ∈ l, mayB m = true) : (mayOf l h).length = l.length := by
  have := congrArg List.length (mayOf_map l h)
  simpa using this
theorem arr_get {α : Type} [Inhabited α] (l : List α) (i : Nat) (h : i < l.length) : l.toArray[i]! = l[i] := by
  rw [getElem!_pos l.toArray i (by simpa using h)]; simp
/-- A row of its own holds its marks, none of them frozen. -/
theorem holds_of {w : World} {n0 B cap : Nat} {T : TypeId} {l : List MarkT} (h : ∀ m ∈ l, mayB m = true) (hr : w.ownsRow n0 T 2 (.slice (some ⟨B, 0, none⟩) l.length cap) l.length (l.map cellsM).flatten) :
    Go.Sort.HoldsK encY 2 w B 0 (mayOf l h).toArray ∧ B < w.heap.size ∧ n0 ≤ B ∧ l.length ≤ 9223372036854775807 ∧ l.length ≤ cap ∧ cap ≤ 9223372036854775807 := by
  rcases hr.2 with ⟨he, _⟩ | ⟨g, cap', cur, he, hg0, hg, h1, h2, h3, h4⟩
  · cases he
  · simp only [Value.slice.injEq, Option.some.injEq, Addr.mk.injEq] at he
    obtain ⟨⟨rfl, _⟩, _, rfl⟩ := he
    have hlt : B < w.heap.size := by
      by_cases q : B < w.heap.size
      · exact q
      · rw [Array.getElem?_eq_none (by omega)] at hg; cases hg
    simp only [maxLen] at h2
    refine ⟨fun j hj => ?_, hlt, hg0, by omega, h1, by omega⟩
    rw [Go.Sort.size_flatK] at hj
    have hs : (mayOf l h).toArray.size = l.length := by simp [mayOf_len]
    rw [hs] at hj
    have hi : j / 2 < l.length := by omega
    have hf := flat_at 2 (l.map cellsM) (cellsM_len l) (j / 2) (by simpa using hi) (j % 2) (by omega)
    have ej : j / 2 * 2 + j % 2 = j := by omega
    rw [ej] at hf
    have e2 := congrArg (fun z => z[j]?) h4
    simp only [List.getElem?_take] at e2
    rw [if_pos hj, hf] at e2
    have hm : (mayOf l h).toArray[j / 2]!.1 = l[j / 2] := by
      rw [arr_get _ _ (by rw [mayOf_len]; exact hi)]
      have := congrArg (fun z => z[j / 2]?) (mayOf_map l h)
      simp only [List.getElem?_map] at this
      rw [List.getElem?_eq_getElem (by rw [mayOf_len]; exact hi), List.getElem?_eq_getElem hi] at this
      simpa using this
    constructor
    · rw [Go.Sort.get_flatK _ _ _ _ (by rw [hs]; exact hj)]
      simp only [World.cell?, hg, Nat.zero_add, id, encY, hm]
      have hc : (cellsM l[j / 2])[j % 2]? = some ((cellsM l[j / 2])[j % 2]!) := by
        have : j % 2 < (cellsM l[j / 2]).length := by simp [cellsM]; omega
        rw [getElem!_pos (cellsM l[j / 2]) (j % 2) this, List.getElem?_eq_getElem this]
      simp only [List.getElem_map] at e2
      rw [hc] at e2
      simpa using e2
    · simp [World.frozen?, hg]
/-- What the sort leaves below the row's block. -/
theorem below_sort {w : World} {n0 B n : Nat} {d : Array MayM} {os : Array Obj} (h : n0 ≤ B) (hlt : B < w.heap.size) : Below n0 w (sortWorldK encY 2 w B 0 n d os) := by
  unfold sortWorldK Go.Sort.putRowK Go.Sort.putRow Go.Sort.mapBlock Go.Sort.grow Go.Sort.ahead
  refine ⟨rfl, rfl, rfl, ?_, fun k hk => ?_⟩
  · simp
  · simp only [Array.getElem?_append, Array.size_modify]
    rw [if_pos (by omega), Array.getElem?_modify, if_neg (by omega)]
set_option maxHeartbeats 1000000 in
theorem sort_any (n0 B cap : Nat) (l : List MarkT) (w : World) (h : ∀ m ∈ l, mayB m = true) (hr : w.ownsRow n0 49 2 (.slice (some ⟨B, 0, none⟩) l.length cap) l.length (l.map cellsM).flatten) (h12 : l.length ≤ 1000) :
    Calls Tryd.prog 37 #[.slice (some ⟨B, 0, none⟩) l.length cap, .func (.func 38) #[] #[]] w fun e w' => e = .returned (.tuple #[]) ∧ ∃ d : List MarkT, d.Perm l ∧ d.Pairwise (fun a b => b.1 ≤ a.1) ∧ RdMk w' (.slice (some ⟨B, 0, none⟩) l.length cap) d ∧ Below n0 w w' := by
  obtain ⟨hH, hlt, hn, hmax, hcap, hcapm⟩ := holds_of h hr
  have hsz : (mayOf l h).toArray.size = l.length := by simp [mayOf_len]
  have eg : ∀ args w, (callFunc 38 args).run Tryd.prog w = .ok (.enter 38 args) w := enters_of Tryd.func38 (by kernel_rfl) rfl
  have hcon := AnyQ.slices_SortFunc Tryd.sortM 2 Tryd.isAgg49 Tryd.sizeOf49 encY (fun _ => rfl) (fun x v hv => by simp [encY, cellsM] at hv; rcases hv with rfl | rfl <;> rfl) cfM swoM 38 #[] B 0 cap (mayOf l h).toArray w eg (fun _ _ _ _ x y => cloSort_any x y _) hH hlt (by rw [hsz]; omega)
  rw [hsz] at hcon
  refine Calls.mono (f := 37) hcon ?_
  rintro e w' ⟨rfl, d', n, os, hp, hs, rfl⟩
  refine ⟨rfl, d'.toList.map (fun x : MayM => x.1), ?_, ?_, ?_, below_sort hn hlt⟩
  · have h3 := hp.2.2
    have h1 := hp.1
    rw [Array.extract_eq_self_of_le (by omega), Array.extract_eq_self_of_le (by omega)] at h3
    have := h3.map (fun x : MayM => x.1)
    rw [List.toList_toArray, mayOf_map] at this
    exact this
  · rw [List.pairwise_map, List.pairwise_iff_getElem]
    intro i j hi hj hij
    have h1 := hp.1
    rw [hsz] at h1
    have hq := hs i j (Nat.zero_le _) hij (by simpa [h1] using hj)
    rw [ltM, decide_eq_false_iff_not] at hq
    rw [getElem!_pos d' i (by simpa using hi), getElem!_pos d' j (by simpa using hj)] at hq
    simp only [Array.getElem_toList]
    omega
  · have h1 := hp.1
    have hH' := holdsK_sortWorldK_c encY 2 w B 0 (mayOf l h).toArray d' n os hH hlt h1
    rw [hsz] at h1
    have hl : (d'.toList.map (fun x : MayM => x.1)).length = l.length := by simp [h1]
    have hl2 : ((d'.toList.map (fun x : MayM => x.1)).map cellsM).length = l.length := by rw [List.length_map, hl]
    refine ⟨_, cap, by rw [hl2], by rw [hl2]; exact hmax, by rw [hl2]; exact hcap, hcapm, fun _ => ⟨B, 0, rfl, fun i hi j u hu => ?_⟩⟩
    have hi' : i < d'.size := by simpa using hi
    have hj : j < 2 := by
      have := (List.getElem?_eq_some_iff.1 hu).1
      simpa [cellsM] using this
    have := (Go.Sort.HoldsK.cell hH' hi' hj).1
    rw [this, getElem!_pos d' i hi']
    simp only [List.getElem_map, Array.getElem_toList] at hu
    unfold encY
    rw [← hu]
    have h2 : j < (cellsM d'[i].1).length := by simpa [cellsM] using hj
    rw [getElem!_pos (cellsM d'[i].1) j h2, List.getElem?_eq_getElem h2]
end Go.Proofs.YtjnejbeeoepdnaaDoor
namespace Go.Proofs.YtjnejbeeoepdnaaDoor
open Go.RowKit

/-- A mark in its box, at the first new block; all that lay lies on. -/
structure BoxAt (w W : World) (m : MarkT) : Prop where
  hb : Below w.heap.size w W
  c0 : W.cell? ⟨w.heap.size, 0, none⟩ = some (.int .i64 m.1)
  c1 : W.cell? ⟨w.heap.size, 1, none⟩ = some (.int .i64 m.2)
  sz : w.heap.size + 1 ≤ W.heap.size
theorem BoxAt.new (w : World) (m : MarkT) (T : TypeId) : BoxAt w (w.alloc (.cells #[.int .i64 m.1, .int .i64 m.2] T)) m := ⟨below_alloc w _, by simp, by simp, by simp⟩
theorem BoxAt.low {w W W' : World} {m : MarkT} (h : BoxAt w W m) (hb : Below (w.heap.size + 1) W W') : BoxAt w W' m :=
  ⟨h.hb.trans (hb.mono (Nat.le_succ _)), (hb.cell (p := ⟨w.heap.size, 0, none⟩) (Nat.lt_succ_self _)).trans h.c0, (hb.cell (p := ⟨w.heap.size, 1, none⟩) (Nat.lt_succ_self _)).trans h.c1, Nat.le_trans h.sz hb.size⟩
theorem BoxAt.up {w W W' : World} {m : MarkT} (h : BoxAt w W m) (hb : Below W.heap.size W W') : BoxAt w W' m := h.low (hb.mono h.sz)
theorem BoxAt.alloc {w W : World} {m : MarkT} (h : BoxAt w W m) (o : Obj) : BoxAt w (W.alloc o) m := h.up (below_alloc W o)
theorem BoxAt.grown {w W W' : World} {m : MarkT} {row : Option Nat} (h : BoxAt w W m) (hg : W.grownBy W' row) (hk : ∀ k, row = some k → w.heap.size + 1 ≤ k) : BoxAt w W' m :=
  h.low ((Below.refl _ _).grown hg h.sz hk)
/-- What Add tells. -/
def AddE (w : World) (r : List MarkT × Int) (e : Ending) (w' : World) : Prop := ∃ u, e = .returned (.tuple #[u, .int .i64 r.2]) ∧ RdMk w' u r.1 ∧ (∀ c, u = .slice none 0 c → c = 0) ∧ FreshV w.heap.size u ∧ Below w.heap.size w w'
/-- Under way. -/
def AddAt (w W : World) (v : Value) (l : List MarkT) (m : MarkT) (k : Nat) : Prop :=
  W.ownsRow (w.heap.size + 1) 49 2 v (m :: leftM m (l.take k)).length ((m :: leftM m (l.take k)).map cellsM).flatten ∧ BoxAt w W m
theorem rdm_nil (w : World) : RdMk w (.slice none 0 0) [] := ⟨none, 0, rfl, by simp, by simp, by simp, fun h => absurd rfl h⟩
theorem left_len (m : MarkT) (l : List MarkT) (k : Nat) : (leftM m (l.take k)).length ≤ l.length := Nat.le_trans (leftM_len m _) (by rw [List.length_take]; omega)
set_option maxRecDepth 100000 in
set_option maxHeartbeats 4000000 in
theorem padd_any (v : Value) (l : List MarkT) (m : MarkT) (w : World) (hv : RdMk w v l) (hn : ∀ c, v = .slice none 0 c → c = 0) :
    Calls Tryd.prog 17 #[v, encM m] w (AddE w (addL l m)) := by
  obtain ⟨i0, hi, hz0, hz1, hz2⟩ := info_parts infoMk
  have HB0 := Lib.hid (BoxAt.new w m 49)
  have C1 := Lib.hid (pmay_any v l _ (hv.up HB0.out.hb))
  have HV := Lib.hid hv
  have HN := Lib.hid hn
  obtain ⟨R, hR⟩ : ∃ R, R = addL l m := ⟨_, rfl⟩
  rw [← hR]
  have HR := Lib.hid hR
  have eg : ∀ args w, (callFunc 34 args).run Tryd.prog w = .ok (.enter 34 args) w := enters_of Tryd.func34 (by kernel_rfl) rfl
  have EG := Lib.hid eg
  have CM := Lib.hid (fun W => may_any m W)
  have CD := Lib.hid (fun W x => dom_any m x W)
  have HLT := Lib.hid (fun k (h : k < l.length) => leftM_snoc (m := m) h)
  have HLL := Lib.hid (left_len m l)
  obtain ⟨a, b⟩ := m
  obtain ⟨r1, hr1⟩ : ∃ r, r = mayLk l := ⟨_, rfl⟩
  obtain ⟨r2, hr2⟩ : ∃ r, r = mayB (a, b) := ⟨_, rfl⟩
  rw [← hr1] at C1
  rw [← hr2] at CM
  have HR1 := Lib.hid hr1
  have HR2 := Lib.hid hr2
  clear hv hn hR eg hr1 hr2
  go_enter Tryd.func17, Tryd.ntmps17
  go_wp2_with fail
  refine C1.out.mono ?_
  rintro e w1 ⟨rfl, hb1⟩
  have H1 := Lib.hid (HB0.out.up hb1)
  clear hb1 C1
  cases r1 with
  | false =>
    as_aux_lemma =>
      go_wp2_with fail
      go_ret2
      exact ⟨_, by rw [HR.out, addL_bad (.inl HR1.out.symm)]; rfl, by rw [HR.out, addL_bad (.inl HR1.out.symm)]; exact rdm_nil _, (fun c h => by cases h; rfl), fresh_nil _ _ _, H1.out.hb⟩
  | true =>
  have d0 := H1.out.c0
  have d1 := H1.out.c1
  dsimp only at d0 d1
  go_wp2_with fail
  refine (CM.out _).mono ?_
  rintro e w2 ⟨rfl, hb2⟩
  have H2 := Lib.hid (H1.out.up hb2)
  clear hb2 d0 d1 H1
  cases r2 with
  | false =>
    as_aux_lemma =>
      go_wp2_with fail
      go_ret2
      exact ⟨_, by rw [HR.out, addL_bad (.inr HR2.out.symm)]; rfl, by rw [HR.out, addL_bad (.inr HR2.out.symm)]; exact rdm_nil _, (fun c h => by cases h; rfl), fresh_nil _ _ _, H2.out.hb⟩
  | true =>
  have HA := Lib.hid (contains_any 34 #[.pointer (some ⟨w.heap.size, 0, none⟩)] EG.out (fun x => domB x (a, b)) v l w2 (HV.out.up H2.out.hb) (fun W x hb => cloDom_any x (a, b) w.heap.size W (H2.out.up hb).c0 (H2.out.up hb).c1))
  obtain ⟨r3, hr3⟩ : ∃ r, r = l.any (fun x => domB x (a, b)) := ⟨_, rfl⟩
  rw [← hr3] at HA
  have HR3 := Lib.hid hr3
  clear hr3 EG
  go_wp2_with fail
  refine HA.out.mono ?_
  rintro e w3 ⟨rfl, hb3⟩
  have H3 := Lib.hid (H2.out.up hb3)
  clear hb3 HA H2
  cases r3 with
  | true =>
    as_aux_lemma =>
      have hlen : l.length ≤ 8 := (mayLk_of HR1.out.symm).2
      have HC := Lib.hid (clone_any v l w3 (HV.out.up H3.out.hb) HN.out (by omega))
      clear hlen
      go_wp2_with fail
      refine HC.out.mono ?_
      rintro e w4 ⟨u, rfl, hu, hun, huf, hb4⟩
      have HU := Lib.hid (And.intro hu (And.intro hun (And.intro (huf.mono H3.out.hb.size) (H3.out.hb.trans (hb4.mono H3.out.hb.size)))))
      clear hu hun huf hb4 HC
      go_wp2_with fail
      go_ret2
      exact ⟨_, by rw [HR.out, addL_dom HR1.out.symm HR2.out.symm HR3.out.symm]; rfl, by rw [HR.out, addL_dom HR1.out.symm HR2.out.symm HR3.out.symm]; exact HU.out.1, HU.out.2.1, HU.out.2.2.1, HU.out.2.2.2⟩
  | false =>
  have d0 := H3.out.c0
  have d1 := H3.out.c1
  dsimp only at d0 d1
  have h8 : l.length ≤ 8 := (mayLk_of HR1.out.symm).2
  obtain ⟨av, cv, rfl, _⟩ := HV.out.form
  have HS0 : Hid (AddAt w (w3.alloc (.cells #[.int .i64 a, .int .i64 b] 49)) (.slice (some ⟨w3.heap.size, 0, none⟩) 1 1) l (a, b) 0) := Lib.hid ⟨by
    refine ⟨by simp [leftM, cellsM], .inr ⟨w3.heap.size, 1, _, rfl, H3.out.sz, heap_alloc_new _ _, by simp [leftM], by decide, rfl, by simp [leftM, cellsM]⟩⟩, H3.out.alloc _⟩
  clear H3
  go_wp2_with fail
  clear d0 d1
  go_loopw [6, 26] (fun o i wr => ∃ k : Nat, k ≤ l.length ∧ i = .int .i64 (k : Int) ∧ Hid (AddAt w wr o l (a, b) k)) (fun _ i _ => l.length - (intOf i).toNat)
  case atStart => exact ⟨0, Nat.zero_le _, rfl, HS0⟩
  case round =>
    clear HS0
    obtain ⟨k, hk, rfl, HW⟩ := hrel
    obtain ⟨vo, hvo⟩ : ∃ v, v = u6 := ⟨_, rfl⟩
    subst hvo
    by_cases hlt : k < l.length
    · as_aux_lemma =>
        have g3 : (k : Int) < (l.length : Int) := by omega
        have g4 : (0 : Int) ≤ (k : Int) := by omega
        obtain ⟨bA, oA, rfl, c0, c1⟩ := HV.out.get hlt
        have HSN := Lib.hid (HLT.out k hlt)
        obtain ⟨x, hx⟩ : ∃ x, x = l[k] := ⟨_, rfl⟩
        rw [← hx] at c0 c1 HSN
        obtain ⟨c, d⟩ := x
        dsimp only at c0 c1
        have hlA := World.block_lt_of_cell? w _ c0
        have e0 : wr.cell? ⟨bA, oA + k * 2, none⟩ = some (.int .i64 c) := (HW.out.2.hb.cell (p := ⟨bA, oA + k * 2, none⟩) hlA).trans c0
        have e1 : wr.cell? ⟨bA, oA + k * 2 + 1, none⟩ = some (.int .i64 d) := (HW.out.2.hb.cell (p := ⟨bA, oA + k * 2 + 1, none⟩) hlA).trans c1
        have HX := Lib.hid (HW.out.2.alloc (.cells #[.int .i64 c, .int .i64 d] 49))
        have d0 := HX.out.c0
        have d1 := HX.out.c1
        dsimp only at d0 d1
        clear c0 c1 hx hlA HV
        go_wp2_with fail
        refine (CD.out _ (c, d)).mono ?_
        rintro e w5 ⟨rfl, hb5⟩
        obtain ⟨rd, hrd⟩ : ∃ r, r = domB (a, b) (c, d) := ⟨_, rfl⟩
        rw [← hrd] at HSN ⊢
        have H5 := Lib.hid (HX.out.up hb5)
        have HO : Hid (w5.ownsRow (w.heap.size + 1) 49 2 vo ((a, b) :: leftM (a, b) (l.take k)).length (((a, b) :: leftM (a, b) (l.take k)).map cellsM).flatten) :=
          Lib.hid (owns_below (World.ownsRow.alloc HW.out.1 _) hb5 (Nat.le_refl _))
        have f0 : w5.cell? ⟨wr.heap.size, 0, none⟩ = some (.int .i64 c) := (hb5.cell (p := ⟨wr.heap.size, 0, none⟩) (by simp)).trans (by simp)
        have f1 : w5.cell? ⟨wr.heap.size, 1, none⟩ = some (.int .i64 d) := (hb5.cell (p := ⟨wr.heap.size, 1, none⟩) (by simp)).trans (by simp)
        clear hb5 d0 d1 hrd HX HW e0 e1
        cases rd with
        | true =>
          have HN : Hid (AddAt w w5 vo l (a, b) (k + 1)) := Lib.hid ⟨by rw [HSN.out, if_pos rfl, List.append_nil]; exact HO.out, H5.out⟩
          clear HO H5 HSN
          go_wp2_with fail
          go_roundw
          case rel => exact ⟨k + 1, by omega, by go_num, HN⟩
          case measure => simp [intOf]; omega
        | false =>
          have hll := HLL.out k
          obtain ⟨N, hN⟩ : ∃ N, N = ((a, b) :: leftM (a, b) (l.take k)).length := ⟨_, rfl⟩
          have hN9 : N ≤ 9 := by rw [hN, List.length_cons]; omega
          have HNN := Lib.hid hN
          clear hN hll
          go_wp2_with (at_builtin; refine hold ?_)
          intro _
          refine wpList_appendF (by rfl) _ _ 28 (by rfl) (w.heap.size + 1) 49 i0 _ 2 16 Tryd.underlying28 hi hz0 hz1 hz2 rfl (by decide) vo N _ (by rfl) (by rw [HNN.out]; exact World.ownsRow.alloc HO.out _) (.slice (some ⟨w5.heap.size, 0, none⟩) 1 1) [cellsM (c, d)] (by simp [cellsM]) (by simp [cellsM, Value.oneCell']) (by rfl) (RdF.lit [cellsM (c, d)] (by simp [cellsM]) (heap_alloc_new _ _) rfl (by simp)) (fun c h => by cases h) (by simp [maxLen]; omega) (by simp; omega) (by have := H5.out.sz; simp; omega) ?_
          intro v' w' ho hg
          have HN : Hid (AddAt w w' v' l (a, b) (k + 1)) := Lib.hid ⟨by
            rw [HSN.out, if_neg (by decide)]
            rw [HNN.out] at ho
            simpa using ho, (H5.out.alloc _).grown hg (fun j ej => (World.ownsRow.lt HO.out j ej).1)⟩
          clear ho hg HO H5 HSN HNN
          go_wp2_with fail
          go_roundw
          case rel => exact ⟨k + 1, by omega, by go_num, HN⟩
          case measure => simp [intOf]; omega
    · as_aux_lemma =>
        obtain rfl : k = l.length := by omega
        have g3 : ¬ (l.length : Int) < (l.length : Int) := by omega
        have ho := HW.out.1
        have hbx := HW.out.2
        rw [List.take_length] at ho
        have hll := leftM_len (a, b) l
        obtain ⟨N, hN⟩ : ∃ N, N = ((a, b) :: leftM (a, b) l).length := ⟨_, rfl⟩
        have hN0 : N = (leftM (a, b) l).length + 1 := by rw [hN, List.length_cons]
        have hN9 : N ≤ 9 := by omega
        rw [← hN] at ho
        rcases Joins.ownsRow_forms ho with ⟨_, h0⟩ | ⟨g, cap, rfl⟩
        · omega
        · have HO := Lib.hid ho
          have HBX := Lib.hid hbx
          have HNN := Lib.hid hN
          by_cases h9 : 8 < N
          · have HE := Lib.hid (addL_many HR1.out.symm HR2.out.symm HR3.out.symm (by omega))
            clear ho hbx hN hN0 hll HW
            have g9 : (8 : Int) < (N : Int) := by omega
            go_wp2_with fail
            go_ret2
            exact ⟨_, by rw [HR.out, HE.out]; rfl, by rw [HR.out, HE.out]; exact rdm_nil _, (fun c h => by cases h; rfl), fresh_nil _ _ _, HBX.out.hb⟩
          · have HE := Lib.hid (addL_new HR1.out.symm HR2.out.symm HR3.out.symm (by omega))
            have hst := (mayLk_of HR1.out.symm).1
            have hmy : ∀ x ∈ (a, b) :: leftM (a, b) l, mayB x = true := by
              intro x hx
              rcases List.mem_cons.1 hx with rfl | hx
              · exact HR2.out.symm
              · exact stair_may hst x (List.mem_filter.1 hx).1
            have hs := sort_any (w.heap.size + 1) g cap ((a, b) :: leftM (a, b) l) wr hmy (by rw [← hN]; exact ho) (by rw [← hN]; omega)
            rw [← hN] at hs
            have HS := Lib.hid hs
            have HI := Lib.hid (fun d h1 h2 => sort_is hst HR3.out.symm (d := d) h1 h2)
            clear ho hbx hN hN0 hll HW hs hst hmy
            have g9 : ¬ (8 : Int) < (N : Int) := by omega
            go_wp2_with fail
            refine HS.out.mono ?_
            rintro e w6 ⟨rfl, dl, hp, hpw, hrd, hb6⟩
            have hdl := HI.out dl hp hpw
            have HD : Hid (RdMk w6 (.slice (some ⟨g, 0, none⟩) N cap) (insM (a, b) (leftM (a, b) l)) ∧ FreshV w.heap.size (.slice (some ⟨g, 0, none⟩) N cap) ∧ Below w.heap.size w w6) := Lib.hid ⟨by rw [← hdl]; exact hrd, (fresh_row HO.out).mono (Nat.le_succ _), HBX.out.hb.trans (hb6.mono (Nat.le_succ _))⟩
            clear hp hpw hrd hb6 hdl HI HS
            go_wp2_with fail
            go_ret2
            exact ⟨_, by rw [HR.out, HE.out]; rfl, by rw [HR.out, HE.out]; exact HD.out.1, (fun c h => by cases h), HD.out.2.1, HD.out.2.2⟩
end Go.Proofs.YtjnejbeeoepdnaaDoor
namespace Go.Proofs.YtjnejbeeoepdnaaDoor
open Go.RowKit

theorem stair_of {l : List MarkT} (h1 : ∀ m ∈ l, mayB m = true) (h2 : l.Pairwise (fun a b => b.1 < a.1 ∧ a.2 < b.2)) : StairK l l.length := by
  intro i hi _
  refine ⟨h1 _ (List.getElem_mem hi), fun j hj e => ?_⟩
  have := List.pairwise_iff_getElem.1 h2 j i hj hi (by omega)
  unfold nextB
  exact decide_eq_true this
theorem insM_stair {m : MarkT} : ∀ {l : List MarkT}, l.Pairwise (fun a b => b.1 < a.1 ∧ a.2 < b.2) → (∀ x ∈ l, domB x m = false ∧ domB m x = false) → (insM m l).Pairwise (fun a b => b.1 < a.1 ∧ a.2 < b.2)
  | [], _, _ => by simp [insM]
  | x :: t, h, hn => by
    obtain ⟨h1, h2⟩ := List.pairwise_cons.1 h
    obtain ⟨n1, n2⟩ := hn x (by simp)
    simp only [domB, decide_eq_false_iff_not] at n1 n2
    unfold insM
    split
    · next e =>
      refine List.pairwise_cons.2 ⟨fun y hy => ?_, h⟩
      rcases List.mem_cons.1 hy with rfl | hy
      · exact ⟨e, by omega⟩
      · have := h1 y hy
        exact ⟨by omega, by omega⟩
    · next e =>
      refine List.pairwise_cons.2 ⟨fun y hy => ?_, insM_stair h2 (fun z hz => hn z (by simp [hz]))⟩
      have := (insM_perm m t).mem_iff.1 hy
      rcases List.mem_cons.1 this with rfl | hy
      · exact ⟨by omega, by omega⟩
      · exact h1 y hy
theorem covL_perm {a b : List MarkT} (h : a.Perm b) (num time : Int) : covL a num time = covL b num time := by
  unfold covL
  rw [Bool.eq_iff_iff, List.any_eq_true, List.any_eq_true]
  constructor
  · rintro ⟨x, hx, h2⟩; exact ⟨x, h.mem_iff.1 hx, h2⟩
  · rintro ⟨x, hx, h2⟩; exact ⟨x, h.mem_iff.2 hx, h2⟩
theorem addL_cases (l : List MarkT) (m : MarkT) : addL l m = ([], 4) ∨ addL l m = ([], 17) ∨
    (MayL l ∧ mayB m = true ∧ ((l.any (fun x => domB x m) = true ∧ addL l m = (l, 0)) ∨ (l.any (fun x => domB x m) = false ∧ (leftM m l).length + 1 ≤ 8 ∧ addL l m = (insM m (leftM m l), 0)))) := by
  cases h1 : mayLk l with
  | false => exact .inl (addL_bad (.inl h1))
  | true =>
    cases h2 : mayB m with
    | false => exact .inl (addL_bad (.inr h2))
    | true =>
      cases h3 : l.any (fun x => domB x m) with
      | true => exact .inr (.inr ⟨mayLk_of h1, rfl, .inl ⟨rfl, addL_dom h1 h2 h3⟩⟩)
      | false =>
        by_cases h4 : 8 < (leftM m l).length + 1
        · exact .inr (.inl (addL_many h1 h2 h3 h4))
        · exact .inr (.inr ⟨mayLk_of h1, rfl, .inr ⟨rfl, by omega, addL_new h1 h2 h3 h4⟩⟩)
/-- Marks with one more: they may be; just what was covered is, or what the mark covers. -/
theorem addL_ok {l r : List MarkT} {m : MarkT} (h : addL l m = (r, 0)) : MayL l ∧ mayB m = true ∧ MayL r ∧ ∀ num time, covL r num time = (covL l num time || decide (time ≤ m.1 ∧ num < m.2)) := by
  rcases addL_cases l m with h' | h' | ⟨hl, hm, ⟨hd, h'⟩ | ⟨hd, h8, h'⟩⟩
  · rw [h'] at h; simp at h
  · rw [h'] at h; simp at h
  · rw [h'] at h
    obtain rfl : l = r := by simpa using h
    refine ⟨hl, hm, hl, fun num time => ?_⟩
    by_cases hc : time ≤ m.1 ∧ num < m.2
    · rw [decide_eq_true hc, Bool.or_true]
      obtain ⟨x, hx, hxd⟩ := List.any_eq_true.1 hd
      simp only [domB, decide_eq_true_eq] at hxd
      unfold covL
      exact List.any_eq_true.2 ⟨x, hx, decide_eq_true ⟨by omega, by omega⟩⟩
    · rw [decide_eq_false hc, Bool.or_false]
  · rw [h'] at h
    obtain rfl : insM m (leftM m l) = r := by simpa using h
    refine ⟨hl, hm, ⟨stair_of ?_ ?_, by rw [insM_len]; exact h8⟩, fun num time => ?_⟩
    · intro x hx
      rcases List.mem_cons.1 ((insM_perm m _).mem_iff.1 hx) with rfl | hx
      · exact hm
      · exact stair_may hl.1 x (List.mem_filter.1 hx).1
    · refine insM_stair ((stair_pairs hl.1).filter _) (fun x hx => ?_)
      obtain ⟨h1, h2⟩ := List.mem_filter.1 hx
      exact ⟨by have := List.any_eq_false.1 hd x h1; simpa using this, by simpa using h2⟩
    · rw [covL_perm (insM_perm m _), Bool.eq_iff_iff]
      unfold covL leftM
      simp only [List.any_cons, Bool.or_eq_true, decide_eq_true_eq, List.any_eq_true, List.mem_filter, domB, Bool.not_eq_true', decide_eq_false_iff_not]
      constructor
      · rintro (h | ⟨x, ⟨hx, _⟩, h⟩)
        · exact .inr h
        · exact .inl ⟨x, hx, h⟩
      · rintro (⟨x, hx, h⟩ | h)
        · by_cases hxd : x.1 ≤ m.1 ∧ x.2 ≤ m.2
          · exact .inl ⟨by omega, by omega⟩
          · exact .inr ⟨x, ⟨hx, hxd⟩, h⟩
        · exact .inl h
theorem mayL_nil : MayL [] := ⟨fun i hi => absurd hi (Nat.not_lt_zero _), by decide⟩
end Go.Proofs.YtjnejbeeoepdnaaDoor
namespace Go.Proofs.YtjnejbeeoepdnaaDoor
open Go.RowKit

theorem add_ex1 : addL [(100, 5)] (50, 10) = ([(100, 5), (50, 10)], 0) := by decide
theorem add_ex2 : addL [(50, 5)] (100, 10) = ([(100, 10)], 0) := by decide
set_option maxRecDepth 100000 in
set_option maxHeartbeats 2000000 in
theorem mkfirst_any (w : World) : Calls Tryd.prog 4 #[] w fun e w' => e = .returned (.bool true) ∧ Below w.heap.size w w' := by
  have C1 := Lib.hid (padd_any (.slice (some ⟨w.heap.size, 0, none⟩) 1 1) [(100, 5)] (50, 10) (w.alloc (.cells #[.int .i64 100, .int .i64 5] 49)) (RdF.lit [cellsM (100, 5)] (by simp [cellsM]) (heap_alloc_new _ _) rfl (by simp)) (fun c h => by cases h))
  have C2 := Lib.hid (fun W : World => padd_any (.slice (some ⟨W.heap.size, 0, none⟩) 1 1) [(50, 5)] (100, 10) (W.alloc (.cells #[.int .i64 50, .int .i64 5] 49)) (RdF.lit [cellsM (50, 5)] (by simp [cellsM]) (heap_alloc_new _ _) rfl (by simp)) (fun c h => by cases h))
  rw [add_ex1] at C1
  rw [add_ex2] at C2
  have H0 := Lib.hid (below_alloc w (.cells #[.int .i64 100, .int .i64 5] 49))
  go_enter Tryd.func4, Tryd.ntmps4
  go_wp2_with fail
  refine C1.out.mono ?_
  rintro e w1 ⟨u1, rfl, hr1, _, _, hb1⟩
  have H1 := Lib.hid (And.intro hr1 (H0.out.trans (hb1.mono H0.out.size)))
  clear hr1 hb1 C1 H0
  go_wp2_with fail
  refine (C2.out w1).mono ?_
  rintro e w2 ⟨u2, rfl, hr2, _, _, hb2⟩
  have hb3 := (below_alloc w1 (.cells #[.int .i64 50, .int .i64 5] 49)).trans (hb2.mono (by simp))
  obtain ⟨a1, c1, rfl, _⟩ := H1.out.1.form
  obtain ⟨a2, c2, rfl, _⟩ := hr2.form
  obtain ⟨b1, o1, rfl, x0, _⟩ := RdMk.get (H1.out.1.up hb3) (i := 0) (by simp)
  obtain ⟨b2, o2, rfl, _, y1⟩ := RdMk.get hr2 (i := 0) (by simp)
  have HX := Lib.hid (H1.out.2.trans (hb3.mono H1.out.2.size))
  simp at x0 y1
  clear hb2 hb3 hr2 C2 H1
  go_wp2_with fail
  go_ret
  exact ⟨rfl, HX.out⟩
end Go.Proofs.YtjnejbeeoepdnaaDoor
