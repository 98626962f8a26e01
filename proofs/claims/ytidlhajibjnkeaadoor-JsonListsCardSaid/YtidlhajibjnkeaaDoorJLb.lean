/- Joined: Range, RdV, TrBase, TrMath, UniqMath, Unique. -/
import Derived.Test.YtidlhajibjnkeaaDoorKit
import Derived.RangeFuncNested
import Derived.RangeFuncBound
import Derived.RangeFuncCalls
import Derived.RangeFuncLeaves
import Derived.RangeFuncBox
import Derived.Test.YtidlhajibjnkeaaDoorRows
import Derived.Deep.QuietTactic
import Derived.BigQuiet
import Derived.IntWalk
import Derived.Test.YtidlhajibjnkeaaDoorBl
import Derived.Laws.OwnMore
import Derived.Laws.AppendOwnNone
import Derived.Deep.RegionHeld3
namespace Go.Proofs.YtidlhajibjnkeaaDoor
open Go.RowKit

theorem wide_fn (f : FuncId) : Fence.wide.fn f = True := rfl
theorem wide_depth : Fence.wide.depth = none := rfl
/-- Whatever lies from B on lies as it lay, but for cells of the types Wr. -/
structure KT (Wr : TypeId → Prop) (B : Nat) (W W' : World) : Prop where
  size : W.heap.size ≤ W'.heap.size
  same : ∀ (k : Nat) (o : Obj), B ≤ k → W.heap[k]? = some o → (∀ c T p, o = .cells c T p → ¬ Wr T) → W'.heap[k]? = some o
theorem KT.refl (Wr : TypeId → Prop) (B : Nat) (W : World) : KT Wr B W W := ⟨Nat.le_refl _, fun _ _ _ h _ => h⟩
theorem KT.trans {Wr : TypeId → Prop} {B : Nat} {X Y Z : World} (h : KT Wr B X Y) (k : KT Wr B Y Z) : KT Wr B X Z := ⟨Nat.le_trans h.size k.size, fun i o hB hi ho => k.same i o hB (h.same i o hB hi ho) ho⟩
theorem KT.more {Wr : TypeId → Prop} {B B' : Nat} {W W' : World} (h : KT Wr B W W') (hB : B ≤ B') : KT Wr B' W W' := ⟨h.size, fun k o hk => h.same k o (Nat.le_trans hB hk)⟩
theorem KT.wider {Wr Wr' : TypeId → Prop} {B : Nat} {W W' : World} (h : KT Wr B W W') (hw : ∀ T, Wr T → Wr' T) : KT Wr' B W W' := ⟨h.size, fun k o hk h0 ho => h.same k o hk h0 (fun c T p e q => ho c T p e (hw T q))⟩
/-- What is no cells. -/
theorem KT.others {Wr : TypeId → Prop} {B : Nat} {W W' : World} (h : KT Wr B W W') {k : Nat} {o : Obj} (hk : B ≤ k) (h0 : W.heap[k]? = some o) (ho : o.isCells = false) : W'.heap[k]? = some o :=
  h.same k o hk h0 (fun c T p e => by subst e; cases ho)
/-- Cells of another type. -/
theorem KT.cells {Wr : TypeId → Prop} {B : Nat} {W W' : World} (h : KT Wr B W W') {k : Nat} {c : Array Value} {T : TypeId} {p : Nat × Nat} (hk : B ≤ k) (h0 : W.heap[k]? = some (.cells c T p)) (ho : ¬ Wr T) : W'.heap[k]? = some (.cells c T p) :=
  h.same k _ hk h0 (fun c T p e => by cases e; exact ho)
theorem KT.of_grown {Wr : TypeId → Prop} {B : Nat} {W W' : World} {row : Option Nat} (h : W.grownBy W' row) (hr : ∀ k, row = some k → k < B ∨ ∃ c T p, W.heap[k]? = some (.cells c T p) ∧ Wr T) : KT Wr B W W' :=
  ⟨h.size, fun k o hk h0 ho => (h.block k (Array.getElem?_eq_some_iff.1 h0).1 (fun e => by
    rcases hr k e.symm with h1 | ⟨c, T, p, h1, h2⟩
    · omega
    · rw [h0] at h1; cases h1; exact ho c T p rfl h2)).trans h0⟩
theorem KT.of_below {Wr : TypeId → Prop} {B : Nat} {W W' : World} (h : Below W.heap.size W W') : KT Wr B W W' := ⟨h.size, fun k _ _ h0 _ => (h.block k (Array.getElem?_eq_some_iff.1 h0).1).trans h0⟩
theorem KT.put (Wr : TypeId → Prop) {B l : Nat} (W : World) (o : Obj) (hl : l < B) : KT Wr B W (W.putObj l o) :=
  ⟨by simp, fun _ _ hk h0 _ => (World.putObj_heap_other (by omega)).trans h0⟩
theorem KT.drew (Wr : TypeId → Prop) (B : Nat) (W : World) : KT Wr B W W.drew := ⟨Nat.le_refl _, fun _ _ _ h _ => h⟩
theorem KT.alloc (Wr : TypeId → Prop) (B : Nat) (W : World) (o : Obj) : KT Wr B W (W.alloc o) := KT.of_grown (World.grownBy_alloc W o none) (fun _ e => by cases e)
theorem KT.box {Wr : TypeId → Prop} {B : Nat} {W W' : World} {k : Nat} {t : TypeId} {v : Value} (h : KT Wr B W W') (hb : Boxed W k t v) (hk : B ≤ k) (ho : ¬ Wr t) : Boxed W' k t v := h.cells hk hb ho
/-- A slice in a box, appended to: what of the world lies on. -/
theorem boxT {W w1 : World} {n₀ B : Nat} {t e : TypeId} {size : Nat} {v v' : Value} {k : Nat} {xs : List Value} {tmp : Obj} (hv : Boxed W B t v) (_hte : t ≠ e) (hrow : W.ownsRow n₀ e size v k xs)
    (hgrow : (W.alloc tmp).grownBy w1 v.ownBlock) {Wr : TypeId → Prop} {D : Nat} (hwe : Wr e) (hD : B < D) : KT Wr D W (w1.setCell ⟨B, 0, none⟩ v') := by
  refine ((KT.alloc Wr D W tmp).trans (KT.of_grown hgrow fun j ej => ?_)).trans (KT.of_grown (grownBy_setCell' _ _ _) (fun j ej => .inl (by cases ej; exact hD)))
  rcases (hrow.alloc tmp).2 with ⟨rfl, _⟩ | ⟨g, cap, cur, rfl, _, hgb, _⟩
  · simp [Value.ownBlock] at ej
  · obtain rfl : g = j := by simpa [Value.ownBlock] using ej
    exact .inr ⟨_, _, _, hgb, hwe⟩
theorem row_mono {W : World} {b b' : Nat} {e : TypeId} {size k : Nat} {v : Value} {xs : List Value} (h : W.ownsRow b e size v k xs) (hb : b' ≤ b) : W.ownsRow b' e size v k xs := by
  refine ⟨h.1, ?_⟩
  rcases h.2 with hn | ⟨g, cap, cur, rfl, hg, rest⟩
  · exact .inl hn
  · exact .inr ⟨g, cap, cur, rfl, Nat.le_trans hb hg, rest⟩
/-- Behind an append to a slice in a box that lies ahead of all rows: the boxes, the row, what lay ahead. -/
theorem appended {W w1 : World} {n₀ B : Nat} {t e : TypeId} {v v' : Value} {k m : Nat} {xs ys : List Value} {tmp : Obj} (hv : Boxed W B t v) (hB : B < n₀) (hn : n₀ ≤ W.heap.size) (hrow : W.ownsRow n₀ e 1 v k xs)
    (hown' : w1.ownsRow n₀ e 1 v' m ys) (hgrow : (W.alloc tmp).grownBy w1 v.ownBlock) :
    Boxed w1 B t v ∧ Boxed (w1.setCell ⟨B, 0, none⟩ v') B t v' ∧ (w1.setCell ⟨B, 0, none⟩ v').ownsRow n₀ e 1 v' m ys ∧
    (∀ B' t' u, B' < n₀ → B' ≠ B → Boxed W B' t' u → Boxed w1 B' t' u ∧ Boxed (w1.setCell ⟨B, 0, none⟩ v') B' t' u) ∧ (∀ c, c ≤ B → Below c W (w1.setCell ⟨B, 0, none⟩ v')) := by
  have ne : ∀ j, j < n₀ → some j ≠ v.ownBlock := fun j hj e => by have := (hrow.lt j e.symm).1; omega
  have hv1 : Boxed w1 B t v := (hv.alloc tmp).kept hgrow (ne B hB)
  have ne' : v'.ownBlock = none ∨ v'.ownBlock ≠ some B := .inr fun e => by have := (hown'.lt B e).1; omega
  refine ⟨hv1, hv1.set v', hown'.kept (grownBy_setCell' w1 B v') ne', fun B' t' u h1 h2 h3 => ?_, fun c hc => ?_⟩
  · have h4 := (h3.alloc tmp).kept hgrow (ne B' h1)
    exact ⟨h4, h4.other h2 v'⟩
  · exact (((Below.refl c W).alloc (by omega) tmp).grown hgrow (by simp; omega) (fun j ej => by have := (hrow.lt j ej).1; omega)).setCell (p := ⟨B, 0, none⟩) hc v'
/-- A box that holds a slice of the call's own. -/
def BoxRow (n₀ B : Nat) (T E : TypeId) (W : World) (l : List Value) : Prop := ∃ v, Boxed W B T v ∧ W.ownsRow n₀ E 1 v l.length l
theorem boxRow_own {β : Type} (n₀ B : Nat) (T E : TypeId) (f : β → List Value) : Go.Own (fun s W => BoxRow n₀ B T E W (f s)) := by
  intro s X Y row ⟨v, hv, hr⟩ hg hrow
  obtain ⟨v', h1, h2, _⟩ := holdsRow_own n₀ B T E 1 (fun s => (f s).length) f (fun _ _ => True) s X Y row ⟨v, hv, hr, trivial⟩ hg hrow
  exact ⟨v', h1, h2⟩
/-- How a body may be left. -/
def ownPostT {α : Type} (Wr : TypeId → Prop) (B : Nat) (I : List α → World → Prop) (Ix : Code → List α → World → Prop) (xs : List α) (W : World) : Exit → Act → World → Prop
  | .normal, _, W' => KT Wr B W W' ∧ I xs W'
  | .ret, _, W' => KT Wr B W W' ∧ Ix .ret xs W'
  | .exit id, _, W' => KT Wr B W W' ∧ Ix (.exit id) xs W'
  | .goto t, _, W' => KT Wr B W W' ∧ Ix (.goto t) xs W'
  | .panic _, _, _ => False
  | .outgrown, _, _ => False
/-- A call of yield, in a walk without a fence. -/
def Yld (P : Program) (l : Nat) (args : Array Value) (W : World) (R : Ending → World → Prop) : Prop := ∀ m, YieldAt Fence.wide m P l args W R
theorem Yld.mono {P : Program} {l : Nat} {args : Array Value} {W : World} {R R' : Ending → World → Prop} (h : Yld P l args W R) (hr : ∀ e w, R e w → R' e w) : Yld P l args W R' := fun m => (h m).mono hr
/-- What a round answers: more is asked for, or not; what is no cells from B on lies as it lay. -/
def RndPost {α : Type} (Wr : TypeId → Prop) (B : Nat) (J Jx : List α → World → Prop) (pre : List α) (W : World) (e : Ending) (W' : World) : Prop :=
  KT Wr B W W' ∧ ((e = .returned (.bool true) ∧ J pre W') ∨ (e = .returned (.bool false) ∧ Jx pre W'))
/-- What is ranged over: called with a yield it hands xs on, one behind the other, till no more is asked for; between two rounds it asks Ok of the world. -/
def Seqs {α : Type} (P : Program) (gf : Nat) (lb : Array Value) (encs : α → Array Value) (Ok : World → Prop) (Wr : TypeId → Prop) (xs : List α) (W : World) : Prop :=
  ∀ (l : Nat) (J Jx : List α → World → Prop), OwnFrom W.heap.size J → OwnFrom W.heap.size Jx → (∀ pre W1, J pre W1 → Ok W1) →
    (∀ pre x W1, J pre W1 → (∃ t, xs = pre ++ x :: t) → Yld P l (encs x) W1 (RndPost Wr W.heap.size J Jx (pre ++ [x]) W1)) →
    J [] W → Calls P gf (#[.func (.yield l) #[] #[]] ++ lb) W fun e W' => (∃ v, e = .returned v) ∧ (J xs W' ∨ ∃ pre, (∃ t, xs = pre ++ t) ∧ Jx pre W')
theorem ownFrom_more {β : Type} {B B' : Nat} {I : β → World → Prop} (h : OwnFrom B I) (hB : B ≤ B') : OwnFrom B' I :=
  fun s X Y row hs hg hr => h s X Y row hs hg (fun r e => ⟨Nat.le_trans hB (hr r e).1, (hr r e).2⟩)
/-- A loop's record. -/
abbrev recOf (fn : FuncId) (tmps : Array Value) (ps : Array Tmp) (assign body : Code) (B : Nat) (st : LoopState) (pe : Option Code) : Loop :=
  { state := st, pending := pe, fn, tmps, params := ps, assign, body, defers := B }
/-- A relation beside the two blocks of a loop's book. -/
def Booked {α : Type} (B : Nat) (r : Loop) (I : List α → World → Prop) (pre : List α) (W : World) : Prop := I pre W ∧ W.heap[B + 1]? = some (.loop r) ∧ W.heap[B]? = some (.deferred (some []))
theorem booked_own {α : Type} {B : Nat} {r : Loop} {I : List α → World → Prop} (hI : OwnFrom B I) : OwnFrom (B + 2) (Booked B r I) := by
  intro s A C row ⟨h1, h2, h3⟩ hg hr
  have hne : ∀ k, k < B + 2 → some k ≠ row := fun k hk e => by have := (hr k e.symm).1; omega
  exact ⟨hI _ _ _ _ h1 hg (fun r e => ⟨by have := (hr r e).1; omega, (hr r e).2⟩), (hg.block _ (Array.getElem?_eq_some_iff.1 h2).1 (hne _ (by omega))).trans h2, (hg.block _ (Array.getElem?_eq_some_iff.1 h3).1 (hne _ (by omega))).trans h3⟩
/-- The record turns. -/
theorem booked_turn {α : Type} {B : Nat} {r : Loop} {I I' : List α → World → Prop} {pre : List α} {W : World} (hI : OwnFrom B I) (h : Booked B r I pre W) (r' : Loop) (hw : ∀ W, I pre W → I' pre W) :
    Booked B r' I' pre (W.putObj (B + 1) (.loop r')) :=
  ⟨hw _ (hI.putObj _ h.1 (by omega) h.2.1 rfl), World.putObj_heap_same (Array.getElem?_eq_some_iff.1 h.2.1).1, (World.putObj_heap_other (by omega)).trans h.2.2⟩
/-- A body keeps the book. -/
theorem booked_kept {α : Type} {B : Nat} {r : Loop} {I I' : List α → World → Prop} {pre pre' : List α} {W W' : World} (h : Booked B r I pre W) {Wr : TypeId → Prop} (hk : KT Wr B W W') (h' : I' pre' W') : Booked B r I' pre' W' :=
  ⟨h', hk.others (by omega) h.2.1 rfl, hk.others (Nat.le_refl _) h.2.2 rfl⟩

/-- A body's end, told to the round. -/
theorem round_told {P : Program} {α : Type} {Wr : TypeId → Prop} {B : Nat} {fn : FuncId} {tmps : Array Value} {ps : Array Tmp} {assign body : Code} {I : List α → World → Prop} {Ix : Code → List α → World → Prop} {pre pre' : List α} {W : World}
    (hI : OwnFrom B I) (hIx : ∀ c, OwnFrom B (Ix c)) (h : Booked B (recOf fn tmps ps assign body B .ready none) I pre W) :
    ∀ (e : Exit) (a : Act) (W3 : World), ownPostT Wr B I Ix pre' (W.putObj (B + 1) (.loop (recOf fn tmps ps assign body B .busy none))) e a W3 →
      roundPost P (B + 1) (RndPost Wr (B + 2) (Booked B (recOf fn tmps ps assign body B .ready none) I) (fun pre W => ∃ c, Booked B (recOf fn tmps ps assign body B .done (some c)) (Ix c) pre W) pre' W) e a W3 := by
  have hb := booked_turn (I' := I) hI h (recOf fn tmps ps assign body B .busy none) (fun _ h => h)
  have k1 : KT Wr (B + 2) W (W.putObj (B + 1) (.loop (recOf fn tmps ps assign body B .busy none))) := KT.put Wr W _ (by omega)
  intro e a W3 hp
  cases e with
  | normal =>
    obtain ⟨hk, hi⟩ := hp
    have h3 : Booked B (recOf fn tmps ps assign body B .busy none) I pre' W3 := booked_kept hb hk hi
    exact ⟨_, _, run_endRound none h3.2.1, (k1.trans (hk.more (by omega))).trans (KT.put Wr W3 _ (by omega)), .inl ⟨rfl, booked_turn hI h3 _ (fun _ h => h)⟩⟩
  | ret =>
    obtain ⟨hk, hi⟩ := hp
    have h3 : Booked B (recOf fn tmps ps assign body B .busy none) (Ix .ret) pre' W3 := booked_kept hb hk hi
    exact ⟨_, _, run_endRound (some .ret) h3.2.1, (k1.trans (hk.more (by omega))).trans (KT.put Wr W3 _ (by omega)), .inr ⟨rfl, .ret, booked_turn (hIx _) h3 _ (fun _ h => h)⟩⟩
  | exit id =>
    obtain ⟨hk, hi⟩ := hp
    have h3 : Booked B (recOf fn tmps ps assign body B .busy none) (Ix (.exit id)) pre' W3 := booked_kept hb hk hi
    exact ⟨_, _, run_endRound (some (.exit id)) h3.2.1, (k1.trans (hk.more (by omega))).trans (KT.put Wr W3 _ (by omega)), .inr ⟨rfl, .exit id, booked_turn (hIx _) h3 _ (fun _ h => h)⟩⟩
  | goto t =>
    obtain ⟨hk, hi⟩ := hp
    have h3 : Booked B (recOf fn tmps ps assign body B .busy none) (Ix (.goto t)) pre' W3 := booked_kept hb hk hi
    exact ⟨_, _, run_endRound (some (.goto t)) h3.2.1, (k1.trans (hk.more (by omega))).trans (KT.put Wr W3 _ (by omega)), .inr ⟨rfl, .goto t, booked_turn (hIx _) h3 _ (fun _ h => h)⟩⟩
  | panic ch => exact hp.elim
  | outgrown => exact hp.elim

/-- Who ranges: an invariant of its own on what has come. -/
theorem range_law {n : Nat} {P : Program} {α : Type} {g : Operand} {ps : Array Tmp} {assign body : Code} {Q : Exit → Act → World → Prop} {a : Act} {w : World}
    {gf : Nat} {lb : Array Value} (hg : a.eval g = .func (.func gf) #[] lb) (eg : ∀ args w, (callFunc gf args).run P w = .ok (.enter gf args) w)
    {encs : α → Array Value} {Ok : World → Prop} {Wr : TypeId → Prop} {xs : List α} (hseq : ∀ W', Below w.heap.size w W' → Seqs P gf lb encs Ok Wr xs W') (hps : ∀ x, (encs x).size = ps.size)
    (I : List α → World → Prop) (Ix : Code → List α → World → Prop) (hI : OwnFrom w.heap.size I) (hIx : ∀ c, OwnFrom w.heap.size (Ix c)) (h0 : I [] w) (hOk : ∀ pre W, I pre W → Ok W) (a₁ : α → Act)
    (hassign : ∀ (l : Nat) (x : α) (W : World) (K : Act → World → Prop), K (a₁ x) W →
      assign.wpIn (Fence.wide.inRound l) (n - 1 - 1) P (Exit.then K (fun _ _ _ => False)) { tmps := (ps.zip (encs x)).foldl (fun t (p, v) => t.setIfInBounds p v) a.tmps, defers := [] } W)
    (hbody : ∀ (l : Nat) (pre : List α) (x : α) (W : World), w.heap.size < l → I pre W → (∃ t, xs = pre ++ x :: t) → body.wpIn (Fence.wide.inRound l) (n - 1 - 1) P (ownPostT Wr w.heap.size I Ix (pre ++ [x]) W) (a₁ x) W)
    (hdone : ∀ (D : Nat) (W : World), w.heap.size ≤ D → I xs W → W.heap[D]? = some (.deferred (some [])) → Q .normal { a with defers := { target := .collected D, args := #[] } :: a.defers } W)
    (hstop : ∀ (D : Nat) (c : Code) (pre : List α) (W : World), w.heap.size ≤ D → (∃ t, xs = pre ++ t) → Ix c pre W → W.heap[D]? = some (.deferred (some [])) → c.wpIn Fence.wide n P Q { a with defers := { target := .collected D, args := #[] } :: a.defers } W) :
    (Code.rangeFunc g ps assign body).wpIn Fence.wide n P Q a w := by
  refine wpIn_rangeFunc ?_
  intro fn hfn
  obtain ⟨B, hB⟩ : ∃ B, B = w.heap.size := ⟨_, rfl⟩
  obtain ⟨W1, hW1⟩ : ∃ W1, (w.alloc (.deferred (some []))).alloc (.loop (recOf fn a.tmps ps assign body B .ready none)) = W1 := ⟨_, rfl⟩
  have hs1 : W1.heap.size = B + 2 := by rw [← hW1, hB]; simp
  have hL1 : W1.heap[B + 1]? = some (.loop (recOf fn a.tmps ps assign body B .ready none)) := by
    have := World.alloc_heap_new (w.alloc (.deferred (some []))) (.loop (recOf fn a.tmps ps assign body B .ready none))
    rw [World.size_alloc, ← hB] at this; rw [← hW1]; exact this
  have hD1 : W1.heap[B]? = some (.deferred (some [])) := by
    rw [← hW1, hB]; exact (Below.heap_alloc _ _ _ (by simp)).trans (World.alloc_heap_new w _)
  have hI1 : I [] W1 := by rw [← hW1]; exact hI.alloc _ (hI.alloc _ h0)
  have hb1 : Below w.heap.size w W1 := by rw [← hW1]; exact ((Below.refl _ w).alloc (Nat.le_refl _) _).alloc (by simp) _
  have hsq := hseq W1 hb1
  have he : (Instr.enterLoop fn a.tmps ps assign body none).run P w = .ok (B + 1, [{ target := .collected B, args := #[] }]) W1 := by
    rw [← hW1, hB]; exact run_enterLoop_outer _ _ _ _ _
  rw [← hB] at hI hIx hbody hdone hstop
  clear hseq hb1 h0 hW1 hB
  refine ⟨B + 1, [{ target := .collected B, args := #[] }], W1, { target := .fn (.func gf) lb, args := #[.func (.yield (B + 1)) #[] #[]] }, W1, gf, #[.func (.yield (B + 1)) #[] #[]] ++ lb, W1, he, ?_, ?_, ?_, (fun h => by cases h), ?_⟩
  · simp only [resolve, hg]
    simp [go_sem]
  · intro _ _; trivial
  · simp [invoke, go_sem, eg]
  · refine (callsIn_wide.2 (hsq (B + 1) (Booked B (recOf fn a.tmps ps assign body B .ready none) I) (fun pre W => ∃ c, Booked B (recOf fn a.tmps ps assign body B .done (some c)) (Ix c) pre W)
      (by rw [hs1]; exact booked_own hI)
      (by rw [hs1]; exact fun s A C row hs hg hr => by obtain ⟨c, hc⟩ := hs; exact ⟨c, booked_own (hIx c) s A C row hc hg hr⟩)
      (fun pre W h => hOk pre W h.1) ?_ ⟨hI1, hL1, hD1⟩)).mono ?_
    · intro pre x W hi hx m
      rw [hs1]
      have key := roundIn_of_wpIn (n := n - 1 - 1) (R := RndPost Wr (B + 2) (Booked B (recOf fn a.tmps ps assign body B .ready none) I) (fun pre W => ∃ c, Booked B (recOf fn a.tmps ps assign body B .done (some c)) (Ix c) pre W) (pre ++ [x]) W) hfn
        (hassign (B + 1) x W _ ⟨_, run_beginRound hi.2.1 rfl, wpIn_mono (hbody (B + 1) pre x _ (by omega) (hI.putObj _ hi.1 (by omega) hi.2.1 rfl) hx) (round_told (P := P) hI hIx hi)⟩)
      exact ⟨fn, _, assign, body, run_yield (P := P) (args := encs x) hi.2.1 (hps x), key.1, fun c cs _ => key.2 c cs (room_wide _)⟩
    · rintro e W2 ⟨⟨v, rfl⟩, (hi | ⟨pre, hx, c, hi⟩)⟩
      · exact ⟨none, _, run_endLoop (P := P) hi.2.1 (by simp), hdone _ _ (Nat.le_refl _) (hI.putObj _ hi.1 (by omega) hi.2.1 rfl) ((World.putObj_heap_other (by omega)).trans hi.2.2)⟩
      · exact ⟨some c, _, run_endLoop (P := P) hi.2.1 (by simp), hstop _ c pre _ (Nat.le_refl _) hx ((hIx c).putObj _ hi.1 (by omega) hi.2.1 rfl) ((World.putObj_heap_other (by omega)).trans hi.2.2)⟩
end Go.Proofs.YtidlhajibjnkeaaDoor
namespace Go.Proofs.YtidlhajibjnkeaaDoor
open Go.RowKit

/-- A slice that reads as a list of values, one cell each. -/
def RdV (w : World) (v : Value) (l : List Value) : Prop :=
  ∃ (a : Option Addr) (cap : Nat), v = .slice a l.length cap ∧ l.length ≤ 9223372036854775807 ∧ (l ≠ [] → ∃ b off, a = some ⟨b, off, none⟩ ∧ ∀ i (h : i < l.length), w.cell? ⟨b, off + i, none⟩ = some l[i])
theorem RdV.below {B : Nat} {w w' : World} {v : Value} {l : List Value} (h : RdV w v l) (hb : Below B w w') (hB : w.heap.size ≤ B) : RdV w' v l := by
  obtain ⟨a, cap, hv, h1, h4⟩ := h
  refine ⟨a, cap, hv, h1, fun hl => ?_⟩
  obtain ⟨b, off, ha, hc⟩ := h4 hl
  refine ⟨b, off, ha, fun i hi => ?_⟩
  have := hc i hi
  rw [hb.cell (p := ⟨b, off + i, none⟩) (by have := World.block_lt_of_cell? w _ this; exact Nat.lt_of_lt_of_le this hB)]
  exact this
theorem RdV.drewN {w : World} {v : Value} {l : List Value} (h : RdV w v l) (q : Nat) : RdV (w.drewN q) v l := by
  obtain ⟨a, cap, hv, h1, h4⟩ := h
  exact ⟨a, cap, hv, h1, fun hl => by obtain ⟨b, off, ha, hc⟩ := h4 hl; exact ⟨b, off, ha, fun i hi => hc i hi⟩⟩
theorem RdV.of_row {w : World} {base : Nat} {e : TypeId} {v : Value} {l : List Value} (h : w.ownsRow base e 1 v l.length l) : RdV w v l := by
  rcases h.2 with ⟨rfl, hn⟩ | ⟨g, cap, cur, rfl, _, hg, h1, h2, h3, h4⟩
  · obtain rfl := List.eq_nil_of_length_eq_zero hn
    exact ⟨none, 0, rfl, by simp, fun h => absurd rfl h⟩
  · refine ⟨_, cap, rfl, by simp only [maxLen] at h2; omega, fun _ => ⟨g, 0, rfl, fun i hi => ?_⟩⟩
    rw [Nat.zero_add, cell_of_row w g i cur e (0, 0) hg]
    obtain ⟨y, hy⟩ : ∃ y, y = l[i] := ⟨_, rfl⟩
    have e : l[i]? = some y := by simp [hi, hy]
    rw [← hy]
    have e2 := congrArg (fun z => z[i]?) h4
    simp only [List.getElem?_take] at e2
    rw [if_pos (by omega), e] at e2
    simpa using e2
/-- A row of values built at once. -/
theorem RdV.lit {w : World} {b n : Nat} {T : TypeId} (l : List Value) (h : w.heap[b]? = some (.cells l.toArray T (0, 0))) (hn : n = l.length) (hl : l.length ≤ 9223372036854775807) : RdV w (.slice (some ⟨b, 0, none⟩) n n) l := by
  subst hn
  refine ⟨_, _, rfl, hl, fun _ => ⟨b, 0, rfl, fun i hi => ?_⟩⟩
  simp [World.cell?, h, hi]
end Go.Proofs.YtidlhajibjnkeaaDoor
namespace Go.Proofs.YtidlhajibjnkeaaDoor
open Go.RowKit

/-- A tree: keys and values as they lie, the height that each node tells. -/
inductive Tr where
  | nil : Tr
  | node : Tr → Value → Value → Nat → Tr → Tr
/-- The height told. -/
def ht : Tr → Nat
  | .nil => 0
  | .node _ _ _ n _ => n
/-- Each height told is right. -/
def WT : Tr → Prop
  | .nil => True
  | .node l _ _ n r => n = 1 + max (ht l) (ht r) ∧ WT l ∧ WT r
/-- The pairs by rising places. -/
def prs : Tr → List (Value × Value)
  | .nil => []
  | .node l k x _ r => prs l ++ (k, x) :: prs r
/-- How a tree lies. -/
def TP (w : World) : Option Addr → Tr → Prop
  | o, .nil => o = none
  | o, .node l k x n r => ∃ b T ol or, o = some ⟨b, 0, none⟩ ∧ w.heap[b]? = some (.cells #[k, x, .int .i64 (n : Int), .pointer ol, .pointer or] T (0, 0)) ∧ TP w ol l ∧ TP w or r
theorem TP.below {w w' : World} (hb : Below w.heap.size w w') : ∀ {o : Option Addr} {t : Tr}, TP w o t → TP w' o t
  | _, .nil, h => h
  | _, .node _ _ _ _ _, h => by
    obtain ⟨b, T, ol, or, rfl, hc, hl, hr⟩ := h
    exact ⟨b, T, ol, or, rfl, by rw [hb.block b (Array.getElem?_eq_some_iff.1 hc).1]; exact hc, TP.below hb hl, TP.below hb hr⟩
theorem TP.drewN {w : World} (n : Nat) : ∀ {o : Option Addr} {t : Tr}, TP w o t → TP (w.drewN n) o t
  | _, .nil, h => h
  | _, .node _ _ _ _ _, h => by
    obtain ⟨b, T, ol, or, rfl, hc, hl, hr⟩ := h
    exact ⟨b, T, ol, or, rfl, by simpa using hc, TP.drewN n hl, TP.drewN n hr⟩
/-- A node over two trees. -/
def tieT (k x : Value) (l r : Tr) : Tr := .node l k x (1 + max (ht l) (ht r)) r
theorem ht_tie (k x : Value) (l r : Tr) : ht (tieT k x l r) = 1 + max (ht l) (ht r) := rfl
/-- What tie, join tell. -/
def TiePost (t : Tr) (w : World) (e : Ending) (w' : World) : Prop := ∃ b, e = .returned (.pointer (some ⟨b, 0, none⟩)) ∧ TP w' (some ⟨b, 0, none⟩) t ∧ Below w.heap.size w w'
/-- The key and the value that a node holds. -/
def KV (w : World) (o : Option Addr) (k x : Value) : Prop := ∃ b T h pl pr, o = some ⟨b, 0, none⟩ ∧ w.heap[b]? = some (.cells #[k, x, h, pl, pr] T (0, 0))
theorem KV.below {w w' : World} {o : Option Addr} {k x : Value} (h : KV w o k x) (hb : Below w.heap.size w w') : KV w' o k x := by
  obtain ⟨b, T, hh, pl, pr, rfl, hc⟩ := h
  exact ⟨b, T, hh, pl, pr, rfl, by rw [hb.block b (Array.getElem?_eq_some_iff.1 hc).1]; exact hc⟩
theorem TP.kv {w : World} {o : Option Addr} {l r : Tr} {k x : Value} {n : Nat} (h : TP w o (.node l k x n r)) : KV w o k x := by
  obtain ⟨b, T, ol, or, rfl, hc, _, _⟩ := h
  exact ⟨b, T, _, _, _, rfl, hc⟩
end Go.Proofs.YtidlhajibjnkeaaDoor
namespace Go.Proofs.YtidlhajibjnkeaaDoor
open Go.RowKit

/-- Each height told is right; keys and values are of their kinds. -/
def WS (K V : Value → Prop) : Tr → Prop
  | .nil => True
  | .node l k x n r => n = 1 + max (ht l) (ht r) ∧ K k ∧ V x ∧ WS K V l ∧ WS K V r
theorem WS.tie {K V : Value → Prop} {l r : Tr} {k x : Value} (hl : WS K V l) (hr : WS K V r) (hk : K k) (hx : V x) : WS K V (tieT k x l r) := ⟨rfl, hk, hx, hl, hr⟩
theorem WS.pos {K V : Value → Prop} {t : Tr} (_h : WS K V t) (hp : 0 < ht t) : ∃ l k x n r, t = .node l k x n r := by
  cases t with
  | nil => simp [ht] at hp
  | node l k x n r => exact ⟨l, k, x, n, r, rfl⟩
/-- What join makes. -/
def joinT (k x : Value) (l r : Tr) : Tr :=
  if ht r + 1 < ht l then
    match l with
    | .node ll lk lx _ lr =>
      if ht lr ≤ ht ll then tieT lk lx ll (tieT k x lr r)
      else match lr with
        | .node ml mk mx _ mr => tieT mk mx (tieT lk lx ll ml) (tieT k x mr r)
        | .nil => tieT k x l r
    | .nil => tieT k x l r
  else if ht l + 1 < ht r then
    match r with
    | .node rl rk rx _ rr =>
      if ht rl ≤ ht rr then tieT rk rx (tieT k x l rl) rr
      else match rl with
        | .node ml mk mx _ mr => tieT mk mx (tieT k x l ml) (tieT rk rx mr rr)
        | .nil => tieT k x l r
    | .nil => tieT k x l r
  else tieT k x l r
theorem prs_tie (k x : Value) (l r : Tr) : prs (tieT k x l r) = prs l ++ (k, x) :: prs r := rfl
theorem prs_node (k x : Value) (l r : Tr) (n : Nat) : prs (.node l k x n r) = prs l ++ (k, x) :: prs r := rfl
theorem prs_join (k x : Value) (l r : Tr) : prs (joinT k x l r) = prs l ++ (k, x) :: prs r := by
  unfold joinT
  repeat' split
  all_goals simp only [prs_tie, prs_node, List.append_assoc, List.cons_append]
theorem WS.join {K V : Value → Prop} {l r : Tr} {k x : Value} (hl : WS K V l) (hr : WS K V r) (hk : K k) (hx : V x) : WS K V (joinT k x l r) ∧ ht (joinT k x l r) ≤ 1 + max (ht l) (ht r) := by
  unfold joinT
  split
  · next h1 =>
    split
    · next ll lk lx n lr =>
      obtain ⟨e, a1, a2, a3, a4⟩ := hl
      split
      · next h2 =>
        refine ⟨WS.tie a3 (WS.tie a4 hr hk hx) a1 a2, ?_⟩
        simp only [ht_tie]; simp only [ht] at h1 e ⊢; omega
      · next h2 =>
        split
        · next ml mk mx m mr =>
          obtain ⟨e', b1, b2, b3, b4⟩ := a4
          refine ⟨WS.tie (WS.tie a3 b3 a1 a2) (WS.tie b4 hr hk hx) b1 b2, ?_⟩
          simp only [ht_tie]; simp only [ht] at h1 h2 e e' ⊢; omega
        · simp [ht] at h2
    · simp [ht] at h1
  · split
    · next h0 h1 =>
      split
      · next rl rk rx n rr =>
        obtain ⟨e, a1, a2, a3, a4⟩ := hr
        split
        · next h2 =>
          refine ⟨WS.tie (WS.tie hl a3 hk hx) a4 a1 a2, ?_⟩
          simp only [ht_tie]; simp only [ht] at h1 e ⊢; omega
        · next h2 =>
          split
          · next ml mk mx m mr =>
            obtain ⟨e', b1, b2, b3, b4⟩ := a3
            refine ⟨WS.tie (WS.tie hl b3 hk hx) (WS.tie b4 a4 a1 a2) b1 b2, ?_⟩
            simp only [ht_tie]; simp only [ht] at h1 h2 e e' ⊢; omega
          · simp [ht] at h2
      · simp [ht] at h1
    · exact ⟨WS.tie hl hr hk hx, by rw [ht_tie]; exact Nat.le_refl _⟩
/-- Which key is less. -/
def lessV : Value → Value → Bool
  | .int _ a, .int _ b => decide (a < b)
  | .string a, .string b => Op.bytesLess a.data.toList b.data.toList
  | _, _ => false
/-- What Compare tells. -/
def cmpV (a b : Value) : Int := if lessV a b = true then -1 else if lessV b a = true then 1 else 0
/-- What put makes, and whether the key is new. -/
def putT (k x : Value) : Tr → Tr
  | .nil => .node .nil k x 1 .nil
  | .node l k' x' n r => if lessV k k' = true then joinT k' x' (putT k x l) r else if lessV k' k = true then joinT k' x' l (putT k x r) else .node l k x n r
def newT (k : Value) : Tr → Bool
  | .nil => true
  | .node l k' _ _ r => if lessV k k' = true then newT k l else if lessV k' k = true then newT k r else false
theorem WS.put {K V : Value → Prop} {k x : Value} (hk : K k) (hx : V x) : ∀ {t : Tr}, WS K V t → WS K V (putT k x t) ∧ ht (putT k x t) ≤ 1 + ht t
  | .nil, _ => ⟨⟨by simp [ht], hk, hx, trivial, trivial⟩, by simp [putT, ht]⟩
  | .node l k' x' n r, h => by
    obtain ⟨e, a1, a2, a3, a4⟩ := h
    unfold putT
    split
    · obtain ⟨b1, b2⟩ := WS.put hk hx a3
      obtain ⟨c1, c2⟩ := WS.join b1 a4 a1 a2
      refine ⟨c1, ?_⟩
      show _ ≤ 1 + n; omega
    · split
      · obtain ⟨b1, b2⟩ := WS.put hk hx a4
        obtain ⟨c1, c2⟩ := WS.join a3 b1 a1 a2
        refine ⟨c1, ?_⟩
        show _ ≤ 1 + n; omega
      · exact ⟨⟨e, hk, hx, a3, a4⟩, by show n ≤ 1 + n; omega⟩
/-- A pair put among pairs that rise. -/
def insL (k x : Value) : List (Value × Value) → List (Value × Value)
  | [] => [(k, x)]
  | (k', x') :: t => if lessV k k' = true then (k, x) :: (k', x') :: t else if lessV k' k = true then (k', x') :: insL k x t else (k, x) :: t
/-- The value of a key among pairs. -/
def getL (k : Value) : List (Value × Value) → Option Value
  | [] => none
  | (k', x') :: t => if lessV k k' = true then none else if lessV k' k = true then getL k t else some x'
def getT (k : Value) : Tr → Option Value
  | .nil => none
  | .node l k' x' _ r => if lessV k k' = true then getT k l else if lessV k' k = true then getT k r else some x'
/-- Pairs that rise, and what comes behind a key. -/
def Ris : List (Value × Value) → Prop
  | [] => True
  | (k, _) :: t => (∀ q ∈ t, lessV k q.1 = true) ∧ Ris t
theorem ris_app (a b : List (Value × Value)) : Ris (a ++ b) ↔ Ris a ∧ Ris b ∧ ∀ p ∈ a, ∀ q ∈ b, lessV p.1 q.1 = true := by
  induction a with
  | nil => simp [Ris]
  | cons p t ih =>
    obtain ⟨k, x⟩ := p
    simp only [List.cons_append, Ris, ih, List.mem_append, List.mem_cons]
    constructor
    · rintro ⟨h1, h2, h3, h4⟩
      refine ⟨⟨fun q hq => h1 q (.inl hq), h2⟩, h3, fun p hp q hq => ?_⟩
      rcases hp with rfl | hp
      · exact h1 q (.inr hq)
      · exact h4 p hp q hq
    · rintro ⟨⟨h1, h2⟩, h3, h4⟩
      exact ⟨fun q hq => hq.elim (h1 q) (h4 (k, x) (.inl rfl) q), h2, h3, fun p hp => h4 p (.inr hp)⟩
theorem insL_left (k x k' x' : Value) (b : List (Value × Value)) (h : lessV k k' = true) : ∀ a, insL k x (a ++ (k', x') :: b) = insL k x a ++ (k', x') :: b
  | [] => by simp [insL, h]
  | (c, y) :: a => by
    simp only [List.cons_append, insL, insL_left k x k' x' b h a]
    split
    · rfl
    · split <;> rfl
theorem insL_right (k x : Value) (b : List (Value × Value)) : ∀ a : List (Value × Value), (∀ p ∈ a, lessV k p.1 = false ∧ lessV p.1 k = true) → insL k x (a ++ b) = a ++ insL k x b
  | [], _ => rfl
  | (c, y) :: a, h => by
    have h0 := h (c, y) (List.mem_cons_self ..)
    simp only [List.cons_append, insL, h0.1, h0.2, Bool.false_eq_true, if_false, if_true]
    rw [insL_right k x b a (fun p hp => h p (List.mem_cons_of_mem _ hp))]
/-- An order of keys of one kind. -/
structure Ord (K : Value → Prop) : Prop where
  irr : ∀ a, K a → lessV a a = false
  tr : ∀ a b c, K a → K b → K c → lessV a b = true → lessV b c = true → lessV a c = true
  tot : ∀ a b, K a → K b → lessV a b = false → lessV b a = false → a = b
theorem Ord.asym {K : Value → Prop} (O : Ord K) {a b : Value} (ha : K a) (hb : K b) (h : lessV a b = true) : lessV b a = false := by
  cases e : lessV b a with
  | false => rfl
  | true => have := O.tr a b a ha hb ha h e; rw [O.irr a ha] at this; cases this
theorem ws_keys {K V : Value → Prop} : ∀ {t : Tr}, WS K V t → ∀ p ∈ prs t, K p.1 ∧ V p.2
  | .nil, _ => by simp [prs]
  | .node l k x n r, h => by
    obtain ⟨_, a1, a2, a3, a4⟩ := h
    intro p hp
    rw [prs_node, List.mem_append, List.mem_cons] at hp
    rcases hp with hp | rfl | hp
    · exact ws_keys a3 p hp
    · exact ⟨a1, a2⟩
    · exact ws_keys a4 p hp
theorem prs_put {K V : Value → Prop} (O : Ord K) {k x : Value} (hk : K k) : ∀ {t : Tr}, WS K V t → Ris (prs t) → prs (putT k x t) = insL k x (prs t)
  | .nil, _, _ => rfl
  | .node l k' x' n r, h, hr => by
    obtain ⟨_, a1, a2, a3, a4⟩ := h
    rw [prs_node, ris_app] at hr
    obtain ⟨r1, r2, r3⟩ := hr
    have hlk : ∀ p ∈ prs l, K p.1 ∧ lessV p.1 k' = true := fun p hp => ⟨(ws_keys a3 p hp).1, r3 p hp (k', x') (List.mem_cons_self ..)⟩
    unfold putT
    rw [prs_node]
    split
    · next g => rw [prs_join, prs_put O hk a3 r1, insL_left k x k' x' _ g]
    · next g =>
      have g' : lessV k k' = false := by simpa using g
      split
      · next g2 =>
        rw [prs_join, prs_put O hk a4 r2.2]
        rw [insL_right k x _ (prs l) (fun p hp => by
          have q1 := O.tr p.1 k' k (hlk p hp).1 a1 hk (hlk p hp).2 g2
          exact ⟨O.asym (hlk p hp).1 hk q1, q1⟩)]
        simp only [insL, g', g2, Bool.false_eq_true, if_false, if_true]
      · next g2 =>
        have g2' : lessV k' k = false := by simpa using g2
        have e := O.tot k k' hk a1 g' g2'
        subst e
        rw [prs_node, insL_right k x _ (prs l) (fun p hp => ⟨O.asym (hlk p hp).1 hk (hlk p hp).2, (hlk p hp).2⟩)]
        simp only [insL, g', Bool.false_eq_true, if_false]
theorem ris_ins {K : Value → Prop} (O : Ord K) {k x : Value} (hk : K k) : ∀ {l : List (Value × Value)}, (∀ p ∈ l, K p.1) → Ris l → Ris (insL k x l) ∧ ∀ p ∈ insL k x l, p = (k, x) ∨ p ∈ l
  | [], _, _ => by simp [insL, Ris]
  | (k', x') :: t, hK, hr => by
    obtain ⟨h1, h2⟩ := hr
    have hk' := hK (k', x') (List.mem_cons_self ..)
    have hKt : ∀ p ∈ t, K p.1 := fun p hp => hK p (List.mem_cons_of_mem _ hp)
    obtain ⟨i1, i2⟩ := ris_ins (x := x) O hk hKt h2
    unfold insL
    split
    · next g =>
      refine ⟨⟨?_, h1, h2⟩, by simp⟩
      intro q hq
      rcases List.mem_cons.1 hq with rfl | hq
      · exact g
      · exact O.tr _ _ _ hk hk' (hKt q hq) g (h1 q hq)
    · split
      · next g2 =>
        refine ⟨⟨?_, i1⟩, ?_⟩
        · intro q hq
          rcases i2 q hq with rfl | hq
          · exact g2
          · exact h1 q hq
        · intro p hp
          rcases List.mem_cons.1 hp with rfl | hp
          · simp
          · rcases i2 p hp with h | h
            · exact .inl h
            · exact .inr (List.mem_cons_of_mem _ h)
      · next g g2 =>
        have e := O.tot k k' hk hk' (by simpa using g) (by simpa using g2)
        subst e
        refine ⟨⟨h1, h2⟩, ?_⟩
        intro p hp
        rcases List.mem_cons.1 hp with rfl | hp
        · simp
        · exact .inr (List.mem_cons_of_mem _ hp)
/-- What put tells. -/
def PutPost (t : Tr) (z : Bool) (w : World) (e : Ending) (w' : World) : Prop := ∃ b, e = .returned (.tuple #[.pointer (some ⟨b, 0, none⟩), .bool z]) ∧ TP w' (some ⟨b, 0, none⟩) t ∧ Below w.heap.size w w'
end Go.Proofs.YtidlhajibjnkeaaDoor
namespace Go.Proofs.YtidlhajibjnkeaaDoor
open Go.RowKit

/-- What is appended: a slice, nil or not. -/
def SrcV (w : World) (v : Value) (l : List Value) : Prop :=
  ∃ (a : Option Addr) (cap : Nat), v = .slice a l.length cap ∧ (a = none → cap = 0) ∧ (l ≠ [] → ∃ b off, a = some ⟨b, off, none⟩ ∧ ∀ i (h : i < l.length), w.cell? ⟨b, off + i, none⟩ = some l[i])
/-- An append at a step of a region that draws its order. -/
theorem step_appendV {P : Program} {w : World} {ops : Array Oper} {o : Oper} {a : Act} {K : Act → World → Prop} {Q : Exit → Act → World → Prop} {N : Prop} (hg : o.guard = none) (s x : Operand) (t : TypeId)
    (hop : o.op = Op.call { callee := Callee.builtin Builtin.append, args := #[s, x], argTypes := #[t, t] }) {base : Nat} {e : TypeId} {i : TypeInfo} {z : Value} {bytes : Nat} (h1 : P.underlying t = some (.slice e)) (h2 : P.info? e = some i) (h3 : i.zero = some z) (h4 : i.size = 1) (h5 : i.bytes = bytes)
    (h6 : z.cells.size = 1) {v : Value} {k : Nat} {xs news : List Value} (hs : a.eval s = v) (hown : w.ownsRow base e 1 v k xs) (hy : SrcV w (a.eval x) news) (hu : ∀ u ∈ news, u.oneCell' = true)
    (b1 : k + news.length ≤ maxLen) (b2 : (k + news.length) * bytes ≤ 140737488355328) (b3 : base ≤ w.heap.size)
    (hK : ∀ v' w', w'.ownsRow base e 1 v' (k + news.length) (xs ++ news) → w.grownBy w' v.ownBlock → K (a.put o.dst v') w') :
    if Region.wanted o (yielded ops a.tmps) = true then Oper.wp P o a w K Q else N := by
  have hw : Region.wanted o (yielded ops a.tmps) = true := by simp [Region.wanted, hg]
  rw [if_pos hw]
  obtain ⟨ad, cap, hx, hc1, hc2⟩ := hy
  cases ad with
  | none =>
    obtain rfl := hc1 rfl
    have hm : news = [] := by
      cases news with
      | nil => rfl
      | cons y t => obtain ⟨b, off, h, _⟩ := hc2 (by simp); cases h
    subst hm
    have hrun := run_append_owned_none (P := P) (w := w) base t o.type e i 1 h1 h2 v k xs hown
    unfold Oper.wp
    simp only [List.length_nil] at hx
    simp [execOp, hop, resolve, invoke, builtin, hs, hx, hrun, Result.andThen]
    exact hK v w (by rw [List.append_nil]; exact hown) ⟨rfl, rfl, rfl, Nat.le_refl _, fun _ _ _ => rfl⟩
  | some ad =>
    refine wp_append_own w s x t hop base e i z 1 bytes h1 h2 h3 h4 h5 h6 (by decide) v k xs hs hown ad news.length cap news hx (by simp) ?_ hu b1 b2 b3 ?_
    · intro j u hj
      have hjm : j < news.length := (List.getElem?_eq_some_iff.1 hj).1
      obtain ⟨b, off, hab, hcell⟩ := hc2 (by intro e; subst e; simp at hjm)
      simp only [Option.some.injEq] at hab
      subst hab
      rw [Addr.add_lit, hcell j hjm]
      simpa [hjm] using hj
    · intro v' w' h1 h2 _
      exact hK v' w' h1 h2
/-- The first cells of a row of the call's own. -/
theorem row_take {W : World} {base g n cap : Nat} {e : TypeId} {xs : List Value} (h : W.ownsRow base e 1 (.slice (some ⟨g, 0, none⟩) n cap) n xs) {k : Nat} (hk : k ≤ n) : W.ownsRow base e 1 (.slice (some ⟨g, 0, none⟩) k cap) k (xs.take k) := by
  have hl := h.1
  rcases h.2 with ⟨h', _⟩ | ⟨g', cap', cur, h', hb, hg, h1, h2, h3, h4⟩
  · simp at h'
  · simp only [Value.slice.injEq, Option.some.injEq, Addr.mk.injEq, and_true, true_and] at h'
    obtain ⟨rfl, rfl⟩ := h'
    refine ⟨by simp; omega, .inr ⟨g, cap, cur, rfl, hb, hg, by omega, h2, h3, ?_⟩⟩
    rw [← h4, List.take_take]
    congr 1
    simp
    omega
/-- Its cells. -/
theorem row_cells {W : World} {base g n cap : Nat} {e : TypeId} {xs : List Value} (h : W.ownsRow base e 1 (.slice (some ⟨g, 0, none⟩) n cap) n xs) : n ≤ cap ∧ ∀ i (hi : i < xs.length), W.cell? ⟨g, i, none⟩ = some xs[i] := by
  have hl := h.1
  rcases h.2 with ⟨h', _⟩ | ⟨g', cap', cur, h', hb, hg, h1, h2, h3, h4⟩
  · simp at h'
  · simp only [Value.slice.injEq, Option.some.injEq, Addr.mk.injEq, and_true, true_and] at h'
    obtain ⟨rfl, rfl⟩ := h'
    refine ⟨h1, fun i hi => ?_⟩
    rw [cell_of_row W g i cur e (0, 0) hg]
    obtain ⟨y, hy⟩ : ∃ y, y = xs[i] := ⟨_, rfl⟩
    have e1 : xs[i]? = some y := by simp [hi, hy]
    rw [← hy]
    have e2 := congrArg (fun z => z[i]?) h4
    simp only [List.getElem?_take] at e2
    rw [if_pos (by omega), e1] at e2
    simpa using e2
/-- A text laid among texts that rise. -/
def insU (x : List UInt8) : List (List UInt8) → List (List UInt8)
  | [] => [x]
  | y :: t => if Op.bytesLess x y = true then x :: y :: t else if Op.bytesLess y x = true then y :: insU x t else y :: t
/-- They rise. -/
def RisU : List (List UInt8) → Prop
  | [] => True
  | y :: t => (∀ z ∈ t, Op.bytesLess y z = true) ∧ RisU t
theorem insU_mem (x : List UInt8) : ∀ (l : List (List UInt8)), ∀ z ∈ insU x l, z = x ∨ z ∈ l
  | [], z, h => by simpa [insU] using h
  | y :: t, z, h => by
    unfold insU at h
    split at h
    · simpa using h
    · split at h
      · rcases List.mem_cons.1 h with rfl | h
        · exact .inr (by simp)
        · rcases insU_mem x t z h with h | h
          · exact .inl h
          · exact .inr (List.mem_cons_of_mem _ h)
      · exact .inr h
theorem insU_ris (x : List UInt8) : ∀ {l : List (List UInt8)}, RisU l → RisU (insU x l)
  | [], _ => by simp [insU, RisU]
  | y :: t, h => by
    obtain ⟨h1, h2⟩ := h
    unfold insU
    split
    · next g =>
      refine ⟨fun z hz => ?_, h1, h2⟩
      rcases List.mem_cons.1 hz with rfl | hz
      · exact g
      · exact bl_tr _ _ _ g (h1 z hz)
    · split
      · next g =>
        refine ⟨fun z hz => ?_, insU_ris x h2⟩
        rcases insU_mem x t z hz with rfl | hz
        · exact g
        · exact h1 z hz
      · exact ⟨h1, h2⟩
theorem insU_len (x : List UInt8) : ∀ (l : List (List UInt8)), (insU x l).length ≤ l.length + 1
  | [] => by simp [insU]
  | y :: t => by
    unfold insU
    have := insU_len x t
    split
    · simp
    · split
      · simp; omega
      · simp
/-- Where it is laid: from k on none is less, the one ahead of k is. -/
theorem insU_at (x : List UInt8) : ∀ {l : List (List UInt8)} {k : Nat}, RisU l → k ≤ l.length → (∀ j (h : j < l.length), k ≤ j → Op.bytesLess l[j] x = false) → (∀ h : k - 1 < l.length, 0 < k → Op.bytesLess l[k - 1] x = true) →
    insU x l = if l[k]? = some x then l else l.take k ++ x :: l.drop k
  | [], k, _, hk, _, _ => by
    obtain rfl : k = 0 := by simpa using hk
    simp [insU]
  | y :: t, 0, h, _, h1, _ => by
    have h0 := h1 0 (by simp) (Nat.le_refl _)
    simp only [List.getElem_cons_zero] at h0
    unfold insU
    rw [h0]
    by_cases e : Op.bytesLess x y = true
    · rw [if_pos e]
      have : y ≠ x := by rintro rfl; rw [bl_irr] at e; cases e
      simp [this]
    · rw [if_neg e]
      have : x = y := bl_tot x y (by simpa using e) h0
      subst this
      simp
  | y :: t, k + 1, h, hk, h1, h2 => by
    obtain ⟨r1, r2⟩ := h
    have hlt : Op.bytesLess y x = true := by
      rcases Nat.eq_zero_or_pos k with rfl | hk0
      · simpa using h2 (by simp) (by omega)
      · have hb : k < (y :: t).length := by simp at hk ⊢; omega
        have h3 := h2 (by simpa using hb) (by omega)
        have e : (y :: t)[k + 1 - 1]'(by simpa using hb) = t[k - 1]'(by simp at hb; omega) := by
          have : k + 1 - 1 = (k - 1) + 1 := by omega
          simp only [this, List.getElem_cons_succ]
        rw [e] at h3
        exact bl_tr _ _ _ (r1 _ (List.getElem_mem _)) h3
    have hno : ¬ Op.bytesLess x y = true := fun g => by have := bl_tr _ _ _ g hlt; rw [bl_irr] at this; cases this
    unfold insU
    rw [if_neg hno, if_pos hlt]
    rw [insU_at x (l := t) (k := k) r2 (by simpa using hk) (fun j hj hkj => h1 (j + 1) (by simpa using hj) (by omega)) (fun hb hk0 => by
      have h3 := h2 (by simp; omega) (by omega)
      have : k + 1 - 1 = (k - 1) + 1 := by omega
      simp only [this, List.getElem_cons_succ] at h3
      exact h3)]
    simp only [List.getElem?_cons_succ, List.take_succ_cons, List.drop_succ_cons]
    split <;> simp
end Go.Proofs.YtidlhajibjnkeaaDoor
namespace Go.Proofs.YtidlhajibjnkeaaDoor
open Go.RowKit

theorem infoU : (Tryd.prog.info? 9).map (fun i => (i.zero, i.size, i.bytes)) = some (some (str []), 1, 16) := by kernel_rfl
/-- All, one behind the other. -/
def uniqF (l : List (List UInt8)) : List (List UInt8) := l.foldl (fun o x => insU x o) []
theorem uniqF_snoc (l : List (List UInt8)) (x : List UInt8) : uniqF (l ++ [x]) = insU x (uniqF l) := by simp [uniqF]
/-- What Unique keeps: a row of its own that reads as what has come, in order. -/
structure UInv (w : World) (W : World) (vo : Value) (ol : List (List UInt8)) : Prop where
  row : W.ownsRow w.heap.size 9 1 vo ol.length (ol.map str)
  bel : Below w.heap.size w W
  ris : RisU ol
theorem UInv.drewN {w W : World} {vo : Value} {ol : List (List UInt8)} (h : UInv w W vo ol) (n : Nat) : UInv w (W.drewN n) vo ol := ⟨h.row, Below.drewsN h.bel n, h.ris⟩
/-- The new text in a row of its own. -/
theorem ins_row {w W0 : World} (hb : w.heap.size ≤ W0.heap.size) (x : List UInt8) : ((W0.alloc (.cells #[str x] 9)).drew).ownsRow w.heap.size 9 1 (.slice (some ⟨W0.heap.size, 0, none⟩) 1 1) 1 [str x] :=
  World.ownsRow_lit (e := 9) (size := 1) W0 #[str x] 1 hb (by decide) rfl
/-- What stands behind, as what is appended. -/
theorem ins_src {w W0 : World} {g cap p : Nat} {ol : List (List UInt8)} (h : UInv w W0 (.slice (some ⟨g, 0, none⟩) ol.length cap) ol) (x : List UInt8) (hp : p < ol.length) :
    SrcV ((W0.alloc (.cells #[str x] 9)).drew) (.slice (some ⟨g, p, none⟩) (ol.length - p) (cap - p)) ((ol.drop p).map str) := by
  have hr : W0.ownsRow w.heap.size 9 1 (.slice (some ⟨g, 0, none⟩) ol.length cap) ol.length (ol.map str) := h.row
  have hc := (row_cells hr).2
  refine ⟨_, cap - p, by simp, fun e => (by cases e), fun _ => ⟨g, p, rfl, fun i hi => ?_⟩⟩
  have hi' : p + i < ol.length := by simp at hi; omega
  have c := hc (p + i) (by simpa using hi')
  have := (below_alloc W0 (.cells #[str x] 9)).cell (p := ⟨g, p + i, none⟩) (World.block_lt_of_cell? W0 _ c)
  show (W0.alloc (.cells #[str x] 9)).cell? ⟨g, p + i, none⟩ = _
  rw [this, c]
  simp
theorem bnd (k : Nat) (xs : List Value) (hk : k ≤ 2000000) (hx : xs.length ≤ 3000000) : k + xs.length ≤ maxLen ∧ (k + xs.length) * 16 ≤ 140737488355328 := by
  refine ⟨?_, by omega⟩
  unfold maxLen
  omega
theorem src_eq {W : World} {v v' : Value} {l : List Value} (h : SrcV W v l) (e : v' = v) : SrcV W v' l := by rw [e]; exact h
theorem src_end {W : World} (a : Addr) (c : Nat) : SrcV W (.slice (some a) 0 c) [] := ⟨_, c, rfl, fun e => (by cases e), fun h => absurd rfl h⟩
theorem src_nil {W : World} : SrcV W (.slice none 0 0) [] := ⟨none, 0, rfl, fun _ => rfl, fun h => absurd rfl h⟩
/-- A row of the call's own as what is appended. -/
theorem src_row {W : World} {base k : Nat} {v : Value} {xs : List Value} (h : W.ownsRow base 9 1 v k xs) : SrcV W v xs := by
  have hk : xs.length = k := by simpa using h.1
  rcases h.2 with ⟨rfl, h0⟩ | ⟨g, cap, cur, rfl, _⟩
  · obtain rfl : xs = [] := List.eq_nil_of_length_eq_zero (by omega)
    exact src_nil
  · exact ⟨_, cap, by rw [hk], fun e => (by cases e), fun _ => ⟨g, 0, rfl, fun i hi => by rw [Nat.zero_add]; exact (row_cells h).2 i hi⟩⟩
/-- The row that stood, behind the first append. -/
theorem ins_keep {w W0 w3 : World} {vo : Value} {ol : List (List UInt8)} {x : List UInt8} (h : UInv w W0 vo ol) (hg : ((W0.alloc (.cells #[str x] 9)).drew).grownBy w3 (Value.slice (some ⟨W0.heap.size, 0, none⟩) 1 1).ownBlock) :
    UInv w w3 vo ol := by
  have hl := h.row.lt
  refine ⟨(show ((W0.alloc (.cells #[str x] 9)).drew).ownsRow w.heap.size 9 1 vo ol.length (ol.map str) from h.row.alloc _).kept hg ?_, ?_, h.ris⟩
  · cases hv : vo.ownBlock with
    | none => exact .inl rfl
    | some j =>
      refine .inr ?_
      have := (hl j hv).2
      simp [Value.ownBlock]
      omega
  · exact ((h.bel.alloc h.bel.size _).trans (Below.drewsN (Below.refl _ _) 1)).grown hg (by show w.heap.size ≤ (W0.alloc _).heap.size; have := h.bel.size; simp; omega) (fun k e => by
      have hk : k = W0.heap.size := by simpa [Value.ownBlock] using e.symm
      have := h.bel.size
      omega)
/-- A cell of an argument, behind either append. -/
theorem ins_cell1 {w W0 w3 : World} {vo : Value} {ol : List (List UInt8)} {x : List UInt8} {b j : Nat} {u : Value} (hb : b < w.heap.size) (h : UInv w W0 vo ol) (hc : W0.cell? ⟨b, j, none⟩ = some u)
    (hg : ((W0.alloc (.cells #[str x] 9)).drew).grownBy w3 (Value.slice (some ⟨W0.heap.size, 0, none⟩) 1 1).ownBlock) : w3.cell? ⟨b, j, none⟩ = some u := by
  have hs := h.bel.size
  have h1 : ((W0.alloc (.cells #[str x] 9)).drew).cell? ⟨b, j, none⟩ = some u := ((below_alloc W0 _).cell (p := ⟨b, j, none⟩) (by show b < W0.heap.size; omega)).trans hc
  have h2 : Below w.heap.size ((W0.alloc (.cells #[str x] 9)).drew) w3 := (Below.refl _ _).grown hg (by show w.heap.size ≤ (W0.alloc _).heap.size; simp; omega) (fun k e => by
    have hk : k = W0.heap.size := by simpa [Value.ownBlock] using e.symm
    omega)
  exact (h2.cell (p := ⟨b, j, none⟩) hb).trans h1
theorem ins_cell2 {w w3 w4 : World} {row : Option Nat} {b j : Nat} {u : Value} (hb : b < w.heap.size) (hc : w3.cell? ⟨b, j, none⟩ = some u) (hr : ∀ k, row = some k → w.heap.size ≤ k) (hg : w3.grownBy w4 row) : w4.cell? ⟨b, j, none⟩ = some u := by
  have hlt := World.block_lt_of_cell? w3 _ hc
  have e : w4.heap[b]? = w3.heap[b]? := hg.block b hlt (fun e => by have := hr b e.symm; omega)
  rw [← hc]
  simp [World.cell?, e]
/-- Behind the second. -/
theorem ins_done {w w3 w4 : World} {vo v2 dst : Value} {p : Nat} {ol : List (List UInt8)} {x : List UInt8} (h : UInv w w3 vo ol) (hd : dst.ownBlock = none ∨ dst.ownBlock = vo.ownBlock) (hp : p ≤ ol.length)
    (hr : w4.ownsRow w.heap.size 9 1 v2 (p + (str x :: (ol.drop p).map str).length) ((ol.take p).map str ++ (str x :: (ol.drop p).map str))) (hg : w3.grownBy w4 dst.ownBlock) (hR : RisU (ol.take p ++ x :: ol.drop p)) :
    UInv w w4 v2 (ol.take p ++ x :: ol.drop p) := by
  refine ⟨?_, h.bel.grown hg h.bel.size (fun k e => ?_), hR⟩
  · have e1 : (ol.take p ++ x :: ol.drop p).length = p + (str x :: (ol.drop p).map str).length := by simp; omega
    rw [e1]
    simpa using hr
  · rcases hd with hd | hd
    · rw [hd] at e; cases e
    · rw [hd] at e
      exact (h.row.lt k e).1
set_option maxRecDepth 100000 in
set_option maxHeartbeats 8000000 in
theorem unique_any (v : Value) (l : List (List UInt8)) (w : World) (hv : RdV w v (l.map str)) (hlen : l.length ≤ 1000000) :
    Calls Tryd.prog 14 #[v] w fun e w' => ∃ vo, e = .returned vo ∧ RdV w' vo ((uniqF l).map str) ∧ Below w.heap.size w w' := by
  obtain ⟨i0, hi, hz0, hz1, hz2⟩ := info_parts infoU
  obtain ⟨av, cv, rfl, hlen2, hcells⟩ := hv
  simp only [List.length_map] at hlen2 ⊢
  have HC := Lib.hid hcells
  clear hcells
  go_enter Tryd.func14, Tryd.ntmps14
  go_wp2_with fail
  go_loopw [3, 4] (fun vo i wr => ∃ (k : Nat) (ol : List (List UInt8)), k ≤ l.length ∧ i = .int .i64 (k : Int) ∧ Hid (UInv w wr vo ol ∧ ol = uniqF (l.take k) ∧ ol.length ≤ k)) (fun _ i _ => l.length - (intOf i).toNat)
  case atStart => exact ⟨0, [], Nat.zero_le _, rfl, Lib.hid ⟨⟨World.ownsRow_nil _ _ _ _, Below.refl _ _, trivial⟩, by simp [uniqF], Nat.le_refl _⟩⟩
  case round =>
    obtain ⟨vo, hvo⟩ : ∃ vo, vo = u3 := ⟨_, rfl⟩
    subst hvo
    obtain ⟨k, ol, hk, rfl, HR⟩ := hrel
    by_cases hlt : k < l.length
    · have g1 : (k : Int) < (l.length : Int) := by omega
      have g2 : (0 : Int) ≤ (k : Int) := by omega
      obtain ⟨bA, oA, rfl, hA⟩ := HC.out (by intro e; simp at e; rw [e] at hlt; simp at hlt)
      obtain ⟨x, hx⟩ : ∃ x, x = l[k] := ⟨_, rfl⟩
      have c0 := hA k (by simpa using hlt)
      simp only [List.getElem_map] at c0
      rw [← hx] at c0
      have hlA := World.block_lt_of_cell? w _ c0
      have c1 : wr.cell? ⟨bA, oA + k, none⟩ = some (str x) := (HR.out.1.bel.cell (p := ⟨bA, oA + k, none⟩) hlA).trans c0
      have hol : ol.length ≤ 1000000 := by have := HR.out.2.2; omega
      have hform : (∃ g cap, vo = Value.slice (some ⟨g, 0, none⟩) ol.length cap) ∨ (vo = Value.slice none 0 0 ∧ ol = []) := by
        rcases HR.out.1.row.2 with ⟨h1, h0⟩ | ⟨g, cap, _, h1, _⟩
        · exact Or.inr ⟨h1, List.eq_nil_of_length_eq_zero h0⟩
        · exact Or.inl ⟨g, cap, h1⟩
      have HX := Lib.hid hx
      have HLA := Lib.hid hlA
      clear hA c0 hx hlA HC
      rcases hform with ⟨g, cap, rfl⟩ | ⟨rfl, rfl⟩
      · obtain ⟨hcap, hcl⟩ := row_cells HR.out.1.row
        have HCL := Lib.hid hcl
        clear hcl
        go_wp2_with fail
        go_loopw [5] (fun kv wr2 => ∃ p q : Nat, p ≤ ol.length ∧ kv = .int .i64 (p : Int) ∧ Hid (∀ j (h : j < ol.length), p ≤ j → Op.bytesLess ol[j] x = false) ∧ wr2 = wr.drewN q) (fun kv _ => (intOf kv).toNat)
        case atStart => exact ⟨ol.length, 0, Nat.le_refl _, rfl, Lib.hid (fun j h h' => absurd h (by omega)), rfl⟩
        case round =>
          obtain ⟨p, q, hp, rfl, HP, rfl⟩ := hrel
          by_cases hp0 : 0 < p
          · have g3 : (0 : Int) < (p : Int) := by omega
            have g4 : (p : Int) - 1 < (ol.length : Int) := by omega
            have g5 : (0 : Int) ≤ (p : Int) - 1 := by omega
            have g8 : IntKind.i64.wrap ((p : Int) - 1) = (p : Int) - 1 := IntWalk.i64_in _ ⟨by omega, by omega⟩
            have g9 : ((p : Int) - 1).toNat = p - 1 := by omega
            obtain ⟨y, hy⟩ : ∃ y, y = ol[p - 1]'(by omega) := ⟨_, rfl⟩
            have c2 := HCL.out (p - 1) (by simp; omega)
            simp only [List.getElem_map] at c2
            rw [← hy] at c2
            have HY := Lib.hid hy
            clear hy
            cases hless : Op.bytesLess y x with
            | true =>
              have HP2 : Hid (∀ h : p - 1 < ol.length, 0 < p → Op.bytesLess ol[p - 1] x = true) := Lib.hid (fun h _ => by have := HY.out; rw [← this]; exact hless)
              go_wp2_with fail
              go_quiet (fail)
              go_wp2_with fail
              -- the tail: p is the place
              obtain ⟨W0, hW0⟩ : ∃ W0, W0 = (wr.drewN q).drewN nq := ⟨_, rfl⟩
              first | rw [← hW0] | skip
              have HU : Hid (UInv w W0 (.slice (some ⟨g, 0, none⟩) ol.length cap) ol) := Lib.hid (by rw [hW0]; exact (HR.out.1.drewN _).drewN _)
              have d1 : W0.cell? ⟨bA, oA + k, none⟩ = some (str x) := by rw [hW0]; exact c1
              have HCW : Hid (∀ i (hi : i < (ol.map str).length), W0.cell? ⟨g, i, none⟩ = some (ol.map str)[i]) := Lib.hid (by rw [hW0]; exact HCL.out)
              have HIN := Lib.hid (insU_at x HR.out.1.ris hp HP.out HP2.out)
              have HOL := Lib.hid HR.out.2
              clear hW0 HP HP2 HCL HR c1
              by_cases hpn : p < ol.length
              · have g6 : (p : Int) < (ol.length : Int) := by omega
                have g7 : (0 : Int) ≤ (p : Int) := by omega
                obtain ⟨y2, hy2⟩ : ∃ y, y = ol[p] := ⟨_, rfl⟩
                have d2 := HCW.out p (by simpa using hpn)
                simp only [List.getElem_map] at d2
                rw [← hy2] at d2
                have e0 : ol[p]? = some y2 := by rw [hy2]; simp [hpn]
                rw [e0] at HIN
                clear HCW hy2 e0
                by_cases hyx : y2 = x
                · subst hyx
                  have t1 : (y2 == y2) = true := by simp
                  go_wp2_with fail
                  go_quiet (fail)
                  go_wp2_with fail
                  go_roundw
                  case rel =>
                    obtain ⟨e1, e2⟩ := HOL.out
                    refine ⟨k + 1, ol, by omega, by go_num, Lib.hid ⟨HU.out.drewN _, ?_, by omega⟩⟩
                    have e3 := HIN.out
                    rw [if_pos trivial] at e3
                    rw [List.take_add_one, List.getElem?_eq_getElem hlt, ← HX.out]
                    show ol = uniqF (l.take k ++ [y2])
                    rw [uniqF_snoc, ← e1, e3]
                  case measure => simp [intOf]; omega
                · have t1 : (y2 == x) = false := by simpa using hyx
                  have hIN : insU x ol = ol.take p ++ x :: ol.drop p := by rw [HIN.out, if_neg (by simpa using hyx)]
                  have HIN2 := Lib.hid hIN
                  clear HIN hIN hyx
                  have hne : ¬ cap = p := by omega
                  have g10 : (p : Int) ≤ (cap : Int) := by omega
                  have RW1 := Lib.hid (ins_row HU.out.bel.size x)
                  have SRC1 := Lib.hid (ins_src HU.out x hpn)
                  go_wp2_with fail
                  go_quiet (fail)
                  go_wp2_with fail
                  obtain ⟨W5, hW5⟩ : ∃ W5, W5 = W0.drewN nq := ⟨_, rfl⟩
                  rw [← hW5]
                  have d5 : W5.cell? ⟨bA, oA + k, none⟩ = some (str x) := by rw [hW5]; exact d1
                  have HU := Lib.hid (show UInv w W5 _ _ by rw [hW5]; exact HU.out.drewN nq)
                  have RW1 := Lib.hid (ins_row HU.out.bel.size x)
                  have SRC1 := Lib.hid (ins_src HU.out x hpn)
                  clear d1 hW5
                  go_region_held3 (fun w' => w'.cell? ⟨bA, oA + k, none⟩ = some (str x))
                    (first
                      | (exact d5)
                      | (exact ins_cell2 HLA.out (ins_cell1 HLA.out HU.out d5 g1) (fun j e => ((ins_keep HU.out g1).row.lt j e).1) g2)
                      | (exact ins_cell1 HLA.out HU.out d5 g1)
                      | go_keep)
                    ((first
                      | (refine step_appendV (news := ((ol.drop p).map str)) (v := .slice (some ⟨W5.heap.size, 0, none⟩) 1 1) (k := 1) (xs := [str x]) (base := w.heap.size) (by rfl) _ _ 37 (by rfl) Tryd.underlying37 hi hz0 hz1 hz2 (by rfl) (by rfl) RW1.out (src_eq SRC1.out (by rfl)) ?_ ?_ ?_ ?_ ?_
                         · intro u hu; first | (simp at hu; done) | (obtain ⟨_, _, rfl⟩ := List.mem_map.1 hu; rfl)
                         · exact (bnd _ _ (by omega) (by first | (simp; done) | (simp; omega))).1
                         · exact (bnd _ _ (by omega) (by first | (simp; done) | (simp; omega))).2
                         · show w.heap.size ≤ (W5.alloc _).heap.size; have := HU.out.bel.size; simp; omega
                         intro v1 w3 r1 g1)
                      | (refine step_appendV (news := [str x] ++ ((ol.drop p).map str)) (v := .slice (some ⟨g, 0, none⟩) p cap) (k := p) (xs := ((ol.map str).take p)) (base := w.heap.size) (by rfl) _ _ 37 (by rfl) Tryd.underlying37 hi hz0 hz1 hz2 (by rfl) (by rfl) (row_take (ins_keep HU.out g1).row (by omega)) (src_row r1) ?_ ?_ ?_ ?_ ?_
                         · intro u hu
                           rcases List.mem_append.1 hu with h | h
                           · simp at h; subst h; rfl
                           · first | (simp at h; done) | (obtain ⟨_, _, rfl⟩ := List.mem_map.1 h; rfl)
                         · exact (bnd _ _ (by omega) (by first | (simp; done) | (simp; omega))).1
                         · exact (bnd _ _ (by omega) (by first | (simp; done) | (simp; omega))).2
                         · exact (ins_keep HU.out g1).bel.size
                         intro v2 w4 r2 g2)
                      | fail))
                  all_goals
                    have HF : Hid (UInv w w4 v2 (insU x ol) ∧ insU x ol = uniqF (l.take (k + 1)) ∧ (insU x ol).length ≤ k + 1) := by
                      obtain ⟨e1, e2⟩ := HOL.out
                      have hris : RisU (ol.take p ++ x :: ol.drop p) := by have q := insU_ris x HU.out.ris; rw [HIN2.out] at q; exact q
                      have hd := ins_done (p := p) (x := x) (ins_keep HU.out g1) (dst := .slice (some ⟨g, 0, none⟩) p cap) (.inr rfl) (by omega) (by rw [List.map_take]; exact r2) g2 hris
                      have hd2 : UInv w w4 v2 (insU x ol) := by rw [HIN2.out]; exact hd
                      refine Lib.hid ⟨hd2, ?_, by have := insU_len x ol; omega⟩
                      rw [List.take_add_one, List.getElem?_eq_getElem hlt, ← HX.out]
                      show insU x ol = uniqF (l.take k ++ [x])
                      rw [uniqF_snoc, ← e1]
                    clear r1 g1 r2 g2
                    go_wp2_with fail
                    go_roundw
                    case rel => exact ⟨k + 1, insU x ol, by omega, by go_num, HF⟩
                    case measure => simp [intOf]; omega
              · obtain rfl : p = ol.length := by omega
                have g6 : ¬ (ol.length : Int) < (ol.length : Int) := by omega
                have hIN : insU x ol = ol.take ol.length ++ x :: ol.drop ol.length := by rw [HIN.out, if_neg (by simp)]
                have HIN2 := Lib.hid hIN
                clear HIN hIN HCW
                by_cases hcn : cap = ol.length
                · subst hcn
                  have RW1 := Lib.hid (ins_row HU.out.bel.size x)
                  have SRC0 := Lib.hid trivial
                  go_wp2_with fail
                  go_quiet (fail)
                  go_wp2_with fail
                  obtain ⟨W5, hW5⟩ : ∃ W5, W5 = W0.drewN nq := ⟨_, rfl⟩
                  rw [← hW5]
                  have d5 : W5.cell? ⟨bA, oA + k, none⟩ = some (str x) := by rw [hW5]; exact d1
                  have HU := Lib.hid (show UInv w W5 _ _ by rw [hW5]; exact HU.out.drewN nq)
                  have RW1 := Lib.hid (ins_row HU.out.bel.size x)
                  have SRC0 := Lib.hid trivial
                  clear d1 hW5
                  go_region_held3 (fun w' => w'.cell? ⟨bA, oA + k, none⟩ = some (str x))
                    (first
                      | (exact d5)
                      | (exact ins_cell2 HLA.out (ins_cell1 HLA.out HU.out d5 g1) (fun j e => ((ins_keep HU.out g1).row.lt j e).1) g2)
                      | (exact ins_cell1 HLA.out HU.out d5 g1)
                      | go_keep)
                    ((first
                      | (refine step_appendV (news := []) (v := .slice (some ⟨W5.heap.size, 0, none⟩) 1 1) (k := 1) (xs := [str x]) (base := w.heap.size) (by rfl) _ _ 37 (by rfl) Tryd.underlying37 hi hz0 hz1 hz2 (by rfl) (by rfl) RW1.out (src_end _ _) ?_ ?_ ?_ ?_ ?_
                         · intro u hu; first | (simp at hu; done) | (obtain ⟨_, _, rfl⟩ := List.mem_map.1 hu; rfl)
                         · exact (bnd _ _ (by omega) (by first | (simp; done) | (simp; omega))).1
                         · exact (bnd _ _ (by omega) (by first | (simp; done) | (simp; omega))).2
                         · show w.heap.size ≤ (W5.alloc _).heap.size; have := HU.out.bel.size; simp; omega
                         intro v1 w3 r1 g1)
                      | (refine step_appendV (news := [str x] ++ []) (v := .slice (some ⟨g, 0, none⟩) ol.length ol.length) (k := ol.length) (xs := ((ol.map str).take ol.length)) (base := w.heap.size) (by rfl) _ _ 37 (by rfl) Tryd.underlying37 hi hz0 hz1 hz2 (by rfl) (by rfl) (row_take (ins_keep HU.out g1).row (by omega)) (src_row r1) ?_ ?_ ?_ ?_ ?_
                         · intro u hu
                           rcases List.mem_append.1 hu with h | h
                           · simp at h; subst h; rfl
                           · first | (simp at h; done) | (obtain ⟨_, _, rfl⟩ := List.mem_map.1 h; rfl)
                         · exact (bnd _ _ (by omega) (by first | (simp; done) | (simp; omega))).1
                         · exact (bnd _ _ (by omega) (by first | (simp; done) | (simp; omega))).2
                         · exact (ins_keep HU.out g1).bel.size
                         intro v2 w4 r2 g2)
                      | fail))
                  all_goals
                    have HF : Hid (UInv w w4 v2 (insU x ol) ∧ insU x ol = uniqF (l.take (k + 1)) ∧ (insU x ol).length ≤ k + 1) := by
                      obtain ⟨e1, e2⟩ := HOL.out
                      have hris : RisU (ol.take ol.length ++ x :: ol.drop ol.length) := by have q := insU_ris x HU.out.ris; rw [HIN2.out] at q; exact q
                      have hd := ins_done (p := ol.length) (x := x) (ins_keep HU.out g1) (dst := .slice (some ⟨g, 0, none⟩) ol.length ol.length) (.inr rfl) (by omega) (by have q := r2; rw [List.take_of_length_le (by simp)] at q; simpa using q) g2 hris
                      have hd2 : UInv w w4 v2 (insU x ol) := by rw [HIN2.out]; exact hd
                      refine Lib.hid ⟨hd2, ?_, by have := insU_len x ol; omega⟩
                      rw [List.take_add_one, List.getElem?_eq_getElem hlt, ← HX.out]
                      show insU x ol = uniqF (l.take k ++ [x])
                      rw [uniqF_snoc, ← e1]
                    clear r1 g1 r2 g2
                    go_wp2_with fail
                    go_roundw
                    case rel => exact ⟨k + 1, insU x ol, by omega, by go_num, HF⟩
                    case measure => simp [intOf]; omega
                · have hcn2 : (ol.length : Int) ≤ (cap : Int) := by omega
                  have RW1 := Lib.hid (ins_row HU.out.bel.size x)
                  have SRC0 := Lib.hid trivial
                  go_wp2_with fail
                  go_quiet (fail)
                  go_wp2_with fail
                  obtain ⟨W5, hW5⟩ : ∃ W5, W5 = W0.drewN nq := ⟨_, rfl⟩
                  rw [← hW5]
                  have d5 : W5.cell? ⟨bA, oA + k, none⟩ = some (str x) := by rw [hW5]; exact d1
                  have HU := Lib.hid (show UInv w W5 _ _ by rw [hW5]; exact HU.out.drewN nq)
                  have RW1 := Lib.hid (ins_row HU.out.bel.size x)
                  have SRC0 := Lib.hid trivial
                  clear d1 hW5
                  go_region_held3 (fun w' => w'.cell? ⟨bA, oA + k, none⟩ = some (str x))
                    (first
                      | (exact d5)
                      | (exact ins_cell2 HLA.out (ins_cell1 HLA.out HU.out d5 g1) (fun j e => ((ins_keep HU.out g1).row.lt j e).1) g2)
                      | (exact ins_cell1 HLA.out HU.out d5 g1)
                      | go_keep)
                    ((first
                      | (refine step_appendV (news := []) (v := .slice (some ⟨W5.heap.size, 0, none⟩) 1 1) (k := 1) (xs := [str x]) (base := w.heap.size) (by rfl) _ _ 37 (by rfl) Tryd.underlying37 hi hz0 hz1 hz2 (by rfl) (by rfl) RW1.out (src_end _ _) ?_ ?_ ?_ ?_ ?_
                         · intro u hu; first | (simp at hu; done) | (obtain ⟨_, _, rfl⟩ := List.mem_map.1 hu; rfl)
                         · exact (bnd _ _ (by omega) (by first | (simp; done) | (simp; omega))).1
                         · exact (bnd _ _ (by omega) (by first | (simp; done) | (simp; omega))).2
                         · show w.heap.size ≤ (W5.alloc _).heap.size; have := HU.out.bel.size; simp; omega
                         intro v1 w3 r1 g1)
                      | (refine step_appendV (news := [str x] ++ []) (v := .slice (some ⟨g, 0, none⟩) ol.length cap) (k := ol.length) (xs := ((ol.map str).take ol.length)) (base := w.heap.size) (by rfl) _ _ 37 (by rfl) Tryd.underlying37 hi hz0 hz1 hz2 (by rfl) (by rfl) (row_take (ins_keep HU.out g1).row (by omega)) (src_row r1) ?_ ?_ ?_ ?_ ?_
                         · intro u hu
                           rcases List.mem_append.1 hu with h | h
                           · simp at h; subst h; rfl
                           · first | (simp at h; done) | (obtain ⟨_, _, rfl⟩ := List.mem_map.1 h; rfl)
                         · exact (bnd _ _ (by omega) (by first | (simp; done) | (simp; omega))).1
                         · exact (bnd _ _ (by omega) (by first | (simp; done) | (simp; omega))).2
                         · exact (ins_keep HU.out g1).bel.size
                         intro v2 w4 r2 g2)
                      | fail))
                  all_goals
                    have HF : Hid (UInv w w4 v2 (insU x ol) ∧ insU x ol = uniqF (l.take (k + 1)) ∧ (insU x ol).length ≤ k + 1) := by
                      obtain ⟨e1, e2⟩ := HOL.out
                      have hris : RisU (ol.take ol.length ++ x :: ol.drop ol.length) := by have q := insU_ris x HU.out.ris; rw [HIN2.out] at q; exact q
                      have hd := ins_done (p := ol.length) (x := x) (ins_keep HU.out g1) (dst := .slice (some ⟨g, 0, none⟩) ol.length cap) (.inr rfl) (by omega) (by have q := r2; rw [List.take_of_length_le (by simp)] at q; simpa using q) g2 hris
                      have hd2 : UInv w w4 v2 (insU x ol) := by rw [HIN2.out]; exact hd
                      refine Lib.hid ⟨hd2, ?_, by have := insU_len x ol; omega⟩
                      rw [List.take_add_one, List.getElem?_eq_getElem hlt, ← HX.out]
                      show insU x ol = uniqF (l.take k ++ [x])
                      rw [uniqF_snoc, ← e1]
                    clear r1 g1 r2 g2
                    go_wp2_with fail
                    go_roundw
                    case rel => exact ⟨k + 1, insU x ol, by omega, by go_num, HF⟩
                    case measure => simp [intOf]; omega
            | false =>
              have HP3 : Hid (∀ j (h : j < ol.length), p - 1 ≤ j → Op.bytesLess ol[j] x = false) := Lib.hid (fun j h hj => by
                rcases Nat.lt_or_ge j p with h2 | h2
                · obtain rfl : j = p - 1 := by omega
                  rw [← HY.out]; exact hless
                · exact HP.out j h h2)
              go_wp2_with fail
              go_quiet (fail)
              go_wp2_with fail
              go_roundw
              case rel => exact ⟨p - 1, q + nq, by omega, by first | go_num | (congr 1; omega), HP3, rfl⟩
              case measure => simp [intOf]; omega
          · have g3 : ¬ (0 : Int) < (p : Int) := by omega
            have HP2 : Hid (∀ h : p - 1 < ol.length, 0 < p → Op.bytesLess ol[p - 1] x = true) := Lib.hid (fun _ h => absurd h hp0)
            have g4 : decide ((0 : Int) < (p : Int)) = false := by simpa using g3
            go_wp2_with fail
            go_quiet (fail)
            go_wp2_with fail
            -- the tail: p is the place
            obtain ⟨W0, hW0⟩ : ∃ W0, W0 = (wr.drewN q).drewN nq := ⟨_, rfl⟩
            first | rw [← hW0] | skip
            have HU : Hid (UInv w W0 (.slice (some ⟨g, 0, none⟩) ol.length cap) ol) := Lib.hid (by rw [hW0]; exact (HR.out.1.drewN _).drewN _)
            have d1 : W0.cell? ⟨bA, oA + k, none⟩ = some (str x) := by rw [hW0]; exact c1
            have HCW : Hid (∀ i (hi : i < (ol.map str).length), W0.cell? ⟨g, i, none⟩ = some (ol.map str)[i]) := Lib.hid (by rw [hW0]; exact HCL.out)
            have HIN := Lib.hid (insU_at x HR.out.1.ris hp HP.out HP2.out)
            have HOL := Lib.hid HR.out.2
            clear hW0 HP HP2 HCL HR c1
            by_cases hpn : p < ol.length
            · have g6 : (p : Int) < (ol.length : Int) := by omega
              have g7 : (0 : Int) ≤ (p : Int) := by omega
              obtain ⟨y2, hy2⟩ : ∃ y, y = ol[p] := ⟨_, rfl⟩
              have d2 := HCW.out p (by simpa using hpn)
              simp only [List.getElem_map] at d2
              rw [← hy2] at d2
              have e0 : ol[p]? = some y2 := by rw [hy2]; simp [hpn]
              rw [e0] at HIN
              clear HCW hy2 e0
              by_cases hyx : y2 = x
              · subst hyx
                have t1 : (y2 == y2) = true := by simp
                go_wp2_with fail
                go_quiet (fail)
                go_wp2_with fail
                go_roundw
                case rel =>
                  obtain ⟨e1, e2⟩ := HOL.out
                  refine ⟨k + 1, ol, by omega, by go_num, Lib.hid ⟨HU.out.drewN _, ?_, by omega⟩⟩
                  have e3 := HIN.out
                  rw [if_pos trivial] at e3
                  rw [List.take_add_one, List.getElem?_eq_getElem hlt, ← HX.out]
                  show ol = uniqF (l.take k ++ [y2])
                  rw [uniqF_snoc, ← e1, e3]
                case measure => simp [intOf]; omega
              · have t1 : (y2 == x) = false := by simpa using hyx
                have hIN : insU x ol = ol.take p ++ x :: ol.drop p := by rw [HIN.out, if_neg (by simpa using hyx)]
                have HIN2 := Lib.hid hIN
                clear HIN hIN hyx
                have hne : ¬ cap = p := by omega
                have g10 : (p : Int) ≤ (cap : Int) := by omega
                have RW1 := Lib.hid (ins_row HU.out.bel.size x)
                have SRC1 := Lib.hid (ins_src HU.out x hpn)
                go_wp2_with fail
                go_quiet (fail)
                go_wp2_with fail
                obtain ⟨W5, hW5⟩ : ∃ W5, W5 = W0.drewN nq := ⟨_, rfl⟩
                rw [← hW5]
                have d5 : W5.cell? ⟨bA, oA + k, none⟩ = some (str x) := by rw [hW5]; exact d1
                have HU := Lib.hid (show UInv w W5 _ _ by rw [hW5]; exact HU.out.drewN nq)
                have RW1 := Lib.hid (ins_row HU.out.bel.size x)
                have SRC1 := Lib.hid (ins_src HU.out x hpn)
                clear d1 hW5
                go_region_held3 (fun w' => w'.cell? ⟨bA, oA + k, none⟩ = some (str x))
                  (first
                    | (exact d5)
                    | (exact ins_cell2 HLA.out (ins_cell1 HLA.out HU.out d5 g1) (fun j e => ((ins_keep HU.out g1).row.lt j e).1) g2)
                    | (exact ins_cell1 HLA.out HU.out d5 g1)
                    | go_keep)
                  ((first
                    | (refine step_appendV (news := ((ol.drop p).map str)) (v := .slice (some ⟨W5.heap.size, 0, none⟩) 1 1) (k := 1) (xs := [str x]) (base := w.heap.size) (by rfl) _ _ 37 (by rfl) Tryd.underlying37 hi hz0 hz1 hz2 (by rfl) (by rfl) RW1.out (src_eq SRC1.out (by rfl)) ?_ ?_ ?_ ?_ ?_
                       · intro u hu; first | (simp at hu; done) | (obtain ⟨_, _, rfl⟩ := List.mem_map.1 hu; rfl)
                       · exact (bnd _ _ (by omega) (by first | (simp; done) | (simp; omega))).1
                       · exact (bnd _ _ (by omega) (by first | (simp; done) | (simp; omega))).2
                       · show w.heap.size ≤ (W5.alloc _).heap.size; have := HU.out.bel.size; simp; omega
                       intro v1 w3 r1 g1)
                    | (refine step_appendV (news := [str x] ++ ((ol.drop p).map str)) (v := .slice (some ⟨g, 0, none⟩) p cap) (k := p) (xs := ((ol.map str).take p)) (base := w.heap.size) (by rfl) _ _ 37 (by rfl) Tryd.underlying37 hi hz0 hz1 hz2 (by rfl) (by rfl) (row_take (ins_keep HU.out g1).row (by omega)) (src_row r1) ?_ ?_ ?_ ?_ ?_
                       · intro u hu
                         rcases List.mem_append.1 hu with h | h
                         · simp at h; subst h; rfl
                         · first | (simp at h; done) | (obtain ⟨_, _, rfl⟩ := List.mem_map.1 h; rfl)
                       · exact (bnd _ _ (by omega) (by first | (simp; done) | (simp; omega))).1
                       · exact (bnd _ _ (by omega) (by first | (simp; done) | (simp; omega))).2
                       · exact (ins_keep HU.out g1).bel.size
                       intro v2 w4 r2 g2)
                    | fail))
                all_goals
                  have HF : Hid (UInv w w4 v2 (insU x ol) ∧ insU x ol = uniqF (l.take (k + 1)) ∧ (insU x ol).length ≤ k + 1) := by
                    obtain ⟨e1, e2⟩ := HOL.out
                    have hris : RisU (ol.take p ++ x :: ol.drop p) := by have q := insU_ris x HU.out.ris; rw [HIN2.out] at q; exact q
                    have hd := ins_done (p := p) (x := x) (ins_keep HU.out g1) (dst := .slice (some ⟨g, 0, none⟩) p cap) (.inr rfl) (by omega) (by rw [List.map_take]; exact r2) g2 hris
                    have hd2 : UInv w w4 v2 (insU x ol) := by rw [HIN2.out]; exact hd
                    refine Lib.hid ⟨hd2, ?_, by have := insU_len x ol; omega⟩
                    rw [List.take_add_one, List.getElem?_eq_getElem hlt, ← HX.out]
                    show insU x ol = uniqF (l.take k ++ [x])
                    rw [uniqF_snoc, ← e1]
                  clear r1 g1 r2 g2
                  go_wp2_with fail
                  go_roundw
                  case rel => exact ⟨k + 1, insU x ol, by omega, by go_num, HF⟩
                  case measure => simp [intOf]; omega
            · obtain rfl : p = ol.length := by omega
              have g6 : ¬ (ol.length : Int) < (ol.length : Int) := by omega
              have hIN : insU x ol = ol.take ol.length ++ x :: ol.drop ol.length := by rw [HIN.out, if_neg (by simp)]
              have HIN2 := Lib.hid hIN
              clear HIN hIN HCW
              by_cases hcn : cap = ol.length
              · subst hcn
                have RW1 := Lib.hid (ins_row HU.out.bel.size x)
                have SRC0 := Lib.hid trivial
                go_wp2_with fail
                go_quiet (fail)
                go_wp2_with fail
                obtain ⟨W5, hW5⟩ : ∃ W5, W5 = W0.drewN nq := ⟨_, rfl⟩
                rw [← hW5]
                have d5 : W5.cell? ⟨bA, oA + k, none⟩ = some (str x) := by rw [hW5]; exact d1
                have HU := Lib.hid (show UInv w W5 _ _ by rw [hW5]; exact HU.out.drewN nq)
                have RW1 := Lib.hid (ins_row HU.out.bel.size x)
                have SRC0 := Lib.hid trivial
                clear d1 hW5
                go_region_held3 (fun w' => w'.cell? ⟨bA, oA + k, none⟩ = some (str x))
                  (first
                    | (exact d5)
                    | (exact ins_cell2 HLA.out (ins_cell1 HLA.out HU.out d5 g1) (fun j e => ((ins_keep HU.out g1).row.lt j e).1) g2)
                    | (exact ins_cell1 HLA.out HU.out d5 g1)
                    | go_keep)
                  ((first
                    | (refine step_appendV (news := []) (v := .slice (some ⟨W5.heap.size, 0, none⟩) 1 1) (k := 1) (xs := [str x]) (base := w.heap.size) (by rfl) _ _ 37 (by rfl) Tryd.underlying37 hi hz0 hz1 hz2 (by rfl) (by rfl) RW1.out (src_end _ _) ?_ ?_ ?_ ?_ ?_
                       · intro u hu; first | (simp at hu; done) | (obtain ⟨_, _, rfl⟩ := List.mem_map.1 hu; rfl)
                       · exact (bnd _ _ (by omega) (by first | (simp; done) | (simp; omega))).1
                       · exact (bnd _ _ (by omega) (by first | (simp; done) | (simp; omega))).2
                       · show w.heap.size ≤ (W5.alloc _).heap.size; have := HU.out.bel.size; simp; omega
                       intro v1 w3 r1 g1)
                    | (refine step_appendV (news := [str x] ++ []) (v := .slice (some ⟨g, 0, none⟩) ol.length ol.length) (k := ol.length) (xs := ((ol.map str).take ol.length)) (base := w.heap.size) (by rfl) _ _ 37 (by rfl) Tryd.underlying37 hi hz0 hz1 hz2 (by rfl) (by rfl) (row_take (ins_keep HU.out g1).row (by omega)) (src_row r1) ?_ ?_ ?_ ?_ ?_
                       · intro u hu
                         rcases List.mem_append.1 hu with h | h
                         · simp at h; subst h; rfl
                         · first | (simp at h; done) | (obtain ⟨_, _, rfl⟩ := List.mem_map.1 h; rfl)
                       · exact (bnd _ _ (by omega) (by first | (simp; done) | (simp; omega))).1
                       · exact (bnd _ _ (by omega) (by first | (simp; done) | (simp; omega))).2
                       · exact (ins_keep HU.out g1).bel.size
                       intro v2 w4 r2 g2)
                    | fail))
                all_goals
                  have HF : Hid (UInv w w4 v2 (insU x ol) ∧ insU x ol = uniqF (l.take (k + 1)) ∧ (insU x ol).length ≤ k + 1) := by
                    obtain ⟨e1, e2⟩ := HOL.out
                    have hris : RisU (ol.take ol.length ++ x :: ol.drop ol.length) := by have q := insU_ris x HU.out.ris; rw [HIN2.out] at q; exact q
                    have hd := ins_done (p := ol.length) (x := x) (ins_keep HU.out g1) (dst := .slice (some ⟨g, 0, none⟩) ol.length ol.length) (.inr rfl) (by omega) (by have q := r2; rw [List.take_of_length_le (by simp)] at q; simpa using q) g2 hris
                    have hd2 : UInv w w4 v2 (insU x ol) := by rw [HIN2.out]; exact hd
                    refine Lib.hid ⟨hd2, ?_, by have := insU_len x ol; omega⟩
                    rw [List.take_add_one, List.getElem?_eq_getElem hlt, ← HX.out]
                    show insU x ol = uniqF (l.take k ++ [x])
                    rw [uniqF_snoc, ← e1]
                  clear r1 g1 r2 g2
                  go_wp2_with fail
                  go_roundw
                  case rel => exact ⟨k + 1, insU x ol, by omega, by go_num, HF⟩
                  case measure => simp [intOf]; omega
              · have hcn2 : (ol.length : Int) ≤ (cap : Int) := by omega
                have RW1 := Lib.hid (ins_row HU.out.bel.size x)
                have SRC0 := Lib.hid trivial
                go_wp2_with fail
                go_quiet (fail)
                go_wp2_with fail
                obtain ⟨W5, hW5⟩ : ∃ W5, W5 = W0.drewN nq := ⟨_, rfl⟩
                rw [← hW5]
                have d5 : W5.cell? ⟨bA, oA + k, none⟩ = some (str x) := by rw [hW5]; exact d1
                have HU := Lib.hid (show UInv w W5 _ _ by rw [hW5]; exact HU.out.drewN nq)
                have RW1 := Lib.hid (ins_row HU.out.bel.size x)
                have SRC0 := Lib.hid trivial
                clear d1 hW5
                go_region_held3 (fun w' => w'.cell? ⟨bA, oA + k, none⟩ = some (str x))
                  (first
                    | (exact d5)
                    | (exact ins_cell2 HLA.out (ins_cell1 HLA.out HU.out d5 g1) (fun j e => ((ins_keep HU.out g1).row.lt j e).1) g2)
                    | (exact ins_cell1 HLA.out HU.out d5 g1)
                    | go_keep)
                  ((first
                    | (refine step_appendV (news := []) (v := .slice (some ⟨W5.heap.size, 0, none⟩) 1 1) (k := 1) (xs := [str x]) (base := w.heap.size) (by rfl) _ _ 37 (by rfl) Tryd.underlying37 hi hz0 hz1 hz2 (by rfl) (by rfl) RW1.out (src_end _ _) ?_ ?_ ?_ ?_ ?_
                       · intro u hu; first | (simp at hu; done) | (obtain ⟨_, _, rfl⟩ := List.mem_map.1 hu; rfl)
                       · exact (bnd _ _ (by omega) (by first | (simp; done) | (simp; omega))).1
                       · exact (bnd _ _ (by omega) (by first | (simp; done) | (simp; omega))).2
                       · show w.heap.size ≤ (W5.alloc _).heap.size; have := HU.out.bel.size; simp; omega
                       intro v1 w3 r1 g1)
                    | (refine step_appendV (news := [str x] ++ []) (v := .slice (some ⟨g, 0, none⟩) ol.length cap) (k := ol.length) (xs := ((ol.map str).take ol.length)) (base := w.heap.size) (by rfl) _ _ 37 (by rfl) Tryd.underlying37 hi hz0 hz1 hz2 (by rfl) (by rfl) (row_take (ins_keep HU.out g1).row (by omega)) (src_row r1) ?_ ?_ ?_ ?_ ?_
                       · intro u hu
                         rcases List.mem_append.1 hu with h | h
                         · simp at h; subst h; rfl
                         · first | (simp at h; done) | (obtain ⟨_, _, rfl⟩ := List.mem_map.1 h; rfl)
                       · exact (bnd _ _ (by omega) (by first | (simp; done) | (simp; omega))).1
                       · exact (bnd _ _ (by omega) (by first | (simp; done) | (simp; omega))).2
                       · exact (ins_keep HU.out g1).bel.size
                       intro v2 w4 r2 g2)
                    | fail))
                all_goals
                  have HF : Hid (UInv w w4 v2 (insU x ol) ∧ insU x ol = uniqF (l.take (k + 1)) ∧ (insU x ol).length ≤ k + 1) := by
                    obtain ⟨e1, e2⟩ := HOL.out
                    have hris : RisU (ol.take ol.length ++ x :: ol.drop ol.length) := by have q := insU_ris x HU.out.ris; rw [HIN2.out] at q; exact q
                    have hd := ins_done (p := ol.length) (x := x) (ins_keep HU.out g1) (dst := .slice (some ⟨g, 0, none⟩) ol.length cap) (.inr rfl) (by omega) (by have q := r2; rw [List.take_of_length_le (by simp)] at q; simpa using q) g2 hris
                    have hd2 : UInv w w4 v2 (insU x ol) := by rw [HIN2.out]; exact hd
                    refine Lib.hid ⟨hd2, ?_, by have := insU_len x ol; omega⟩
                    rw [List.take_add_one, List.getElem?_eq_getElem hlt, ← HX.out]
                    show insU x ol = uniqF (l.take k ++ [x])
                    rw [uniqF_snoc, ← e1]
                  clear r1 g1 r2 g2
                  go_wp2_with fail
                  go_roundw
                  case rel => exact ⟨k + 1, insU x ol, by omega, by go_num, HF⟩
                  case measure => simp [intOf]; omega
      · have HOL := Lib.hid HR.out.2
        have HUa := Lib.hid HR.out.1
        clear HR
        go_wp2_with fail
        go_loopw [5] (fun kv wr2 => ∃ q : Nat, kv = .int .i64 (0 : Int) ∧ wr2 = wr.drewN q) (fun _ _ => 0)
        case atStart => exact ⟨0, rfl, rfl⟩
        case round =>
          obtain ⟨q, rfl, rfl⟩ := hrel
          go_wp2_with fail
          go_quiet (fail)
          go_wp2_with fail
          obtain ⟨W0, hW0⟩ : ∃ W0, W0 = (wr.drewN q).drewN nq := ⟨_, rfl⟩
          first | rw [← hW0] | skip
          have HU : Hid (UInv w W0 (.slice none 0 0) []) := Lib.hid (by rw [hW0]; exact (HUa.out.drewN _).drewN _)
          have d1 : W0.cell? ⟨bA, oA + k, none⟩ = some (str x) := by rw [hW0]; exact c1
          have hIN : insU x [] = [x] := rfl
          have HIN2 := Lib.hid hIN
          clear hIN hW0 HUa c1
          have RW1 := Lib.hid (ins_row HU.out.bel.size x)
          have SRC0 := Lib.hid trivial
          go_wp2_with fail
          go_quiet (fail)
          go_wp2_with fail
          obtain ⟨W5, hW5⟩ : ∃ W5, W5 = W0.drewN nq := ⟨_, rfl⟩
          rw [← hW5]
          have d5 : W5.cell? ⟨bA, oA + k, none⟩ = some (str x) := by rw [hW5]; exact d1
          have HU := Lib.hid (show UInv w W5 _ _ by rw [hW5]; exact HU.out.drewN nq)
          have RW1 := Lib.hid (ins_row HU.out.bel.size x)
          have SRC0 := Lib.hid trivial
          clear d1 hW5
          go_region_held3 (fun w' => w'.cell? ⟨bA, oA + k, none⟩ = some (str x))
            (first
              | (exact d5)
              | (exact ins_cell2 HLA.out (ins_cell1 HLA.out HU.out d5 g1) (fun j e => by cases e) g2)
              | (exact ins_cell1 HLA.out HU.out d5 g1)
              | go_keep)
            ((first
              | (refine step_appendV (news := []) (v := .slice (some ⟨W5.heap.size, 0, none⟩) 1 1) (k := 1) (xs := [str x]) (base := w.heap.size) (by rfl) _ _ 37 (by rfl) Tryd.underlying37 hi hz0 hz1 hz2 (by rfl) (by rfl) RW1.out src_nil ?_ ?_ ?_ ?_ ?_
                 · intro u hu; first | (simp at hu; done) | (obtain ⟨_, _, rfl⟩ := List.mem_map.1 hu; rfl)
                 · exact (bnd _ _ (by omega) (by first | (simp; done) | (simp; omega))).1
                 · exact (bnd _ _ (by omega) (by first | (simp; done) | (simp; omega))).2
                 · show w.heap.size ≤ (W5.alloc _).heap.size; have := HU.out.bel.size; simp; omega
                 intro v1 w3 r1 g1)
              | (refine step_appendV (news := [str x] ++ []) (v := .slice none 0 0) (k := 0) (xs := []) (base := w.heap.size) (by rfl) _ _ 37 (by rfl) Tryd.underlying37 hi hz0 hz1 hz2 (by rfl) (by rfl) (World.ownsRow_nil _ w.heap.size _ _) (src_row r1) ?_ ?_ ?_ ?_ ?_
                 · intro u hu
                   rcases List.mem_append.1 hu with h | h
                   · simp at h; subst h; rfl
                   · first | (simp at h; done) | (obtain ⟨_, _, rfl⟩ := List.mem_map.1 h; rfl)
                 · exact (bnd _ _ (by omega) (by first | (simp; done) | (simp; omega))).1
                 · exact (bnd _ _ (by omega) (by first | (simp; done) | (simp; omega))).2
                 · exact (ins_keep HU.out g1).bel.size
                 intro v2 w4 r2 g2)
              | fail))
          all_goals
            have HF : Hid (UInv w w4 v2 (insU x []) ∧ insU x [] = uniqF (l.take (k + 1)) ∧ (insU x []).length ≤ k + 1) := by
              obtain ⟨e1, e2⟩ := HOL.out
              have hris : RisU ([].take 0 ++ x :: [].drop 0) := by have q := insU_ris x HU.out.ris; rw [HIN2.out] at q; exact q
              have hd := ins_done (p := 0) (x := x) (ins_keep HU.out g1) (dst := .slice none 0 0) (.inl rfl) (by omega) (by simpa using r2) g2 hris
              have hd2 : UInv w w4 v2 (insU x []) := by rw [HIN2.out]; exact hd
              refine Lib.hid ⟨hd2, ?_, by have := insU_len x []; omega⟩
              rw [List.take_add_one, List.getElem?_eq_getElem hlt, ← HX.out]
              show insU x [] = uniqF (l.take k ++ [x])
              rw [uniqF_snoc, ← e1]
            clear r1 g1 r2 g2
            go_wp2_with fail
            go_roundw
            case rel => exact ⟨k + 1, insU x [], by omega, by go_num, HF⟩
            case measure => simp [intOf]; omega
    · obtain rfl : k = l.length := by omega
      have g1 : ¬ (l.length : Int) < (l.length : Int) := by omega
      go_wp2_with fail
      go_ret
      refine ⟨_, rfl, ?_, HR.out.1.bel⟩
      have e := HR.out.2.1
      rw [List.take_length] at e
      rw [← e]
      exact RdV.of_row (by rw [List.length_map]; exact HR.out.1.row)
end Go.Proofs.YtidlhajibjnkeaaDoor
