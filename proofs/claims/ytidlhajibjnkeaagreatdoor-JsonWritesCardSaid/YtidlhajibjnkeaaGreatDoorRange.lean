/- Ranges over functions: what is ranged over by a contract of its own, which a range over a range can keep; the law of who ranges. -/
import Derived.Test.YtidlhajibjnkeaaGreatDoorKit
import Derived.RangeFuncNested
import Derived.RangeFuncBound
import Derived.RangeFuncCalls
import Derived.RangeFuncLeaves
import Derived.RangeFuncBox
namespace Go.Proofs.YtidlhajibjnkeaaGreatDoor
open Go.RowKit

theorem wide_fn (f : FuncId) : Fence.wide.fn f = True := rfl
theorem wide_depth : Fence.wide.depth = none := rfl
/-- Whatever lies from B on lies as it lay, but for cells of the types Wr. -/
structure KT (Wr : TypeId → Prop) (B : Nat) (W W' : World) : Prop where
  size : W.heap.size ≤ W'.heap.size
  same : ∀ (k : Nat) (o : Obj), B ≤ k → W.heap[k]? = some o → (∀ c T p, o = .cells c T p → ¬ Wr T) → W'.heap[k]? = some o
theorem KT.refl (Wr : TypeId → Prop) (B : Nat) (W : World) : KT Wr B W W := ⟨Nat.le_refl _, fun _ _ _ h _ => h⟩
theorem KT.trans {Wr : TypeId → Prop} {B : Nat} {X Y Z : World} (h : KT Wr B X Y) (k : KT Wr B Y Z) : KT Wr B X Z := ⟨Nat.le_trans h.size k.size, fun i o hB hi ho => k.same i o hB (h.same i o hB hi ho) ho⟩
theorem KT.more {Wr : TypeId → Prop} {B B' : Nat} {W W' : World} (h : KT Wr B W W') (hB : B ≤ B') : KT Wr B' W W' := ⟨h.size, fun k o hk => h.same k o (Nat.le_trans hB hk)⟩
theorem KT.wider {Wr Wr' : TypeId → Prop} {B : Nat} {W W' : World} (h : KT Wr B W W') (hw : ∀ T, Wr T → Wr' T) : KT Wr' B W W' := ⟨h.size, fun k o hk h0 ho => h.same k o hk h0 (fun c T p e q => ho c T p e (hw T q))⟩
/-- What is no cells. -/
theorem KT.others {Wr : TypeId → Prop} {B : Nat} {W W' : World} (h : KT Wr B W W') {k : Nat} {o : Obj} (hk : B ≤ k) (h0 : W.heap[k]? = some o) (ho : o.isCells = false) : W'.heap[k]? = some o :=
  h.same k o hk h0 (fun c T p e => by subst e; cases ho)
/-- Cells of another type. -/
theorem KT.cells {Wr : TypeId → Prop} {B : Nat} {W W' : World} (h : KT Wr B W W') {k : Nat} {c : Array Value} {T : TypeId} {p : Nat × Nat} (hk : B ≤ k) (h0 : W.heap[k]? = some (.cells c T p)) (ho : ¬ Wr T) : W'.heap[k]? = some (.cells c T p) :=
  h.same k _ hk h0 (fun c T p e => by cases e; exact ho)
theorem KT.of_grown {Wr : TypeId → Prop} {B : Nat} {W W' : World} {row : Option Nat} (h : W.grownBy W' row) (hr : ∀ k, row = some k → k < B ∨ ∃ c T p, W.heap[k]? = some (.cells c T p) ∧ Wr T) : KT Wr B W W' :=
  ⟨h.size, fun k o hk h0 ho => (h.block k (Array.getElem?_eq_some_iff.1 h0).1 (fun e => by
    rcases hr k e.symm with h1 | ⟨c, T, p, h1, h2⟩
    · omega
    · rw [h0] at h1; cases h1; exact ho c T p rfl h2)).trans h0⟩
theorem KT.of_below {Wr : TypeId → Prop} {B : Nat} {W W' : World} (h : Below W.heap.size W W') : KT Wr B W W' := ⟨h.size, fun k _ _ h0 _ => (h.block k (Array.getElem?_eq_some_iff.1 h0).1).trans h0⟩
theorem KT.put (Wr : TypeId → Prop) {B l : Nat} (W : World) (o : Obj) (hl : l < B) : KT Wr B W (W.putObj l o) :=
  ⟨by simp, fun _ _ hk h0 _ => (World.putObj_heap_other (by omega)).trans h0⟩
theorem KT.drew (Wr : TypeId → Prop) (B : Nat) (W : World) : KT Wr B W W.drew := ⟨Nat.le_refl _, fun _ _ _ h _ => h⟩
theorem KT.alloc (Wr : TypeId → Prop) (B : Nat) (W : World) (o : Obj) : KT Wr B W (W.alloc o) := KT.of_grown (World.grownBy_alloc W o none) (fun _ e => by cases e)
theorem KT.box {Wr : TypeId → Prop} {B : Nat} {W W' : World} {k : Nat} {t : TypeId} {v : Value} (h : KT Wr B W W') (hb : Boxed W k t v) (hk : B ≤ k) (ho : ¬ Wr t) : Boxed W' k t v := h.cells hk hb ho
/-- A slice in a box, appended to: what of the world lies on. -/
theorem boxT {W w1 : World} {n₀ B : Nat} {t e : TypeId} {size : Nat} {v v' : Value} {k : Nat} {xs : List Value} {tmp : Obj} (hv : Boxed W B t v) (_hte : t ≠ e) (hrow : W.ownsRow n₀ e size v k xs)
    (hgrow : (W.alloc tmp).grownBy w1 v.ownBlock) {Wr : TypeId → Prop} {D : Nat} (hwe : Wr e) (hD : B < D) : KT Wr D W (w1.setCell ⟨B, 0, none⟩ v') := by
  refine ((KT.alloc Wr D W tmp).trans (KT.of_grown hgrow fun j ej => ?_)).trans (KT.of_grown (grownBy_setCell' _ _ _) (fun j ej => .inl (by cases ej; exact hD)))
  rcases (hrow.alloc tmp).2 with ⟨rfl, _⟩ | ⟨g, cap, cur, rfl, _, hgb, _⟩
  · simp [Value.ownBlock] at ej
  · obtain rfl : g = j := by simpa [Value.ownBlock] using ej
    exact .inr ⟨_, _, _, hgb, hwe⟩
theorem row_mono {W : World} {b b' : Nat} {e : TypeId} {size k : Nat} {v : Value} {xs : List Value} (h : W.ownsRow b e size v k xs) (hb : b' ≤ b) : W.ownsRow b' e size v k xs := by
  refine ⟨h.1, ?_⟩
  rcases h.2 with hn | ⟨g, cap, cur, rfl, hg, rest⟩
  · exact .inl hn
  · exact .inr ⟨g, cap, cur, rfl, Nat.le_trans hb hg, rest⟩
/-- Behind an append to a slice in a box that lies ahead of all rows: the boxes, the row, what lay ahead. -/
theorem appended {W w1 : World} {n₀ B : Nat} {t e : TypeId} {v v' : Value} {k m : Nat} {xs ys : List Value} {tmp : Obj} (hv : Boxed W B t v) (hB : B < n₀) (hn : n₀ ≤ W.heap.size) (hrow : W.ownsRow n₀ e 1 v k xs)
    (hown' : w1.ownsRow n₀ e 1 v' m ys) (hgrow : (W.alloc tmp).grownBy w1 v.ownBlock) :
    Boxed w1 B t v ∧ Boxed (w1.setCell ⟨B, 0, none⟩ v') B t v' ∧ (w1.setCell ⟨B, 0, none⟩ v').ownsRow n₀ e 1 v' m ys ∧
    (∀ B' t' u, B' < n₀ → B' ≠ B → Boxed W B' t' u → Boxed w1 B' t' u ∧ Boxed (w1.setCell ⟨B, 0, none⟩ v') B' t' u) ∧ (∀ c, c ≤ B → Below c W (w1.setCell ⟨B, 0, none⟩ v')) := by
  have ne : ∀ j, j < n₀ → some j ≠ v.ownBlock := fun j hj e => by have := (hrow.lt j e.symm).1; omega
  have hv1 : Boxed w1 B t v := (hv.alloc tmp).kept hgrow (ne B hB)
  have ne' : v'.ownBlock = none ∨ v'.ownBlock ≠ some B := .inr fun e => by have := (hown'.lt B e).1; omega
  refine ⟨hv1, hv1.set v', hown'.kept (grownBy_setCell' w1 B v') ne', fun B' t' u h1 h2 h3 => ?_, fun c hc => ?_⟩
  · have h4 := (h3.alloc tmp).kept hgrow (ne B' h1)
    exact ⟨h4, h4.other h2 v'⟩
  · exact (((Below.refl c W).alloc (by omega) tmp).grown hgrow (by simp; omega) (fun j ej => by have := (hrow.lt j ej).1; omega)).setCell (p := ⟨B, 0, none⟩) hc v'
/-- A box that holds a slice of the call's own. -/
def BoxRow (n₀ B : Nat) (T E : TypeId) (W : World) (l : List Value) : Prop := ∃ v, Boxed W B T v ∧ W.ownsRow n₀ E 1 v l.length l
theorem boxRow_own {β : Type} (n₀ B : Nat) (T E : TypeId) (f : β → List Value) : Go.Own (fun s W => BoxRow n₀ B T E W (f s)) := by
  intro s X Y row ⟨v, hv, hr⟩ hg hrow
  obtain ⟨v', h1, h2, _⟩ := holdsRow_own n₀ B T E 1 (fun s => (f s).length) f (fun _ _ => True) s X Y row ⟨v, hv, hr, trivial⟩ hg hrow
  exact ⟨v', h1, h2⟩
/-- How a body may be left. -/
def ownPostT {α : Type} (Wr : TypeId → Prop) (B : Nat) (I : List α → World → Prop) (Ix : Code → List α → World → Prop) (xs : List α) (W : World) : Exit → Act → World → Prop
  | .normal, _, W' => KT Wr B W W' ∧ I xs W'
  | .ret, _, W' => KT Wr B W W' ∧ Ix .ret xs W'
  | .exit id, _, W' => KT Wr B W W' ∧ Ix (.exit id) xs W'
  | .goto t, _, W' => KT Wr B W W' ∧ Ix (.goto t) xs W'
  | .panic _, _, _ => False
  | .outgrown, _, _ => False
/-- A call of yield, in a walk without a fence. -/
def Yld (P : Program) (l : Nat) (args : Array Value) (W : World) (R : Ending → World → Prop) : Prop := ∀ m, YieldAt Fence.wide m P l args W R
theorem Yld.mono {P : Program} {l : Nat} {args : Array Value} {W : World} {R R' : Ending → World → Prop} (h : Yld P l args W R) (hr : ∀ e w, R e w → R' e w) : Yld P l args W R' := fun m => (h m).mono hr
/-- What a round answers: more is asked for, or not; what is no cells from B on lies as it lay. -/
def RndPost {α : Type} (Wr : TypeId → Prop) (B : Nat) (J Jx : List α → World → Prop) (pre : List α) (W : World) (e : Ending) (W' : World) : Prop :=
  KT Wr B W W' ∧ ((e = .returned (.bool true) ∧ J pre W') ∨ (e = .returned (.bool false) ∧ Jx pre W'))
/-- What is ranged over: called with a yield it hands xs on, one behind the other, till no more is asked for; between two rounds it asks Ok of the world. -/
def Seqs {α : Type} (P : Program) (gf : Nat) (lb : Array Value) (encs : α → Array Value) (Ok : World → Prop) (Wr : TypeId → Prop) (xs : List α) (W : World) : Prop :=
  ∀ (l : Nat) (J Jx : List α → World → Prop), OwnFrom W.heap.size J → OwnFrom W.heap.size Jx → (∀ pre W1, J pre W1 → Ok W1) →
    (∀ pre x W1, J pre W1 → (∃ t, xs = pre ++ x :: t) → Yld P l (encs x) W1 (RndPost Wr W.heap.size J Jx (pre ++ [x]) W1)) →
    J [] W → Calls P gf (#[.func (.yield l) #[] #[]] ++ lb) W fun e W' => (∃ v, e = .returned v) ∧ (J xs W' ∨ ∃ pre, (∃ t, xs = pre ++ t) ∧ Jx pre W')
theorem ownFrom_more {β : Type} {B B' : Nat} {I : β → World → Prop} (h : OwnFrom B I) (hB : B ≤ B') : OwnFrom B' I :=
  fun s X Y row hs hg hr => h s X Y row hs hg (fun r e => ⟨Nat.le_trans hB (hr r e).1, (hr r e).2⟩)
/-- A loop's record. -/
abbrev recOf (fn : FuncId) (tmps : Array Value) (ps : Array Tmp) (assign body : Code) (B : Nat) (st : LoopState) (pe : Option Code) : Loop :=
  { state := st, pending := pe, fn, tmps, params := ps, assign, body, defers := B }
/-- A relation beside the two blocks of a loop's book. -/
def Booked {α : Type} (B : Nat) (r : Loop) (I : List α → World → Prop) (pre : List α) (W : World) : Prop := I pre W ∧ W.heap[B + 1]? = some (.loop r) ∧ W.heap[B]? = some (.deferred (some []))
theorem booked_own {α : Type} {B : Nat} {r : Loop} {I : List α → World → Prop} (hI : OwnFrom B I) : OwnFrom (B + 2) (Booked B r I) := by
  intro s A C row ⟨h1, h2, h3⟩ hg hr
  have hne : ∀ k, k < B + 2 → some k ≠ row := fun k hk e => by have := (hr k e.symm).1; omega
  exact ⟨hI _ _ _ _ h1 hg (fun r e => ⟨by have := (hr r e).1; omega, (hr r e).2⟩), (hg.block _ (Array.getElem?_eq_some_iff.1 h2).1 (hne _ (by omega))).trans h2, (hg.block _ (Array.getElem?_eq_some_iff.1 h3).1 (hne _ (by omega))).trans h3⟩
/-- The record turns. -/
theorem booked_turn {α : Type} {B : Nat} {r : Loop} {I I' : List α → World → Prop} {pre : List α} {W : World} (hI : OwnFrom B I) (h : Booked B r I pre W) (r' : Loop) (hw : ∀ W, I pre W → I' pre W) :
    Booked B r' I' pre (W.putObj (B + 1) (.loop r')) :=
  ⟨hw _ (hI.putObj _ h.1 (by omega) h.2.1 rfl), World.putObj_heap_same (Array.getElem?_eq_some_iff.1 h.2.1).1, (World.putObj_heap_other (by omega)).trans h.2.2⟩
/-- A body keeps the book. -/
theorem booked_kept {α : Type} {B : Nat} {r : Loop} {I I' : List α → World → Prop} {pre pre' : List α} {W W' : World} (h : Booked B r I pre W) {Wr : TypeId → Prop} (hk : KT Wr B W W') (h' : I' pre' W') : Booked B r I' pre' W' :=
  ⟨h', hk.others (by omega) h.2.1 rfl, hk.others (Nat.le_refl _) h.2.2 rfl⟩

/-- A body's end, told to the round. -/
theorem round_told {P : Program} {α : Type} {Wr : TypeId → Prop} {B : Nat} {fn : FuncId} {tmps : Array Value} {ps : Array Tmp} {assign body : Code} {I : List α → World → Prop} {Ix : Code → List α → World → Prop} {pre pre' : List α} {W : World}
    (hI : OwnFrom B I) (hIx : ∀ c, OwnFrom B (Ix c)) (h : Booked B (recOf fn tmps ps assign body B .ready none) I pre W) :
    ∀ (e : Exit) (a : Act) (W3 : World), ownPostT Wr B I Ix pre' (W.putObj (B + 1) (.loop (recOf fn tmps ps assign body B .busy none))) e a W3 →
      roundPost P (B + 1) (RndPost Wr (B + 2) (Booked B (recOf fn tmps ps assign body B .ready none) I) (fun pre W => ∃ c, Booked B (recOf fn tmps ps assign body B .done (some c)) (Ix c) pre W) pre' W) e a W3 := by
  have hb := booked_turn (I' := I) hI h (recOf fn tmps ps assign body B .busy none) (fun _ h => h)
  have k1 : KT Wr (B + 2) W (W.putObj (B + 1) (.loop (recOf fn tmps ps assign body B .busy none))) := KT.put Wr W _ (by omega)
  intro e a W3 hp
  cases e with
  | normal =>
    obtain ⟨hk, hi⟩ := hp
    have h3 : Booked B (recOf fn tmps ps assign body B .busy none) I pre' W3 := booked_kept hb hk hi
    exact ⟨_, _, run_endRound none h3.2.1, (k1.trans (hk.more (by omega))).trans (KT.put Wr W3 _ (by omega)), .inl ⟨rfl, booked_turn hI h3 _ (fun _ h => h)⟩⟩
  | ret =>
    obtain ⟨hk, hi⟩ := hp
    have h3 : Booked B (recOf fn tmps ps assign body B .busy none) (Ix .ret) pre' W3 := booked_kept hb hk hi
    exact ⟨_, _, run_endRound (some .ret) h3.2.1, (k1.trans (hk.more (by omega))).trans (KT.put Wr W3 _ (by omega)), .inr ⟨rfl, .ret, booked_turn (hIx _) h3 _ (fun _ h => h)⟩⟩
  | exit id =>
    obtain ⟨hk, hi⟩ := hp
    have h3 : Booked B (recOf fn tmps ps assign body B .busy none) (Ix (.exit id)) pre' W3 := booked_kept hb hk hi
    exact ⟨_, _, run_endRound (some (.exit id)) h3.2.1, (k1.trans (hk.more (by omega))).trans (KT.put Wr W3 _ (by omega)), .inr ⟨rfl, .exit id, booked_turn (hIx _) h3 _ (fun _ h => h)⟩⟩
  | goto t =>
    obtain ⟨hk, hi⟩ := hp
    have h3 : Booked B (recOf fn tmps ps assign body B .busy none) (Ix (.goto t)) pre' W3 := booked_kept hb hk hi
    exact ⟨_, _, run_endRound (some (.goto t)) h3.2.1, (k1.trans (hk.more (by omega))).trans (KT.put Wr W3 _ (by omega)), .inr ⟨rfl, .goto t, booked_turn (hIx _) h3 _ (fun _ h => h)⟩⟩
  | panic ch => exact hp.elim
  | outgrown => exact hp.elim

/-- Who ranges: an invariant of its own on what has come. -/
theorem range_law {n : Nat} {P : Program} {α : Type} {g : Operand} {ps : Array Tmp} {assign body : Code} {Q : Exit → Act → World → Prop} {a : Act} {w : World}
    {gf : Nat} {lb : Array Value} (hg : a.eval g = .func (.func gf) #[] lb) (eg : ∀ args w, (callFunc gf args).run P w = .ok (.enter gf args) w)
    {encs : α → Array Value} {Ok : World → Prop} {Wr : TypeId → Prop} {xs : List α} (hseq : ∀ W', Below w.heap.size w W' → Seqs P gf lb encs Ok Wr xs W') (hps : ∀ x, (encs x).size = ps.size)
    (I : List α → World → Prop) (Ix : Code → List α → World → Prop) (hI : OwnFrom w.heap.size I) (hIx : ∀ c, OwnFrom w.heap.size (Ix c)) (h0 : I [] w) (hOk : ∀ pre W, I pre W → Ok W) (a₁ : α → Act)
    (hassign : ∀ (l : Nat) (x : α) (W : World) (K : Act → World → Prop), K (a₁ x) W →
      assign.wpIn (Fence.wide.inRound l) (n - 1 - 1) P (Exit.then K (fun _ _ _ => False)) { tmps := (ps.zip (encs x)).foldl (fun t (p, v) => t.setIfInBounds p v) a.tmps, defers := [] } W)
    (hbody : ∀ (l : Nat) (pre : List α) (x : α) (W : World), w.heap.size < l → I pre W → (∃ t, xs = pre ++ x :: t) → body.wpIn (Fence.wide.inRound l) (n - 1 - 1) P (ownPostT Wr w.heap.size I Ix (pre ++ [x]) W) (a₁ x) W)
    (hdone : ∀ (D : Nat) (W : World), w.heap.size ≤ D → I xs W → W.heap[D]? = some (.deferred (some [])) → Q .normal { a with defers := { target := .collected D, args := #[] } :: a.defers } W)
    (hstop : ∀ (D : Nat) (c : Code) (pre : List α) (W : World), w.heap.size ≤ D → (∃ t, xs = pre ++ t) → Ix c pre W → W.heap[D]? = some (.deferred (some [])) → c.wpIn Fence.wide n P Q { a with defers := { target := .collected D, args := #[] } :: a.defers } W) :
    (Code.rangeFunc g ps assign body).wpIn Fence.wide n P Q a w := by
  refine wpIn_rangeFunc ?_
  intro fn hfn
  obtain ⟨B, hB⟩ : ∃ B, B = w.heap.size := ⟨_, rfl⟩
  obtain ⟨W1, hW1⟩ : ∃ W1, (w.alloc (.deferred (some []))).alloc (.loop (recOf fn a.tmps ps assign body B .ready none)) = W1 := ⟨_, rfl⟩
  have hs1 : W1.heap.size = B + 2 := by rw [← hW1, hB]; simp
  have hL1 : W1.heap[B + 1]? = some (.loop (recOf fn a.tmps ps assign body B .ready none)) := by
    have := World.alloc_heap_new (w.alloc (.deferred (some []))) (.loop (recOf fn a.tmps ps assign body B .ready none))
    rw [World.size_alloc, ← hB] at this; rw [← hW1]; exact this
  have hD1 : W1.heap[B]? = some (.deferred (some [])) := by
    rw [← hW1, hB]; exact (Below.heap_alloc _ _ _ (by simp)).trans (World.alloc_heap_new w _)
  have hI1 : I [] W1 := by rw [← hW1]; exact hI.alloc _ (hI.alloc _ h0)
  have hb1 : Below w.heap.size w W1 := by rw [← hW1]; exact ((Below.refl _ w).alloc (Nat.le_refl _) _).alloc (by simp) _
  have hsq := hseq W1 hb1
  have he : (Instr.enterLoop fn a.tmps ps assign body none).run P w = .ok (B + 1, [{ target := .collected B, args := #[] }]) W1 := by
    rw [← hW1, hB]; exact run_enterLoop_outer _ _ _ _ _
  rw [← hB] at hI hIx hbody hdone hstop
  clear hseq hb1 h0 hW1 hB
  refine ⟨B + 1, [{ target := .collected B, args := #[] }], W1, { target := .fn (.func gf) lb, args := #[.func (.yield (B + 1)) #[] #[]] }, W1, gf, #[.func (.yield (B + 1)) #[] #[]] ++ lb, W1, he, ?_, ?_, ?_, (fun h => by cases h), ?_⟩
  · simp only [resolve, hg]
    simp [go_sem]
  · intro _ _; trivial
  · simp [invoke, go_sem, eg]
  · refine (callsIn_wide.2 (hsq (B + 1) (Booked B (recOf fn a.tmps ps assign body B .ready none) I) (fun pre W => ∃ c, Booked B (recOf fn a.tmps ps assign body B .done (some c)) (Ix c) pre W)
      (by rw [hs1]; exact booked_own hI)
      (by rw [hs1]; exact fun s A C row hs hg hr => by obtain ⟨c, hc⟩ := hs; exact ⟨c, booked_own (hIx c) s A C row hc hg hr⟩)
      (fun pre W h => hOk pre W h.1) ?_ ⟨hI1, hL1, hD1⟩)).mono ?_
    · intro pre x W hi hx m
      rw [hs1]
      have key := roundIn_of_wpIn (n := n - 1 - 1) (R := RndPost Wr (B + 2) (Booked B (recOf fn a.tmps ps assign body B .ready none) I) (fun pre W => ∃ c, Booked B (recOf fn a.tmps ps assign body B .done (some c)) (Ix c) pre W) (pre ++ [x]) W) hfn
        (hassign (B + 1) x W _ ⟨_, run_beginRound hi.2.1 rfl, wpIn_mono (hbody (B + 1) pre x _ (by omega) (hI.putObj _ hi.1 (by omega) hi.2.1 rfl) hx) (round_told (P := P) hI hIx hi)⟩)
      exact ⟨fn, _, assign, body, run_yield (P := P) (args := encs x) hi.2.1 (hps x), key.1, fun c cs _ => key.2 c cs (room_wide _)⟩
    · rintro e W2 ⟨⟨v, rfl⟩, (hi | ⟨pre, hx, c, hi⟩)⟩
      · exact ⟨none, _, run_endLoop (P := P) hi.2.1 (by simp), hdone _ _ (Nat.le_refl _) (hI.putObj _ hi.1 (by omega) hi.2.1 rfl) ((World.putObj_heap_other (by omega)).trans hi.2.2)⟩
      · exact ⟨some c, _, run_endLoop (P := P) hi.2.1 (by simp), hstop _ c pre _ (Nat.le_refl _) hx ((hIx c).putObj _ hi.1 (by omega) hi.2.1 rfl) ((World.putObj_heap_other (by omega)).trans hi.2.2)⟩
end Go.Proofs.YtidlhajibjnkeaaGreatDoor
