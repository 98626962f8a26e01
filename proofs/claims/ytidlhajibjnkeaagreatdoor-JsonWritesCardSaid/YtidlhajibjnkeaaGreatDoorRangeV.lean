import Derived.Test.YtidlhajibjnkeaaGreatDoorRange
/- Ranges over functions that write boxes of their own (Merge does): who ranges keeps an invariant that such boxes do not touch. -/
namespace Go.Proofs.YtidlhajibjnkeaaGreatDoor
open Go.RowKit

/-- An invariant that abides the turn of what is no cells, and of cells of the types Tw. -/
def OwnT (Tw : TypeId → Prop) {β : Type} (I : β → World → Prop) : Prop :=
  ∀ s W W' row, I s W → W.grownBy W' row → (∀ r, row = some r → ∃ o : Obj, W.heap[r]? = some o ∧ (o.isCells = false ∨ ∃ c T p, o = .cells c T p ∧ Tw T)) → I s W'
/-- The same of what lies from B on. -/
def OwnFromT (Tw : TypeId → Prop) {β : Type} (B : Nat) (I : β → World → Prop) : Prop :=
  ∀ s W W' row, I s W → W.grownBy W' row → (∀ r, row = some r → B ≤ r ∧ ∃ o : Obj, W.heap[r]? = some o ∧ (o.isCells = false ∨ ∃ c T p, o = .cells c T p ∧ Tw T)) → I s W'
section
variable {Tw : TypeId → Prop} {β : Type} {B B' : Nat} {I I' : β → World → Prop}
theorem OwnFromT.plain (h : OwnFromT Tw B I) : OwnFrom B I := fun s W W' row hs hg hr => h s W W' row hs hg (fun r e => by obtain ⟨h1, o, h2, h3⟩ := hr r e; exact ⟨h1, o, h2, .inl h3⟩)
theorem OwnT.from (h : OwnT Tw I) (B : Nat) : OwnFromT Tw B I := fun s W W' row hs hg hr => h s W W' row hs hg (fun r e => (hr r e).2)
theorem OwnFromT.and (h : OwnFromT Tw B I) (h' : OwnFromT Tw B I') : OwnFromT Tw B (fun s W => I s W ∧ I' s W) := fun s W W' row hs hg hr => ⟨h s W W' row hs.1 hg hr, h' s W W' row hs.2 hg hr⟩
theorem OwnFromT.more (h : OwnFromT Tw B I) (hB : B ≤ B') : OwnFromT Tw B' I := fun s X Y row hs hg hr => h s X Y row hs hg (fun r e => ⟨Nat.le_trans hB (hr r e).1, (hr r e).2⟩)
/-- A box of such a type is written. -/
theorem OwnFromT.set (h : OwnFromT Tw B I) {s : β} {W : World} {b : Nat} {T : TypeId} {v : Value} (hs : I s W) (hB : B ≤ b) (hb : Boxed W b T v) (hT : Tw T) (v' : Value) : I s (W.setCell ⟨b, 0, none⟩ v') :=
  h s W _ (some b) hs (grownBy_setCell' W b v') (fun r e => by cases e; exact ⟨hB, _, hb, .inr ⟨_, _, _, rfl, hT⟩⟩)
end
theorem ownFromT_pure (Tw : TypeId → Prop) {β : Type} (B : Nat) (p : β → Prop) : OwnFromT Tw B (fun s (_ : World) => p s) := fun _ _ _ _ hs _ _ => hs
theorem ownFromT_below {Tw : TypeId → Prop} {β : Type} {n₀ B : Nat} {w₀ : World} (hn : n₀ ≤ w₀.heap.size) (hB : n₀ ≤ B) : OwnFromT Tw B (fun (_ : β) W => Below n₀ w₀ W) :=
  fun _ _ _ _ hs hg hr => hs.grown hg (Nat.le_trans hn hs.size) (fun k e => Nat.le_trans hB (hr k e).1)
theorem boxed_ownT {Tw : TypeId → Prop} {β : Type} (B : Nat) (t : TypeId) (f : β → Value) (ht : ¬ Tw t) : OwnT Tw (fun s W => Boxed W B t (f s)) := fun s X Y row hs hg hrow =>
  hs.kept hg (fun e' => by
    obtain ⟨o, ho, hc⟩ := hrow B e'.symm
    rw [show X.heap[B]? = _ from hs] at ho
    cases ho
    rcases hc with hc | ⟨c, T, p, hc, hT⟩
    · cases hc
    · cases hc; exact ht hT)
theorem boxRow_ownT {Tw : TypeId → Prop} {β : Type} (n₀ B : Nat) (T E : TypeId) (f : β → List Value) (hT : ¬ Tw T) (hE : ¬ Tw E) : OwnT Tw (fun s W => BoxRow n₀ B T E W (f s)) := by
  rintro s X Y row ⟨v, hv, hr⟩ hg hrow
  refine ⟨v, boxed_ownT (β := Unit) B T (fun _ => v) hT () X Y row hv hg hrow, hr.kept hg ?_⟩
  rcases hr.2 with ⟨rfl, _⟩ | ⟨g, cap, cur, rfl, _, hgb, _⟩
  · exact .inl rfl
  · refine .inr fun e' => ?_
    obtain ⟨o, ho, hc⟩ := hrow g (by simpa [Value.ownBlock] using e'.symm)
    rw [hgb] at ho
    cases ho
    rcases hc with hc | ⟨c, T, p, hc, hT'⟩
    · cases hc
    · cases hc; exact hE hT'
/-- What is ranged over, and may write boxes of the types Tw. -/
def SeqsW {α : Type} (Tw : TypeId → Prop) (P : Program) (gf : Nat) (lb : Array Value) (encs : α → Array Value) (Ok : World → Prop) (Wr : TypeId → Prop) (xs : List α) (W : World) : Prop :=
  ∀ (l : Nat) (J Jx : List α → World → Prop), OwnFromT Tw W.heap.size J → OwnFromT Tw W.heap.size Jx → (∀ pre W1, J pre W1 → Ok W1) →
    (∀ pre x W1, J pre W1 → (∃ t, xs = pre ++ x :: t) → Yld P l (encs x) W1 (RndPost Wr W.heap.size J Jx (pre ++ [x]) W1)) →
    J [] W → Calls P gf (#[.func (.yield l) #[] #[]] ++ lb) W fun e W' => (∃ v, e = .returned v) ∧ (J xs W' ∨ ∃ pre, (∃ t, xs = pre ++ t) ∧ Jx pre W')
theorem Seqs.toW {α : Type} {Tw : TypeId → Prop} {P : Program} {gf : Nat} {lb : Array Value} {encs : α → Array Value} {Ok : World → Prop} {Wr : TypeId → Prop} {xs : List α} {W : World} (h : Seqs P gf lb encs Ok Wr xs W) : SeqsW Tw P gf lb encs Ok Wr xs W :=
  fun l J Jx h1 h2 h3 h4 h5 => h l J Jx h1.plain h2.plain h3 h4 h5
theorem booked_ownT {Tw : TypeId → Prop} {α : Type} {B : Nat} {r : Loop} {I : List α → World → Prop} (hI : OwnFromT Tw B I) : OwnFromT Tw (B + 2) (Booked B r I) := by
  intro s A C row ⟨h1, h2, h3⟩ hg hr
  have hne : ∀ k, k < B + 2 → some k ≠ row := fun k hk e => by have := (hr k e.symm).1; omega
  exact ⟨hI _ _ _ _ h1 hg (fun r e => ⟨by have := (hr r e).1; omega, (hr r e).2⟩), (hg.block _ (Array.getElem?_eq_some_iff.1 h2).1 (hne _ (by omega))).trans h2, (hg.block _ (Array.getElem?_eq_some_iff.1 h3).1 (hne _ (by omega))).trans h3⟩
/-- Who ranges over what writes boxes of its own: an invariant of its own on what has come. -/
theorem range_lawW {Tw : TypeId → Prop} {n : Nat} {P : Program} {α : Type} {g : Operand} {ps : Array Tmp} {assign body : Code} {Q : Exit → Act → World → Prop} {a : Act} {w : World}
    {gf : Nat} {lb : Array Value} (hg : a.eval g = .func (.func gf) #[] lb) (eg : ∀ args w, (callFunc gf args).run P w = .ok (.enter gf args) w)
    {encs : α → Array Value} {Ok : World → Prop} {Wr : TypeId → Prop} {xs : List α} (hseq : ∀ W', Below w.heap.size w W' → SeqsW Tw P gf lb encs Ok Wr xs W') (hps : ∀ x, (encs x).size = ps.size)
    (I : List α → World → Prop) (Ix : Code → List α → World → Prop) (hIw : OwnFromT Tw w.heap.size I) (hIxw : ∀ c, OwnFromT Tw w.heap.size (Ix c)) (h0 : I [] w) (hOk : ∀ pre W, I pre W → Ok W) (a₁ : α → Act)
    (hassign : ∀ (l : Nat) (x : α) (W : World) (K : Act → World → Prop), K (a₁ x) W →
      assign.wpIn (Fence.wide.inRound l) (n - 1 - 1) P (Exit.then K (fun _ _ _ => False)) { tmps := (ps.zip (encs x)).foldl (fun t (p, v) => t.setIfInBounds p v) a.tmps, defers := [] } W)
    (hbody : ∀ (l : Nat) (pre : List α) (x : α) (W : World), w.heap.size < l → I pre W → (∃ t, xs = pre ++ x :: t) → body.wpIn (Fence.wide.inRound l) (n - 1 - 1) P (ownPostT Wr w.heap.size I Ix (pre ++ [x]) W) (a₁ x) W)
    (hdone : ∀ (D : Nat) (W : World), w.heap.size ≤ D → I xs W → W.heap[D]? = some (.deferred (some [])) → Q .normal { a with defers := { target := .collected D, args := #[] } :: a.defers } W)
    (hstop : ∀ (D : Nat) (c : Code) (pre : List α) (W : World), w.heap.size ≤ D → (∃ t, xs = pre ++ t) → Ix c pre W → W.heap[D]? = some (.deferred (some [])) → c.wpIn Fence.wide n P Q { a with defers := { target := .collected D, args := #[] } :: a.defers } W) :
    (Code.rangeFunc g ps assign body).wpIn Fence.wide n P Q a w := by
  have hI := hIw.plain
  have hIx := fun c => (hIxw c).plain
  refine wpIn_rangeFunc ?_
  intro fn hfn
  obtain ⟨B, hB⟩ : ∃ B, B = w.heap.size := ⟨_, rfl⟩
  obtain ⟨W1, hW1⟩ : ∃ W1, (w.alloc (.deferred (some []))).alloc (.loop (recOf fn a.tmps ps assign body B .ready none)) = W1 := ⟨_, rfl⟩
  have hs1 : W1.heap.size = B + 2 := by rw [← hW1, hB]; simp
  have hL1 : W1.heap[B + 1]? = some (.loop (recOf fn a.tmps ps assign body B .ready none)) := by
    have := World.alloc_heap_new (w.alloc (.deferred (some []))) (.loop (recOf fn a.tmps ps assign body B .ready none))
    rw [World.size_alloc, ← hB] at this; rw [← hW1]; exact this
  have hD1 : W1.heap[B]? = some (.deferred (some [])) := by
    rw [← hW1, hB]; exact (Below.heap_alloc _ _ _ (by simp)).trans (World.alloc_heap_new w _)
  have hI1 : I [] W1 := by rw [← hW1]; exact hI.alloc _ (hI.alloc _ h0)
  have hb1 : Below w.heap.size w W1 := by rw [← hW1]; exact ((Below.refl _ w).alloc (Nat.le_refl _) _).alloc (by simp) _
  have hsq := hseq W1 hb1
  have he : (Instr.enterLoop fn a.tmps ps assign body none).run P w = .ok (B + 1, [{ target := .collected B, args := #[] }]) W1 := by
    rw [← hW1, hB]; exact run_enterLoop_outer _ _ _ _ _
  rw [← hB] at hI hIx hIw hIxw hbody hdone hstop
  clear hseq hb1 h0 hW1 hB
  refine ⟨B + 1, [{ target := .collected B, args := #[] }], W1, { target := .fn (.func gf) lb, args := #[.func (.yield (B + 1)) #[] #[]] }, W1, gf, #[.func (.yield (B + 1)) #[] #[]] ++ lb, W1, he, ?_, ?_, ?_, (fun h => by cases h), ?_⟩
  · simp only [resolve, hg]
    simp [go_sem]
  · intro _ _; trivial
  · simp [invoke, go_sem, eg]
  · refine (callsIn_wide.2 (hsq (B + 1) (Booked B (recOf fn a.tmps ps assign body B .ready none) I) (fun pre W => ∃ c, Booked B (recOf fn a.tmps ps assign body B .done (some c)) (Ix c) pre W)
      (by rw [hs1]; exact booked_ownT hIw)
      (by rw [hs1]; exact fun s A C row hs hg hr => by obtain ⟨c, hc⟩ := hs; exact ⟨c, booked_ownT (hIxw c) s A C row hc hg hr⟩)
      (fun pre W h => hOk pre W h.1) ?_ ⟨hI1, hL1, hD1⟩)).mono ?_
    · intro pre x W hi hx m
      rw [hs1]
      have key := roundIn_of_wpIn (n := n - 1 - 1) (R := RndPost Wr (B + 2) (Booked B (recOf fn a.tmps ps assign body B .ready none) I) (fun pre W => ∃ c, Booked B (recOf fn a.tmps ps assign body B .done (some c)) (Ix c) pre W) (pre ++ [x]) W) hfn
        (hassign (B + 1) x W _ ⟨_, run_beginRound hi.2.1 rfl, wpIn_mono (hbody (B + 1) pre x _ (by omega) (hI.putObj _ hi.1 (by omega) hi.2.1 rfl) hx) (round_told (P := P) hI hIx hi)⟩)
      exact ⟨fn, _, assign, body, run_yield (P := P) (args := encs x) hi.2.1 (hps x), key.1, fun c cs _ => key.2 c cs (room_wide _)⟩
    · rintro e W2 ⟨⟨v, rfl⟩, (hi | ⟨pre, hx, c, hi⟩)⟩
      · exact ⟨none, _, run_endLoop (P := P) hi.2.1 (by simp), hdone _ _ (Nat.le_refl _) (hI.putObj _ hi.1 (by omega) hi.2.1 rfl) ((World.putObj_heap_other (by omega)).trans hi.2.2)⟩
      · exact ⟨some c, _, run_endLoop (P := P) hi.2.1 (by simp), hstop _ c pre _ (Nat.le_refl _) hx ((hIx c).putObj _ hi.1 (by omega) hi.2.1 rfl) ((World.putObj_heap_other (by omega)).trans hi.2.2)⟩
end Go.Proofs.YtidlhajibjnkeaaGreatDoor

/- Ranges over functions that make the values that they hand on (frame's Scan does): what is ranged over, by a relation of what comes. -/
namespace Go.Proofs.YtidlhajibjnkeaaGreatDoor
open Go.RowKit

/-- What is ranged over: each thing comes as some values that stand in a relation to it. -/
def SeqsV {α : Type} (Tw : TypeId → Prop) (P : Program) (gf : Nat) (lb : Array Value) (R : α → Array Value → World → Prop) (Ok : World → Prop) (Wr : TypeId → Prop) (xs : List α) (W : World) : Prop :=
  ∀ (l : Nat) (J Jx : List α → World → Prop), OwnFromT Tw W.heap.size J → OwnFromT Tw W.heap.size Jx → (∀ pre W1, J pre W1 → Ok W1) →
    (∀ pre x args W1, J pre W1 → R x args W1 → (∃ t, xs = pre ++ x :: t) → Yld P l args W1 (RndPost Wr W.heap.size J Jx (pre ++ [x]) W1)) →
    J [] W → Calls P gf (#[.func (.yield l) #[] #[]] ++ lb) W fun e W' => (∃ v, e = .returned v) ∧ (J xs W' ∨ ∃ pre, (∃ t, xs = pre ++ t) ∧ Jx pre W')
/-- Values that are told ahead are a case of it. -/
theorem SeqsW.toV {α : Type} {Tw : TypeId → Prop} {P : Program} {gf : Nat} {lb : Array Value} {encs : α → Array Value} {Ok : World → Prop} {Wr : TypeId → Prop} {xs : List α} {W : World} (h : SeqsW Tw P gf lb encs Ok Wr xs W) : SeqsV Tw P gf lb (fun x args _ => args = encs x) Ok Wr xs W :=
  fun l J Jx h1 h2 h3 h4 h5 => h l J Jx h1 h2 h3 (fun pre x W1 hj hx => h4 pre x _ W1 hj rfl hx) h5
/-- Who ranges over what makes the values that it hands on: an invariant of its own on what has come. -/
theorem range_lawV {Tw : TypeId → Prop} {n : Nat} {P : Program} {α : Type} {g : Operand} {ps : Array Tmp} {assign body : Code} {Q : Exit → Act → World → Prop} {a : Act} {w : World}
    {gf : Nat} {lb : Array Value} (hg : a.eval g = .func (.func gf) #[] lb) (eg : ∀ args w, (callFunc gf args).run P w = .ok (.enter gf args) w)
    {R : α → Array Value → World → Prop} {Ok : World → Prop} {Wr : TypeId → Prop} {xs : List α} (hseq : ∀ W', Below w.heap.size w W' → SeqsV Tw P gf lb R Ok Wr xs W') (hps : ∀ x args W, R x args W → args.size = ps.size) (hRo : ∀ x args, OwnFrom w.heap.size (fun (_ : Unit) W => R x args W))
    (I : List α → World → Prop) (Ix : Code → List α → World → Prop) (hIw : OwnFromT Tw w.heap.size I) (hIxw : ∀ c, OwnFromT Tw w.heap.size (Ix c)) (h0 : I [] w) (hOk : ∀ pre W, I pre W → Ok W) (a₁ : Array Value → Act)
    (hassign : ∀ (l : Nat) (x : α) (args : Array Value) (W : World) (K : Act → World → Prop), R x args W → K (a₁ args) W →
      assign.wpIn (Fence.wide.inRound l) (n - 1 - 1) P (Exit.then K (fun _ _ _ => False)) { tmps := (ps.zip args).foldl (fun t (p, v) => t.setIfInBounds p v) a.tmps, defers := [] } W)
    (hbody : ∀ (l : Nat) (pre : List α) (x : α) (args : Array Value) (W : World), w.heap.size < l → I pre W → R x args W → (∃ t, xs = pre ++ x :: t) → body.wpIn (Fence.wide.inRound l) (n - 1 - 1) P (ownPostT Wr w.heap.size I Ix (pre ++ [x]) W) (a₁ args) W)
    (hdone : ∀ (D : Nat) (W : World), w.heap.size ≤ D → I xs W → W.heap[D]? = some (.deferred (some [])) → Q .normal { a with defers := { target := .collected D, args := #[] } :: a.defers } W)
    (hstop : ∀ (D : Nat) (c : Code) (pre : List α) (W : World), w.heap.size ≤ D → (∃ t, xs = pre ++ t) → Ix c pre W → W.heap[D]? = some (.deferred (some [])) → c.wpIn Fence.wide n P Q { a with defers := { target := .collected D, args := #[] } :: a.defers } W) :
    (Code.rangeFunc g ps assign body).wpIn Fence.wide n P Q a w := by
  have hI := hIw.plain
  have hIx := fun c => (hIxw c).plain
  refine wpIn_rangeFunc ?_
  intro fn hfn
  obtain ⟨B, hB⟩ : ∃ B, B = w.heap.size := ⟨_, rfl⟩
  obtain ⟨W1, hW1⟩ : ∃ W1, (w.alloc (.deferred (some []))).alloc (.loop (recOf fn a.tmps ps assign body B .ready none)) = W1 := ⟨_, rfl⟩
  have hs1 : W1.heap.size = B + 2 := by rw [← hW1, hB]; simp
  have hL1 : W1.heap[B + 1]? = some (.loop (recOf fn a.tmps ps assign body B .ready none)) := by
    have := World.alloc_heap_new (w.alloc (.deferred (some []))) (.loop (recOf fn a.tmps ps assign body B .ready none))
    rw [World.size_alloc, ← hB] at this; rw [← hW1]; exact this
  have hD1 : W1.heap[B]? = some (.deferred (some [])) := by
    rw [← hW1, hB]; exact (Below.heap_alloc _ _ _ (by simp)).trans (World.alloc_heap_new w _)
  have hI1 : I [] W1 := by rw [← hW1]; exact hI.alloc _ (hI.alloc _ h0)
  have hb1 : Below w.heap.size w W1 := by rw [← hW1]; exact ((Below.refl _ w).alloc (Nat.le_refl _) _).alloc (by simp) _
  have hsq := hseq W1 hb1
  have he : (Instr.enterLoop fn a.tmps ps assign body none).run P w = .ok (B + 1, [{ target := .collected B, args := #[] }]) W1 := by
    rw [← hW1, hB]; exact run_enterLoop_outer _ _ _ _ _
  rw [← hB] at hI hIx hIw hIxw hRo hbody hdone hstop
  clear hseq hb1 h0 hW1 hB
  refine ⟨B + 1, [{ target := .collected B, args := #[] }], W1, { target := .fn (.func gf) lb, args := #[.func (.yield (B + 1)) #[] #[]] }, W1, gf, #[.func (.yield (B + 1)) #[] #[]] ++ lb, W1, he, ?_, ?_, ?_, (fun h => by cases h), ?_⟩
  · simp only [resolve, hg]
    simp [go_sem]
  · intro _ _; trivial
  · simp [invoke, go_sem, eg]
  · refine (callsIn_wide.2 (hsq (B + 1) (Booked B (recOf fn a.tmps ps assign body B .ready none) I) (fun pre W => ∃ c, Booked B (recOf fn a.tmps ps assign body B .done (some c)) (Ix c) pre W)
      (by rw [hs1]; exact booked_ownT hIw)
      (by rw [hs1]; exact fun s A C row hs hg hr => by obtain ⟨c, hc⟩ := hs; exact ⟨c, booked_ownT (hIxw c) s A C row hc hg hr⟩)
      (fun pre W h => hOk pre W h.1) ?_ ⟨hI1, hL1, hD1⟩)).mono ?_
    · intro pre x args W hi hR hx m
      rw [hs1]
      have key := roundIn_of_wpIn (n := n - 1 - 1) (R := RndPost Wr (B + 2) (Booked B (recOf fn a.tmps ps assign body B .ready none) I) (fun pre W => ∃ c, Booked B (recOf fn a.tmps ps assign body B .done (some c)) (Ix c) pre W) (pre ++ [x]) W) hfn
        (hassign (B + 1) x args W _ hR ⟨_, run_beginRound hi.2.1 rfl, wpIn_mono (hbody (B + 1) pre x args _ (by omega) (hI.putObj _ hi.1 (by omega) hi.2.1 rfl) ((hRo x args).putObj (s := ()) _ hR (by omega) hi.2.1 rfl) hx) (round_told (P := P) hI hIx hi)⟩)
      exact ⟨fn, _, assign, body, run_yield (P := P) (args := args) hi.2.1 (hps x args W hR), key.1, fun c cs _ => key.2 c cs (room_wide _)⟩
    · rintro e W2 ⟨⟨v, rfl⟩, (hi | ⟨pre, hx, c, hi⟩)⟩
      · exact ⟨none, _, run_endLoop (P := P) hi.2.1 (by simp), hdone _ _ (Nat.le_refl _) (hI.putObj _ hi.1 (by omega) hi.2.1 rfl) ((World.putObj_heap_other (by omega)).trans hi.2.2)⟩
      · exact ⟨some c, _, run_endLoop (P := P) hi.2.1 (by simp), hstop _ c pre _ (Nat.le_refl _) hx ((hIx c).putObj _ hi.1 (by omega) hi.2.1 rfl) ((World.putObj_heap_other (by omega)).trans hi.2.2)⟩
end Go.Proofs.YtidlhajibjnkeaaGreatDoor
