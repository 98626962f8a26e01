/- Ranges over functions that make the values that they hand on (frame's Scan does): what is ranged over, by a relation of what comes. -/
import Derived.Test.YtainkmbjllklaaaDoorRangeW
namespace Go.Proofs.YtainkmbjllklaaaDoor
open Go.RowKit

/-- What is ranged over: each thing comes as some values that stand in a relation to it. -/
def SeqsV {α : Type} (Tw : TypeId → Prop) (P : Program) (gf : Nat) (lb : Array Value) (R : α → Array Value → World → Prop) (Ok : World → Prop) (Wr : TypeId → Prop) (xs : List α) (W : World) : Prop :=
  ∀ (l : Nat) (J Jx : List α → World → Prop), OwnFromT Tw W.heap.size J → OwnFromT Tw W.heap.size Jx → (∀ pre W1, J pre W1 → Ok W1) →
    (∀ pre x args W1, J pre W1 → R x args W1 → (∃ t, xs = pre ++ x :: t) → Yld P l args W1 (RndPost Wr W.heap.size J Jx (pre ++ [x]) W1)) →
    J [] W → Calls P gf (#[.func (.yield l) #[] #[]] ++ lb) W fun e W' => (∃ v, e = .returned v) ∧ (J xs W' ∨ ∃ pre, (∃ t, xs = pre ++ t) ∧ Jx pre W')
/-- Values that are told ahead are a case of it. -/
theorem SeqsW.toV {α : Type} {Tw : TypeId → Prop} {P : Program} {gf : Nat} {lb : Array Value} {encs : α → Array Value} {Ok : World → Prop} {Wr : TypeId → Prop} {xs : List α} {W : World} (h : SeqsW Tw P gf lb encs Ok Wr xs W) : SeqsV Tw P gf lb (fun x args _ => args = encs x) Ok Wr xs W :=
  fun l J Jx h1 h2 h3 h4 h5 => h l J Jx h1 h2 h3 (fun pre x W1 hj hx => h4 pre x _ W1 hj rfl hx) h5
/-- Who ranges over what makes the values that it hands on: an invariant of its own on what has come. -/
theorem range_lawV {Tw : TypeId → Prop} {n : Nat} {P : Program} {α : Type} {g : Operand} {ps : Array Tmp} {assign body : Code} {Q : Exit → Act → World → Prop} {a : Act} {w : World}
    {gf : Nat} {lb : Array Value} (hg : a.eval g = .func (.func gf) #[] lb) (eg : ∀ args w, (callFunc gf args).run P w = .ok (.enter gf args) w)
    {R : α → Array Value → World → Prop} {Ok : World → Prop} {Wr : TypeId → Prop} {xs : List α} (hseq : ∀ W', Below w.heap.size w W' → SeqsV Tw P gf lb R Ok Wr xs W') (hps : ∀ x args W, R x args W → args.size = ps.size) (hRo : ∀ x args, OwnFrom w.heap.size (fun (_ : Unit) W => R x args W))
    (I : List α → World → Prop) (Ix : Code → List α → World → Prop) (hIw : OwnFromT Tw w.heap.size I) (hIxw : ∀ c, OwnFromT Tw w.heap.size (Ix c)) (h0 : I [] w) (hOk : ∀ pre W, I pre W → Ok W) (a₁ : Array Value → Act)
    (hassign : ∀ (l : Nat) (x : α) (args : Array Value) (W : World) (K : Act → World → Prop), R x args W → K (a₁ args) W →
      assign.wpIn (Fence.wide.inRound l) (n - 1 - 1) P (Exit.then K (fun _ _ _ => False)) { tmps := (ps.zip args).foldl (fun t (p, v) => t.setIfInBounds p v) a.tmps, defers := [] } W)
    (hbody : ∀ (l : Nat) (pre : List α) (x : α) (args : Array Value) (W : World), w.heap.size < l → I pre W → R x args W → (∃ t, xs = pre ++ x :: t) → body.wpIn (Fence.wide.inRound l) (n - 1 - 1) P (ownPostT Wr w.heap.size I Ix (pre ++ [x]) W) (a₁ args) W)
    (hdone : ∀ (D : Nat) (W : World), w.heap.size ≤ D → I xs W → W.heap[D]? = some (.deferred (some [])) → Q .normal { a with defers := { target := .collected D, args := #[] } :: a.defers } W)
    (hstop : ∀ (D : Nat) (c : Code) (pre : List α) (W : World), w.heap.size ≤ D → (∃ t, xs = pre ++ t) → Ix c pre W → W.heap[D]? = some (.deferred (some [])) → c.wpIn Fence.wide n P Q { a with defers := { target := .collected D, args := #[] } :: a.defers } W) :
    (Code.rangeFunc g ps assign body).wpIn Fence.wide n P Q a w := by
  have hI := hIw.plain
  have hIx := fun c => (hIxw c).plain
  refine wpIn_rangeFunc ?_
  intro fn hfn
  obtain ⟨B, hB⟩ : ∃ B, B = w.heap.size := ⟨_, rfl⟩
  obtain ⟨W1, hW1⟩ : ∃ W1, (w.alloc (.deferred (some []))).alloc (.loop (recOf fn a.tmps ps assign body B .ready none)) = W1 := ⟨_, rfl⟩
  have hs1 : W1.heap.size = B + 2 := by rw [← hW1, hB]; simp
  have hL1 : W1.heap[B + 1]? = some (.loop (recOf fn a.tmps ps assign body B .ready none)) := by
    have := World.alloc_heap_new (w.alloc (.deferred (some []))) (.loop (recOf fn a.tmps ps assign body B .ready none))
    rw [World.size_alloc, ← hB] at this; rw [← hW1]; exact this
  have hD1 : W1.heap[B]? = some (.deferred (some [])) := by
    rw [← hW1, hB]; exact (Below.heap_alloc _ _ _ (by simp)).trans (World.alloc_heap_new w _)
  have hI1 : I [] W1 := by rw [← hW1]; exact hI.alloc _ (hI.alloc _ h0)
  have hb1 : Below w.heap.size w W1 := by rw [← hW1]; exact ((Below.refl _ w).alloc (Nat.le_refl _) _).alloc (by simp) _
  have hsq := hseq W1 hb1
  have he : (Instr.enterLoop fn a.tmps ps assign body none).run P w = .ok (B + 1, [{ target := .collected B, args := #[] }]) W1 := by
    rw [← hW1, hB]; exact run_enterLoop_outer _ _ _ _ _
  rw [← hB] at hI hIx hIw hIxw hRo hbody hdone hstop
  clear hseq hb1 h0 hW1 hB
  refine ⟨B + 1, [{ target := .collected B, args := #[] }], W1, { target := .fn (.func gf) lb, args := #[.func (.yield (B + 1)) #[] #[]] }, W1, gf, #[.func (.yield (B + 1)) #[] #[]] ++ lb, W1, he, ?_, ?_, ?_, (fun h => by cases h), ?_⟩
  · simp only [resolve, hg]
    simp [go_sem]
  · intro _ _; trivial
  · simp [invoke, go_sem, eg]
  · refine (callsIn_wide.2 (hsq (B + 1) (Booked B (recOf fn a.tmps ps assign body B .ready none) I) (fun pre W => ∃ c, Booked B (recOf fn a.tmps ps assign body B .done (some c)) (Ix c) pre W)
      (by rw [hs1]; exact booked_ownT hIw)
      (by rw [hs1]; exact fun s A C row hs hg hr => by obtain ⟨c, hc⟩ := hs; exact ⟨c, booked_ownT (hIxw c) s A C row hc hg hr⟩)
      (fun pre W h => hOk pre W h.1) ?_ ⟨hI1, hL1, hD1⟩)).mono ?_
    · intro pre x args W hi hR hx m
      rw [hs1]
      have key := roundIn_of_wpIn (n := n - 1 - 1) (R := RndPost Wr (B + 2) (Booked B (recOf fn a.tmps ps assign body B .ready none) I) (fun pre W => ∃ c, Booked B (recOf fn a.tmps ps assign body B .done (some c)) (Ix c) pre W) (pre ++ [x]) W) hfn
        (hassign (B + 1) x args W _ hR ⟨_, run_beginRound hi.2.1 rfl, wpIn_mono (hbody (B + 1) pre x args _ (by omega) (hI.putObj _ hi.1 (by omega) hi.2.1 rfl) ((hRo x args).putObj (s := ()) _ hR (by omega) hi.2.1 rfl) hx) (round_told (P := P) hI hIx hi)⟩)
      exact ⟨fn, _, assign, body, run_yield (P := P) (args := args) hi.2.1 (hps x args W hR), key.1, fun c cs _ => key.2 c cs (room_wide _)⟩
    · rintro e W2 ⟨⟨v, rfl⟩, (hi | ⟨pre, hx, c, hi⟩)⟩
      · exact ⟨none, _, run_endLoop (P := P) hi.2.1 (by simp), hdone _ _ (Nat.le_refl _) (hI.putObj _ hi.1 (by omega) hi.2.1 rfl) ((World.putObj_heap_other (by omega)).trans hi.2.2)⟩
      · exact ⟨some c, _, run_endLoop (P := P) hi.2.1 (by simp), hstop _ c pre _ (Nat.le_refl _) hx ((hIx c).putObj _ hi.1 (by omega) hi.2.1 rfl) ((World.putObj_heap_other (by omega)).trans hi.2.2)⟩
end Go.Proofs.YtainkmbjllklaaaDoor
