/- Ranges over functions, what has come in a new variable. -/
import Derived.Test.YteibiaplmmdppaaRangeW
namespace Go.Proofs.Yteibiaplmmdppaa
open Go.RowKit

/-- Who ranges, where what has come is laid into a new variable ahead of the body. -/
theorem range_lawA {Tw : TypeId → Prop} {n : Nat} {P : Program} {α : Type} {g : Operand} {ps : Array Tmp} {assign body : Code} {Q : Exit → Act → World → Prop} {a : Act} {w : World}
    {gf : Nat} {lb : Array Value} (hg : a.eval g = .func (.func gf) #[] lb) (eg : ∀ args w, (callFunc gf args).run P w = .ok (.enter gf args) w)
    {encs : α → Array Value} {Ok : World → Prop} {Wr : TypeId → Prop} {xs : List α} (hseq : ∀ W', Below w.heap.size w W' → SeqsW Tw P gf lb encs Ok Wr xs W') (hps : ∀ x, (encs x).size = ps.size)
    (I : List α → World → Prop) (Ix : Code → List α → World → Prop) (hIw : OwnFromT Tw w.heap.size I) (hIxw : ∀ c, OwnFromT Tw w.heap.size (Ix c)) (h0 : I [] w) (hOk : ∀ pre W, I pre W → Ok W) (a₁ : α → Nat → Act) (ob : α → Obj)
    (hassign : ∀ (l : Nat) (x : α) (W : World) (K : Act → World → Prop), x ∈ xs → K (a₁ x W.heap.size) (W.alloc (ob x)) →
      assign.wpIn (Fence.wide.inRound l) (n - 1 - 1) P (Exit.then K (fun _ _ _ => False)) { tmps := (ps.zip (encs x)).foldl (fun t (p, v) => t.setIfInBounds p v) a.tmps, defers := [] } W)
    (hbody : ∀ (l : Nat) (pre : List α) (x : α) (b : Nat) (W : World), w.heap.size < l → w.heap.size ≤ b → W.heap[b]? = some (ob x) → I pre W → (∃ t, xs = pre ++ x :: t) → body.wpIn (Fence.wide.inRound l) (n - 1 - 1) P (ownPostT Wr w.heap.size I Ix (pre ++ [x]) W) (a₁ x b) W)
    (hdone : ∀ (D : Nat) (W : World), w.heap.size ≤ D → I xs W → W.heap[D]? = some (.deferred (some [])) → Q .normal { a with defers := { target := .collected D, args := #[] } :: a.defers } W)
    (hstop : ∀ (D : Nat) (c : Code) (pre : List α) (W : World), w.heap.size ≤ D → (∃ t, xs = pre ++ t) → Ix c pre W → W.heap[D]? = some (.deferred (some [])) → c.wpIn Fence.wide n P Q { a with defers := { target := .collected D, args := #[] } :: a.defers } W) :
    (Code.rangeFunc g ps assign body).wpIn Fence.wide n P Q a w := by
  have hI := hIw.plain
  have hIx := fun c => (hIxw c).plain
  refine wpIn_rangeFunc ?_
  intro fn hfn
  obtain ⟨B, hB⟩ : ∃ B, B = w.heap.size := ⟨_, rfl⟩
  obtain ⟨W1, hW1⟩ : ∃ W1, (w.alloc (.deferred (some []))).alloc (.loop (recOf fn a.tmps ps assign body B .ready none)) = W1 := ⟨_, rfl⟩
  have hs1 : W1.heap.size = B + 2 := by rw [← hW1, hB]; simp
  have hL1 : W1.heap[B + 1]? = some (.loop (recOf fn a.tmps ps assign body B .ready none)) := by
    have := World.alloc_heap_new (w.alloc (.deferred (some []))) (.loop (recOf fn a.tmps ps assign body B .ready none))
    rw [World.size_alloc, ← hB] at this; rw [← hW1]; exact this
  have hD1 : W1.heap[B]? = some (.deferred (some [])) := by
    rw [← hW1, hB]; exact (Below.heap_alloc _ _ _ (by simp)).trans (World.alloc_heap_new w _)
  have hI1 : I [] W1 := by rw [← hW1]; exact hI.alloc _ (hI.alloc _ h0)
  have hb1 : Below w.heap.size w W1 := by rw [← hW1]; exact ((Below.refl _ w).alloc (Nat.le_refl _) _).alloc (by simp) _
  have hsq := hseq W1 hb1
  have he : (Instr.enterLoop fn a.tmps ps assign body none).run P w = .ok (B + 1, [{ target := .collected B, args := #[] }]) W1 := by
    rw [← hW1, hB]; exact run_enterLoop_outer _ _ _ _ _
  rw [← hB] at hI hIx hIw hIxw hbody hdone hstop
  clear hseq hb1 h0 hW1 hB
  refine ⟨B + 1, [{ target := .collected B, args := #[] }], W1, { target := .fn (.func gf) lb, args := #[.func (.yield (B + 1)) #[] #[]] }, W1, gf, #[.func (.yield (B + 1)) #[] #[]] ++ lb, W1, he, ?_, ?_, ?_, (fun h => by cases h), ?_⟩
  · simp only [resolve, hg]
    simp [go_sem]
  · intro _ _; trivial
  · simp [invoke, go_sem, eg]
  · refine (callsIn_wide.2 (hsq (B + 1) (Booked B (recOf fn a.tmps ps assign body B .ready none) I) (fun pre W => ∃ c, Booked B (recOf fn a.tmps ps assign body B .done (some c)) (Ix c) pre W)
      (by rw [hs1]; exact booked_ownT hIw)
      (by rw [hs1]; exact fun s A C row hs hg hr => by obtain ⟨c, hc⟩ := hs; exact ⟨c, booked_ownT (hIxw c) s A C row hc hg hr⟩)
      (fun pre W h => hOk pre W h.1) ?_ ⟨hI1, hL1, hD1⟩)).mono ?_
    · intro pre x W hi hx m
      rw [hs1]
      have hi2 := (booked_own (r := recOf fn a.tmps ps assign body B .ready none) hI).alloc (ob x) hi
      have hlt : B + 1 < W.heap.size := (Array.getElem?_eq_some_iff.1 hi.2.1).1
      have key := roundIn_of_wpIn (n := n - 1 - 1) (R := RndPost Wr (B + 2) (Booked B (recOf fn a.tmps ps assign body B .ready none) I) (fun pre W => ∃ c, Booked B (recOf fn a.tmps ps assign body B .done (some c)) (Ix c) pre W) (pre ++ [x]) (W.alloc (ob x))) hfn
        (hassign (B + 1) x W _ (by obtain ⟨t, ht⟩ := hx; rw [ht]; simp) ⟨_, run_beginRound hi2.2.1 rfl, wpIn_mono (hbody (B + 1) pre x W.heap.size _ (by omega) (by omega) ((World.putObj_heap_other (by omega)).trans (World.alloc_heap_new W (ob x))) (hI.putObj _ hi2.1 (by omega) hi2.2.1 rfl) hx) (round_told (P := P) hI hIx hi2)⟩)
      have hyd : YieldAt Fence.wide m P (B + 1) (encs x) W (RndPost Wr (B + 2) (Booked B (recOf fn a.tmps ps assign body B .ready none) I) (fun pre W => ∃ c, Booked B (recOf fn a.tmps ps assign body B .done (some c)) (Ix c) pre W) (pre ++ [x]) (W.alloc (ob x))) :=
        ⟨fn, _, assign, body, run_yield (P := P) (args := encs x) hi.2.1 (hps x), key.1, fun c cs _ => key.2 c cs (room_wide _)⟩
      exact hyd.mono (fun e w h => ⟨(KT.alloc Wr (B + 2) W (ob x)).trans h.1, h.2⟩)
    · rintro e W2 ⟨⟨v, rfl⟩, (hi | ⟨pre, hx, c, hi⟩)⟩
      · exact ⟨none, _, run_endLoop (P := P) hi.2.1 (by simp), hdone _ _ (Nat.le_refl _) (hI.putObj _ hi.1 (by omega) hi.2.1 rfl) ((World.putObj_heap_other (by omega)).trans hi.2.2)⟩
      · exact ⟨some c, _, run_endLoop (P := P) hi.2.1 (by simp), hstop _ c pre _ (Nat.le_refl _) hx ((hIx c).putObj _ hi.1 (by omega) hi.2.1 rfl) ((World.putObj_heap_other (by omega)).trans hi.2.2)⟩
end Go.Proofs.Yteibiaplmmdppaa
