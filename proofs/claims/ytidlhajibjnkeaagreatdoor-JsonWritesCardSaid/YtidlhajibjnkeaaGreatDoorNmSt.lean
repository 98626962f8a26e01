import Derived.Test.YtidlhajibjnkeaaGreatDoorRange
import Derived.OwnWalkIn
import Derived.Shelf.RegionOpen
import Derived.TacticsInMore
import Derived.Maps.AppendAt
import Derived.Test.YtidlhajibjnkeaaGreatDoorRangeV
import Derived.Test.YtidlhajibjnkeaaGreatDoorJMems
import Derived.Test.YtidlhajibjnkeaaGreatDoorRjPln
import Derived.Deep.AppendLies
/- Two slices in boxes that grow in one statement, in whatever order. -/
namespace Go.Proofs.YtidlhajibjnkeaaGreatDoor
open Go.RowKit

/-- A region is walked on its own. -/
theorem cut_region {F : Fence} {n : Nat} {P : Program} {c : Code} {Q : Exit → Act → World → Prop} {a : Act} {w : World} (R : Act → World → Prop) (h : c.wpIn F n P (fun e a w => e = .normal ∧ R a w) a w) (hQ : ∀ a w, R a w → Q .normal a w) : c.wpIn F n P Q a w :=
  Code.wpIn_mono (fun e a w h => by obtain ⟨rfl, h⟩ := h; exact hQ a w h) h
/-- Nothing is deferred. -/
def noDefer (ops : Array Oper) : Bool := ops.all fun o => match o.op with | .defer _ => false | _ => true
/-- In a round a region goes as out of it, where nothing is deferred. -/
theorem any_inRound {F : Fence} {l n : Nat} {P : Program} {md : Region.Mode} {ops : Array Oper} {Q : Exit → Act → World → Prop} (hro : F.round = none) (hno : noDefer ops = true) :
    ∀ (fuel : Nat) (listed : Array Bool) (a : Act) (w : World), wpAnyIn F n P md ops Q fuel listed a w → wpAnyIn (F.inRound l) n P md ops Q fuel listed a w := by
  have hnd : ∀ (i : Nat) (o : Oper) c, ops[i]? = some o → o.op ≠ .defer c := by
    intro i o c hi hc
    obtain ⟨hlt, hi⟩ := Array.getElem?_eq_some_iff.1 hi
    have := (Array.all_eq_true.1 hno) i hlt
    rw [hi, hc] at this
    simp at this
  intro fuel
  induction fuel with
  | zero => intro listed a w h; exact h
  | succ fuel ih =>
    intro listed a w h
    refine ⟨h.1, fun i hi => ?_⟩
    have h2 := wpOpIn_mono (fun a w h => ih _ a w h) (h.2 i hi)
    unfold wpOpIn at h2 ⊢
    cases ho : ops[i]? with
    | none => simpa [ho] using h2
    | some o =>
      simp only [ho] at h2 ⊢
      have e : ∀ K, Oper.wpIn F n P o a w K Q → Oper.wpIn (F.inRound l) n P o a w K Q := by
        intro K h
        unfold Oper.wpIn at h ⊢
        rw [hro, Oper.semAt_none] at h
        rw [Fence.inRound_round, Oper.semAt_some _ _ _ (fun c => hnd i o c ho)]
        refine ⟨h.1, ?_⟩
        generalize (execOp a.eval o).run P w = r at h ⊢
        rcases r with ⟨v, w'⟩ | ⟨s, w'⟩
        · cases v <;> exact h.2
        · cases s <;> exact h.2
      split
      · next hw => simp only [hw, if_true] at h2; exact e _ h2
      · next hw => simp only [hw] at h2; exact h2
/-- Rows of unlike types lie apart. -/
theorem rows_apart {W : World} {b b' : Nat} {e e' : TypeId} {s s' k k' : Nat} {v v' : Value} {xs xs' : List Value} (h : W.ownsRow b e s v k xs) (h' : W.ownsRow b' e' s' v' k' xs') (hne : e ≠ e') : v.ownBlock = none ∨ v.ownBlock ≠ v'.ownBlock := by
  rcases h.2 with ⟨rfl, _⟩ | ⟨g, cap, cur, rfl, _, hg, _⟩
  · exact .inl rfl
  · rcases h'.2 with ⟨rfl, _⟩ | ⟨g', cap', cur', rfl, _, hg', _⟩
    · exact .inr (by simp [Value.ownBlock])
    · refine .inr fun q => ?_
      obtain rfl : g = g' := by simpa [Value.ownBlock] using q
      rw [hg] at hg'
      simp at hg'
      exact hne hg'.2
/-- An append in a region. -/
theorem step_appendIn {F : Fence} {n : Nat} {P : Program} {w : World} {ops : Array Oper} {o : Oper} {a : Act} {K : Act → World → Prop} {Q : Exit → Act → World → Prop} {N : Prop} (hg : o.guard = none) (s x : Operand) (t : TypeId)
    (hop : o.op = Op.call { callee := Callee.builtin Builtin.append, args := #[s, x], argTypes := #[t, t] }) {base : Nat} {e : TypeId} {i : TypeInfo} {z : Value} {bytes : Nat} (h1 : P.underlying t = some (.slice e)) (h2 : P.info? e = some i) (h3 : i.zero = some z) (h4 : i.size = 1) (h5 : i.bytes = bytes)
    (h6 : z.cells.size = 1) {v : Value} {k : Nat} {xs : List Value} (hs : a.eval s = v) (hown : w.ownsRow base e 1 v k xs) {b : Nat} {u : Value} (hx : a.eval x = .slice (some ⟨b, 0, none⟩) 1 1) (hb : Boxed w b e u) (hu : u.oneCell' = true)
    (b1 : k + 1 ≤ maxLen) (b2 : (k + 1) * bytes ≤ 140737488355328) (b3 : base ≤ w.heap.size) (hK : ∀ v' w', w'.ownsRow base e 1 v' (k + 1) (xs ++ [u]) → w.grownBy w' v.ownBlock → K (a.put o.dst v') w') :
    if Region.wanted o (yielded ops a.tmps) = true then Oper.wpIn F n P o a w K Q else N := by
  have hw : Region.wanted o (yielded ops a.tmps) = true := by simp [Region.wanted, hg]
  rw [if_pos hw]
  obtain ⟨v', w', hrun, r1, r2, _⟩ := run_append_own (P := P) w base t o.type e i z 1 bytes h1 h2 h3 h4 h5 h6 (by decide) v k xs hown ⟨b, 0, none⟩ 1 1 [u] rfl
    (fun j y hj => by
      have hj0 : j = 0 := by
        have := (List.getElem?_eq_some_iff.1 hj).1
        simp at this; exact this
      subst hj0
      simp at hj
      subst hj
      exact hb.cell) (by simpa using hu) b1 b2 b3
  unfold Oper.wpIn
  refine ⟨by simp [Oper.about, hop, resolve, Target.leads, Sem.run_pure], ?_⟩
  rw [Oper.semAt_plain F _ _ (by rw [hop]; intro c hc'; cases hc')]
  simp [execOp, hop, resolve, invoke, builtin, hs, hx, hrun, Result.andThen]
  exact hK v' w' r1 r2
/-- Two boxes, two rows, a third box; what lies on since a world. -/
structure PSt (n₀ D Ba Bb Bn : Nat) (Ta Tb Tn Ea Eb : TypeId) (W₀ W : World) (va vb vn ua ub : Value) (la lb : List Value) : Prop where
  ba : Boxed W Ba Ta va
  bb : Boxed W Bb Tb vb
  bn : Boxed W Bn Tn vn
  ra : W.ownsRow n₀ Ea 1 ua la.length la
  rb : W.ownsRow n₀ Eb 1 ub lb.length lb
  kt : KT (fun T => T = Ea ∨ T = Eb) n₀ W₀ W
  bl : Below D W₀ W
  sz : n₀ ≤ W.heap.size
  la : Ba < n₀ ∧ Bb < n₀ ∧ Bn < n₀ ∧ D ≤ Ba ∧ D ≤ Bb ∧ D ≤ n₀ ∧ Ba ≠ Bb ∧ Ba ≠ Bn ∧ Bb ≠ Bn
  ne : Ea ≠ Eb
section
variable {n₀ D Ba Bb Bn : Nat} {Ta Tb Tn Ea Eb : TypeId} {W₀ W w1 : World} {va vb vn ua ub ua' ub' : Value} {la lb : List Value} {x : Value}
theorem PSt.grown {row : Option Nat} (h : PSt n₀ D Ba Bb Bn Ta Tb Tn Ea Eb W₀ W va vb vn ua ub la lb) (hg : W.grownBy w1 row) (hr : ∀ k, row = some k → n₀ ≤ k) (ha : ua.ownBlock = none ∨ ua.ownBlock ≠ row) (hb : ub.ownBlock = none ∨ ub.ownBlock ≠ row)
    (hkt : KT (fun T => T = Ea ∨ T = Eb) n₀ W w1) : PSt n₀ D Ba Bb Bn Ta Tb Tn Ea Eb W₀ w1 va vb vn ua ub la lb := by
  have ne : ∀ j, j < n₀ → some j ≠ row := fun j hj e => by have := hr j e.symm; omega
  exact ⟨h.ba.kept hg (ne _ h.la.1), h.bb.kept hg (ne _ h.la.2.1), h.bn.kept hg (ne _ h.la.2.2.1), h.ra.kept hg ha, h.rb.kept hg hb, h.kt.trans hkt,
    h.bl.grown hg (Nat.le_trans h.la.2.2.2.2.2.1 h.sz) (fun k e => Nat.le_trans h.la.2.2.2.2.2.1 (hr k e)), Nat.le_trans h.sz hg.size, h.la, h.ne⟩
theorem PSt.alloc (h : PSt n₀ D Ba Bb Bn Ta Tb Tn Ea Eb W₀ W va vb vn ua ub la lb) (o : Obj) : PSt n₀ D Ba Bb Bn Ta Tb Tn Ea Eb W₀ (W.alloc o) va vb vn ua ub la lb :=
  h.grown (World.grownBy_alloc W o none) (fun _ e => by cases e) (by cases hv : ua.ownBlock <;> simp) (by cases hv : ub.ownBlock <;> simp) (KT.alloc _ _ _ _)
theorem PSt.drew (h : PSt n₀ D Ba Bb Bn Ta Tb Tn Ea Eb W₀ W va vb vn ua ub la lb) : PSt n₀ D Ba Bb Bn Ta Tb Tn Ea Eb W₀ W.drew va vb vn ua ub la lb :=
  h.grown (row := none) ⟨rfl, rfl, rfl, Nat.le_refl _, fun _ _ _ => rfl⟩ (fun _ e => by cases e) (by cases hv : ua.ownBlock <;> simp) (by cases hv : ub.ownBlock <;> simp) (KT.drew _ _ _)
theorem kt_row {Wr : TypeId → Prop} {e : TypeId} {k : Nat} {v : Value} {xs : List Value} {B : Nat} (hr : W.ownsRow n₀ e 1 v k xs) (hg : W.grownBy w1 v.ownBlock) (hw : Wr e) : KT Wr B W w1 := by
  refine KT.of_grown hg fun j ej => ?_
  rcases hr.2 with ⟨rfl, _⟩ | ⟨g, cap, cur, rfl, _, hgb, _⟩
  · simp [Value.ownBlock] at ej
  · obtain rfl : g = j := by simpa [Value.ownBlock] using ej
    exact .inr ⟨_, _, _, hgb, hw⟩
theorem PSt.appA (h : PSt n₀ D Ba Bb Bn Ta Tb Tn Ea Eb W₀ W va vb vn ua ub la lb) (hr : w1.ownsRow n₀ Ea 1 ua' (la.length + 1) (la ++ [x])) (hg : W.grownBy w1 ua.ownBlock) :
    PSt n₀ D Ba Bb Bn Ta Tb Tn Ea Eb W₀ w1 va vb vn ua' ub (la ++ [x]) lb := by
  have ne : ∀ j, j < n₀ → some j ≠ ua.ownBlock := fun j hj e => by have := (h.ra.lt j e.symm).1; omega
  exact ⟨h.ba.kept hg (ne _ h.la.1), h.bb.kept hg (ne _ h.la.2.1), h.bn.kept hg (ne _ h.la.2.2.1), by simpa using hr, h.rb.kept hg (rows_apart h.rb h.ra (Ne.symm h.ne)), h.kt.trans (kt_row h.ra hg (.inl rfl)),
    h.bl.grown hg (Nat.le_trans h.la.2.2.2.2.2.1 h.sz) (fun k e => Nat.le_trans h.la.2.2.2.2.2.1 (h.ra.lt k e).1), Nat.le_trans h.sz hg.size, h.la, h.ne⟩
theorem PSt.appB (h : PSt n₀ D Ba Bb Bn Ta Tb Tn Ea Eb W₀ W va vb vn ua ub la lb) (hr : w1.ownsRow n₀ Eb 1 ub' (lb.length + 1) (lb ++ [x])) (hg : W.grownBy w1 ub.ownBlock) :
    PSt n₀ D Ba Bb Bn Ta Tb Tn Ea Eb W₀ w1 va vb vn ua ub' la (lb ++ [x]) := by
  have ne : ∀ j, j < n₀ → some j ≠ ub.ownBlock := fun j hj e => by have := (h.rb.lt j e.symm).1; omega
  exact ⟨h.ba.kept hg (ne _ h.la.1), h.bb.kept hg (ne _ h.la.2.1), h.bn.kept hg (ne _ h.la.2.2.1), h.ra.kept hg (rows_apart h.ra h.rb h.ne), by simpa using hr, h.kt.trans (kt_row h.rb hg (.inr rfl)),
    h.bl.grown hg (Nat.le_trans h.la.2.2.2.2.2.1 h.sz) (fun k e => Nat.le_trans h.la.2.2.2.2.2.1 (h.rb.lt k e).1), Nat.le_trans h.sz hg.size, h.la, h.ne⟩
/-- A block of a new element, through an append of the other kind. -/
theorem temp_kept {k m : Nat} {e e' : TypeId} {v : Value} {xs : List Value} (h : Boxed W k e x) (hr : W.ownsRow n₀ e' 1 v m xs) (hg : W.grownBy w1 v.ownBlock) (hne : e ≠ e') : Boxed w1 k e x := h.kept hg (h.not_row hne hr)
/-- A new element in a block of its own. -/
theorem PSt.temp (h : PSt n₀ D Ba Bb Bn Ta Tb Tn Ea Eb W₀ W va vb vn ua ub la lb) (T : TypeId) (u : Value) : PSt n₀ D Ba Bb Bn Ta Tb Tn Ea Eb W₀ (W.alloc (.cells #[u] T)) va vb vn ua ub la lb ∧ Boxed (W.alloc (.cells #[u] T)) W.heap.size T u :=
  ⟨h.alloc _, Boxed.new W T u⟩
/-- The stores. -/
theorem PSt.setA (h : PSt n₀ D Ba Bb Bn Ta Tb Tn Ea Eb W₀ W va vb vn ua ub la lb) (u : Value) : PSt n₀ D Ba Bb Bn Ta Tb Tn Ea Eb W₀ (W.setCell ⟨Ba, 0, none⟩ u) u vb vn ua ub la lb := by
  have hg := grownBy_setCell' W Ba u
  have row : ∀ {e : TypeId} {v : Value} {k : Nat} {xs : List Value}, W.ownsRow n₀ e 1 v k xs → v.ownBlock = none ∨ v.ownBlock ≠ some Ba := fun hr => .inr fun e => by have := (hr.lt _ e).1; have := h.la.1; omega
  have l := h.la
  exact ⟨h.ba.set u, h.bb.other (by omega) u, h.bn.other (by omega) u, h.ra.kept hg (row h.ra), h.rb.kept hg (row h.rb), h.kt.trans (KT.of_grown hg fun k e => .inl (by cases e; omega)), h.bl.setCell (p := ⟨Ba, 0, none⟩) (by show D ≤ Ba; omega) u, by simpa [World.setCell] using h.sz, h.la, h.ne⟩
theorem PSt.setB (h : PSt n₀ D Ba Bb Bn Ta Tb Tn Ea Eb W₀ W va vb vn ua ub la lb) (u : Value) : PSt n₀ D Ba Bb Bn Ta Tb Tn Ea Eb W₀ (W.setCell ⟨Bb, 0, none⟩ u) va u vn ua ub la lb := by
  have hg := grownBy_setCell' W Bb u
  have row : ∀ {e : TypeId} {v : Value} {k : Nat} {xs : List Value}, W.ownsRow n₀ e 1 v k xs → v.ownBlock = none ∨ v.ownBlock ≠ some Bb := fun hr => .inr fun e => by have := (hr.lt _ e).1; have := h.la.2.1; omega
  have l := h.la
  exact ⟨h.ba.other (by omega) u, h.bb.set u, h.bn.other (by omega) u, h.ra.kept hg (row h.ra), h.rb.kept hg (row h.rb), h.kt.trans (KT.of_grown hg fun k e => .inl (by cases e; omega)), h.bl.setCell (p := ⟨Bb, 0, none⟩) (by show D ≤ Bb; omega) u, by simpa [World.setCell] using h.sz, h.la, h.ne⟩
end
end Go.Proofs.YtidlhajibjnkeaaGreatDoor

/- Ranges over functions that make the values that they hand on, what has come in a new variable. -/
namespace Go.Proofs.YtidlhajibjnkeaaGreatDoor
open Go.RowKit

/-- Who ranges over what makes the values that it hands on, where what has come is laid into a new variable ahead of the body. -/
theorem range_lawVA {Tw : TypeId → Prop} {n : Nat} {P : Program} {α : Type} {g : Operand} {ps : Array Tmp} {assign body : Code} {Q : Exit → Act → World → Prop} {a : Act} {w : World}
    {gf : Nat} {lb : Array Value} (hg : a.eval g = .func (.func gf) #[] lb) (eg : ∀ args w, (callFunc gf args).run P w = .ok (.enter gf args) w)
    {R : α → Array Value → World → Prop} {Ok : World → Prop} {Wr : TypeId → Prop} {xs : List α} (hseq : ∀ W', Below w.heap.size w W' → SeqsV Tw P gf lb R Ok Wr xs W') (hps : ∀ x args W, R x args W → args.size = ps.size) (hRo : ∀ x args, OwnFrom w.heap.size (fun (_ : Unit) W => R x args W))
    (I : List α → World → Prop) (Ix : Code → List α → World → Prop) (hIw : OwnFromT Tw w.heap.size I) (hIxw : ∀ c, OwnFromT Tw w.heap.size (Ix c)) (h0 : I [] w) (hOk : ∀ pre W, I pre W → Ok W) (a₁ : Array Value → Nat → Act) (ob : Array Value → Obj)
    (hassign : ∀ (l : Nat) (x : α) (args : Array Value) (W : World) (K : Act → World → Prop), R x args W → K (a₁ args W.heap.size) (W.alloc (ob args)) →
      assign.wpIn (Fence.wide.inRound l) (n - 1 - 1) P (Exit.then K (fun _ _ _ => False)) { tmps := (ps.zip args).foldl (fun t (p, v) => t.setIfInBounds p v) a.tmps, defers := [] } W)
    (hbody : ∀ (l : Nat) (pre : List α) (x : α) (args : Array Value) (b : Nat) (W : World), w.heap.size < l → w.heap.size ≤ b → W.heap[b]? = some (ob args) → I pre W → R x args W → (∃ t, xs = pre ++ x :: t) → body.wpIn (Fence.wide.inRound l) (n - 1 - 1) P (ownPostT Wr w.heap.size I Ix (pre ++ [x]) W) (a₁ args b) W)
    (hdone : ∀ (D : Nat) (W : World), w.heap.size ≤ D → I xs W → W.heap[D]? = some (.deferred (some [])) → Q .normal { a with defers := { target := .collected D, args := #[] } :: a.defers } W)
    (hstop : ∀ (D : Nat) (c : Code) (pre : List α) (W : World), w.heap.size ≤ D → (∃ t, xs = pre ++ t) → Ix c pre W → W.heap[D]? = some (.deferred (some [])) → c.wpIn Fence.wide n P Q { a with defers := { target := .collected D, args := #[] } :: a.defers } W) :
    (Code.rangeFunc g ps assign body).wpIn Fence.wide n P Q a w := by
  have hI := hIw.plain
  have hIx := fun c => (hIxw c).plain
  refine wpIn_rangeFunc ?_
  intro fn hfn
  obtain ⟨B, hB⟩ : ∃ B, B = w.heap.size := ⟨_, rfl⟩
  obtain ⟨W1, hW1⟩ : ∃ W1, (w.alloc (.deferred (some []))).alloc (.loop (recOf fn a.tmps ps assign body B .ready none)) = W1 := ⟨_, rfl⟩
  have hs1 : W1.heap.size = B + 2 := by rw [← hW1, hB]; simp
  have hL1 : W1.heap[B + 1]? = some (.loop (recOf fn a.tmps ps assign body B .ready none)) := by
    have := World.alloc_heap_new (w.alloc (.deferred (some []))) (.loop (recOf fn a.tmps ps assign body B .ready none))
    rw [World.size_alloc, ← hB] at this; rw [← hW1]; exact this
  have hD1 : W1.heap[B]? = some (.deferred (some [])) := by
    rw [← hW1, hB]; exact (Below.heap_alloc _ _ _ (by simp)).trans (World.alloc_heap_new w _)
  have hI1 : I [] W1 := by rw [← hW1]; exact hI.alloc _ (hI.alloc _ h0)
  have hb1 : Below w.heap.size w W1 := by rw [← hW1]; exact ((Below.refl _ w).alloc (Nat.le_refl _) _).alloc (by simp) _
  have hsq := hseq W1 hb1
  have he : (Instr.enterLoop fn a.tmps ps assign body none).run P w = .ok (B + 1, [{ target := .collected B, args := #[] }]) W1 := by
    rw [← hW1, hB]; exact run_enterLoop_outer _ _ _ _ _
  rw [← hB] at hI hIx hIw hIxw hRo hbody hdone hstop
  clear hseq hb1 h0 hW1 hB
  refine ⟨B + 1, [{ target := .collected B, args := #[] }], W1, { target := .fn (.func gf) lb, args := #[.func (.yield (B + 1)) #[] #[]] }, W1, gf, #[.func (.yield (B + 1)) #[] #[]] ++ lb, W1, he, ?_, ?_, ?_, (fun h => by cases h), ?_⟩
  · simp only [resolve, hg]
    simp [go_sem]
  · intro _ _; trivial
  · simp [invoke, go_sem, eg]
  · refine (callsIn_wide.2 (hsq (B + 1) (Booked B (recOf fn a.tmps ps assign body B .ready none) I) (fun pre W => ∃ c, Booked B (recOf fn a.tmps ps assign body B .done (some c)) (Ix c) pre W)
      (by rw [hs1]; exact booked_ownT hIw)
      (by rw [hs1]; exact fun s A C row hs hg hr => by obtain ⟨c, hc⟩ := hs; exact ⟨c, booked_ownT (hIxw c) s A C row hc hg hr⟩)
      (fun pre W h => hOk pre W h.1) ?_ ⟨hI1, hL1, hD1⟩)).mono ?_
    · intro pre x args W hi hR hx m
      rw [hs1]
      have hi2 := (booked_own (r := recOf fn a.tmps ps assign body B .ready none) hI).alloc (ob args) hi
      have hR2 := (hRo x args).alloc (s := ()) (ob args) hR
      have hlt : B + 1 < W.heap.size := (Array.getElem?_eq_some_iff.1 hi.2.1).1
      have key := roundIn_of_wpIn (n := n - 1 - 1) (R := RndPost Wr (B + 2) (Booked B (recOf fn a.tmps ps assign body B .ready none) I) (fun pre W => ∃ c, Booked B (recOf fn a.tmps ps assign body B .done (some c)) (Ix c) pre W) (pre ++ [x]) (W.alloc (ob args))) hfn
        (hassign (B + 1) x args W _ hR ⟨_, run_beginRound hi2.2.1 rfl, wpIn_mono (hbody (B + 1) pre x args W.heap.size _ (by omega) (by omega) ((World.putObj_heap_other (by omega)).trans (World.alloc_heap_new W (ob args))) (hI.putObj _ hi2.1 (by omega) hi2.2.1 rfl) ((hRo x args).putObj (s := ()) _ hR2 (by omega) hi2.2.1 rfl) hx) (round_told (P := P) hI hIx hi2)⟩)
      have hyd : YieldAt Fence.wide m P (B + 1) args W (RndPost Wr (B + 2) (Booked B (recOf fn a.tmps ps assign body B .ready none) I) (fun pre W => ∃ c, Booked B (recOf fn a.tmps ps assign body B .done (some c)) (Ix c) pre W) (pre ++ [x]) (W.alloc (ob args))) :=
        ⟨fn, _, assign, body, run_yield (P := P) (args := args) hi.2.1 (hps x args W hR), key.1, fun c cs _ => key.2 c cs (room_wide _)⟩
      exact hyd.mono (fun e w h => ⟨(KT.alloc Wr (B + 2) W (ob args)).trans h.1, h.2⟩)
    · rintro e W2 ⟨⟨v, rfl⟩, (hi | ⟨pre, hx, c, hi⟩)⟩
      · exact ⟨none, _, run_endLoop (P := P) hi.2.1 (by simp), hdone _ _ (Nat.le_refl _) (hI.putObj _ hi.1 (by omega) hi.2.1 rfl) ((World.putObj_heap_other (by omega)).trans hi.2.2)⟩
      · exact ⟨some c, _, run_endLoop (P := P) hi.2.1 (by simp), hstop _ c pre _ (Nat.le_refl _) hx ((hIx c).putObj _ hi.1 (by omega) hi.2.1 rfl) ((World.putObj_heap_other (by omega)).trans hi.2.2)⟩
end Go.Proofs.YtidlhajibjnkeaaGreatDoor

/- hbllaw4.names: a row of names and a row of values under way, in two boxes. -/
namespace Go.Proofs.YtidlhajibjnkeaaGreatDoor
open Go.RowKit

theorem row_type {w : World} {b size n : Nat} {e : TypeId} {v : Value} {xs : List Value} (h : w.ownsRow b e size v n xs) {g : Nat} (hg : v.ownBlock = some g) : ∃ c p, w.heap[g]? = some (.cells c e p) := by
  rcases h.2 with ⟨rfl, _⟩ | ⟨g', cap, cur, rfl, _, h1, _⟩
  · simp [Value.ownBlock] at hg
  · simp only [Value.ownBlock, Option.some.injEq] at hg
    subst hg
    exact ⟨_, _, h1⟩
theorem row_not {w : World} {b size n : Nat} {e e' : TypeId} {v : Value} {xs : List Value} {c : Array Value} {p : Nat × Nat} {k : Nat} (h : w.ownsRow b e size v n xs) (hk : w.heap[k]? = some (.cells c e' p)) (hne : e ≠ e') : v.ownBlock ≠ some k := fun hg => by
  obtain ⟨c', p', h1⟩ := row_type h hg
  rw [h1] at hk
  cases hk
  exact hne rfl
/-- An append at a step of a region: where the new slice lies. -/
theorem step_liesIn {F : Fence} {n : Nat} {P : Program} {w : World} {ops : Array Oper} {o : Oper} {a : Act} {K : Act → World → Prop} {Q : Exit → Act → World → Prop} {N : Prop} (hg : o.guard = none) (s x : Operand) (t : TypeId)
    (hop : o.op = Op.call { callee := Callee.builtin Builtin.append, args := #[s, x], argTypes := #[t, t] }) {base : Nat} {e : TypeId} {i : TypeInfo} {z : Value} {size bytes : Nat} (h1 : P.underlying t = some (.slice e)) (h2 : P.info? e = some i) (h3 : i.zero = some z) (h4 : i.size = size) (h5 : i.bytes = bytes)
    (h6 : z.cells.size = size) (h7 : 0 < size) {v : Value} {k : Nat} {xs : List Value} (hs : a.eval s = v) (hown : w.ownsRow base e size v k xs) {b : Nat} (us : List Value) (hx : a.eval x = .slice (some ⟨b, 0, none⟩) 1 1) (hb : w.heap[b]? = some (.cells us.toArray e (0, 0))) (hu : us.length = size) (hone : ∀ u ∈ us, u.oneCell' = true)
    (b1 : k + 1 ≤ maxLen) (b2 : (k + 1) * bytes ≤ 140737488355328) (b3 : base ≤ w.heap.size)
    (hK : ∀ g cap w', w'.ownsRow base e size (.slice (some ⟨g, 0, none⟩) (k + 1) cap) (k + 1) (xs ++ us) → w.grownBy w' v.ownBlock → (v.ownBlock = some g ∨ g = w.heap.size) → K (a.put o.dst (.slice (some ⟨g, 0, none⟩) (k + 1) cap)) w') :
    if Region.wanted o (yielded ops a.tmps) = true then Oper.wpIn F n P o a w K Q else N := by
  have hw : Region.wanted o (yielded ops a.tmps) = true := by simp [Region.wanted, hg]
  rw [if_pos hw]
  obtain ⟨g, cap, w', hrun, r1, r2, r3, _⟩ := run_append_lies (P := P) w t o.type base e i z size bytes h1 h2 h3 h4 h5 h6 h7 v k xs hown ⟨b, 0, none⟩ 1 1 us (by omega)
    (fun j y hj => by
      have := box_cell hb j
      simp only [List.getElem?_toArray] at this
      rw [← hj, ← this]
      simp only [Addr.add, Nat.zero_add]
      split
      · next h0 => rw [h0]
      · rfl) hone (by decide) b1 b2 b3 w.heap.size rfl
  unfold Oper.wpIn
  refine ⟨by simp [Oper.about, hop, resolve, Target.leads, Sem.run_pure], ?_⟩
  rw [Oper.semAt_plain F _ _ (by rw [hop]; intro c hc'; cases hc')]
  simp [execOp, hop, resolve, invoke, builtin, hs, hx, hrun, Result.andThen]
  exact hK g cap w' r1 r2 r3
/-- The types of the elements that are written. -/
def NmT (T : TypeId) : Prop := T = 9 ∨ T = 35
/-- Under way within a round. -/
structure NSt (n₀ D s S0 Ba Bb Bn Bx : Nat) (W₀ W : World) (va vb vn ua ub : Value) (la : List Value) (acc : List JV) (rows : List (List Value)) (x : JV) (cs : List Value) : Prop where
  ba : W.heap[Ba]? = some (.cells #[va] 54 (0, 0))
  bb : W.heap[Bb]? = some (.cells #[vb] 32 (0, 0))
  bn : W.heap[Bn]? = some (.cells #[vn] 3 (0, 0))
  bx : W.heap[Bx]? = some (.cells cs.toArray 28 (0, 0))
  ra : W.ownsRow n₀ 9 1 ua la.length la
  rb : W.ownsRow n₀ 35 5 ub acc.length rows.flatten
  rl : RdL W (fun i => n₀ ≤ i ∧ i < W.heap.size ∧ ua.ownBlock ≠ some i ∧ ub.ownBlock ≠ some i) acc rows
  rx : RdJ W (fun i => s ≤ i ∧ i < S0) x cs
  oa : ∀ g, ua.ownBlock = some g → ¬ (s ≤ g ∧ g < S0)
  ob : ∀ g, ub.ownBlock = some g → ¬ (s ≤ g ∧ g < S0)
  kt : KT NmT n₀ W₀ W
  bl : Below D W₀ W
  sz : S0 ≤ W.heap.size
  la : Ba < n₀ ∧ Bb < n₀ ∧ Bn < n₀ ∧ D ≤ Ba ∧ D ≤ Bb ∧ D ≤ n₀ ∧ Ba ≠ Bb ∧ Ba ≠ Bn ∧ Bb ≠ Bn ∧ n₀ ≤ Bx ∧ n₀ ≤ s ∧ s ≤ S0
section
variable {n₀ D s S0 Ba Bb Bn Bx : Nat} {W₀ W w1 : World} {va vb vn ua ub : Value} {la : List Value} {acc : List JV} {rows : List (List Value)} {x : JV} {cs : List Value}
theorem NSt.up (h : NSt n₀ D s S0 Ba Bb Bn Bx W₀ W va vb vn ua ub la acc rows x cs) (hb : Below W.heap.size W w1) : NSt n₀ D s S0 Ba Bb Bn Bx W₀ w1 va vb vn ua ub la acc rows x cs := by
  have hsz := h.sz
  have l := h.la
  have f : Frm (fun _ => False) W w1 := Frm.of_below hb
  exact ⟨box_up h.ba hb, box_up h.bb hb, box_up h.bn hb, box_up h.bx hb, owns_frm h.ra f (fun _ _ e => e), owns_frm h.rb f (fun _ _ e => e), (h.rl.up hb).mono (fun i hi hF => ⟨hF.1, hi, hF.2.2⟩), h.rx.up hb, h.oa, h.ob,
    h.kt.trans (KT.of_below hb), h.bl.trans (hb.mono (by omega)), Nat.le_trans hsz hb.size, l⟩
/-- A new element in a block of its own. -/
theorem NSt.temp (h : NSt n₀ D s S0 Ba Bb Bn Bx W₀ W va vb vn ua ub la acc rows x cs) (us : List Value) (T : TypeId) :
    NSt n₀ D s S0 Ba Bb Bn Bx W₀ (W.alloc (.cells us.toArray T)) va vb vn ua ub la acc rows x cs ∧ (W.alloc (.cells us.toArray T)).heap[W.heap.size]? = some (.cells us.toArray T (0, 0)) :=
  ⟨h.up (below_alloc _ _), heap_alloc_new W _⟩
theorem temp_rd {F : Nat → Prop} {y : JV} {us : List Value} (h : RdJ W F y us) (o : Obj) : RdJ (W.alloc o) F y us := h.up (below_alloc _ _)
theorem NSt.base (h : NSt n₀ D s S0 Ba Bb Bn Bx W₀ W va vb vn ua ub la acc rows x cs) : n₀ ≤ W.heap.size := by
  have := h.sz
  have := h.la
  omega
theorem NSt.appA {g cap : Nat} {u : Value} (h : NSt n₀ D s S0 Ba Bb Bn Bx W₀ W va vb vn ua ub la acc rows x cs) (hr : w1.ownsRow n₀ 9 1 (.slice (some ⟨g, 0, none⟩) (la.length + 1) cap) (la.length + 1) (la ++ [u])) (hg : W.grownBy w1 ua.ownBlock) (hl : ua.ownBlock = some g ∨ g = W.heap.size) :
    NSt n₀ D s S0 Ba Bb Bn Bx W₀ w1 va vb vn (.slice (some ⟨g, 0, none⟩) (la.length + 1) cap) ub (la ++ [u]) acc rows x cs := by
  have hsz := h.sz
  have l := h.la
  have f : Frm (fun i => ua.ownBlock = some i) W w1 := Frm.of_grown hg (fun k hk => hk)
  have hge : ∀ k, ua.ownBlock = some k → n₀ ≤ k := fun k hk => (h.ra.lt k hk).1
  have nb : ∀ {k : Nat} {c : Array Value} {T : TypeId} {p : Nat × Nat}, W.heap[k]? = some (.cells c T p) → 9 ≠ T → ¬ ua.ownBlock = some k := fun hk hT => row_not h.ra hk hT
  refine ⟨box_frm h.ba f (nb h.ba (by decide)), box_frm h.bb f (nb h.bb (by decide)), box_frm h.bn f (nb h.bn (by decide)), box_frm h.bx f (nb h.bx (by decide)), by simpa using hr, owns_frm h.rb f (fun k hk e => ?_),
    (h.rl.frm f (fun i hi e => hi.2.2.1 e)).mono (fun i hi hF => ⟨hF.1, hi, fun e => ?_, hF.2.2.2⟩), h.rx.frm f (fun i hi e => h.oa i e hi), fun k hk hs => ?_, h.ob,
    h.kt.trans (KT.of_grown hg fun j ej => ?_), h.bl.grown hg (by omega) (fun k e => by have := hge k e; omega), Nat.le_trans hsz hg.size, l⟩
  · obtain ⟨c, p, h1⟩ := row_type h.rb hk
    exact nb h1 (by decide) e
  · simp only [Value.ownBlock, Option.some.injEq] at e
    subst e
    rcases hl with hl | hl
    · exact hF.2.2.1 hl
    · omega
  · simp only [Value.ownBlock, Option.some.injEq] at hk
    subst hk
    rcases hl with hl | hl
    · exact h.oa _ hl hs
    · omega
  · obtain ⟨c, p, h1⟩ := row_type h.ra ej
    exact .inr ⟨_, _, _, h1, .inl rfl⟩
theorem NSt.appB {g cap : Nat} {y : JV} {us : List Value} {S1 : Nat} (h : NSt n₀ D s S0 Ba Bb Bn Bx W₀ W va vb vn ua ub la acc rows x cs) (hr : w1.ownsRow n₀ 35 5 (.slice (some ⟨g, 0, none⟩) (acc.length + 1) cap) (acc.length + 1) (rows.flatten ++ us)) (hg : W.grownBy w1 ub.ownBlock) (hl : ub.ownBlock = some g ∨ g = W.heap.size)
    (hy : RdJ W (fun i => S1 ≤ i) y us) (hS : n₀ ≤ S1) (hSa : ∀ k, ua.ownBlock = some k → k < S1) (hSb : ∀ k, ub.ownBlock = some k → k < S1) :
    NSt n₀ D s S0 Ba Bb Bn Bx W₀ w1 va vb vn ua (.slice (some ⟨g, 0, none⟩) (acc.length + 1) cap) la (acc ++ [y]) (rows ++ [us]) x cs := by
  have hsz := h.sz
  have l := h.la
  have f : Frm (fun i => ub.ownBlock = some i) W w1 := Frm.of_grown hg (fun k hk => hk)
  have hge : ∀ k, ub.ownBlock = some k → n₀ ≤ k := fun k hk => (h.rb.lt k hk).1
  have nb : ∀ {k : Nat} {c : Array Value} {T : TypeId} {p : Nat × Nat}, W.heap[k]? = some (.cells c T p) → 35 ≠ T → ¬ ub.ownBlock = some k := fun hk hT => row_not h.rb hk hT
  have hgk : ∀ i, some g = some i → ub.ownBlock = some i ∨ i = W.heap.size := fun i e => by
    simp only [Option.some.injEq] at e
    subst e
    exact hl
  have r1 : RdJ w1 (fun i => n₀ ≤ i ∧ i < w1.heap.size ∧ ua.ownBlock ≠ some i ∧ (Value.slice (some ⟨g, 0, none⟩) (acc.length + 1) cap).ownBlock ≠ some i) y us := by
    refine RdJ.mono (F := fun i => S1 ≤ i ∧ i < W.heap.size) ((hy.mono (fun i hi hF => ⟨hF, hi⟩)).frm f (fun i hi e => by have := hSb i e; omega)) (fun i hi hF => ⟨by omega, hi, fun e => by have := hSa i e; omega, fun e => ?_⟩)
    rcases hgk i e with h1 | h1
    · have := hSb i h1; omega
    · omega
  have r2 : RdL w1 (fun i => n₀ ≤ i ∧ i < w1.heap.size ∧ ua.ownBlock ≠ some i ∧ (Value.slice (some ⟨g, 0, none⟩) (acc.length + 1) cap).ownBlock ≠ some i) acc rows := by
    refine (h.rl.frm f (fun i hi e => hi.2.2.2 e)).mono (fun i hi hF => ⟨hF.1, hi, hF.2.2.1, fun e => ?_⟩)
    rcases hgk i e with h1 | h1
    · exact hF.2.2.2 h1
    · omega
  refine ⟨box_frm h.ba f (nb h.ba (by decide)), box_frm h.bb f (nb h.bb (by decide)), box_frm h.bn f (nb h.bn (by decide)), box_frm h.bx f (nb h.bx (by decide)), owns_frm h.ra f (fun k hk e => ?_), by simpa using hr,
    RdL.snoc r1 r2, h.rx.frm f (fun i hi e => h.ob i e hi), h.oa, fun k hk hs => ?_,
    h.kt.trans (KT.of_grown hg fun j ej => ?_), h.bl.grown hg (by omega) (fun k e => by have := hge k e; omega), Nat.le_trans hsz hg.size, l⟩
  · obtain ⟨c, p, h1⟩ := row_type h.ra hk
    exact nb h1 (by decide) e
  · rcases hgk k hk with h1 | h1
    · exact h.ob _ h1 hs
    · omega
  · obtain ⟨c, p, h1⟩ := row_type h.rb ej
    exact .inr ⟨_, _, _, h1, .inr rfl⟩
theorem NSt.setA (h : NSt n₀ D s S0 Ba Bb Bn Bx W₀ W va vb vn ua ub la acc rows x cs) (u : Value) : NSt n₀ D s S0 Ba Bb Bn Bx W₀ (W.setCell ⟨Ba, 0, none⟩ u) u vb vn ua ub la acc rows x cs := by
  have hsz := h.sz
  have l := h.la
  have f : Frm (fun i => i = Ba) W (W.setCell ⟨Ba, 0, none⟩ u) := Frm.set _ rfl
  refine ⟨by simpa using box_set h.ba 0 u, box_frm h.bb f (by omega), box_frm h.bn f (by omega), box_frm h.bx f (by omega), owns_frm h.ra f (fun k hk e => by have := (h.ra.lt k hk).1; omega), owns_frm h.rb f (fun k hk e => by have := (h.rb.lt k hk).1; omega),
    (h.rl.frm f (fun i hi e => by omega)).mono (fun i hi hF => ⟨hF.1, hi, hF.2.2⟩), h.rx.frm f (fun i hi e => by omega), h.oa, h.ob, h.kt.trans (KT.of_grown (grownBy_setCell' _ _ _) (fun k e => .inl (by cases e; omega))), h.bl.setCell (p := ⟨Ba, 0, none⟩) (by show D ≤ Ba; omega) u, by simpa [World.setCell] using hsz, l⟩
theorem NSt.setB (h : NSt n₀ D s S0 Ba Bb Bn Bx W₀ W va vb vn ua ub la acc rows x cs) (u : Value) : NSt n₀ D s S0 Ba Bb Bn Bx W₀ (W.setCell ⟨Bb, 0, none⟩ u) va u vn ua ub la acc rows x cs := by
  have hsz := h.sz
  have l := h.la
  have f : Frm (fun i => i = Bb) W (W.setCell ⟨Bb, 0, none⟩ u) := Frm.set _ rfl
  refine ⟨box_frm h.ba f (by omega), by simpa using box_set h.bb 0 u, box_frm h.bn f (by omega), box_frm h.bx f (by omega), owns_frm h.ra f (fun k hk e => by have := (h.ra.lt k hk).1; omega), owns_frm h.rb f (fun k hk e => by have := (h.rb.lt k hk).1; omega),
    (h.rl.frm f (fun i hi e => by omega)).mono (fun i hi hF => ⟨hF.1, hi, hF.2.2⟩), h.rx.frm f (fun i hi e => by omega), h.oa, h.ob, h.kt.trans (KT.of_grown (grownBy_setCell' _ _ _) (fun k e => .inl (by cases e; omega))), h.bl.setCell (p := ⟨Bb, 0, none⟩) (by show D ≤ Bb; omega) u, by simpa [World.setCell] using hsz, l⟩
end
end Go.Proofs.YtidlhajibjnkeaaGreatDoor
