/- Two slices in boxes that grow in one statement, in whatever order. -/
import Derived.Test.YtcgjiddiegepkaaRange
import Derived.OwnWalkIn
import Derived.Shelf.RegionOpen
import Derived.TacticsInMore
import Derived.Maps.AppendAt
namespace Go.Proofs.Ytcgjiddiegepkaa
open Go.RowKit

/-- A region is walked on its own. -/
theorem cut_region {F : Fence} {n : Nat} {P : Program} {c : Code} {Q : Exit → Act → World → Prop} {a : Act} {w : World} (R : Act → World → Prop) (h : c.wpIn F n P (fun e a w => e = .normal ∧ R a w) a w) (hQ : ∀ a w, R a w → Q .normal a w) : c.wpIn F n P Q a w :=
  Code.wpIn_mono (fun e a w h => by obtain ⟨rfl, h⟩ := h; exact hQ a w h) h
/-- Nothing is deferred. -/
def noDefer (ops : Array Oper) : Bool := ops.all fun o => match o.op with | .defer _ => false | _ => true
/-- In a round a region goes as out of it, where nothing is deferred. -/
theorem any_inRound {F : Fence} {l n : Nat} {P : Program} {md : Region.Mode} {ops : Array Oper} {Q : Exit → Act → World → Prop} (hro : F.round = none) (hno : noDefer ops = true) :
    ∀ (fuel : Nat) (listed : Array Bool) (a : Act) (w : World), wpAnyIn F n P md ops Q fuel listed a w → wpAnyIn (F.inRound l) n P md ops Q fuel listed a w := by
  have hnd : ∀ (i : Nat) (o : Oper) c, ops[i]? = some o → o.op ≠ .defer c := by
    intro i o c hi hc
    obtain ⟨hlt, hi⟩ := Array.getElem?_eq_some_iff.1 hi
    have := (Array.all_eq_true.1 hno) i hlt
    rw [hi, hc] at this
    simp at this
  intro fuel
  induction fuel with
  | zero => intro listed a w h; exact h
  | succ fuel ih =>
    intro listed a w h
    refine ⟨h.1, fun i hi => ?_⟩
    have h2 := wpOpIn_mono (fun a w h => ih _ a w h) (h.2 i hi)
    unfold wpOpIn at h2 ⊢
    cases ho : ops[i]? with
    | none => simpa [ho] using h2
    | some o =>
      simp only [ho] at h2 ⊢
      have e : ∀ K, Oper.wpIn F n P o a w K Q → Oper.wpIn (F.inRound l) n P o a w K Q := by
        intro K h
        unfold Oper.wpIn at h ⊢
        rw [hro, Oper.semAt_none] at h
        rw [Fence.inRound_round, Oper.semAt_some _ _ _ (fun c => hnd i o c ho)]
        refine ⟨h.1, ?_⟩
        generalize (execOp a.eval o).run P w = r at h ⊢
        rcases r with ⟨v, w'⟩ | ⟨s, w'⟩
        · cases v <;> exact h.2
        · cases s <;> exact h.2
      split
      · next hw => simp only [hw, if_true] at h2; exact e _ h2
      · next hw => simp only [hw] at h2; exact h2
/-- Rows of unlike types lie apart. -/
theorem rows_apart {W : World} {b b' : Nat} {e e' : TypeId} {s s' k k' : Nat} {v v' : Value} {xs xs' : List Value} (h : W.ownsRow b e s v k xs) (h' : W.ownsRow b' e' s' v' k' xs') (hne : e ≠ e') : v.ownBlock = none ∨ v.ownBlock ≠ v'.ownBlock := by
  rcases h.2 with ⟨rfl, _⟩ | ⟨g, cap, cur, rfl, _, hg, _⟩
  · exact .inl rfl
  · rcases h'.2 with ⟨rfl, _⟩ | ⟨g', cap', cur', rfl, _, hg', _⟩
    · exact .inr (by simp [Value.ownBlock])
    · refine .inr fun q => ?_
      obtain rfl : g = g' := by simpa [Value.ownBlock] using q
      rw [hg] at hg'
      simp at hg'
      exact hne hg'.2
/-- An append in a region. -/
theorem step_appendIn {F : Fence} {n : Nat} {P : Program} {w : World} {ops : Array Oper} {o : Oper} {a : Act} {K : Act → World → Prop} {Q : Exit → Act → World → Prop} {N : Prop} (hg : o.guard = none) (s x : Operand) (t : TypeId)
    (hop : o.op = Op.call { callee := Callee.builtin Builtin.append, args := #[s, x], argTypes := #[t, t] }) {base : Nat} {e : TypeId} {i : TypeInfo} {z : Value} {bytes : Nat} (h1 : P.underlying t = some (.slice e)) (h2 : P.info? e = some i) (h3 : i.zero = some z) (h4 : i.size = 1) (h5 : i.bytes = bytes)
    (h6 : z.cells.size = 1) {v : Value} {k : Nat} {xs : List Value} (hs : a.eval s = v) (hown : w.ownsRow base e 1 v k xs) {b : Nat} {u : Value} (hx : a.eval x = .slice (some ⟨b, 0, none⟩) 1 1) (hb : Boxed w b e u) (hu : u.oneCell' = true)
    (b1 : k + 1 ≤ maxLen) (b2 : (k + 1) * bytes ≤ 140737488355328) (b3 : base ≤ w.heap.size) (hK : ∀ v' w', w'.ownsRow base e 1 v' (k + 1) (xs ++ [u]) → w.grownBy w' v.ownBlock → K (a.put o.dst v') w') :
    if Region.wanted o (yielded ops a.tmps) = true then Oper.wpIn F n P o a w K Q else N := by
  have hw : Region.wanted o (yielded ops a.tmps) = true := by simp [Region.wanted, hg]
  rw [if_pos hw]
  obtain ⟨v', w', hrun, r1, r2, _⟩ := run_append_own (P := P) w base t o.type e i z 1 bytes h1 h2 h3 h4 h5 h6 (by decide) v k xs hown ⟨b, 0, none⟩ 1 1 [u] rfl
    (fun j y hj => by
      have hj0 : j = 0 := by
        have := (List.getElem?_eq_some_iff.1 hj).1
        simp at this; exact this
      subst hj0
      simp at hj
      subst hj
      exact hb.cell) (by simpa using hu) b1 b2 b3
  unfold Oper.wpIn
  refine ⟨by simp [Oper.about, hop, resolve, Target.leads, Sem.run_pure], ?_⟩
  rw [Oper.semAt_plain F _ _ (by rw [hop]; intro c hc'; cases hc')]
  simp [execOp, hop, resolve, invoke, builtin, hs, hx, hrun, Result.andThen]
  exact hK v' w' r1 r2
/-- Two boxes, two rows, a third box; what lies on since a world. -/
structure PSt (n₀ D Ba Bb Bn : Nat) (Ta Tb Tn Ea Eb : TypeId) (W₀ W : World) (va vb vn ua ub : Value) (la lb : List Value) : Prop where
  ba : Boxed W Ba Ta va
  bb : Boxed W Bb Tb vb
  bn : Boxed W Bn Tn vn
  ra : W.ownsRow n₀ Ea 1 ua la.length la
  rb : W.ownsRow n₀ Eb 1 ub lb.length lb
  kt : KT (fun T => T = Ea ∨ T = Eb) n₀ W₀ W
  bl : Below D W₀ W
  sz : n₀ ≤ W.heap.size
  la : Ba < n₀ ∧ Bb < n₀ ∧ Bn < n₀ ∧ D ≤ Ba ∧ D ≤ Bb ∧ D ≤ n₀ ∧ Ba ≠ Bb ∧ Ba ≠ Bn ∧ Bb ≠ Bn
  ne : Ea ≠ Eb
section
variable {n₀ D Ba Bb Bn : Nat} {Ta Tb Tn Ea Eb : TypeId} {W₀ W w1 : World} {va vb vn ua ub ua' ub' : Value} {la lb : List Value} {x : Value}
theorem PSt.grown {row : Option Nat} (h : PSt n₀ D Ba Bb Bn Ta Tb Tn Ea Eb W₀ W va vb vn ua ub la lb) (hg : W.grownBy w1 row) (hr : ∀ k, row = some k → n₀ ≤ k) (ha : ua.ownBlock = none ∨ ua.ownBlock ≠ row) (hb : ub.ownBlock = none ∨ ub.ownBlock ≠ row)
    (hkt : KT (fun T => T = Ea ∨ T = Eb) n₀ W w1) : PSt n₀ D Ba Bb Bn Ta Tb Tn Ea Eb W₀ w1 va vb vn ua ub la lb := by
  have ne : ∀ j, j < n₀ → some j ≠ row := fun j hj e => by have := hr j e.symm; omega
  exact ⟨h.ba.kept hg (ne _ h.la.1), h.bb.kept hg (ne _ h.la.2.1), h.bn.kept hg (ne _ h.la.2.2.1), h.ra.kept hg ha, h.rb.kept hg hb, h.kt.trans hkt,
    h.bl.grown hg (Nat.le_trans h.la.2.2.2.2.2.1 h.sz) (fun k e => Nat.le_trans h.la.2.2.2.2.2.1 (hr k e)), Nat.le_trans h.sz hg.size, h.la, h.ne⟩
theorem PSt.alloc (h : PSt n₀ D Ba Bb Bn Ta Tb Tn Ea Eb W₀ W va vb vn ua ub la lb) (o : Obj) : PSt n₀ D Ba Bb Bn Ta Tb Tn Ea Eb W₀ (W.alloc o) va vb vn ua ub la lb :=
  h.grown (World.grownBy_alloc W o none) (fun _ e => by cases e) (by cases hv : ua.ownBlock <;> simp) (by cases hv : ub.ownBlock <;> simp) (KT.alloc _ _ _ _)
theorem PSt.drew (h : PSt n₀ D Ba Bb Bn Ta Tb Tn Ea Eb W₀ W va vb vn ua ub la lb) : PSt n₀ D Ba Bb Bn Ta Tb Tn Ea Eb W₀ W.drew va vb vn ua ub la lb :=
  h.grown (row := none) ⟨rfl, rfl, rfl, Nat.le_refl _, fun _ _ _ => rfl⟩ (fun _ e => by cases e) (by cases hv : ua.ownBlock <;> simp) (by cases hv : ub.ownBlock <;> simp) (KT.drew _ _ _)
theorem kt_row {Wr : TypeId → Prop} {e : TypeId} {k : Nat} {v : Value} {xs : List Value} {B : Nat} (hr : W.ownsRow n₀ e 1 v k xs) (hg : W.grownBy w1 v.ownBlock) (hw : Wr e) : KT Wr B W w1 := by
  refine KT.of_grown hg fun j ej => ?_
  rcases hr.2 with ⟨rfl, _⟩ | ⟨g, cap, cur, rfl, _, hgb, _⟩
  · simp [Value.ownBlock] at ej
  · obtain rfl : g = j := by simpa [Value.ownBlock] using ej
    exact .inr ⟨_, _, _, hgb, hw⟩
theorem PSt.appA (h : PSt n₀ D Ba Bb Bn Ta Tb Tn Ea Eb W₀ W va vb vn ua ub la lb) (hr : w1.ownsRow n₀ Ea 1 ua' (la.length + 1) (la ++ [x])) (hg : W.grownBy w1 ua.ownBlock) :
    PSt n₀ D Ba Bb Bn Ta Tb Tn Ea Eb W₀ w1 va vb vn ua' ub (la ++ [x]) lb := by
  have ne : ∀ j, j < n₀ → some j ≠ ua.ownBlock := fun j hj e => by have := (h.ra.lt j e.symm).1; omega
  exact ⟨h.ba.kept hg (ne _ h.la.1), h.bb.kept hg (ne _ h.la.2.1), h.bn.kept hg (ne _ h.la.2.2.1), by simpa using hr, h.rb.kept hg (rows_apart h.rb h.ra (Ne.symm h.ne)), h.kt.trans (kt_row h.ra hg (.inl rfl)),
    h.bl.grown hg (Nat.le_trans h.la.2.2.2.2.2.1 h.sz) (fun k e => Nat.le_trans h.la.2.2.2.2.2.1 (h.ra.lt k e).1), Nat.le_trans h.sz hg.size, h.la, h.ne⟩
theorem PSt.appB (h : PSt n₀ D Ba Bb Bn Ta Tb Tn Ea Eb W₀ W va vb vn ua ub la lb) (hr : w1.ownsRow n₀ Eb 1 ub' (lb.length + 1) (lb ++ [x])) (hg : W.grownBy w1 ub.ownBlock) :
    PSt n₀ D Ba Bb Bn Ta Tb Tn Ea Eb W₀ w1 va vb vn ua ub' la (lb ++ [x]) := by
  have ne : ∀ j, j < n₀ → some j ≠ ub.ownBlock := fun j hj e => by have := (h.rb.lt j e.symm).1; omega
  exact ⟨h.ba.kept hg (ne _ h.la.1), h.bb.kept hg (ne _ h.la.2.1), h.bn.kept hg (ne _ h.la.2.2.1), h.ra.kept hg (rows_apart h.ra h.rb h.ne), by simpa using hr, h.kt.trans (kt_row h.rb hg (.inr rfl)),
    h.bl.grown hg (Nat.le_trans h.la.2.2.2.2.2.1 h.sz) (fun k e => Nat.le_trans h.la.2.2.2.2.2.1 (h.rb.lt k e).1), Nat.le_trans h.sz hg.size, h.la, h.ne⟩
/-- A block of a new element, through an append of the other kind. -/
theorem temp_kept {k m : Nat} {e e' : TypeId} {v : Value} {xs : List Value} (h : Boxed W k e x) (hr : W.ownsRow n₀ e' 1 v m xs) (hg : W.grownBy w1 v.ownBlock) (hne : e ≠ e') : Boxed w1 k e x := h.kept hg (h.not_row hne hr)
/-- A new element in a block of its own. -/
theorem PSt.temp (h : PSt n₀ D Ba Bb Bn Ta Tb Tn Ea Eb W₀ W va vb vn ua ub la lb) (T : TypeId) (u : Value) : PSt n₀ D Ba Bb Bn Ta Tb Tn Ea Eb W₀ (W.alloc (.cells #[u] T)) va vb vn ua ub la lb ∧ Boxed (W.alloc (.cells #[u] T)) W.heap.size T u :=
  ⟨h.alloc _, Boxed.new W T u⟩
/-- The stores. -/
theorem PSt.setA (h : PSt n₀ D Ba Bb Bn Ta Tb Tn Ea Eb W₀ W va vb vn ua ub la lb) (u : Value) : PSt n₀ D Ba Bb Bn Ta Tb Tn Ea Eb W₀ (W.setCell ⟨Ba, 0, none⟩ u) u vb vn ua ub la lb := by
  have hg := grownBy_setCell' W Ba u
  have row : ∀ {e : TypeId} {v : Value} {k : Nat} {xs : List Value}, W.ownsRow n₀ e 1 v k xs → v.ownBlock = none ∨ v.ownBlock ≠ some Ba := fun hr => .inr fun e => by have := (hr.lt _ e).1; have := h.la.1; omega
  have l := h.la
  exact ⟨h.ba.set u, h.bb.other (by omega) u, h.bn.other (by omega) u, h.ra.kept hg (row h.ra), h.rb.kept hg (row h.rb), h.kt.trans (KT.of_grown hg fun k e => .inl (by cases e; omega)), h.bl.setCell (p := ⟨Ba, 0, none⟩) (by show D ≤ Ba; omega) u, by simpa [World.setCell] using h.sz, h.la, h.ne⟩
theorem PSt.setB (h : PSt n₀ D Ba Bb Bn Ta Tb Tn Ea Eb W₀ W va vb vn ua ub la lb) (u : Value) : PSt n₀ D Ba Bb Bn Ta Tb Tn Ea Eb W₀ (W.setCell ⟨Bb, 0, none⟩ u) va u vn ua ub la lb := by
  have hg := grownBy_setCell' W Bb u
  have row : ∀ {e : TypeId} {v : Value} {k : Nat} {xs : List Value}, W.ownsRow n₀ e 1 v k xs → v.ownBlock = none ∨ v.ownBlock ≠ some Bb := fun hr => .inr fun e => by have := (hr.lt _ e).1; have := h.la.2.1; omega
  have l := h.la
  exact ⟨h.ba.other (by omega) u, h.bb.set u, h.bn.other (by omega) u, h.ra.kept hg (row h.ra), h.rb.kept hg (row h.rb), h.kt.trans (KT.of_grown hg fun k e => .inl (by cases e; omega)), h.bl.setCell (p := ⟨Bb, 0, none⟩) (by show D ≤ Bb; omega) u, by simpa [World.setCell] using h.sz, h.la, h.ne⟩
end
end Go.Proofs.Ytcgjiddiegepkaa
