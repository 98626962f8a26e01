/- hbllaw4.Plain: a value for the document: the same one, in memory of its own. -/
import Derived.Test.YtidlhajibjnkeaaGreatDoorJCopy
import Derived.Deep.RegionHeld
import Derived.Deep.AppendLies
namespace Go.Proofs.YtidlhajibjnkeaaGreatDoor
open Go.RowKit

theorem infoQ : (Tryz.prog.info? 35).map (fun i => (i.zero, i.size, i.bytes)) = some (some (.agg #[.int .i64 0, .int .i64 0, str [], .slice none 0 0, .slice none 0 0]), 5, 80) := by kernel_rfl
theorem infoQM : (Tryz.prog.info? 61).map (fun i => (i.zero, i.size, i.bytes)) = some (some (.agg #[str [], .int .i64 0, .int .i64 0, str [], .slice none 0 0, .slice none 0 0]), 6, 96) := by kernel_rfl
/-- Plain's list under way: the result's box, the copy's box, its parts. -/
def QpL (k n : Int) (x : List UInt8) (s : Nat) (acc : List JV) (vl : Value) (rows : List (List Value)) (W : World) : Prop :=
  W.heap[s]? = some (.cells #[.int .i64 0, .int .i64 0, str [], .slice none 0 0, .slice none 0 0] 35 (0, 0)) ∧
  W.heap[s + 1]? = some (.cells #[.int .i64 k, .int .i64 n, str x, vl, .slice none 0 0] 35 (0, 0)) ∧ W.ownsRow (s + 2) 35 5 vl acc.length rows.flatten ∧ RdL W (fun i => s + 1 < i ∧ i < W.heap.size ∧ vl.ownBlock ≠ some i) acc rows
section
variable {k n : Int} {x : List UInt8} {s : Nat} {acc : List JV} {vl : Value} {rows : List (List Value)} {W W' : World}
theorem QpL.frm {G : Nat → Prop} (h : QpL k n x s acc vl rows W) (hf : Frm G W W') (hG : ∀ i, s ≤ i → i < W.heap.size → ¬ G i) : QpL k n x s acc vl rows W' := by
  obtain ⟨h1, h2, h3, h4⟩ := h
  have l1 := (Array.getElem?_eq_some_iff.1 h1).1
  have l2 := (Array.getElem?_eq_some_iff.1 h2).1
  refine ⟨box_frm h1 hf (hG _ (Nat.le_refl _) l1), box_frm h2 hf (hG _ (by omega) l2), owns_frm h3 hf (fun k hk => by have := h3.lt k hk; exact hG k (by omega) this.2), ?_⟩
  have := h4.frm hf (fun i hi => hG i (by omega) hi.2.1)
  exact this.mono (fun i hi hF => ⟨hF.1, hi, hF.2.2⟩)
theorem QpL.up (h : QpL k n x s acc vl rows W) (hb : Below W.heap.size W W') : QpL k n x s acc vl rows W' := h.frm (Frm.of_below (F := fun _ => False) hb) (fun _ _ _ e => e)
theorem QpL.sz (h : QpL k n x s acc vl rows W) : s + 2 ≤ W.heap.size ∧ ∀ k, vl.ownBlock = some k → k < W.heap.size :=
  ⟨(Array.getElem?_eq_some_iff.1 h.2.1).1, fun k hk => (h.2.2.1.lt k hk).2⟩
/-- A part more. -/
theorem QpL.add {w4 : World} {g cap B0 : Nat} {v : JV} {cs : List Value} {ob : Obj} (h : QpL k n x s acc vl rows W) (hB : s + 2 ≤ B0) (hvb : ∀ k, vl.ownBlock = some k → k < B0) (hv : RdJ W (fun i => B0 ≤ i) v cs)
    (ho : w4.ownsRow (s + 2) 35 5 (.slice (some ⟨g, 0, none⟩) (acc.length + 1) cap) (acc.length + 1) (rows.flatten ++ cs)) (hg : (W.alloc ob).grownBy w4 vl.ownBlock) (hl : vl.ownBlock = some g ∨ g = W.heap.size + 1) :
    QpL k n x s (acc ++ [v]) (.slice (some ⟨g, 0, none⟩) (acc.length + 1) cap) (rows ++ [cs]) (w4.setCell ⟨s + 1, 3, none⟩ (.slice (some ⟨g, 0, none⟩) (acc.length + 1) cap)) ∧ Frm (fun i => s ≤ i) W (w4.setCell ⟨s + 1, 3, none⟩ (.slice (some ⟨g, 0, none⟩) (acc.length + 1) cap)) := by
  have hsz := h.sz
  obtain ⟨h1, h2, h3, h4⟩ := h
  have hgb : ∀ k, vl.ownBlock = some k → s + 2 ≤ k := fun k hk => (h3.lt k hk).1
  have f1 : Frm (fun i => vl.ownBlock = some i) W w4 := (Frm.of_below (below_alloc W ob)).trans (Frm.of_grown hg (fun k hk => hk)) (fun _ _ h => h)
  have f2 : Frm (fun i => i = s + 1 ∨ vl.ownBlock = some i) W (w4.setCell ⟨s + 1, 3, none⟩ (.slice (some ⟨g, 0, none⟩) (acc.length + 1) cap)) :=
    (f1.mono (fun _ _ h => .inr h)).trans (Frm.set (F := fun i => i = s + 1) _ rfl) (fun _ _ h => .inl h)
  have hgs : s + 2 ≤ g := by
    rcases hl with h | h
    · exact hgb g h
    · omega
  have hbx : w4.heap[s + 1]? = some (.cells #[.int .i64 k, .int .i64 n, str x, vl, .slice none 0 0] 35 (0, 0)) := box_frm h2 f1 (fun e => by have := hgb _ e; omega)
  have g1 : ∀ i, (i = s + 1 ∨ vl.ownBlock = some i) → s + 1 ≤ i := fun i h => by
    rcases h with h | h
    · omega
    · have := hgb _ h; omega
  refine ⟨⟨box_frm h1 f2 (fun e => by have := g1 _ e; omega), box_set hbx 3 _, ?_, RdL.snoc ?_ ?_⟩, f2.mono (fun i _ hi => by have := g1 _ hi; omega)⟩
  · rw [List.flatten_append, List.length_append]
    simp only [List.flatten_cons, List.flatten_nil, List.append_nil, List.length_singleton]
    exact owns_frm (F := fun i => i = s + 1) ho (Frm.set _ rfl) (fun k hk e => by simp [Value.ownBlock] at hk; omega)
  · refine RdJ.mono (F := fun i => B0 ≤ i ∧ i < W.heap.size) ?_ (fun i hi hF => ⟨by omega, hi, fun e => ?_⟩)
    · exact (hv.mono (G := fun i => B0 ≤ i ∧ i < W.heap.size) (fun i hi hF => ⟨hF, hi⟩)).frm f2 (fun i hi e => by
        rcases e with e | e
        · omega
        · have := hvb i e; omega)
    · simp only [Value.ownBlock, Option.some.injEq] at e
      subst e
      rcases hl with h | h
      · have := hvb _ h; omega
      · omega
  · have := h4.frm f2 (fun i hi e => by
      rcases e with e | e
      · omega
      · exact hi.2.2 e)
    refine this.mono (fun i hi hF => ⟨hF.1, hi, fun e => ?_⟩)
    simp only [Value.ownBlock, Option.some.injEq] at e
    subst e
    rcases hl with h | h
    · exact hF.2.2 h
    · omega
end
/-- Plain's members under way. -/
def QpM (k n : Int) (x : List UInt8) (s B1 : Nat) (l : List JV) (vl : Value) (acc : List MemT) (vm : Value) (rows : List (List Value)) (W : World) : Prop :=
  W.heap[s]? = some (.cells #[.int .i64 0, .int .i64 0, str [], .slice none 0 0, .slice none 0 0] 35 (0, 0)) ∧
  W.heap[s + 1]? = some (.cells #[.int .i64 k, .int .i64 n, str x, vl, vm] 35 (0, 0)) ∧ W.ownsRow B1 61 6 vm acc.length rows.flatten ∧ RdM W (fun i => B1 ≤ i ∧ i < W.heap.size ∧ vm.ownBlock ≠ some i) acc rows ∧
  s + 2 ≤ B1 ∧ B1 ≤ W.heap.size ∧ ∃ rl, RdFB (fun i => s + 1 < i ∧ i < B1) 5 W vl rl ∧ RdL W (fun i => s + 1 < i ∧ i < B1) l rl
section
variable {k n : Int} {x : List UInt8} {s B1 : Nat} {l : List JV} {vl : Value} {acc : List MemT} {vm : Value} {rows : List (List Value)} {W W' : World}
theorem QpL.toM {rows : List (List Value)} (h : QpL k n x s l vl rows W) : QpM k n x s W.heap.size l vl [] (.slice none 0 0) [] W := by
  have hsz := h.sz
  obtain ⟨h1, h2, h3, h4⟩ := h
  obtain ⟨r1, r2⟩ := RdL.rows h4
  refine ⟨h1, h2, World.ownsRow_nil _ _ _ _, by unfold RdM; trivial, hsz.1, Nat.le_refl _, rows, ?_, h4.mono (fun i hi hF => ⟨hF.1, hi⟩)⟩
  rw [← r1] at h3
  exact RdFB.of_row r2 h3 (fun k hk => by have := h3.lt k hk; omega)
theorem QpM.frm {G : Nat → Prop} (h : QpM k n x s B1 l vl acc vm rows W) (hf : Frm G W W') (hG : ∀ i, s ≤ i → i < W.heap.size → ¬ G i) : QpM k n x s B1 l vl acc vm rows W' := by
  obtain ⟨h1, h2, h3, h4, h5, h6, rl, h7, h8⟩ := h
  have l1 := (Array.getElem?_eq_some_iff.1 h1).1
  have l2 := (Array.getElem?_eq_some_iff.1 h2).1
  refine ⟨box_frm h1 hf (hG _ (Nat.le_refl _) l1), box_frm h2 hf (hG _ (by omega) l2), owns_frm h3 hf (fun k hk => by have := h3.lt k hk; exact hG k (by omega) this.2), ?_, h5, Nat.le_trans h6 hf.size, rl, h7.frm hf (fun i hi => hG i (by omega) (by omega)), h8.frm hf (fun i hi => hG i (by omega) (by omega))⟩
  have := h4.frm hf (fun i hi => hG i (by omega) hi.2.1)
  exact this.mono (fun i hi hF => ⟨hF.1, hi, hF.2.2⟩)
theorem QpM.up (h : QpM k n x s B1 l vl acc vm rows W) (hb : Below W.heap.size W W') : QpM k n x s B1 l vl acc vm rows W' := h.frm (Frm.of_below (F := fun _ => False) hb) (fun _ _ _ e => e)
theorem QpM.sz (h : QpM k n x s B1 l vl acc vm rows W) : s + 2 ≤ W.heap.size ∧ ∀ k, vm.ownBlock = some k → k < W.heap.size :=
  ⟨(Array.getElem?_eq_some_iff.1 h.2.1).1, fun k hk => (h.2.2.1.lt k hk).2⟩
/-- A member more. -/
theorem QpM.add {w4 : World} {g cap B0 : Nat} {nm : List UInt8} {v : JV} {cs : List Value} {ob : Obj} (h : QpM k n x s B1 l vl acc vm rows W) (hB : B1 ≤ B0) (hvb : ∀ k, vm.ownBlock = some k → k < B0) (hv : RdJ W (fun i => B0 ≤ i) v cs)
    (ho : w4.ownsRow B1 61 6 (.slice (some ⟨g, 0, none⟩) (acc.length + 1) cap) (acc.length + 1) (rows.flatten ++ (str nm :: cs))) (hg : (W.alloc ob).grownBy w4 vm.ownBlock) (hl : vm.ownBlock = some g ∨ g = W.heap.size + 1) :
    QpM k n x s B1 l vl (acc ++ [(nm, v)]) (.slice (some ⟨g, 0, none⟩) (acc.length + 1) cap) (rows ++ [str nm :: cs]) (w4.setCell ⟨s + 1, 4, none⟩ (.slice (some ⟨g, 0, none⟩) (acc.length + 1) cap)) ∧ Frm (fun i => s ≤ i) W (w4.setCell ⟨s + 1, 4, none⟩ (.slice (some ⟨g, 0, none⟩) (acc.length + 1) cap)) := by
  have hsz := h.sz
  obtain ⟨h1, h2, h3, h4, h5, h6, rl, h7, h8⟩ := h
  have hgb : ∀ k, vm.ownBlock = some k → B1 ≤ k := fun k hk => (h3.lt k hk).1
  have f1 : Frm (fun i => vm.ownBlock = some i) W w4 := (Frm.of_below (below_alloc W ob)).trans (Frm.of_grown hg (fun k hk => hk)) (fun _ _ h => h)
  have f2 : Frm (fun i => i = s + 1 ∨ vm.ownBlock = some i) W (w4.setCell ⟨s + 1, 4, none⟩ (.slice (some ⟨g, 0, none⟩) (acc.length + 1) cap)) :=
    (f1.mono (fun _ _ h => .inr h)).trans (Frm.set (F := fun i => i = s + 1) _ rfl) (fun _ _ h => .inl h)
  have hgs : B1 ≤ g := by
    rcases hl with h | h
    · exact hgb g h
    · omega
  have hbx : w4.heap[s + 1]? = some (.cells #[.int .i64 k, .int .i64 n, str x, vl, vm] 35 (0, 0)) := box_frm h2 f1 (fun e => by have := hgb _ e; omega)
  have g1 : ∀ i, (i = s + 1 ∨ vm.ownBlock = some i) → s + 1 ≤ i := fun i h => by
    rcases h with h | h
    · omega
    · have := hgb _ h; omega
  have g2 : ∀ i, (s + 1 < i ∧ i < B1) → ¬ (i = s + 1 ∨ vm.ownBlock = some i) := fun i hi h => by
    rcases h with h | h
    · omega
    · have := hgb _ h; omega
  refine ⟨⟨box_frm h1 f2 (fun e => by have := g1 _ e; omega), box_set hbx 4 _, ?_, RdM.snoc ?_ ?_, h5, Nat.le_trans h6 f2.size, rl, h7.frm f2 g2, h8.frm f2 g2⟩, f2.mono (fun i _ hi => by have := g1 _ hi; omega)⟩
  · rw [List.flatten_append, List.length_append]
    simp only [List.flatten_cons, List.flatten_nil, List.append_nil, List.length_singleton]
    exact owns_frm (F := fun i => i = s + 1) ho (Frm.set _ rfl) (fun k hk e => by simp [Value.ownBlock] at hk; omega)
  · refine RdJ.mono (F := fun i => B0 ≤ i ∧ i < W.heap.size) ?_ (fun i hi hF => ⟨by omega, hi, fun e => ?_⟩)
    · exact (hv.mono (G := fun i => B0 ≤ i ∧ i < W.heap.size) (fun i hi hF => ⟨hF, hi⟩)).frm f2 (fun i hi e => by
        rcases e with e | e
        · omega
        · have := hvb i e; omega)
    · simp only [Value.ownBlock, Option.some.injEq] at e
      subst e
      rcases hl with h | h
      · have := hvb _ h; omega
      · omega
  · have := h4.frm f2 (fun i hi e => by
      rcases e with e | e
      · omega
      · exact hi.2.2 e)
    refine this.mono (fun i hi hF => ⟨hF.1, hi, fun e => ?_⟩)
    simp only [Value.ownBlock, Option.some.injEq] at e
    subst e
    rcases hl with h | h
    · exact hF.2.2 h
    · omega
end
theorem qpl_up {k n : Int} {x : List UInt8} {s : Nat} {acc : List JV} {vl : Value} {rows : List (List Value)} {W : World} (h : QpL k n x s acc vl rows W) (ob : Obj) : (W.alloc ob).cell? ⟨s + 1, 3, none⟩ = some vl :=
  box_cell (box_up h.2.1 (below_alloc W ob)) 3
theorem qpl_box {k n : Int} {x : List UInt8} {s : Nat} {acc : List JV} {vl : Value} {rows : List (List Value)} {W w4 : World} {ob : Obj} (h : QpL k n x s acc vl rows W) (hg : (W.alloc ob).grownBy w4 vl.ownBlock) :
    w4.heap[s + 1]? = some (.cells #[.int .i64 k, .int .i64 n, str x, vl, .slice none 0 0] 35 (0, 0)) := by
  have hb := box_up h.2.1 (below_alloc W ob)
  rw [hg.block (s + 1) (Array.getElem?_eq_some_iff.1 hb).1 (fun e => by have := h.2.2.1.lt _ e.symm; omega)]
  exact hb
theorem qpl_cell {k n : Int} {x : List UInt8} {s : Nat} {acc : List JV} {vl : Value} {rows : List (List Value)} {W w4 : World} {ob : Obj} (h : QpL k n x s acc vl rows W) (hg : (W.alloc ob).grownBy w4 vl.ownBlock) : w4.cell? ⟨s + 1, 3, none⟩ = some vl := box_cell (qpl_box h hg) 3
theorem qpl_fr {k n : Int} {x : List UInt8} {s : Nat} {acc : List JV} {vl : Value} {rows : List (List Value)} {W w4 : World} {ob : Obj} (h : QpL k n x s acc vl rows W) (hg : (W.alloc ob).grownBy w4 vl.ownBlock) : w4.frozen? ⟨s + 1, 3, none⟩ = false := box_fr (qpl_box h hg) 3
theorem qpm_up {k n : Int} {x : List UInt8} {s B1 : Nat} {l : List JV} {vl : Value} {acc : List MemT} {vm : Value} {rows : List (List Value)} {W : World} (h : QpM k n x s B1 l vl acc vm rows W) (ob : Obj) : (W.alloc ob).cell? ⟨s + 1, 4, none⟩ = some vm :=
  box_cell (box_up h.2.1 (below_alloc W ob)) 4
theorem qpm_box {k n : Int} {x : List UInt8} {s B1 : Nat} {l : List JV} {vl : Value} {acc : List MemT} {vm : Value} {rows : List (List Value)} {W w4 : World} {ob : Obj} (h : QpM k n x s B1 l vl acc vm rows W) (hg : (W.alloc ob).grownBy w4 vm.ownBlock) :
    w4.heap[s + 1]? = some (.cells #[.int .i64 k, .int .i64 n, str x, vl, vm] 35 (0, 0)) := by
  have hb := box_up h.2.1 (below_alloc W ob)
  rw [hg.block (s + 1) (Array.getElem?_eq_some_iff.1 hb).1 (fun e => by have := h.2.2.1.lt _ e.symm; have := h.2.2.2.2.1; omega)]
  exact hb
theorem qpm_cell {k n : Int} {x : List UInt8} {s B1 : Nat} {l : List JV} {vl : Value} {acc : List MemT} {vm : Value} {rows : List (List Value)} {W w4 : World} {ob : Obj} (h : QpM k n x s B1 l vl acc vm rows W) (hg : (W.alloc ob).grownBy w4 vm.ownBlock) : w4.cell? ⟨s + 1, 4, none⟩ = some vm := box_cell (qpm_box h hg) 4
theorem qpm_fr {k n : Int} {x : List UInt8} {s B1 : Nat} {l : List JV} {vl : Value} {acc : List MemT} {vm : Value} {rows : List (List Value)} {W w4 : World} {ob : Obj} (h : QpM k n x s B1 l vl acc vm rows W) (hg : (W.alloc ob).grownBy w4 vm.ownBlock) : w4.frozen? ⟨s + 1, 4, none⟩ = false := box_fr (qpm_box h hg) 4
/-- What Plain tells. -/
def PlnC (v : JV) : Prop := szV v ≤ 1000000000 → ∀ (F : Nat → Prop) (w : World) (cs : List Value), RdJ w F v cs →
  Calls Tryz.prog 10 #[.agg cs.toArray] w fun e w' => ∃ cs', e = .returned (.agg cs'.toArray) ∧ RdJ w' (fun i => w.heap.size ≤ i) v cs' ∧ Below w.heap.size w w'
set_option maxRecDepth 100000 in
set_option maxHeartbeats 8000000 in
theorem plain_step (v : JV) (IHL : ∀ x ∈ v.l, PlnC x) (IHM : ∀ x ∈ v.m, PlnC x.2) : PlnC v := by
  intro hsz F w cs h
  obtain ⟨al, ll, cl, am, lm, cm, rfl, ⟨rl, hrl, hll, rfl⟩, rm, hrm, hmm, rfl⟩ := h.open
  have hZ : v.l.length ≤ 1000000000 ∧ v.m.length ≤ 1000000000 := by
    have := szV_mk v
    have := szL_len v.l
    have := szM_len v.m
    omega
  have HL := Lib.hid (And.intro hrl (And.intro hll (And.intro hrm hmm)))
  have IL : Hid (∀ x ∈ v.l, ∀ (F : Nat → Prop) (w : World) (cs : List Value), RdJ w F x cs → Calls Tryz.prog 10 #[.agg cs.toArray] w fun e w' => ∃ cs', e = .returned (.agg cs'.toArray) ∧ RdJ w' (fun i => w.heap.size ≤ i) x cs' ∧ Below w.heap.size w w') := Lib.hid (fun x hx => IHL x hx (by
    have := szV_mk v
    have := szL_mem hx
    omega))
  have IM : Hid (∀ x ∈ v.m, ∀ (F : Nat → Prop) (w : World) (cs : List Value), RdJ w F x.2 cs → Calls Tryz.prog 10 #[.agg cs.toArray] w fun e w' => ∃ cs', e = .returned (.agg cs'.toArray) ∧ RdJ w' (fun i => w.heap.size ≤ i) x.2 cs' ∧ Below w.heap.size w w') := Lib.hid (fun x hx => IHM x hx (by
    have := szV_mk v
    have := szM_mem hx
    omega))
  obtain ⟨hz1, hz2⟩ := hZ
  clear IHL IHM hrl hll hrm hmm h hsz
  obtain ⟨W0, hW0⟩ : ∃ W0, W0 = ((w.alloc (.cells #[.int .i64 v.kind, .int .i64 v.n, str v.s, .slice al v.l.length cl, .slice am v.m.length cm] 28)).alloc (.cells #[.int .i64 0, .int .i64 0, .string ⟨#[]⟩, .slice none 0 0, .slice none 0 0] 35)).alloc (.cells #[.int .i64 v.kind, .int .i64 v.n, str v.s, .slice none 0 0, .slice none 0 0] 35) := ⟨_, rfl⟩
  have H0 : Hid (Below w.heap.size w W0 ∧ W0.heap[w.heap.size]? = some (.cells #[.int .i64 v.kind, .int .i64 v.n, str v.s, .slice al v.l.length cl, .slice am v.m.length cm] 28 (0, 0)) ∧ QpL v.kind v.n v.s (w.heap.size + 1) [] (.slice none 0 0) [] W0) := Lib.hid (by
    have hb : Below w.heap.size w W0 := by rw [hW0]; exact (((Below.refl _ _).alloc (Nat.le_refl _) _).alloc (by simp) _).alloc (by simp; omega) _
    refine ⟨hb, ?_, ?_, ?_, World.ownsRow_nil _ _ _ _, by unfold RdL; trivial⟩
    · rw [hW0]; exact box_up (box_up (heap_alloc_new w _) (below_alloc _ _)) (below_alloc _ _)
    · rw [hW0]
      have := heap_alloc_new (w.alloc (.cells #[.int .i64 v.kind, .int .i64 v.n, str v.s, .slice al v.l.length cl, .slice am v.m.length cm] 28)) (.cells #[.int .i64 0, .int .i64 0, .string ⟨#[]⟩, .slice none 0 0, .slice none 0 0] 35)
      refine box_up ?_ (below_alloc _ _)
      simpa using this
    · rw [hW0]
      have := heap_alloc_new ((w.alloc (.cells #[.int .i64 v.kind, .int .i64 v.n, str v.s, .slice al v.l.length cl, .slice am v.m.length cm] 28)).alloc (.cells #[.int .i64 0, .int .i64 0, .string ⟨#[]⟩, .slice none 0 0, .slice none 0 0] 35)) (.cells #[.int .i64 v.kind, .int .i64 v.n, str v.s, .slice none 0 0, .slice none 0 0] 35)
      simpa using this)
  obtain ⟨i0, hi, hq0, hq1, hq2⟩ := info_parts infoQ
  go_enter Tryz.func10, Tryz.ntmps10
  go_upto_region 2 with fail
  rw [← hW0]
  clear hW0
  go_wp2_with fail
  go_loopw [4] (fun v14 wr => ∃ k : Nat, k ≤ v.l.length ∧ v14 = .int .i64 (k : Int) ∧ Hid (Below (w.heap.size + 1) W0 wr ∧ ∃ vl rows, QpL v.kind v.n v.s (w.heap.size + 1) (v.l.take k) vl rows wr)) (fun v14 _ => v.l.length - (intOf v14).toNat)
  case atStart => exact ⟨0, Nat.zero_le _, rfl, Lib.hid ⟨Below.refl _ _, _, _, H0.out.2.2⟩⟩
  case round =>
    obtain ⟨k, hk, rfl, HK⟩ := hrel
    obtain ⟨hbw0, vl, rows, hcp⟩ := HK.out
    have HWW : Hid (Below w.heap.size w wr) := Lib.hid (H0.out.1.trans (hbw0.mono (Nat.le_succ _)))
    have HC := Lib.hid hcp
    have HB0 := Lib.hid hbw0
    have b3 : wr.cell? ⟨w.heap.size, 3, none⟩ = some (.slice al v.l.length cl) := box_cell (show wr.heap[w.heap.size]? = some (.cells #[.int .i64 v.kind, .int .i64 v.n, str v.s, .slice al v.l.length cl, .slice am v.m.length cm] 28 (0, 0)) by rw [HB0.out.block _ (Nat.lt_succ_self _)]; exact H0.out.2.1) 3
    clear hcp hbw0 HK
    by_cases hlt : k < v.l.length
    · have n1 : (k : Int) < (v.l.length : Int) := by omega
      have n3 : (0 : Int) ≤ (k : Int) := by omega
      obtain ⟨b, off, a, n, c, a', n', c', rfl, _, hbw, hx, c0, c1, c2, c3, c4⟩ := RdJ.part HL.out.1 HL.out.2.1 hlt
      have HM : Hid (v.l[k] ∈ v.l) := Lib.hid (List.getElem_mem hlt)
      obtain ⟨x, hxx⟩ : ∃ x, x = v.l[k] := ⟨_, rfl⟩
      have HTK : Hid (v.l.take (k + 1) = v.l.take k ++ [x]) := Lib.hid (by rw [hxx, List.take_add_one, List.getElem?_eq_getElem hlt]; rfl)
      rw [← hxx] at hx c0 c1 c2 HM
      clear hxx
      have e0 : wr.cell? ⟨b, off + k * 5, none⟩ = some (.int .i64 x.kind) := (HWW.out.cell (p := ⟨b, off + k * 5, none⟩) hbw).trans c0
      have e1 : wr.cell? ⟨b, off + k * 5 + 1, none⟩ = some (.int .i64 x.n) := (HWW.out.cell (p := ⟨b, off + k * 5 + 1, none⟩) hbw).trans c1
      have e2 : wr.cell? ⟨b, off + k * 5 + 2, none⟩ = some (str x.s) := (HWW.out.cell (p := ⟨b, off + k * 5 + 2, none⟩) hbw).trans c2
      have e3 : wr.cell? ⟨b, off + k * 5 + 3, none⟩ = some (.slice a n c) := (HWW.out.cell (p := ⟨b, off + k * 5 + 3, none⟩) hbw).trans c3
      have e4 : wr.cell? ⟨b, off + k * 5 + 4, none⟩ = some (.slice a' n' c') := (HWW.out.cell (p := ⟨b, off + k * 5 + 4, none⟩) hbw).trans c4
      have HX1 := Lib.hid (hx.up HWW.out)
      obtain ⟨acc, hacc⟩ : ∃ acc, acc = v.l.take k := ⟨_, rfl⟩
      have hal : acc.length = k := by rw [hacc]; simp; omega
      rw [← hacc] at HC HTK
      clear hacc
      obtain ⟨va, vc, rfl⟩ := own_slice HC.out.2.2.1
      have CV := Lib.hid (IL.out x HM.out F wr.drew _ (HX1.out.up (W' := wr.drew) (Below.drewsN (Below.refl _ _) 1)))
      have d3 := box_cell HC.out.2.1 3
      have HBW := Lib.hid hbw
      clear hx c0 c1 c2 c3 c4 hbw
      have HC1d := Lib.hid (HC.out.up (W' := wr.drew) (Below.drewsN (Below.refl _ _) 1))
      have HCZ := Lib.hid HC.out.sz
      have hal2 : acc.length ≤ 1000000000 := by omega
      clear hal
      go_upto_region 5 with fail
      have HS : Hid (∀ W, Frm (fun i => w.heap.size + 1 ≤ i) wr W → (fun W => W.cell? ⟨w.heap.size, 3, none⟩ = some (.slice (some ⟨b, off, none⟩) v.l.length cl) ∧ W.cell? ⟨b, off + k * 5, none⟩ = some (.int .i64 x.kind) ∧ W.cell? ⟨b, off + k * 5 + 1, none⟩ = some (.int .i64 x.n) ∧ W.cell? ⟨b, off + k * 5 + 2, none⟩ = some (str x.s) ∧ W.cell? ⟨b, off + k * 5 + 3, none⟩ = some (.slice a n c) ∧ W.cell? ⟨b, off + k * 5 + 4, none⟩ = some (.slice a' n' c')) W) := Lib.hid (fun W hf => ⟨cell_frm hf (by omega) b3, cell_frm hf (by have h : b < w.heap.size := HBW.out; omega) e0, cell_frm hf (by have h : b < w.heap.size := HBW.out; omega) e1, cell_frm hf (by have h : b < w.heap.size := HBW.out; omega) e2, cell_frm hf (by have h : b < w.heap.size := HBW.out; omega) e3, cell_frm hf (by have h : b < w.heap.size := HBW.out; omega) e4⟩)
      clear b3 e0 e1 e2 e3 e4 d3
      obtain ⟨wc, hwc⟩ : ∃ x, x = wr.drew := ⟨_, rfl⟩
      rw [← hwc] at CV HC1d
      have HFC : Hid (Frm (fun i => w.heap.size + 1 ≤ i) wr wc) := Lib.hid (by rw [hwc]; exact Frm.of_below (Below.drewsN (Below.refl _ _) 1))
      have HBC : Hid (Below wr.heap.size wr wc) := Lib.hid (by rw [hwc]; exact Below.drewsN (Below.refl _ _) 1)
      have HBXX := Lib.hid HC1d.out.2.1
      refine wp_region_held_drew (S := (fun W => W.cell? ⟨w.heap.size, 3, none⟩ = some (.slice (some ⟨b, off, none⟩) v.l.length cl) ∧ W.cell? ⟨b, off + k * 5, none⟩ = some (.int .i64 x.kind) ∧ W.cell? ⟨b, off + k * 5 + 1, none⟩ = some (.int .i64 x.n) ∧ W.cell? ⟨b, off + k * 5 + 2, none⟩ = some (str x.s) ∧ W.cell? ⟨b, off + k * 5 + 3, none⟩ = some (.slice a n c) ∧ W.cell? ⟨b, off + k * 5 + 4, none⟩ = some (.slice a' n' c'))) (by kernel_rfl) (by rw [← hwc]; exact HS.out _ HFC.out) (fun hHeld => ?_)
      rw [← hwc] at hHeld ⊢
      clear hwc
      refine wpAnyH_take (i := 0) (v := ?v19) rfl (by kernel_rfl) (by kernel_rfl) (by kernel_rfl) (fun _ _ _ h => h) (Or.inl ⟨by rfl, ?hy19⟩) (by assumption) ?_
      case hy19 => (intro w hSw; clear hSw; go_simp; try with_reducible rfl)
      go_simp
      refine wpAnyH_take (i := 2) (v := ?v20) rfl (by kernel_rfl) (by kernel_rfl) (by kernel_rfl) (fun _ _ _ h => h) (Or.inl ⟨by rfl, ?hy20⟩) (by assumption) ?_
      case hy20 => (intro w hSw; clear hSw; go_simp; try with_reducible rfl)
      go_simp
      refine wpAnyH_take (i := 3) (v := ?v21) rfl (by kernel_rfl) (by kernel_rfl) (by kernel_rfl) (fun _ _ _ h => h) (Or.inl ⟨by rfl, ?hy21⟩) (by assumption) ?_
      case hy21 => (intro w hSw; obtain ⟨hs0, hs1, hs2, hs3, hs4, hs5⟩ := hSw; go_simp; try with_reducible rfl)
      go_simp
      refine wpAnyH_take (i := 4) (v := ?v22) rfl (by kernel_rfl) (by kernel_rfl) (by kernel_rfl) (fun _ _ _ h => h) (Or.inl ⟨by rfl, ?hy22⟩) (by assumption) ?_
      case hy22 => (intro w hSw; clear hSw; go_simp; try with_reducible rfl)
      go_simp
      refine wpAnyH_take (i := 5) (v := ?v23) rfl (by kernel_rfl) (by kernel_rfl) (by kernel_rfl) (fun _ _ _ h => h) (Or.inl ⟨by rfl, ?hy23⟩) (by assumption) ?_
      case hy23 => (intro w hSw; clear hSw; go_simp; try with_reducible rfl)
      go_simp
      refine wpAnyH_take (i := 6) (v := ?v24) rfl (by kernel_rfl) (by kernel_rfl) (by kernel_rfl) (fun _ _ _ h => h) (Or.inl ⟨by rfl, ?hy24⟩) (by assumption) ?_
      case hy24 => (intro w hSw; obtain ⟨hs0, hs1, hs2, hs3, hs4, hs5⟩ := hSw; go_simp; try with_reducible rfl)
      go_simp
      refine wpAnyH_ready (rs := [1, 7]) (by kernel_rfl) (by simp) (AllReadyH.cons rfl (fun K hK => ?_) (AllReadyH.cons rfl (fun K hK => ?_) AllReadyH.nil))
      · have cq := box_cell HBXX.out 3
        go_simp
        clear cq
        refine hK.out _ _ (HS.out _ HFC.out) (fun hHeld => ?_)
        clear hK K
        refine wpAnyH_ready (rs := [7]) (by kernel_rfl) (by simp) (AllReadyH.cons rfl (fun K hK => ?_) AllReadyH.nil)
        go_simp
        refine CV.out.mono ?_
        rintro e w2 ⟨cs2, rfl, hv2, hb2⟩
        obtain ⟨a2, n2, c2, a2', n2', c2', rfl, _, _⟩ := hv2.open
        have HC2 := Lib.hid (HC1d.out.up hb2)
        have HV2 := Lib.hid hv2
        have HB2 := Lib.hid (HBC.out.trans (hb2.mono HBC.out.size))
        have HBXX := Lib.hid HC2.out.2.1
        have HFC := Lib.hid (Frm.of_below (F := fun i => w.heap.size + 1 ≤ i) HB2.out)
        clear hv2 hb2
        go_simp
        refine hK.out _ _ (HS.out _ HFC.out) (fun hHeld => ?_)
        clear hK K
        refine wpAnyH_ready (rs := [8]) (by kernel_rfl) (by simp) (AllReadyH.cons rfl (fun K hK => ?_) AllReadyH.nil)
        go_simp
        obtain ⟨WM, hWM⟩ : ∃ W, W = w2.alloc (.cells #[.int .i64 x.kind, .int .i64 x.n, str x.s, .slice a2 n2 c2, .slice a2' n2' c2'] 35) := ⟨_, rfl⟩
        have HM1 := Lib.hid hWM
        have HBXX := Lib.hid (box_up HC2.out.2.1 (w' := WM) (by rw [hWM]; exact below_alloc _ _))
        have HFC : Hid (Frm (fun i => w.heap.size + 1 ≤ i) wr WM) := Lib.hid (HFC.out.trans (show Frm (fun i => w.heap.size + 1 ≤ i) w2 WM from Frm.of_below (by rw [hWM]; exact below_alloc _ _)) (fun _ _ h => h))
        rw [← hWM]
        clear hWM
        refine hK.out _ _ (HS.out _ HFC.out) (fun hHeld => ?_)
        clear hK K
        refine wpAnyH_ready (rs := [9]) (by kernel_rfl) (by simp) (AllReadyH.cons rfl (fun K hK => ?_) AllReadyH.nil)
        refine step_append_lies _ (by rfl) _ _ 32 (by rfl) _ 35 _ _ 5 80 Tryz.underlying32 hi hq0 hq1 hq2 rfl (by decide) _ acc.length _ (by rfl) (owns_frm (F := fun _ => False) HC2.out.2.2.1 (Frm.of_below (by rw [HM1.out]; exact below_alloc _ _)) (fun _ _ h => h)) ⟨w2.heap.size, 0, none⟩ 1 1 [.int .i64 x.kind, .int .i64 x.n, str x.s, .slice a2 n2 c2, .slice a2' n2' c2'] (by rfl) (by rfl) (World.news_of_block (by rw [HM1.out]; exact heap_alloc_new _ _)) (by simp [Value.oneCell']) (by decide) (by simp only [maxLen]; omega) (by omega) (by have := HC2.out.sz; rw [HM1.out]; simp; first | omega | (have := HC2.out.sz.1; omega)) _ rfl ?_
        intro g cap w4 ho hg hl _
        rw [HM1.out] at hg hl
        have HA := Lib.hid (HC2.out.add (v := x) (B0 := wr.heap.size) (by have := HC.out.sz.1; omega) (fun k hk => HC.out.sz.2 k hk) (HV2.out.mono (fun i _ hi => Nat.le_trans HBC.out.size hi)) ho hg (by simpa using hl))
        have hx3 : w4.cell? ⟨w.heap.size + 1 + 1, 3, none⟩ = some (.slice va acc.length vc) := qpl_cell HC2.out hg
        have hxf : w4.frozen? ⟨w.heap.size + 1 + 1, 3, none⟩ = false := qpl_fr HC2.out hg
        have HX3 := Lib.hid (And.intro hx3 hxf)
        have HFC := Lib.hid (HFC.out.trans (Frm.of_grown (w := WM) (F := fun i => w.heap.size + 1 ≤ i) (by rw [HM1.out]; exact hg) (fun k hk => by have := (HC2.out.2.2.1.lt k hk).1; omega)) (fun _ _ h => h))
        clear ho hg hl hx3 hxf
        go_simp
        refine hK.out _ _ (HS.out _ HFC.out) (fun hHeld => ?_)
        clear hK K
        refine wpAnyH_take (i := 10) (v := ?v25) rfl (by kernel_rfl) (by kernel_rfl) (by kernel_rfl) (fun _ _ _ h => h) (Or.inl ⟨by rfl, ?hy25⟩) (by assumption) ?_
        case hy25 => (intro w hSw; clear hSw; go_simp; try with_reducible rfl)
        go_simp
        refine wpAnyH_ready (rs := [11]) (by kernel_rfl) (by simp) (AllReadyH.cons rfl (fun K hK => ?_) AllReadyH.nil)
        have cq := HX3.out.1
        have fq := HX3.out.2
        go_simp
        clear cq fq
        refine hK.out _ _ (HS.out _ (HFC.out.trans (Frm.set (F := fun i => w.heap.size + 1 ≤ i) _ (by show w.heap.size + 1 ≤ w.heap.size + 1 + 1; omega)) (fun _ _ h => h))) (fun hHeld => ?_)
        clear hK K
        refine wpAnyH_done (by kernel_rfl) ?_ _
        clear HS HX3 HFC HBXX HM1 hHeld
        have HA2 := HA.out
        generalize w4.setCell ⟨w.heap.size + 1 + 1, 3, none⟩ (.slice (some ⟨g, 0, none⟩) (acc.length + 1) cap) = w5 at HA2 ⊢
        have H5 : Hid (Below (w.heap.size + 1) W0 w5 ∧ ∃ vl rows, QpL v.kind v.n v.s (w.heap.size + 1) (v.l.take (k + 1)) vl rows w5) := Lib.hid ⟨(HB0.out.trans (HB2.out.mono (by have := HCZ.out.1; show w.heap.size + 1 ≤ wr.heap.size; omega))).trans (HA2.2.below (by have := HC2.out.sz.1; omega) (fun i h => h)), _, _, by rw [HTK.out]; exact HA2.1⟩
        clear HA2 HA
        go_wp2_with fail
        go_roundw
        case rel => exact ⟨k + 1, by omega, by go_num, H5⟩
        case measure => simp [intOf]; omega
      · go_simp
        refine CV.out.mono ?_
        rintro e w2 ⟨cs2, rfl, hv2, hb2⟩
        obtain ⟨a2, n2, c2, a2', n2', c2', rfl, _, _⟩ := hv2.open
        have HC2 := Lib.hid (HC1d.out.up hb2)
        have HV2 := Lib.hid hv2
        have HB2 := Lib.hid (HBC.out.trans (hb2.mono HBC.out.size))
        have HBXX := Lib.hid HC2.out.2.1
        have HFC := Lib.hid (Frm.of_below (F := fun i => w.heap.size + 1 ≤ i) HB2.out)
        clear hv2 hb2
        go_simp
        refine hK.out _ _ (HS.out _ HFC.out) (fun hHeld => ?_)
        clear hK K
        refine wpAnyH_ready (rs := [1, 8]) (by kernel_rfl) (by simp) (AllReadyH.cons rfl (fun K hK => ?_) (AllReadyH.cons rfl (fun K hK => ?_) AllReadyH.nil))
        · have cq := box_cell HBXX.out 3
          go_simp
          clear cq
          refine hK.out _ _ (HS.out _ HFC.out) (fun hHeld => ?_)
          clear hK K
          refine wpAnyH_ready (rs := [8]) (by kernel_rfl) (by simp) (AllReadyH.cons rfl (fun K hK => ?_) AllReadyH.nil)
          go_simp
          obtain ⟨WM, hWM⟩ : ∃ W, W = w2.alloc (.cells #[.int .i64 x.kind, .int .i64 x.n, str x.s, .slice a2 n2 c2, .slice a2' n2' c2'] 35) := ⟨_, rfl⟩
          have HM1 := Lib.hid hWM
          have HBXX := Lib.hid (box_up HC2.out.2.1 (w' := WM) (by rw [hWM]; exact below_alloc _ _))
          have HFC : Hid (Frm (fun i => w.heap.size + 1 ≤ i) wr WM) := Lib.hid (HFC.out.trans (show Frm (fun i => w.heap.size + 1 ≤ i) w2 WM from Frm.of_below (by rw [hWM]; exact below_alloc _ _)) (fun _ _ h => h))
          rw [← hWM]
          clear hWM
          refine hK.out _ _ (HS.out _ HFC.out) (fun hHeld => ?_)
          clear hK K
          refine wpAnyH_ready (rs := [9]) (by kernel_rfl) (by simp) (AllReadyH.cons rfl (fun K hK => ?_) AllReadyH.nil)
          refine step_append_lies _ (by rfl) _ _ 32 (by rfl) _ 35 _ _ 5 80 Tryz.underlying32 hi hq0 hq1 hq2 rfl (by decide) _ acc.length _ (by rfl) (owns_frm (F := fun _ => False) HC2.out.2.2.1 (Frm.of_below (by rw [HM1.out]; exact below_alloc _ _)) (fun _ _ h => h)) ⟨w2.heap.size, 0, none⟩ 1 1 [.int .i64 x.kind, .int .i64 x.n, str x.s, .slice a2 n2 c2, .slice a2' n2' c2'] (by rfl) (by rfl) (World.news_of_block (by rw [HM1.out]; exact heap_alloc_new _ _)) (by simp [Value.oneCell']) (by decide) (by simp only [maxLen]; omega) (by omega) (by have := HC2.out.sz; rw [HM1.out]; simp; first | omega | (have := HC2.out.sz.1; omega)) _ rfl ?_
          intro g cap w4 ho hg hl _
          rw [HM1.out] at hg hl
          have HA := Lib.hid (HC2.out.add (v := x) (B0 := wr.heap.size) (by have := HC.out.sz.1; omega) (fun k hk => HC.out.sz.2 k hk) (HV2.out.mono (fun i _ hi => Nat.le_trans HBC.out.size hi)) ho hg (by simpa using hl))
          have hx3 : w4.cell? ⟨w.heap.size + 1 + 1, 3, none⟩ = some (.slice va acc.length vc) := qpl_cell HC2.out hg
          have hxf : w4.frozen? ⟨w.heap.size + 1 + 1, 3, none⟩ = false := qpl_fr HC2.out hg
          have HX3 := Lib.hid (And.intro hx3 hxf)
          have HFC := Lib.hid (HFC.out.trans (Frm.of_grown (w := WM) (F := fun i => w.heap.size + 1 ≤ i) (by rw [HM1.out]; exact hg) (fun k hk => by have := (HC2.out.2.2.1.lt k hk).1; omega)) (fun _ _ h => h))
          clear ho hg hl hx3 hxf
          go_simp
          refine hK.out _ _ (HS.out _ HFC.out) (fun hHeld => ?_)
          clear hK K
          refine wpAnyH_take (i := 10) (v := ?v26) rfl (by kernel_rfl) (by kernel_rfl) (by kernel_rfl) (fun _ _ _ h => h) (Or.inl ⟨by rfl, ?hy26⟩) (by assumption) ?_
          case hy26 => (intro w hSw; clear hSw; go_simp; try with_reducible rfl)
          go_simp
          refine wpAnyH_ready (rs := [11]) (by kernel_rfl) (by simp) (AllReadyH.cons rfl (fun K hK => ?_) AllReadyH.nil)
          have cq := HX3.out.1
          have fq := HX3.out.2
          go_simp
          clear cq fq
          refine hK.out _ _ (HS.out _ (HFC.out.trans (Frm.set (F := fun i => w.heap.size + 1 ≤ i) _ (by show w.heap.size + 1 ≤ w.heap.size + 1 + 1; omega)) (fun _ _ h => h))) (fun hHeld => ?_)
          clear hK K
          refine wpAnyH_done (by kernel_rfl) ?_ _
          clear HS HX3 HFC HBXX HM1 hHeld
          have HA2 := HA.out
          generalize w4.setCell ⟨w.heap.size + 1 + 1, 3, none⟩ (.slice (some ⟨g, 0, none⟩) (acc.length + 1) cap) = w5 at HA2 ⊢
          have H5 : Hid (Below (w.heap.size + 1) W0 w5 ∧ ∃ vl rows, QpL v.kind v.n v.s (w.heap.size + 1) (v.l.take (k + 1)) vl rows w5) := Lib.hid ⟨(HB0.out.trans (HB2.out.mono (by have := HCZ.out.1; show w.heap.size + 1 ≤ wr.heap.size; omega))).trans (HA2.2.below (by have := HC2.out.sz.1; omega) (fun i h => h)), _, _, by rw [HTK.out]; exact HA2.1⟩
          clear HA2 HA
          go_wp2_with fail
          go_roundw
          case rel => exact ⟨k + 1, by omega, by go_num, H5⟩
          case measure => simp [intOf]; omega
        · go_simp
          obtain ⟨WM, hWM⟩ : ∃ W, W = w2.alloc (.cells #[.int .i64 x.kind, .int .i64 x.n, str x.s, .slice a2 n2 c2, .slice a2' n2' c2'] 35) := ⟨_, rfl⟩
          have HM1 := Lib.hid hWM
          have HBXX := Lib.hid (box_up HC2.out.2.1 (w' := WM) (by rw [hWM]; exact below_alloc _ _))
          have HFC : Hid (Frm (fun i => w.heap.size + 1 ≤ i) wr WM) := Lib.hid (HFC.out.trans (show Frm (fun i => w.heap.size + 1 ≤ i) w2 WM from Frm.of_below (by rw [hWM]; exact below_alloc _ _)) (fun _ _ h => h))
          rw [← hWM]
          clear hWM
          refine hK.out _ _ (HS.out _ HFC.out) (fun hHeld => ?_)
          clear hK K
          refine wpAnyH_ready (rs := [1]) (by kernel_rfl) (by simp) (AllReadyH.cons rfl (fun K hK => ?_) AllReadyH.nil)
          have cq := box_cell HBXX.out 3
          go_simp
          clear cq
          refine hK.out _ _ (HS.out _ HFC.out) (fun hHeld => ?_)
          clear hK K
          refine wpAnyH_ready (rs := [9]) (by kernel_rfl) (by simp) (AllReadyH.cons rfl (fun K hK => ?_) AllReadyH.nil)
          refine step_append_lies _ (by rfl) _ _ 32 (by rfl) _ 35 _ _ 5 80 Tryz.underlying32 hi hq0 hq1 hq2 rfl (by decide) _ acc.length _ (by rfl) (owns_frm (F := fun _ => False) HC2.out.2.2.1 (Frm.of_below (by rw [HM1.out]; exact below_alloc _ _)) (fun _ _ h => h)) ⟨w2.heap.size, 0, none⟩ 1 1 [.int .i64 x.kind, .int .i64 x.n, str x.s, .slice a2 n2 c2, .slice a2' n2' c2'] (by rfl) (by rfl) (World.news_of_block (by rw [HM1.out]; exact heap_alloc_new _ _)) (by simp [Value.oneCell']) (by decide) (by simp only [maxLen]; omega) (by omega) (by have := HC2.out.sz; rw [HM1.out]; simp; first | omega | (have := HC2.out.sz.1; omega)) _ rfl ?_
          intro g cap w4 ho hg hl _
          rw [HM1.out] at hg hl
          have HA := Lib.hid (HC2.out.add (v := x) (B0 := wr.heap.size) (by have := HC.out.sz.1; omega) (fun k hk => HC.out.sz.2 k hk) (HV2.out.mono (fun i _ hi => Nat.le_trans HBC.out.size hi)) ho hg (by simpa using hl))
          have hx3 : w4.cell? ⟨w.heap.size + 1 + 1, 3, none⟩ = some (.slice va acc.length vc) := qpl_cell HC2.out hg
          have hxf : w4.frozen? ⟨w.heap.size + 1 + 1, 3, none⟩ = false := qpl_fr HC2.out hg
          have HX3 := Lib.hid (And.intro hx3 hxf)
          have HFC := Lib.hid (HFC.out.trans (Frm.of_grown (w := WM) (F := fun i => w.heap.size + 1 ≤ i) (by rw [HM1.out]; exact hg) (fun k hk => by have := (HC2.out.2.2.1.lt k hk).1; omega)) (fun _ _ h => h))
          clear ho hg hl hx3 hxf
          go_simp
          refine hK.out _ _ (HS.out _ HFC.out) (fun hHeld => ?_)
          clear hK K
          refine wpAnyH_take (i := 10) (v := ?v27) rfl (by kernel_rfl) (by kernel_rfl) (by kernel_rfl) (fun _ _ _ h => h) (Or.inl ⟨by rfl, ?hy27⟩) (by assumption) ?_
          case hy27 => (intro w hSw; clear hSw; go_simp; try with_reducible rfl)
          go_simp
          refine wpAnyH_ready (rs := [11]) (by kernel_rfl) (by simp) (AllReadyH.cons rfl (fun K hK => ?_) AllReadyH.nil)
          have cq := HX3.out.1
          have fq := HX3.out.2
          go_simp
          clear cq fq
          refine hK.out _ _ (HS.out _ (HFC.out.trans (Frm.set (F := fun i => w.heap.size + 1 ≤ i) _ (by show w.heap.size + 1 ≤ w.heap.size + 1 + 1; omega)) (fun _ _ h => h))) (fun hHeld => ?_)
          clear hK K
          refine wpAnyH_done (by kernel_rfl) ?_ _
          clear HS HX3 HFC HBXX HM1 hHeld
          have HA2 := HA.out
          generalize w4.setCell ⟨w.heap.size + 1 + 1, 3, none⟩ (.slice (some ⟨g, 0, none⟩) (acc.length + 1) cap) = w5 at HA2 ⊢
          have H5 : Hid (Below (w.heap.size + 1) W0 w5 ∧ ∃ vl rows, QpL v.kind v.n v.s (w.heap.size + 1) (v.l.take (k + 1)) vl rows w5) := Lib.hid ⟨(HB0.out.trans (HB2.out.mono (by have := HCZ.out.1; show w.heap.size + 1 ≤ wr.heap.size; omega))).trans (HA2.2.below (by have := HC2.out.sz.1; omega) (fun i h => h)), _, _, by rw [HTK.out]; exact HA2.1⟩
          clear HA2 HA
          go_wp2_with fail
          go_roundw
          case rel => exact ⟨k + 1, by omega, by go_num, H5⟩
          case measure => simp [intOf]; omega
    · obtain rfl : k = v.l.length := by omega
      have n2 : ¬ (v.l.length : Int) < (v.l.length : Int) := by omega
      rw [List.take_length] at HC
      have bx : wr.heap[w.heap.size]? = some (.cells #[.int .i64 v.kind, .int .i64 v.n, str v.s, .slice al v.l.length cl, .slice am v.m.length cm] 28 (0, 0)) := by
        rw [HB0.out.block _ (Nat.lt_succ_self _)]; exact H0.out.2.1
      have HCM := Lib.hid HC.out.toM
      obtain ⟨B1, hB1⟩ : ∃ B1, B1 = wr.heap.size := ⟨_, rfl⟩
      rw [← hB1] at HCM
      have hB1' := Lib.hid hB1
      clear bx hB1 HC HWW hlt hk
      go_wp2_with fail
      clear b3
      go_loopw [5] (fun v29 wr2 => ∃ k : Nat, k ≤ v.m.length ∧ v29 = .int .i64 (k : Int) ∧ Hid (Below (w.heap.size + 1) W0 wr2 ∧ ∃ vm rows, QpM v.kind v.n v.s (w.heap.size + 1) B1 v.l vl (v.m.take k) vm rows wr2)) (fun v29 _ => v.m.length - (intOf v29).toNat)
      case atStart => exact ⟨0, Nat.zero_le _, rfl, Lib.hid ⟨HB0.out, _, _, HCM.out⟩⟩
      case round =>
        clear HCM HB0
        obtain ⟨k, hk, rfl, HK⟩ := hrel
        obtain ⟨hbw0, vm, rowm, hcp⟩ := HK.out
        rename_i wr1 rowl _ _ wr
        have HWW : Hid (Below w.heap.size w wr) := Lib.hid (H0.out.1.trans (hbw0.mono (Nat.le_succ _)))
        have HC := Lib.hid hcp
        have HB0 := Lib.hid hbw0
        have HBX : Hid (wr.heap[w.heap.size]? = some (.cells #[.int .i64 v.kind, .int .i64 v.n, str v.s, .slice al v.l.length cl, .slice am v.m.length cm] 28 (0, 0))) := Lib.hid (by rw [HB0.out.block _ (Nat.lt_succ_self _)]; exact H0.out.2.1)
        have b4 := box_cell HBX.out 4
        clear hcp hbw0 HK
        by_cases hlt : k < v.m.length
        · have n1 : (k : Int) < (v.m.length : Int) := by omega
          have n3 : (0 : Int) ≤ (k : Int) := by omega
          obtain ⟨b, off, a, n, c, a', n', c', rfl, _, hbw, hx, c0, c1, c2, c3, c4, c5⟩ := RdJ.memb HL.out.2.2.1 HL.out.2.2.2 hlt
          have HM : Hid (v.m[k] ∈ v.m) := Lib.hid (List.getElem_mem hlt)
          have HIM := Lib.hid (IM.out _ HM.out)
          obtain ⟨x, hxx⟩ : ∃ x, x = v.m[k].2 := ⟨_, rfl⟩
          obtain ⟨nm, hnm⟩ : ∃ nm, nm = v.m[k].1 := ⟨_, rfl⟩
          have HTK : Hid (v.m.take (k + 1) = v.m.take k ++ [(nm, x)]) := Lib.hid (by rw [hxx, hnm, List.take_add_one, List.getElem?_eq_getElem hlt]; rfl)
          rw [← hxx] at hx c1 c2 c3 HIM
          rw [← hnm] at c0
          clear hxx hnm HM
          have e0 : wr.cell? ⟨b, off + k * 6, none⟩ = some (str nm) := (HWW.out.cell (p := ⟨b, off + k * 6, none⟩) hbw).trans c0
          have e1 : wr.cell? ⟨b, off + k * 6 + 1, none⟩ = some (.int .i64 x.kind) := (HWW.out.cell (p := ⟨b, off + k * 6 + 1, none⟩) hbw).trans c1
          have e2 : wr.cell? ⟨b, off + k * 6 + 2, none⟩ = some (.int .i64 x.n) := (HWW.out.cell (p := ⟨b, off + k * 6 + 2, none⟩) hbw).trans c2
          have e3 : wr.cell? ⟨b, off + k * 6 + 3, none⟩ = some (str x.s) := (HWW.out.cell (p := ⟨b, off + k * 6 + 3, none⟩) hbw).trans c3
          have e4 : wr.cell? ⟨b, off + k * 6 + 4, none⟩ = some (.slice a n c) := (HWW.out.cell (p := ⟨b, off + k * 6 + 4, none⟩) hbw).trans c4
          have e5 : wr.cell? ⟨b, off + k * 6 + 5, none⟩ = some (.slice a' n' c') := (HWW.out.cell (p := ⟨b, off + k * 6 + 5, none⟩) hbw).trans c5
          have HX1 := Lib.hid (hx.up HWW.out)
          have HE0 := Lib.hid e0
          obtain ⟨acc, hacc⟩ : ∃ acc, acc = v.m.take k := ⟨_, rfl⟩
          have hal : acc.length = k := by rw [hacc]; simp; omega
          rw [← hacc] at HC HTK
          clear hacc
          obtain ⟨va, vc, rfl⟩ := own_slice HC.out.2.2.1
          have CV := Lib.hid (HIM.out F wr.drew _ (HX1.out.up (W' := wr.drew) (Below.drewsN (Below.refl _ _) 1)))
          have d3 := box_cell HC.out.2.1 4
          have HBW := Lib.hid hbw
          clear hx c0 c1 c2 c3 c4 c5 hbw HIM
          have HC1d := Lib.hid (HC.out.up (W' := wr.drew) (Below.drewsN (Below.refl _ _) 1))
          have HCZ := Lib.hid HC.out.sz
          have hal2 : acc.length ≤ 1000000000 := by omega
          obtain ⟨j0, hj, hr0, hr1, hr2⟩ := info_parts infoQM
          clear hal
          go_upto_region 9 with fail
          have HS : Hid (∀ W, Frm (fun i => w.heap.size + 1 ≤ i) wr W → (fun W => W.cell? ⟨w.heap.size, 4, none⟩ = some (.slice (some ⟨b, off, none⟩) v.m.length cm) ∧ W.cell? ⟨b, off + k * 6, none⟩ = some (str nm) ∧ W.cell? ⟨b, off + k * 6 + 1, none⟩ = some (.int .i64 x.kind) ∧ W.cell? ⟨b, off + k * 6 + 2, none⟩ = some (.int .i64 x.n) ∧ W.cell? ⟨b, off + k * 6 + 3, none⟩ = some (str x.s) ∧ W.cell? ⟨b, off + k * 6 + 4, none⟩ = some (.slice a n c) ∧ W.cell? ⟨b, off + k * 6 + 5, none⟩ = some (.slice a' n' c')) W) := Lib.hid (fun W hf => ⟨cell_frm hf (by omega) b4, cell_frm hf (by have h : b < w.heap.size := HBW.out; omega) e0, cell_frm hf (by have h : b < w.heap.size := HBW.out; omega) e1, cell_frm hf (by have h : b < w.heap.size := HBW.out; omega) e2, cell_frm hf (by have h : b < w.heap.size := HBW.out; omega) e3, cell_frm hf (by have h : b < w.heap.size := HBW.out; omega) e4, cell_frm hf (by have h : b < w.heap.size := HBW.out; omega) e5⟩)
          clear b4 e0 e1 e2 e3 e4 e5 d3
          obtain ⟨wc, hwc⟩ : ∃ x, x = wr.drew := ⟨_, rfl⟩
          rw [← hwc] at CV HC1d
          have HFC : Hid (Frm (fun i => w.heap.size + 1 ≤ i) wr wc) := Lib.hid (by rw [hwc]; exact Frm.of_below (Below.drewsN (Below.refl _ _) 1))
          have HBC : Hid (Below wr.heap.size wr wc) := Lib.hid (by rw [hwc]; exact Below.drewsN (Below.refl _ _) 1)
          have HBXX := Lib.hid HC1d.out.2.1
          refine wp_region_held_drew (S := (fun W => W.cell? ⟨w.heap.size, 4, none⟩ = some (.slice (some ⟨b, off, none⟩) v.m.length cm) ∧ W.cell? ⟨b, off + k * 6, none⟩ = some (str nm) ∧ W.cell? ⟨b, off + k * 6 + 1, none⟩ = some (.int .i64 x.kind) ∧ W.cell? ⟨b, off + k * 6 + 2, none⟩ = some (.int .i64 x.n) ∧ W.cell? ⟨b, off + k * 6 + 3, none⟩ = some (str x.s) ∧ W.cell? ⟨b, off + k * 6 + 4, none⟩ = some (.slice a n c) ∧ W.cell? ⟨b, off + k * 6 + 5, none⟩ = some (.slice a' n' c'))) (by kernel_rfl) (by rw [← hwc]; exact HS.out _ HFC.out) (fun hHeld => ?_)
          rw [← hwc] at hHeld ⊢
          clear hwc
          refine wpAnyH_take (i := 0) (v := ?v1) rfl (by kernel_rfl) (by kernel_rfl) (by kernel_rfl) (fun _ _ _ h => h) (Or.inl ⟨by rfl, ?hy1⟩) (by assumption) ?_
          case hy1 => (intro w hSw; clear hSw; go_simp; try with_reducible rfl)
          go_simp
          refine wpAnyH_take (i := 2) (v := ?v2) rfl (by kernel_rfl) (by kernel_rfl) (by kernel_rfl) (fun _ _ _ h => h) (Or.inl ⟨by rfl, ?hy2⟩) (by assumption) ?_
          case hy2 => (intro w hSw; clear hSw; go_simp; try with_reducible rfl)
          go_simp
          refine wpAnyH_take (i := 3) (v := ?v3) rfl (by kernel_rfl) (by kernel_rfl) (by kernel_rfl) (fun _ _ _ h => h) (Or.inl ⟨by rfl, ?hy3⟩) (by assumption) ?_
          case hy3 => (intro w hSw; obtain ⟨hs0, hs1, hs2, hs3, hs4, hs5, hs6⟩ := hSw; go_simp; try with_reducible rfl)
          go_simp
          refine wpAnyH_take (i := 4) (v := ?v4) rfl (by kernel_rfl) (by kernel_rfl) (by kernel_rfl) (fun _ _ _ h => h) (Or.inl ⟨by rfl, ?hy4⟩) (by assumption) ?_
          case hy4 => (intro w hSw; clear hSw; go_simp; try with_reducible rfl)
          go_simp
          refine wpAnyH_take (i := 5) (v := ?v5) rfl (by kernel_rfl) (by kernel_rfl) (by kernel_rfl) (fun _ _ _ h => h) (Or.inl ⟨by rfl, ?hy5⟩) (by assumption) ?_
          case hy5 => (intro w hSw; clear hSw; go_simp; try with_reducible rfl)
          go_simp
          refine wpAnyH_take (i := 6) (v := ?v6) rfl (by kernel_rfl) (by kernel_rfl) (by kernel_rfl) (fun _ _ _ h => h) (Or.inl ⟨by rfl, ?hy6⟩) (by assumption) ?_
          case hy6 => (intro w hSw; clear hSw; go_simp; try with_reducible rfl)
          go_simp
          refine wpAnyH_take (i := 7) (v := ?v7) rfl (by kernel_rfl) (by kernel_rfl) (by kernel_rfl) (fun _ _ _ h => h) (Or.inl ⟨by rfl, ?hy7⟩) (by assumption) ?_
          case hy7 => (intro w hSw; obtain ⟨hs0, hs1, hs2, hs3, hs4, hs5, hs6⟩ := hSw; go_simp; try with_reducible rfl)
          go_simp
          refine wpAnyH_take (i := 8) (v := ?v8) rfl (by kernel_rfl) (by kernel_rfl) (by kernel_rfl) (fun _ _ _ h => h) (Or.inl ⟨by rfl, ?hy8⟩) (by assumption) ?_
          case hy8 => (intro w hSw; clear hSw; go_simp; try with_reducible rfl)
          go_simp
          refine wpAnyH_take (i := 9) (v := ?v9) rfl (by kernel_rfl) (by kernel_rfl) (by kernel_rfl) (fun _ _ _ h => h) (Or.inl ⟨by rfl, ?hy9⟩) (by assumption) ?_
          case hy9 => (intro w hSw; obtain ⟨hs0, hs1, hs2, hs3, hs4, hs5, hs6⟩ := hSw; go_simp; try with_reducible rfl)
          go_simp
          refine wpAnyH_take (i := 10) (v := ?v10) rfl (by kernel_rfl) (by kernel_rfl) (by kernel_rfl) (fun _ _ _ h => h) (Or.inl ⟨by rfl, ?hy10⟩) (by assumption) ?_
          case hy10 => (intro w hSw; clear hSw; go_simp; try with_reducible rfl)
          go_simp
          refine wpAnyH_take (i := 11) (v := ?v11) rfl (by kernel_rfl) (by kernel_rfl) (by kernel_rfl) (fun _ _ _ h => h) (Or.inl ⟨by rfl, ?hy11⟩) (by assumption) ?_
          case hy11 => (intro w hSw; clear hSw; go_simp; try with_reducible rfl)
          go_simp
          refine wpAnyH_take (i := 12) (v := ?v12) rfl (by kernel_rfl) (by kernel_rfl) (by kernel_rfl) (fun _ _ _ h => h) (Or.inl ⟨by rfl, ?hy12⟩) (by assumption) ?_
          case hy12 => (intro w hSw; clear hSw; go_simp; try with_reducible rfl)
          go_simp
          refine wpAnyH_take (i := 13) (v := ?v13) rfl (by kernel_rfl) (by kernel_rfl) (by kernel_rfl) (fun _ _ _ h => h) (Or.inl ⟨by rfl, ?hy13⟩) (by assumption) ?_
          case hy13 => (intro w hSw; obtain ⟨hs0, hs1, hs2, hs3, hs4, hs5, hs6⟩ := hSw; go_simp; try with_reducible rfl)
          go_simp
          refine wpAnyH_ready (rs := [1, 14]) (by kernel_rfl) (by simp) (AllReadyH.cons rfl (fun K hK => ?_) (AllReadyH.cons rfl (fun K hK => ?_) AllReadyH.nil))
          · have cq := box_cell HBXX.out 4
            go_simp
            clear cq
            refine hK.out _ _ (HS.out _ HFC.out) (fun hHeld => ?_)
            clear hK K
            refine wpAnyH_ready (rs := [14]) (by kernel_rfl) (by simp) (AllReadyH.cons rfl (fun K hK => ?_) AllReadyH.nil)
            go_simp
            refine CV.out.mono ?_
            rintro e w2 ⟨cs2, rfl, hv2, hb2⟩
            obtain ⟨a2, n2, c2, a2', n2', c2', rfl, _, _⟩ := hv2.open
            have HC2 := Lib.hid (HC1d.out.up hb2)
            have HV2 := Lib.hid hv2
            have HB2 := Lib.hid (HBC.out.trans (hb2.mono HBC.out.size))
            have HBXX := Lib.hid HC2.out.2.1
            have HFC := Lib.hid (Frm.of_below (F := fun i => w.heap.size + 1 ≤ i) HB2.out)
            clear hv2 hb2
            go_simp
            refine hK.out _ _ (HS.out _ HFC.out) (fun hHeld => ?_)
            clear hK K
            refine wpAnyH_take (i := 15) (v := ?v14) rfl (by kernel_rfl) (by kernel_rfl) (by kernel_rfl) (fun _ _ _ h => h) (Or.inl ⟨by rfl, ?hy14⟩) (by assumption) ?_
            case hy14 => (intro w hSw; clear hSw; go_simp; try with_reducible rfl)
            go_simp
            refine wpAnyH_ready (rs := [16]) (by kernel_rfl) (by simp) (AllReadyH.cons rfl (fun K hK => ?_) AllReadyH.nil)
            go_simp
            obtain ⟨WM, hWM⟩ : ∃ W, W = w2.alloc (.cells #[str nm, .int .i64 x.kind, .int .i64 x.n, str x.s, .slice a2 n2 c2, .slice a2' n2' c2'] 61) := ⟨_, rfl⟩
            have HM1 := Lib.hid hWM
            have HBXX := Lib.hid (box_up HC2.out.2.1 (w' := WM) (by rw [hWM]; exact below_alloc _ _))
            have HFC : Hid (Frm (fun i => w.heap.size + 1 ≤ i) wr WM) := Lib.hid (HFC.out.trans (show Frm (fun i => w.heap.size + 1 ≤ i) w2 WM from Frm.of_below (by rw [hWM]; exact below_alloc _ _)) (fun _ _ h => h))
            rw [← hWM]
            clear hWM
            refine hK.out _ _ (HS.out _ HFC.out) (fun hHeld => ?_)
            clear hK K
            refine wpAnyH_ready (rs := [17]) (by kernel_rfl) (by simp) (AllReadyH.cons rfl (fun K hK => ?_) AllReadyH.nil)
            refine step_append_lies _ (by rfl) _ _ 33 (by rfl) _ 61 _ _ 6 96 Tryz.underlying33 hj hr0 hr1 hr2 rfl (by decide) _ acc.length _ (by rfl) (owns_frm (F := fun _ => False) HC2.out.2.2.1 (Frm.of_below (by rw [HM1.out]; exact below_alloc _ _)) (fun _ _ h => h)) ⟨w2.heap.size, 0, none⟩ 1 1 [str nm, .int .i64 x.kind, .int .i64 x.n, str x.s, .slice a2 n2 c2, .slice a2' n2' c2'] (by rfl) (by rfl) (World.news_of_block (by rw [HM1.out]; exact heap_alloc_new _ _)) (by simp [Value.oneCell']) (by decide) (by simp only [maxLen]; omega) (by omega) (by have := HC2.out.sz; rw [HM1.out]; simp; first | omega | (have := HC2.out.2.2.2.2.2.1; omega)) _ rfl ?_
            intro g cap w4 ho hg hl _
            rw [HM1.out] at hg hl
            have HA := Lib.hid (HC2.out.add (nm := nm) (v := x) (B0 := wr.heap.size) (by have := HC.out.2.2.2.2.2.1; omega) (fun k hk => HC.out.sz.2 k hk) (HV2.out.mono (fun i _ hi => Nat.le_trans HBC.out.size hi)) ho hg (by simpa using hl))
            have hx3 : w4.cell? ⟨w.heap.size + 1 + 1, 4, none⟩ = some (.slice va acc.length vc) := qpm_cell HC2.out hg
            have hxf : w4.frozen? ⟨w.heap.size + 1 + 1, 4, none⟩ = false := qpm_fr HC2.out hg
            have HX3 := Lib.hid (And.intro hx3 hxf)
            have HFC := Lib.hid (HFC.out.trans (Frm.of_grown (w := WM) (F := fun i => w.heap.size + 1 ≤ i) (by rw [HM1.out]; exact hg) (fun k hk => by have := (HC2.out.2.2.1.lt k hk).1; have h1 := HC2.out.2.2.2.2.1; have h2 := HC2.out.2.2.2.2.2.1; omega)) (fun _ _ h => h))
            clear ho hg hl hx3 hxf
            go_simp
            refine hK.out _ _ (HS.out _ HFC.out) (fun hHeld => ?_)
            clear hK K
            refine wpAnyH_take (i := 18) (v := ?v15) rfl (by kernel_rfl) (by kernel_rfl) (by kernel_rfl) (fun _ _ _ h => h) (Or.inl ⟨by rfl, ?hy15⟩) (by assumption) ?_
            case hy15 => (intro w hSw; clear hSw; go_simp; try with_reducible rfl)
            go_simp
            refine wpAnyH_ready (rs := [19]) (by kernel_rfl) (by simp) (AllReadyH.cons rfl (fun K hK => ?_) AllReadyH.nil)
            have cq := HX3.out.1
            have fq := HX3.out.2
            go_simp
            clear cq fq
            refine hK.out _ _ (HS.out _ (HFC.out.trans (Frm.set (F := fun i => w.heap.size + 1 ≤ i) _ (by show w.heap.size + 1 ≤ w.heap.size + 1 + 1; omega)) (fun _ _ h => h))) (fun hHeld => ?_)
            clear hK K
            refine wpAnyH_done (by kernel_rfl) ?_ _
            clear HS HX3 HFC HBXX HM1 hHeld
            have HA2 := HA.out
            generalize w4.setCell ⟨w.heap.size + 1 + 1, 4, none⟩ (.slice (some ⟨g, 0, none⟩) (acc.length + 1) cap) = w5 at HA2 ⊢
            have H5 : Hid (Below (w.heap.size + 1) W0 w5 ∧ ∃ vm rows, QpM v.kind v.n v.s (w.heap.size + 1) B1 v.l vl (v.m.take (k + 1)) vm rows w5) := Lib.hid ⟨(HB0.out.trans (HB2.out.mono (by have := HCZ.out.1; show w.heap.size + 1 ≤ wr.heap.size; omega))).trans (HA2.2.below (by have := HC2.out.sz.1; omega) (fun i h => h)), _, _, by rw [HTK.out]; exact HA2.1⟩
            clear HA2 HA
            go_wp2_with fail
            go_roundw
            case rel => exact ⟨k + 1, by omega, by go_num, H5⟩
            case measure => simp [intOf]; omega
          · go_simp
            refine CV.out.mono ?_
            rintro e w2 ⟨cs2, rfl, hv2, hb2⟩
            obtain ⟨a2, n2, c2, a2', n2', c2', rfl, _, _⟩ := hv2.open
            have HC2 := Lib.hid (HC1d.out.up hb2)
            have HV2 := Lib.hid hv2
            have HB2 := Lib.hid (HBC.out.trans (hb2.mono HBC.out.size))
            have HBXX := Lib.hid HC2.out.2.1
            have HFC := Lib.hid (Frm.of_below (F := fun i => w.heap.size + 1 ≤ i) HB2.out)
            clear hv2 hb2
            go_simp
            refine hK.out _ _ (HS.out _ HFC.out) (fun hHeld => ?_)
            clear hK K
            refine wpAnyH_take (i := 15) (v := ?v16) rfl (by kernel_rfl) (by kernel_rfl) (by kernel_rfl) (fun _ _ _ h => h) (Or.inl ⟨by rfl, ?hy16⟩) (by assumption) ?_
            case hy16 => (intro w hSw; clear hSw; go_simp; try with_reducible rfl)
            go_simp
            refine wpAnyH_ready (rs := [1, 16]) (by kernel_rfl) (by simp) (AllReadyH.cons rfl (fun K hK => ?_) (AllReadyH.cons rfl (fun K hK => ?_) AllReadyH.nil))
            · have cq := box_cell HBXX.out 4
              go_simp
              clear cq
              refine hK.out _ _ (HS.out _ HFC.out) (fun hHeld => ?_)
              clear hK K
              refine wpAnyH_ready (rs := [16]) (by kernel_rfl) (by simp) (AllReadyH.cons rfl (fun K hK => ?_) AllReadyH.nil)
              go_simp
              obtain ⟨WM, hWM⟩ : ∃ W, W = w2.alloc (.cells #[str nm, .int .i64 x.kind, .int .i64 x.n, str x.s, .slice a2 n2 c2, .slice a2' n2' c2'] 61) := ⟨_, rfl⟩
              have HM1 := Lib.hid hWM
              have HBXX := Lib.hid (box_up HC2.out.2.1 (w' := WM) (by rw [hWM]; exact below_alloc _ _))
              have HFC : Hid (Frm (fun i => w.heap.size + 1 ≤ i) wr WM) := Lib.hid (HFC.out.trans (show Frm (fun i => w.heap.size + 1 ≤ i) w2 WM from Frm.of_below (by rw [hWM]; exact below_alloc _ _)) (fun _ _ h => h))
              rw [← hWM]
              clear hWM
              refine hK.out _ _ (HS.out _ HFC.out) (fun hHeld => ?_)
              clear hK K
              refine wpAnyH_ready (rs := [17]) (by kernel_rfl) (by simp) (AllReadyH.cons rfl (fun K hK => ?_) AllReadyH.nil)
              refine step_append_lies _ (by rfl) _ _ 33 (by rfl) _ 61 _ _ 6 96 Tryz.underlying33 hj hr0 hr1 hr2 rfl (by decide) _ acc.length _ (by rfl) (owns_frm (F := fun _ => False) HC2.out.2.2.1 (Frm.of_below (by rw [HM1.out]; exact below_alloc _ _)) (fun _ _ h => h)) ⟨w2.heap.size, 0, none⟩ 1 1 [str nm, .int .i64 x.kind, .int .i64 x.n, str x.s, .slice a2 n2 c2, .slice a2' n2' c2'] (by rfl) (by rfl) (World.news_of_block (by rw [HM1.out]; exact heap_alloc_new _ _)) (by simp [Value.oneCell']) (by decide) (by simp only [maxLen]; omega) (by omega) (by have := HC2.out.sz; rw [HM1.out]; simp; first | omega | (have := HC2.out.2.2.2.2.2.1; omega)) _ rfl ?_
              intro g cap w4 ho hg hl _
              rw [HM1.out] at hg hl
              have HA := Lib.hid (HC2.out.add (nm := nm) (v := x) (B0 := wr.heap.size) (by have := HC.out.2.2.2.2.2.1; omega) (fun k hk => HC.out.sz.2 k hk) (HV2.out.mono (fun i _ hi => Nat.le_trans HBC.out.size hi)) ho hg (by simpa using hl))
              have hx3 : w4.cell? ⟨w.heap.size + 1 + 1, 4, none⟩ = some (.slice va acc.length vc) := qpm_cell HC2.out hg
              have hxf : w4.frozen? ⟨w.heap.size + 1 + 1, 4, none⟩ = false := qpm_fr HC2.out hg
              have HX3 := Lib.hid (And.intro hx3 hxf)
              have HFC := Lib.hid (HFC.out.trans (Frm.of_grown (w := WM) (F := fun i => w.heap.size + 1 ≤ i) (by rw [HM1.out]; exact hg) (fun k hk => by have := (HC2.out.2.2.1.lt k hk).1; have h1 := HC2.out.2.2.2.2.1; have h2 := HC2.out.2.2.2.2.2.1; omega)) (fun _ _ h => h))
              clear ho hg hl hx3 hxf
              go_simp
              refine hK.out _ _ (HS.out _ HFC.out) (fun hHeld => ?_)
              clear hK K
              refine wpAnyH_take (i := 18) (v := ?v17) rfl (by kernel_rfl) (by kernel_rfl) (by kernel_rfl) (fun _ _ _ h => h) (Or.inl ⟨by rfl, ?hy17⟩) (by assumption) ?_
              case hy17 => (intro w hSw; clear hSw; go_simp; try with_reducible rfl)
              go_simp
              refine wpAnyH_ready (rs := [19]) (by kernel_rfl) (by simp) (AllReadyH.cons rfl (fun K hK => ?_) AllReadyH.nil)
              have cq := HX3.out.1
              have fq := HX3.out.2
              go_simp
              clear cq fq
              refine hK.out _ _ (HS.out _ (HFC.out.trans (Frm.set (F := fun i => w.heap.size + 1 ≤ i) _ (by show w.heap.size + 1 ≤ w.heap.size + 1 + 1; omega)) (fun _ _ h => h))) (fun hHeld => ?_)
              clear hK K
              refine wpAnyH_done (by kernel_rfl) ?_ _
              clear HS HX3 HFC HBXX HM1 hHeld
              have HA2 := HA.out
              generalize w4.setCell ⟨w.heap.size + 1 + 1, 4, none⟩ (.slice (some ⟨g, 0, none⟩) (acc.length + 1) cap) = w5 at HA2 ⊢
              have H5 : Hid (Below (w.heap.size + 1) W0 w5 ∧ ∃ vm rows, QpM v.kind v.n v.s (w.heap.size + 1) B1 v.l vl (v.m.take (k + 1)) vm rows w5) := Lib.hid ⟨(HB0.out.trans (HB2.out.mono (by have := HCZ.out.1; show w.heap.size + 1 ≤ wr.heap.size; omega))).trans (HA2.2.below (by have := HC2.out.sz.1; omega) (fun i h => h)), _, _, by rw [HTK.out]; exact HA2.1⟩
              clear HA2 HA
              go_wp2_with fail
              go_roundw
              case rel => exact ⟨k + 1, by omega, by go_num, H5⟩
              case measure => simp [intOf]; omega
            · go_simp
              obtain ⟨WM, hWM⟩ : ∃ W, W = w2.alloc (.cells #[str nm, .int .i64 x.kind, .int .i64 x.n, str x.s, .slice a2 n2 c2, .slice a2' n2' c2'] 61) := ⟨_, rfl⟩
              have HM1 := Lib.hid hWM
              have HBXX := Lib.hid (box_up HC2.out.2.1 (w' := WM) (by rw [hWM]; exact below_alloc _ _))
              have HFC : Hid (Frm (fun i => w.heap.size + 1 ≤ i) wr WM) := Lib.hid (HFC.out.trans (show Frm (fun i => w.heap.size + 1 ≤ i) w2 WM from Frm.of_below (by rw [hWM]; exact below_alloc _ _)) (fun _ _ h => h))
              rw [← hWM]
              clear hWM
              refine hK.out _ _ (HS.out _ HFC.out) (fun hHeld => ?_)
              clear hK K
              refine wpAnyH_ready (rs := [1]) (by kernel_rfl) (by simp) (AllReadyH.cons rfl (fun K hK => ?_) AllReadyH.nil)
              have cq := box_cell HBXX.out 4
              go_simp
              clear cq
              refine hK.out _ _ (HS.out _ HFC.out) (fun hHeld => ?_)
              clear hK K
              refine wpAnyH_ready (rs := [17]) (by kernel_rfl) (by simp) (AllReadyH.cons rfl (fun K hK => ?_) AllReadyH.nil)
              refine step_append_lies _ (by rfl) _ _ 33 (by rfl) _ 61 _ _ 6 96 Tryz.underlying33 hj hr0 hr1 hr2 rfl (by decide) _ acc.length _ (by rfl) (owns_frm (F := fun _ => False) HC2.out.2.2.1 (Frm.of_below (by rw [HM1.out]; exact below_alloc _ _)) (fun _ _ h => h)) ⟨w2.heap.size, 0, none⟩ 1 1 [str nm, .int .i64 x.kind, .int .i64 x.n, str x.s, .slice a2 n2 c2, .slice a2' n2' c2'] (by rfl) (by rfl) (World.news_of_block (by rw [HM1.out]; exact heap_alloc_new _ _)) (by simp [Value.oneCell']) (by decide) (by simp only [maxLen]; omega) (by omega) (by have := HC2.out.sz; rw [HM1.out]; simp; first | omega | (have := HC2.out.2.2.2.2.2.1; omega)) _ rfl ?_
              intro g cap w4 ho hg hl _
              rw [HM1.out] at hg hl
              have HA := Lib.hid (HC2.out.add (nm := nm) (v := x) (B0 := wr.heap.size) (by have := HC.out.2.2.2.2.2.1; omega) (fun k hk => HC.out.sz.2 k hk) (HV2.out.mono (fun i _ hi => Nat.le_trans HBC.out.size hi)) ho hg (by simpa using hl))
              have hx3 : w4.cell? ⟨w.heap.size + 1 + 1, 4, none⟩ = some (.slice va acc.length vc) := qpm_cell HC2.out hg
              have hxf : w4.frozen? ⟨w.heap.size + 1 + 1, 4, none⟩ = false := qpm_fr HC2.out hg
              have HX3 := Lib.hid (And.intro hx3 hxf)
              have HFC := Lib.hid (HFC.out.trans (Frm.of_grown (w := WM) (F := fun i => w.heap.size + 1 ≤ i) (by rw [HM1.out]; exact hg) (fun k hk => by have := (HC2.out.2.2.1.lt k hk).1; have h1 := HC2.out.2.2.2.2.1; have h2 := HC2.out.2.2.2.2.2.1; omega)) (fun _ _ h => h))
              clear ho hg hl hx3 hxf
              go_simp
              refine hK.out _ _ (HS.out _ HFC.out) (fun hHeld => ?_)
              clear hK K
              refine wpAnyH_take (i := 18) (v := ?v18) rfl (by kernel_rfl) (by kernel_rfl) (by kernel_rfl) (fun _ _ _ h => h) (Or.inl ⟨by rfl, ?hy18⟩) (by assumption) ?_
              case hy18 => (intro w hSw; clear hSw; go_simp; try with_reducible rfl)
              go_simp
              refine wpAnyH_ready (rs := [19]) (by kernel_rfl) (by simp) (AllReadyH.cons rfl (fun K hK => ?_) AllReadyH.nil)
              have cq := HX3.out.1
              have fq := HX3.out.2
              go_simp
              clear cq fq
              refine hK.out _ _ (HS.out _ (HFC.out.trans (Frm.set (F := fun i => w.heap.size + 1 ≤ i) _ (by show w.heap.size + 1 ≤ w.heap.size + 1 + 1; omega)) (fun _ _ h => h))) (fun hHeld => ?_)
              clear hK K
              refine wpAnyH_done (by kernel_rfl) ?_ _
              clear HS HX3 HFC HBXX HM1 hHeld
              have HA2 := HA.out
              generalize w4.setCell ⟨w.heap.size + 1 + 1, 4, none⟩ (.slice (some ⟨g, 0, none⟩) (acc.length + 1) cap) = w5 at HA2 ⊢
              have H5 : Hid (Below (w.heap.size + 1) W0 w5 ∧ ∃ vm rows, QpM v.kind v.n v.s (w.heap.size + 1) B1 v.l vl (v.m.take (k + 1)) vm rows w5) := Lib.hid ⟨(HB0.out.trans (HB2.out.mono (by have := HCZ.out.1; show w.heap.size + 1 ≤ wr.heap.size; omega))).trans (HA2.2.below (by have := HC2.out.sz.1; omega) (fun i h => h)), _, _, by rw [HTK.out]; exact HA2.1⟩
              clear HA2 HA
              go_wp2_with fail
              go_roundw
              case rel => exact ⟨k + 1, by omega, by go_num, H5⟩
              case measure => simp [intOf]; omega
        · obtain rfl : k = v.m.length := by omega
          have n2 : ¬ (v.m.length : Int) < (v.m.length : Int) := by omega
          rw [List.take_length] at HC
          obtain ⟨va, vc, rfl⟩ := own_slice HC.out.2.2.1
          have HCC := HC.out
          obtain ⟨h1, h2, h3, h4, h5, h6, rl2, h7, h8⟩ := HCC
          obtain ⟨vb, vd, rfl, _, _⟩ := h7.form
          have HZ2 := Lib.hid (RdL.rows h8).1
          have b0 := box_cell h2 0
          have b1 := box_cell h2 1
          have b2 := box_cell h2 2
          have b3 := box_cell h2 3
          have b4 := box_cell h2 4
          have d0 := box_cell h1 0
          have d1 := box_cell h1 1
          have d2 := box_cell h1 2
          have d3 := box_cell h1 3
          have d4 := box_cell h1 4
          have df := box_fr h1
          have HP := Lib.hid (And.intro h1 (And.intro h2 (And.intro h3 (And.intro h4 (And.intro h5 (And.intro h6 (And.intro h7 h8)))))))
          clear h1 h2 h3 h4 h5 h6 h7 h8
          go_wp2_with fail
          refine bodyPost_any_world (fun X => X.heap[w.heap.size + 1]? = some (.cells #[.int .i64 v.kind, .int .i64 v.n, str v.s, .slice vb rl2.length vd, .slice va v.m.length vc] 35 (0, 0)) ∧ Frm (fun i => i = w.heap.size + 1) wr X) (five_set HP.out.1 _ _ _ _ _) ?_
          clear b0 b1 b2 b3 b4 d0 d1 d2 d3 d4 df
          rintro w9 ⟨h9, hf9⟩
          have k0 := box_cell h9 0
          have k1 := box_cell h9 1
          have k2 := box_cell h9 2
          have k3 := box_cell h9 3
          have k4 := box_cell h9 4
          refine bodyPost_ret (v := .agg #[.int .i64 v.kind, .int .i64 v.n, str v.s, .slice vb rl2.length vd, .slice va v.m.length vc]) (by simp [results, Tryz.results10, go_sem, k0, k1, k2, k3, k4]) rfl ?_
          obtain ⟨h1, h2, h3, h4, h5, h6, h7, h8⟩ := HP.out
          obtain ⟨r1, r2⟩ := RdM.rows h4
          refine ⟨[.int .i64 v.kind, .int .i64 v.n, str v.s, .slice vb rl2.length vd, .slice va v.m.length vc], rfl, ?_, ?_⟩
          · refine RdJ.mk' (rl := rl2) (rm := rowm) ((h7.frm hf9 (fun i hi e => by omega)).mono (fun i _ hi => by omega) (fun r hr => by have := (RdL.rows h8).2 r hr; omega)) ((h8.frm hf9 (fun i hi e => by omega)).mono (fun i _ hi => by omega)) ?_ ((h4.frm hf9 (fun i hi e => by omega)).mono (fun i _ hi => by omega))
            have h3' := owns_frm h3 hf9 (fun k hk e => by have := h3.lt k hk; omega)
            rw [← r1] at h3' ⊢
            exact RdFB.of_row r2 h3' (fun k hk => by have := h3.lt k (by rw [← r1]; exact hk); omega)
          · exact HWW.out.trans (hf9.below HWW.out.size (fun k hk => by omega))
theorem plain_any (v : JV) : PlnC v := JV.ind plain_step v
end Go.Proofs.YtidlhajibjnkeaaGreatDoor
