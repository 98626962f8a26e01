import Derived.Test.YtegblhmcfemfgaaGreatDoorWTake
import Derived.Test.YtegblhmcfemfgaaGreatDoorJValue
import Derived.Test.YtegblhmcfemfgaaGreatDoorJMay
import Derived.Test.YtegblhmcfemfgaaGreatDoorAppN
import Derived.Test.YtegblhmcfemfgaaGreatDoorJFew
import Derived.Deep.RegionLaw
namespace Go.Proofs.YtegblhmcfemfgaaGreatDoor
open Go.RowKit
theorem szV_mk (v : JV) : szV v = 1 + v.s.length + szL v.l + szM v.m := by obtain ⟨k, n, s, l, m⟩ := v; rw [szV]; rfl
theorem szV_pos (v : JV) : 1 ≤ szV v := by rw [szV_mk]; omega
theorem szL_mem : ∀ {l : List JV} {x : JV}, x ∈ l → szV x ≤ szL l
 | v :: t, x, h => by
   rw [szL]
   rcases List.mem_cons.1 h with rfl | h
   · omega
   have := szL_mem h; omega
theorem szM_mem : ∀ {l : List MemT} {x : MemT}, x ∈ l → x.1.length + szV x.2 ≤ szM l
 | (a, v) :: t, x, h => by
   rw [szM]
   rcases List.mem_cons.1 h with rfl | h
   · dsimp only; omega
   have := szM_mem h; omega
theorem szL_len : ∀ l : List JV, l.length ≤ szL l
 | [] => Nat.zero_le _
 | v :: t => by rw [szL]; have := szL_len t; have := szV_pos v; simp; omega
theorem szM_len : ∀ l : List MemT, l.length ≤ szM l
 | [] => Nat.zero_le _
 | (a, v) :: t => by rw [szM]; have := szM_len t; have := szV_pos v; simp; omega
theorem RdJ.mk' {W : World} {F : Nat → Prop} {v : JV} {vl vm : Value} {rl rm : List (List Value)} (h1 : RdFB F 5 W vl rl) (h2 : RdL W F v.l rl) (h3 : RdFB F 6 W vm rm) (h4 : RdM W F v.m rm) :
 RdJ W F v [.int .i64 v.kind, .int .i64 v.n, str v.s, vl, vm] := by
 obtain ⟨k, n, s, l, m⟩ := v
 unfold RdJ
 exact ⟨vl, vm, rfl, ⟨rl, h1, h2⟩, rm, h3, h4⟩
def CpL (k n : Int) (x : List UInt8) (s : Nat) (acc : List JV) (vl : Value) (rows : List (List Value)) (W : World) : Prop :=
 W.heap[s]? = some (.cells #[.int .i64 0, .int .i64 0, str [], .slice none 0 0, .slice none 0 0] 72 (0, 0)) ∧
 W.heap[s + 1]? = some (.cells #[.int .i64 k, .int .i64 n, str x, vl, .slice none 0 0] 72 (0, 0)) ∧ W.ownsRow (s + 2) 72 5 vl acc.length rows.flatten ∧ RdL W (fun i => s + 1 < i ∧ i < W.heap.size ∧ vl.ownBlock ≠ some i) acc rows
section
variable {k n : Int} {x : List UInt8} {s : Nat} {acc : List JV} {vl : Value} {rows : List (List Value)} {W W' : World}
theorem CpL.frm {G : Nat → Prop} (h : CpL k n x s acc vl rows W) (hf : Frm G W W') (hG : ∀ i, s ≤ i → i < W.heap.size → ¬ G i) : CpL k n x s acc vl rows W' := by
 obtain ⟨h1, h2, h3, h4⟩ := h
 have l1 := (Array.getElem?_eq_some_iff.1 h1).1
 have l2 := (Array.getElem?_eq_some_iff.1 h2).1
 refine ⟨box_frm h1 hf (hG _ (Nat.le_refl _) l1), box_frm h2 hf (hG _ (by omega) l2), owns_frm h3 hf (fun k hk => by have := h3.lt k hk; exact hG k (by omega) this.2), ?_⟩
 have := h4.frm hf (fun i hi => hG i (by omega) hi.2.1)
 exact this.mono (fun i hi hF => ⟨hF.1, hi, hF.2.2⟩)
theorem CpL.up (h : CpL k n x s acc vl rows W) (hb : Below W.heap.size W W') : CpL k n x s acc vl rows W' := h.frm (Frm.of_below (F := fun _ => False) hb) (fun _ _ _ e => e)
theorem CpL.sz (h : CpL k n x s acc vl rows W) : s + 2 ≤ W.heap.size ∧ ∀ k, vl.ownBlock = some k → k < W.heap.size :=
 ⟨(Array.getElem?_eq_some_iff.1 h.2.1).1, fun k hk => (h.2.2.1.lt k hk).2⟩
theorem CpL.add {w4 : World} {g cap B0 : Nat} {v : JV} {cs : List Value} {ob : Obj} (h : CpL k n x s acc vl rows W) (hB : s + 2 ≤ B0) (hvb : ∀ k, vl.ownBlock = some k → k < B0) (hv : RdJ W (fun i => B0 ≤ i) v cs)
 (ho : w4.ownsRow (s + 2) 72 5 (.slice (some ⟨g, 0, none⟩) (acc.length + 1) cap) (acc.length + 1) (rows.flatten ++ cs)) (hg : (W.alloc ob).grownBy w4 vl.ownBlock) (hl : vl.ownBlock = some g ∨ g = W.heap.size + 1) :
 CpL k n x s (acc ++ [v]) (.slice (some ⟨g, 0, none⟩) (acc.length + 1) cap) (rows ++ [cs]) (w4.setCell ⟨s + 1, 3, none⟩ (.slice (some ⟨g, 0, none⟩) (acc.length + 1) cap)) ∧ Frm (fun i => s ≤ i) W (w4.setCell ⟨s + 1, 3, none⟩ (.slice (some ⟨g, 0, none⟩) (acc.length + 1) cap)) := by
 have hsz := h.sz
 obtain ⟨h1, h2, h3, h4⟩ := h
 have hgb : ∀ k, vl.ownBlock = some k → s + 2 ≤ k := fun k hk => (h3.lt k hk).1
 have f1 : Frm (fun i => vl.ownBlock = some i) W w4 := (Frm.of_below (below_alloc W ob)).trans (Frm.of_grown hg (fun k hk => hk)) (fun _ _ h => h)
 have f2 : Frm (fun i => i = s + 1 ∨ vl.ownBlock = some i) W (w4.setCell ⟨s + 1, 3, none⟩ (.slice (some ⟨g, 0, none⟩) (acc.length + 1) cap)) :=
  (f1.mono (fun _ _ h => .inr h)).trans (Frm.set (F := fun i => i = s + 1) _ rfl) (fun _ _ h => .inl h)
 have hgs : s + 2 ≤ g := by
  rcases hl with h | h
  · exact hgb g h
  omega
 have hbx : w4.heap[s + 1]? = some (.cells #[.int .i64 k, .int .i64 n, str x, vl, .slice none 0 0] 72 (0, 0)) := box_frm h2 f1 (fun e => by have := hgb _ e; omega)
 have g1 : ∀ i, (i = s + 1 ∨ vl.ownBlock = some i) → s + 1 ≤ i := fun i h => by
  rcases h with h | h
  · omega
  have := hgb _ h; omega
 refine ⟨⟨box_frm h1 f2 (fun e => by have := g1 _ e; omega), box_set hbx 3 _, ?_, RdL.snoc ?_ ?_⟩, f2.mono (fun i _ hi => by have := g1 _ hi; omega)⟩
 · rw [List.flatten_append, List.length_append]
   simp only [List.flatten_cons, List.flatten_nil, List.append_nil, List.length_singleton]
   exact owns_frm (F := fun i => i = s + 1) ho (Frm.set _ rfl) (fun k hk e => by simp [Value.ownBlock] at hk; omega)
 · refine RdJ.mono (F := fun i => B0 ≤ i ∧ i < W.heap.size) ?_ (fun i hi hF => ⟨by omega, hi, fun e => ?_⟩)
   · exact (hv.mono (G := fun i => B0 ≤ i ∧ i < W.heap.size) (fun i hi hF => ⟨hF, hi⟩)).frm f2 (fun i hi e => by
      rcases e with e | e
      · omega
      have := hvb i e; omega)
   simp only [Value.ownBlock, Option.some.injEq] at e
   subst e
   rcases hl with h | h
   · have := hvb _ h; omega
   omega
 have := h4.frm f2 (fun i hi e => by
  rcases e with e | e
  · omega
  exact hi.2.2 e)
 refine this.mono (fun i hi hF => ⟨hF.1, hi, fun e => ?_⟩)
 simp only [Value.ownBlock, Option.some.injEq] at e
 subst e
 rcases hl with h | h
 · exact hF.2.2 h
 omega
end
def CpM (k n : Int) (x : List UInt8) (s B1 : Nat) (l : List JV) (vl : Value) (acc : List MemT) (vm : Value) (rows : List (List Value)) (W : World) : Prop :=
 W.heap[s]? = some (.cells #[.int .i64 0, .int .i64 0, str [], .slice none 0 0, .slice none 0 0] 72 (0, 0)) ∧
 W.heap[s + 1]? = some (.cells #[.int .i64 k, .int .i64 n, str x, vl, vm] 72 (0, 0)) ∧ W.ownsRow B1 74 6 vm acc.length rows.flatten ∧ RdM W (fun i => B1 ≤ i ∧ i < W.heap.size ∧ vm.ownBlock ≠ some i) acc rows ∧
 s + 2 ≤ B1 ∧ B1 ≤ W.heap.size ∧ ∃ rl, RdFB (fun i => s + 1 < i ∧ i < B1) 5 W vl rl ∧ RdL W (fun i => s + 1 < i ∧ i < B1) l rl
section
variable {k n : Int} {x : List UInt8} {s B1 : Nat} {l : List JV} {vl : Value} {acc : List MemT} {vm : Value} {rows : List (List Value)} {W W' : World}
theorem CpL.toM {rows : List (List Value)} (h : CpL k n x s l vl rows W) : CpM k n x s W.heap.size l vl [] (.slice none 0 0) [] W := by
 have hsz := h.sz
 obtain ⟨h1, h2, h3, h4⟩ := h
 obtain ⟨r1, r2⟩ := RdL.rows h4
 refine ⟨h1, h2, World.ownsRow_nil _ _ _ _, by unfold RdM; trivial, hsz.1, Nat.le_refl _, rows, ?_, h4.mono (fun i hi hF => ⟨hF.1, hi⟩)⟩
 rw [← r1] at h3
 exact RdFB.of_row r2 h3 (fun k hk => by have := h3.lt k hk; omega)
theorem CpM.frm {G : Nat → Prop} (h : CpM k n x s B1 l vl acc vm rows W) (hf : Frm G W W') (hG : ∀ i, s ≤ i → i < W.heap.size → ¬ G i) : CpM k n x s B1 l vl acc vm rows W' := by
 obtain ⟨h1, h2, h3, h4, h5, h6, rl, h7, h8⟩ := h
 have l1 := (Array.getElem?_eq_some_iff.1 h1).1
 have l2 := (Array.getElem?_eq_some_iff.1 h2).1
 refine ⟨box_frm h1 hf (hG _ (Nat.le_refl _) l1), box_frm h2 hf (hG _ (by omega) l2), owns_frm h3 hf (fun k hk => by have := h3.lt k hk; exact hG k (by omega) this.2), ?_, h5, Nat.le_trans h6 hf.size, rl, h7.frm hf (fun i hi => hG i (by omega) (by omega)), h8.frm hf (fun i hi => hG i (by omega) (by omega))⟩
 have := h4.frm hf (fun i hi => hG i (by omega) hi.2.1)
 exact this.mono (fun i hi hF => ⟨hF.1, hi, hF.2.2⟩)
theorem CpM.up (h : CpM k n x s B1 l vl acc vm rows W) (hb : Below W.heap.size W W') : CpM k n x s B1 l vl acc vm rows W' := h.frm (Frm.of_below (F := fun _ => False) hb) (fun _ _ _ e => e)
theorem CpM.sz (h : CpM k n x s B1 l vl acc vm rows W) : s + 2 ≤ W.heap.size ∧ ∀ k, vm.ownBlock = some k → k < W.heap.size :=
 ⟨(Array.getElem?_eq_some_iff.1 h.2.1).1, fun k hk => (h.2.2.1.lt k hk).2⟩
theorem CpM.add {w4 : World} {g cap B0 : Nat} {nm : List UInt8} {v : JV} {cs : List Value} {ob : Obj} (h : CpM k n x s B1 l vl acc vm rows W) (hB : B1 ≤ B0) (hvb : ∀ k, vm.ownBlock = some k → k < B0) (hv : RdJ W (fun i => B0 ≤ i) v cs)
 (ho : w4.ownsRow B1 74 6 (.slice (some ⟨g, 0, none⟩) (acc.length + 1) cap) (acc.length + 1) (rows.flatten ++ (str nm :: cs))) (hg : (W.alloc ob).grownBy w4 vm.ownBlock) (hl : vm.ownBlock = some g ∨ g = W.heap.size + 1) :
 CpM k n x s B1 l vl (acc ++ [(nm, v)]) (.slice (some ⟨g, 0, none⟩) (acc.length + 1) cap) (rows ++ [str nm :: cs]) (w4.setCell ⟨s + 1, 4, none⟩ (.slice (some ⟨g, 0, none⟩) (acc.length + 1) cap)) ∧ Frm (fun i => s ≤ i) W (w4.setCell ⟨s + 1, 4, none⟩ (.slice (some ⟨g, 0, none⟩) (acc.length + 1) cap)) := by
 have hsz := h.sz
 obtain ⟨h1, h2, h3, h4, h5, h6, rl, h7, h8⟩ := h
 have hgb : ∀ k, vm.ownBlock = some k → B1 ≤ k := fun k hk => (h3.lt k hk).1
 have f1 : Frm (fun i => vm.ownBlock = some i) W w4 := (Frm.of_below (below_alloc W ob)).trans (Frm.of_grown hg (fun k hk => hk)) (fun _ _ h => h)
 have f2 : Frm (fun i => i = s + 1 ∨ vm.ownBlock = some i) W (w4.setCell ⟨s + 1, 4, none⟩ (.slice (some ⟨g, 0, none⟩) (acc.length + 1) cap)) :=
  (f1.mono (fun _ _ h => .inr h)).trans (Frm.set (F := fun i => i = s + 1) _ rfl) (fun _ _ h => .inl h)
 have hgs : B1 ≤ g := by
  rcases hl with h | h
  · exact hgb g h
  omega
 have hbx : w4.heap[s + 1]? = some (.cells #[.int .i64 k, .int .i64 n, str x, vl, vm] 72 (0, 0)) := box_frm h2 f1 (fun e => by have := hgb _ e; omega)
 have g1 : ∀ i, (i = s + 1 ∨ vm.ownBlock = some i) → s + 1 ≤ i := fun i h => by
  rcases h with h | h
  · omega
  have := hgb _ h; omega
 have g2 : ∀ i, (s + 1 < i ∧ i < B1) → ¬ (i = s + 1 ∨ vm.ownBlock = some i) := fun i hi h => by
  rcases h with h | h
  · omega
  have := hgb _ h; omega
 refine ⟨⟨box_frm h1 f2 (fun e => by have := g1 _ e; omega), box_set hbx 4 _, ?_, RdM.snoc ?_ ?_, h5, Nat.le_trans h6 f2.size, rl, h7.frm f2 g2, h8.frm f2 g2⟩, f2.mono (fun i _ hi => by have := g1 _ hi; omega)⟩
 · rw [List.flatten_append, List.length_append]
   simp only [List.flatten_cons, List.flatten_nil, List.append_nil, List.length_singleton]
   exact owns_frm (F := fun i => i = s + 1) ho (Frm.set _ rfl) (fun k hk e => by simp [Value.ownBlock] at hk; omega)
 · refine RdJ.mono (F := fun i => B0 ≤ i ∧ i < W.heap.size) ?_ (fun i hi hF => ⟨by omega, hi, fun e => ?_⟩)
   · exact (hv.mono (G := fun i => B0 ≤ i ∧ i < W.heap.size) (fun i hi hF => ⟨hF, hi⟩)).frm f2 (fun i hi e => by
      rcases e with e | e
      · omega
      have := hvb i e; omega)
   simp only [Value.ownBlock, Option.some.injEq] at e
   subst e
   rcases hl with h | h
   · have := hvb _ h; omega
   omega
 have := h4.frm f2 (fun i hi e => by
  rcases e with e | e
  · omega
  exact hi.2.2 e)
 refine this.mono (fun i hi hF => ⟨hF.1, hi, fun e => ?_⟩)
 simp only [Value.ownBlock, Option.some.injEq] at e
 subst e
 rcases hl with h | h
 · exact hF.2.2 h
 omega
end
theorem cpl_up {k n : Int} {x : List UInt8} {s : Nat} {acc : List JV} {vl : Value} {rows : List (List Value)} {W : World} (h : CpL k n x s acc vl rows W) (ob : Obj) : (W.alloc ob).cell? ⟨s + 1, 3, none⟩ = some vl :=
 box_cell (box_up h.2.1 (below_alloc W ob)) 3
theorem cpl_box {k n : Int} {x : List UInt8} {s : Nat} {acc : List JV} {vl : Value} {rows : List (List Value)} {W w4 : World} {ob : Obj} (h : CpL k n x s acc vl rows W) (hg : (W.alloc ob).grownBy w4 vl.ownBlock) :
 w4.heap[s + 1]? = some (.cells #[.int .i64 k, .int .i64 n, str x, vl, .slice none 0 0] 72 (0, 0)) := by
 have hb := box_up h.2.1 (below_alloc W ob)
 rw [hg.block (s + 1) (Array.getElem?_eq_some_iff.1 hb).1 (fun e => by have := h.2.2.1.lt _ e.symm; omega)]
 exact hb
theorem cpl_cell {k n : Int} {x : List UInt8} {s : Nat} {acc : List JV} {vl : Value} {rows : List (List Value)} {W w4 : World} {ob : Obj} (h : CpL k n x s acc vl rows W) (hg : (W.alloc ob).grownBy w4 vl.ownBlock) : w4.cell? ⟨s + 1, 3, none⟩ = some vl := box_cell (cpl_box h hg) 3
theorem cpl_fr {k n : Int} {x : List UInt8} {s : Nat} {acc : List JV} {vl : Value} {rows : List (List Value)} {W w4 : World} {ob : Obj} (h : CpL k n x s acc vl rows W) (hg : (W.alloc ob).grownBy w4 vl.ownBlock) : w4.frozen? ⟨s + 1, 3, none⟩ = false := box_fr (cpl_box h hg) 3
theorem cpm_up {k n : Int} {x : List UInt8} {s B1 : Nat} {l : List JV} {vl : Value} {acc : List MemT} {vm : Value} {rows : List (List Value)} {W : World} (h : CpM k n x s B1 l vl acc vm rows W) (ob : Obj) : (W.alloc ob).cell? ⟨s + 1, 4, none⟩ = some vm :=
 box_cell (box_up h.2.1 (below_alloc W ob)) 4
theorem cpm_box {k n : Int} {x : List UInt8} {s B1 : Nat} {l : List JV} {vl : Value} {acc : List MemT} {vm : Value} {rows : List (List Value)} {W w4 : World} {ob : Obj} (h : CpM k n x s B1 l vl acc vm rows W) (hg : (W.alloc ob).grownBy w4 vm.ownBlock) :
 w4.heap[s + 1]? = some (.cells #[.int .i64 k, .int .i64 n, str x, vl, vm] 72 (0, 0)) := by
 have hb := box_up h.2.1 (below_alloc W ob)
 rw [hg.block (s + 1) (Array.getElem?_eq_some_iff.1 hb).1 (fun e => by have := h.2.2.1.lt _ e.symm; have := h.2.2.2.2.1; omega)]
 exact hb
theorem cpm_cell {k n : Int} {x : List UInt8} {s B1 : Nat} {l : List JV} {vl : Value} {acc : List MemT} {vm : Value} {rows : List (List Value)} {W w4 : World} {ob : Obj} (h : CpM k n x s B1 l vl acc vm rows W) (hg : (W.alloc ob).grownBy w4 vm.ownBlock) : w4.cell? ⟨s + 1, 4, none⟩ = some vm := box_cell (cpm_box h hg) 4
theorem cpm_fr {k n : Int} {x : List UInt8} {s B1 : Nat} {l : List JV} {vl : Value} {acc : List MemT} {vm : Value} {rows : List (List Value)} {W w4 : World} {ob : Obj} (h : CpM k n x s B1 l vl acc vm rows W) (hg : (W.alloc ob).grownBy w4 vm.ownBlock) : w4.frozen? ⟨s + 1, 4, none⟩ = false := box_fr (cpm_box h hg) 4
def CopC (v : JV) : Prop := szV v ≤ 1000000000 → ∀ (F : Nat → Prop) (w : World) (cs : List Value), RdJ w F v cs →
 Calls Tryz.prog 58 #[.agg cs.toArray] w fun e w' => ∃ cs', e = .returned (.agg cs'.toArray) ∧ RdJ w' (fun i => w.heap.size ≤ i) v cs' ∧ Below w.heap.size w w'
set_option maxRecDepth 100000 in
set_option maxHeartbeats 8000000 in
theorem copy_step (v : JV) (IHL : ∀ x ∈ v.l, CopC x) (IHM : ∀ x ∈ v.m, CopC x.2) : CopC v := by
 intro hsz F w cs h
 obtain ⟨al, ll, cl, am, lm, cm, rfl, ⟨rl, hrl, hll, rfl⟩, rm, hrm, hmm, rfl⟩ := h.open
 have hZ : v.l.length ≤ 1000000000 ∧ v.m.length ≤ 1000000000 := by
  have := szV_mk v
  have := szL_len v.l
  have := szM_len v.m
  omega
 have HL := Lib.hid (And.intro hrl (And.intro hll (And.intro hrm hmm)))
 have IL : Hid (∀ x ∈ v.l, ∀ (F : Nat → Prop) (w : World) (cs : List Value), RdJ w F x cs → Calls Tryz.prog 58 #[.agg cs.toArray] w fun e w' => ∃ cs', e = .returned (.agg cs'.toArray) ∧ RdJ w' (fun i => w.heap.size ≤ i) x cs' ∧ Below w.heap.size w w') := Lib.hid (fun x hx => IHL x hx (by
  have := szV_mk v
  have := szL_mem hx
  omega))
 have IM : Hid (∀ x ∈ v.m, ∀ (F : Nat → Prop) (w : World) (cs : List Value), RdJ w F x.2 cs → Calls Tryz.prog 58 #[.agg cs.toArray] w fun e w' => ∃ cs', e = .returned (.agg cs'.toArray) ∧ RdJ w' (fun i => w.heap.size ≤ i) x.2 cs' ∧ Below w.heap.size w w') := Lib.hid (fun x hx => IHM x hx (by
  have := szV_mk v
  have := szM_mem hx
  omega))
 obtain ⟨hz1, hz2⟩ := hZ
 clear IHL IHM hrl hll hrm hmm h hsz
 obtain ⟨W0, hW0⟩ : ∃ W0, W0 = ((w.alloc (.cells #[.int .i64 v.kind, .int .i64 v.n, str v.s, .slice al v.l.length cl, .slice am v.m.length cm] 72)).alloc (.cells #[.int .i64 0, .int .i64 0, .string ⟨#[]⟩, .slice none 0 0, .slice none 0 0] 72)).alloc (.cells #[.int .i64 v.kind, .int .i64 v.n, str v.s, .slice none 0 0, .slice none 0 0] 72) := ⟨_, rfl⟩
 have H0 : Hid (Below w.heap.size w W0 ∧ W0.heap[w.heap.size]? = some (.cells #[.int .i64 v.kind, .int .i64 v.n, str v.s, .slice al v.l.length cl, .slice am v.m.length cm] 72 (0, 0)) ∧ CpL v.kind v.n v.s (w.heap.size + 1) [] (.slice none 0 0) [] W0) := Lib.hid (by
  have hb : Below w.heap.size w W0 := by rw [hW0]; exact (((Below.refl _ _).alloc (Nat.le_refl _) _).alloc (by simp) _).alloc (by simp; omega) _
  refine ⟨hb, ?_, ?_, ?_, World.ownsRow_nil _ _ _ _, by unfold RdL; trivial⟩
  · rw [hW0]; exact box_up (box_up (heap_alloc_new w _) (below_alloc _ _)) (below_alloc _ _)
  · rw [hW0]
    have := heap_alloc_new (w.alloc (.cells #[.int .i64 v.kind, .int .i64 v.n, str v.s, .slice al v.l.length cl, .slice am v.m.length cm] 72)) (.cells #[.int .i64 0, .int .i64 0, .string ⟨#[]⟩, .slice none 0 0, .slice none 0 0] 72)
    refine box_up ?_ (below_alloc _ _)
    simpa using this
  rw [hW0]
  have := heap_alloc_new ((w.alloc (.cells #[.int .i64 v.kind, .int .i64 v.n, str v.s, .slice al v.l.length cl, .slice am v.m.length cm] 72)).alloc (.cells #[.int .i64 0, .int .i64 0, .string ⟨#[]⟩, .slice none 0 0, .slice none 0 0] 72)) (.cells #[.int .i64 v.kind, .int .i64 v.n, str v.s, .slice none 0 0, .slice none 0 0] 72)
  simpa using this)
 obtain ⟨i0, hi, hq0, hq1, hq2⟩ := info_parts infoJ
 go_enter Tryz.func58, Tryz.ntmps58
 go_upto_region 3 with fail
 rw [← hW0]
 clear hW0
 have b3 := box_cell H0.out.2.1 3
 go_wp2_with fail
 clear b3
 go_loopw [14] (fun v14 wr => ∃ k : Nat, k ≤ v.l.length ∧ v14 = .int .i64 (k : Int) ∧ Hid (Below (w.heap.size + 1) W0 wr ∧ ∃ vl rows, CpL v.kind v.n v.s (w.heap.size + 1) (v.l.take k) vl rows wr)) (fun v14 _ => v.l.length - (intOf v14).toNat)
 case atStart => exact ⟨0, Nat.zero_le _, rfl, Lib.hid ⟨Below.refl _ _, _, _, H0.out.2.2⟩⟩
 case round =>
  obtain ⟨k, hk, rfl, HK⟩ := hrel
  obtain ⟨hbw0, vl, rows, hcp⟩ := HK.out
  have HWW : Hid (Below w.heap.size w wr) := Lib.hid (H0.out.1.trans (hbw0.mono (Nat.le_succ _)))
  have HC := Lib.hid hcp
  have HB0 := Lib.hid hbw0
  clear hcp hbw0 HK
  by_cases hlt : k < v.l.length
  · have n1 : (k : Int) < (v.l.length : Int) := by omega
    have n3 : (0 : Int) ≤ (k : Int) := by omega
    obtain ⟨b, off, a, n, c, a', n', c', rfl, _, hbw, hx, c0, c1, c2, c3, c4⟩ := RdJ.part HL.out.1 HL.out.2.1 hlt
    have HM : Hid (v.l[k] ∈ v.l) := Lib.hid (List.getElem_mem hlt)
    obtain ⟨x, hxx⟩ : ∃ x, x = v.l[k] := ⟨_, rfl⟩
    have HTK : Hid (v.l.take (k + 1) = v.l.take k ++ [x]) := Lib.hid (by rw [hxx, List.take_add_one, List.getElem?_eq_getElem hlt]; rfl)
    rw [← hxx] at hx c0 c1 c2 HM
    clear hxx
    have e0 : wr.cell? ⟨b, off + k * 5, none⟩ = some (.int .i64 x.kind) := (HWW.out.cell (p := ⟨b, off + k * 5, none⟩) hbw).trans c0
    have e1 : wr.cell? ⟨b, off + k * 5 + 1, none⟩ = some (.int .i64 x.n) := (HWW.out.cell (p := ⟨b, off + k * 5 + 1, none⟩) hbw).trans c1
    have e2 : wr.cell? ⟨b, off + k * 5 + 2, none⟩ = some (str x.s) := (HWW.out.cell (p := ⟨b, off + k * 5 + 2, none⟩) hbw).trans c2
    have e3 : wr.cell? ⟨b, off + k * 5 + 3, none⟩ = some (.slice a n c) := (HWW.out.cell (p := ⟨b, off + k * 5 + 3, none⟩) hbw).trans c3
    have e4 : wr.cell? ⟨b, off + k * 5 + 4, none⟩ = some (.slice a' n' c') := (HWW.out.cell (p := ⟨b, off + k * 5 + 4, none⟩) hbw).trans c4
    obtain ⟨W1, hW1⟩ : ∃ W1, W1 = wr.alloc (.cells #[.int .i64 x.kind, .int .i64 x.n, str x.s, .slice a n c, .slice a' n' c'] 72) := ⟨_, rfl⟩
    have hb1 : Below wr.heap.size wr W1 := by rw [hW1]; exact below_alloc _ _
    have hbx : W1.heap[wr.heap.size]? = some (.cells #[.int .i64 x.kind, .int .i64 x.n, str x.s, .slice a n c, .slice a' n' c'] 72 (0, 0)) := by rw [hW1]; exact heap_alloc_new wr _
    have HX1 := Lib.hid (And.intro hb1 (hx.up (HWW.out.trans (hb1.mono HWW.out.size))))
    obtain ⟨acc, hacc⟩ : ∃ acc, acc = v.l.take k := ⟨_, rfl⟩
    have hal : acc.length = k := by rw [hacc]; simp; omega
    rw [← hacc] at HC HTK
    clear hacc
    obtain ⟨va, vc, rfl⟩ := own_slice HC.out.2.2.1
    have CV := Lib.hid (IL.out x HM.out F W1.drew _ (HX1.out.2.up (W' := W1.drew) (Below.drewsN (Below.refl _ _) 1)))
    clear hx c0 c1 c2 c3 c4 hbw
    go_upto_region 6 with fail
    rw [← hW1]
    clear hW1 e0 e1 e2 e3 e4
    have HC1 := Lib.hid (HC.out.up hb1)
    obtain ⟨p0, p1, p2, p3, p4⟩ := box5 hbx
    have d3 := box_cell HC1.out.2.1 3
    clear hb1 hbx
    have HC1d := Lib.hid (HC1.out.up (W' := W1.drew) (Below.drewsN (Below.refl _ _) 1))
    have HCZ := Lib.hid HC.out.sz
    have hal2 : acc.length ≤ 1000000000 := by omega
    clear hal
    go_region_law ((first
     | (refine step_appendL (by rfl) (.tmp 19) (.tmp 22) 69 (by rfl) (size := 5) (bytes := 80) Tryz.underlying69 hi hq0 hq1 hq2 rfl (by decide) (by rfl) (World.ownsRow.alloc HC2.out.2.2.1 _) [.int .i64 x.kind, .int .i64 x.n, str x.s, .slice a2 n2 c2, .slice a2' n2' c2'] (by rfl) (heap_alloc_new _ _) rfl ?_ ?_ ?_ ?_ ?_
        · intro u hu
          simp only [List.mem_cons, List.not_mem_nil, or_false] at hu
          rcases hu with rfl | rfl | rfl | rfl | rfl <;> rfl
        · unfold maxLen; omega
        · omega
        · have := HC2.out.sz.1; simp; omega
        intro g cap w4 ho hg hl
        have HA := Lib.hid (HC2.out.add (v := x) (B0 := W1.heap.size) (by have := HC1.out.sz.1; omega) (fun k hk => HC1.out.sz.2 k hk) HV2.out ho hg (by simpa using hl))
        have hx3 : w4.cell? ⟨w.heap.size + 1 + 1, 3, none⟩ = some (.slice va acc.length vc) := cpl_cell HC2.out hg
        have hxf : w4.frozen? ⟨w.heap.size + 1 + 1, 3, none⟩ = false := cpl_fr HC2.out hg
        clear ho hg hl)
     | (go_simp; go_at_call 58; refine CV.out.mono ?_; rintro e w2 ⟨cs2, rfl, hv2, hb2⟩; obtain ⟨a2, n2, c2, a2', n2', c2', rfl, _, _⟩ := hv2.open; have HC2 := Lib.hid (HC1d.out.up hb2); have HV2 := Lib.hid hv2; have HB2 := Lib.hid hb2; have d32 := box_cell HC2.out.2.1 3; have d33 := cpl_up HC2.out (.cells #[.int .i64 x.kind, .int .i64 x.n, str x.s, .slice a2 n2 c2, .slice a2' n2' c2'] 72); clear hv2 hb2)
     | fail))
    all_goals
     have HA2 := HA.out
     generalize w4.setCell ⟨w.heap.size + 1 + 1, 3, none⟩ (.slice (some ⟨g, 0, none⟩) (acc.length + 1) cap) = w5 at HA2 ⊢
     have H5 : Hid (Below (w.heap.size + 1) W0 w5 ∧ ∃ vl rows, CpL v.kind v.n v.s (w.heap.size + 1) (v.l.take (k + 1)) vl rows w5) := Lib.hid ⟨(((HB0.out.trans (HX1.out.1.mono (by have := HCZ.out.1; omega))).trans (Below.drewsN (Below.refl _ _) 1)).trans (HB2.out.mono (by have := HCZ.out.1; have := HX1.out.1.size; show w.heap.size + 1 ≤ W1.heap.size; omega))).trans (HA2.2.below (by have := HC2.out.sz.1; omega) (fun i h => h)), _, _, by rw [HTK.out]; exact HA2.1⟩
     clear HA2 HA hx3 hxf
     go_wp2_with fail
     go_roundw
     case rel => exact ⟨k + 1, by omega, by go_num, H5⟩
     case measure => simp [intOf]; omega
  obtain rfl : k = v.l.length := by omega
  have n2 : ¬ (v.l.length : Int) < (v.l.length : Int) := by omega
  rw [List.take_length] at HC
  have bx : wr.heap[w.heap.size]? = some (.cells #[.int .i64 v.kind, .int .i64 v.n, str v.s, .slice al v.l.length cl, .slice am v.m.length cm] 72 (0, 0)) := by
   rw [HB0.out.block _ (Nat.lt_succ_self _)]; exact H0.out.2.1
  have b4 := box_cell bx 4
  have HCM := Lib.hid HC.out.toM
  obtain ⟨B1, hB1⟩ : ∃ B1, B1 = wr.heap.size := ⟨_, rfl⟩
  rw [← hB1] at HCM
  have hB1' := Lib.hid hB1
  clear bx hB1 HC HWW hlt hk
  go_wp2_with fail
  clear b4
  go_loopw [29] (fun v29 wr2 => ∃ k : Nat, k ≤ v.m.length ∧ v29 = .int .i64 (k : Int) ∧ Hid (Below (w.heap.size + 1) W0 wr2 ∧ ∃ vm rows, CpM v.kind v.n v.s (w.heap.size + 1) B1 v.l vl (v.m.take k) vm rows wr2)) (fun v29 _ => v.m.length - (intOf v29).toNat)
  case atStart => exact ⟨0, Nat.zero_le _, rfl, Lib.hid ⟨HB0.out, _, _, HCM.out⟩⟩
  case round =>
   clear HCM HB0
   obtain ⟨k, hk, rfl, HK⟩ := hrel
   obtain ⟨hbw0, vm, rowm, hcp⟩ := HK.out
   rename_i wr1 rowl _ _ wr
   have HWW : Hid (Below w.heap.size w wr) := Lib.hid (H0.out.1.trans (hbw0.mono (Nat.le_succ _)))
   have HC := Lib.hid hcp
   have HB0 := Lib.hid hbw0
   clear hcp hbw0 HK
   by_cases hlt : k < v.m.length
   · have n1 : (k : Int) < (v.m.length : Int) := by omega
     have n3 : (0 : Int) ≤ (k : Int) := by omega
     obtain ⟨b, off, a, n, c, a', n', c', rfl, _, hbw, hx, c0, c1, c2, c3, c4, c5⟩ := RdJ.memb HL.out.2.2.1 HL.out.2.2.2 hlt
     have HM : Hid (v.m[k] ∈ v.m) := Lib.hid (List.getElem_mem hlt)
     have HIM := Lib.hid (IM.out _ HM.out)
     obtain ⟨x, hxx⟩ : ∃ x, x = v.m[k].2 := ⟨_, rfl⟩
     obtain ⟨nm, hnm⟩ : ∃ nm, nm = v.m[k].1 := ⟨_, rfl⟩
     have HTK : Hid (v.m.take (k + 1) = v.m.take k ++ [(nm, x)]) := Lib.hid (by rw [hxx, hnm, List.take_add_one, List.getElem?_eq_getElem hlt]; rfl)
     rw [← hxx] at hx c1 c2 c3 HIM
     rw [← hnm] at c0
     clear hxx hnm HM
     have e0 : wr.cell? ⟨b, off + k * 6, none⟩ = some (str nm) := (HWW.out.cell (p := ⟨b, off + k * 6, none⟩) hbw).trans c0
     have e1 : wr.cell? ⟨b, off + k * 6 + 1, none⟩ = some (.int .i64 x.kind) := (HWW.out.cell (p := ⟨b, off + k * 6 + 1, none⟩) hbw).trans c1
     have e2 : wr.cell? ⟨b, off + k * 6 + 2, none⟩ = some (.int .i64 x.n) := (HWW.out.cell (p := ⟨b, off + k * 6 + 2, none⟩) hbw).trans c2
     have e3 : wr.cell? ⟨b, off + k * 6 + 3, none⟩ = some (str x.s) := (HWW.out.cell (p := ⟨b, off + k * 6 + 3, none⟩) hbw).trans c3
     have e4 : wr.cell? ⟨b, off + k * 6 + 4, none⟩ = some (.slice a n c) := (HWW.out.cell (p := ⟨b, off + k * 6 + 4, none⟩) hbw).trans c4
     have e5 : wr.cell? ⟨b, off + k * 6 + 5, none⟩ = some (.slice a' n' c') := (HWW.out.cell (p := ⟨b, off + k * 6 + 5, none⟩) hbw).trans c5
     obtain ⟨W1, hW1⟩ : ∃ W1, W1 = wr.alloc (.cells #[str nm, .int .i64 x.kind, .int .i64 x.n, str x.s, .slice a n c, .slice a' n' c'] 74) := ⟨_, rfl⟩
     have hb1 : Below wr.heap.size wr W1 := by rw [hW1]; exact below_alloc _ _
     have hbx : W1.heap[wr.heap.size]? = some (.cells #[str nm, .int .i64 x.kind, .int .i64 x.n, str x.s, .slice a n c, .slice a' n' c'] 74 (0, 0)) := by rw [hW1]; exact heap_alloc_new wr _
     have HX1 := Lib.hid (And.intro hb1 (hx.up (HWW.out.trans (hb1.mono HWW.out.size))))
     obtain ⟨acc, hacc⟩ : ∃ acc, acc = v.m.take k := ⟨_, rfl⟩
     have hal : acc.length = k := by rw [hacc]; simp; omega
     rw [← hacc] at HC HTK
     clear hacc
     obtain ⟨va, vc, rfl⟩ := own_slice HC.out.2.2.1
     have CV := Lib.hid (HIM.out F W1.drew _ (HX1.out.2.up (W' := W1.drew) (Below.drewsN (Below.refl _ _) 1)))
     clear hx c0 c1 c2 c3 c4 c5 hbw HIM
     go_upto_region 11 with fail
     rw [← hW1]
     clear hW1 e0 e1 e2 e3 e4 e5
     have HC1 := Lib.hid (HC.out.up hb1)
     have p0 := box_cell hbx 0
     have p1 := box_cell hbx 1
     have p2 := box_cell hbx 2
     have p3 := box_cell hbx 3
     have p4 := box_cell hbx 4
     have p5 := box_cell hbx 5
     have d3 := box_cell HC1.out.2.1 4
     have HBX := Lib.hid hbx
     clear hb1 hbx
     have HC1d := Lib.hid (HC1.out.up (W' := W1.drew) (Below.drewsN (Below.refl _ _) 1))
     have HCZ := Lib.hid HC.out.sz
     have hal2 : acc.length ≤ 1000000000 := by omega
     obtain ⟨j0, hj, hr0, hr1, hr2⟩ := info_parts infoM
     clear hal
     go_region_law ((first
      | (refine step_appendL (by rfl) (.tmp 34) (.tmp 41) 70 (by rfl) (size := 6) (bytes := 96) Tryz.underlying70 hj hr0 hr1 hr2 rfl (by decide) (by rfl) (World.ownsRow.alloc HC2.out.2.2.1 _) [str nm, .int .i64 x.kind, .int .i64 x.n, str x.s, .slice a2 n2 c2, .slice a2' n2' c2'] (by rfl) (heap_alloc_new _ _) rfl ?_ ?_ ?_ ?_ ?_
         · intro u hu
           simp only [List.mem_cons, List.not_mem_nil, or_false] at hu
           rcases hu with rfl | rfl | rfl | rfl | rfl | rfl <;> rfl
         · unfold maxLen; omega
         · omega
         · have := HC2.out.2.2.2.2.2.1; simp; omega
         intro g cap w4 ho hg hl
         have HA := Lib.hid (HC2.out.add (nm := nm) (v := x) (B0 := W1.heap.size) (by have := HC1.out.2.2.2.2.2.1; omega) (fun k hk => HC1.out.sz.2 k hk) HV2.out ho hg (by simpa using hl))
         have hx3 : w4.cell? ⟨w.heap.size + 1 + 1, 4, none⟩ = some (.slice va acc.length vc) := cpm_cell HC2.out hg
         have hxf : w4.frozen? ⟨w.heap.size + 1 + 1, 4, none⟩ = false := cpm_fr HC2.out hg
         clear ho hg hl)
      | (go_simp; go_at_call 58; refine CV.out.mono ?_; rintro e w2 ⟨cs2, rfl, hv2, hb2⟩; obtain ⟨a2, n2, c2, a2', n2', c2', rfl, _, _⟩ := hv2.open; have HC2 := Lib.hid (HC1d.out.up hb2); have HV2 := Lib.hid hv2; have HB2 := Lib.hid hb2; have d32 := box_cell HC2.out.2.1 4; have d35 := box_cell (box_up HBX.out ((Below.drewsN (Below.refl _ _) 1).trans hb2)) 0; have d33 := cpm_up HC2.out (.cells #[str nm, .int .i64 x.kind, .int .i64 x.n, str x.s, .slice a2 n2 c2, .slice a2' n2' c2'] 74); clear hv2 hb2)
      | fail))
     all_goals
      have HA2 := HA.out
      generalize w4.setCell ⟨w.heap.size + 1 + 1, 4, none⟩ (.slice (some ⟨g, 0, none⟩) (acc.length + 1) cap) = w5 at HA2 ⊢
      have H5 : Hid (Below (w.heap.size + 1) W0 w5 ∧ ∃ vm rows, CpM v.kind v.n v.s (w.heap.size + 1) B1 v.l vl (v.m.take (k + 1)) vm rows w5) := Lib.hid ⟨(((HB0.out.trans (HX1.out.1.mono (by have := HCZ.out.1; omega))).trans (Below.drewsN (Below.refl _ _) 1)).trans (HB2.out.mono (by have := HCZ.out.1; have := HX1.out.1.size; show w.heap.size + 1 ≤ W1.heap.size; omega))).trans (HA2.2.below (by have := HC2.out.sz.1; omega) (fun i h => h)), _, _, by rw [HTK.out]; exact HA2.1⟩
      clear HA2 HA hx3 hxf
      go_wp2_with fail
      go_roundw
      case rel => exact ⟨k + 1, by omega, by go_num, H5⟩
      case measure => simp [intOf]; omega
   obtain rfl : k = v.m.length := by omega
   have n2 : ¬ (v.m.length : Int) < (v.m.length : Int) := by omega
   rw [List.take_length] at HC
   obtain ⟨va, vc, rfl⟩ := own_slice HC.out.2.2.1
   have HCC := HC.out
   obtain ⟨h1, h2, h3, h4, h5, h6, rl2, h7, h8⟩ := HCC
   obtain ⟨vb, vd, rfl, _, _⟩ := h7.form
   have HZ2 := Lib.hid (RdL.rows h8).1
   obtain ⟨b0, b1, b2, b3, b4⟩ := box5 h2
   obtain ⟨d0, d1, d2, d3, d4⟩ := box5 h1
   have df := box_fr h1
   have HP := Lib.hid (And.intro h1 (And.intro h2 (And.intro h3 (And.intro h4 (And.intro h5 (And.intro h6 (And.intro h7 h8)))))))
   clear h1 h2 h3 h4 h5 h6 h7 h8
   go_wp2_with fail
   refine bodyPost_any_world (fun X => X.heap[w.heap.size + 1]? = some (.cells #[.int .i64 v.kind, .int .i64 v.n, str v.s, .slice vb rl2.length vd, .slice va v.m.length vc] 72 (0, 0)) ∧ Frm (fun i => i = w.heap.size + 1) wr X) (five_set HP.out.1 _ _ _ _ _) ?_
   clear b0 b1 b2 b3 b4 d0 d1 d2 d3 d4 df
   rintro w9 ⟨h9, hf9⟩
   obtain ⟨k0, k1, k2, k3, k4⟩ := box5 h9
   refine bodyPost_ret (v := .agg #[.int .i64 v.kind, .int .i64 v.n, str v.s, .slice vb rl2.length vd, .slice va v.m.length vc]) (by simp [results, Tryz.results58, go_sem, k0, k1, k2, k3, k4]) rfl ?_
   obtain ⟨h1, h2, h3, h4, h5, h6, h7, h8⟩ := HP.out
   obtain ⟨r1, r2⟩ := RdM.rows h4
   refine ⟨[.int .i64 v.kind, .int .i64 v.n, str v.s, .slice vb rl2.length vd, .slice va v.m.length vc], rfl, ?_, ?_⟩
   · refine RdJ.mk' (rl := rl2) (rm := rowm) ((h7.frm hf9 (fun i hi e => by omega)).mono (fun i _ hi => by omega) (fun r hr => by have := (RdL.rows h8).2 r hr; omega)) ((h8.frm hf9 (fun i hi e => by omega)).mono (fun i _ hi => by omega)) ?_ ((h4.frm hf9 (fun i hi e => by omega)).mono (fun i _ hi => by omega))
     have h3' := owns_frm h3 hf9 (fun k hk e => by have := h3.lt k hk; omega)
     rw [← r1] at h3' ⊢
     exact RdFB.of_row r2 h3' (fun k hk => by have := h3.lt k (by rw [← r1]; exact hk); omega)
   exact HWW.out.trans (hf9.below HWW.out.size (fun k hk => by omega))
theorem copy_any (v : JV) : CopC v := JV.ind copy_step v
def fndM : List MemT → List UInt8 → Option JV
 | [], _ => none
 | (a, v) :: t, nm => if (a == nm) = true then some v else fndM t nm
def getJ (v : JV) (nm : List UInt8) : Option JV := if v.kind = 7 then fndM v.m nm else none
def GetP (w : World) (r : Option JV) (e : Ending) (w' : World) : Prop :=
 match r with
 | none => e = .returned (.tuple #[.agg #[.int .i64 0, .int .i64 0, str [], .slice none 0 0, .slice none 0 0], .bool false]) ∧ Below w.heap.size w w'
 | some x => ∃ cs', e = .returned (.tuple #[.agg cs'.toArray, .bool true]) ∧ RdJ w' (fun i => w.heap.size ≤ i) x cs' ∧ Below w.heap.size w w'
theorem fndM_at {m : List MemT} {k : Nat} {nm : List UInt8} (h : k < m.length) : fndM (m.drop k) nm = if (m[k].1 == nm) = true then some m[k].2 else fndM (m.drop (k + 1)) nm := by
 rw [List.drop_eq_getElem_cons h]
 obtain ⟨a, b⟩ := m[k]
 rfl
set_option maxRecDepth 100000 in
set_option maxHeartbeats 8000000 in
theorem get_any (v : JV) (nm : List UInt8) (hsz : szV v ≤ 1000000000) (F : Nat → Prop) (w : World) (cs : List Value) (h : RdJ w F v cs) : Calls Tryz.prog 40 #[.agg cs.toArray, str nm] w (GetP w (getJ v nm)) := by
 obtain ⟨al, ll, cl, am, lm, cm, rfl, _, ⟨rm, hrm, hmm, rfl⟩⟩ := h.open
 have hZ : v.m.length ≤ 1000000000 := by
  have := szV_mk v
  have := szM_len v.m
  omega
 have HL := Lib.hid (And.intro hrm hmm)
 have HS : Hid (∀ x ∈ v.m, szV x.2 ≤ 1000000000) := Lib.hid (fun x hx => by
  have := szV_mk v
  have := szM_mem hx
  omega)
 obtain ⟨W0, hW0⟩ : ∃ W0, W0 = (w.alloc (.cells #[.int .i64 v.kind, .int .i64 v.n, str v.s, .slice al ll cl, .slice am v.m.length cm] 72)).alloc (.cells #[.int .i64 0, .int .i64 0, .string ⟨#[]⟩, .slice none 0 0, .slice none 0 0] 72) := ⟨_, rfl⟩
 have H0 : Hid (Below w.heap.size w W0 ∧ W0.heap[w.heap.size]? = some (.cells #[.int .i64 v.kind, .int .i64 v.n, str v.s, .slice al ll cl, .slice am v.m.length cm] 72 (0, 0)) ∧ W0.heap[w.heap.size + 1]? = some (.cells #[.int .i64 0, .int .i64 0, str [], .slice none 0 0, .slice none 0 0] 72 (0, 0)) ∧ w.heap.size + 2 ≤ W0.heap.size) := Lib.hid (by
  have hb : Below w.heap.size w W0 := by rw [hW0]; exact ((Below.refl _ _).alloc (Nat.le_refl _) _).alloc (by simp) _
  refine ⟨hb, ?_, ?_, by rw [hW0]; simp⟩
  · rw [hW0]; exact box_up (heap_alloc_new w _) (below_alloc _ _)
  rw [hW0]
  have := heap_alloc_new (w.alloc (.cells #[.int .i64 v.kind, .int .i64 v.n, str v.s, .slice al ll cl, .slice am v.m.length cm] 72)) (.cells #[.int .i64 0, .int .i64 0, .string ⟨#[]⟩, .slice none 0 0, .slice none 0 0] 72)
  simpa using this)
 unfold getJ
 clear h hrm hmm hsz
 by_cases h7 : v.kind = 7
 · rw [if_pos h7]
   have t1 : (v.kind != 7) = false := by rw [h7]; rfl
   obtain ⟨R, hR⟩ : ∃ R, R = fndM v.m nm := ⟨_, rfl⟩
   rw [← hR]
   have HR := Lib.hid hR
   clear h7 hR
   go_enter Tryz.func40, Tryz.ntmps40
   go_upto_region 1 with fail
   rw [← hW0]
   clear hW0
   have q0 := box_cell H0.out.2.1 0
   have q4 := box_cell H0.out.2.1 4
   go_wp2_with fail
   clear q0 q4
   go_loopw [15] (fun v15 wr => ∃ k : Nat, k ≤ v.m.length ∧ v15 = .int .i64 (k : Int) ∧ Hid (R = fndM (v.m.drop k) nm) ∧ Hid (Below (w.heap.size + 2) W0 wr)) (fun v15 _ => v.m.length - (intOf v15).toNat)
   case atStart => exact ⟨0, Nat.zero_le _, rfl, Lib.hid (by rw [List.drop_zero]; exact HR.out), Lib.hid (Below.refl _ _)⟩
   case round =>
    obtain ⟨k, hk, rfl, HK, HB0⟩ := hrel
    have HWW : Hid (Below w.heap.size w wr) := Lib.hid (H0.out.1.trans (HB0.out.mono (by omega)))
    have HZR : Hid (wr.heap[w.heap.size + 1]? = some (.cells #[.int .i64 0, .int .i64 0, str [], .slice none 0 0, .slice none 0 0] 72 (0, 0)) ∧ w.heap.size + 2 ≤ wr.heap.size) := Lib.hid ⟨by
     rw [HB0.out.block _ (by omega)]; exact H0.out.2.2.1, Nat.le_trans H0.out.2.2.2 HB0.out.size⟩
    by_cases hlt : k < v.m.length
    · have n1 : (k : Int) < (v.m.length : Int) := by omega
      have n3 : (0 : Int) ≤ (k : Int) := by omega
      obtain ⟨b, off, a, n, c, a', n', c', rfl, _, hbw, hx, c0, c1, c2, c3, c4, c5⟩ := RdJ.memb HL.out.1 HL.out.2 hlt
      have HSX := Lib.hid (HS.out _ (List.getElem_mem hlt))
      have hst := HK.out
      rw [fndM_at hlt] at hst
      obtain ⟨x, hxx⟩ : ∃ x, x = v.m[k].2 := ⟨_, rfl⟩
      obtain ⟨nk, hnm⟩ : ∃ nk, nk = v.m[k].1 := ⟨_, rfl⟩
      rw [← hxx] at hx c1 c2 c3 HSX hst
      rw [← hnm] at c0 hst
      clear hxx hnm
      have e0 : wr.cell? ⟨b, off + k * 6, none⟩ = some (str nk) := (HWW.out.cell (p := ⟨b, off + k * 6, none⟩) hbw).trans c0
      have e1 : wr.cell? ⟨b, off + k * 6 + 1, none⟩ = some (.int .i64 x.kind) := (HWW.out.cell (p := ⟨b, off + k * 6 + 1, none⟩) hbw).trans c1
      have e2 : wr.cell? ⟨b, off + k * 6 + 2, none⟩ = some (.int .i64 x.n) := (HWW.out.cell (p := ⟨b, off + k * 6 + 2, none⟩) hbw).trans c2
      have e3 : wr.cell? ⟨b, off + k * 6 + 3, none⟩ = some (str x.s) := (HWW.out.cell (p := ⟨b, off + k * 6 + 3, none⟩) hbw).trans c3
      have e4 : wr.cell? ⟨b, off + k * 6 + 4, none⟩ = some (.slice a n c) := (HWW.out.cell (p := ⟨b, off + k * 6 + 4, none⟩) hbw).trans c4
      have e5 : wr.cell? ⟨b, off + k * 6 + 5, none⟩ = some (.slice a' n' c') := (HWW.out.cell (p := ⟨b, off + k * 6 + 5, none⟩) hbw).trans c5
      obtain ⟨W1, hW1⟩ : ∃ W1, W1 = wr.alloc (.cells #[str nk, .int .i64 x.kind, .int .i64 x.n, str x.s, .slice a n c, .slice a' n' c'] 74) := ⟨_, rfl⟩
      have hb1 : Below wr.heap.size wr W1 := by rw [hW1]; exact below_alloc _ _
      have hbx : W1.heap[wr.heap.size]? = some (.cells #[str nk, .int .i64 x.kind, .int .i64 x.n, str x.s, .slice a n c, .slice a' n' c'] 74 (0, 0)) := by rw [hW1]; exact heap_alloc_new wr _
      have HX1 := Lib.hid (And.intro hb1 (And.intro hbx (hx.up (HWW.out.trans (hb1.mono HWW.out.size)))))
      clear hx c0 c1 c2 c3 c4 c5 hbw HK
      go_upto_region 6 with fail
      rw [← hW1]
      clear hW1 e0 e1 e2 e3 e4 e5 hb1 hbx
      have p0 := box_cell HX1.out.2.1 0
      cases hB : (nk == nm) with
      | true =>
       rw [hB, if_pos rfl] at hst
       have HE := Lib.hid hst
       have CV := Lib.hid (copy_any x HSX.out F W1 _ HX1.out.2.2)
       have p1 := box_cell HX1.out.2.1 1
       have p2 := box_cell HX1.out.2.1 2
       have p3 := box_cell HX1.out.2.1 3
       have p4 := box_cell HX1.out.2.1 4
       have p5 := box_cell HX1.out.2.1 5
       clear hst
       go_wp2_with fail
       refine CV.out.mono ?_
       rintro e w2 ⟨cs2, rfl, hv2, hb2⟩
       obtain ⟨a2, n2, c2, a3, m3, c3, rfl, _, _⟩ := hv2.open
       have hz2 : w2.heap[w.heap.size + 1]? = some (.cells #[.int .i64 0, .int .i64 0, str [], .slice none 0 0, .slice none 0 0] 72 (0, 0)) := box_up (box_up HZR.out.1 HX1.out.1) hb2
       obtain ⟨d0, d1, d2, d3, d4⟩ := box5 hz2
       have df := box_fr hz2
       have HV2 := Lib.hid (And.intro hv2 (And.intro hb2 hz2))
       clear hv2 hb2 hz2 CV p0 p1 p2 p3 p4 p5
       go_wp2_with fail
       refine bodyPost_any_world (fun X => X.heap[w.heap.size + 1]? = some (.cells #[.int .i64 x.kind, .int .i64 x.n, str x.s, .slice a2 n2 c2, .slice a3 m3 c3] 72 (0, 0)) ∧ Frm (fun i => i = w.heap.size + 1) w2 X) (five_set HV2.out.2.2 _ _ _ _ _) ?_
       clear d0 d1 d2 d3 d4 df
       rintro w9 ⟨h9, hf9⟩
       obtain ⟨k0, k1, k2, k3, k4⟩ := box5 h9
       refine bodyPost_ret (v := .tuple #[.agg #[.int .i64 x.kind, .int .i64 x.n, str x.s, .slice a2 n2 c2, .slice a3 m3 c3], .bool true]) (by simp [results, Tryz.results40, go_sem, k0, k1, k2, k3, k4]) rfl ?_
       rw [HE.out]
       have hs1 : wr.heap.size ≤ W1.heap.size := HX1.out.1.size
       refine ⟨_, rfl, (HV2.out.1.frm hf9 (fun i hi e => by have := HZR.out.2; omega)).mono (fun i _ hi => by have := HZR.out.2; omega), ?_⟩
       exact (HWW.out.trans (HX1.out.1.mono HWW.out.size)).trans ((HV2.out.2.1.mono (by have := HWW.out.size; omega)).trans (hf9.below (by have := HWW.out.size; have := HV2.out.2.1.size; omega) (fun k hk => by omega)))
      | false =>
       rw [hB, if_neg (by simp)] at hst
       have HE := Lib.hid hst
       have HB5 : Hid (Below (w.heap.size + 2) W0 W1) := Lib.hid (HB0.out.trans (HX1.out.1.mono HZR.out.2))
       clear hst
       go_wp2_with fail
       go_roundw
       case rel => exact ⟨k + 1, by omega, by go_num, HE, HB5⟩
       case measure => simp [intOf]; omega
    obtain rfl : k = v.m.length := by omega
    have n2 : ¬ (v.m.length : Int) < (v.m.length : Int) := by omega
    have HE : Hid (R = none) := Lib.hid (by rw [HK.out, List.drop_length]; rfl)
    obtain ⟨d0, d1, d2, d3, d4⟩ := box5 HZR.out.1
    have df := box_fr HZR.out.1
    clear HK
    go_wp2_with fail
    refine bodyPost_any_world (fun X => X.heap[w.heap.size + 1]? = some (.cells #[.int .i64 0, .int .i64 0, str [], .slice none 0 0, .slice none 0 0] 72 (0, 0)) ∧ Frm (fun i => i = w.heap.size + 1) wr X) (five_set HZR.out.1 _ _ _ _ _) ?_
    clear d0 d1 d2 d3 d4 df
    rintro w9 ⟨h9, hf9⟩
    obtain ⟨k0, k1, k2, k3, k4⟩ := box5 h9
    refine bodyPost_ret (v := .tuple #[.agg #[.int .i64 0, .int .i64 0, str [], .slice none 0 0, .slice none 0 0], .bool false]) (by simp [results, Tryz.results40, go_sem, k0, k1, k2, k3, k4]) rfl ?_
    rw [HE.out]
    exact ⟨rfl, HWW.out.trans (hf9.below HWW.out.size (fun k hk => by omega))⟩
 rw [if_neg h7]
 have t1 : (v.kind != 7) = true := by rw [bne_iff_ne]; exact h7
 clear h7
 go_enter Tryz.func40, Tryz.ntmps40
 go_upto_region 1 with fail
 rw [← hW0]
 clear hW0
 have q0 := box_cell H0.out.2.1 0
 obtain ⟨d0, d1, d2, d3, d4⟩ := box5 H0.out.2.2.1
 have df := box_fr H0.out.2.2.1
 go_wp2_with fail
 refine bodyPost_any_world (fun X => X.heap[w.heap.size + 1]? = some (.cells #[.int .i64 0, .int .i64 0, str [], .slice none 0 0, .slice none 0 0] 72 (0, 0)) ∧ Frm (fun i => i = w.heap.size + 1) W0 X) (five_set H0.out.2.2.1 _ _ _ _ _) ?_
 clear d0 d1 d2 d3 d4 df
 rintro w9 ⟨h9, hf9⟩
 obtain ⟨k0, k1, k2, k3, k4⟩ := box5 h9
 refine bodyPost_ret (v := .tuple #[.agg #[.int .i64 0, .int .i64 0, str [], .slice none 0 0, .slice none 0 0], .bool false]) (by simp [results, Tryz.results40, go_sem, k0, k1, k2, k3, k4]) rfl ?_
 exact ⟨rfl, H0.out.1.trans (hf9.below H0.out.1.size (fun k hk => by omega))⟩
end Go.Proofs.YtegblhmcfemfgaaGreatDoor
