import Derived.Test.YtidlhajibjnkeaaGreatDoorJCopy
import Derived.Deep.AppendLies
import Derived.Test.YtidlhajibjnkeaaGreatDoorJMems
import Derived.Test.YtidlhajibjnkeaaGreatDoorJGet
import Derived.Test.YtidlhajibjnkeaaGreatDoorRdV
/- json.Copy, at the top: its own rows are not frozen. -/
namespace Go.Proofs.YtidlhajibjnkeaaGreatDoor
open Go.RowKit

/-- A slice's block is not frozen. -/
def UnF (W : World) (v : Value) : Prop := ∀ k, v.ownBlock = some k → ∃ c T, W.heap[k]? = some (.cells c T (0, 0))
theorem unf_row {w : World} {b size n : Nat} {e : TypeId} {v : Value} {xs : List Value} (h : w.ownsRow b e size v n xs) : UnF w v := fun g hg => by
  rcases h.2 with ⟨rfl, _⟩ | ⟨g', cap, cur, rfl, _, h1, _⟩
  · simp [Value.ownBlock] at hg
  · simp only [Value.ownBlock, Option.some.injEq] at hg
    subst hg
    exact ⟨_, _, h1⟩
/-- Rows in a block of F that is not frozen. -/
def RdFU (F : Nat → Prop) (sz : Nat) (W : World) (v : Value) (L : List (List Value)) : Prop := RdFB F sz W v L ∧ ∀ k, v.ownBlock = some k → F k ∧ ∃ c T, W.heap[k]? = some (.cells c T (0, 0))
theorem RdFU.frm {F G : Nat → Prop} {sz : Nat} {w w' : World} {v : Value} {L : List (List Value)} (h : RdFU F sz w v L) (hf : Frm G w w') (hn : ∀ i, F i → ¬ G i) : RdFB F sz w' v L ∧ UnF w' v :=
  ⟨h.1.frm hf hn, fun k hk => by obtain ⟨h1, c, T, h2⟩ := h.2 k hk; exact ⟨c, T, box_frm h2 hf (hn k h1)⟩⟩
theorem RdFU.of_row {F : Nat → Prop} {sz : Nat} {w : World} {base : Nat} {e : TypeId} {v : Value} {L : List (List Value)} (hr : ∀ r ∈ L, r.length = sz) (h : w.ownsRow base e sz v L.length L.flatten) (hF : ∀ k, v.ownBlock = some k → F k) : RdFU F sz w v L :=
  ⟨RdFB.of_row hr h hF, fun k hk => ⟨hF k hk, unf_row h k hk⟩⟩
theorem RdFU.frmU {F G : Nat → Prop} {sz : Nat} {w w' : World} {v : Value} {L : List (List Value)} (h : RdFU F sz w v L) (hf : Frm G w w') (hn : ∀ i, F i → ¬ G i) : RdFU F sz w' v L :=
  ⟨h.1.frm hf hn, fun k hk => by obtain ⟨h1, c, T, h2⟩ := h.2 k hk; exact ⟨h1, c, T, box_frm h2 hf (hn k h1)⟩⟩
/-- Copy's members under way. -/
def CpMT (k n : Int) (x : List UInt8) (s B1 : Nat) (l : List JV) (vl : Value) (acc : List MemT) (vm : Value) (rows : List (List Value)) (W : World) : Prop :=
  W.heap[s]? = some (.cells #[.int .i64 0, .int .i64 0, str [], .slice none 0 0, .slice none 0 0] 28 (0, 0)) ∧
  W.heap[s + 1]? = some (.cells #[.int .i64 k, .int .i64 n, str x, vl, vm] 28 (0, 0)) ∧ W.ownsRow B1 53 6 vm acc.length rows.flatten ∧ RdM W (fun i => B1 ≤ i ∧ i < W.heap.size ∧ vm.ownBlock ≠ some i) acc rows ∧
  s + 2 ≤ B1 ∧ B1 ≤ W.heap.size ∧ ∃ rl, RdFU (fun i => s + 1 < i ∧ i < B1) 5 W vl rl ∧ RdL W (fun i => s + 1 < i ∧ i < B1) l rl
section
variable {k n : Int} {x : List UInt8} {s B1 : Nat} {l : List JV} {vl : Value} {acc : List MemT} {vm : Value} {rows : List (List Value)} {W W' : World}
theorem CpL.toMT {rows : List (List Value)} (h : CpL k n x s l vl rows W) : CpMT k n x s W.heap.size l vl [] (.slice none 0 0) [] W := by
  have hsz := h.sz
  obtain ⟨h1, h2, h3, h4⟩ := h
  obtain ⟨r1, r2⟩ := RdL.rows h4
  refine ⟨h1, h2, World.ownsRow_nil _ _ _ _, by unfold RdM; trivial, hsz.1, Nat.le_refl _, rows, ?_, h4.mono (fun i hi hF => ⟨hF.1, hi⟩)⟩
  rw [← r1] at h3
  exact RdFU.of_row r2 h3 (fun k hk => by have := h3.lt k hk; omega)
theorem CpMT.frm {G : Nat → Prop} (h : CpMT k n x s B1 l vl acc vm rows W) (hf : Frm G W W') (hG : ∀ i, s ≤ i → i < W.heap.size → ¬ G i) : CpMT k n x s B1 l vl acc vm rows W' := by
  obtain ⟨h1, h2, h3, h4, h5, h6, rl, h7, h8⟩ := h
  have l1 := (Array.getElem?_eq_some_iff.1 h1).1
  have l2 := (Array.getElem?_eq_some_iff.1 h2).1
  refine ⟨box_frm h1 hf (hG _ (Nat.le_refl _) l1), box_frm h2 hf (hG _ (by omega) l2), owns_frm h3 hf (fun k hk => by have := h3.lt k hk; exact hG k (by omega) this.2), ?_, h5, Nat.le_trans h6 hf.size, rl, h7.frmU hf (fun i hi => hG i (by omega) (by omega)), h8.frm hf (fun i hi => hG i (by omega) (by omega))⟩
  have := h4.frm hf (fun i hi => hG i (by omega) hi.2.1)
  exact this.mono (fun i hi hF => ⟨hF.1, hi, hF.2.2⟩)
theorem CpMT.up (h : CpMT k n x s B1 l vl acc vm rows W) (hb : Below W.heap.size W W') : CpMT k n x s B1 l vl acc vm rows W' := h.frm (Frm.of_below (F := fun _ => False) hb) (fun _ _ _ e => e)
theorem CpMT.sz (h : CpMT k n x s B1 l vl acc vm rows W) : s + 2 ≤ W.heap.size ∧ ∀ k, vm.ownBlock = some k → k < W.heap.size :=
  ⟨(Array.getElem?_eq_some_iff.1 h.2.1).1, fun k hk => (h.2.2.1.lt k hk).2⟩
/-- A member more. -/
theorem CpMT.add {w4 : World} {g cap B0 : Nat} {nm : List UInt8} {v : JV} {cs : List Value} {ob : Obj} (h : CpMT k n x s B1 l vl acc vm rows W) (hB : B1 ≤ B0) (hvb : ∀ k, vm.ownBlock = some k → k < B0) (hv : RdJ W (fun i => B0 ≤ i) v cs)
    (ho : w4.ownsRow B1 53 6 (.slice (some ⟨g, 0, none⟩) (acc.length + 1) cap) (acc.length + 1) (rows.flatten ++ (str nm :: cs))) (hg : (W.alloc ob).grownBy w4 vm.ownBlock) (hl : vm.ownBlock = some g ∨ g = W.heap.size + 1) :
    CpMT k n x s B1 l vl (acc ++ [(nm, v)]) (.slice (some ⟨g, 0, none⟩) (acc.length + 1) cap) (rows ++ [str nm :: cs]) (w4.setCell ⟨s + 1, 4, none⟩ (.slice (some ⟨g, 0, none⟩) (acc.length + 1) cap)) ∧ Frm (fun i => s ≤ i) W (w4.setCell ⟨s + 1, 4, none⟩ (.slice (some ⟨g, 0, none⟩) (acc.length + 1) cap)) := by
  have hsz := h.sz
  obtain ⟨h1, h2, h3, h4, h5, h6, rl, h7, h8⟩ := h
  have hgb : ∀ k, vm.ownBlock = some k → B1 ≤ k := fun k hk => (h3.lt k hk).1
  have f1 : Frm (fun i => vm.ownBlock = some i) W w4 := (Frm.of_below (below_alloc W ob)).trans (Frm.of_grown hg (fun k hk => hk)) (fun _ _ h => h)
  have f2 : Frm (fun i => i = s + 1 ∨ vm.ownBlock = some i) W (w4.setCell ⟨s + 1, 4, none⟩ (.slice (some ⟨g, 0, none⟩) (acc.length + 1) cap)) :=
    (f1.mono (fun _ _ h => .inr h)).trans (Frm.set (F := fun i => i = s + 1) _ rfl) (fun _ _ h => .inl h)
  have hgs : B1 ≤ g := by
    rcases hl with h | h
    · exact hgb g h
    · omega
  have hbx : w4.heap[s + 1]? = some (.cells #[.int .i64 k, .int .i64 n, str x, vl, vm] 28 (0, 0)) := box_frm h2 f1 (fun e => by have := hgb _ e; omega)
  have g1 : ∀ i, (i = s + 1 ∨ vm.ownBlock = some i) → s + 1 ≤ i := fun i h => by
    rcases h with h | h
    · omega
    · have := hgb _ h; omega
  have g2 : ∀ i, (s + 1 < i ∧ i < B1) → ¬ (i = s + 1 ∨ vm.ownBlock = some i) := fun i hi h => by
    rcases h with h | h
    · omega
    · have := hgb _ h; omega
  refine ⟨⟨box_frm h1 f2 (fun e => by have := g1 _ e; omega), box_set hbx 4 _, ?_, RdM.snoc ?_ ?_, h5, Nat.le_trans h6 f2.size, rl, h7.frmU f2 g2, h8.frm f2 g2⟩, f2.mono (fun i _ hi => by have := g1 _ hi; omega)⟩
  · rw [List.flatten_append, List.length_append]
    simp only [List.flatten_cons, List.flatten_nil, List.append_nil, List.length_singleton]
    exact owns_frm (F := fun i => i = s + 1) ho (Frm.set _ rfl) (fun k hk e => by simp [Value.ownBlock] at hk; omega)
  · refine RdJ.mono (F := fun i => B0 ≤ i ∧ i < W.heap.size) ?_ (fun i hi hF => ⟨by omega, hi, fun e => ?_⟩)
    · exact (hv.mono (G := fun i => B0 ≤ i ∧ i < W.heap.size) (fun i hi hF => ⟨hF, hi⟩)).frm f2 (fun i hi e => by
        rcases e with e | e
        · omega
        · have := hvb i e; omega)
    · simp only [Value.ownBlock, Option.some.injEq] at e
      subst e
      rcases hl with h | h
      · have := hvb _ h; omega
      · omega
  · have := h4.frm f2 (fun i hi e => by
      rcases e with e | e
      · omega
      · exact hi.2.2 e)
    refine this.mono (fun i hi hF => ⟨hF.1, hi, fun e => ?_⟩)
    simp only [Value.ownBlock, Option.some.injEq] at e
    subst e
    rcases hl with h | h
    · exact hF.2.2 h
    · omega
end
theorem cplt_up {k n : Int} {x : List UInt8} {s : Nat} {acc : List JV} {vl : Value} {rows : List (List Value)} {W : World} (h : CpL k n x s acc vl rows W) (ob : Obj) : (W.alloc ob).cell? ⟨s + 1, 3, none⟩ = some vl :=
  box_cell (box_up h.2.1 (below_alloc W ob)) 3
theorem cplt_box {k n : Int} {x : List UInt8} {s : Nat} {acc : List JV} {vl : Value} {rows : List (List Value)} {W w4 : World} {ob : Obj} (h : CpL k n x s acc vl rows W) (hg : (W.alloc ob).grownBy w4 vl.ownBlock) :
    w4.heap[s + 1]? = some (.cells #[.int .i64 k, .int .i64 n, str x, vl, .slice none 0 0] 28 (0, 0)) := by
  have hb := box_up h.2.1 (below_alloc W ob)
  rw [hg.block (s + 1) (Array.getElem?_eq_some_iff.1 hb).1 (fun e => by have := h.2.2.1.lt _ e.symm; omega)]
  exact hb
theorem cplt_cell {k n : Int} {x : List UInt8} {s : Nat} {acc : List JV} {vl : Value} {rows : List (List Value)} {W w4 : World} {ob : Obj} (h : CpL k n x s acc vl rows W) (hg : (W.alloc ob).grownBy w4 vl.ownBlock) : w4.cell? ⟨s + 1, 3, none⟩ = some vl := box_cell (cplt_box h hg) 3
theorem cplt_fr {k n : Int} {x : List UInt8} {s : Nat} {acc : List JV} {vl : Value} {rows : List (List Value)} {W w4 : World} {ob : Obj} (h : CpL k n x s acc vl rows W) (hg : (W.alloc ob).grownBy w4 vl.ownBlock) : w4.frozen? ⟨s + 1, 3, none⟩ = false := box_fr (cplt_box h hg) 3
theorem cpmt_up {k n : Int} {x : List UInt8} {s B1 : Nat} {l : List JV} {vl : Value} {acc : List MemT} {vm : Value} {rows : List (List Value)} {W : World} (h : CpMT k n x s B1 l vl acc vm rows W) (ob : Obj) : (W.alloc ob).cell? ⟨s + 1, 4, none⟩ = some vm :=
  box_cell (box_up h.2.1 (below_alloc W ob)) 4
theorem cpmt_box {k n : Int} {x : List UInt8} {s B1 : Nat} {l : List JV} {vl : Value} {acc : List MemT} {vm : Value} {rows : List (List Value)} {W w4 : World} {ob : Obj} (h : CpMT k n x s B1 l vl acc vm rows W) (hg : (W.alloc ob).grownBy w4 vm.ownBlock) :
    w4.heap[s + 1]? = some (.cells #[.int .i64 k, .int .i64 n, str x, vl, vm] 28 (0, 0)) := by
  have hb := box_up h.2.1 (below_alloc W ob)
  rw [hg.block (s + 1) (Array.getElem?_eq_some_iff.1 hb).1 (fun e => by have := h.2.2.1.lt _ e.symm; have := h.2.2.2.2.1; omega)]
  exact hb
theorem cpmt_cell {k n : Int} {x : List UInt8} {s B1 : Nat} {l : List JV} {vl : Value} {acc : List MemT} {vm : Value} {rows : List (List Value)} {W w4 : World} {ob : Obj} (h : CpMT k n x s B1 l vl acc vm rows W) (hg : (W.alloc ob).grownBy w4 vm.ownBlock) : w4.cell? ⟨s + 1, 4, none⟩ = some vm := box_cell (cpmt_box h hg) 4
theorem cpmt_fr {k n : Int} {x : List UInt8} {s B1 : Nat} {l : List JV} {vl : Value} {acc : List MemT} {vm : Value} {rows : List (List Value)} {W w4 : World} {ob : Obj} (h : CpMT k n x s B1 l vl acc vm rows W) (hg : (W.alloc ob).grownBy w4 vm.ownBlock) : w4.frozen? ⟨s + 1, 4, none⟩ = false := box_fr (cpmt_box h hg) 4
/-- What Copy tells, at the top. -/
def CopT (v : JV) : Prop := szV v ≤ 1000000000 → ∀ (F : Nat → Prop) (w : World) (cs : List Value), RdJ w F v cs →
  Calls Tryz.prog 17 #[.agg cs.toArray] w fun e w' => ∃ cs', e = .returned (.agg cs'.toArray) ∧ RdJ w' (fun i => w.heap.size ≤ i) v cs' ∧ Below w.heap.size w w' ∧ UnF w' (cs'.getD 3 undef) ∧ UnF w' (cs'.getD 4 undef)
set_option maxRecDepth 100000 in
set_option maxHeartbeats 8000000 in
theorem copy_topS (v : JV) (IHL : ∀ x ∈ v.l, CopC x) (IHM : ∀ x ∈ v.m, CopC x.2) : CopT v := by
  intro hsz F w cs h
  obtain ⟨al, ll, cl, am, lm, cm, rfl, ⟨rl, hrl, hll, rfl⟩, rm, hrm, hmm, rfl⟩ := h.open
  have hZ : v.l.length ≤ 1000000000 ∧ v.m.length ≤ 1000000000 := by
    have := szV_mk v
    have := szL_len v.l
    have := szM_len v.m
    omega
  have HL := Lib.hid (And.intro hrl (And.intro hll (And.intro hrm hmm)))
  have IL : Hid (∀ x ∈ v.l, ∀ (F : Nat → Prop) (w : World) (cs : List Value), RdJ w F x cs → Calls Tryz.prog 17 #[.agg cs.toArray] w fun e w' => ∃ cs', e = .returned (.agg cs'.toArray) ∧ RdJ w' (fun i => w.heap.size ≤ i) x cs' ∧ Below w.heap.size w w') := Lib.hid (fun x hx => IHL x hx (by
    have := szV_mk v
    have := szL_mem hx
    omega))
  have IM : Hid (∀ x ∈ v.m, ∀ (F : Nat → Prop) (w : World) (cs : List Value), RdJ w F x.2 cs → Calls Tryz.prog 17 #[.agg cs.toArray] w fun e w' => ∃ cs', e = .returned (.agg cs'.toArray) ∧ RdJ w' (fun i => w.heap.size ≤ i) x.2 cs' ∧ Below w.heap.size w w') := Lib.hid (fun x hx => IHM x hx (by
    have := szV_mk v
    have := szM_mem hx
    omega))
  obtain ⟨hz1, hz2⟩ := hZ
  clear IHL IHM hrl hll hrm hmm h hsz
  obtain ⟨W0, hW0⟩ : ∃ W0, W0 = ((w.alloc (.cells #[.int .i64 v.kind, .int .i64 v.n, str v.s, .slice al v.l.length cl, .slice am v.m.length cm] 28)).alloc (.cells #[.int .i64 0, .int .i64 0, .string ⟨#[]⟩, .slice none 0 0, .slice none 0 0] 28)).alloc (.cells #[.int .i64 v.kind, .int .i64 v.n, str v.s, .slice none 0 0, .slice none 0 0] 28) := ⟨_, rfl⟩
  have H0 : Hid (Below w.heap.size w W0 ∧ W0.heap[w.heap.size]? = some (.cells #[.int .i64 v.kind, .int .i64 v.n, str v.s, .slice al v.l.length cl, .slice am v.m.length cm] 28 (0, 0)) ∧ CpL v.kind v.n v.s (w.heap.size + 1) [] (.slice none 0 0) [] W0) := Lib.hid (by
    have hb : Below w.heap.size w W0 := by rw [hW0]; exact (((Below.refl _ _).alloc (Nat.le_refl _) _).alloc (by simp) _).alloc (by simp; omega) _
    refine ⟨hb, ?_, ?_, ?_, World.ownsRow_nil _ _ _ _, by unfold RdL; trivial⟩
    · rw [hW0]; exact box_up (box_up (heap_alloc_new w _) (below_alloc _ _)) (below_alloc _ _)
    · rw [hW0]
      have := heap_alloc_new (w.alloc (.cells #[.int .i64 v.kind, .int .i64 v.n, str v.s, .slice al v.l.length cl, .slice am v.m.length cm] 28)) (.cells #[.int .i64 0, .int .i64 0, .string ⟨#[]⟩, .slice none 0 0, .slice none 0 0] 28)
      refine box_up ?_ (below_alloc _ _)
      simpa using this
    · rw [hW0]
      have := heap_alloc_new ((w.alloc (.cells #[.int .i64 v.kind, .int .i64 v.n, str v.s, .slice al v.l.length cl, .slice am v.m.length cm] 28)).alloc (.cells #[.int .i64 0, .int .i64 0, .string ⟨#[]⟩, .slice none 0 0, .slice none 0 0] 28)) (.cells #[.int .i64 v.kind, .int .i64 v.n, str v.s, .slice none 0 0, .slice none 0 0] 28)
      simpa using this)
  obtain ⟨i0, hi, hq0, hq1, hq2⟩ := info_parts infoJ
  go_enter Tryz.func17, Tryz.ntmps17
  go_upto_region 3 with fail
  rw [← hW0]
  clear hW0
  have b3 := box_cell H0.out.2.1 3
  go_wp2_with fail
  clear b3
  go_loopw [14] (fun v14 wr => ∃ k : Nat, k ≤ v.l.length ∧ v14 = .int .i64 (k : Int) ∧ Hid (Below (w.heap.size + 1) W0 wr ∧ ∃ vl rows, CpL v.kind v.n v.s (w.heap.size + 1) (v.l.take k) vl rows wr)) (fun v14 _ => v.l.length - (intOf v14).toNat)
  case atStart => exact ⟨0, Nat.zero_le _, rfl, Lib.hid ⟨Below.refl _ _, _, _, H0.out.2.2⟩⟩
  case round =>
    obtain ⟨k, hk, rfl, HK⟩ := hrel
    obtain ⟨hbw0, vl, rows, hcp⟩ := HK.out
    have HWW : Hid (Below w.heap.size w wr) := Lib.hid (H0.out.1.trans (hbw0.mono (Nat.le_succ _)))
    have HC := Lib.hid hcp
    have HB0 := Lib.hid hbw0
    clear hcp hbw0 HK
    by_cases hlt : k < v.l.length
    · have n1 : (k : Int) < (v.l.length : Int) := by omega
      have n3 : (0 : Int) ≤ (k : Int) := by omega
      obtain ⟨b, off, a, n, c, a', n', c', rfl, _, hbw, hx, c0, c1, c2, c3, c4⟩ := RdJ.part HL.out.1 HL.out.2.1 hlt
      have HM : Hid (v.l[k] ∈ v.l) := Lib.hid (List.getElem_mem hlt)
      obtain ⟨x, hxx⟩ : ∃ x, x = v.l[k] := ⟨_, rfl⟩
      have HTK : Hid (v.l.take (k + 1) = v.l.take k ++ [x]) := Lib.hid (by rw [hxx, List.take_add_one, List.getElem?_eq_getElem hlt]; rfl)
      rw [← hxx] at hx c0 c1 c2 HM
      clear hxx
      have e0 : wr.cell? ⟨b, off + k * 5, none⟩ = some (.int .i64 x.kind) := (HWW.out.cell (p := ⟨b, off + k * 5, none⟩) hbw).trans c0
      have e1 : wr.cell? ⟨b, off + k * 5 + 1, none⟩ = some (.int .i64 x.n) := (HWW.out.cell (p := ⟨b, off + k * 5 + 1, none⟩) hbw).trans c1
      have e2 : wr.cell? ⟨b, off + k * 5 + 2, none⟩ = some (str x.s) := (HWW.out.cell (p := ⟨b, off + k * 5 + 2, none⟩) hbw).trans c2
      have e3 : wr.cell? ⟨b, off + k * 5 + 3, none⟩ = some (.slice a n c) := (HWW.out.cell (p := ⟨b, off + k * 5 + 3, none⟩) hbw).trans c3
      have e4 : wr.cell? ⟨b, off + k * 5 + 4, none⟩ = some (.slice a' n' c') := (HWW.out.cell (p := ⟨b, off + k * 5 + 4, none⟩) hbw).trans c4
      obtain ⟨W1, hW1⟩ : ∃ W1, W1 = wr.alloc (.cells #[.int .i64 x.kind, .int .i64 x.n, str x.s, .slice a n c, .slice a' n' c'] 28) := ⟨_, rfl⟩
      have hb1 : Below wr.heap.size wr W1 := by rw [hW1]; exact below_alloc _ _
      have hbx : W1.heap[wr.heap.size]? = some (.cells #[.int .i64 x.kind, .int .i64 x.n, str x.s, .slice a n c, .slice a' n' c'] 28 (0, 0)) := by rw [hW1]; exact heap_alloc_new wr _
      have HX1 := Lib.hid (And.intro hb1 (hx.up (HWW.out.trans (hb1.mono HWW.out.size))))
      obtain ⟨acc, hacc⟩ : ∃ acc, acc = v.l.take k := ⟨_, rfl⟩
      have hal : acc.length = k := by rw [hacc]; simp; omega
      rw [← hacc] at HC HTK
      clear hacc
      obtain ⟨va, vc, rfl⟩ := own_slice HC.out.2.2.1
      have CV := Lib.hid (IL.out x HM.out F W1.drew _ (HX1.out.2.up (W' := W1.drew) (Below.drewsN (Below.refl _ _) 1)))
      clear hx c0 c1 c2 c3 c4 hbw
      go_upto_region 6 with fail
      rw [← hW1]
      clear hW1 e0 e1 e2 e3 e4
      have HC1 := Lib.hid (HC.out.up hb1)
      have p0 := box_cell hbx 0
      have p1 := box_cell hbx 1
      have p2 := box_cell hbx 2
      have p3 := box_cell hbx 3
      have p4 := box_cell hbx 4
      have d3 := box_cell HC1.out.2.1 3
      clear hb1 hbx
      have HC1d := Lib.hid (HC1.out.up (W' := W1.drew) (Below.drewsN (Below.refl _ _) 1))
      have HCZ := Lib.hid HC.out.sz
      have hal2 : acc.length ≤ 1000000000 := by omega
      clear hal
      go_region_law ((first
        | (refine step_appendL (by rfl) (.tmp 19) (.tmp 22) 25 (by rfl) (size := 5) (bytes := 80) Tryz.underlying25 hi hq0 hq1 hq2 rfl (by decide) (by rfl) (World.ownsRow.alloc HC2.out.2.2.1 _) [.int .i64 x.kind, .int .i64 x.n, str x.s, .slice a2 n2 c2, .slice a2' n2' c2'] (by rfl) (heap_alloc_new _ _) rfl ?_ ?_ ?_ ?_ ?_
           · intro u hu
             simp only [List.mem_cons, List.not_mem_nil, or_false] at hu
             rcases hu with rfl | rfl | rfl | rfl | rfl <;> rfl
           · unfold maxLen; omega
           · omega
           · have := HC2.out.sz.1; simp; omega
           intro g cap w4 ho hg hl
           have HA := Lib.hid (HC2.out.add (v := x) (B0 := W1.heap.size) (by have := HC1.out.sz.1; omega) (fun k hk => HC1.out.sz.2 k hk) HV2.out ho hg (by simpa using hl))
           have hx3 : w4.cell? ⟨w.heap.size + 1 + 1, 3, none⟩ = some (.slice va acc.length vc) := cplt_cell HC2.out hg
           have hxf : w4.frozen? ⟨w.heap.size + 1 + 1, 3, none⟩ = false := cplt_fr HC2.out hg
           clear ho hg hl)
        | (go_simp; go_at_call 17; refine CV.out.mono ?_; rintro e w2 ⟨cs2, rfl, hv2, hb2⟩; obtain ⟨a2, n2, c2, a2', n2', c2', rfl, _, _⟩ := hv2.open; have HC2 := Lib.hid (HC1d.out.up hb2); have HV2 := Lib.hid hv2; have HB2 := Lib.hid hb2; have d32 := box_cell HC2.out.2.1 3; have d33 := cplt_up HC2.out (.cells #[.int .i64 x.kind, .int .i64 x.n, str x.s, .slice a2 n2 c2, .slice a2' n2' c2'] 28); clear hv2 hb2)
        | fail))
      all_goals
        have HA2 := HA.out
        generalize w4.setCell ⟨w.heap.size + 1 + 1, 3, none⟩ (.slice (some ⟨g, 0, none⟩) (acc.length + 1) cap) = w5 at HA2 ⊢
        have H5 : Hid (Below (w.heap.size + 1) W0 w5 ∧ ∃ vl rows, CpL v.kind v.n v.s (w.heap.size + 1) (v.l.take (k + 1)) vl rows w5) := Lib.hid ⟨(((HB0.out.trans (HX1.out.1.mono (by have := HCZ.out.1; omega))).trans (Below.drewsN (Below.refl _ _) 1)).trans (HB2.out.mono (by have := HCZ.out.1; have := HX1.out.1.size; show w.heap.size + 1 ≤ W1.heap.size; omega))).trans (HA2.2.below (by have := HC2.out.sz.1; omega) (fun i h => h)), _, _, by rw [HTK.out]; exact HA2.1⟩
        clear HA2 HA hx3 hxf
        go_wp2_with fail
        go_roundw
        case rel => exact ⟨k + 1, by omega, by go_num, H5⟩
        case measure => simp [intOf]; omega
    · obtain rfl : k = v.l.length := by omega
      have n2 : ¬ (v.l.length : Int) < (v.l.length : Int) := by omega
      rw [List.take_length] at HC
      have bx : wr.heap[w.heap.size]? = some (.cells #[.int .i64 v.kind, .int .i64 v.n, str v.s, .slice al v.l.length cl, .slice am v.m.length cm] 28 (0, 0)) := by
        rw [HB0.out.block _ (Nat.lt_succ_self _)]; exact H0.out.2.1
      have b4 := box_cell bx 4
      have HCM := Lib.hid HC.out.toMT
      obtain ⟨B1, hB1⟩ : ∃ B1, B1 = wr.heap.size := ⟨_, rfl⟩
      rw [← hB1] at HCM
      have hB1' := Lib.hid hB1
      clear bx hB1 HC HWW hlt hk
      go_wp2_with fail
      clear b4
      go_loopw [29] (fun v29 wr2 => ∃ k : Nat, k ≤ v.m.length ∧ v29 = .int .i64 (k : Int) ∧ Hid (Below (w.heap.size + 1) W0 wr2 ∧ ∃ vm rows, CpMT v.kind v.n v.s (w.heap.size + 1) B1 v.l vl (v.m.take k) vm rows wr2)) (fun v29 _ => v.m.length - (intOf v29).toNat)
      case atStart => exact ⟨0, Nat.zero_le _, rfl, Lib.hid ⟨HB0.out, _, _, HCM.out⟩⟩
      case round =>
        clear HCM HB0
        obtain ⟨k, hk, rfl, HK⟩ := hrel
        obtain ⟨hbw0, vm, rowm, hcp⟩ := HK.out
        rename_i wr1 rowl _ _ wr
        have HWW : Hid (Below w.heap.size w wr) := Lib.hid (H0.out.1.trans (hbw0.mono (Nat.le_succ _)))
        have HC := Lib.hid hcp
        have HB0 := Lib.hid hbw0
        clear hcp hbw0 HK
        by_cases hlt : k < v.m.length
        · have n1 : (k : Int) < (v.m.length : Int) := by omega
          have n3 : (0 : Int) ≤ (k : Int) := by omega
          obtain ⟨b, off, a, n, c, a', n', c', rfl, _, hbw, hx, c0, c1, c2, c3, c4, c5⟩ := RdJ.memb HL.out.2.2.1 HL.out.2.2.2 hlt
          have HM : Hid (v.m[k] ∈ v.m) := Lib.hid (List.getElem_mem hlt)
          have HIM := Lib.hid (IM.out _ HM.out)
          obtain ⟨x, hxx⟩ : ∃ x, x = v.m[k].2 := ⟨_, rfl⟩
          obtain ⟨nm, hnm⟩ : ∃ nm, nm = v.m[k].1 := ⟨_, rfl⟩
          have HTK : Hid (v.m.take (k + 1) = v.m.take k ++ [(nm, x)]) := Lib.hid (by rw [hxx, hnm, List.take_add_one, List.getElem?_eq_getElem hlt]; rfl)
          rw [← hxx] at hx c1 c2 c3 HIM
          rw [← hnm] at c0
          clear hxx hnm HM
          have e0 : wr.cell? ⟨b, off + k * 6, none⟩ = some (str nm) := (HWW.out.cell (p := ⟨b, off + k * 6, none⟩) hbw).trans c0
          have e1 : wr.cell? ⟨b, off + k * 6 + 1, none⟩ = some (.int .i64 x.kind) := (HWW.out.cell (p := ⟨b, off + k * 6 + 1, none⟩) hbw).trans c1
          have e2 : wr.cell? ⟨b, off + k * 6 + 2, none⟩ = some (.int .i64 x.n) := (HWW.out.cell (p := ⟨b, off + k * 6 + 2, none⟩) hbw).trans c2
          have e3 : wr.cell? ⟨b, off + k * 6 + 3, none⟩ = some (str x.s) := (HWW.out.cell (p := ⟨b, off + k * 6 + 3, none⟩) hbw).trans c3
          have e4 : wr.cell? ⟨b, off + k * 6 + 4, none⟩ = some (.slice a n c) := (HWW.out.cell (p := ⟨b, off + k * 6 + 4, none⟩) hbw).trans c4
          have e5 : wr.cell? ⟨b, off + k * 6 + 5, none⟩ = some (.slice a' n' c') := (HWW.out.cell (p := ⟨b, off + k * 6 + 5, none⟩) hbw).trans c5
          obtain ⟨W1, hW1⟩ : ∃ W1, W1 = wr.alloc (.cells #[str nm, .int .i64 x.kind, .int .i64 x.n, str x.s, .slice a n c, .slice a' n' c'] 53) := ⟨_, rfl⟩
          have hb1 : Below wr.heap.size wr W1 := by rw [hW1]; exact below_alloc _ _
          have hbx : W1.heap[wr.heap.size]? = some (.cells #[str nm, .int .i64 x.kind, .int .i64 x.n, str x.s, .slice a n c, .slice a' n' c'] 53 (0, 0)) := by rw [hW1]; exact heap_alloc_new wr _
          have HX1 := Lib.hid (And.intro hb1 (hx.up (HWW.out.trans (hb1.mono HWW.out.size))))
          obtain ⟨acc, hacc⟩ : ∃ acc, acc = v.m.take k := ⟨_, rfl⟩
          have hal : acc.length = k := by rw [hacc]; simp; omega
          rw [← hacc] at HC HTK
          clear hacc
          obtain ⟨va, vc, rfl⟩ := own_slice HC.out.2.2.1
          have CV := Lib.hid (HIM.out F W1.drew _ (HX1.out.2.up (W' := W1.drew) (Below.drewsN (Below.refl _ _) 1)))
          clear hx c0 c1 c2 c3 c4 c5 hbw HIM
          go_upto_region 11 with fail
          rw [← hW1]
          clear hW1 e0 e1 e2 e3 e4 e5
          have HC1 := Lib.hid (HC.out.up hb1)
          have p0 := box_cell hbx 0
          have p1 := box_cell hbx 1
          have p2 := box_cell hbx 2
          have p3 := box_cell hbx 3
          have p4 := box_cell hbx 4
          have p5 := box_cell hbx 5
          have d3 := box_cell HC1.out.2.1 4
          have HBX := Lib.hid hbx
          clear hb1 hbx
          have HC1d := Lib.hid (HC1.out.up (W' := W1.drew) (Below.drewsN (Below.refl _ _) 1))
          have HCZ := Lib.hid HC.out.sz
          have hal2 : acc.length ≤ 1000000000 := by omega
          obtain ⟨j0, hj, hr0, hr1, hr2⟩ := info_parts infoM
          clear hal
          go_region_law ((first
            | (refine step_appendL (by rfl) (.tmp 34) (.tmp 41) 26 (by rfl) (size := 6) (bytes := 96) Tryz.underlying26 hj hr0 hr1 hr2 rfl (by decide) (by rfl) (World.ownsRow.alloc HC2.out.2.2.1 _) [str nm, .int .i64 x.kind, .int .i64 x.n, str x.s, .slice a2 n2 c2, .slice a2' n2' c2'] (by rfl) (heap_alloc_new _ _) rfl ?_ ?_ ?_ ?_ ?_
               · intro u hu
                 simp only [List.mem_cons, List.not_mem_nil, or_false] at hu
                 rcases hu with rfl | rfl | rfl | rfl | rfl | rfl <;> rfl
               · unfold maxLen; omega
               · omega
               · have := HC2.out.2.2.2.2.2.1; simp; omega
               intro g cap w4 ho hg hl
               have HA := Lib.hid (HC2.out.add (nm := nm) (v := x) (B0 := W1.heap.size) (by have := HC1.out.2.2.2.2.2.1; omega) (fun k hk => HC1.out.sz.2 k hk) HV2.out ho hg (by simpa using hl))
               have hx3 : w4.cell? ⟨w.heap.size + 1 + 1, 4, none⟩ = some (.slice va acc.length vc) := cpmt_cell HC2.out hg
               have hxf : w4.frozen? ⟨w.heap.size + 1 + 1, 4, none⟩ = false := cpmt_fr HC2.out hg
               clear ho hg hl)
            | (go_simp; go_at_call 17; refine CV.out.mono ?_; rintro e w2 ⟨cs2, rfl, hv2, hb2⟩; obtain ⟨a2, n2, c2, a2', n2', c2', rfl, _, _⟩ := hv2.open; have HC2 := Lib.hid (HC1d.out.up hb2); have HV2 := Lib.hid hv2; have HB2 := Lib.hid hb2; have d32 := box_cell HC2.out.2.1 4; have d35 := box_cell (box_up HBX.out ((Below.drewsN (Below.refl _ _) 1).trans hb2)) 0; have d33 := cpmt_up HC2.out (.cells #[str nm, .int .i64 x.kind, .int .i64 x.n, str x.s, .slice a2 n2 c2, .slice a2' n2' c2'] 53); clear hv2 hb2)
            | fail))
          all_goals
            have HA2 := HA.out
            generalize w4.setCell ⟨w.heap.size + 1 + 1, 4, none⟩ (.slice (some ⟨g, 0, none⟩) (acc.length + 1) cap) = w5 at HA2 ⊢
            have H5 : Hid (Below (w.heap.size + 1) W0 w5 ∧ ∃ vm rows, CpMT v.kind v.n v.s (w.heap.size + 1) B1 v.l vl (v.m.take (k + 1)) vm rows w5) := Lib.hid ⟨(((HB0.out.trans (HX1.out.1.mono (by have := HCZ.out.1; omega))).trans (Below.drewsN (Below.refl _ _) 1)).trans (HB2.out.mono (by have := HCZ.out.1; have := HX1.out.1.size; show w.heap.size + 1 ≤ W1.heap.size; omega))).trans (HA2.2.below (by have := HC2.out.sz.1; omega) (fun i h => h)), _, _, by rw [HTK.out]; exact HA2.1⟩
            clear HA2 HA hx3 hxf
            go_wp2_with fail
            go_roundw
            case rel => exact ⟨k + 1, by omega, by go_num, H5⟩
            case measure => simp [intOf]; omega
        · obtain rfl : k = v.m.length := by omega
          have n2 : ¬ (v.m.length : Int) < (v.m.length : Int) := by omega
          rw [List.take_length] at HC
          obtain ⟨va, vc, rfl⟩ := own_slice HC.out.2.2.1
          have HCC := HC.out
          obtain ⟨h1, h2, h3, h4, h5, h6, rl2, h7, h8⟩ := HCC
          obtain ⟨vb, vd, rfl, _, _⟩ := h7.1.form
          have HZ2 := Lib.hid (RdL.rows h8).1
          have b0 := box_cell h2 0
          have b1 := box_cell h2 1
          have b2 := box_cell h2 2
          have b3 := box_cell h2 3
          have b4 := box_cell h2 4
          have d0 := box_cell h1 0
          have d1 := box_cell h1 1
          have d2 := box_cell h1 2
          have d3 := box_cell h1 3
          have d4 := box_cell h1 4
          have df := box_fr h1
          have HP := Lib.hid (And.intro h1 (And.intro h2 (And.intro h3 (And.intro h4 (And.intro h5 (And.intro h6 (And.intro h7 h8)))))))
          clear h1 h2 h3 h4 h5 h6 h7 h8
          go_wp2_with fail
          refine bodyPost_any_world (fun X => X.heap[w.heap.size + 1]? = some (.cells #[.int .i64 v.kind, .int .i64 v.n, str v.s, .slice vb rl2.length vd, .slice va v.m.length vc] 28 (0, 0)) ∧ Frm (fun i => i = w.heap.size + 1) wr X) (five_set HP.out.1 _ _ _ _ _) ?_
          clear b0 b1 b2 b3 b4 d0 d1 d2 d3 d4 df
          rintro w9 ⟨h9, hf9⟩
          have k0 := box_cell h9 0
          have k1 := box_cell h9 1
          have k2 := box_cell h9 2
          have k3 := box_cell h9 3
          have k4 := box_cell h9 4
          refine bodyPost_ret (v := .agg #[.int .i64 v.kind, .int .i64 v.n, str v.s, .slice vb rl2.length vd, .slice va v.m.length vc]) (by simp [results, Tryz.results17, go_sem, k0, k1, k2, k3, k4]) rfl ?_
          obtain ⟨h1, h2, h3, h4, h5, h6, h7, h8⟩ := HP.out
          obtain ⟨r1, r2⟩ := RdM.rows h4
          refine ⟨[.int .i64 v.kind, .int .i64 v.n, str v.s, .slice vb rl2.length vd, .slice va v.m.length vc], rfl, ?_, ?_⟩
          · refine RdJ.mk' (rl := rl2) (rm := rowm) ((h7.frm hf9 (fun i hi e => by omega)).1.mono (fun i _ hi => by omega) (fun r hr => by have := (RdL.rows h8).2 r hr; omega)) ((h8.frm hf9 (fun i hi e => by omega)).mono (fun i _ hi => by omega)) ?_ ((h4.frm hf9 (fun i hi e => by omega)).mono (fun i _ hi => by omega))
            have h3' := owns_frm h3 hf9 (fun k hk e => by have := h3.lt k hk; omega)
            rw [← r1] at h3' ⊢
            exact RdFB.of_row r2 h3' (fun k hk => by have := h3.lt k (by rw [← r1]; exact hk); omega)
          · exact ⟨HWW.out.trans (hf9.below HWW.out.size (fun k hk => by omega)), (h7.frm hf9 (fun i hi e => by omega)).2, unf_row (owns_frm h3 hf9 (fun k hk e => by have := h3.lt k hk; omega))⟩
theorem copy_top (v : JV) : CopT v := copy_topS v (fun x _ => copy_any x) (fun x _ => copy_any x.2)
end Go.Proofs.YtidlhajibjnkeaaGreatDoor

/- hbllaw4.JsonWrites: the copy, written over. -/
namespace Go.Proofs.YtidlhajibjnkeaaGreatDoor
open Go.RowKit

/-- A slice's block, not frozen, lies ahead of bd. -/
def UnB (bd : Nat) (W : World) (v : Value) : Prop := ∀ k, v.ownBlock = some k → k < bd ∧ ∃ c T, W.heap[k]? = some (.cells c T (0, 0))
theorem UnF.toB {W W' : World} {v : Value} {bd : Nat} (h : UnF W v) (hs : W.heap.size ≤ bd) (hb : Below W.heap.size W W') : UnB bd W' v := fun k hk => by
  obtain ⟨c, T, h1⟩ := h k hk
  have := (Array.getElem?_eq_some_iff.1 h1).1
  exact ⟨by omega, c, T, box_up h1 hb⟩
theorem UnB.up {W W' : World} {v : Value} {bd : Nat} (h : UnB bd W v) (hb : Below W.heap.size W W') : UnB bd W' v := fun k hk => by
  obtain ⟨hlt, c, T, h1⟩ := h k hk
  exact ⟨hlt, c, T, box_up h1 hb⟩
theorem five_eq {x0 x1 x2 x3 x4 y0 y1 y2 y3 y4 : Value} (h : [x0, x1, x2, x3, x4] = [y0, y1, y2, y3, y4]) : x3 = y3 ∧ x4 = y4 := by
  simp only [List.cons.injEq] at h
  exact ⟨h.2.2.2.1, h.2.2.2.2.1⟩
/-- The first row of a slice. -/
theorem first_row {F : Nat → Prop} {W : World} {sz n cap bd : Nat} {a : Option Addr} {r : List Value} {rs : List (List Value)} (h : RdFB F sz W (.slice a n cap) (r :: rs)) (hu : UnB bd W (.slice a n cap)) :
    ∃ b off c T, a = some ⟨b, off, none⟩ ∧ F b ∧ b < bd ∧ W.heap[b]? = some (.cells c T (0, 0)) ∧ ∀ (j : Nat) (u : Value), r[j]? = some u → c[off + j]? = some u := by
  obtain ⟨a', cap', hv, _, _, _, h4⟩ := h
  cases hv
  obtain ⟨b, off, rfl, hF, hc⟩ := h4 (by simp)
  obtain ⟨hlt, c, T, hx⟩ := hu b rfl
  refine ⟨b, off, c, T, rfl, hF, hlt, hx, fun j u hj => ?_⟩
  have h1 := hc 0 (by simp) j u (by simpa using hj)
  rw [show off + 0 * sz + j = off + j by omega, box_cell hx] at h1
  exact h1
/-- The first member's name lies in a block from s on that is not frozen. -/
def JwN (s bd : Nat) (W : World) (v : JV) (a : Option Addr) : Prop := ∀ x t, v.m = x :: t → ∃ b off c T, a = some ⟨b, off, none⟩ ∧ s ≤ b ∧ b < bd ∧ W.heap[b]? = some (.cells c T (0, 0)) ∧ c[off]? = some (str x.1)
theorem jwN_of {s bd : Nat} {W : World} {v : JV} {a : Option Addr} {n cap : Nat} {rows : List (List Value)} (h : RdFB (fun i => s ≤ i) 6 W (.slice a n cap) rows) (hm : RdM W (fun i => s ≤ i) v.m rows) (hu : UnB bd W (.slice a n cap)) : JwN s bd W v a := by
  intro x t hx
  rw [hx] at hm
  obtain ⟨nm, y⟩ := x
  cases rows with
  | nil => simp [RdM] at hm
  | cons r rs =>
    obtain ⟨b, off, c, T, rfl, hF, hlt, hb, hc⟩ := first_row h hu
    refine ⟨b, off, c, T, rfl, hF, hlt, hb, ?_⟩
    have hr : r[0]? = some (str nm) := by
      unfold RdM at hm
      obtain ⟨cs, rfl, _⟩ := hm.1
      rfl
    simpa using hc 0 _ hr
theorem name_len {v : JV} {y : MemT} {t : List MemT} (hy : v.m = y :: t) : y.1.length ≤ szV v := by
  have h1 := szV_mk v
  rw [hy] at h1
  obtain ⟨ya, yv⟩ := y
  rw [szM] at h1
  show ya.length ≤ _
  omega
/-- A number's cell is written: the name stays. -/
theorem JwN.set {s bd : Nat} {W : World} {v : JV} {a : Option Addr} (h : JwN s bd W v a) {b j : Nat} {q : Int} (hq : W.cell? ⟨b, j, none⟩ = some (.int .i64 q)) (u : Value) : JwN s bd (W.setCell ⟨b, j, none⟩ u) v a := by
  intro x t hx
  obtain ⟨b1, off, c, T, ha, hs, hlt, hb, hc⟩ := h x t hx
  by_cases e : b1 = b
  · subst e
    rw [box_cell hb] at hq
    refine ⟨b1, off, c.setIfInBounds j u, T, ha, hs, hlt, box_set hb j u, ?_⟩
    have hne : j ≠ off := fun e => by
      rw [e, hc] at hq
      cases hq
    rw [Array.getElem?_setIfInBounds_ne hne]
    exact hc
  · exact ⟨b1, off, c, T, ha, hs, hlt, by rw [Below.heap_setCell _ _ _ _ (show b1 ≠ b from e)]; exact hb, hc⟩
theorem JwN.up {s bd : Nat} {W W' : World} {v : JV} {a : Option Addr} (h : JwN s bd W v a) (hb : Below W.heap.size W W') : JwN s bd W' v a := fun x t hx => by
  obtain ⟨b1, off, c, T, ha, hs, hlt, h1, hc⟩ := h x t hx
  exact ⟨b1, off, c, T, ha, hs, hlt, box_up h1 hb, hc⟩
/-- The first number of the copy's list. -/
theorem jwL_of {s bd : Nat} {W : World} {l : List JV} {a : Option Addr} {n cap : Nat} {rows : List (List Value)} (h : RdFB (fun i => s ≤ i) 5 W (.slice a n cap) rows) (hl : RdL W (fun i => s ≤ i) l rows) (hu : UnB bd W (.slice a n cap)) {y : JV} {t : List JV} (hy : l = y :: t) :
    ∃ b off c T, a = some ⟨b, off, none⟩ ∧ s ≤ b ∧ b < bd ∧ W.heap[b]? = some (.cells c T (0, 0)) ∧ c[off + 1]? = some (.int .i64 y.n) := by
  subst hy
  cases rows with
  | nil => simp [RdL] at hl
  | cons r rs =>
    obtain ⟨b, off, c, T, rfl, hF, hlt, hb, hc⟩ := first_row h hu
    refine ⟨b, off, c, T, rfl, hF, hlt, hb, ?_⟩
    unfold RdL at hl
    obtain ⟨_, _, _, _, _, _, rfl, _⟩ := hl.1.open
    exact hc 1 _ rfl
theorem jwbytes_any (x y : Value) (l m : List UInt8) (w : World) (hx : Rd w x l) (hy : Rd w y m) :
    Calls Tryz.prog 11 #[x, y] w fun e w' => e = .returned (.bool (l == m)) ∧ w' = w := by
  have c1 := bt.toString (w := w) (S := 9) Tryz.underlying9 hx
  have c2 := bt.toString (w := w) (S := 9) Tryz.underlying9 hy
  go_enter Tryz.func11, Tryz.ntmps11
  go_wp2
  go_ret
  exact ⟨rfl, rfl⟩
/-- Which members are among the first n. -/
theorem take_mem {v : JV} {n : Int} {L : List MemT} (h : L = (memL v).take n.toNat) (j : Nat) : j < L.length ↔ (j < v.m.length ∧ (j : Int) < n ∧ v.kind = 7) := by
  subst h
  rw [List.length_take]
  unfold memL
  split
  · omega
  · next h7 => simp [h7]
theorem take_get {v : JV} {n : Int} {L : List MemT} (h : L = (memL v).take n.toNat) {j : Nat} (hj : j < L.length) (hm : j < v.m.length) : L[j] = v.m[j] := by
  have h7 := ((take_mem h j).1 hj).2.2
  subst h
  simp only [List.getElem_take]
  unfold memL
  simp only [h7, if_true]
/-- A row of strings grows by one. -/
theorem jw_append {P : Program} {T E : TypeId} {ops : Array Oper} {rest : List Oper} {o : Oper} {a : Act} {Q : Exit → Act → World → Prop} {w : World} (hT : P.underlying T = some (.slice E))
    (hE : (P.info? E).map (fun i => (i.zero, i.size, i.bytes)) = some (some (str []), 1, 16)) (hgd : o.guard = none) (s x : Operand) (ho : o.op = .call { callee := .builtin .append, args := #[s, x], argTypes := #[T, T] })
    (base : Nat) (v : Value) (L : List (List UInt8)) (c : List UInt8) (hown : w.ownsRow base E 1 v L.length (L.map str)) (hs : a.eval s = v)
    (hx : a.eval x = .slice (some ⟨w.heap.size, 0, none⟩) 1 1) (hlen : L.length < 1000000000) (hbase : base ≤ w.heap.size)
    (h : ∀ v' w', w'.ownsRow base E 1 v' (L ++ [c]).length ((L ++ [c]).map str) → w.grownBy w' v.ownBlock → wpList P ops Q rest (a.put o.dst v') w') :
    wpList P ops Q (o :: rest) a (w.alloc (.cells #[str c] E)) := by
  obtain ⟨i, hi, h1, h2, h3⟩ := info_parts hE
  refine wpList_append_own _ hgd s x T ho base E i (str []) 1 16 hT hi h1 h2 h3 rfl (by decide) v L.length (L.map str) hs (World.ownsRow.alloc hown _) ⟨w.heap.size, 0, none⟩ 1 1 [str c] hx rfl ?_ ?_ (by unfold maxLen; omega) (by omega) (by simp; omega) ?_
  · intro j u hj
    match j, hj with
    | 0, hj => simp at hj; subst hj; simp [Addr.add]
  · intro u hu; simp at hu; subst hu; rfl
  · intro v' w' h1 h2 _
    refine h v' w' ?_ (grown_trans (World.grownBy_alloc w _ _) h2)
    simpa using h1
/-- The names under way. -/
def JwK (w17 : World) (L : List MemT) (k : Value) (j : Nat) (W : World) : Prop := Below w17.heap.size w17 W ∧ W.ownsRow w17.heap.size 9 1 k ((L.take j).map (·.1)).length (((L.take j).map (·.1)).map str) ∧ ∃ a c, k = .slice a j c
theorem JwK.rd {w17 W : World} {L : List MemT} {k : Value} (h : JwK w17 L k L.length W) : RdV W k ((L.map (·.1)).map str) := by
  have h1 := h.2.1
  rw [List.take_length] at h1
  exact RdV.of_row (by simpa using h1)
theorem getJ_szV {v x : JV} {nm : List UInt8} (h : getJ v nm = some x) : szV x ≤ szV v := by
  unfold getJ at h
  split at h
  · have key : ∀ m : List MemT, fndM m nm = some x → szV x ≤ szM m := by
      intro m
      induction m with
      | nil => intro h; simp [fndM] at h
      | cons y t ih =>
        intro h
        obtain ⟨a, u⟩ := y
        rw [fndM] at h
        rw [szM]
        split at h
        · cases h; omega
        · have := ih h; omega
    have := key _ h
    have := szV_mk v
    omega
  · cases h
end Go.Proofs.YtidlhajibjnkeaaGreatDoor
