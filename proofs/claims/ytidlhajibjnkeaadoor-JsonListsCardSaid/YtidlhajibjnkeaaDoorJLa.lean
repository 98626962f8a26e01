/- Joined: AppN, JCopy, JGet, JListsM. -/
import Derived.Test.YtidlhajibjnkeaaDoorRowsF
import Derived.Test.YtidlhajibjnkeaaDoorKit
import Derived.Deep.RegionHeld3
import Derived.Test.YtidlhajibjnkeaaDoorJValue
import Derived.Test.YtidlhajibjnkeaaDoorJMay
import Derived.Test.YtidlhajibjnkeaaDoorJFew
import Derived.Deep.RegionLaw
import Derived.Test.YtidlhajibjnkeaaDoorJParM
namespace Go.Proofs.YtidlhajibjnkeaaDoor
open Go.RowKit

/-- An append of one struct, in a region that draws. -/
theorem step_appendN {P : Program} {w : World} {ops : Array Oper} {o : Oper} {a : Act} {K : Act → World → Prop} {Q : Exit → Act → World → Prop} {N : Prop} (hgd : o.guard = none) (s x : Operand) (T : TypeId) (ho : o.op = .call { callee := .builtin .append, args := #[s, x], argTypes := #[T, T] })
    {base : Nat} {E : TypeId} {i : TypeInfo} {z : Value} {size bytes : Nat} (hT : P.underlying T = some (.slice E)) (hi : P.info? E = some i) (hz : i.zero = some z) (h1 : i.size = size) (h2 : i.bytes = bytes) (hzs : z.cells.size = size) (hsz : 0 < size)
    {v : Value} {k : Nat} {xs : List Value} (hs : a.eval s = v) (hown : w.ownsRow base E size v k xs) {b : Nat} (us : List Value) (hx : a.eval x = .slice (some ⟨b, 0, none⟩) 1 1) (hb : w.heap[b]? = some (.cells us.toArray E (0, 0))) (hus : us.length = size) (hone : ∀ u ∈ us, u.oneCell' = true)
    (b1 : k + 1 ≤ maxLen) (b2 : (k + 1) * bytes ≤ 140737488355328) (b3 : base ≤ w.heap.size) (hK : ∀ v' w', w'.ownsRow base E size v' (k + 1) (xs ++ us) → w.grownBy w' v.ownBlock → K (a.put o.dst v') w') :
    if Region.wanted o (yielded ops a.tmps) = true then Oper.wp P o a w K Q else N := by
  have hw : Region.wanted o (yielded ops a.tmps) = true := by simp [Region.wanted, hgd]
  rw [if_pos hw]
  refine wp_append_own w s x T ho base E i z size bytes hT hi hz h1 h2 hzs hsz v k xs hs hown ⟨b, 0, none⟩ 1 1 us hx (by omega) ?_ hone b1 b2 b3 ?_
  · intro j u hj
    have e : (⟨b, 0, none⟩ : Addr).add j = ⟨b, j, none⟩ := by simp [Addr.add]; rintro rfl; rfl
    rw [e]
    simpa [World.cell?, hb] using hj
  · intro v' w' g1 g2 _
    exact hK v' w' g1 g2
/-- An append of rows to a row of the call's own. -/
theorem wpList_appendF {P : Program} {w : World} {ops : Array Oper} {rest : List Oper} {o : Oper} {a : Act} {Q : Exit → Act → World → Prop} (hgd : o.guard = none) (s x : Operand) (t : TypeId)
    (ho : o.op = .call { callee := .builtin .append, args := #[s, x], argTypes := #[t, t] }) (base : Nat) (e : TypeId) (i : TypeInfo) (z : Value) (size bytes : Nat) (ht : P.underlying t = some (.slice e)) (hi : P.info? e = some i) (hz : i.zero = some z)
    (hsize : i.size = size) (hby : i.bytes = bytes) (hzs : z.cells.size = size) (hsz : 0 < size)
    (v : Value) (n : Nat) (xs : List Value) (hs : a.eval s = v) (hown : w.ownsRow base e size v n xs)
    (y : Value) (L : List (List Value)) (hL : ∀ r ∈ L, r.length = size) (hone : ∀ u ∈ L.flatten, u.oneCell' = true) (hx : a.eval x = y) (hy : RdF size w y L) (hnil : ∀ c, y = .slice none 0 c → c = 0)
    (h63 : n + L.length ≤ maxLen) (hbytes : (n + L.length) * bytes ≤ 140737488355328) (hbase : base ≤ w.heap.size)
    (h : ∀ v' w', w'.ownsRow base e size v' (n + L.length) (xs ++ L.flatten) → w.grownBy w' v.ownBlock → wpList P ops Q rest (a.put o.dst v') w') : wpList P ops Q (o :: rest) a w := by
  obtain ⟨ad, cap, rfl, h1, h2, h3, h4⟩ := hy
  by_cases hne : L = []
  · subst hne
    cases ad with
    | none =>
      obtain rfl := hnil cap rfl
      exact wpList_append_own_none hgd s x t ho base e i size ht hi v n xs hs hown hx (h v w (by simpa using hown) ⟨rfl, rfl, rfl, Nat.le_refl _, fun _ _ _ => rfl⟩)
    | some ad =>
      exact wpList_append_own w hgd s x t ho base e i z size bytes ht hi hz hsize hby hzs hsz v n xs hs hown ad 0 cap [] hx (by simp) (by simp) (by simp) h63 hbytes hbase (fun v' w' g1 g2 _ => h v' w' (by simpa using g1) g2)
  · obtain ⟨b, off, rfl, hc⟩ := h4 hne
    refine wpList_append_own w hgd s x t ho base e i z size bytes ht hi hz hsize hby hzs hsz v n xs hs hown ⟨b, off, none⟩ L.length cap L.flatten hx (flat_len size L hL) ?_ hone h63 hbytes hbase (fun v' w' g1 g2 _ => h v' w' g1 g2)
    intro j u hj
    have hjl : j < L.length * size := by
      have := (List.getElem?_eq_some_iff.1 hj).1
      rwa [flat_len size L hL] at this
    have hq : j / size < L.length := Nat.div_lt_of_lt_mul (by rwa [Nat.mul_comm] at hjl)
    have hr : j % size < size := Nat.mod_lt _ hsz
    have ej : j = j / size * size + j % size := by rw [Nat.mul_comm]; exact (Nat.div_add_mod j size).symm
    have hf := flat_at size L hL (j / size) hq (j % size) hr
    rw [← ej, hj] at hf
    have := hc (j / size) hq (j % size) u hf.symm
    rw [Addr.add_lit]
    rw [show off + j = off + j / size * size + j % size by rw [Nat.add_assoc, ← ej]]
    exact this
/-- An append of one struct, in a region that draws: where the new row lies. -/
theorem step_appendL {P : Program} {w : World} {ops : Array Oper} {o : Oper} {a : Act} {K : Act → World → Prop} {Q : Exit → Act → World → Prop} {N : Prop} (hgd : o.guard = none) (s x : Operand) (T : TypeId) (ho : o.op = .call { callee := .builtin .append, args := #[s, x], argTypes := #[T, T] })
    {base : Nat} {E : TypeId} {i : TypeInfo} {z : Value} {size bytes : Nat} (hT : P.underlying T = some (.slice E)) (hi : P.info? E = some i) (hz : i.zero = some z) (h1 : i.size = size) (h2 : i.bytes = bytes) (hzs : z.cells.size = size) (hsz : 0 < size)
    {v : Value} {k : Nat} {xs : List Value} (hs : a.eval s = v) (hown : w.ownsRow base E size v k xs) {b : Nat} (us : List Value) (hx : a.eval x = .slice (some ⟨b, 0, none⟩) 1 1) (hb : w.heap[b]? = some (.cells us.toArray E (0, 0))) (hus : us.length = size) (hone : ∀ u ∈ us, u.oneCell' = true)
    (b1 : k + 1 ≤ maxLen) (b2 : (k + 1) * bytes ≤ 140737488355328) (b3 : base ≤ w.heap.size) (hK : ∀ g cap w', w'.ownsRow base E size (.slice (some ⟨g, 0, none⟩) (k + 1) cap) (k + 1) (xs ++ us) → w.grownBy w' v.ownBlock → (v.ownBlock = some g ∨ g = w.heap.size) → K (a.put o.dst (.slice (some ⟨g, 0, none⟩) (k + 1) cap)) w') :
    if Region.wanted o (yielded ops a.tmps) = true then Oper.wp P o a w K Q else N :=
  step_append_lies w hgd s x T ho base E i z size bytes hT hi hz h1 h2 hzs hsz v k xs hs hown ⟨b, 0, none⟩ 1 1 us hx (by rw [hus, Nat.one_mul]) (fun j u hj => by
    have e : (⟨b, 0, none⟩ : Addr).add j = ⟨b, j, none⟩ := by simp [Addr.add]; rintro rfl; rfl
    rw [e]
    simpa [World.cell?, hb] using hj) hone (by decide) b1 b2 b3 w.heap.size rfl (fun g cap w' g1 g2 g3 _ => hK g cap w' g1 g2 g3)
/-- What is owned below a mark stays as it is. -/
theorem owns_below {w w' : World} {base B size n : Nat} {e : TypeId} {v : Value} {xs : List Value} (h : w.ownsRow base e size v n xs) (hb : Below B w w') (hB : w.heap.size ≤ B) : w'.ownsRow base e size v n xs := by
  refine ⟨h.1, ?_⟩
  rcases h.2 with hn | ⟨g, cap, cur, rfl, hb', hg, rest⟩
  · exact .inl hn
  · refine .inr ⟨g, cap, cur, rfl, hb', ?_, rest⟩
    rw [hb.block g (Nat.lt_of_lt_of_le (Array.getElem?_eq_some_iff.1 hg).1 hB)]
    exact hg
end Go.Proofs.YtidlhajibjnkeaaDoor
namespace Go.Proofs.YtidlhajibjnkeaaDoor
open Go.RowKit

theorem szV_mk (v : JV) : szV v = 1 + v.s.length + szL v.l + szM v.m := by obtain ⟨k, n, s, l, m⟩ := v; rw [szV]; rfl
theorem szV_pos (v : JV) : 1 ≤ szV v := by rw [szV_mk]; omega
theorem szL_mem : ∀ {l : List JV} {x : JV}, x ∈ l → szV x ≤ szL l
  | v :: t, x, h => by
    rw [szL]
    rcases List.mem_cons.1 h with rfl | h
    · omega
    · have := szL_mem h; omega
theorem szM_mem : ∀ {l : List MemT} {x : MemT}, x ∈ l → x.1.length + szV x.2 ≤ szM l
  | (a, v) :: t, x, h => by
    rw [szM]
    rcases List.mem_cons.1 h with rfl | h
    · dsimp only; omega
    · have := szM_mem h; omega
theorem szL_len : ∀ l : List JV, l.length ≤ szL l
  | [] => Nat.zero_le _
  | v :: t => by rw [szL]; have := szL_len t; have := szV_pos v; simp; omega
theorem szM_len : ∀ l : List MemT, l.length ≤ szM l
  | [] => Nat.zero_le _
  | (a, v) :: t => by rw [szM]; have := szM_len t; have := szV_pos v; simp; omega
theorem RdJ.mk' {W : World} {F : Nat → Prop} {v : JV} {vl vm : Value} {rl rm : List (List Value)} (h1 : RdFB F 5 W vl rl) (h2 : RdL W F v.l rl) (h3 : RdFB F 6 W vm rm) (h4 : RdM W F v.m rm) :
    RdJ W F v [.int .i64 v.kind, .int .i64 v.n, str v.s, vl, vm] := by
  obtain ⟨k, n, s, l, m⟩ := v
  unfold RdJ
  exact ⟨vl, vm, rfl, ⟨rl, h1, h2⟩, rm, h3, h4⟩
/-- Copy's list under way: the result's box, the copy's box, its parts. -/
def CpL (k n : Int) (x : List UInt8) (s : Nat) (acc : List JV) (vl : Value) (rows : List (List Value)) (W : World) : Prop :=
  W.heap[s]? = some (.cells #[.int .i64 0, .int .i64 0, str [], .slice none 0 0, .slice none 0 0] 25 (0, 0)) ∧
  W.heap[s + 1]? = some (.cells #[.int .i64 k, .int .i64 n, str x, vl, .slice none 0 0] 25 (0, 0)) ∧ W.ownsRow (s + 2) 25 5 vl acc.length rows.flatten ∧ RdL W (fun i => s + 1 < i ∧ i < W.heap.size ∧ vl.ownBlock ≠ some i) acc rows
section
variable {k n : Int} {x : List UInt8} {s : Nat} {acc : List JV} {vl : Value} {rows : List (List Value)} {W W' : World}
theorem CpL.frm {G : Nat → Prop} (h : CpL k n x s acc vl rows W) (hf : Frm G W W') (hG : ∀ i, s ≤ i → i < W.heap.size → ¬ G i) : CpL k n x s acc vl rows W' := by
  obtain ⟨h1, h2, h3, h4⟩ := h
  have l1 := (Array.getElem?_eq_some_iff.1 h1).1
  have l2 := (Array.getElem?_eq_some_iff.1 h2).1
  refine ⟨box_frm h1 hf (hG _ (Nat.le_refl _) l1), box_frm h2 hf (hG _ (by omega) l2), owns_frm h3 hf (fun k hk => by have := h3.lt k hk; exact hG k (by omega) this.2), ?_⟩
  have := h4.frm hf (fun i hi => hG i (by omega) hi.2.1)
  exact this.mono (fun i hi hF => ⟨hF.1, hi, hF.2.2⟩)
theorem CpL.up (h : CpL k n x s acc vl rows W) (hb : Below W.heap.size W W') : CpL k n x s acc vl rows W' := h.frm (Frm.of_below (F := fun _ => False) hb) (fun _ _ _ e => e)
theorem CpL.sz (h : CpL k n x s acc vl rows W) : s + 2 ≤ W.heap.size ∧ ∀ k, vl.ownBlock = some k → k < W.heap.size :=
  ⟨(Array.getElem?_eq_some_iff.1 h.2.1).1, fun k hk => (h.2.2.1.lt k hk).2⟩
/-- A part more. -/
theorem CpL.add {w4 : World} {g cap B0 : Nat} {v : JV} {cs : List Value} {ob : Obj} (h : CpL k n x s acc vl rows W) (hB : s + 2 ≤ B0) (hvb : ∀ k, vl.ownBlock = some k → k < B0) (hv : RdJ W (fun i => B0 ≤ i) v cs)
    (ho : w4.ownsRow (s + 2) 25 5 (.slice (some ⟨g, 0, none⟩) (acc.length + 1) cap) (acc.length + 1) (rows.flatten ++ cs)) (hg : (W.alloc ob).grownBy w4 vl.ownBlock) (hl : vl.ownBlock = some g ∨ g = W.heap.size + 1) :
    CpL k n x s (acc ++ [v]) (.slice (some ⟨g, 0, none⟩) (acc.length + 1) cap) (rows ++ [cs]) (w4.setCell ⟨s + 1, 3, none⟩ (.slice (some ⟨g, 0, none⟩) (acc.length + 1) cap)) ∧ Frm (fun i => s ≤ i) W (w4.setCell ⟨s + 1, 3, none⟩ (.slice (some ⟨g, 0, none⟩) (acc.length + 1) cap)) := by
  have hsz := h.sz
  obtain ⟨h1, h2, h3, h4⟩ := h
  have hgb : ∀ k, vl.ownBlock = some k → s + 2 ≤ k := fun k hk => (h3.lt k hk).1
  have f1 : Frm (fun i => vl.ownBlock = some i) W w4 := (Frm.of_below (below_alloc W ob)).trans (Frm.of_grown hg (fun k hk => hk)) (fun _ _ h => h)
  have f2 : Frm (fun i => i = s + 1 ∨ vl.ownBlock = some i) W (w4.setCell ⟨s + 1, 3, none⟩ (.slice (some ⟨g, 0, none⟩) (acc.length + 1) cap)) :=
    (f1.mono (fun _ _ h => .inr h)).trans (Frm.set (F := fun i => i = s + 1) _ rfl) (fun _ _ h => .inl h)
  have hgs : s + 2 ≤ g := by
    rcases hl with h | h
    · exact hgb g h
    · omega
  have hbx : w4.heap[s + 1]? = some (.cells #[.int .i64 k, .int .i64 n, str x, vl, .slice none 0 0] 25 (0, 0)) := box_frm h2 f1 (fun e => by have := hgb _ e; omega)
  have g1 : ∀ i, (i = s + 1 ∨ vl.ownBlock = some i) → s + 1 ≤ i := fun i h => by
    rcases h with h | h
    · omega
    · have := hgb _ h; omega
  refine ⟨⟨box_frm h1 f2 (fun e => by have := g1 _ e; omega), box_set hbx 3 _, ?_, RdL.snoc ?_ ?_⟩, f2.mono (fun i _ hi => by have := g1 _ hi; omega)⟩
  · rw [List.flatten_append, List.length_append]
    simp only [List.flatten_cons, List.flatten_nil, List.append_nil, List.length_singleton]
    exact owns_frm (F := fun i => i = s + 1) ho (Frm.set _ rfl) (fun k hk e => by simp [Value.ownBlock] at hk; omega)
  · refine RdJ.mono (F := fun i => B0 ≤ i ∧ i < W.heap.size) ?_ (fun i hi hF => ⟨by omega, hi, fun e => ?_⟩)
    · exact (hv.mono (G := fun i => B0 ≤ i ∧ i < W.heap.size) (fun i hi hF => ⟨hF, hi⟩)).frm f2 (fun i hi e => by
        rcases e with e | e
        · omega
        · have := hvb i e; omega)
    · simp only [Value.ownBlock, Option.some.injEq] at e
      subst e
      rcases hl with h | h
      · have := hvb _ h; omega
      · omega
  · have := h4.frm f2 (fun i hi e => by
      rcases e with e | e
      · omega
      · exact hi.2.2 e)
    refine this.mono (fun i hi hF => ⟨hF.1, hi, fun e => ?_⟩)
    simp only [Value.ownBlock, Option.some.injEq] at e
    subst e
    rcases hl with h | h
    · exact hF.2.2 h
    · omega
end
/-- Copy's members under way. -/
def CpM (k n : Int) (x : List UInt8) (s B1 : Nat) (l : List JV) (vl : Value) (acc : List MemT) (vm : Value) (rows : List (List Value)) (W : World) : Prop :=
  W.heap[s]? = some (.cells #[.int .i64 0, .int .i64 0, str [], .slice none 0 0, .slice none 0 0] 25 (0, 0)) ∧
  W.heap[s + 1]? = some (.cells #[.int .i64 k, .int .i64 n, str x, vl, vm] 25 (0, 0)) ∧ W.ownsRow B1 55 6 vm acc.length rows.flatten ∧ RdM W (fun i => B1 ≤ i ∧ i < W.heap.size ∧ vm.ownBlock ≠ some i) acc rows ∧
  s + 2 ≤ B1 ∧ B1 ≤ W.heap.size ∧ ∃ rl, RdFB (fun i => s + 1 < i ∧ i < B1) 5 W vl rl ∧ RdL W (fun i => s + 1 < i ∧ i < B1) l rl
section
variable {k n : Int} {x : List UInt8} {s B1 : Nat} {l : List JV} {vl : Value} {acc : List MemT} {vm : Value} {rows : List (List Value)} {W W' : World}
theorem CpL.toM {rows : List (List Value)} (h : CpL k n x s l vl rows W) : CpM k n x s W.heap.size l vl [] (.slice none 0 0) [] W := by
  have hsz := h.sz
  obtain ⟨h1, h2, h3, h4⟩ := h
  obtain ⟨r1, r2⟩ := RdL.rows h4
  refine ⟨h1, h2, World.ownsRow_nil _ _ _ _, by unfold RdM; trivial, hsz.1, Nat.le_refl _, rows, ?_, h4.mono (fun i hi hF => ⟨hF.1, hi⟩)⟩
  rw [← r1] at h3
  exact RdFB.of_row r2 h3 (fun k hk => by have := h3.lt k hk; omega)
theorem CpM.frm {G : Nat → Prop} (h : CpM k n x s B1 l vl acc vm rows W) (hf : Frm G W W') (hG : ∀ i, s ≤ i → i < W.heap.size → ¬ G i) : CpM k n x s B1 l vl acc vm rows W' := by
  obtain ⟨h1, h2, h3, h4, h5, h6, rl, h7, h8⟩ := h
  have l1 := (Array.getElem?_eq_some_iff.1 h1).1
  have l2 := (Array.getElem?_eq_some_iff.1 h2).1
  refine ⟨box_frm h1 hf (hG _ (Nat.le_refl _) l1), box_frm h2 hf (hG _ (by omega) l2), owns_frm h3 hf (fun k hk => by have := h3.lt k hk; exact hG k (by omega) this.2), ?_, h5, Nat.le_trans h6 hf.size, rl, h7.frm hf (fun i hi => hG i (by omega) (by omega)), h8.frm hf (fun i hi => hG i (by omega) (by omega))⟩
  have := h4.frm hf (fun i hi => hG i (by omega) hi.2.1)
  exact this.mono (fun i hi hF => ⟨hF.1, hi, hF.2.2⟩)
theorem CpM.up (h : CpM k n x s B1 l vl acc vm rows W) (hb : Below W.heap.size W W') : CpM k n x s B1 l vl acc vm rows W' := h.frm (Frm.of_below (F := fun _ => False) hb) (fun _ _ _ e => e)
theorem CpM.sz (h : CpM k n x s B1 l vl acc vm rows W) : s + 2 ≤ W.heap.size ∧ ∀ k, vm.ownBlock = some k → k < W.heap.size :=
  ⟨(Array.getElem?_eq_some_iff.1 h.2.1).1, fun k hk => (h.2.2.1.lt k hk).2⟩
/-- A member more. -/
theorem CpM.add {w4 : World} {g cap B0 : Nat} {nm : List UInt8} {v : JV} {cs : List Value} {ob : Obj} (h : CpM k n x s B1 l vl acc vm rows W) (hB : B1 ≤ B0) (hvb : ∀ k, vm.ownBlock = some k → k < B0) (hv : RdJ W (fun i => B0 ≤ i) v cs)
    (ho : w4.ownsRow B1 55 6 (.slice (some ⟨g, 0, none⟩) (acc.length + 1) cap) (acc.length + 1) (rows.flatten ++ (str nm :: cs))) (hg : (W.alloc ob).grownBy w4 vm.ownBlock) (hl : vm.ownBlock = some g ∨ g = W.heap.size + 1) :
    CpM k n x s B1 l vl (acc ++ [(nm, v)]) (.slice (some ⟨g, 0, none⟩) (acc.length + 1) cap) (rows ++ [str nm :: cs]) (w4.setCell ⟨s + 1, 4, none⟩ (.slice (some ⟨g, 0, none⟩) (acc.length + 1) cap)) ∧ Frm (fun i => s ≤ i) W (w4.setCell ⟨s + 1, 4, none⟩ (.slice (some ⟨g, 0, none⟩) (acc.length + 1) cap)) := by
  have hsz := h.sz
  obtain ⟨h1, h2, h3, h4, h5, h6, rl, h7, h8⟩ := h
  have hgb : ∀ k, vm.ownBlock = some k → B1 ≤ k := fun k hk => (h3.lt k hk).1
  have f1 : Frm (fun i => vm.ownBlock = some i) W w4 := (Frm.of_below (below_alloc W ob)).trans (Frm.of_grown hg (fun k hk => hk)) (fun _ _ h => h)
  have f2 : Frm (fun i => i = s + 1 ∨ vm.ownBlock = some i) W (w4.setCell ⟨s + 1, 4, none⟩ (.slice (some ⟨g, 0, none⟩) (acc.length + 1) cap)) :=
    (f1.mono (fun _ _ h => .inr h)).trans (Frm.set (F := fun i => i = s + 1) _ rfl) (fun _ _ h => .inl h)
  have hgs : B1 ≤ g := by
    rcases hl with h | h
    · exact hgb g h
    · omega
  have hbx : w4.heap[s + 1]? = some (.cells #[.int .i64 k, .int .i64 n, str x, vl, vm] 25 (0, 0)) := box_frm h2 f1 (fun e => by have := hgb _ e; omega)
  have g1 : ∀ i, (i = s + 1 ∨ vm.ownBlock = some i) → s + 1 ≤ i := fun i h => by
    rcases h with h | h
    · omega
    · have := hgb _ h; omega
  have g2 : ∀ i, (s + 1 < i ∧ i < B1) → ¬ (i = s + 1 ∨ vm.ownBlock = some i) := fun i hi h => by
    rcases h with h | h
    · omega
    · have := hgb _ h; omega
  refine ⟨⟨box_frm h1 f2 (fun e => by have := g1 _ e; omega), box_set hbx 4 _, ?_, RdM.snoc ?_ ?_, h5, Nat.le_trans h6 f2.size, rl, h7.frm f2 g2, h8.frm f2 g2⟩, f2.mono (fun i _ hi => by have := g1 _ hi; omega)⟩
  · rw [List.flatten_append, List.length_append]
    simp only [List.flatten_cons, List.flatten_nil, List.append_nil, List.length_singleton]
    exact owns_frm (F := fun i => i = s + 1) ho (Frm.set _ rfl) (fun k hk e => by simp [Value.ownBlock] at hk; omega)
  · refine RdJ.mono (F := fun i => B0 ≤ i ∧ i < W.heap.size) ?_ (fun i hi hF => ⟨by omega, hi, fun e => ?_⟩)
    · exact (hv.mono (G := fun i => B0 ≤ i ∧ i < W.heap.size) (fun i hi hF => ⟨hF, hi⟩)).frm f2 (fun i hi e => by
        rcases e with e | e
        · omega
        · have := hvb i e; omega)
    · simp only [Value.ownBlock, Option.some.injEq] at e
      subst e
      rcases hl with h | h
      · have := hvb _ h; omega
      · omega
  · have := h4.frm f2 (fun i hi e => by
      rcases e with e | e
      · omega
      · exact hi.2.2 e)
    refine this.mono (fun i hi hF => ⟨hF.1, hi, fun e => ?_⟩)
    simp only [Value.ownBlock, Option.some.injEq] at e
    subst e
    rcases hl with h | h
    · exact hF.2.2 h
    · omega
end
theorem cpl_up {k n : Int} {x : List UInt8} {s : Nat} {acc : List JV} {vl : Value} {rows : List (List Value)} {W : World} (h : CpL k n x s acc vl rows W) (ob : Obj) : (W.alloc ob).cell? ⟨s + 1, 3, none⟩ = some vl :=
  box_cell (box_up h.2.1 (below_alloc W ob)) 3
theorem cpl_box {k n : Int} {x : List UInt8} {s : Nat} {acc : List JV} {vl : Value} {rows : List (List Value)} {W w4 : World} {ob : Obj} (h : CpL k n x s acc vl rows W) (hg : (W.alloc ob).grownBy w4 vl.ownBlock) :
    w4.heap[s + 1]? = some (.cells #[.int .i64 k, .int .i64 n, str x, vl, .slice none 0 0] 25 (0, 0)) := by
  have hb := box_up h.2.1 (below_alloc W ob)
  rw [hg.block (s + 1) (Array.getElem?_eq_some_iff.1 hb).1 (fun e => by have := h.2.2.1.lt _ e.symm; omega)]
  exact hb
theorem cpl_cell {k n : Int} {x : List UInt8} {s : Nat} {acc : List JV} {vl : Value} {rows : List (List Value)} {W w4 : World} {ob : Obj} (h : CpL k n x s acc vl rows W) (hg : (W.alloc ob).grownBy w4 vl.ownBlock) : w4.cell? ⟨s + 1, 3, none⟩ = some vl := box_cell (cpl_box h hg) 3
theorem cpl_fr {k n : Int} {x : List UInt8} {s : Nat} {acc : List JV} {vl : Value} {rows : List (List Value)} {W w4 : World} {ob : Obj} (h : CpL k n x s acc vl rows W) (hg : (W.alloc ob).grownBy w4 vl.ownBlock) : w4.frozen? ⟨s + 1, 3, none⟩ = false := box_fr (cpl_box h hg) 3
theorem cpm_up {k n : Int} {x : List UInt8} {s B1 : Nat} {l : List JV} {vl : Value} {acc : List MemT} {vm : Value} {rows : List (List Value)} {W : World} (h : CpM k n x s B1 l vl acc vm rows W) (ob : Obj) : (W.alloc ob).cell? ⟨s + 1, 4, none⟩ = some vm :=
  box_cell (box_up h.2.1 (below_alloc W ob)) 4
theorem cpm_box {k n : Int} {x : List UInt8} {s B1 : Nat} {l : List JV} {vl : Value} {acc : List MemT} {vm : Value} {rows : List (List Value)} {W w4 : World} {ob : Obj} (h : CpM k n x s B1 l vl acc vm rows W) (hg : (W.alloc ob).grownBy w4 vm.ownBlock) :
    w4.heap[s + 1]? = some (.cells #[.int .i64 k, .int .i64 n, str x, vl, vm] 25 (0, 0)) := by
  have hb := box_up h.2.1 (below_alloc W ob)
  rw [hg.block (s + 1) (Array.getElem?_eq_some_iff.1 hb).1 (fun e => by have := h.2.2.1.lt _ e.symm; have := h.2.2.2.2.1; omega)]
  exact hb
theorem cpm_cell {k n : Int} {x : List UInt8} {s B1 : Nat} {l : List JV} {vl : Value} {acc : List MemT} {vm : Value} {rows : List (List Value)} {W w4 : World} {ob : Obj} (h : CpM k n x s B1 l vl acc vm rows W) (hg : (W.alloc ob).grownBy w4 vm.ownBlock) : w4.cell? ⟨s + 1, 4, none⟩ = some vm := box_cell (cpm_box h hg) 4
theorem cpm_fr {k n : Int} {x : List UInt8} {s B1 : Nat} {l : List JV} {vl : Value} {acc : List MemT} {vm : Value} {rows : List (List Value)} {W w4 : World} {ob : Obj} (h : CpM k n x s B1 l vl acc vm rows W) (hg : (W.alloc ob).grownBy w4 vm.ownBlock) : w4.frozen? ⟨s + 1, 4, none⟩ = false := box_fr (cpm_box h hg) 4
/-- What Copy tells. -/
def CopC (v : JV) : Prop := szV v ≤ 1000000000 → ∀ (F : Nat → Prop) (w : World) (cs : List Value), RdJ w F v cs →
  Calls Tryd.prog 26 #[.agg cs.toArray] w fun e w' => ∃ cs', e = .returned (.agg cs'.toArray) ∧ RdJ w' (fun i => w.heap.size ≤ i) v cs' ∧ Below w.heap.size w w'
set_option maxRecDepth 100000 in
set_option maxHeartbeats 8000000 in
theorem copy_step (v : JV) (IHL : ∀ x ∈ v.l, CopC x) (IHM : ∀ x ∈ v.m, CopC x.2) : CopC v := by
  intro hsz F w cs h
  obtain ⟨al, ll, cl, am, lm, cm, rfl, ⟨rl, hrl, hll, rfl⟩, rm, hrm, hmm, rfl⟩ := h.open
  have hZ : v.l.length ≤ 1000000000 ∧ v.m.length ≤ 1000000000 := by
    have := szV_mk v
    have := szL_len v.l
    have := szM_len v.m
    omega
  have HL := Lib.hid (And.intro hrl (And.intro hll (And.intro hrm hmm)))
  have IL : Hid (∀ x ∈ v.l, ∀ (F : Nat → Prop) (w : World) (cs : List Value), RdJ w F x cs → Calls Tryd.prog 26 #[.agg cs.toArray] w fun e w' => ∃ cs', e = .returned (.agg cs'.toArray) ∧ RdJ w' (fun i => w.heap.size ≤ i) x cs' ∧ Below w.heap.size w w') := Lib.hid (fun x hx => IHL x hx (by
    have := szV_mk v
    have := szL_mem hx
    omega))
  have IM : Hid (∀ x ∈ v.m, ∀ (F : Nat → Prop) (w : World) (cs : List Value), RdJ w F x.2 cs → Calls Tryd.prog 26 #[.agg cs.toArray] w fun e w' => ∃ cs', e = .returned (.agg cs'.toArray) ∧ RdJ w' (fun i => w.heap.size ≤ i) x.2 cs' ∧ Below w.heap.size w w') := Lib.hid (fun x hx => IHM x hx (by
    have := szV_mk v
    have := szM_mem hx
    omega))
  obtain ⟨hz1, hz2⟩ := hZ
  clear IHL IHM hrl hll hrm hmm h hsz
  obtain ⟨W0, hW0⟩ : ∃ W0, W0 = ((w.alloc (.cells #[.int .i64 v.kind, .int .i64 v.n, str v.s, .slice al v.l.length cl, .slice am v.m.length cm] 25)).alloc (.cells #[.int .i64 0, .int .i64 0, .string ⟨#[]⟩, .slice none 0 0, .slice none 0 0] 25)).alloc (.cells #[.int .i64 v.kind, .int .i64 v.n, str v.s, .slice none 0 0, .slice none 0 0] 25) := ⟨_, rfl⟩
  have H0 : Hid (Below w.heap.size w W0 ∧ W0.heap[w.heap.size]? = some (.cells #[.int .i64 v.kind, .int .i64 v.n, str v.s, .slice al v.l.length cl, .slice am v.m.length cm] 25 (0, 0)) ∧ CpL v.kind v.n v.s (w.heap.size + 1) [] (.slice none 0 0) [] W0) := Lib.hid (by
    have hb : Below w.heap.size w W0 := by rw [hW0]; exact (((Below.refl _ _).alloc (Nat.le_refl _) _).alloc (by simp) _).alloc (by simp; omega) _
    refine ⟨hb, ?_, ?_, ?_, World.ownsRow_nil _ _ _ _, by unfold RdL; trivial⟩
    · rw [hW0]; exact box_up (box_up (heap_alloc_new w _) (below_alloc _ _)) (below_alloc _ _)
    · rw [hW0]
      have := heap_alloc_new (w.alloc (.cells #[.int .i64 v.kind, .int .i64 v.n, str v.s, .slice al v.l.length cl, .slice am v.m.length cm] 25)) (.cells #[.int .i64 0, .int .i64 0, .string ⟨#[]⟩, .slice none 0 0, .slice none 0 0] 25)
      refine box_up ?_ (below_alloc _ _)
      simpa using this
    · rw [hW0]
      have := heap_alloc_new ((w.alloc (.cells #[.int .i64 v.kind, .int .i64 v.n, str v.s, .slice al v.l.length cl, .slice am v.m.length cm] 25)).alloc (.cells #[.int .i64 0, .int .i64 0, .string ⟨#[]⟩, .slice none 0 0, .slice none 0 0] 25)) (.cells #[.int .i64 v.kind, .int .i64 v.n, str v.s, .slice none 0 0, .slice none 0 0] 25)
      simpa using this)
  obtain ⟨i0, hi, hq0, hq1, hq2⟩ := info_parts infoJ
  go_enter Tryd.func26, Tryd.ntmps26
  go_upto_region 3 with fail
  rw [← hW0]
  clear hW0
  have b3 := box_cell H0.out.2.1 3
  go_wp2_with fail
  clear b3
  go_loopw [14] (fun v14 wr => ∃ k : Nat, k ≤ v.l.length ∧ v14 = .int .i64 (k : Int) ∧ Hid (Below (w.heap.size + 1) W0 wr ∧ ∃ vl rows, CpL v.kind v.n v.s (w.heap.size + 1) (v.l.take k) vl rows wr)) (fun v14 _ => v.l.length - (intOf v14).toNat)
  case atStart => exact ⟨0, Nat.zero_le _, rfl, Lib.hid ⟨Below.refl _ _, _, _, H0.out.2.2⟩⟩
  case round =>
    obtain ⟨k, hk, rfl, HK⟩ := hrel
    obtain ⟨hbw0, vl, rows, hcp⟩ := HK.out
    have HWW : Hid (Below w.heap.size w wr) := Lib.hid (H0.out.1.trans (hbw0.mono (Nat.le_succ _)))
    have HC := Lib.hid hcp
    have HB0 := Lib.hid hbw0
    clear hcp hbw0 HK
    by_cases hlt : k < v.l.length
    · have n1 : (k : Int) < (v.l.length : Int) := by omega
      have n3 : (0 : Int) ≤ (k : Int) := by omega
      obtain ⟨b, off, a, n, c, a', n', c', rfl, _, hbw, hx, c0, c1, c2, c3, c4⟩ := RdJ.part HL.out.1 HL.out.2.1 hlt
      have HM : Hid (v.l[k] ∈ v.l) := Lib.hid (List.getElem_mem hlt)
      obtain ⟨x, hxx⟩ : ∃ x, x = v.l[k] := ⟨_, rfl⟩
      have HTK : Hid (v.l.take (k + 1) = v.l.take k ++ [x]) := Lib.hid (by rw [hxx, List.take_add_one, List.getElem?_eq_getElem hlt]; rfl)
      rw [← hxx] at hx c0 c1 c2 HM
      clear hxx
      have e0 : wr.cell? ⟨b, off + k * 5, none⟩ = some (.int .i64 x.kind) := (HWW.out.cell (p := ⟨b, off + k * 5, none⟩) hbw).trans c0
      have e1 : wr.cell? ⟨b, off + k * 5 + 1, none⟩ = some (.int .i64 x.n) := (HWW.out.cell (p := ⟨b, off + k * 5 + 1, none⟩) hbw).trans c1
      have e2 : wr.cell? ⟨b, off + k * 5 + 2, none⟩ = some (str x.s) := (HWW.out.cell (p := ⟨b, off + k * 5 + 2, none⟩) hbw).trans c2
      have e3 : wr.cell? ⟨b, off + k * 5 + 3, none⟩ = some (.slice a n c) := (HWW.out.cell (p := ⟨b, off + k * 5 + 3, none⟩) hbw).trans c3
      have e4 : wr.cell? ⟨b, off + k * 5 + 4, none⟩ = some (.slice a' n' c') := (HWW.out.cell (p := ⟨b, off + k * 5 + 4, none⟩) hbw).trans c4
      obtain ⟨W1, hW1⟩ : ∃ W1, W1 = wr.alloc (.cells #[.int .i64 x.kind, .int .i64 x.n, str x.s, .slice a n c, .slice a' n' c'] 25) := ⟨_, rfl⟩
      have hb1 : Below wr.heap.size wr W1 := by rw [hW1]; exact below_alloc _ _
      have hbx : W1.heap[wr.heap.size]? = some (.cells #[.int .i64 x.kind, .int .i64 x.n, str x.s, .slice a n c, .slice a' n' c'] 25 (0, 0)) := by rw [hW1]; exact heap_alloc_new wr _
      have HX1 := Lib.hid (And.intro hb1 (hx.up (HWW.out.trans (hb1.mono HWW.out.size))))
      obtain ⟨acc, hacc⟩ : ∃ acc, acc = v.l.take k := ⟨_, rfl⟩
      have hal : acc.length = k := by rw [hacc]; simp; omega
      rw [← hacc] at HC HTK
      clear hacc
      obtain ⟨va, vc, rfl⟩ := own_slice HC.out.2.2.1
      have CV := Lib.hid (IL.out x HM.out F W1.drew _ (HX1.out.2.up (W' := W1.drew) (Below.drewsN (Below.refl _ _) 1)))
      clear hx c0 c1 c2 c3 c4 hbw
      go_upto_region 6 with fail
      rw [← hW1]
      clear hW1 e0 e1 e2 e3 e4
      have HC1 := Lib.hid (HC.out.up hb1)
      have p0 := box_cell hbx 0
      have p1 := box_cell hbx 1
      have p2 := box_cell hbx 2
      have p3 := box_cell hbx 3
      have p4 := box_cell hbx 4
      have d3 := box_cell HC1.out.2.1 3
      clear hb1 hbx
      have HC1d := Lib.hid (HC1.out.up (W' := W1.drew) (Below.drewsN (Below.refl _ _) 1))
      have HCZ := Lib.hid HC.out.sz
      have hal2 : acc.length ≤ 1000000000 := by omega
      clear hal
      go_region_law ((first
        | (refine step_appendL (by rfl) (.tmp 19) (.tmp 22) 22 (by rfl) (size := 5) (bytes := 80) Tryd.underlying22 hi hq0 hq1 hq2 rfl (by decide) (by rfl) (World.ownsRow.alloc HC2.out.2.2.1 _) [.int .i64 x.kind, .int .i64 x.n, str x.s, .slice a2 n2 c2, .slice a2' n2' c2'] (by rfl) (heap_alloc_new _ _) rfl ?_ ?_ ?_ ?_ ?_
           · intro u hu
             simp only [List.mem_cons, List.not_mem_nil, or_false] at hu
             rcases hu with rfl | rfl | rfl | rfl | rfl <;> rfl
           · unfold maxLen; omega
           · omega
           · have := HC2.out.sz.1; simp; omega
           intro g cap w4 ho hg hl
           have HA := Lib.hid (HC2.out.add (v := x) (B0 := W1.heap.size) (by have := HC1.out.sz.1; omega) (fun k hk => HC1.out.sz.2 k hk) HV2.out ho hg (by simpa using hl))
           have hx3 : w4.cell? ⟨w.heap.size + 1 + 1, 3, none⟩ = some (.slice va acc.length vc) := cpl_cell HC2.out hg
           have hxf : w4.frozen? ⟨w.heap.size + 1 + 1, 3, none⟩ = false := cpl_fr HC2.out hg
           clear ho hg hl)
        | (go_simp; go_at_call 26; refine CV.out.mono ?_; rintro e w2 ⟨cs2, rfl, hv2, hb2⟩; obtain ⟨a2, n2, c2, a2', n2', c2', rfl, _, _⟩ := hv2.open; have HC2 := Lib.hid (HC1d.out.up hb2); have HV2 := Lib.hid hv2; have HB2 := Lib.hid hb2; have d32 := box_cell HC2.out.2.1 3; have d33 := cpl_up HC2.out (.cells #[.int .i64 x.kind, .int .i64 x.n, str x.s, .slice a2 n2 c2, .slice a2' n2' c2'] 25); clear hv2 hb2)
        | fail))
      all_goals
        have HA2 := HA.out
        generalize w4.setCell ⟨w.heap.size + 1 + 1, 3, none⟩ (.slice (some ⟨g, 0, none⟩) (acc.length + 1) cap) = w5 at HA2 ⊢
        have H5 : Hid (Below (w.heap.size + 1) W0 w5 ∧ ∃ vl rows, CpL v.kind v.n v.s (w.heap.size + 1) (v.l.take (k + 1)) vl rows w5) := Lib.hid ⟨(((HB0.out.trans (HX1.out.1.mono (by have := HCZ.out.1; omega))).trans (Below.drewsN (Below.refl _ _) 1)).trans (HB2.out.mono (by have := HCZ.out.1; have := HX1.out.1.size; show w.heap.size + 1 ≤ W1.heap.size; omega))).trans (HA2.2.below (by have := HC2.out.sz.1; omega) (fun i h => h)), _, _, by rw [HTK.out]; exact HA2.1⟩
        clear HA2 HA hx3 hxf
        go_wp2_with fail
        go_roundw
        case rel => exact ⟨k + 1, by omega, by go_num, H5⟩
        case measure => simp [intOf]; omega
    · obtain rfl : k = v.l.length := by omega
      have n2 : ¬ (v.l.length : Int) < (v.l.length : Int) := by omega
      rw [List.take_length] at HC
      have bx : wr.heap[w.heap.size]? = some (.cells #[.int .i64 v.kind, .int .i64 v.n, str v.s, .slice al v.l.length cl, .slice am v.m.length cm] 25 (0, 0)) := by
        rw [HB0.out.block _ (Nat.lt_succ_self _)]; exact H0.out.2.1
      have b4 := box_cell bx 4
      have HCM := Lib.hid HC.out.toM
      obtain ⟨B1, hB1⟩ : ∃ B1, B1 = wr.heap.size := ⟨_, rfl⟩
      rw [← hB1] at HCM
      have hB1' := Lib.hid hB1
      clear bx hB1 HC HWW hlt hk
      go_wp2_with fail
      clear b4
      go_loopw [29] (fun v29 wr2 => ∃ k : Nat, k ≤ v.m.length ∧ v29 = .int .i64 (k : Int) ∧ Hid (Below (w.heap.size + 1) W0 wr2 ∧ ∃ vm rows, CpM v.kind v.n v.s (w.heap.size + 1) B1 v.l vl (v.m.take k) vm rows wr2)) (fun v29 _ => v.m.length - (intOf v29).toNat)
      case atStart => exact ⟨0, Nat.zero_le _, rfl, Lib.hid ⟨HB0.out, _, _, HCM.out⟩⟩
      case round =>
        clear HCM HB0
        obtain ⟨k, hk, rfl, HK⟩ := hrel
        obtain ⟨hbw0, vm, rowm, hcp⟩ := HK.out
        rename_i wr1 rowl _ _ wr
        have HWW : Hid (Below w.heap.size w wr) := Lib.hid (H0.out.1.trans (hbw0.mono (Nat.le_succ _)))
        have HC := Lib.hid hcp
        have HB0 := Lib.hid hbw0
        clear hcp hbw0 HK
        by_cases hlt : k < v.m.length
        · have n1 : (k : Int) < (v.m.length : Int) := by omega
          have n3 : (0 : Int) ≤ (k : Int) := by omega
          obtain ⟨b, off, a, n, c, a', n', c', rfl, _, hbw, hx, c0, c1, c2, c3, c4, c5⟩ := RdJ.memb HL.out.2.2.1 HL.out.2.2.2 hlt
          have HM : Hid (v.m[k] ∈ v.m) := Lib.hid (List.getElem_mem hlt)
          have HIM := Lib.hid (IM.out _ HM.out)
          obtain ⟨x, hxx⟩ : ∃ x, x = v.m[k].2 := ⟨_, rfl⟩
          obtain ⟨nm, hnm⟩ : ∃ nm, nm = v.m[k].1 := ⟨_, rfl⟩
          have HTK : Hid (v.m.take (k + 1) = v.m.take k ++ [(nm, x)]) := Lib.hid (by rw [hxx, hnm, List.take_add_one, List.getElem?_eq_getElem hlt]; rfl)
          rw [← hxx] at hx c1 c2 c3 HIM
          rw [← hnm] at c0
          clear hxx hnm HM
          have e0 : wr.cell? ⟨b, off + k * 6, none⟩ = some (str nm) := (HWW.out.cell (p := ⟨b, off + k * 6, none⟩) hbw).trans c0
          have e1 : wr.cell? ⟨b, off + k * 6 + 1, none⟩ = some (.int .i64 x.kind) := (HWW.out.cell (p := ⟨b, off + k * 6 + 1, none⟩) hbw).trans c1
          have e2 : wr.cell? ⟨b, off + k * 6 + 2, none⟩ = some (.int .i64 x.n) := (HWW.out.cell (p := ⟨b, off + k * 6 + 2, none⟩) hbw).trans c2
          have e3 : wr.cell? ⟨b, off + k * 6 + 3, none⟩ = some (str x.s) := (HWW.out.cell (p := ⟨b, off + k * 6 + 3, none⟩) hbw).trans c3
          have e4 : wr.cell? ⟨b, off + k * 6 + 4, none⟩ = some (.slice a n c) := (HWW.out.cell (p := ⟨b, off + k * 6 + 4, none⟩) hbw).trans c4
          have e5 : wr.cell? ⟨b, off + k * 6 + 5, none⟩ = some (.slice a' n' c') := (HWW.out.cell (p := ⟨b, off + k * 6 + 5, none⟩) hbw).trans c5
          obtain ⟨W1, hW1⟩ : ∃ W1, W1 = wr.alloc (.cells #[str nm, .int .i64 x.kind, .int .i64 x.n, str x.s, .slice a n c, .slice a' n' c'] 55) := ⟨_, rfl⟩
          have hb1 : Below wr.heap.size wr W1 := by rw [hW1]; exact below_alloc _ _
          have hbx : W1.heap[wr.heap.size]? = some (.cells #[str nm, .int .i64 x.kind, .int .i64 x.n, str x.s, .slice a n c, .slice a' n' c'] 55 (0, 0)) := by rw [hW1]; exact heap_alloc_new wr _
          have HX1 := Lib.hid (And.intro hb1 (hx.up (HWW.out.trans (hb1.mono HWW.out.size))))
          obtain ⟨acc, hacc⟩ : ∃ acc, acc = v.m.take k := ⟨_, rfl⟩
          have hal : acc.length = k := by rw [hacc]; simp; omega
          rw [← hacc] at HC HTK
          clear hacc
          obtain ⟨va, vc, rfl⟩ := own_slice HC.out.2.2.1
          have CV := Lib.hid (HIM.out F W1.drew _ (HX1.out.2.up (W' := W1.drew) (Below.drewsN (Below.refl _ _) 1)))
          clear hx c0 c1 c2 c3 c4 c5 hbw HIM
          go_upto_region 11 with fail
          rw [← hW1]
          clear hW1 e0 e1 e2 e3 e4 e5
          have HC1 := Lib.hid (HC.out.up hb1)
          have p0 := box_cell hbx 0
          have p1 := box_cell hbx 1
          have p2 := box_cell hbx 2
          have p3 := box_cell hbx 3
          have p4 := box_cell hbx 4
          have p5 := box_cell hbx 5
          have d3 := box_cell HC1.out.2.1 4
          have HBX := Lib.hid hbx
          clear hb1 hbx
          have HC1d := Lib.hid (HC1.out.up (W' := W1.drew) (Below.drewsN (Below.refl _ _) 1))
          have HCZ := Lib.hid HC.out.sz
          have hal2 : acc.length ≤ 1000000000 := by omega
          obtain ⟨j0, hj, hr0, hr1, hr2⟩ := info_parts infoM
          clear hal
          go_region_law ((first
            | (refine step_appendL (by rfl) (.tmp 34) (.tmp 41) 23 (by rfl) (size := 6) (bytes := 96) Tryd.underlying23 hj hr0 hr1 hr2 rfl (by decide) (by rfl) (World.ownsRow.alloc HC2.out.2.2.1 _) [str nm, .int .i64 x.kind, .int .i64 x.n, str x.s, .slice a2 n2 c2, .slice a2' n2' c2'] (by rfl) (heap_alloc_new _ _) rfl ?_ ?_ ?_ ?_ ?_
               · intro u hu
                 simp only [List.mem_cons, List.not_mem_nil, or_false] at hu
                 rcases hu with rfl | rfl | rfl | rfl | rfl | rfl <;> rfl
               · unfold maxLen; omega
               · omega
               · have := HC2.out.2.2.2.2.2.1; simp; omega
               intro g cap w4 ho hg hl
               have HA := Lib.hid (HC2.out.add (nm := nm) (v := x) (B0 := W1.heap.size) (by have := HC1.out.2.2.2.2.2.1; omega) (fun k hk => HC1.out.sz.2 k hk) HV2.out ho hg (by simpa using hl))
               have hx3 : w4.cell? ⟨w.heap.size + 1 + 1, 4, none⟩ = some (.slice va acc.length vc) := cpm_cell HC2.out hg
               have hxf : w4.frozen? ⟨w.heap.size + 1 + 1, 4, none⟩ = false := cpm_fr HC2.out hg
               clear ho hg hl)
            | (go_simp; go_at_call 26; refine CV.out.mono ?_; rintro e w2 ⟨cs2, rfl, hv2, hb2⟩; obtain ⟨a2, n2, c2, a2', n2', c2', rfl, _, _⟩ := hv2.open; have HC2 := Lib.hid (HC1d.out.up hb2); have HV2 := Lib.hid hv2; have HB2 := Lib.hid hb2; have d32 := box_cell HC2.out.2.1 4; have d35 := box_cell (box_up HBX.out ((Below.drewsN (Below.refl _ _) 1).trans hb2)) 0; have d33 := cpm_up HC2.out (.cells #[str nm, .int .i64 x.kind, .int .i64 x.n, str x.s, .slice a2 n2 c2, .slice a2' n2' c2'] 55); clear hv2 hb2)
            | fail))
          all_goals
            have HA2 := HA.out
            generalize w4.setCell ⟨w.heap.size + 1 + 1, 4, none⟩ (.slice (some ⟨g, 0, none⟩) (acc.length + 1) cap) = w5 at HA2 ⊢
            have H5 : Hid (Below (w.heap.size + 1) W0 w5 ∧ ∃ vm rows, CpM v.kind v.n v.s (w.heap.size + 1) B1 v.l vl (v.m.take (k + 1)) vm rows w5) := Lib.hid ⟨(((HB0.out.trans (HX1.out.1.mono (by have := HCZ.out.1; omega))).trans (Below.drewsN (Below.refl _ _) 1)).trans (HB2.out.mono (by have := HCZ.out.1; have := HX1.out.1.size; show w.heap.size + 1 ≤ W1.heap.size; omega))).trans (HA2.2.below (by have := HC2.out.sz.1; omega) (fun i h => h)), _, _, by rw [HTK.out]; exact HA2.1⟩
            clear HA2 HA hx3 hxf
            go_wp2_with fail
            go_roundw
            case rel => exact ⟨k + 1, by omega, by go_num, H5⟩
            case measure => simp [intOf]; omega
        · obtain rfl : k = v.m.length := by omega
          have n2 : ¬ (v.m.length : Int) < (v.m.length : Int) := by omega
          rw [List.take_length] at HC
          obtain ⟨va, vc, rfl⟩ := own_slice HC.out.2.2.1
          have HCC := HC.out
          obtain ⟨h1, h2, h3, h4, h5, h6, rl2, h7, h8⟩ := HCC
          obtain ⟨vb, vd, rfl, _, _⟩ := h7.form
          have HZ2 := Lib.hid (RdL.rows h8).1
          have b0 := box_cell h2 0
          have b1 := box_cell h2 1
          have b2 := box_cell h2 2
          have b3 := box_cell h2 3
          have b4 := box_cell h2 4
          have d0 := box_cell h1 0
          have d1 := box_cell h1 1
          have d2 := box_cell h1 2
          have d3 := box_cell h1 3
          have d4 := box_cell h1 4
          have df := box_fr h1
          have HP := Lib.hid (And.intro h1 (And.intro h2 (And.intro h3 (And.intro h4 (And.intro h5 (And.intro h6 (And.intro h7 h8)))))))
          clear h1 h2 h3 h4 h5 h6 h7 h8
          go_wp2_with fail
          refine bodyPost_any_world (fun X => X.heap[w.heap.size + 1]? = some (.cells #[.int .i64 v.kind, .int .i64 v.n, str v.s, .slice vb rl2.length vd, .slice va v.m.length vc] 25 (0, 0)) ∧ Frm (fun i => i = w.heap.size + 1) wr X) (five_set HP.out.1 _ _ _ _ _) ?_
          clear b0 b1 b2 b3 b4 d0 d1 d2 d3 d4 df
          rintro w9 ⟨h9, hf9⟩
          have k0 := box_cell h9 0
          have k1 := box_cell h9 1
          have k2 := box_cell h9 2
          have k3 := box_cell h9 3
          have k4 := box_cell h9 4
          refine bodyPost_ret (v := .agg #[.int .i64 v.kind, .int .i64 v.n, str v.s, .slice vb rl2.length vd, .slice va v.m.length vc]) (by simp [results, Tryd.results26, go_sem, k0, k1, k2, k3, k4]) rfl ?_
          obtain ⟨h1, h2, h3, h4, h5, h6, h7, h8⟩ := HP.out
          obtain ⟨r1, r2⟩ := RdM.rows h4
          refine ⟨[.int .i64 v.kind, .int .i64 v.n, str v.s, .slice vb rl2.length vd, .slice va v.m.length vc], rfl, ?_, ?_⟩
          · refine RdJ.mk' (rl := rl2) (rm := rowm) ((h7.frm hf9 (fun i hi e => by omega)).mono (fun i _ hi => by omega) (fun r hr => by have := (RdL.rows h8).2 r hr; omega)) ((h8.frm hf9 (fun i hi e => by omega)).mono (fun i _ hi => by omega)) ?_ ((h4.frm hf9 (fun i hi e => by omega)).mono (fun i _ hi => by omega))
            have h3' := owns_frm h3 hf9 (fun k hk e => by have := h3.lt k hk; omega)
            rw [← r1] at h3' ⊢
            exact RdFB.of_row r2 h3' (fun k hk => by have := h3.lt k (by rw [← r1]; exact hk); omega)
          · exact HWW.out.trans (hf9.below HWW.out.size (fun k hk => by omega))
theorem copy_any (v : JV) : CopC v := JV.ind copy_step v
end Go.Proofs.YtidlhajibjnkeaaDoor
namespace Go.Proofs.YtidlhajibjnkeaaDoor
open Go.RowKit

def fndM : List MemT → List UInt8 → Option JV
  | [], _ => none
  | (a, v) :: t, nm => if (a == nm) = true then some v else fndM t nm
/-- The first member of a name. -/
def getJ (v : JV) (nm : List UInt8) : Option JV := if v.kind = 7 then fndM v.m nm else none
/-- What Get tells. -/
def GetP (w : World) (r : Option JV) (e : Ending) (w' : World) : Prop :=
  match r with
  | none => e = .returned (.tuple #[.agg #[.int .i64 0, .int .i64 0, str [], .slice none 0 0, .slice none 0 0], .bool false]) ∧ Below w.heap.size w w'
  | some x => ∃ cs', e = .returned (.tuple #[.agg cs'.toArray, .bool true]) ∧ RdJ w' (fun i => w.heap.size ≤ i) x cs' ∧ Below w.heap.size w w'
theorem fndM_at {m : List MemT} {k : Nat} {nm : List UInt8} (h : k < m.length) : fndM (m.drop k) nm = if (m[k].1 == nm) = true then some m[k].2 else fndM (m.drop (k + 1)) nm := by
  rw [List.drop_eq_getElem_cons h]
  obtain ⟨a, b⟩ := m[k]
  rfl
set_option maxRecDepth 100000 in
set_option maxHeartbeats 8000000 in
theorem get_any (v : JV) (nm : List UInt8) (hsz : szV v ≤ 1000000000) (F : Nat → Prop) (w : World) (cs : List Value) (h : RdJ w F v cs) : Calls Tryd.prog 15 #[.agg cs.toArray, str nm] w (GetP w (getJ v nm)) := by
  obtain ⟨al, ll, cl, am, lm, cm, rfl, _, ⟨rm, hrm, hmm, rfl⟩⟩ := h.open
  have hZ : v.m.length ≤ 1000000000 := by
    have := szV_mk v
    have := szM_len v.m
    omega
  have HL := Lib.hid (And.intro hrm hmm)
  have HS : Hid (∀ x ∈ v.m, szV x.2 ≤ 1000000000) := Lib.hid (fun x hx => by
    have := szV_mk v
    have := szM_mem hx
    omega)
  obtain ⟨W0, hW0⟩ : ∃ W0, W0 = (w.alloc (.cells #[.int .i64 v.kind, .int .i64 v.n, str v.s, .slice al ll cl, .slice am v.m.length cm] 25)).alloc (.cells #[.int .i64 0, .int .i64 0, .string ⟨#[]⟩, .slice none 0 0, .slice none 0 0] 25) := ⟨_, rfl⟩
  have H0 : Hid (Below w.heap.size w W0 ∧ W0.heap[w.heap.size]? = some (.cells #[.int .i64 v.kind, .int .i64 v.n, str v.s, .slice al ll cl, .slice am v.m.length cm] 25 (0, 0)) ∧ W0.heap[w.heap.size + 1]? = some (.cells #[.int .i64 0, .int .i64 0, str [], .slice none 0 0, .slice none 0 0] 25 (0, 0)) ∧ w.heap.size + 2 ≤ W0.heap.size) := Lib.hid (by
    have hb : Below w.heap.size w W0 := by rw [hW0]; exact ((Below.refl _ _).alloc (Nat.le_refl _) _).alloc (by simp) _
    refine ⟨hb, ?_, ?_, by rw [hW0]; simp⟩
    · rw [hW0]; exact box_up (heap_alloc_new w _) (below_alloc _ _)
    · rw [hW0]
      have := heap_alloc_new (w.alloc (.cells #[.int .i64 v.kind, .int .i64 v.n, str v.s, .slice al ll cl, .slice am v.m.length cm] 25)) (.cells #[.int .i64 0, .int .i64 0, .string ⟨#[]⟩, .slice none 0 0, .slice none 0 0] 25)
      simpa using this)
  unfold getJ
  clear h hrm hmm hsz
  by_cases h7 : v.kind = 7
  · rw [if_pos h7]
    have t1 : (v.kind != 7) = false := by rw [h7]; rfl
    obtain ⟨R, hR⟩ : ∃ R, R = fndM v.m nm := ⟨_, rfl⟩
    rw [← hR]
    have HR := Lib.hid hR
    clear h7 hR
    go_enter Tryd.func15, Tryd.ntmps15
    go_upto_region 1 with fail
    rw [← hW0]
    clear hW0
    have q0 := box_cell H0.out.2.1 0
    have q4 := box_cell H0.out.2.1 4
    go_wp2_with fail
    clear q0 q4
    go_loopw [15] (fun v15 wr => ∃ k : Nat, k ≤ v.m.length ∧ v15 = .int .i64 (k : Int) ∧ Hid (R = fndM (v.m.drop k) nm) ∧ Hid (Below (w.heap.size + 2) W0 wr)) (fun v15 _ => v.m.length - (intOf v15).toNat)
    case atStart => exact ⟨0, Nat.zero_le _, rfl, Lib.hid (by rw [List.drop_zero]; exact HR.out), Lib.hid (Below.refl _ _)⟩
    case round =>
      obtain ⟨k, hk, rfl, HK, HB0⟩ := hrel
      have HWW : Hid (Below w.heap.size w wr) := Lib.hid (H0.out.1.trans (HB0.out.mono (by omega)))
      have HZR : Hid (wr.heap[w.heap.size + 1]? = some (.cells #[.int .i64 0, .int .i64 0, str [], .slice none 0 0, .slice none 0 0] 25 (0, 0)) ∧ w.heap.size + 2 ≤ wr.heap.size) := Lib.hid ⟨by
        rw [HB0.out.block _ (by omega)]; exact H0.out.2.2.1, Nat.le_trans H0.out.2.2.2 HB0.out.size⟩
      by_cases hlt : k < v.m.length
      · have n1 : (k : Int) < (v.m.length : Int) := by omega
        have n3 : (0 : Int) ≤ (k : Int) := by omega
        obtain ⟨b, off, a, n, c, a', n', c', rfl, _, hbw, hx, c0, c1, c2, c3, c4, c5⟩ := RdJ.memb HL.out.1 HL.out.2 hlt
        have HSX := Lib.hid (HS.out _ (List.getElem_mem hlt))
        have hst := HK.out
        rw [fndM_at hlt] at hst
        obtain ⟨x, hxx⟩ : ∃ x, x = v.m[k].2 := ⟨_, rfl⟩
        obtain ⟨nk, hnm⟩ : ∃ nk, nk = v.m[k].1 := ⟨_, rfl⟩
        rw [← hxx] at hx c1 c2 c3 HSX hst
        rw [← hnm] at c0 hst
        clear hxx hnm
        have e0 : wr.cell? ⟨b, off + k * 6, none⟩ = some (str nk) := (HWW.out.cell (p := ⟨b, off + k * 6, none⟩) hbw).trans c0
        have e1 : wr.cell? ⟨b, off + k * 6 + 1, none⟩ = some (.int .i64 x.kind) := (HWW.out.cell (p := ⟨b, off + k * 6 + 1, none⟩) hbw).trans c1
        have e2 : wr.cell? ⟨b, off + k * 6 + 2, none⟩ = some (.int .i64 x.n) := (HWW.out.cell (p := ⟨b, off + k * 6 + 2, none⟩) hbw).trans c2
        have e3 : wr.cell? ⟨b, off + k * 6 + 3, none⟩ = some (str x.s) := (HWW.out.cell (p := ⟨b, off + k * 6 + 3, none⟩) hbw).trans c3
        have e4 : wr.cell? ⟨b, off + k * 6 + 4, none⟩ = some (.slice a n c) := (HWW.out.cell (p := ⟨b, off + k * 6 + 4, none⟩) hbw).trans c4
        have e5 : wr.cell? ⟨b, off + k * 6 + 5, none⟩ = some (.slice a' n' c') := (HWW.out.cell (p := ⟨b, off + k * 6 + 5, none⟩) hbw).trans c5
        obtain ⟨W1, hW1⟩ : ∃ W1, W1 = wr.alloc (.cells #[str nk, .int .i64 x.kind, .int .i64 x.n, str x.s, .slice a n c, .slice a' n' c'] 55) := ⟨_, rfl⟩
        have hb1 : Below wr.heap.size wr W1 := by rw [hW1]; exact below_alloc _ _
        have hbx : W1.heap[wr.heap.size]? = some (.cells #[str nk, .int .i64 x.kind, .int .i64 x.n, str x.s, .slice a n c, .slice a' n' c'] 55 (0, 0)) := by rw [hW1]; exact heap_alloc_new wr _
        have HX1 := Lib.hid (And.intro hb1 (And.intro hbx (hx.up (HWW.out.trans (hb1.mono HWW.out.size)))))
        clear hx c0 c1 c2 c3 c4 c5 hbw HK
        go_upto_region 6 with fail
        rw [← hW1]
        clear hW1 e0 e1 e2 e3 e4 e5 hb1 hbx
        have p0 := box_cell HX1.out.2.1 0
        cases hB : (nk == nm) with
        | true =>
          rw [hB, if_pos rfl] at hst
          have HE := Lib.hid hst
          have CV := Lib.hid (copy_any x HSX.out F W1 _ HX1.out.2.2)
          have p1 := box_cell HX1.out.2.1 1
          have p2 := box_cell HX1.out.2.1 2
          have p3 := box_cell HX1.out.2.1 3
          have p4 := box_cell HX1.out.2.1 4
          have p5 := box_cell HX1.out.2.1 5
          clear hst
          go_wp2_with fail
          refine CV.out.mono ?_
          rintro e w2 ⟨cs2, rfl, hv2, hb2⟩
          obtain ⟨a2, n2, c2, a3, m3, c3, rfl, _, _⟩ := hv2.open
          have hz2 : w2.heap[w.heap.size + 1]? = some (.cells #[.int .i64 0, .int .i64 0, str [], .slice none 0 0, .slice none 0 0] 25 (0, 0)) := box_up (box_up HZR.out.1 HX1.out.1) hb2
          have d0 := box_cell hz2 0
          have d1 := box_cell hz2 1
          have d2 := box_cell hz2 2
          have d3 := box_cell hz2 3
          have d4 := box_cell hz2 4
          have df := box_fr hz2
          have HV2 := Lib.hid (And.intro hv2 (And.intro hb2 hz2))
          clear hv2 hb2 hz2 CV p0 p1 p2 p3 p4 p5
          go_wp2_with fail
          refine bodyPost_any_world (fun X => X.heap[w.heap.size + 1]? = some (.cells #[.int .i64 x.kind, .int .i64 x.n, str x.s, .slice a2 n2 c2, .slice a3 m3 c3] 25 (0, 0)) ∧ Frm (fun i => i = w.heap.size + 1) w2 X) (five_set HV2.out.2.2 _ _ _ _ _) ?_
          clear d0 d1 d2 d3 d4 df
          rintro w9 ⟨h9, hf9⟩
          have k0 := box_cell h9 0
          have k1 := box_cell h9 1
          have k2 := box_cell h9 2
          have k3 := box_cell h9 3
          have k4 := box_cell h9 4
          refine bodyPost_ret (v := .tuple #[.agg #[.int .i64 x.kind, .int .i64 x.n, str x.s, .slice a2 n2 c2, .slice a3 m3 c3], .bool true]) (by simp [results, Tryd.results15, go_sem, k0, k1, k2, k3, k4]) rfl ?_
          rw [HE.out]
          have hs1 : wr.heap.size ≤ W1.heap.size := HX1.out.1.size
          refine ⟨_, rfl, (HV2.out.1.frm hf9 (fun i hi e => by have := HZR.out.2; omega)).mono (fun i _ hi => by have := HZR.out.2; omega), ?_⟩
          exact (HWW.out.trans (HX1.out.1.mono HWW.out.size)).trans ((HV2.out.2.1.mono (by have := HWW.out.size; omega)).trans (hf9.below (by have := HWW.out.size; have := HV2.out.2.1.size; omega) (fun k hk => by omega)))
        | false =>
          rw [hB, if_neg (by simp)] at hst
          have HE := Lib.hid hst
          have HB5 : Hid (Below (w.heap.size + 2) W0 W1) := Lib.hid (HB0.out.trans (HX1.out.1.mono HZR.out.2))
          clear hst
          go_wp2_with fail
          go_roundw
          case rel => exact ⟨k + 1, by omega, by go_num, HE, HB5⟩
          case measure => simp [intOf]; omega
      · obtain rfl : k = v.m.length := by omega
        have n2 : ¬ (v.m.length : Int) < (v.m.length : Int) := by omega
        have HE : Hid (R = none) := Lib.hid (by rw [HK.out, List.drop_length]; rfl)
        have d0 := box_cell HZR.out.1 0
        have d1 := box_cell HZR.out.1 1
        have d2 := box_cell HZR.out.1 2
        have d3 := box_cell HZR.out.1 3
        have d4 := box_cell HZR.out.1 4
        have df := box_fr HZR.out.1
        clear HK
        go_wp2_with fail
        refine bodyPost_any_world (fun X => X.heap[w.heap.size + 1]? = some (.cells #[.int .i64 0, .int .i64 0, str [], .slice none 0 0, .slice none 0 0] 25 (0, 0)) ∧ Frm (fun i => i = w.heap.size + 1) wr X) (five_set HZR.out.1 _ _ _ _ _) ?_
        clear d0 d1 d2 d3 d4 df
        rintro w9 ⟨h9, hf9⟩
        have k0 := box_cell h9 0
        have k1 := box_cell h9 1
        have k2 := box_cell h9 2
        have k3 := box_cell h9 3
        have k4 := box_cell h9 4
        refine bodyPost_ret (v := .tuple #[.agg #[.int .i64 0, .int .i64 0, str [], .slice none 0 0, .slice none 0 0], .bool false]) (by simp [results, Tryd.results15, go_sem, k0, k1, k2, k3, k4]) rfl ?_
        rw [HE.out]
        exact ⟨rfl, HWW.out.trans (hf9.below HWW.out.size (fun k hk => by omega))⟩
  · rw [if_neg h7]
    have t1 : (v.kind != 7) = true := by rw [bne_iff_ne]; exact h7
    clear h7
    go_enter Tryd.func15, Tryd.ntmps15
    go_upto_region 1 with fail
    rw [← hW0]
    clear hW0
    have q0 := box_cell H0.out.2.1 0
    have d0 := box_cell H0.out.2.2.1 0
    have d1 := box_cell H0.out.2.2.1 1
    have d2 := box_cell H0.out.2.2.1 2
    have d3 := box_cell H0.out.2.2.1 3
    have d4 := box_cell H0.out.2.2.1 4
    have df := box_fr H0.out.2.2.1
    go_wp2_with fail
    refine bodyPost_any_world (fun X => X.heap[w.heap.size + 1]? = some (.cells #[.int .i64 0, .int .i64 0, str [], .slice none 0 0, .slice none 0 0] 25 (0, 0)) ∧ Frm (fun i => i = w.heap.size + 1) W0 X) (five_set H0.out.2.2.1 _ _ _ _ _) ?_
    clear d0 d1 d2 d3 d4 df
    rintro w9 ⟨h9, hf9⟩
    have k0 := box_cell h9 0
    have k1 := box_cell h9 1
    have k2 := box_cell h9 2
    have k3 := box_cell h9 3
    have k4 := box_cell h9 4
    refine bodyPost_ret (v := .tuple #[.agg #[.int .i64 0, .int .i64 0, str [], .slice none 0 0, .slice none 0 0], .bool false]) (by simp [results, Tryd.results15, go_sem, k0, k1, k2, k3, k4]) rfl ?_
    exact ⟨rfl, H0.out.1.trans (hf9.below H0.out.1.size (fun k hk => by omega))⟩
end Go.Proofs.YtidlhajibjnkeaaDoor
namespace Go.Proofs.YtidlhajibjnkeaaDoor
open Go.RowKit

theorem stB_dig {c : UInt8} (h : c = 45 ∨ dgJ c = true) : stB c = true := by
  have key : ∀ n : Fin 256, (UInt8.ofNat n.val = 45 ∨ dgJ (UInt8.ofNat n.val) = true) → stB (UInt8.ofNat n.val) = true := by decide +kernel
  have := key ⟨c.toNat, c.toNat_lt⟩
  simp only [UInt8.ofNat_toNat] at this
  exact this h
theorem prV_st {v : JV} {d : Nat} (h : mayV v d = true) : ∃ c r, prV v = c :: r ∧ isBl c = false ∧ stB c = true := by
  obtain ⟨k, n, s, l, m⟩ := v
  simp only [mayV, Bool.and_eq_true, decide_eq_true_eq] at h
  have hk : k = 1 ∨ k = 2 ∨ k = 3 ∨ k = 4 ∨ k = 5 ∨ k = 6 ∨ k = 7 := by omega
  rcases hk with rfl | rfl | rfl | rfl | rfl | rfl | rfl
  · exact ⟨_, _, rfl, by decide, by decide⟩
  · exact ⟨_, _, rfl, by decide, by decide⟩
  · exact ⟨_, _, rfl, by decide, by decide⟩
  · obtain ⟨c, r, e, hc, hb⟩ := itoa_head n
    exact ⟨c, r, e, hb, stB_dig hc⟩
  · exact ⟨_, _, rfl, by decide, by decide⟩
  · exact ⟨_, _, rfl, by decide, by decide⟩
  · exact ⟨_, _, rfl, by decide, by decide⟩
theorem lst_deep {l : List JV} {D : Nat} {f : Nat → JR JV} {pre rest T : List UInt8} (hT : T = pre ++ (91 :: ((prT l).drop 1 ++ [93]) ++ rest)) (h : mayL l D = true) (hne : l ≠ [])
    (hi : ∀ n, l.length ≤ n → itsP f T n (pre.length + 1) [] = .err 10) : lstP f T pre.length = .err 10 := by
  unfold lstP
  cases l with
  | nil => exact absurd rfl hne
  | cons v t =>
    simp only [mayL, Bool.and_eq_true] at h
    obtain ⟨c, r, e, hb, h1, h2⟩ := prV_head h.1
    have hat : T[pre.length + 1]? = some c := by
      rw [hT, prT, List.drop_succ_cons, List.drop_zero, e]
      exact at_pre1
    rw [entP_no hat hb h1]
    dsimp only
    have hlen : (v :: t).length ≤ T.length + 1 := by
      have : ∀ l : List JV, l.length ≤ (prT l).length := by
        intro l
        induction l with
        | nil => simp
        | cons a b ih => rw [prT]; simp; omega
      have := this (v :: t)
      rw [hT]
      simp only [List.length_append, List.length_cons, List.length_drop] at this ⊢
      omega
    rw [hi _ hlen]
theorem obj_deep {l : List MemT} {f : Nat → JR JV} {pre rest T : List UInt8} (hT : T = pre ++ (123 :: ((prU l).drop 1 ++ [125]) ++ rest)) (hne : l ≠ [])
    (hi : ∀ n, l.length ≤ n → mesP f T n (pre.length + 1) [] = .err 10) : objP f T pre.length = .err 10 := by
  unfold objP
  cases l with
  | nil => exact absurd rfl hne
  | cons v t =>
    obtain ⟨nm, v⟩ := v
    have hat : T[pre.length + 1]? = some 34 := by
      rw [hT, prU, List.drop_succ_cons, List.drop_zero]
      exact at_pre1
    rw [entP_no hat (by decide) (by decide)]
    dsimp only
    have hlen : ((nm, v) :: t).length ≤ T.length + 1 := by
      have : ∀ l : List MemT, l.length ≤ (prU l).length := by
        intro l
        induction l with
        | nil => simp
        | cons a b ih => obtain ⟨a1, a2⟩ := a; rw [prU]; simp; omega
      have := this ((nm, v) :: t)
      rw [hT]
      simp only [List.length_append, List.length_cons, List.length_drop] at this ⊢
      omega
    rw [hi _ hlen]
theorem memP_deep {f : Nat → JR JV} {ns : List (List UInt8)} {nm pre rest T : List UInt8} {z : Nat} (hT : T = pre ++ (quo nm ++ 58 :: rest)) (hx : txF nm = true) (hn : nm ∉ ns) (hf : f (pre.length + (quo nm).length + 1) = .err z) :
    memP f T ns pre.length = .err z := by
  have hat : T[pre.length]? = some 34 := by rw [hT]; exact at_pre pre 34 _
  have hs := skp_no hat (by decide)
  have hat2 : T[pre.length + (quo nm).length]? = some 58 := by
    have := at_pre (pre ++ quo nm) 58 rest
    rw [List.length_append, List.append_assoc] at this
    rw [hT]; exact this
  have hs2 := skp_no hat2 (by decide)
  have hlt := (List.getElem?_eq_some_iff.1 hat).1
  have ht := txtP_pr pre nm (58 :: rest) hx
  rw [← hT] at ht
  unfold memP
  rw [hs, if_neg (by omega), ht]
  dsimp only
  rw [if_neg hn, hs2, hat2]
  dsimp only
  rw [if_neg (by simp), hf]
mutual
/-- What is printed, and too deep. -/
theorem rd_deep : ∀ (v : JV) (D d : Nat) (pre rest T : List UInt8), T = pre ++ (prV v ++ rest) → mayV v D = true → mayV v d = false → valP T d pre.length = .err 10
  | v, D, 0, pre, rest, T, hT, hD, _ => by
    obtain ⟨c, r, e, hb, hs⟩ := prV_st hD
    have hat : T[pre.length]? = some c := by rw [hT, e]; exact at_pre pre _ _
    rw [valP, skp_no hat hb, hat]
    dsimp only
    rw [if_pos hs]
  | .mk k n s l m, D, e + 1, pre, rest, T, hT, h, hd => by
    simp only [mayV, fitV, Bool.and_eq_true, Bool.or_eq_true, decide_eq_true_eq] at h
    obtain ⟨⟨⟨⟨⟨hD, hk1⟩, hk7⟩, ⟨⟨⟨⟨⟨⟨hn, hn1⟩, hn2⟩, hS⟩, ht⟩, hl⟩, hm⟩⟩, hL⟩, hM⟩ := h
    have hd2 : (mayL l e && mayM m none e) = false := by
      cases hx : (mayL l e && mayM m none e) with
      | false => rfl
      | true =>
        exfalso
        simp only [Bool.and_eq_true] at hx
        have : mayV (.mk k n s l m) (e + 1) = true := by
          simp only [mayV, fitV, Bool.and_eq_true, Bool.or_eq_true, decide_eq_true_eq, Nat.add_sub_cancel]
          exact ⟨⟨⟨⟨⟨by omega, hk1⟩, hk7⟩, ⟨⟨⟨⟨⟨⟨hn, hn1⟩, hn2⟩, hS⟩, ht⟩, hl⟩, hm⟩⟩, hx.1⟩, hx.2⟩
        rw [this] at hd; cases hd
    clear hd
    by_cases h6 : k = 6
    · subst h6
      obtain rfl : n = 0 := by simpa using hn
      obtain rfl : s = [] := by simpa using hS
      obtain rfl : m = [] := by simpa using hm
      simp only [mayM, Bool.and_true] at hd2
      have hne : l ≠ [] := by rintro rfl; simp [mayL] at hd2
      have e1 : prV (.mk 6 0 [] l []) = 91 :: ((prT l).drop 1 ++ [93]) := rfl
      rw [e1] at hT
      have hat : T[pre.length]? = some 91 := by rw [hT]; exact at_pre pre 91 _
      rw [valP_at hat (by decide)]
      simp only [casP]
      rw [if_pos trivial, lst_deep hT hL hne (fun n hn => ?_)]
      · rfl
      · have := its_deep l (D - 1) e (pre ++ [91]) rest T [] n (by rw [hT]; simp) hL hd2 hn
        simpa using this
    · obtain rfl : l = [] := by simpa [h6] using hl
      simp only [mayL, Bool.true_and] at hd2
      by_cases h7 : k = 7
      · subst h7
        obtain rfl : n = 0 := by simpa using hn
        obtain rfl : s = [] := by simpa using hS
        have hne : m ≠ [] := by rintro rfl; simp [mayM] at hd2
        have e1 : prV (.mk 7 0 [] [] m) = 123 :: ((prU m).drop 1 ++ [125]) := rfl
        rw [e1] at hT
        have hat : T[pre.length]? = some 123 := by rw [hT]; exact at_pre pre 123 _
        rw [valP_at hat (by decide)]
        simp only [casP]
        rw [if_neg (by decide), if_pos trivial, obj_deep hT hne (fun n hn => ?_)]
        · rfl
        · have := mes_deep m none (D - 1) e (pre ++ [123]) rest T [] n (by rw [hT]; simp) hM hd2 hn (by simpa using mayM_nodup hM)
          simpa using this
      · obtain rfl : m = [] := by simpa [h7] using hm
        simp [mayM] at hd2
theorem its_deep : ∀ (l : List JV) (D d : Nat) (pre rest T : List UInt8) (acc : List JV) (n : Nat), T = pre ++ ((prT l).drop 1 ++ (93 :: rest)) → mayL l D = true → mayL l d = false → l.length ≤ n → itsP (valP T d) T n pre.length acc = .err 10
  | [], _, _, _, _, _, _, _, _, _, h, _ => by simp [mayL] at h
  | v :: t, D, d, pre, rest, T, acc, n, hT, hD, h, hn => by
    simp only [mayL, Bool.and_eq_true] at hD
    obtain ⟨n, rfl⟩ : ∃ k, n = k + 1 := ⟨n - 1, by simp at hn; omega⟩
    have e0 : (prT (v :: t)).drop 1 = prV v ++ prT t := by rw [prT, List.drop_succ_cons, List.drop_zero]
    rw [e0] at hT
    have hT1 : T = pre ++ (prV v ++ (prT t ++ 93 :: rest)) := by rw [hT]; simp
    cases hv : mayV v d with
    | false => rw [itsP, rd_deep v D d pre _ T hT1 hD.1 hv]
    | true =>
      rw [mayL, hv, Bool.true_and] at h
      have ht : t ≠ [] := by rintro rfl; simp [mayL] at h
      rw [itsP, rd_pr v d pre (prT t ++ 93 :: rest) T hT1 hv (fun _ => by cases t <;> rfl)]
      dsimp only
      have e1 := prT_ne ht
      have hat : T[pre.length + (prV v).length]? = some 44 := by
        have := at_pre (pre ++ prV v) 44 ((prT t).drop 1 ++ 93 :: rest)
        rw [List.length_append, List.append_assoc, ← List.cons_append, ← e1] at this
        rw [hT1]; exact this
      rw [behP_more hat (by decide)]
      dsimp only
      have := its_deep t D d (pre ++ (prV v ++ [44])) rest T (acc ++ [v]) n (by rw [hT1, e1]; simp) hD.2 h (by simp at hn; omega)
      have el : (pre ++ (prV v ++ [44])).length = pre.length + (prV v).length + 1 := by simp; omega
      rw [el] at this
      exact this
theorem mes_deep : ∀ (l : List MemT) (p : Option (List UInt8)) (D d : Nat) (pre rest T : List UInt8) (acc : List MemT) (n : Nat), T = pre ++ ((prU l).drop 1 ++ (125 :: rest)) → mayM l p D = true → mayM l p d = false → l.length ≤ n → ((acc ++ l).map (fun m => m.1)).Nodup → mesP (valP T d) T n pre.length acc = .err 10
  | [], _, _, _, _, _, _, _, _, _, _, h, _, _ => by simp [mayM] at h
  | (nm, v) :: t, p, D, d, pre, rest, T, acc, n, hT, hD, h, hn, hnd => by
    simp only [mayM, Bool.and_eq_true] at hD
    obtain ⟨⟨⟨ha, hx⟩, hvD⟩, hmD⟩ := hD
    obtain ⟨n, rfl⟩ : ∃ k, n = k + 1 := ⟨n - 1, by simp at hn; omega⟩
    have e0 : (prU ((nm, v) :: t)).drop 1 = quo nm ++ 58 :: (prV v ++ prU t) := by rw [prU, List.drop_succ_cons, List.drop_zero]
    rw [e0] at hT
    have hT1 : T = pre ++ (quo nm ++ 58 :: (prV v ++ (prU t ++ 125 :: rest))) := by rw [hT]; simp
    have hT2 : T = (pre ++ (quo nm ++ [58])) ++ (prV v ++ (prU t ++ 125 :: rest)) := by rw [hT]; simp
    have el0 : (pre ++ (quo nm ++ [58])).length = pre.length + (quo nm).length + 1 := by simp; omega
    have hnew : nm ∉ acc.map (fun m => m.1) := by
      rw [List.map_append, List.nodup_append] at hnd
      intro hin
      exact hnd.2.2 nm hin nm (by simp) rfl
    cases hv : mayV v d with
    | false =>
      have hf := rd_deep v D d (pre ++ (quo nm ++ [58])) (prU t ++ 125 :: rest) T hT2 hvD hv
      rw [el0] at hf
      rw [mesP, memP_deep hT1 hx hnew hf]
    | true =>
      rw [mayM, ha, hx, hv, Bool.true_and, Bool.true_and, Bool.true_and] at h
      have ht : t ≠ [] := by rintro rfl; simp [mayM] at h
      have hf := rd_pr v d (pre ++ (quo nm ++ [58])) (prU t ++ 125 :: rest) T hT2 hv (fun _ => by rcases t with _ | ⟨⟨a, b⟩, t⟩ <;> rfl)
      rw [el0] at hf
      rw [mesP, memP_pr hT1 hx hnew hf]
      dsimp only
      have e1 := prU_ne ht
      have hat : T[pre.length + (quo nm).length + 1 + (prV v).length]? = some 44 := by
        have := at_pre (pre ++ (quo nm ++ 58 :: prV v)) 44 ((prU t).drop 1 ++ 125 :: rest)
        have el : (pre ++ (quo nm ++ 58 :: prV v)).length = pre.length + (quo nm).length + 1 + (prV v).length := by simp; omega
        rw [el] at this
        rw [← this, hT1, e1]; simp
      rw [behP_more hat (by decide)]
      dsimp only
      have := mes_deep t (some nm) D d (pre ++ (quo nm ++ 58 :: (prV v ++ [44]))) rest T (acc ++ [(nm, v)]) n (by rw [hT1, e1]; simp) hmD h (by simp at hn; omega) (by simpa using hnd)
      have el : (pre ++ (quo nm ++ 58 :: (prV v ++ [44]))).length = pre.length + (quo nm).length + 1 + (prV v).length + 1 := by simp; omega
      rw [el] at this
      exact this
end
/-- A list of values that may be, each: read, or too deep. -/
theorem par_list {l : List JV} (h : mayL l 64 = true) (hl : (prV (.mk 6 0 [] l [])).length ≤ 20000) :
    parP (prV (.mk 6 0 [] l [])) = if mayL l 63 = true then .ok (.mk 6 0 [] l []) (prV (.mk 6 0 [] l [])).length else .err 10 := by
  have h65 : mayV (.mk 6 0 [] l []) 65 = true := by simp [mayV, fitV, txN, mayM, h]
  have h64 : mayV (.mk 6 0 [] l []) 64 = mayL l 63 := by simp [mayV, fitV, txN, mayM]
  cases hx : mayL l 63 with
  | true => rw [if_pos rfl]; exact par_pr (by rw [h64, hx]) hl
  | false =>
    rw [if_neg (by simp)]
    unfold parP
    rw [if_neg (by omega)]
    have := rd_deep (.mk 6 0 [] l []) 65 64 [] [] (prV (.mk 6 0 [] l [])) (by simp) h65 (by rw [h64, hx])
    simp only [List.length_nil] at this
    rw [this]
/-- A member's text. -/
def mmT (x : MemT) : List UInt8 := quo x.1 ++ 58 :: prV x.2
/-- Members, each behind blanks and a comma. -/
def ojR : List MemT → List UInt8
  | [] => []
  | x :: t => 32 :: 44 :: 10 :: (mmT x ++ ojR t)
def ojT (l : List MemT) : List UInt8 := (ojR l).drop 3
theorem memP_dup {f : Nat → JR JV} {ns : List (List UInt8)} {nm pre rest T : List UInt8} (hT : T = pre ++ (quo nm ++ rest)) (hx : txF nm = true) (hn : nm ∈ ns) : memP f T ns pre.length = .err 4 := by
  have hat : T[pre.length]? = some 34 := by rw [hT]; exact at_pre pre 34 _
  have hs := skp_no hat (by decide)
  have hlt := (List.getElem?_eq_some_iff.1 hat).1
  have ht := txtP_pr pre nm rest hx
  rw [← hT] at ht
  unfold memP
  rw [hs, if_neg (by omega), ht]
  dsimp only
  rw [if_pos hn]
theorem memP_skp {f : Nat → JR JV} {b : List UInt8} {ns : List (List UInt8)} {p q : Nat} (h : skp b p = q) (hq : skp b q = q) : memP f b ns p = memP f b ns q := by
  unfold memP
  rw [h, hq]
/-- Members in any order, blanks about the commas. -/
theorem ms_read : ∀ (ms : List MemT) (d : Nat) (B pre rest T : List UInt8) (acc : List MemT) (n : Nat), (∀ c ∈ B, isBl c = true) → T = pre ++ (B ++ (ojT ms ++ (125 :: rest))) → (∀ x ∈ ms, txF x.1 = true ∧ mayV x.2 d = true) → ms ≠ [] → ms.length ≤ n → (acc.map (fun m => m.1)).Nodup →
    mesP (valP T d) T n pre.length acc = if ((acc ++ ms).map (fun m => m.1)).Nodup then .ok (acc ++ ms) (pre.length + B.length + (ojT ms).length + 1) else .err 4
  | [], _, _, _, _, _, _, _, _, _, _, h, _, _ => absurd rfl h
  | (nm, v) :: t, d, B, pre, rest, T, acc, n, hB, hT, hm, _, hn, hnd => by
    obtain ⟨hx, hv⟩ := hm (nm, v) (by simp)
    obtain ⟨n, rfl⟩ : ∃ k, n = k + 1 := ⟨n - 1, by simp at hn; omega⟩
    have e0 : ojT ((nm, v) :: t) = quo nm ++ 58 :: (prV v ++ ojR t) := by
      simp [ojT, ojR, mmT]
    rw [e0] at hT ⊢
    have hT0 : T = (pre ++ B) ++ (quo nm ++ 58 :: (prV v ++ (ojR t ++ 125 :: rest))) := by rw [hT]; simp
    have hat0 : T[(pre ++ B).length]? = some 34 := by rw [hT0]; exact at_pre (pre ++ B) 34 _
    have hsk : skp T pre.length = (pre ++ B).length := by
      have h1 := skp_bls B pre (quo nm ++ 58 :: (prV v ++ (ojR t ++ 125 :: rest))) hB
      have h2 : pre ++ (B ++ (quo nm ++ 58 :: (prV v ++ (ojR t ++ 125 :: rest)))) = T := by rw [hT0]; simp
      rw [h2] at h1
      rw [h1, ← List.length_append]
      exact skp_no hat0 (by decide)
    rw [mesP, memP_skp hsk (skp_no hat0 (by decide))]
    have hT2 : T = ((pre ++ B) ++ (quo nm ++ [58])) ++ (prV v ++ (ojR t ++ 125 :: rest)) := by rw [hT0]; simp
    have el0 : ((pre ++ B) ++ (quo nm ++ [58])).length = (pre ++ B).length + (quo nm).length + 1 := by simp; omega
    by_cases hin : nm ∈ acc.map (fun m => m.1)
    · rw [memP_dup hT0 hx hin, if_neg]
      intro hnn
      rw [List.map_append, List.nodup_append] at hnn
      exact hnn.2.2 nm hin nm (by simp) rfl
    · have hf := rd_pr v d ((pre ++ B) ++ (quo nm ++ [58])) (ojR t ++ 125 :: rest) T hT2 hv (fun _ => by rcases t with _ | ⟨a, t⟩ <;> rfl)
      rw [el0] at hf
      rw [memP_pr hT0 hx hin hf]
      dsimp only
      have hnd2 : ((acc ++ [(nm, v)]).map (fun m => m.1)).Nodup := by
        rw [List.map_append, List.nodup_append]
        refine ⟨hnd, by simp, fun a ha b hb e => ?_⟩
        simp only [List.map_cons, List.map_nil, List.mem_singleton] at hb
        subst hb e
        exact hin ha
      have ep : (pre ++ B).length + (quo nm).length + 1 + (prV v).length = (pre ++ (B ++ (quo nm ++ 58 :: prV v))).length := by simp; omega
      by_cases ht : t = []
      · subst ht
        have hat : T[(pre ++ B).length + (quo nm).length + 1 + (prV v).length]? = some 125 := by
          rw [ep]
          have := at_pre (pre ++ (B ++ (quo nm ++ 58 :: prV v))) 125 rest
          rw [← this, hT0]; simp [ojR]
        rw [behP_end hat (by decide), if_pos hnd2]
        simp [ojR]
        omega
      · obtain ⟨x, t, rfl⟩ := List.exists_cons_of_ne_nil ht
        have hT3 : T = (pre ++ (B ++ (quo nm ++ 58 :: prV v))) ++ ([32] ++ (44 :: 10 :: (mmT x ++ ojR t ++ 125 :: rest))) := by rw [hT0]; simp [ojR]
        have hs1 := skp_bls [32] (pre ++ (B ++ (quo nm ++ 58 :: prV v))) (44 :: 10 :: (mmT x ++ ojR t ++ 125 :: rest)) (by decide)
        rw [← hT3] at hs1
        have hat : T[(pre ++ (B ++ (quo nm ++ 58 :: prV v))).length + 1]? = some 44 := by
          have := at_pre ((pre ++ (B ++ (quo nm ++ 58 :: prV v))) ++ [32]) 44 (10 :: (mmT x ++ ojR t ++ 125 :: rest))
          rw [List.length_append] at this
          simp only [List.length_singleton] at this
          rw [← this, hT3]; simp
        have hs2 := skp_no hat (by decide)
        simp only [List.length_singleton] at hs1
        rw [hs2] at hs1
        have hbeh : behP T 125 ((pre ++ (B ++ (quo nm ++ 58 :: prV v))).length) = .ok false ((pre ++ (B ++ (quo nm ++ 58 :: prV v))).length + 2) := by
          unfold behP
          rw [hs1, hat]
          rfl
        rw [ep, hbeh]
        dsimp only
        have := ms_read (x :: t) d [10] (pre ++ (B ++ (quo nm ++ 58 :: prV v)) ++ [32, 44]) rest T (acc ++ [(nm, v)]) n (by decide) (by rw [hT3]; simp [ojT, ojR]) (fun y hy => hm y (by simp [hy])) (by simp) (by simp at hn ⊢; omega) hnd2
        have el : (pre ++ (B ++ (quo nm ++ 58 :: prV v)) ++ [32, 44]).length = (pre ++ (B ++ (quo nm ++ 58 :: prV v))).length + 2 := by rw [List.length_append]; rfl
        rw [el] at this
        rw [this]
        have e9 : acc ++ [(nm, v)] ++ x :: t = acc ++ (nm, v) :: x :: t := by simp
        rw [e9]
        split
        · congr 1
          simp [ojT, ojR]
          omega
        · rfl
theorem par_obj {ms : List MemT} (hm : ∀ x ∈ ms, txF x.1 = true ∧ mayV x.2 63 = true) (hl : (123 :: (ojT ms ++ [125])).length ≤ 20000) :
    parP (123 :: (ojT ms ++ [125])) = if (ms.map (fun m => m.1)).Nodup then .ok (.mk 7 0 [] [] (srtM ms)) (123 :: (ojT ms ++ [125])).length else .err 4 := by
  obtain ⟨T, hT⟩ : ∃ T, T = 123 :: (ojT ms ++ [125]) := ⟨_, rfl⟩
  rw [← hT] at hl ⊢
  have hat : T[0]? = some 123 := by rw [hT]; rfl
  have hv : valP T 64 0 = if (ms.map (fun m => m.1)).Nodup then .ok (.mk 7 0 [] [] (srtM ms)) T.length else .err 4 := by
    rw [valP_at hat (by decide)]
    simp only [casP]
    rw [if_neg (by decide), if_pos trivial]
    unfold objP
    cases ms with
    | nil =>
      have h1 : T[0 + 1]? = some 125 := by rw [hT]; rfl
      rw [entP_yes h1 (by decide), if_pos (by simp), hT]
      have e1 : srtM [] = [] := by simp [srtM]
      rw [e1]
      rfl
    | cons x t =>
      have h1 : T[0 + 1]? = some 34 := by rw [hT]; rfl
      rw [entP_no h1 (by decide) (by decide)]
      dsimp only
      have hlen : (x :: t).length ≤ T.length + 1 := by
        have : ∀ l : List MemT, l.length ≤ (ojR l).length := by
          intro l
          induction l with
          | nil => simp
          | cons a b ih => rw [ojR]; simp; omega
        have := this (x :: t)
        rw [hT]
        simp only [ojT, List.length_append, List.length_cons, List.length_drop] at this ⊢
        omega
      have := ms_read (x :: t) 63 [] [123] [] T [] (T.length + 1) (by simp) (by rw [hT]; simp) hm (by simp) hlen (by simp)
      simp only [List.length_singleton, List.nil_append, List.length_nil] at this
      show objV (match mesP (valP T 63) T (T.length + 1) 1 [] with | .err e => .err e | .ok l r => .ok (srtM l) r) = _
      rw [this]
      by_cases hnn : ((x :: t).map (fun m => m.1)).Nodup
      · rw [if_pos hnn, if_pos hnn]
        show JR.ok _ _ = JR.ok _ _
        congr 1
        rw [hT]; simp; omega
      · rw [if_neg hnn, if_neg hnn]
        rfl
  unfold parP
  rw [if_neg (by omega), hv]
  by_cases hnn : (ms.map (fun m => m.1)).Nodup
  · rw [if_pos hnn]
    dsimp only
    rw [skp_end, if_neg (by omega)]
  · rw [if_neg hnn]
theorem fndM_of : ∀ {m : List MemT} {a : List UInt8} {v : JV}, (m.map (fun m => m.1)).Nodup → (a, v) ∈ m → fndM m a = some v
  | (b, u) :: t, a, v, hn, h => by
    rw [fndM]
    simp only [List.map_cons, List.nodup_cons] at hn
    rcases List.mem_cons.1 h with h | h
    · cases h; simp
    · have hne : (b == a) = false := by
        rw [beq_eq_false_iff_ne]
        rintro rfl
        exact hn.1 (List.mem_map.2 ⟨_, h, rfl⟩)
      rw [hne]
      exact fndM_of hn.2 h
theorem srtM_perm (m : List MemT) : (srtM m).Perm m := List.mergeSort_perm _ _
theorem get_srt {m : List MemT} {a : List UInt8} {v : JV} (hn : (m.map (fun m => m.1)).Nodup) (h : (a, v) ∈ m) : getJ (.mk 7 0 [] [] (srtM m)) a = some v := by
  show (if (7 : Int) = 7 then fndM (srtM m) a else none) = some v
  rw [if_pos rfl]
  exact fndM_of (((srtM_perm m).map _).nodup_iff.2 hn) ((srtM_perm m).mem_iff.2 h)
end Go.Proofs.YtidlhajibjnkeaaDoor
