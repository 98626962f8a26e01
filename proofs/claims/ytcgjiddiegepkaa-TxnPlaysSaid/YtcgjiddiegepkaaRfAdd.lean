/- hblref11's add, Put, Kill. -/
import Derived.Test.YtcgjiddiegepkaaRfAddM
import Derived.Deep.RegionHeld
import Derived.Deep.CutRange
import Derived.Deep.AppendLies
namespace Go.Proofs.Ytcgjiddiegepkaa
open Go.RowKit

theorem infoRr : (Try.prog.info? 118).map (fun i => (i.zero, i.size, i.bytes)) = some (some (.agg #[str [], .slice none 0 0]), 2, 40) := by kernel_rfl
theorem box_upR {W W' : World} {b : Nat} {o : Obj} (h : W.heap[b]? = some o) (hb : Below W.heap.size W W') : W'.heap[b]? = some o := by rw [hb.block b (Array.getElem?_eq_some_iff.1 h).1]; exact h
/-- A box of cells is not an empty row. -/
theorem grown_box {W W' : World} {k k5 B : Nat} {a x z : Value} {T E : TypeId} (h : W.heap[k]? = some (.cells #[a, x, z] T (0, 0))) (hg : W.grownBy W' (some k5)) (h5 : W.ownsRow B E 3 (.slice (some ⟨k5, 0, none⟩) 0 0) 0 []) : W'.heap[k]? = some (.cells #[a, x, z] T (0, 0)) := by
  rw [hg.block k (Array.getElem?_eq_some_iff.1 h).1 (fun e => by
    simp only [Option.some.injEq] at e
    subst e
    obtain ⟨cap, e⟩ := owns_size h5 (k := k) rfl h
    rcases h5.2 with ⟨h', _⟩ | ⟨g', cap', cur, h', _, hg, _, _, h3, _⟩
    · simp at h'
    · simp only [Value.slice.injEq, Option.some.injEq, Addr.mk.injEq, and_true] at h'
      obtain ⟨rfl, _, rfl⟩ := h'
      rw [h] at hg
      simp only [Option.some.injEq, Obj.cells.injEq] at hg
      obtain ⟨rfl, _⟩ := hg
      simp at h3)]
  exact h
theorem chain_end {W : World} {B g c : Nat} {l : List VerVS} {v : VerVS} (h : W.ownsRow B 93 3 (.slice (some ⟨g, 0, none⟩) (l.length + [cellsVS v].length) c) (l.length + [cellsVS v].length) ((l.map cellsVS).flatten ++ [cellsVS v].flatten)) :
    RdVS W (.slice (some ⟨g, 0, none⟩) (l.length + 1) c) (l ++ [v]) ∧ B ≤ g ∧ ∃ cs z, W.heap[g]? = some (.cells cs 93 z) := by
  refine ⟨?_, (h.lt g rfl).1, ?_⟩
  · refine RdF.of_row (base := B) (e := 93) (cellsVS_len _) ?_
    rw [List.length_map, List.length_append]
    simpa using h
  · rcases h.2 with ⟨h', _⟩ | ⟨g', cap', cur, h', _, hg, _⟩
    · simp at h'
    · simp only [Value.slice.injEq, Option.some.injEq, Addr.mk.injEq, and_true] at h'
      obtain ⟨rfl, _⟩ := h'
      exact ⟨_, _, hg⟩
theorem RS.nob {W : World} {B b : Nat} {vo : Value} {R : List RRow} {low : Int} (h : RS W B b vo R low) {k : Nat} {cs : Array Value} {z : Nat × Nat} (hk : W.heap[k]? = some (.cells cs 93 z)) : ¬ BlkR b vo k := by
  rintro (rfl | e)
  · rw [h.box] at hk; simp at hk
  · rcases h.row.2 with ⟨rfl, _⟩ | ⟨g, cap, cur, rfl, _, hg, _⟩
    · cases e
    · simp only [Value.ownBlock, Option.some.injEq] at e
      subst e
      rw [hk] at hg
      simp at hg
theorem ver_len {W : World} {B b : Nat} {vo : Value} {R : List RRow} {low : Int} {key : List UInt8} {p : Nat} (h : RS W B b vo R low) (hp : PlaceB key (chR R) p) (hc : ∀ r ∈ R, r.2.2.length ≤ 100000) : (verC key (chR R)).length ≤ 100000 := by
  by_cases e : ∃ hq : p < R.length, R[p].1 = key
  · obtain ⟨hq, hk⟩ := e
    rw [h.ver_yes hp hq hk]
    exact hc _ (List.getElem_mem hq)
  · rw [h.ver_no hp e]; simp
theorem one_newR {R : List RRow} (h : ∀ r ∈ R, r.2.1.oneCell' = true) (key : List UInt8) (p : Nat) : ∀ u ∈ ((newR key :: R.drop p).map cellsR).flatten, u.oneCell' = true := by
  refine one_cellsR _ (fun r hr => ?_)
  rcases List.mem_cons.1 hr with rfl | hr
  · rfl
  · exact h r (List.mem_of_mem_drop hr)
theorem ite_noneR {g p cap n m c : Nat} (h : (Value.slice (if cap = p then (some ⟨g, 0, none⟩ : Option Addr) else some ⟨g, p * 2, none⟩) n m) = .slice none 0 c) : c = 0 := by
  split at h <;> simp at h
theorem RS.behind {W : World} {B b g cap p : Nat} {R : List RRow} {low : Int} (h : RS W B b (.slice (some ⟨g, 0, none⟩) R.length cap) R low) (hp : p ≤ R.length) : RdF 2 W (.slice (if cap = p then (some ⟨g, 0, none⟩ : Option Addr) else some ⟨g, p * 2, none⟩) (R.length - p) (cap - p)) ((R.drop p).map cellsR) := by
  have := rdf_behind (sz := 2) (p := p) (cellsR_len R) (by simpa using h.row) (by simpa using hp) rfl
  simpa [List.map_drop] using this
theorem RS.ahead {W : World} {B b g cap p : Nat} {R : List RRow} {low : Int} (h : RS W B b (.slice (some ⟨g, 0, none⟩) R.length cap) R low) (hp : p ≤ R.length) : W.ownsRow B 118 2 (.slice (some ⟨g, 0, none⟩) p cap) p ((R.map cellsR).take p).flatten := by
  have := row_takeF h.row hp
  rwa [flat_take 2 _ (cellsR_len R)] at this
theorem ins_rowR {W : World} {base g c p : Nat} {R : List RRow} {key : List UInt8} (h : W.ownsRow base 118 2 (.slice (some ⟨g, 0, none⟩) (1 + ((R.drop p).map cellsR).length) c) (1 + ((R.drop p).map cellsR).length) ([str key, .slice none 0 0] ++ ((R.drop p).map cellsR).flatten)) (m : Nat) (hm : m = 1 + (R.length - p)) :
    RdF 2 W (.slice (some ⟨g, 0, none⟩) m c) ((newR key :: R.drop p).map cellsR) := by
  subst hm
  have e : ((newR key :: R.drop p).map cellsR).length = 1 + ((R.drop p).map cellsR).length := by simp; omega
  have e2 : ((R.drop p).map cellsR).length = R.length - p := by simp
  rw [← e2, ← e]
  rw [← e] at h
  exact RdF.of_row (cellsR_len _) (by simpa [newR, cellsR] using h)
theorem ins_full {W : World} {B g c p : Nat} {R : List RRow} {key : List UInt8} (hp : p ≤ R.length) (h : W.ownsRow B 118 2 (.slice (some ⟨g, 0, none⟩) (p + ((newR key :: R.drop p).map cellsR).length) c) (p + ((newR key :: R.drop p).map cellsR).length) (((R.map cellsR).take p).flatten ++ ((newR key :: R.drop p).map cellsR).flatten)) :
    W.ownsRow B 118 2 (.slice (some ⟨g, 0, none⟩) (R.length + 1) c) (R.length + 1) ((R.take p ++ newR key :: R.drop p).map cellsR).flatten := by
  have e : p + ((newR key :: R.drop p).map cellsR).length = R.length + 1 := by simp; omega
  rw [e] at h
  rw [flatR_ins]
  exact h
theorem ins_one {W : World} {B g c : Nat} {key : List UInt8} (h : W.ownsRow B 118 2 (.slice (some ⟨g, 0, none⟩) (0 + ((newR key :: List.drop 0 []).map cellsR).length) c) (0 + ((newR key :: List.drop 0 []).map cellsR).length) ([] ++ ((newR key :: List.drop 0 []).map cellsR).flatten)) :
    W.ownsRow B 118 2 (.slice (some ⟨g, 0, none⟩) (([] : List RRow).length + 1) c) (([] : List RRow).length + 1) ((List.take 0 [] ++ newR key :: List.drop 0 []).map cellsR).flatten := by simpa using h
/-- An append of some rows: where the new row lies. -/
theorem step_appendH {P : Program} {w : World} {ops : Array Oper} {o : Oper} {a : Act} {K : Act → World → Prop} {Q : Exit → Act → World → Prop} {N : Prop} (hgd : o.guard = none) (s x : Operand) (t : TypeId)
    (ho : o.op = .call { callee := .builtin .append, args := #[s, x], argTypes := #[t, t] }) (base : Nat) (e : TypeId) (i : TypeInfo) (z : Value) (size bytes : Nat) (ht : P.underlying t = some (.slice e)) (hi : P.info? e = some i) (hz : i.zero = some z)
    (hsize : i.size = size) (hby : i.bytes = bytes) (hzs : z.cells.size = size) (hsz : 0 < size) (v : Value) (n : Nat) (xs : List Value) (hs : a.eval s = v) (hown : w.ownsRow base e size v n xs)
    (y : Value) (L : List (List Value)) (hL : ∀ r ∈ L, r.length = size) (hone : ∀ u ∈ L.flatten, u.oneCell' = true) (hx : a.eval x = y) (hy : RdF size w y L) (hne : L ≠ [])
    (h63 : n + L.length ≤ maxLen) (hbytes : (n + L.length) * bytes ≤ 140737488355328) (hbase : base ≤ w.heap.size)
    (hK : ∀ g' cap' w', w'.ownsRow base e size (.slice (some ⟨g', 0, none⟩) (n + L.length) cap') (n + L.length) (xs ++ L.flatten) → w.grownBy w' v.ownBlock → (v.ownBlock = some g' ∨ g' = w.heap.size) → K (a.put o.dst (.slice (some ⟨g', 0, none⟩) (n + L.length) cap')) w') :
    if Region.wanted o (yielded ops a.tmps) = true then Oper.wp P o a w K Q else N := by
  obtain ⟨ad, c, rfl, h1, h2, h3, h4⟩ := hy
  obtain ⟨b, off, rfl, hc⟩ := h4 hne
  refine step_append_lies w hgd s x t ho base e i z size bytes ht hi hz hsize hby hzs hsz v n xs hs hown ⟨b, off, none⟩ L.length c L.flatten hx (flat_len size L hL) (fun j u hj => ?_) hone (List.length_pos_iff.2 hne) h63 hbytes hbase w.heap.size rfl (fun g cap w' g1 g2 g3 _ => hK g cap w' g1 g2 g3)
  have hjl : j < L.length * size := by
    have := (List.getElem?_eq_some_iff.1 hj).1
    rwa [flat_len size L hL] at this
  have hq : j / size < L.length := Nat.div_lt_of_lt_mul (by rwa [Nat.mul_comm] at hjl)
  have hr : j % size < size := Nat.mod_lt _ hsz
  have ej : j = j / size * size + j % size := by rw [Nat.mul_comm]; exact (Nat.div_add_mod j size).symm
  have hf := flat_at size L hL (j / size) hq (j % size) hr
  rw [← ej, hj] at hf
  have := hc (j / size) hq (j % size) u hf.symm
  rw [Addr.add_lit]
  rw [show off + j = off + j / size * size + j % size by rw [Nat.add_assoc, ← ej]]
  exact this
/-- What add leaves. -/
def RAddP (W : World) (B b : Nat) (vo : Value) (R : List RRow) (low : Int) (key : List UInt8) (v : VerVS) (e : Ending) (W' : World) : Prop :=
  e = .returned (.int .i64 (addCVS (verC key (chR R)) low v)) ∧ ∃ vo' R', RS W' B b vo' R' low ∧ chR R' = putC (chR R) low key v ∧ Frm (BlkR b vo) W W' ∧ (∀ k, BlkR b vo' k → BlkR b vo k ∨ W.heap.size ≤ k) ∧ ∀ r ∈ R', ∀ j, sBlk r.2.1 = some j → (∃ x ∈ R, sBlk x.2.1 = some j) ∨ W.heap.size ≤ j
variable {W : World} {B b : Nat} {vo : Value} {R : List RRow} {low : Int}
theorem raddP_no (h : RS W B b vo R low) {key : List UInt8} {v : VerVS} {c : Int} (hc : addCVS (verC key (chR R)) low v = c) (h0 : c ≠ 0) {W' : World} (hb : Below W.heap.size W W') : RAddP W B b vo R low key v (.returned (.int .i64 c)) W' := by
  subst hc
  exact ⟨rfl, vo, R, h.below hb, by unfold putC; rw [if_neg h0], Frm.of_below hb, fun k hk => .inl hk, fun r hr j hj => .inl ⟨r, hr, hj⟩⟩
set_option maxRecDepth 100000 in
set_option maxHeartbeats 4000000 in
theorem radd_low (h : RS W B b vo R low) (key : List UInt8) (va : Int) (vx : List UInt8) (vz : Bool) (h1 : va < 1) : Calls Try.prog 48 #[.pointer (some ⟨b, 0, none⟩), str key, .agg #[.int .i64 va, str vx, .bool vz]] W (RAddP W B b vo R low key (va, vx, vz)) := by
  have HN := Lib.hid (fun W' (hb : Below W.heap.size W W') => raddP_no h (key := key) (v := (va, vx, vz)) (c := 1) (by unfold addCVS; rw [if_pos (.inl h1)]) (by decide) hb)
  have z1 : decide (va < 1) = true := decide_eq_true h1
  clear h
  go_enter Try.func48, Try.ntmps48
  go_wp2_with fail
  go_ret
  exact HN.out _ (below_alloc _ _)
set_option maxRecDepth 100000 in
set_option maxHeartbeats 4000000 in
theorem radd_high (h : RS W B b vo R low) (key : List UInt8) (va : Int) (vx : List UInt8) (vz : Bool) (h1 : 1099511627776 < va) : Calls Try.prog 48 #[.pointer (some ⟨b, 0, none⟩), str key, .agg #[.int .i64 va, str vx, .bool vz]] W (RAddP W B b vo R low key (va, vx, vz)) := by
  have HN := Lib.hid (fun W' (hb : Below W.heap.size W W') => raddP_no h (key := key) (v := (va, vx, vz)) (c := 1) (by unfold addCVS; rw [if_pos (.inr h1)]) (by decide) hb)
  have z1 : decide (va < 1) = false := decide_eq_false (by omega)
  have z2 : decide (1099511627776 < va) = true := decide_eq_true h1
  clear h
  go_enter Try.func48, Try.ntmps48
  go_wp2_with fail
  go_ret
  exact HN.out _ (below_alloc _ _)
/-- The cells that the tests read. -/
def SAd (b w0 : Nat) (va low : Int) (W : World) : Prop := W.cell? ⟨w0, 0, none⟩ = some (.int .i64 va) ∧ W.cell? ⟨b, 1, none⟩ = some (.int .i64 low)
set_option maxRecDepth 100000 in
set_option maxHeartbeats 8000000 in
theorem radd_old (h : RS W B b vo R low) (hn : R.length ≤ 100000) (hc : ∀ r ∈ R, r.2.2.length ≤ 100000) (key : List UInt8) (va : Int) (vx : List UInt8) (vz : Bool) (h1 : ¬ va < 1) (h2 : ¬ 1099511627776 < va) (h3 : va ≤ lastTVS (verC key (chR R))) : Calls Try.prog 48 #[.pointer (some ⟨b, 0, none⟩), str key, .agg #[.int .i64 va, str vx, .bool vz]] W (RAddP W B b vo R low key (va, vx, vz)) := by
  have HN := Lib.hid (fun W' (hb : Below W.heap.size W W') => raddP_no h (key := key) (v := (va, vx, vz)) (c := 12) (by unfold addCVS; rw [if_neg (by dsimp only; omega), if_pos (.inl h3)]) (by decide) hb)
  have z1 : decide (va < 1) = false := decide_eq_false h1
  have z2 : decide (1099511627776 < va) = false := decide_eq_false h2
  obtain ⟨LA, hLA⟩ : ∃ x, x = lastTVS (verC key (chR R)) := ⟨_, rfl⟩
  have HLA := Lib.hid hLA.symm
  obtain ⟨W1, hW1⟩ : ∃ W1, W1 = W.alloc (.cells #[.int .i64 va, str vx, .bool vz] 93) := ⟨_, rfl⟩
  have hb1 : Below W.heap.size W W1 := by rw [hW1]; exact below_alloc _ _
  have hbx : W1.heap[W.heap.size]? = some (.cells #[.int .i64 va, str vx, .bool vz] 93 (0, 0)) := by rw [hW1]; exact heap_alloc_new _ _
  have HS1 := Lib.hid (h.below hb1)
  have HKS : Hid (∀ W', Below W1.heap.size W1 W' → SAd b W.heap.size va low W') := Lib.hid (fun W' hb => ⟨by have := box_upR hbx hb; simp [World.cell?, this], ((HS1.out.below hb).cells).2.1⟩)
  have CL := Lib.hid (fun W' (hb : Below W1.heap.size W1 W') => by have := rlast_any (HS1.out.below hb) (by omega) (fun r hr => by have := hc r hr; omega) key; rw [← hLA] at this; exact this)
  have HBW := Lib.hid hb1
  have B0 := Lib.hid (show Below W1.heap.size W1 W1.drew from Below.drewsN (Below.refl _ _) 1)
  clear hb1 hbx hLA
  have z3 : decide (va ≤ LA) = true := decide_eq_true (by rw [← HLA.out]; exact h3)
  clear h hn hc h1 h2 h3
  go_enter Try.func48, Try.ntmps48
  go_wp2_with fail
  rw [← hW1]
  clear hW1
  refine wp_region_held_drew (S := SAd b W.heap.size va low) (by kernel_rfl) (HKS.out _ B0.out) (fun hHeld => ?_)
  refine wpAnyH_take (i := 0) (v := ?v1) rfl (by kernel_rfl) (by kernel_rfl) (by kernel_rfl) (fun _ _ _ h => h) (Or.inl ⟨by rfl, ?hy1⟩) (by assumption) ?_
  case hy1 => (intro w hSw; clear hSw; go_simp; try with_reducible rfl)
  go_simp
  refine wpAnyH_take (i := 1) (v := ?v2) rfl (by kernel_rfl) (by kernel_rfl) (by kernel_rfl) (fun _ _ _ h => h) (Or.inl ⟨by rfl, ?hy2⟩) (by assumption) ?_
  case hy2 => (intro w hSw; obtain ⟨hs0, hs1⟩ := hSw; go_simp; try with_reducible rfl)
  go_simp
  refine wpAnyH_take (i := 2) (v := ?v3) rfl (by kernel_rfl) (by kernel_rfl) (by kernel_rfl) (fun _ _ _ h => h) (Or.inl ⟨by rfl, ?hy3⟩) (by assumption) ?_
  case hy3 => (intro w hSw; clear hSw; go_simp; try with_reducible rfl)
  go_simp
  refine wpAnyH_take (i := 3) (v := ?v4) rfl (by kernel_rfl) (by kernel_rfl) (by kernel_rfl) (fun _ _ _ h => h) (Or.inl ⟨by rfl, ?hy4⟩) (by assumption) ?_
  case hy4 => (intro w hSw; clear hSw; go_simp; try with_reducible rfl)
  go_simp
  refine wpAnyH_ready (rs := [4]) (by kernel_rfl) (by simp) (AllReadyH.cons rfl (fun K hK => ?_) AllReadyH.nil)
  go_simp
  refine (CL.out _ B0.out).mono ?_
  rintro e wl ⟨rfl, hb⟩
  have BL := Lib.hid (B0.out.trans (hb.mono B0.out.size))
  clear hb
  go_simp
  refine hK.out _ _ (HKS.out _ BL.out) (fun hHeld => ?_)
  clear hK K
  refine wpAnyH_take (i := 5) (v := ?v5) rfl (by kernel_rfl) (by kernel_rfl) (by kernel_rfl) (fun _ _ _ h => h) (Or.inl ⟨by rfl, ?hy5⟩) (by assumption) ?_
  case hy5 => (intro w hSw; clear hSw; go_simp; try with_reducible rfl)
  go_simp
  refine wpAnyH_take (i := 6) (v := ?v6) rfl (by kernel_rfl) (by kernel_rfl) (by kernel_rfl) (fun _ _ _ h => h) (Or.inl ⟨by rfl, ?hy6⟩) (by assumption) ?_
  case hy6 => (intro w hSw; clear hSw; go_simp; try with_reducible rfl)
  go_simp
  refine wpAnyH_take (i := 7) (v := undef) rfl (by kernel_rfl) (by kernel_rfl) (by kernel_rfl) (fun _ _ _ h => h) (Or.inr ⟨by rfl, rfl⟩) (by assumption) ?_
  go_simp
  refine wpAnyH_take (i := 8) (v := undef) rfl (by kernel_rfl) (by kernel_rfl) (by kernel_rfl) (fun _ _ _ h => h) (Or.inr ⟨by rfl, rfl⟩) (by assumption) ?_
  go_simp
  refine wpAnyH_take (i := 9) (v := undef) rfl (by kernel_rfl) (by kernel_rfl) (by kernel_rfl) (fun _ _ _ h => h) (Or.inr ⟨by rfl, rfl⟩) (by assumption) ?_
  go_simp
  refine wpAnyH_take (i := 10) (v := undef) rfl (by kernel_rfl) (by kernel_rfl) (by kernel_rfl) (fun _ _ _ h => h) (Or.inr ⟨by rfl, rfl⟩) (by assumption) ?_
  go_simp
  refine wpAnyH_take (i := 11) (v := undef) rfl (by kernel_rfl) (by kernel_rfl) (by kernel_rfl) (fun _ _ _ h => h) (Or.inr ⟨by rfl, rfl⟩) (by assumption) ?_
  go_simp
  refine wpAnyH_take (i := 12) (v := undef) rfl (by kernel_rfl) (by kernel_rfl) (by kernel_rfl) (fun _ _ _ h => h) (Or.inr ⟨by rfl, rfl⟩) (by assumption) ?_
  go_simp
  refine wpAnyH_take (i := 13) (v := undef) rfl (by kernel_rfl) (by kernel_rfl) (by kernel_rfl) (fun _ _ _ h => h) (Or.inr ⟨by rfl, rfl⟩) (by assumption) ?_
  go_simp
  refine wpAnyH_take (i := 14) (v := ?v14) rfl (by kernel_rfl) (by kernel_rfl) (by kernel_rfl) (fun _ _ _ h => h) (Or.inl ⟨by rfl, ?hy14⟩) (by assumption) ?_
  case hy14 => (intro w hSw; clear hSw; go_simp; try with_reducible rfl)
  go_simp
  refine wpAnyH_done (by kernel_rfl) ?_ _
  have HX := Lib.hid (HN.out _ (HBW.out.trans (BL.out.mono HBW.out.size)))
  clear HKS CL HS1 HN
  go_wp2_with fail
  go_ret
  exact HX.out
set_option maxRecDepth 100000 in
set_option maxHeartbeats 8000000 in
theorem radd_under (h : RS W B b vo R low) (hn : R.length ≤ 100000) (hc : ∀ r ∈ R, r.2.2.length ≤ 100000) (key : List UInt8) (va : Int) (vx : List UInt8) (vz : Bool) (h1 : ¬ va < 1) (h2 : ¬ 1099511627776 < va) (h3 : ¬ va ≤ lastTVS (verC key (chR R))) (h4 : va < low) : Calls Try.prog 48 #[.pointer (some ⟨b, 0, none⟩), str key, .agg #[.int .i64 va, str vx, .bool vz]] W (RAddP W B b vo R low key (va, vx, vz)) := by
  have HN := Lib.hid (fun W' (hb : Below W.heap.size W W') => raddP_no h (key := key) (v := (va, vx, vz)) (c := 12) (by unfold addCVS; rw [if_neg (by dsimp only; omega), if_pos (.inr h4)]) (by decide) hb)
  have z1 : decide (va < 1) = false := decide_eq_false h1
  have z2 : decide (1099511627776 < va) = false := decide_eq_false h2
  obtain ⟨LA, hLA⟩ : ∃ x, x = lastTVS (verC key (chR R)) := ⟨_, rfl⟩
  have HLA := Lib.hid hLA.symm
  obtain ⟨W1, hW1⟩ : ∃ W1, W1 = W.alloc (.cells #[.int .i64 va, str vx, .bool vz] 93) := ⟨_, rfl⟩
  have hb1 : Below W.heap.size W W1 := by rw [hW1]; exact below_alloc _ _
  have hbx : W1.heap[W.heap.size]? = some (.cells #[.int .i64 va, str vx, .bool vz] 93 (0, 0)) := by rw [hW1]; exact heap_alloc_new _ _
  have HS1 := Lib.hid (h.below hb1)
  have HKS : Hid (∀ W', Below W1.heap.size W1 W' → SAd b W.heap.size va low W') := Lib.hid (fun W' hb => ⟨by have := box_upR hbx hb; simp [World.cell?, this], ((HS1.out.below hb).cells).2.1⟩)
  have CL := Lib.hid (fun W' (hb : Below W1.heap.size W1 W') => by have := rlast_any (HS1.out.below hb) (by omega) (fun r hr => by have := hc r hr; omega) key; rw [← hLA] at this; exact this)
  have HBW := Lib.hid hb1
  have B0 := Lib.hid (show Below W1.heap.size W1 W1.drew from Below.drewsN (Below.refl _ _) 1)
  clear hb1 hbx hLA
  have z3 : decide (va ≤ LA) = false := decide_eq_false (by rw [← HLA.out]; exact h3)
  have z4 : decide (va < low) = true := decide_eq_true h4
  clear h hn hc h1 h2 h3 h4
  go_enter Try.func48, Try.ntmps48
  go_wp2_with fail
  rw [← hW1]
  clear hW1
  refine wp_region_held_drew (S := SAd b W.heap.size va low) (by kernel_rfl) (HKS.out _ B0.out) (fun hHeld => ?_)
  refine wpAnyH_take (i := 0) (v := ?v15) rfl (by kernel_rfl) (by kernel_rfl) (by kernel_rfl) (fun _ _ _ h => h) (Or.inl ⟨by rfl, ?hy15⟩) (by assumption) ?_
  case hy15 => (intro w hSw; clear hSw; go_simp; try with_reducible rfl)
  go_simp
  refine wpAnyH_take (i := 1) (v := ?v16) rfl (by kernel_rfl) (by kernel_rfl) (by kernel_rfl) (fun _ _ _ h => h) (Or.inl ⟨by rfl, ?hy16⟩) (by assumption) ?_
  case hy16 => (intro w hSw; obtain ⟨hs0, hs1⟩ := hSw; go_simp; try with_reducible rfl)
  go_simp
  refine wpAnyH_take (i := 2) (v := ?v17) rfl (by kernel_rfl) (by kernel_rfl) (by kernel_rfl) (fun _ _ _ h => h) (Or.inl ⟨by rfl, ?hy17⟩) (by assumption) ?_
  case hy17 => (intro w hSw; clear hSw; go_simp; try with_reducible rfl)
  go_simp
  refine wpAnyH_take (i := 3) (v := ?v18) rfl (by kernel_rfl) (by kernel_rfl) (by kernel_rfl) (fun _ _ _ h => h) (Or.inl ⟨by rfl, ?hy18⟩) (by assumption) ?_
  case hy18 => (intro w hSw; clear hSw; go_simp; try with_reducible rfl)
  go_simp
  refine wpAnyH_ready (rs := [4]) (by kernel_rfl) (by simp) (AllReadyH.cons rfl (fun K hK => ?_) AllReadyH.nil)
  go_simp
  refine (CL.out _ B0.out).mono ?_
  rintro e wl ⟨rfl, hb⟩
  have BL := Lib.hid (B0.out.trans (hb.mono B0.out.size))
  clear hb
  go_simp
  refine hK.out _ _ (HKS.out _ BL.out) (fun hHeld => ?_)
  clear hK K
  refine wpAnyH_take (i := 5) (v := ?v19) rfl (by kernel_rfl) (by kernel_rfl) (by kernel_rfl) (fun _ _ _ h => h) (Or.inl ⟨by rfl, ?hy19⟩) (by assumption) ?_
  case hy19 => (intro w hSw; clear hSw; go_simp; try with_reducible rfl)
  go_simp
  refine wpAnyH_take (i := 6) (v := ?v20) rfl (by kernel_rfl) (by kernel_rfl) (by kernel_rfl) (fun _ _ _ h => h) (Or.inl ⟨by rfl, ?hy20⟩) (by assumption) ?_
  case hy20 => (intro w hSw; clear hSw; go_simp; try with_reducible rfl)
  go_simp
  refine wpAnyH_take (i := 7) (v := ?v21) rfl (by kernel_rfl) (by kernel_rfl) (by kernel_rfl) (fun _ _ _ h => h) (Or.inl ⟨by rfl, ?hy21⟩) (by assumption) ?_
  case hy21 => (intro w hSw; clear hSw; go_simp; try with_reducible rfl)
  go_simp
  refine wpAnyH_take (i := 8) (v := ?v22) rfl (by kernel_rfl) (by kernel_rfl) (by kernel_rfl) (fun _ _ _ h => h) (Or.inl ⟨by rfl, ?hy22⟩) (by assumption) ?_
  case hy22 => (intro w hSw; obtain ⟨hs0, hs1⟩ := hSw; go_simp; try with_reducible rfl)
  go_simp
  refine wpAnyH_take (i := 9) (v := ?v23) rfl (by kernel_rfl) (by kernel_rfl) (by kernel_rfl) (fun _ _ _ h => h) (Or.inl ⟨by rfl, ?hy23⟩) (by assumption) ?_
  case hy23 => (intro w hSw; clear hSw; go_simp; try with_reducible rfl)
  go_simp
  refine wpAnyH_take (i := 10) (v := ?v24) rfl (by kernel_rfl) (by kernel_rfl) (by kernel_rfl) (fun _ _ _ h => h) (Or.inl ⟨by rfl, ?hy24⟩) (by assumption) ?_
  case hy24 => (intro w hSw; clear hSw; go_simp; try with_reducible rfl)
  go_simp
  refine wpAnyH_take (i := 11) (v := ?v25) rfl (by kernel_rfl) (by kernel_rfl) (by kernel_rfl) (fun _ _ _ h => h) (Or.inl ⟨by rfl, ?hy25⟩) (by assumption) ?_
  case hy25 => (intro w hSw; clear hSw; go_simp; try with_reducible rfl)
  go_simp
  refine wpAnyH_take (i := 12) (v := ?v26) rfl (by kernel_rfl) (by kernel_rfl) (by kernel_rfl) (fun _ _ _ h => h) (Or.inl ⟨by rfl, ?hy26⟩) (by assumption) ?_
  case hy26 => (intro w hSw; obtain ⟨hs0, hs1⟩ := hSw; go_simp; try with_reducible rfl)
  go_simp
  refine wpAnyH_take (i := 13) (v := ?v27) rfl (by kernel_rfl) (by kernel_rfl) (by kernel_rfl) (fun _ _ _ h => h) (Or.inl ⟨by rfl, ?hy27⟩) (by assumption) ?_
  case hy27 => (intro w hSw; clear hSw; go_simp; try with_reducible rfl)
  go_simp
  refine wpAnyH_take (i := 14) (v := ?v28) rfl (by kernel_rfl) (by kernel_rfl) (by kernel_rfl) (fun _ _ _ h => h) (Or.inl ⟨by rfl, ?hy28⟩) (by assumption) ?_
  case hy28 => (intro w hSw; clear hSw; go_simp; try with_reducible rfl)
  go_simp
  refine wpAnyH_done (by kernel_rfl) ?_ _
  have HX := Lib.hid (HN.out _ (HBW.out.trans (BL.out.mono HBW.out.size)))
  clear HKS CL HS1 HN
  go_wp2_with fail
  go_ret
  exact HX.out
/-- Ahead of the chain's turn. -/
structure MidA (W : World) (B b : Nat) (vo : Value) (R : List RRow) (low : Int) (key : List UInt8) (va : Int) (vx : List UInt8) (vz : Bool) (p g cap : Nat) (R2 : List RRow) (w : World) : Prop where
  rs : RS w B b (.slice (some ⟨g, 0, none⟩) R2.length cap) R2 low
  pl : PlaceB key (chR R2) p
  at1 : ∃ hq : p < R2.length, R2[p].1 = key ∧ R2[p].2.2 = verC key (chR R)
  ins : ∀ y, insB key y (chR R2) = insB key y (chR R)
  frm : Frm (BlkR b vo) W w
  box : w.heap[W.heap.size]? = some (.cells #[.int .i64 va, str vx, .bool vz] 93 (0, 0))
  blk : ∀ k, BlkR b (.slice (some ⟨g, 0, none⟩) R2.length cap) k → BlkR b vo k ∨ W.heap.size ≤ k
  len : R2.length ≤ R.length + 1
  cb : ∀ r ∈ R2, ∀ j, sBlk r.2.1 = some j → ∃ x ∈ R, sBlk x.2.1 = some j
def OnlyN (R : Act → World → Prop) : Exit → Act → World → Prop
  | .normal, a, w => R a w
  | _, _, _ => False
theorem only_normal {P : Program} {c : Code} {Q : Exit → Act → World → Prop} {a : Act} {w : World} (h : c.wp P (OnlyN (fun a w => Q .normal a w)) a w) : c.wp P Q a w := by
  refine Code.wp_mono (fun e a w h => ?_) h
  cases e <;> first | exact h | exact h.elim
theorem midA_yes {W w : World} {B b : Nat} {vo : Value} {R : List RRow} {low : Int} {key : List UInt8} {va : Int} {vx : List UInt8} {vz : Bool} {p : Nat} (h : RS w B b vo R low) (hp : PlaceB key (chR R) p) (hq : p < R.length) (hk : R[p].1 = key) (hb : Below W.heap.size W w) (hx : w.heap[W.heap.size]? = some (.cells #[.int .i64 va, str vx, .bool vz] 93 (0, 0))) :
    ∃ (g cap : Nat) (R2 : List RRow), Hid (MidA W B b vo R low key va vx vz p g cap R2 w) := by
  obtain ⟨g, cap, rfl, _, _⟩ := h.get hq
  exact ⟨g, cap, R, Lib.hid ⟨h, hp, ⟨hq, hk, (h.ver_yes hp hq hk).symm⟩, fun _ => rfl, Frm.of_below hb, hx, fun k hk => .inl hk, by omega, fun r hr j hj => ⟨r, hr, hj⟩⟩⟩
theorem midA_no {W w wc : World} {B b g17 c17 : Nat} {vo : Value} {R : List RRow} {low : Int} {key : List UInt8} {va : Int} {vx : List UInt8} {vz : Bool} {p : Nat} (h : RS w B b vo R low) (hp : PlaceB key (chR R) p) (hno : ¬ ∃ hq : p < R.length, R[p].1 = key) (hb : Below W.heap.size W w) (hx : w.heap[W.heap.size]? = some (.cells #[.int .i64 va, str vx, .bool vz] 93 (0, 0)))
    (hI : RS wc B b (.slice (some ⟨g17, 0, none⟩) (R.length + 1) c17) (R.take p ++ newR key :: R.drop p) low ∧ Frm (BlkR b vo) w wc) (hl : vo.ownBlock = some g17 ∨ w.heap.size ≤ g17) (hbl : ∀ k, BlkR b vo k → k ≠ W.heap.size) :
    MidA W B b vo R low key va vx vz p g17 c17 (R.take p ++ newR key :: R.drop p) wc := by
  have hpl : p ≤ R.length := by have := hp.le; rwa [chR_len] at this
  have hlen : (R.take p ++ newR key :: R.drop p).length = R.length + 1 := by simp; omega
  have hins : insB key [] (chR R) = chR (R.take p ++ newR key :: R.drop p) := by
    rw [chR_ins, insB_at key [] hp, if_neg (fun ⟨hq, e⟩ => hno ⟨by rwa [chR_len] at hq, by rw [chR_key hq (by rwa [chR_len] at hq)] at e; exact e⟩)]
    rfl
  have htl : (R.take p).length = p := by rw [List.length_take]; omega
  have hat : (R.take p ++ newR key :: R.drop p)[p]'(by omega) = newR key := by
    rw [List.getElem_append_right (by omega)]
    have : p - (R.take p).length = 0 := by omega
    simp only [this, List.getElem_cons_zero]
  refine ⟨by rw [hlen]; exact hI.1, ?_, ⟨by omega, by rw [hat]; rfl, by rw [hat, h.ver_no hp hno]; rfl⟩, fun y => by rw [← hins, insB_twice], ?_, ?_, fun k hk => ?_, by omega, fun r hr j hj => by
    rcases List.mem_append.1 hr with h1 | h1
    · exact ⟨r, List.mem_of_mem_take h1, hj⟩
    · rcases List.mem_cons.1 h1 with rfl | h1
      · cases hj
      · exact ⟨r, List.mem_of_mem_drop h1, hj⟩⟩
  · rw [chR_ins]; exact place_ins hp
  · exact (Frm.of_below (F := BlkR b vo) hb).trans hI.2 (fun _ _ e => e)
  · rw [hI.2.block _ (Array.getElem?_eq_some_iff.1 hx).1 (fun e => hbl _ e rfl)]; exact hx
  · rcases hk with rfl | e
    · exact .inl (.inl rfl)
    · simp only [Value.ownBlock, Option.some.injEq] at e
      subst e
      rcases hl with hl | hl
      · exact .inl (.inr hl)
      · exact .inr (Nat.le_trans hb.size hl)
/-- The cells that the last region reads. -/
def SCh (b w0 : Nat) (vo : Value) (va : Int) (vx : List UInt8) (vz : Bool) (W : World) : Prop := W.cell? ⟨b, 0, none⟩ = some vo ∧ W.cell? ⟨w0, 0, none⟩ = some (.int .i64 va) ∧ W.cell? ⟨w0, 1, none⟩ = some (str vx) ∧ W.cell? ⟨w0, 2, none⟩ = some (.bool vz)
set_option maxRecDepth 100000 in
set_option maxHeartbeats 16000000 in
theorem radd_yes (h : RS W B b vo R low) (hn : R.length ≤ 100000) (hc : ∀ r ∈ R, r.2.2.length ≤ 100000) (key : List UInt8) (va : Int) (vx : List UInt8) (vz : Bool) (h1 : ¬ va < 1) (h2 : ¬ 1099511627776 < va) (h3 : ¬ va ≤ lastTVS (verC key (chR R))) (h4 : ¬ va < low) : Calls Try.prog 48 #[.pointer (some ⟨b, 0, none⟩), str key, .agg #[.int .i64 va, str vx, .bool vz]] W (RAddP W B b vo R low key (va, vx, vz)) := by
  have HC0 := Lib.hid (show addCVS (verC key (chR R)) low (va, vx, vz) = 0 by unfold addCVS; rw [if_neg (by dsimp only; omega), if_neg (by dsimp only; omega)])
  have z1 : decide (va < 1) = false := decide_eq_false h1
  have z2 : decide (1099511627776 < va) = false := decide_eq_false h2
  obtain ⟨LA, hLA⟩ : ∃ x, x = lastTVS (verC key (chR R)) := ⟨_, rfl⟩
  have HLA := Lib.hid hLA.symm
  obtain ⟨W1, hW1⟩ : ∃ W1, W1 = W.alloc (.cells #[.int .i64 va, str vx, .bool vz] 93) := ⟨_, rfl⟩
  have hb1 : Below W.heap.size W W1 := by rw [hW1]; exact below_alloc _ _
  have hbx : W1.heap[W.heap.size]? = some (.cells #[.int .i64 va, str vx, .bool vz] 93 (0, 0)) := by rw [hW1]; exact heap_alloc_new _ _
  have HS1 := Lib.hid (h.below hb1)
  have HKS : Hid (∀ W', Below W1.heap.size W1 W' → SAd b W.heap.size va low W') := Lib.hid (fun W' hb => ⟨by have := box_upR hbx hb; simp [World.cell?, this], ((HS1.out.below hb).cells).2.1⟩)
  have CL := Lib.hid (fun W' (hb : Below W1.heap.size W1 W') => by have := rlast_any (HS1.out.below hb) (by omega) (fun r hr => by have := hc r hr; omega) key; rw [← hLA] at this; exact this)
  have HBW := Lib.hid hb1
  have B0 := Lib.hid (show Below W1.heap.size W1 W1.drew from Below.drewsN (Below.refl _ _) 1)
  clear hb1 hLA
  have z3 : decide (va ≤ LA) = false := decide_eq_false (by rw [← HLA.out]; exact h3)
  have z4 : decide (va < low) = false := decide_eq_false h4
  have HBX := Lib.hid hbx
  have CF := Lib.hid (fun W' (hb : Below W1.heap.size W1 W') => rfind_any (HS1.out.below hb) (by omega) key)
  have HBLK := Lib.hid (fun k (hk : BlkR b vo k) => show k ≠ W.heap.size by have := h.blk k hk; omega)
  have HCL := Lib.hid hc
  have HB0 := Lib.hid (show B ≤ W.heap.size by have := h.lt; have := h.blt; omega)
  clear h hc h1 h2 h3 h4 hbx
  go_enter Try.func48, Try.ntmps48
  go_wp2_with fail
  rw [← hW1]
  clear hW1
  refine wp_region_held_drew (S := SAd b W.heap.size va low) (by kernel_rfl) (HKS.out _ B0.out) (fun hHeld => ?_)
  refine wpAnyH_take (i := 0) (v := ?v136) rfl (by kernel_rfl) (by kernel_rfl) (by kernel_rfl) (fun _ _ _ h => h) (Or.inl ⟨by rfl, ?hy136⟩) (by assumption) ?_
  case hy136 => (intro w hSw; clear hSw; go_simp; try with_reducible rfl)
  go_simp
  refine wpAnyH_take (i := 1) (v := ?v137) rfl (by kernel_rfl) (by kernel_rfl) (by kernel_rfl) (fun _ _ _ h => h) (Or.inl ⟨by rfl, ?hy137⟩) (by assumption) ?_
  case hy137 => (intro w hSw; obtain ⟨hs0, hs1⟩ := hSw; go_simp; try with_reducible rfl)
  go_simp
  refine wpAnyH_take (i := 2) (v := ?v138) rfl (by kernel_rfl) (by kernel_rfl) (by kernel_rfl) (fun _ _ _ h => h) (Or.inl ⟨by rfl, ?hy138⟩) (by assumption) ?_
  case hy138 => (intro w hSw; clear hSw; go_simp; try with_reducible rfl)
  go_simp
  refine wpAnyH_take (i := 3) (v := ?v139) rfl (by kernel_rfl) (by kernel_rfl) (by kernel_rfl) (fun _ _ _ h => h) (Or.inl ⟨by rfl, ?hy139⟩) (by assumption) ?_
  case hy139 => (intro w hSw; clear hSw; go_simp; try with_reducible rfl)
  go_simp
  refine wpAnyH_ready (rs := [4]) (by kernel_rfl) (by simp) (AllReadyH.cons rfl (fun K hK => ?_) AllReadyH.nil)
  go_simp
  refine (CL.out _ B0.out).mono ?_
  rintro e wl ⟨rfl, hb⟩
  have BL := Lib.hid (B0.out.trans (hb.mono B0.out.size))
  clear hb
  go_simp
  refine hK.out _ _ (HKS.out _ BL.out) (fun hHeld => ?_)
  clear hK K
  refine wpAnyH_take (i := 5) (v := ?v140) rfl (by kernel_rfl) (by kernel_rfl) (by kernel_rfl) (fun _ _ _ h => h) (Or.inl ⟨by rfl, ?hy140⟩) (by assumption) ?_
  case hy140 => (intro w hSw; clear hSw; go_simp; try with_reducible rfl)
  go_simp
  refine wpAnyH_take (i := 6) (v := ?v141) rfl (by kernel_rfl) (by kernel_rfl) (by kernel_rfl) (fun _ _ _ h => h) (Or.inl ⟨by rfl, ?hy141⟩) (by assumption) ?_
  case hy141 => (intro w hSw; clear hSw; go_simp; try with_reducible rfl)
  go_simp
  refine wpAnyH_take (i := 7) (v := ?v142) rfl (by kernel_rfl) (by kernel_rfl) (by kernel_rfl) (fun _ _ _ h => h) (Or.inl ⟨by rfl, ?hy142⟩) (by assumption) ?_
  case hy142 => (intro w hSw; clear hSw; go_simp; try with_reducible rfl)
  go_simp
  refine wpAnyH_take (i := 8) (v := ?v143) rfl (by kernel_rfl) (by kernel_rfl) (by kernel_rfl) (fun _ _ _ h => h) (Or.inl ⟨by rfl, ?hy143⟩) (by assumption) ?_
  case hy143 => (intro w hSw; obtain ⟨hs0, hs1⟩ := hSw; go_simp; try with_reducible rfl)
  go_simp
  refine wpAnyH_take (i := 9) (v := ?v144) rfl (by kernel_rfl) (by kernel_rfl) (by kernel_rfl) (fun _ _ _ h => h) (Or.inl ⟨by rfl, ?hy144⟩) (by assumption) ?_
  case hy144 => (intro w hSw; clear hSw; go_simp; try with_reducible rfl)
  go_simp
  refine wpAnyH_take (i := 10) (v := ?v145) rfl (by kernel_rfl) (by kernel_rfl) (by kernel_rfl) (fun _ _ _ h => h) (Or.inl ⟨by rfl, ?hy145⟩) (by assumption) ?_
  case hy145 => (intro w hSw; clear hSw; go_simp; try with_reducible rfl)
  go_simp
  refine wpAnyH_take (i := 11) (v := ?v146) rfl (by kernel_rfl) (by kernel_rfl) (by kernel_rfl) (fun _ _ _ h => h) (Or.inl ⟨by rfl, ?hy146⟩) (by assumption) ?_
  case hy146 => (intro w hSw; clear hSw; go_simp; try with_reducible rfl)
  go_simp
  refine wpAnyH_take (i := 12) (v := ?v147) rfl (by kernel_rfl) (by kernel_rfl) (by kernel_rfl) (fun _ _ _ h => h) (Or.inl ⟨by rfl, ?hy147⟩) (by assumption) ?_
  case hy147 => (intro w hSw; obtain ⟨hs0, hs1⟩ := hSw; go_simp; try with_reducible rfl)
  go_simp
  refine wpAnyH_take (i := 13) (v := ?v148) rfl (by kernel_rfl) (by kernel_rfl) (by kernel_rfl) (fun _ _ _ h => h) (Or.inl ⟨by rfl, ?hy148⟩) (by assumption) ?_
  case hy148 => (intro w hSw; clear hSw; go_simp; try with_reducible rfl)
  go_simp
  refine wpAnyH_take (i := 14) (v := ?v149) rfl (by kernel_rfl) (by kernel_rfl) (by kernel_rfl) (fun _ _ _ h => h) (Or.inl ⟨by rfl, ?hy149⟩) (by assumption) ?_
  case hy149 => (intro w hSw; clear hSw; go_simp; try with_reducible rfl)
  go_simp
  refine wpAnyH_done (by kernel_rfl) ?_ _
  have HRL := Lib.hid (And.intro (HS1.out.below BL.out) (And.intro (HBW.out.trans (BL.out.mono HBW.out.size)) (box_upR HBX.out BL.out)))
  have CF2 := Lib.hid (CF.out _ BL.out)
  clear HKS CL HS1 CF BL B0 HBX HBW hHeld
  go_wp2_with fail
  refine CF2.out.mono ?_
  rintro e w5 ⟨p, zb, rfl, hp, hz, hb5⟩
  have HR5 := Lib.hid (And.intro (HRL.out.1.below hb5) (And.intro (HRL.out.2.1.trans (hb5.mono HRL.out.2.1.size)) (box_upR HRL.out.2.2 hb5)))
  have HP := Lib.hid (And.intro hp hz)
  clear hp hz hb5 HRL CF2
  have HVL := Lib.hid (ver_len HR5.out.1 HP.out.1 HCL.out)
  go_upto_if 39 with fail
  go_cut [] from 40 to 59 (fun wc => ∃ (g cap : Nat) (R2 : List RRow), Hid (MidA W B b vo R low key va vx vz p g cap R2 wc))
  case first =>
    cases zb with
    | true =>
      obtain ⟨hq, hk⟩ := HP.out.2.1 rfl
      have HM := midA_yes HR5.out.1 HP.out.1 hq hk HR5.out.2.1 HR5.out.2.2
      have HM := Lib.hid HM
      clear HP HR5 hq hk HCL HC0
      go_wp2_with fail
      go_meet
      case rel => exact HM.out
    | false =>
      have hno : ¬ ∃ hq : p < R.length, R[p].1 = key := fun e => Bool.noConfusion (HP.out.2.2 e)
      have hpB := HP.out.1
      have hpl : p ≤ R.length := by have := hpB.le; rwa [chR_len] at this
      have HBW := Lib.hid HR5.out.2.1
      have HX5 := Lib.hid HR5.out.2.2
      have HR := Lib.hid HR5.out.1
      clear HR5 HP HCL HC0
      obtain ⟨i1, hj, hy0, hy1, hy2⟩ := info_parts infoRr
      go_upto_region 7 with fail
      refine only_normal ?_
      refine wp_region_held_drew (S := fun _ => True) (by kernel_rfl) trivial (fun hHeld => ?_)
      obtain ⟨W3, hW3⟩ : ∃ x, x = w5 := ⟨_, rfl⟩
      rw [← hW3] at HR HBW HX5
      obtain ⟨wc, hwc⟩ : ∃ x, x = w5.drew := ⟨_, rfl⟩
      have HB := Lib.hid (show Below W3.heap.size W3 wc by rw [hwc, hW3]; exact Below.drewsN (Below.refl _ _) 1)
      rw [← hwc]
      clear hwc hHeld
      have hHeld : True := trivial
      clear hW3
      rcases HR.out.row.2 with ⟨hv, h0⟩ | ⟨g, cap, cur, hv, -, -, hcap, -⟩
      · obtain rfl := List.eq_nil_of_length_eq_zero h0
        subst hv
        obtain rfl : p = 0 := by simpa using hpl
        clear h0
        refine wpAnyH_take (i := 0) (v := ?v29) rfl (by kernel_rfl) (by kernel_rfl) (by kernel_rfl) (fun _ _ _ h => h) (Or.inl ⟨by rfl, ?hy29⟩) (by assumption) ?_
        case hy29 => (intro w hSw; clear hSw; go_simp; try with_reducible rfl)
        go_simp
        refine wpAnyH_take (i := 1) (v := ?v30) rfl (by kernel_rfl) (by kernel_rfl) (by kernel_rfl) (fun _ _ _ h => h) (Or.inl ⟨by rfl, ?hy30⟩) (by assumption) ?_
        case hy30 => (intro w hSw; clear hSw; go_simp; try with_reducible rfl)
        go_simp
        refine wpAnyH_take (i := 2) (v := ?v31) rfl (by kernel_rfl) (by kernel_rfl) (by kernel_rfl) (fun _ _ _ h => h) (Or.inl ⟨by rfl, ?hy31⟩) (by assumption) ?_
        case hy31 => (intro w hSw; clear hSw; go_simp; try with_reducible rfl)
        go_simp
        refine wpAnyH_take (i := 3) (v := ?v32) rfl (by kernel_rfl) (by kernel_rfl) (by kernel_rfl) (fun _ _ _ h => h) (Or.inl ⟨by rfl, ?hy32⟩) (by assumption) ?_
        case hy32 => (intro w hSw; clear hSw; go_simp; try with_reducible rfl)
        go_simp
        refine wpAnyH_take (i := 5) (v := ?v33) rfl (by kernel_rfl) (by kernel_rfl) (by kernel_rfl) (fun _ _ _ h => h) (Or.inl ⟨by rfl, ?hy33⟩) (by assumption) ?_
        case hy33 => (intro w hSw; clear hSw; go_simp; try with_reducible rfl)
        go_simp
        refine wpAnyH_take (i := 7) (v := ?v34) rfl (by kernel_rfl) (by kernel_rfl) (by kernel_rfl) (fun _ _ _ h => h) (Or.inl ⟨by rfl, ?hy34⟩) (by assumption) ?_
        case hy34 => (intro w hSw; clear hSw; go_simp; try with_reducible rfl)
        go_simp
        refine wpAnyH_take (i := 8) (v := ?v35) rfl (by kernel_rfl) (by kernel_rfl) (by kernel_rfl) (fun _ _ _ h => h) (Or.inl ⟨by rfl, ?hy35⟩) (by assumption) ?_
        case hy35 => (intro w hSw; clear hSw; go_simp; try with_reducible rfl)
        go_simp
        refine wpAnyH_take (i := 10) (v := ?v36) rfl (by kernel_rfl) (by kernel_rfl) (by kernel_rfl) (fun _ _ _ h => h) (Or.inl ⟨by rfl, ?hy36⟩) (by assumption) ?_
        case hy36 => (intro w hSw; clear hSw; go_simp; try with_reducible rfl)
        go_simp
        refine wpAnyH_take (i := 11) (v := ?v37) rfl (by kernel_rfl) (by kernel_rfl) (by kernel_rfl) (fun _ _ _ h => h) (Or.inl ⟨by rfl, ?hy37⟩) (by assumption) ?_
        case hy37 => (intro w hSw; clear hSw; go_simp; try with_reducible rfl)
        go_simp
        refine wpAnyH_take (i := 12) (v := ?v38) rfl (by kernel_rfl) (by kernel_rfl) (by kernel_rfl) (fun _ _ _ h => h) (Or.inl ⟨by rfl, ?hy38⟩) (by assumption) ?_
        case hy38 => (intro w hSw; clear hSw; go_simp; try with_reducible rfl)
        go_simp
        refine wpAnyH_take (i := 14) (v := ?v39) rfl (by kernel_rfl) (by kernel_rfl) (by kernel_rfl) (fun _ _ _ h => h) (Or.inl ⟨by rfl, ?hy39⟩) (by assumption) ?_
        case hy39 => (intro w hSw; clear hSw; go_simp; try with_reducible rfl)
        go_simp
        refine wpAnyH_ready (rs := [4, 9, 13]) (by kernel_rfl) (by simp) (AllReadyH.cons rfl (fun K hK => ?_) (AllReadyH.cons rfl (fun K hK => ?_) (AllReadyH.cons rfl (fun K hK => ?_) AllReadyH.nil)))
        · have cq := (HR.out.below HB.out).cells.1
          go_simp
          clear cq
          refine hK.out _ _ (trivial) (fun hHeld => ?_)
          clear hK K
          refine wpAnyH_take (i := 6) (v := ?v40) rfl (by kernel_rfl) (by kernel_rfl) (by kernel_rfl) (fun _ _ _ h => h) (Or.inl ⟨by rfl, ?hy40⟩) (by assumption) ?_
          case hy40 => (intro w hSw; clear hSw; go_simp; try with_reducible rfl)
          go_simp
          refine wpAnyH_ready (rs := [9, 13]) (by kernel_rfl) (by simp) (AllReadyH.cons rfl (fun K hK => ?_) (AllReadyH.cons rfl (fun K hK => ?_) AllReadyH.nil))
          · go_simp
            obtain ⟨k9, hk9⟩ : ∃ k, k = wc.heap.size := ⟨_, rfl⟩
            obtain ⟨wd, hwd⟩ : ∃ W, W = wc.alloc (.cells #[str key, .slice none 0 0] 118) := ⟨_, rfl⟩
            have hbs : Below wc.heap.size wc wd := by rw [hwd]; exact below_alloc _ _
            have HL9 := Lib.hid (show wd.ownsRow W3.heap.size 118 2 (.slice (some ⟨k9, 0, none⟩) 1 1) 1 [str key, .slice none 0 0] by rw [hwd, hk9]; exact World.ownsRow_lit (e := 118) (size := 2) wc #[str key, .slice none 0 0] 1 HB.out.size (by decide) rfl)
            have HB := Lib.hid (HB.out.trans (hbs.mono HB.out.size))
            rw [← hwd, ← hk9]
            clear hwd hk9 hbs
            rename World => wc
            refine hK.out _ _ (trivial) (fun hHeld => ?_)
            clear hK K
            refine wpAnyH_ready (rs := [13]) (by kernel_rfl) (by simp) (AllReadyH.cons rfl (fun K hK => ?_) AllReadyH.nil)
            have cq := (HR.out.below HB.out).cells.1
            go_simp
            clear cq
            refine hK.out _ _ (trivial) (fun hHeld => ?_)
            clear hK K
            refine wpAnyH_take (i := 15) (v := ?v41) rfl (by kernel_rfl) (by kernel_rfl) (by kernel_rfl) (fun _ _ _ h => h) (Or.inl ⟨by rfl, ?hy41⟩) (by assumption) ?_
            case hy41 => (intro w hSw; clear hSw; go_simp; try with_reducible rfl)
            go_simp
            refine wpAnyH_ready (rs := [16]) (by kernel_rfl) (by simp) (AllReadyH.cons rfl (fun K hK => ?_) AllReadyH.nil)
            refine step_appendG (by rfl) _ _ 67 (by rfl) W3.heap.size 118 i1 _ 2 40 Try.underlying67 hj hy0 hy1 hy2 rfl (by decide) k9 1 1 _ (by rfl) HL9.out _ (List.map cellsR []) (cellsR_len _) (by simp) (by rfl) ((show RdF 2 wc (.slice none 0 0) (List.map cellsR []) from ⟨none, 0, rfl, by simp, by simp, by simp, fun h => absurd rfl h⟩)) (fun c h => by cases h; rfl) ?_ ?_ HB.out.size ?_
            · simp [maxLen]
            · simp
            intro g16 c16 wd r16 gr16
            have HB := Lib.hid (HB.out.grown gr16 HB.out.size (fun k e => by cases e; exact (HL9.out.lt k9 rfl).1))
            have HR16 := Lib.hid (ins_rowR (R := []) (p := 0) r16)
            clear r16 gr16
            rename World => wc
            go_simp
            refine hK.out _ _ (trivial) (fun hHeld => ?_)
            clear hK K
            refine wpAnyH_ready (rs := [17]) (by kernel_rfl) (by simp) (AllReadyH.cons rfl (fun K hK => ?_) AllReadyH.nil)
            refine step_appendH (by rfl) _ _ 67 (by rfl) B 118 i1 _ 2 40 Try.underlying67 hj hy0 hy1 hy2 rfl (by decide) (.slice none 0 0) 0 [] (by rfl) (World.ownsRow_nil _ _ _ _) _ ((newR key :: List.drop 0 []).map cellsR) (cellsR_len _) (one_newR (R := []) (fun r h => by cases h) key 0) (by rfl) (HR16.out _ (by first | omega | simp)) (by simp) ?_ ?_ (Nat.le_trans HB0.out (Nat.le_trans HBW.out.size HB.out.size)) ?_
            · simp [maxLen]
            · simp
            intro g17 c17 wd r17 gr17 lo17
            have HI := Lib.hid (HR.out.ins hpB hno (ins_one r17) ((Frm.of_below HB.out).trans (Frm.of_grown gr17 (fun k e => e)) (fun _ _ h => h)))
            have HLO := Lib.hid (show (Value.slice none 0 0).ownBlock = some g17 ∨ W3.heap.size ≤ g17 from lo17.imp id (fun e => by rw [e]; exact HB.out.size))
            clear r17 gr17 lo17
            rename World => wc
            go_simp
            refine hK.out _ _ (trivial) (fun hHeld => ?_)
            clear hK K
            refine wpAnyH_take (i := 18) (v := ?v42) rfl (by kernel_rfl) (by kernel_rfl) (by kernel_rfl) (fun _ _ _ h => h) (Or.inl ⟨by rfl, ?hy42⟩) (by assumption) ?_
            case hy42 => (intro w hSw; clear hSw; go_simp; try with_reducible rfl)
            go_simp
            refine wpAnyH_take (i := 19) (v := ?v43) rfl (by kernel_rfl) (by kernel_rfl) (by kernel_rfl) (fun _ _ _ h => h) (Or.inl ⟨by rfl, ?hy43⟩) (by assumption) ?_
            case hy43 => (intro w hSw; clear hSw; go_simp; try with_reducible rfl)
            go_simp
            refine wpAnyH_ready (rs := [20]) (by kernel_rfl) (by simp) (AllReadyH.cons rfl (fun K hK => ?_) AllReadyH.nil)
            have cq := HI.out.2.2.1
            have fq := HI.out.2.2.2
            go_simp
            clear cq fq
            refine hK.out _ _ (trivial) (fun hHeld => ?_)
            clear hK K
            refine wpAnyH_done (by kernel_rfl) ?_ _
            dsimp only [OnlyN]
            go_wp2_with fail
            all_goals (go_meet; case rel => exact ⟨_, _, _, Lib.hid (midA_no HR.out hpB hno HBW.out HX5.out ⟨HI.out.1, HI.out.2.1⟩ HLO.out HBLK.out)⟩)
          · have cq := (HR.out.below HB.out).cells.1
            go_simp
            clear cq
            refine hK.out _ _ (trivial) (fun hHeld => ?_)
            clear hK K
            refine wpAnyH_take (i := 15) (v := ?v44) rfl (by kernel_rfl) (by kernel_rfl) (by kernel_rfl) (fun _ _ _ h => h) (Or.inl ⟨by rfl, ?hy44⟩) (by assumption) ?_
            case hy44 => (intro w hSw; clear hSw; go_simp; try with_reducible rfl)
            go_simp
            refine wpAnyH_ready (rs := [9]) (by kernel_rfl) (by simp) (AllReadyH.cons rfl (fun K hK => ?_) AllReadyH.nil)
            go_simp
            obtain ⟨k9, hk9⟩ : ∃ k, k = wc.heap.size := ⟨_, rfl⟩
            obtain ⟨wd, hwd⟩ : ∃ W, W = wc.alloc (.cells #[str key, .slice none 0 0] 118) := ⟨_, rfl⟩
            have hbs : Below wc.heap.size wc wd := by rw [hwd]; exact below_alloc _ _
            have HL9 := Lib.hid (show wd.ownsRow W3.heap.size 118 2 (.slice (some ⟨k9, 0, none⟩) 1 1) 1 [str key, .slice none 0 0] by rw [hwd, hk9]; exact World.ownsRow_lit (e := 118) (size := 2) wc #[str key, .slice none 0 0] 1 HB.out.size (by decide) rfl)
            have HB := Lib.hid (HB.out.trans (hbs.mono HB.out.size))
            rw [← hwd, ← hk9]
            clear hwd hk9 hbs
            rename World => wc
            refine hK.out _ _ (trivial) (fun hHeld => ?_)
            clear hK K
            refine wpAnyH_ready (rs := [16]) (by kernel_rfl) (by simp) (AllReadyH.cons rfl (fun K hK => ?_) AllReadyH.nil)
            refine step_appendG (by rfl) _ _ 67 (by rfl) W3.heap.size 118 i1 _ 2 40 Try.underlying67 hj hy0 hy1 hy2 rfl (by decide) k9 1 1 _ (by rfl) HL9.out _ (List.map cellsR []) (cellsR_len _) (by simp) (by rfl) ((show RdF 2 wc (.slice none 0 0) (List.map cellsR []) from ⟨none, 0, rfl, by simp, by simp, by simp, fun h => absurd rfl h⟩)) (fun c h => by cases h; rfl) ?_ ?_ HB.out.size ?_
            · simp [maxLen]
            · simp
            intro g16 c16 wd r16 gr16
            have HB := Lib.hid (HB.out.grown gr16 HB.out.size (fun k e => by cases e; exact (HL9.out.lt k9 rfl).1))
            have HR16 := Lib.hid (ins_rowR (R := []) (p := 0) r16)
            clear r16 gr16
            rename World => wc
            go_simp
            refine hK.out _ _ (trivial) (fun hHeld => ?_)
            clear hK K
            refine wpAnyH_ready (rs := [17]) (by kernel_rfl) (by simp) (AllReadyH.cons rfl (fun K hK => ?_) AllReadyH.nil)
            refine step_appendH (by rfl) _ _ 67 (by rfl) B 118 i1 _ 2 40 Try.underlying67 hj hy0 hy1 hy2 rfl (by decide) (.slice none 0 0) 0 [] (by rfl) (World.ownsRow_nil _ _ _ _) _ ((newR key :: List.drop 0 []).map cellsR) (cellsR_len _) (one_newR (R := []) (fun r h => by cases h) key 0) (by rfl) (HR16.out _ (by first | omega | simp)) (by simp) ?_ ?_ (Nat.le_trans HB0.out (Nat.le_trans HBW.out.size HB.out.size)) ?_
            · simp [maxLen]
            · simp
            intro g17 c17 wd r17 gr17 lo17
            have HI := Lib.hid (HR.out.ins hpB hno (ins_one r17) ((Frm.of_below HB.out).trans (Frm.of_grown gr17 (fun k e => e)) (fun _ _ h => h)))
            have HLO := Lib.hid (show (Value.slice none 0 0).ownBlock = some g17 ∨ W3.heap.size ≤ g17 from lo17.imp id (fun e => by rw [e]; exact HB.out.size))
            clear r17 gr17 lo17
            rename World => wc
            go_simp
            refine hK.out _ _ (trivial) (fun hHeld => ?_)
            clear hK K
            refine wpAnyH_take (i := 18) (v := ?v45) rfl (by kernel_rfl) (by kernel_rfl) (by kernel_rfl) (fun _ _ _ h => h) (Or.inl ⟨by rfl, ?hy45⟩) (by assumption) ?_
            case hy45 => (intro w hSw; clear hSw; go_simp; try with_reducible rfl)
            go_simp
            refine wpAnyH_take (i := 19) (v := ?v46) rfl (by kernel_rfl) (by kernel_rfl) (by kernel_rfl) (fun _ _ _ h => h) (Or.inl ⟨by rfl, ?hy46⟩) (by assumption) ?_
            case hy46 => (intro w hSw; clear hSw; go_simp; try with_reducible rfl)
            go_simp
            refine wpAnyH_ready (rs := [20]) (by kernel_rfl) (by simp) (AllReadyH.cons rfl (fun K hK => ?_) AllReadyH.nil)
            have cq := HI.out.2.2.1
            have fq := HI.out.2.2.2
            go_simp
            clear cq fq
            refine hK.out _ _ (trivial) (fun hHeld => ?_)
            clear hK K
            refine wpAnyH_done (by kernel_rfl) ?_ _
            dsimp only [OnlyN]
            go_wp2_with fail
            all_goals (go_meet; case rel => exact ⟨_, _, _, Lib.hid (midA_no HR.out hpB hno HBW.out HX5.out ⟨HI.out.1, HI.out.2.1⟩ HLO.out HBLK.out)⟩)
        · go_simp
          obtain ⟨k9, hk9⟩ : ∃ k, k = wc.heap.size := ⟨_, rfl⟩
          obtain ⟨wd, hwd⟩ : ∃ W, W = wc.alloc (.cells #[str key, .slice none 0 0] 118) := ⟨_, rfl⟩
          have hbs : Below wc.heap.size wc wd := by rw [hwd]; exact below_alloc _ _
          have HL9 := Lib.hid (show wd.ownsRow W3.heap.size 118 2 (.slice (some ⟨k9, 0, none⟩) 1 1) 1 [str key, .slice none 0 0] by rw [hwd, hk9]; exact World.ownsRow_lit (e := 118) (size := 2) wc #[str key, .slice none 0 0] 1 HB.out.size (by decide) rfl)
          have HB := Lib.hid (HB.out.trans (hbs.mono HB.out.size))
          rw [← hwd, ← hk9]
          clear hwd hk9 hbs
          rename World => wc
          refine hK.out _ _ (trivial) (fun hHeld => ?_)
          clear hK K
          refine wpAnyH_ready (rs := [4, 13]) (by kernel_rfl) (by simp) (AllReadyH.cons rfl (fun K hK => ?_) (AllReadyH.cons rfl (fun K hK => ?_) AllReadyH.nil))
          · have cq := (HR.out.below HB.out).cells.1
            go_simp
            clear cq
            refine hK.out _ _ (trivial) (fun hHeld => ?_)
            clear hK K
            refine wpAnyH_take (i := 6) (v := ?v47) rfl (by kernel_rfl) (by kernel_rfl) (by kernel_rfl) (fun _ _ _ h => h) (Or.inl ⟨by rfl, ?hy47⟩) (by assumption) ?_
            case hy47 => (intro w hSw; clear hSw; go_simp; try with_reducible rfl)
            go_simp
            refine wpAnyH_ready (rs := [13]) (by kernel_rfl) (by simp) (AllReadyH.cons rfl (fun K hK => ?_) AllReadyH.nil)
            have cq := (HR.out.below HB.out).cells.1
            go_simp
            clear cq
            refine hK.out _ _ (trivial) (fun hHeld => ?_)
            clear hK K
            refine wpAnyH_take (i := 15) (v := ?v48) rfl (by kernel_rfl) (by kernel_rfl) (by kernel_rfl) (fun _ _ _ h => h) (Or.inl ⟨by rfl, ?hy48⟩) (by assumption) ?_
            case hy48 => (intro w hSw; clear hSw; go_simp; try with_reducible rfl)
            go_simp
            refine wpAnyH_ready (rs := [16]) (by kernel_rfl) (by simp) (AllReadyH.cons rfl (fun K hK => ?_) AllReadyH.nil)
            refine step_appendG (by rfl) _ _ 67 (by rfl) W3.heap.size 118 i1 _ 2 40 Try.underlying67 hj hy0 hy1 hy2 rfl (by decide) k9 1 1 _ (by rfl) HL9.out _ (List.map cellsR []) (cellsR_len _) (by simp) (by rfl) ((show RdF 2 wc (.slice none 0 0) (List.map cellsR []) from ⟨none, 0, rfl, by simp, by simp, by simp, fun h => absurd rfl h⟩)) (fun c h => by cases h; rfl) ?_ ?_ HB.out.size ?_
            · simp [maxLen]
            · simp
            intro g16 c16 wd r16 gr16
            have HB := Lib.hid (HB.out.grown gr16 HB.out.size (fun k e => by cases e; exact (HL9.out.lt k9 rfl).1))
            have HR16 := Lib.hid (ins_rowR (R := []) (p := 0) r16)
            clear r16 gr16
            rename World => wc
            go_simp
            refine hK.out _ _ (trivial) (fun hHeld => ?_)
            clear hK K
            refine wpAnyH_ready (rs := [17]) (by kernel_rfl) (by simp) (AllReadyH.cons rfl (fun K hK => ?_) AllReadyH.nil)
            refine step_appendH (by rfl) _ _ 67 (by rfl) B 118 i1 _ 2 40 Try.underlying67 hj hy0 hy1 hy2 rfl (by decide) (.slice none 0 0) 0 [] (by rfl) (World.ownsRow_nil _ _ _ _) _ ((newR key :: List.drop 0 []).map cellsR) (cellsR_len _) (one_newR (R := []) (fun r h => by cases h) key 0) (by rfl) (HR16.out _ (by first | omega | simp)) (by simp) ?_ ?_ (Nat.le_trans HB0.out (Nat.le_trans HBW.out.size HB.out.size)) ?_
            · simp [maxLen]
            · simp
            intro g17 c17 wd r17 gr17 lo17
            have HI := Lib.hid (HR.out.ins hpB hno (ins_one r17) ((Frm.of_below HB.out).trans (Frm.of_grown gr17 (fun k e => e)) (fun _ _ h => h)))
            have HLO := Lib.hid (show (Value.slice none 0 0).ownBlock = some g17 ∨ W3.heap.size ≤ g17 from lo17.imp id (fun e => by rw [e]; exact HB.out.size))
            clear r17 gr17 lo17
            rename World => wc
            go_simp
            refine hK.out _ _ (trivial) (fun hHeld => ?_)
            clear hK K
            refine wpAnyH_take (i := 18) (v := ?v49) rfl (by kernel_rfl) (by kernel_rfl) (by kernel_rfl) (fun _ _ _ h => h) (Or.inl ⟨by rfl, ?hy49⟩) (by assumption) ?_
            case hy49 => (intro w hSw; clear hSw; go_simp; try with_reducible rfl)
            go_simp
            refine wpAnyH_take (i := 19) (v := ?v50) rfl (by kernel_rfl) (by kernel_rfl) (by kernel_rfl) (fun _ _ _ h => h) (Or.inl ⟨by rfl, ?hy50⟩) (by assumption) ?_
            case hy50 => (intro w hSw; clear hSw; go_simp; try with_reducible rfl)
            go_simp
            refine wpAnyH_ready (rs := [20]) (by kernel_rfl) (by simp) (AllReadyH.cons rfl (fun K hK => ?_) AllReadyH.nil)
            have cq := HI.out.2.2.1
            have fq := HI.out.2.2.2
            go_simp
            clear cq fq
            refine hK.out _ _ (trivial) (fun hHeld => ?_)
            clear hK K
            refine wpAnyH_done (by kernel_rfl) ?_ _
            dsimp only [OnlyN]
            go_wp2_with fail
            all_goals (go_meet; case rel => exact ⟨_, _, _, Lib.hid (midA_no HR.out hpB hno HBW.out HX5.out ⟨HI.out.1, HI.out.2.1⟩ HLO.out HBLK.out)⟩)
          · have cq := (HR.out.below HB.out).cells.1
            go_simp
            clear cq
            refine hK.out _ _ (trivial) (fun hHeld => ?_)
            clear hK K
            refine wpAnyH_take (i := 15) (v := ?v51) rfl (by kernel_rfl) (by kernel_rfl) (by kernel_rfl) (fun _ _ _ h => h) (Or.inl ⟨by rfl, ?hy51⟩) (by assumption) ?_
            case hy51 => (intro w hSw; clear hSw; go_simp; try with_reducible rfl)
            go_simp
            refine wpAnyH_ready (rs := [4, 16]) (by kernel_rfl) (by simp) (AllReadyH.cons rfl (fun K hK => ?_) (AllReadyH.cons rfl (fun K hK => ?_) AllReadyH.nil))
            · have cq := (HR.out.below HB.out).cells.1
              go_simp
              clear cq
              refine hK.out _ _ (trivial) (fun hHeld => ?_)
              clear hK K
              refine wpAnyH_take (i := 6) (v := ?v52) rfl (by kernel_rfl) (by kernel_rfl) (by kernel_rfl) (fun _ _ _ h => h) (Or.inl ⟨by rfl, ?hy52⟩) (by assumption) ?_
              case hy52 => (intro w hSw; clear hSw; go_simp; try with_reducible rfl)
              go_simp
              refine wpAnyH_ready (rs := [16]) (by kernel_rfl) (by simp) (AllReadyH.cons rfl (fun K hK => ?_) AllReadyH.nil)
              refine step_appendG (by rfl) _ _ 67 (by rfl) W3.heap.size 118 i1 _ 2 40 Try.underlying67 hj hy0 hy1 hy2 rfl (by decide) k9 1 1 _ (by rfl) HL9.out _ (List.map cellsR []) (cellsR_len _) (by simp) (by rfl) ((show RdF 2 wc (.slice none 0 0) (List.map cellsR []) from ⟨none, 0, rfl, by simp, by simp, by simp, fun h => absurd rfl h⟩)) (fun c h => by cases h; rfl) ?_ ?_ HB.out.size ?_
              · simp [maxLen]
              · simp
              intro g16 c16 wd r16 gr16
              have HB := Lib.hid (HB.out.grown gr16 HB.out.size (fun k e => by cases e; exact (HL9.out.lt k9 rfl).1))
              have HR16 := Lib.hid (ins_rowR (R := []) (p := 0) r16)
              clear r16 gr16
              rename World => wc
              go_simp
              refine hK.out _ _ (trivial) (fun hHeld => ?_)
              clear hK K
              refine wpAnyH_ready (rs := [17]) (by kernel_rfl) (by simp) (AllReadyH.cons rfl (fun K hK => ?_) AllReadyH.nil)
              refine step_appendH (by rfl) _ _ 67 (by rfl) B 118 i1 _ 2 40 Try.underlying67 hj hy0 hy1 hy2 rfl (by decide) (.slice none 0 0) 0 [] (by rfl) (World.ownsRow_nil _ _ _ _) _ ((newR key :: List.drop 0 []).map cellsR) (cellsR_len _) (one_newR (R := []) (fun r h => by cases h) key 0) (by rfl) (HR16.out _ (by first | omega | simp)) (by simp) ?_ ?_ (Nat.le_trans HB0.out (Nat.le_trans HBW.out.size HB.out.size)) ?_
              · simp [maxLen]
              · simp
              intro g17 c17 wd r17 gr17 lo17
              have HI := Lib.hid (HR.out.ins hpB hno (ins_one r17) ((Frm.of_below HB.out).trans (Frm.of_grown gr17 (fun k e => e)) (fun _ _ h => h)))
              have HLO := Lib.hid (show (Value.slice none 0 0).ownBlock = some g17 ∨ W3.heap.size ≤ g17 from lo17.imp id (fun e => by rw [e]; exact HB.out.size))
              clear r17 gr17 lo17
              rename World => wc
              go_simp
              refine hK.out _ _ (trivial) (fun hHeld => ?_)
              clear hK K
              refine wpAnyH_take (i := 18) (v := ?v53) rfl (by kernel_rfl) (by kernel_rfl) (by kernel_rfl) (fun _ _ _ h => h) (Or.inl ⟨by rfl, ?hy53⟩) (by assumption) ?_
              case hy53 => (intro w hSw; clear hSw; go_simp; try with_reducible rfl)
              go_simp
              refine wpAnyH_take (i := 19) (v := ?v54) rfl (by kernel_rfl) (by kernel_rfl) (by kernel_rfl) (fun _ _ _ h => h) (Or.inl ⟨by rfl, ?hy54⟩) (by assumption) ?_
              case hy54 => (intro w hSw; clear hSw; go_simp; try with_reducible rfl)
              go_simp
              refine wpAnyH_ready (rs := [20]) (by kernel_rfl) (by simp) (AllReadyH.cons rfl (fun K hK => ?_) AllReadyH.nil)
              have cq := HI.out.2.2.1
              have fq := HI.out.2.2.2
              go_simp
              clear cq fq
              refine hK.out _ _ (trivial) (fun hHeld => ?_)
              clear hK K
              refine wpAnyH_done (by kernel_rfl) ?_ _
              dsimp only [OnlyN]
              go_wp2_with fail
              all_goals (go_meet; case rel => exact ⟨_, _, _, Lib.hid (midA_no HR.out hpB hno HBW.out HX5.out ⟨HI.out.1, HI.out.2.1⟩ HLO.out HBLK.out)⟩)
            · refine step_appendG (by rfl) _ _ 67 (by rfl) W3.heap.size 118 i1 _ 2 40 Try.underlying67 hj hy0 hy1 hy2 rfl (by decide) k9 1 1 _ (by rfl) HL9.out _ (List.map cellsR []) (cellsR_len _) (by simp) (by rfl) ((show RdF 2 wc (.slice none 0 0) (List.map cellsR []) from ⟨none, 0, rfl, by simp, by simp, by simp, fun h => absurd rfl h⟩)) (fun c h => by cases h; rfl) ?_ ?_ HB.out.size ?_
              · simp [maxLen]
              · simp
              intro g16 c16 wd r16 gr16
              have HB := Lib.hid (HB.out.grown gr16 HB.out.size (fun k e => by cases e; exact (HL9.out.lt k9 rfl).1))
              have HR16 := Lib.hid (ins_rowR (R := []) (p := 0) r16)
              clear r16 gr16
              rename World => wc
              go_simp
              refine hK.out _ _ (trivial) (fun hHeld => ?_)
              clear hK K
              refine wpAnyH_ready (rs := [4]) (by kernel_rfl) (by simp) (AllReadyH.cons rfl (fun K hK => ?_) AllReadyH.nil)
              have cq := (HR.out.below HB.out).cells.1
              go_simp
              clear cq
              refine hK.out _ _ (trivial) (fun hHeld => ?_)
              clear hK K
              refine wpAnyH_take (i := 6) (v := ?v55) rfl (by kernel_rfl) (by kernel_rfl) (by kernel_rfl) (fun _ _ _ h => h) (Or.inl ⟨by rfl, ?hy55⟩) (by assumption) ?_
              case hy55 => (intro w hSw; clear hSw; go_simp; try with_reducible rfl)
              go_simp
              refine wpAnyH_ready (rs := [17]) (by kernel_rfl) (by simp) (AllReadyH.cons rfl (fun K hK => ?_) AllReadyH.nil)
              refine step_appendH (by rfl) _ _ 67 (by rfl) B 118 i1 _ 2 40 Try.underlying67 hj hy0 hy1 hy2 rfl (by decide) (.slice none 0 0) 0 [] (by rfl) (World.ownsRow_nil _ _ _ _) _ ((newR key :: List.drop 0 []).map cellsR) (cellsR_len _) (one_newR (R := []) (fun r h => by cases h) key 0) (by rfl) (HR16.out _ (by first | omega | simp)) (by simp) ?_ ?_ (Nat.le_trans HB0.out (Nat.le_trans HBW.out.size HB.out.size)) ?_
              · simp [maxLen]
              · simp
              intro g17 c17 wd r17 gr17 lo17
              have HI := Lib.hid (HR.out.ins hpB hno (ins_one r17) ((Frm.of_below HB.out).trans (Frm.of_grown gr17 (fun k e => e)) (fun _ _ h => h)))
              have HLO := Lib.hid (show (Value.slice none 0 0).ownBlock = some g17 ∨ W3.heap.size ≤ g17 from lo17.imp id (fun e => by rw [e]; exact HB.out.size))
              clear r17 gr17 lo17
              rename World => wc
              go_simp
              refine hK.out _ _ (trivial) (fun hHeld => ?_)
              clear hK K
              refine wpAnyH_take (i := 18) (v := ?v56) rfl (by kernel_rfl) (by kernel_rfl) (by kernel_rfl) (fun _ _ _ h => h) (Or.inl ⟨by rfl, ?hy56⟩) (by assumption) ?_
              case hy56 => (intro w hSw; clear hSw; go_simp; try with_reducible rfl)
              go_simp
              refine wpAnyH_take (i := 19) (v := ?v57) rfl (by kernel_rfl) (by kernel_rfl) (by kernel_rfl) (fun _ _ _ h => h) (Or.inl ⟨by rfl, ?hy57⟩) (by assumption) ?_
              case hy57 => (intro w hSw; clear hSw; go_simp; try with_reducible rfl)
              go_simp
              refine wpAnyH_ready (rs := [20]) (by kernel_rfl) (by simp) (AllReadyH.cons rfl (fun K hK => ?_) AllReadyH.nil)
              have cq := HI.out.2.2.1
              have fq := HI.out.2.2.2
              go_simp
              clear cq fq
              refine hK.out _ _ (trivial) (fun hHeld => ?_)
              clear hK K
              refine wpAnyH_done (by kernel_rfl) ?_ _
              dsimp only [OnlyN]
              go_wp2_with fail
              all_goals (go_meet; case rel => exact ⟨_, _, _, Lib.hid (midA_no HR.out hpB hno HBW.out HX5.out ⟨HI.out.1, HI.out.2.1⟩ HLO.out HBLK.out)⟩)
        · have cq := (HR.out.below HB.out).cells.1
          go_simp
          clear cq
          refine hK.out _ _ (trivial) (fun hHeld => ?_)
          clear hK K
          refine wpAnyH_take (i := 15) (v := ?v58) rfl (by kernel_rfl) (by kernel_rfl) (by kernel_rfl) (fun _ _ _ h => h) (Or.inl ⟨by rfl, ?hy58⟩) (by assumption) ?_
          case hy58 => (intro w hSw; clear hSw; go_simp; try with_reducible rfl)
          go_simp
          refine wpAnyH_ready (rs := [4, 9]) (by kernel_rfl) (by simp) (AllReadyH.cons rfl (fun K hK => ?_) (AllReadyH.cons rfl (fun K hK => ?_) AllReadyH.nil))
          · have cq := (HR.out.below HB.out).cells.1
            go_simp
            clear cq
            refine hK.out _ _ (trivial) (fun hHeld => ?_)
            clear hK K
            refine wpAnyH_take (i := 6) (v := ?v59) rfl (by kernel_rfl) (by kernel_rfl) (by kernel_rfl) (fun _ _ _ h => h) (Or.inl ⟨by rfl, ?hy59⟩) (by assumption) ?_
            case hy59 => (intro w hSw; clear hSw; go_simp; try with_reducible rfl)
            go_simp
            refine wpAnyH_ready (rs := [9]) (by kernel_rfl) (by simp) (AllReadyH.cons rfl (fun K hK => ?_) AllReadyH.nil)
            go_simp
            obtain ⟨k9, hk9⟩ : ∃ k, k = wc.heap.size := ⟨_, rfl⟩
            obtain ⟨wd, hwd⟩ : ∃ W, W = wc.alloc (.cells #[str key, .slice none 0 0] 118) := ⟨_, rfl⟩
            have hbs : Below wc.heap.size wc wd := by rw [hwd]; exact below_alloc _ _
            have HL9 := Lib.hid (show wd.ownsRow W3.heap.size 118 2 (.slice (some ⟨k9, 0, none⟩) 1 1) 1 [str key, .slice none 0 0] by rw [hwd, hk9]; exact World.ownsRow_lit (e := 118) (size := 2) wc #[str key, .slice none 0 0] 1 HB.out.size (by decide) rfl)
            have HB := Lib.hid (HB.out.trans (hbs.mono HB.out.size))
            rw [← hwd, ← hk9]
            clear hwd hk9 hbs
            rename World => wc
            refine hK.out _ _ (trivial) (fun hHeld => ?_)
            clear hK K
            refine wpAnyH_ready (rs := [16]) (by kernel_rfl) (by simp) (AllReadyH.cons rfl (fun K hK => ?_) AllReadyH.nil)
            refine step_appendG (by rfl) _ _ 67 (by rfl) W3.heap.size 118 i1 _ 2 40 Try.underlying67 hj hy0 hy1 hy2 rfl (by decide) k9 1 1 _ (by rfl) HL9.out _ (List.map cellsR []) (cellsR_len _) (by simp) (by rfl) ((show RdF 2 wc (.slice none 0 0) (List.map cellsR []) from ⟨none, 0, rfl, by simp, by simp, by simp, fun h => absurd rfl h⟩)) (fun c h => by cases h; rfl) ?_ ?_ HB.out.size ?_
            · simp [maxLen]
            · simp
            intro g16 c16 wd r16 gr16
            have HB := Lib.hid (HB.out.grown gr16 HB.out.size (fun k e => by cases e; exact (HL9.out.lt k9 rfl).1))
            have HR16 := Lib.hid (ins_rowR (R := []) (p := 0) r16)
            clear r16 gr16
            rename World => wc
            go_simp
            refine hK.out _ _ (trivial) (fun hHeld => ?_)
            clear hK K
            refine wpAnyH_ready (rs := [17]) (by kernel_rfl) (by simp) (AllReadyH.cons rfl (fun K hK => ?_) AllReadyH.nil)
            refine step_appendH (by rfl) _ _ 67 (by rfl) B 118 i1 _ 2 40 Try.underlying67 hj hy0 hy1 hy2 rfl (by decide) (.slice none 0 0) 0 [] (by rfl) (World.ownsRow_nil _ _ _ _) _ ((newR key :: List.drop 0 []).map cellsR) (cellsR_len _) (one_newR (R := []) (fun r h => by cases h) key 0) (by rfl) (HR16.out _ (by first | omega | simp)) (by simp) ?_ ?_ (Nat.le_trans HB0.out (Nat.le_trans HBW.out.size HB.out.size)) ?_
            · simp [maxLen]
            · simp
            intro g17 c17 wd r17 gr17 lo17
            have HI := Lib.hid (HR.out.ins hpB hno (ins_one r17) ((Frm.of_below HB.out).trans (Frm.of_grown gr17 (fun k e => e)) (fun _ _ h => h)))
            have HLO := Lib.hid (show (Value.slice none 0 0).ownBlock = some g17 ∨ W3.heap.size ≤ g17 from lo17.imp id (fun e => by rw [e]; exact HB.out.size))
            clear r17 gr17 lo17
            rename World => wc
            go_simp
            refine hK.out _ _ (trivial) (fun hHeld => ?_)
            clear hK K
            refine wpAnyH_take (i := 18) (v := ?v60) rfl (by kernel_rfl) (by kernel_rfl) (by kernel_rfl) (fun _ _ _ h => h) (Or.inl ⟨by rfl, ?hy60⟩) (by assumption) ?_
            case hy60 => (intro w hSw; clear hSw; go_simp; try with_reducible rfl)
            go_simp
            refine wpAnyH_take (i := 19) (v := ?v61) rfl (by kernel_rfl) (by kernel_rfl) (by kernel_rfl) (fun _ _ _ h => h) (Or.inl ⟨by rfl, ?hy61⟩) (by assumption) ?_
            case hy61 => (intro w hSw; clear hSw; go_simp; try with_reducible rfl)
            go_simp
            refine wpAnyH_ready (rs := [20]) (by kernel_rfl) (by simp) (AllReadyH.cons rfl (fun K hK => ?_) AllReadyH.nil)
            have cq := HI.out.2.2.1
            have fq := HI.out.2.2.2
            go_simp
            clear cq fq
            refine hK.out _ _ (trivial) (fun hHeld => ?_)
            clear hK K
            refine wpAnyH_done (by kernel_rfl) ?_ _
            dsimp only [OnlyN]
            go_wp2_with fail
            all_goals (go_meet; case rel => exact ⟨_, _, _, Lib.hid (midA_no HR.out hpB hno HBW.out HX5.out ⟨HI.out.1, HI.out.2.1⟩ HLO.out HBLK.out)⟩)
          · go_simp
            obtain ⟨k9, hk9⟩ : ∃ k, k = wc.heap.size := ⟨_, rfl⟩
            obtain ⟨wd, hwd⟩ : ∃ W, W = wc.alloc (.cells #[str key, .slice none 0 0] 118) := ⟨_, rfl⟩
            have hbs : Below wc.heap.size wc wd := by rw [hwd]; exact below_alloc _ _
            have HL9 := Lib.hid (show wd.ownsRow W3.heap.size 118 2 (.slice (some ⟨k9, 0, none⟩) 1 1) 1 [str key, .slice none 0 0] by rw [hwd, hk9]; exact World.ownsRow_lit (e := 118) (size := 2) wc #[str key, .slice none 0 0] 1 HB.out.size (by decide) rfl)
            have HB := Lib.hid (HB.out.trans (hbs.mono HB.out.size))
            rw [← hwd, ← hk9]
            clear hwd hk9 hbs
            rename World => wc
            refine hK.out _ _ (trivial) (fun hHeld => ?_)
            clear hK K
            refine wpAnyH_ready (rs := [4, 16]) (by kernel_rfl) (by simp) (AllReadyH.cons rfl (fun K hK => ?_) (AllReadyH.cons rfl (fun K hK => ?_) AllReadyH.nil))
            · have cq := (HR.out.below HB.out).cells.1
              go_simp
              clear cq
              refine hK.out _ _ (trivial) (fun hHeld => ?_)
              clear hK K
              refine wpAnyH_take (i := 6) (v := ?v62) rfl (by kernel_rfl) (by kernel_rfl) (by kernel_rfl) (fun _ _ _ h => h) (Or.inl ⟨by rfl, ?hy62⟩) (by assumption) ?_
              case hy62 => (intro w hSw; clear hSw; go_simp; try with_reducible rfl)
              go_simp
              refine wpAnyH_ready (rs := [16]) (by kernel_rfl) (by simp) (AllReadyH.cons rfl (fun K hK => ?_) AllReadyH.nil)
              refine step_appendG (by rfl) _ _ 67 (by rfl) W3.heap.size 118 i1 _ 2 40 Try.underlying67 hj hy0 hy1 hy2 rfl (by decide) k9 1 1 _ (by rfl) HL9.out _ (List.map cellsR []) (cellsR_len _) (by simp) (by rfl) ((show RdF 2 wc (.slice none 0 0) (List.map cellsR []) from ⟨none, 0, rfl, by simp, by simp, by simp, fun h => absurd rfl h⟩)) (fun c h => by cases h; rfl) ?_ ?_ HB.out.size ?_
              · simp [maxLen]
              · simp
              intro g16 c16 wd r16 gr16
              have HB := Lib.hid (HB.out.grown gr16 HB.out.size (fun k e => by cases e; exact (HL9.out.lt k9 rfl).1))
              have HR16 := Lib.hid (ins_rowR (R := []) (p := 0) r16)
              clear r16 gr16
              rename World => wc
              go_simp
              refine hK.out _ _ (trivial) (fun hHeld => ?_)
              clear hK K
              refine wpAnyH_ready (rs := [17]) (by kernel_rfl) (by simp) (AllReadyH.cons rfl (fun K hK => ?_) AllReadyH.nil)
              refine step_appendH (by rfl) _ _ 67 (by rfl) B 118 i1 _ 2 40 Try.underlying67 hj hy0 hy1 hy2 rfl (by decide) (.slice none 0 0) 0 [] (by rfl) (World.ownsRow_nil _ _ _ _) _ ((newR key :: List.drop 0 []).map cellsR) (cellsR_len _) (one_newR (R := []) (fun r h => by cases h) key 0) (by rfl) (HR16.out _ (by first | omega | simp)) (by simp) ?_ ?_ (Nat.le_trans HB0.out (Nat.le_trans HBW.out.size HB.out.size)) ?_
              · simp [maxLen]
              · simp
              intro g17 c17 wd r17 gr17 lo17
              have HI := Lib.hid (HR.out.ins hpB hno (ins_one r17) ((Frm.of_below HB.out).trans (Frm.of_grown gr17 (fun k e => e)) (fun _ _ h => h)))
              have HLO := Lib.hid (show (Value.slice none 0 0).ownBlock = some g17 ∨ W3.heap.size ≤ g17 from lo17.imp id (fun e => by rw [e]; exact HB.out.size))
              clear r17 gr17 lo17
              rename World => wc
              go_simp
              refine hK.out _ _ (trivial) (fun hHeld => ?_)
              clear hK K
              refine wpAnyH_take (i := 18) (v := ?v63) rfl (by kernel_rfl) (by kernel_rfl) (by kernel_rfl) (fun _ _ _ h => h) (Or.inl ⟨by rfl, ?hy63⟩) (by assumption) ?_
              case hy63 => (intro w hSw; clear hSw; go_simp; try with_reducible rfl)
              go_simp
              refine wpAnyH_take (i := 19) (v := ?v64) rfl (by kernel_rfl) (by kernel_rfl) (by kernel_rfl) (fun _ _ _ h => h) (Or.inl ⟨by rfl, ?hy64⟩) (by assumption) ?_
              case hy64 => (intro w hSw; clear hSw; go_simp; try with_reducible rfl)
              go_simp
              refine wpAnyH_ready (rs := [20]) (by kernel_rfl) (by simp) (AllReadyH.cons rfl (fun K hK => ?_) AllReadyH.nil)
              have cq := HI.out.2.2.1
              have fq := HI.out.2.2.2
              go_simp
              clear cq fq
              refine hK.out _ _ (trivial) (fun hHeld => ?_)
              clear hK K
              refine wpAnyH_done (by kernel_rfl) ?_ _
              dsimp only [OnlyN]
              go_wp2_with fail
              all_goals (go_meet; case rel => exact ⟨_, _, _, Lib.hid (midA_no HR.out hpB hno HBW.out HX5.out ⟨HI.out.1, HI.out.2.1⟩ HLO.out HBLK.out)⟩)
            · refine step_appendG (by rfl) _ _ 67 (by rfl) W3.heap.size 118 i1 _ 2 40 Try.underlying67 hj hy0 hy1 hy2 rfl (by decide) k9 1 1 _ (by rfl) HL9.out _ (List.map cellsR []) (cellsR_len _) (by simp) (by rfl) ((show RdF 2 wc (.slice none 0 0) (List.map cellsR []) from ⟨none, 0, rfl, by simp, by simp, by simp, fun h => absurd rfl h⟩)) (fun c h => by cases h; rfl) ?_ ?_ HB.out.size ?_
              · simp [maxLen]
              · simp
              intro g16 c16 wd r16 gr16
              have HB := Lib.hid (HB.out.grown gr16 HB.out.size (fun k e => by cases e; exact (HL9.out.lt k9 rfl).1))
              have HR16 := Lib.hid (ins_rowR (R := []) (p := 0) r16)
              clear r16 gr16
              rename World => wc
              go_simp
              refine hK.out _ _ (trivial) (fun hHeld => ?_)
              clear hK K
              refine wpAnyH_ready (rs := [4]) (by kernel_rfl) (by simp) (AllReadyH.cons rfl (fun K hK => ?_) AllReadyH.nil)
              have cq := (HR.out.below HB.out).cells.1
              go_simp
              clear cq
              refine hK.out _ _ (trivial) (fun hHeld => ?_)
              clear hK K
              refine wpAnyH_take (i := 6) (v := ?v65) rfl (by kernel_rfl) (by kernel_rfl) (by kernel_rfl) (fun _ _ _ h => h) (Or.inl ⟨by rfl, ?hy65⟩) (by assumption) ?_
              case hy65 => (intro w hSw; clear hSw; go_simp; try with_reducible rfl)
              go_simp
              refine wpAnyH_ready (rs := [17]) (by kernel_rfl) (by simp) (AllReadyH.cons rfl (fun K hK => ?_) AllReadyH.nil)
              refine step_appendH (by rfl) _ _ 67 (by rfl) B 118 i1 _ 2 40 Try.underlying67 hj hy0 hy1 hy2 rfl (by decide) (.slice none 0 0) 0 [] (by rfl) (World.ownsRow_nil _ _ _ _) _ ((newR key :: List.drop 0 []).map cellsR) (cellsR_len _) (one_newR (R := []) (fun r h => by cases h) key 0) (by rfl) (HR16.out _ (by first | omega | simp)) (by simp) ?_ ?_ (Nat.le_trans HB0.out (Nat.le_trans HBW.out.size HB.out.size)) ?_
              · simp [maxLen]
              · simp
              intro g17 c17 wd r17 gr17 lo17
              have HI := Lib.hid (HR.out.ins hpB hno (ins_one r17) ((Frm.of_below HB.out).trans (Frm.of_grown gr17 (fun k e => e)) (fun _ _ h => h)))
              have HLO := Lib.hid (show (Value.slice none 0 0).ownBlock = some g17 ∨ W3.heap.size ≤ g17 from lo17.imp id (fun e => by rw [e]; exact HB.out.size))
              clear r17 gr17 lo17
              rename World => wc
              go_simp
              refine hK.out _ _ (trivial) (fun hHeld => ?_)
              clear hK K
              refine wpAnyH_take (i := 18) (v := ?v66) rfl (by kernel_rfl) (by kernel_rfl) (by kernel_rfl) (fun _ _ _ h => h) (Or.inl ⟨by rfl, ?hy66⟩) (by assumption) ?_
              case hy66 => (intro w hSw; clear hSw; go_simp; try with_reducible rfl)
              go_simp
              refine wpAnyH_take (i := 19) (v := ?v67) rfl (by kernel_rfl) (by kernel_rfl) (by kernel_rfl) (fun _ _ _ h => h) (Or.inl ⟨by rfl, ?hy67⟩) (by assumption) ?_
              case hy67 => (intro w hSw; clear hSw; go_simp; try with_reducible rfl)
              go_simp
              refine wpAnyH_ready (rs := [20]) (by kernel_rfl) (by simp) (AllReadyH.cons rfl (fun K hK => ?_) AllReadyH.nil)
              have cq := HI.out.2.2.1
              have fq := HI.out.2.2.2
              go_simp
              clear cq fq
              refine hK.out _ _ (trivial) (fun hHeld => ?_)
              clear hK K
              refine wpAnyH_done (by kernel_rfl) ?_ _
              dsimp only [OnlyN]
              go_wp2_with fail
              all_goals (go_meet; case rel => exact ⟨_, _, _, Lib.hid (midA_no HR.out hpB hno HBW.out HX5.out ⟨HI.out.1, HI.out.2.1⟩ HLO.out HBLK.out)⟩)
      · have hpc : p ≤ cap := Nat.le_trans hpl hcap
        clear hcap cur
        subst hv
        refine wpAnyH_take (i := 0) (v := ?v68) rfl (by kernel_rfl) (by kernel_rfl) (by kernel_rfl) (fun _ _ _ h => h) (Or.inl ⟨by rfl, ?hy68⟩) (by assumption) ?_
        case hy68 => (intro w hSw; clear hSw; go_simp; try with_reducible rfl)
        go_simp
        refine wpAnyH_take (i := 1) (v := ?v69) rfl (by kernel_rfl) (by kernel_rfl) (by kernel_rfl) (fun _ _ _ h => h) (Or.inl ⟨by rfl, ?hy69⟩) (by assumption) ?_
        case hy69 => (intro w hSw; clear hSw; go_simp; try with_reducible rfl)
        go_simp
        refine wpAnyH_take (i := 2) (v := ?v70) rfl (by kernel_rfl) (by kernel_rfl) (by kernel_rfl) (fun _ _ _ h => h) (Or.inl ⟨by rfl, ?hy70⟩) (by assumption) ?_
        case hy70 => (intro w hSw; clear hSw; go_simp; try with_reducible rfl)
        go_simp
        refine wpAnyH_take (i := 3) (v := ?v71) rfl (by kernel_rfl) (by kernel_rfl) (by kernel_rfl) (fun _ _ _ h => h) (Or.inl ⟨by rfl, ?hy71⟩) (by assumption) ?_
        case hy71 => (intro w hSw; clear hSw; go_simp; try with_reducible rfl)
        go_simp
        refine wpAnyH_take (i := 5) (v := ?v72) rfl (by kernel_rfl) (by kernel_rfl) (by kernel_rfl) (fun _ _ _ h => h) (Or.inl ⟨by rfl, ?hy72⟩) (by assumption) ?_
        case hy72 => (intro w hSw; clear hSw; go_simp; try with_reducible rfl)
        go_simp
        refine wpAnyH_take (i := 7) (v := ?v73) rfl (by kernel_rfl) (by kernel_rfl) (by kernel_rfl) (fun _ _ _ h => h) (Or.inl ⟨by rfl, ?hy73⟩) (by assumption) ?_
        case hy73 => (intro w hSw; clear hSw; go_simp; try with_reducible rfl)
        go_simp
        refine wpAnyH_take (i := 8) (v := ?v74) rfl (by kernel_rfl) (by kernel_rfl) (by kernel_rfl) (fun _ _ _ h => h) (Or.inl ⟨by rfl, ?hy74⟩) (by assumption) ?_
        case hy74 => (intro w hSw; clear hSw; go_simp; try with_reducible rfl)
        go_simp
        refine wpAnyH_take (i := 10) (v := ?v75) rfl (by kernel_rfl) (by kernel_rfl) (by kernel_rfl) (fun _ _ _ h => h) (Or.inl ⟨by rfl, ?hy75⟩) (by assumption) ?_
        case hy75 => (intro w hSw; clear hSw; go_simp; try with_reducible rfl)
        go_simp
        refine wpAnyH_take (i := 11) (v := ?v76) rfl (by kernel_rfl) (by kernel_rfl) (by kernel_rfl) (fun _ _ _ h => h) (Or.inl ⟨by rfl, ?hy76⟩) (by assumption) ?_
        case hy76 => (intro w hSw; clear hSw; go_simp; try with_reducible rfl)
        go_simp
        refine wpAnyH_take (i := 12) (v := ?v77) rfl (by kernel_rfl) (by kernel_rfl) (by kernel_rfl) (fun _ _ _ h => h) (Or.inl ⟨by rfl, ?hy77⟩) (by assumption) ?_
        case hy77 => (intro w hSw; clear hSw; go_simp; try with_reducible rfl)
        go_simp
        refine wpAnyH_take (i := 14) (v := ?v78) rfl (by kernel_rfl) (by kernel_rfl) (by kernel_rfl) (fun _ _ _ h => h) (Or.inl ⟨by rfl, ?hy78⟩) (by assumption) ?_
        case hy78 => (intro w hSw; clear hSw; go_simp; try with_reducible rfl)
        go_simp
        refine wpAnyH_ready (rs := [4, 9, 13]) (by kernel_rfl) (by simp) (AllReadyH.cons rfl (fun K hK => ?_) (AllReadyH.cons rfl (fun K hK => ?_) (AllReadyH.cons rfl (fun K hK => ?_) AllReadyH.nil)))
        · have cq := (HR.out.below HB.out).cells.1
          go_simp
          clear cq
          refine hK.out _ _ (trivial) (fun hHeld => ?_)
          clear hK K
          refine wpAnyH_take (i := 6) (v := ?v79) rfl (by kernel_rfl) (by kernel_rfl) (by kernel_rfl) (fun _ _ _ h => h) (Or.inl ⟨by rfl, ?hy79⟩) (by assumption) ?_
          case hy79 => (intro w hSw; clear hSw; go_simp; try with_reducible rfl)
          go_simp
          refine wpAnyH_ready (rs := [9, 13]) (by kernel_rfl) (by simp) (AllReadyH.cons rfl (fun K hK => ?_) (AllReadyH.cons rfl (fun K hK => ?_) AllReadyH.nil))
          · go_simp
            obtain ⟨k9, hk9⟩ : ∃ k, k = wc.heap.size := ⟨_, rfl⟩
            obtain ⟨wd, hwd⟩ : ∃ W, W = wc.alloc (.cells #[str key, .slice none 0 0] 118) := ⟨_, rfl⟩
            have hbs : Below wc.heap.size wc wd := by rw [hwd]; exact below_alloc _ _
            have HL9 := Lib.hid (show wd.ownsRow W3.heap.size 118 2 (.slice (some ⟨k9, 0, none⟩) 1 1) 1 [str key, .slice none 0 0] by rw [hwd, hk9]; exact World.ownsRow_lit (e := 118) (size := 2) wc #[str key, .slice none 0 0] 1 HB.out.size (by decide) rfl)
            have HB := Lib.hid (HB.out.trans (hbs.mono HB.out.size))
            rw [← hwd, ← hk9]
            clear hwd hk9 hbs
            rename World => wc
            refine hK.out _ _ (trivial) (fun hHeld => ?_)
            clear hK K
            refine wpAnyH_ready (rs := [13]) (by kernel_rfl) (by simp) (AllReadyH.cons rfl (fun K hK => ?_) AllReadyH.nil)
            have cq := (HR.out.below HB.out).cells.1
            go_simp
            clear cq
            refine hK.out _ _ (trivial) (fun hHeld => ?_)
            clear hK K
            refine wpAnyH_take (i := 15) (v := ?v80) rfl (by kernel_rfl) (by kernel_rfl) (by kernel_rfl) (fun _ _ _ h => h) (Or.inl ⟨by rfl, ?hy80⟩) (by assumption) ?_
            case hy80 => (intro w hSw; clear hSw; go_simp; try with_reducible rfl)
            go_simp
            refine wpAnyH_ready (rs := [16]) (by kernel_rfl) (by simp) (AllReadyH.cons rfl (fun K hK => ?_) AllReadyH.nil)
            refine step_appendG (by rfl) _ _ 67 (by rfl) W3.heap.size 118 i1 _ 2 40 Try.underlying67 hj hy0 hy1 hy2 rfl (by decide) k9 1 1 _ (by rfl) HL9.out _ ((R.drop p).map cellsR) (cellsR_len _) (one_cellsR _ (fun r hr => HR.out.ones r (List.mem_of_mem_drop hr))) (by rfl) ((HR.out.below HB.out).behind hpl) (fun c h => by first | exact ite_noneR h | cases h) ?_ ?_ HB.out.size ?_
            · simp [maxLen]; omega
            · simp; omega
            intro g16 c16 wd r16 gr16
            have HB := Lib.hid (HB.out.grown gr16 HB.out.size (fun k e => by cases e; exact (HL9.out.lt k9 rfl).1))
            have HR16 := Lib.hid (ins_rowR (R := R) (p := p) r16)
            clear r16 gr16
            rename World => wc
            go_simp
            refine hK.out _ _ (trivial) (fun hHeld => ?_)
            clear hK K
            refine wpAnyH_ready (rs := [17]) (by kernel_rfl) (by simp) (AllReadyH.cons rfl (fun K hK => ?_) AllReadyH.nil)
            refine step_appendH (by rfl) _ _ 67 (by rfl) B 118 i1 _ 2 40 Try.underlying67 hj hy0 hy1 hy2 rfl (by decide) (.slice (some ⟨g, 0, none⟩) p cap) p _ (by rfl) ((HR.out.below HB.out).ahead hpl) _ ((newR key :: R.drop p).map cellsR) (cellsR_len _) (one_newR HR.out.ones key p) (by rfl) (HR16.out _ (by first | omega | simp)) (by simp) ?_ ?_ (Nat.le_trans HB0.out (Nat.le_trans HBW.out.size HB.out.size)) ?_
            · simp [maxLen]; omega
            · simp; omega
            intro g17 c17 wd r17 gr17 lo17
            have HI := Lib.hid (HR.out.ins hpB hno (ins_full (R := R) (key := key) hpl r17) ((Frm.of_below HB.out).trans (Frm.of_grown gr17 (fun k e => e)) (fun _ _ h => h)))
            have HLO := Lib.hid (show (Value.slice (some ⟨g, 0, none⟩) R.length cap).ownBlock = some g17 ∨ W3.heap.size ≤ g17 from lo17.imp id (fun e => by rw [e]; exact HB.out.size))
            clear r17 gr17 lo17
            rename World => wc
            rw [show p + ((newR key :: R.drop p).map cellsR).length = R.length + 1 by simp; omega]
            go_simp
            refine hK.out _ _ (trivial) (fun hHeld => ?_)
            clear hK K
            refine wpAnyH_take (i := 18) (v := ?v81) rfl (by kernel_rfl) (by kernel_rfl) (by kernel_rfl) (fun _ _ _ h => h) (Or.inl ⟨by rfl, ?hy81⟩) (by assumption) ?_
            case hy81 => (intro w hSw; clear hSw; go_simp; try with_reducible rfl)
            go_simp
            refine wpAnyH_take (i := 19) (v := ?v82) rfl (by kernel_rfl) (by kernel_rfl) (by kernel_rfl) (fun _ _ _ h => h) (Or.inl ⟨by rfl, ?hy82⟩) (by assumption) ?_
            case hy82 => (intro w hSw; clear hSw; go_simp; try with_reducible rfl)
            go_simp
            refine wpAnyH_ready (rs := [20]) (by kernel_rfl) (by simp) (AllReadyH.cons rfl (fun K hK => ?_) AllReadyH.nil)
            have cq := HI.out.2.2.1
            have fq := HI.out.2.2.2
            go_simp
            clear cq fq
            refine hK.out _ _ (trivial) (fun hHeld => ?_)
            clear hK K
            refine wpAnyH_done (by kernel_rfl) ?_ _
            dsimp only [OnlyN]
            go_wp2_with fail
            all_goals (go_meet; case rel => exact ⟨_, _, _, Lib.hid (midA_no HR.out hpB hno HBW.out HX5.out ⟨HI.out.1, HI.out.2.1⟩ HLO.out HBLK.out)⟩)
          · have cq := (HR.out.below HB.out).cells.1
            go_simp
            clear cq
            refine hK.out _ _ (trivial) (fun hHeld => ?_)
            clear hK K
            refine wpAnyH_take (i := 15) (v := ?v83) rfl (by kernel_rfl) (by kernel_rfl) (by kernel_rfl) (fun _ _ _ h => h) (Or.inl ⟨by rfl, ?hy83⟩) (by assumption) ?_
            case hy83 => (intro w hSw; clear hSw; go_simp; try with_reducible rfl)
            go_simp
            refine wpAnyH_ready (rs := [9]) (by kernel_rfl) (by simp) (AllReadyH.cons rfl (fun K hK => ?_) AllReadyH.nil)
            go_simp
            obtain ⟨k9, hk9⟩ : ∃ k, k = wc.heap.size := ⟨_, rfl⟩
            obtain ⟨wd, hwd⟩ : ∃ W, W = wc.alloc (.cells #[str key, .slice none 0 0] 118) := ⟨_, rfl⟩
            have hbs : Below wc.heap.size wc wd := by rw [hwd]; exact below_alloc _ _
            have HL9 := Lib.hid (show wd.ownsRow W3.heap.size 118 2 (.slice (some ⟨k9, 0, none⟩) 1 1) 1 [str key, .slice none 0 0] by rw [hwd, hk9]; exact World.ownsRow_lit (e := 118) (size := 2) wc #[str key, .slice none 0 0] 1 HB.out.size (by decide) rfl)
            have HB := Lib.hid (HB.out.trans (hbs.mono HB.out.size))
            rw [← hwd, ← hk9]
            clear hwd hk9 hbs
            rename World => wc
            refine hK.out _ _ (trivial) (fun hHeld => ?_)
            clear hK K
            refine wpAnyH_ready (rs := [16]) (by kernel_rfl) (by simp) (AllReadyH.cons rfl (fun K hK => ?_) AllReadyH.nil)
            refine step_appendG (by rfl) _ _ 67 (by rfl) W3.heap.size 118 i1 _ 2 40 Try.underlying67 hj hy0 hy1 hy2 rfl (by decide) k9 1 1 _ (by rfl) HL9.out _ ((R.drop p).map cellsR) (cellsR_len _) (one_cellsR _ (fun r hr => HR.out.ones r (List.mem_of_mem_drop hr))) (by rfl) ((HR.out.below HB.out).behind hpl) (fun c h => by first | exact ite_noneR h | cases h) ?_ ?_ HB.out.size ?_
            · simp [maxLen]; omega
            · simp; omega
            intro g16 c16 wd r16 gr16
            have HB := Lib.hid (HB.out.grown gr16 HB.out.size (fun k e => by cases e; exact (HL9.out.lt k9 rfl).1))
            have HR16 := Lib.hid (ins_rowR (R := R) (p := p) r16)
            clear r16 gr16
            rename World => wc
            go_simp
            refine hK.out _ _ (trivial) (fun hHeld => ?_)
            clear hK K
            refine wpAnyH_ready (rs := [17]) (by kernel_rfl) (by simp) (AllReadyH.cons rfl (fun K hK => ?_) AllReadyH.nil)
            refine step_appendH (by rfl) _ _ 67 (by rfl) B 118 i1 _ 2 40 Try.underlying67 hj hy0 hy1 hy2 rfl (by decide) (.slice (some ⟨g, 0, none⟩) p cap) p _ (by rfl) ((HR.out.below HB.out).ahead hpl) _ ((newR key :: R.drop p).map cellsR) (cellsR_len _) (one_newR HR.out.ones key p) (by rfl) (HR16.out _ (by first | omega | simp)) (by simp) ?_ ?_ (Nat.le_trans HB0.out (Nat.le_trans HBW.out.size HB.out.size)) ?_
            · simp [maxLen]; omega
            · simp; omega
            intro g17 c17 wd r17 gr17 lo17
            have HI := Lib.hid (HR.out.ins hpB hno (ins_full (R := R) (key := key) hpl r17) ((Frm.of_below HB.out).trans (Frm.of_grown gr17 (fun k e => e)) (fun _ _ h => h)))
            have HLO := Lib.hid (show (Value.slice (some ⟨g, 0, none⟩) R.length cap).ownBlock = some g17 ∨ W3.heap.size ≤ g17 from lo17.imp id (fun e => by rw [e]; exact HB.out.size))
            clear r17 gr17 lo17
            rename World => wc
            rw [show p + ((newR key :: R.drop p).map cellsR).length = R.length + 1 by simp; omega]
            go_simp
            refine hK.out _ _ (trivial) (fun hHeld => ?_)
            clear hK K
            refine wpAnyH_take (i := 18) (v := ?v84) rfl (by kernel_rfl) (by kernel_rfl) (by kernel_rfl) (fun _ _ _ h => h) (Or.inl ⟨by rfl, ?hy84⟩) (by assumption) ?_
            case hy84 => (intro w hSw; clear hSw; go_simp; try with_reducible rfl)
            go_simp
            refine wpAnyH_take (i := 19) (v := ?v85) rfl (by kernel_rfl) (by kernel_rfl) (by kernel_rfl) (fun _ _ _ h => h) (Or.inl ⟨by rfl, ?hy85⟩) (by assumption) ?_
            case hy85 => (intro w hSw; clear hSw; go_simp; try with_reducible rfl)
            go_simp
            refine wpAnyH_ready (rs := [20]) (by kernel_rfl) (by simp) (AllReadyH.cons rfl (fun K hK => ?_) AllReadyH.nil)
            have cq := HI.out.2.2.1
            have fq := HI.out.2.2.2
            go_simp
            clear cq fq
            refine hK.out _ _ (trivial) (fun hHeld => ?_)
            clear hK K
            refine wpAnyH_done (by kernel_rfl) ?_ _
            dsimp only [OnlyN]
            go_wp2_with fail
            all_goals (go_meet; case rel => exact ⟨_, _, _, Lib.hid (midA_no HR.out hpB hno HBW.out HX5.out ⟨HI.out.1, HI.out.2.1⟩ HLO.out HBLK.out)⟩)
        · go_simp
          obtain ⟨k9, hk9⟩ : ∃ k, k = wc.heap.size := ⟨_, rfl⟩
          obtain ⟨wd, hwd⟩ : ∃ W, W = wc.alloc (.cells #[str key, .slice none 0 0] 118) := ⟨_, rfl⟩
          have hbs : Below wc.heap.size wc wd := by rw [hwd]; exact below_alloc _ _
          have HL9 := Lib.hid (show wd.ownsRow W3.heap.size 118 2 (.slice (some ⟨k9, 0, none⟩) 1 1) 1 [str key, .slice none 0 0] by rw [hwd, hk9]; exact World.ownsRow_lit (e := 118) (size := 2) wc #[str key, .slice none 0 0] 1 HB.out.size (by decide) rfl)
          have HB := Lib.hid (HB.out.trans (hbs.mono HB.out.size))
          rw [← hwd, ← hk9]
          clear hwd hk9 hbs
          rename World => wc
          refine hK.out _ _ (trivial) (fun hHeld => ?_)
          clear hK K
          refine wpAnyH_ready (rs := [4, 13]) (by kernel_rfl) (by simp) (AllReadyH.cons rfl (fun K hK => ?_) (AllReadyH.cons rfl (fun K hK => ?_) AllReadyH.nil))
          · have cq := (HR.out.below HB.out).cells.1
            go_simp
            clear cq
            refine hK.out _ _ (trivial) (fun hHeld => ?_)
            clear hK K
            refine wpAnyH_take (i := 6) (v := ?v86) rfl (by kernel_rfl) (by kernel_rfl) (by kernel_rfl) (fun _ _ _ h => h) (Or.inl ⟨by rfl, ?hy86⟩) (by assumption) ?_
            case hy86 => (intro w hSw; clear hSw; go_simp; try with_reducible rfl)
            go_simp
            refine wpAnyH_ready (rs := [13]) (by kernel_rfl) (by simp) (AllReadyH.cons rfl (fun K hK => ?_) AllReadyH.nil)
            have cq := (HR.out.below HB.out).cells.1
            go_simp
            clear cq
            refine hK.out _ _ (trivial) (fun hHeld => ?_)
            clear hK K
            refine wpAnyH_take (i := 15) (v := ?v87) rfl (by kernel_rfl) (by kernel_rfl) (by kernel_rfl) (fun _ _ _ h => h) (Or.inl ⟨by rfl, ?hy87⟩) (by assumption) ?_
            case hy87 => (intro w hSw; clear hSw; go_simp; try with_reducible rfl)
            go_simp
            refine wpAnyH_ready (rs := [16]) (by kernel_rfl) (by simp) (AllReadyH.cons rfl (fun K hK => ?_) AllReadyH.nil)
            refine step_appendG (by rfl) _ _ 67 (by rfl) W3.heap.size 118 i1 _ 2 40 Try.underlying67 hj hy0 hy1 hy2 rfl (by decide) k9 1 1 _ (by rfl) HL9.out _ ((R.drop p).map cellsR) (cellsR_len _) (one_cellsR _ (fun r hr => HR.out.ones r (List.mem_of_mem_drop hr))) (by rfl) ((HR.out.below HB.out).behind hpl) (fun c h => by first | exact ite_noneR h | cases h) ?_ ?_ HB.out.size ?_
            · simp [maxLen]; omega
            · simp; omega
            intro g16 c16 wd r16 gr16
            have HB := Lib.hid (HB.out.grown gr16 HB.out.size (fun k e => by cases e; exact (HL9.out.lt k9 rfl).1))
            have HR16 := Lib.hid (ins_rowR (R := R) (p := p) r16)
            clear r16 gr16
            rename World => wc
            go_simp
            refine hK.out _ _ (trivial) (fun hHeld => ?_)
            clear hK K
            refine wpAnyH_ready (rs := [17]) (by kernel_rfl) (by simp) (AllReadyH.cons rfl (fun K hK => ?_) AllReadyH.nil)
            refine step_appendH (by rfl) _ _ 67 (by rfl) B 118 i1 _ 2 40 Try.underlying67 hj hy0 hy1 hy2 rfl (by decide) (.slice (some ⟨g, 0, none⟩) p cap) p _ (by rfl) ((HR.out.below HB.out).ahead hpl) _ ((newR key :: R.drop p).map cellsR) (cellsR_len _) (one_newR HR.out.ones key p) (by rfl) (HR16.out _ (by first | omega | simp)) (by simp) ?_ ?_ (Nat.le_trans HB0.out (Nat.le_trans HBW.out.size HB.out.size)) ?_
            · simp [maxLen]; omega
            · simp; omega
            intro g17 c17 wd r17 gr17 lo17
            have HI := Lib.hid (HR.out.ins hpB hno (ins_full (R := R) (key := key) hpl r17) ((Frm.of_below HB.out).trans (Frm.of_grown gr17 (fun k e => e)) (fun _ _ h => h)))
            have HLO := Lib.hid (show (Value.slice (some ⟨g, 0, none⟩) R.length cap).ownBlock = some g17 ∨ W3.heap.size ≤ g17 from lo17.imp id (fun e => by rw [e]; exact HB.out.size))
            clear r17 gr17 lo17
            rename World => wc
            rw [show p + ((newR key :: R.drop p).map cellsR).length = R.length + 1 by simp; omega]
            go_simp
            refine hK.out _ _ (trivial) (fun hHeld => ?_)
            clear hK K
            refine wpAnyH_take (i := 18) (v := ?v88) rfl (by kernel_rfl) (by kernel_rfl) (by kernel_rfl) (fun _ _ _ h => h) (Or.inl ⟨by rfl, ?hy88⟩) (by assumption) ?_
            case hy88 => (intro w hSw; clear hSw; go_simp; try with_reducible rfl)
            go_simp
            refine wpAnyH_take (i := 19) (v := ?v89) rfl (by kernel_rfl) (by kernel_rfl) (by kernel_rfl) (fun _ _ _ h => h) (Or.inl ⟨by rfl, ?hy89⟩) (by assumption) ?_
            case hy89 => (intro w hSw; clear hSw; go_simp; try with_reducible rfl)
            go_simp
            refine wpAnyH_ready (rs := [20]) (by kernel_rfl) (by simp) (AllReadyH.cons rfl (fun K hK => ?_) AllReadyH.nil)
            have cq := HI.out.2.2.1
            have fq := HI.out.2.2.2
            go_simp
            clear cq fq
            refine hK.out _ _ (trivial) (fun hHeld => ?_)
            clear hK K
            refine wpAnyH_done (by kernel_rfl) ?_ _
            dsimp only [OnlyN]
            go_wp2_with fail
            all_goals (go_meet; case rel => exact ⟨_, _, _, Lib.hid (midA_no HR.out hpB hno HBW.out HX5.out ⟨HI.out.1, HI.out.2.1⟩ HLO.out HBLK.out)⟩)
          · have cq := (HR.out.below HB.out).cells.1
            go_simp
            clear cq
            refine hK.out _ _ (trivial) (fun hHeld => ?_)
            clear hK K
            refine wpAnyH_take (i := 15) (v := ?v90) rfl (by kernel_rfl) (by kernel_rfl) (by kernel_rfl) (fun _ _ _ h => h) (Or.inl ⟨by rfl, ?hy90⟩) (by assumption) ?_
            case hy90 => (intro w hSw; clear hSw; go_simp; try with_reducible rfl)
            go_simp
            refine wpAnyH_ready (rs := [4, 16]) (by kernel_rfl) (by simp) (AllReadyH.cons rfl (fun K hK => ?_) (AllReadyH.cons rfl (fun K hK => ?_) AllReadyH.nil))
            · have cq := (HR.out.below HB.out).cells.1
              go_simp
              clear cq
              refine hK.out _ _ (trivial) (fun hHeld => ?_)
              clear hK K
              refine wpAnyH_take (i := 6) (v := ?v91) rfl (by kernel_rfl) (by kernel_rfl) (by kernel_rfl) (fun _ _ _ h => h) (Or.inl ⟨by rfl, ?hy91⟩) (by assumption) ?_
              case hy91 => (intro w hSw; clear hSw; go_simp; try with_reducible rfl)
              go_simp
              refine wpAnyH_ready (rs := [16]) (by kernel_rfl) (by simp) (AllReadyH.cons rfl (fun K hK => ?_) AllReadyH.nil)
              refine step_appendG (by rfl) _ _ 67 (by rfl) W3.heap.size 118 i1 _ 2 40 Try.underlying67 hj hy0 hy1 hy2 rfl (by decide) k9 1 1 _ (by rfl) HL9.out _ ((R.drop p).map cellsR) (cellsR_len _) (one_cellsR _ (fun r hr => HR.out.ones r (List.mem_of_mem_drop hr))) (by rfl) ((HR.out.below HB.out).behind hpl) (fun c h => by first | exact ite_noneR h | cases h) ?_ ?_ HB.out.size ?_
              · simp [maxLen]; omega
              · simp; omega
              intro g16 c16 wd r16 gr16
              have HB := Lib.hid (HB.out.grown gr16 HB.out.size (fun k e => by cases e; exact (HL9.out.lt k9 rfl).1))
              have HR16 := Lib.hid (ins_rowR (R := R) (p := p) r16)
              clear r16 gr16
              rename World => wc
              go_simp
              refine hK.out _ _ (trivial) (fun hHeld => ?_)
              clear hK K
              refine wpAnyH_ready (rs := [17]) (by kernel_rfl) (by simp) (AllReadyH.cons rfl (fun K hK => ?_) AllReadyH.nil)
              refine step_appendH (by rfl) _ _ 67 (by rfl) B 118 i1 _ 2 40 Try.underlying67 hj hy0 hy1 hy2 rfl (by decide) (.slice (some ⟨g, 0, none⟩) p cap) p _ (by rfl) ((HR.out.below HB.out).ahead hpl) _ ((newR key :: R.drop p).map cellsR) (cellsR_len _) (one_newR HR.out.ones key p) (by rfl) (HR16.out _ (by first | omega | simp)) (by simp) ?_ ?_ (Nat.le_trans HB0.out (Nat.le_trans HBW.out.size HB.out.size)) ?_
              · simp [maxLen]; omega
              · simp; omega
              intro g17 c17 wd r17 gr17 lo17
              have HI := Lib.hid (HR.out.ins hpB hno (ins_full (R := R) (key := key) hpl r17) ((Frm.of_below HB.out).trans (Frm.of_grown gr17 (fun k e => e)) (fun _ _ h => h)))
              have HLO := Lib.hid (show (Value.slice (some ⟨g, 0, none⟩) R.length cap).ownBlock = some g17 ∨ W3.heap.size ≤ g17 from lo17.imp id (fun e => by rw [e]; exact HB.out.size))
              clear r17 gr17 lo17
              rename World => wc
              rw [show p + ((newR key :: R.drop p).map cellsR).length = R.length + 1 by simp; omega]
              go_simp
              refine hK.out _ _ (trivial) (fun hHeld => ?_)
              clear hK K
              refine wpAnyH_take (i := 18) (v := ?v92) rfl (by kernel_rfl) (by kernel_rfl) (by kernel_rfl) (fun _ _ _ h => h) (Or.inl ⟨by rfl, ?hy92⟩) (by assumption) ?_
              case hy92 => (intro w hSw; clear hSw; go_simp; try with_reducible rfl)
              go_simp
              refine wpAnyH_take (i := 19) (v := ?v93) rfl (by kernel_rfl) (by kernel_rfl) (by kernel_rfl) (fun _ _ _ h => h) (Or.inl ⟨by rfl, ?hy93⟩) (by assumption) ?_
              case hy93 => (intro w hSw; clear hSw; go_simp; try with_reducible rfl)
              go_simp
              refine wpAnyH_ready (rs := [20]) (by kernel_rfl) (by simp) (AllReadyH.cons rfl (fun K hK => ?_) AllReadyH.nil)
              have cq := HI.out.2.2.1
              have fq := HI.out.2.2.2
              go_simp
              clear cq fq
              refine hK.out _ _ (trivial) (fun hHeld => ?_)
              clear hK K
              refine wpAnyH_done (by kernel_rfl) ?_ _
              dsimp only [OnlyN]
              go_wp2_with fail
              all_goals (go_meet; case rel => exact ⟨_, _, _, Lib.hid (midA_no HR.out hpB hno HBW.out HX5.out ⟨HI.out.1, HI.out.2.1⟩ HLO.out HBLK.out)⟩)
            · refine step_appendG (by rfl) _ _ 67 (by rfl) W3.heap.size 118 i1 _ 2 40 Try.underlying67 hj hy0 hy1 hy2 rfl (by decide) k9 1 1 _ (by rfl) HL9.out _ ((R.drop p).map cellsR) (cellsR_len _) (one_cellsR _ (fun r hr => HR.out.ones r (List.mem_of_mem_drop hr))) (by rfl) ((HR.out.below HB.out).behind hpl) (fun c h => by first | exact ite_noneR h | cases h) ?_ ?_ HB.out.size ?_
              · simp [maxLen]; omega
              · simp; omega
              intro g16 c16 wd r16 gr16
              have HB := Lib.hid (HB.out.grown gr16 HB.out.size (fun k e => by cases e; exact (HL9.out.lt k9 rfl).1))
              have HR16 := Lib.hid (ins_rowR (R := R) (p := p) r16)
              clear r16 gr16
              rename World => wc
              go_simp
              refine hK.out _ _ (trivial) (fun hHeld => ?_)
              clear hK K
              refine wpAnyH_ready (rs := [4]) (by kernel_rfl) (by simp) (AllReadyH.cons rfl (fun K hK => ?_) AllReadyH.nil)
              have cq := (HR.out.below HB.out).cells.1
              go_simp
              clear cq
              refine hK.out _ _ (trivial) (fun hHeld => ?_)
              clear hK K
              refine wpAnyH_take (i := 6) (v := ?v94) rfl (by kernel_rfl) (by kernel_rfl) (by kernel_rfl) (fun _ _ _ h => h) (Or.inl ⟨by rfl, ?hy94⟩) (by assumption) ?_
              case hy94 => (intro w hSw; clear hSw; go_simp; try with_reducible rfl)
              go_simp
              refine wpAnyH_ready (rs := [17]) (by kernel_rfl) (by simp) (AllReadyH.cons rfl (fun K hK => ?_) AllReadyH.nil)
              refine step_appendH (by rfl) _ _ 67 (by rfl) B 118 i1 _ 2 40 Try.underlying67 hj hy0 hy1 hy2 rfl (by decide) (.slice (some ⟨g, 0, none⟩) p cap) p _ (by rfl) ((HR.out.below HB.out).ahead hpl) _ ((newR key :: R.drop p).map cellsR) (cellsR_len _) (one_newR HR.out.ones key p) (by rfl) (HR16.out _ (by first | omega | simp)) (by simp) ?_ ?_ (Nat.le_trans HB0.out (Nat.le_trans HBW.out.size HB.out.size)) ?_
              · simp [maxLen]; omega
              · simp; omega
              intro g17 c17 wd r17 gr17 lo17
              have HI := Lib.hid (HR.out.ins hpB hno (ins_full (R := R) (key := key) hpl r17) ((Frm.of_below HB.out).trans (Frm.of_grown gr17 (fun k e => e)) (fun _ _ h => h)))
              have HLO := Lib.hid (show (Value.slice (some ⟨g, 0, none⟩) R.length cap).ownBlock = some g17 ∨ W3.heap.size ≤ g17 from lo17.imp id (fun e => by rw [e]; exact HB.out.size))
              clear r17 gr17 lo17
              rename World => wc
              rw [show p + ((newR key :: R.drop p).map cellsR).length = R.length + 1 by simp; omega]
              go_simp
              refine hK.out _ _ (trivial) (fun hHeld => ?_)
              clear hK K
              refine wpAnyH_take (i := 18) (v := ?v95) rfl (by kernel_rfl) (by kernel_rfl) (by kernel_rfl) (fun _ _ _ h => h) (Or.inl ⟨by rfl, ?hy95⟩) (by assumption) ?_
              case hy95 => (intro w hSw; clear hSw; go_simp; try with_reducible rfl)
              go_simp
              refine wpAnyH_take (i := 19) (v := ?v96) rfl (by kernel_rfl) (by kernel_rfl) (by kernel_rfl) (fun _ _ _ h => h) (Or.inl ⟨by rfl, ?hy96⟩) (by assumption) ?_
              case hy96 => (intro w hSw; clear hSw; go_simp; try with_reducible rfl)
              go_simp
              refine wpAnyH_ready (rs := [20]) (by kernel_rfl) (by simp) (AllReadyH.cons rfl (fun K hK => ?_) AllReadyH.nil)
              have cq := HI.out.2.2.1
              have fq := HI.out.2.2.2
              go_simp
              clear cq fq
              refine hK.out _ _ (trivial) (fun hHeld => ?_)
              clear hK K
              refine wpAnyH_done (by kernel_rfl) ?_ _
              dsimp only [OnlyN]
              go_wp2_with fail
              all_goals (go_meet; case rel => exact ⟨_, _, _, Lib.hid (midA_no HR.out hpB hno HBW.out HX5.out ⟨HI.out.1, HI.out.2.1⟩ HLO.out HBLK.out)⟩)
        · have cq := (HR.out.below HB.out).cells.1
          go_simp
          clear cq
          refine hK.out _ _ (trivial) (fun hHeld => ?_)
          clear hK K
          refine wpAnyH_take (i := 15) (v := ?v97) rfl (by kernel_rfl) (by kernel_rfl) (by kernel_rfl) (fun _ _ _ h => h) (Or.inl ⟨by rfl, ?hy97⟩) (by assumption) ?_
          case hy97 => (intro w hSw; clear hSw; go_simp; try with_reducible rfl)
          go_simp
          refine wpAnyH_ready (rs := [4, 9]) (by kernel_rfl) (by simp) (AllReadyH.cons rfl (fun K hK => ?_) (AllReadyH.cons rfl (fun K hK => ?_) AllReadyH.nil))
          · have cq := (HR.out.below HB.out).cells.1
            go_simp
            clear cq
            refine hK.out _ _ (trivial) (fun hHeld => ?_)
            clear hK K
            refine wpAnyH_take (i := 6) (v := ?v98) rfl (by kernel_rfl) (by kernel_rfl) (by kernel_rfl) (fun _ _ _ h => h) (Or.inl ⟨by rfl, ?hy98⟩) (by assumption) ?_
            case hy98 => (intro w hSw; clear hSw; go_simp; try with_reducible rfl)
            go_simp
            refine wpAnyH_ready (rs := [9]) (by kernel_rfl) (by simp) (AllReadyH.cons rfl (fun K hK => ?_) AllReadyH.nil)
            go_simp
            obtain ⟨k9, hk9⟩ : ∃ k, k = wc.heap.size := ⟨_, rfl⟩
            obtain ⟨wd, hwd⟩ : ∃ W, W = wc.alloc (.cells #[str key, .slice none 0 0] 118) := ⟨_, rfl⟩
            have hbs : Below wc.heap.size wc wd := by rw [hwd]; exact below_alloc _ _
            have HL9 := Lib.hid (show wd.ownsRow W3.heap.size 118 2 (.slice (some ⟨k9, 0, none⟩) 1 1) 1 [str key, .slice none 0 0] by rw [hwd, hk9]; exact World.ownsRow_lit (e := 118) (size := 2) wc #[str key, .slice none 0 0] 1 HB.out.size (by decide) rfl)
            have HB := Lib.hid (HB.out.trans (hbs.mono HB.out.size))
            rw [← hwd, ← hk9]
            clear hwd hk9 hbs
            rename World => wc
            refine hK.out _ _ (trivial) (fun hHeld => ?_)
            clear hK K
            refine wpAnyH_ready (rs := [16]) (by kernel_rfl) (by simp) (AllReadyH.cons rfl (fun K hK => ?_) AllReadyH.nil)
            refine step_appendG (by rfl) _ _ 67 (by rfl) W3.heap.size 118 i1 _ 2 40 Try.underlying67 hj hy0 hy1 hy2 rfl (by decide) k9 1 1 _ (by rfl) HL9.out _ ((R.drop p).map cellsR) (cellsR_len _) (one_cellsR _ (fun r hr => HR.out.ones r (List.mem_of_mem_drop hr))) (by rfl) ((HR.out.below HB.out).behind hpl) (fun c h => by first | exact ite_noneR h | cases h) ?_ ?_ HB.out.size ?_
            · simp [maxLen]; omega
            · simp; omega
            intro g16 c16 wd r16 gr16
            have HB := Lib.hid (HB.out.grown gr16 HB.out.size (fun k e => by cases e; exact (HL9.out.lt k9 rfl).1))
            have HR16 := Lib.hid (ins_rowR (R := R) (p := p) r16)
            clear r16 gr16
            rename World => wc
            go_simp
            refine hK.out _ _ (trivial) (fun hHeld => ?_)
            clear hK K
            refine wpAnyH_ready (rs := [17]) (by kernel_rfl) (by simp) (AllReadyH.cons rfl (fun K hK => ?_) AllReadyH.nil)
            refine step_appendH (by rfl) _ _ 67 (by rfl) B 118 i1 _ 2 40 Try.underlying67 hj hy0 hy1 hy2 rfl (by decide) (.slice (some ⟨g, 0, none⟩) p cap) p _ (by rfl) ((HR.out.below HB.out).ahead hpl) _ ((newR key :: R.drop p).map cellsR) (cellsR_len _) (one_newR HR.out.ones key p) (by rfl) (HR16.out _ (by first | omega | simp)) (by simp) ?_ ?_ (Nat.le_trans HB0.out (Nat.le_trans HBW.out.size HB.out.size)) ?_
            · simp [maxLen]; omega
            · simp; omega
            intro g17 c17 wd r17 gr17 lo17
            have HI := Lib.hid (HR.out.ins hpB hno (ins_full (R := R) (key := key) hpl r17) ((Frm.of_below HB.out).trans (Frm.of_grown gr17 (fun k e => e)) (fun _ _ h => h)))
            have HLO := Lib.hid (show (Value.slice (some ⟨g, 0, none⟩) R.length cap).ownBlock = some g17 ∨ W3.heap.size ≤ g17 from lo17.imp id (fun e => by rw [e]; exact HB.out.size))
            clear r17 gr17 lo17
            rename World => wc
            rw [show p + ((newR key :: R.drop p).map cellsR).length = R.length + 1 by simp; omega]
            go_simp
            refine hK.out _ _ (trivial) (fun hHeld => ?_)
            clear hK K
            refine wpAnyH_take (i := 18) (v := ?v99) rfl (by kernel_rfl) (by kernel_rfl) (by kernel_rfl) (fun _ _ _ h => h) (Or.inl ⟨by rfl, ?hy99⟩) (by assumption) ?_
            case hy99 => (intro w hSw; clear hSw; go_simp; try with_reducible rfl)
            go_simp
            refine wpAnyH_take (i := 19) (v := ?v100) rfl (by kernel_rfl) (by kernel_rfl) (by kernel_rfl) (fun _ _ _ h => h) (Or.inl ⟨by rfl, ?hy100⟩) (by assumption) ?_
            case hy100 => (intro w hSw; clear hSw; go_simp; try with_reducible rfl)
            go_simp
            refine wpAnyH_ready (rs := [20]) (by kernel_rfl) (by simp) (AllReadyH.cons rfl (fun K hK => ?_) AllReadyH.nil)
            have cq := HI.out.2.2.1
            have fq := HI.out.2.2.2
            go_simp
            clear cq fq
            refine hK.out _ _ (trivial) (fun hHeld => ?_)
            clear hK K
            refine wpAnyH_done (by kernel_rfl) ?_ _
            dsimp only [OnlyN]
            go_wp2_with fail
            all_goals (go_meet; case rel => exact ⟨_, _, _, Lib.hid (midA_no HR.out hpB hno HBW.out HX5.out ⟨HI.out.1, HI.out.2.1⟩ HLO.out HBLK.out)⟩)
          · go_simp
            obtain ⟨k9, hk9⟩ : ∃ k, k = wc.heap.size := ⟨_, rfl⟩
            obtain ⟨wd, hwd⟩ : ∃ W, W = wc.alloc (.cells #[str key, .slice none 0 0] 118) := ⟨_, rfl⟩
            have hbs : Below wc.heap.size wc wd := by rw [hwd]; exact below_alloc _ _
            have HL9 := Lib.hid (show wd.ownsRow W3.heap.size 118 2 (.slice (some ⟨k9, 0, none⟩) 1 1) 1 [str key, .slice none 0 0] by rw [hwd, hk9]; exact World.ownsRow_lit (e := 118) (size := 2) wc #[str key, .slice none 0 0] 1 HB.out.size (by decide) rfl)
            have HB := Lib.hid (HB.out.trans (hbs.mono HB.out.size))
            rw [← hwd, ← hk9]
            clear hwd hk9 hbs
            rename World => wc
            refine hK.out _ _ (trivial) (fun hHeld => ?_)
            clear hK K
            refine wpAnyH_ready (rs := [4, 16]) (by kernel_rfl) (by simp) (AllReadyH.cons rfl (fun K hK => ?_) (AllReadyH.cons rfl (fun K hK => ?_) AllReadyH.nil))
            · have cq := (HR.out.below HB.out).cells.1
              go_simp
              clear cq
              refine hK.out _ _ (trivial) (fun hHeld => ?_)
              clear hK K
              refine wpAnyH_take (i := 6) (v := ?v101) rfl (by kernel_rfl) (by kernel_rfl) (by kernel_rfl) (fun _ _ _ h => h) (Or.inl ⟨by rfl, ?hy101⟩) (by assumption) ?_
              case hy101 => (intro w hSw; clear hSw; go_simp; try with_reducible rfl)
              go_simp
              refine wpAnyH_ready (rs := [16]) (by kernel_rfl) (by simp) (AllReadyH.cons rfl (fun K hK => ?_) AllReadyH.nil)
              refine step_appendG (by rfl) _ _ 67 (by rfl) W3.heap.size 118 i1 _ 2 40 Try.underlying67 hj hy0 hy1 hy2 rfl (by decide) k9 1 1 _ (by rfl) HL9.out _ ((R.drop p).map cellsR) (cellsR_len _) (one_cellsR _ (fun r hr => HR.out.ones r (List.mem_of_mem_drop hr))) (by rfl) ((HR.out.below HB.out).behind hpl) (fun c h => by first | exact ite_noneR h | cases h) ?_ ?_ HB.out.size ?_
              · simp [maxLen]; omega
              · simp; omega
              intro g16 c16 wd r16 gr16
              have HB := Lib.hid (HB.out.grown gr16 HB.out.size (fun k e => by cases e; exact (HL9.out.lt k9 rfl).1))
              have HR16 := Lib.hid (ins_rowR (R := R) (p := p) r16)
              clear r16 gr16
              rename World => wc
              go_simp
              refine hK.out _ _ (trivial) (fun hHeld => ?_)
              clear hK K
              refine wpAnyH_ready (rs := [17]) (by kernel_rfl) (by simp) (AllReadyH.cons rfl (fun K hK => ?_) AllReadyH.nil)
              refine step_appendH (by rfl) _ _ 67 (by rfl) B 118 i1 _ 2 40 Try.underlying67 hj hy0 hy1 hy2 rfl (by decide) (.slice (some ⟨g, 0, none⟩) p cap) p _ (by rfl) ((HR.out.below HB.out).ahead hpl) _ ((newR key :: R.drop p).map cellsR) (cellsR_len _) (one_newR HR.out.ones key p) (by rfl) (HR16.out _ (by first | omega | simp)) (by simp) ?_ ?_ (Nat.le_trans HB0.out (Nat.le_trans HBW.out.size HB.out.size)) ?_
              · simp [maxLen]; omega
              · simp; omega
              intro g17 c17 wd r17 gr17 lo17
              have HI := Lib.hid (HR.out.ins hpB hno (ins_full (R := R) (key := key) hpl r17) ((Frm.of_below HB.out).trans (Frm.of_grown gr17 (fun k e => e)) (fun _ _ h => h)))
              have HLO := Lib.hid (show (Value.slice (some ⟨g, 0, none⟩) R.length cap).ownBlock = some g17 ∨ W3.heap.size ≤ g17 from lo17.imp id (fun e => by rw [e]; exact HB.out.size))
              clear r17 gr17 lo17
              rename World => wc
              rw [show p + ((newR key :: R.drop p).map cellsR).length = R.length + 1 by simp; omega]
              go_simp
              refine hK.out _ _ (trivial) (fun hHeld => ?_)
              clear hK K
              refine wpAnyH_take (i := 18) (v := ?v102) rfl (by kernel_rfl) (by kernel_rfl) (by kernel_rfl) (fun _ _ _ h => h) (Or.inl ⟨by rfl, ?hy102⟩) (by assumption) ?_
              case hy102 => (intro w hSw; clear hSw; go_simp; try with_reducible rfl)
              go_simp
              refine wpAnyH_take (i := 19) (v := ?v103) rfl (by kernel_rfl) (by kernel_rfl) (by kernel_rfl) (fun _ _ _ h => h) (Or.inl ⟨by rfl, ?hy103⟩) (by assumption) ?_
              case hy103 => (intro w hSw; clear hSw; go_simp; try with_reducible rfl)
              go_simp
              refine wpAnyH_ready (rs := [20]) (by kernel_rfl) (by simp) (AllReadyH.cons rfl (fun K hK => ?_) AllReadyH.nil)
              have cq := HI.out.2.2.1
              have fq := HI.out.2.2.2
              go_simp
              clear cq fq
              refine hK.out _ _ (trivial) (fun hHeld => ?_)
              clear hK K
              refine wpAnyH_done (by kernel_rfl) ?_ _
              dsimp only [OnlyN]
              go_wp2_with fail
              all_goals (go_meet; case rel => exact ⟨_, _, _, Lib.hid (midA_no HR.out hpB hno HBW.out HX5.out ⟨HI.out.1, HI.out.2.1⟩ HLO.out HBLK.out)⟩)
            · refine step_appendG (by rfl) _ _ 67 (by rfl) W3.heap.size 118 i1 _ 2 40 Try.underlying67 hj hy0 hy1 hy2 rfl (by decide) k9 1 1 _ (by rfl) HL9.out _ ((R.drop p).map cellsR) (cellsR_len _) (one_cellsR _ (fun r hr => HR.out.ones r (List.mem_of_mem_drop hr))) (by rfl) ((HR.out.below HB.out).behind hpl) (fun c h => by first | exact ite_noneR h | cases h) ?_ ?_ HB.out.size ?_
              · simp [maxLen]; omega
              · simp; omega
              intro g16 c16 wd r16 gr16
              have HB := Lib.hid (HB.out.grown gr16 HB.out.size (fun k e => by cases e; exact (HL9.out.lt k9 rfl).1))
              have HR16 := Lib.hid (ins_rowR (R := R) (p := p) r16)
              clear r16 gr16
              rename World => wc
              go_simp
              refine hK.out _ _ (trivial) (fun hHeld => ?_)
              clear hK K
              refine wpAnyH_ready (rs := [4]) (by kernel_rfl) (by simp) (AllReadyH.cons rfl (fun K hK => ?_) AllReadyH.nil)
              have cq := (HR.out.below HB.out).cells.1
              go_simp
              clear cq
              refine hK.out _ _ (trivial) (fun hHeld => ?_)
              clear hK K
              refine wpAnyH_take (i := 6) (v := ?v104) rfl (by kernel_rfl) (by kernel_rfl) (by kernel_rfl) (fun _ _ _ h => h) (Or.inl ⟨by rfl, ?hy104⟩) (by assumption) ?_
              case hy104 => (intro w hSw; clear hSw; go_simp; try with_reducible rfl)
              go_simp
              refine wpAnyH_ready (rs := [17]) (by kernel_rfl) (by simp) (AllReadyH.cons rfl (fun K hK => ?_) AllReadyH.nil)
              refine step_appendH (by rfl) _ _ 67 (by rfl) B 118 i1 _ 2 40 Try.underlying67 hj hy0 hy1 hy2 rfl (by decide) (.slice (some ⟨g, 0, none⟩) p cap) p _ (by rfl) ((HR.out.below HB.out).ahead hpl) _ ((newR key :: R.drop p).map cellsR) (cellsR_len _) (one_newR HR.out.ones key p) (by rfl) (HR16.out _ (by first | omega | simp)) (by simp) ?_ ?_ (Nat.le_trans HB0.out (Nat.le_trans HBW.out.size HB.out.size)) ?_
              · simp [maxLen]; omega
              · simp; omega
              intro g17 c17 wd r17 gr17 lo17
              have HI := Lib.hid (HR.out.ins hpB hno (ins_full (R := R) (key := key) hpl r17) ((Frm.of_below HB.out).trans (Frm.of_grown gr17 (fun k e => e)) (fun _ _ h => h)))
              have HLO := Lib.hid (show (Value.slice (some ⟨g, 0, none⟩) R.length cap).ownBlock = some g17 ∨ W3.heap.size ≤ g17 from lo17.imp id (fun e => by rw [e]; exact HB.out.size))
              clear r17 gr17 lo17
              rename World => wc
              rw [show p + ((newR key :: R.drop p).map cellsR).length = R.length + 1 by simp; omega]
              go_simp
              refine hK.out _ _ (trivial) (fun hHeld => ?_)
              clear hK K
              refine wpAnyH_take (i := 18) (v := ?v105) rfl (by kernel_rfl) (by kernel_rfl) (by kernel_rfl) (fun _ _ _ h => h) (Or.inl ⟨by rfl, ?hy105⟩) (by assumption) ?_
              case hy105 => (intro w hSw; clear hSw; go_simp; try with_reducible rfl)
              go_simp
              refine wpAnyH_take (i := 19) (v := ?v106) rfl (by kernel_rfl) (by kernel_rfl) (by kernel_rfl) (fun _ _ _ h => h) (Or.inl ⟨by rfl, ?hy106⟩) (by assumption) ?_
              case hy106 => (intro w hSw; clear hSw; go_simp; try with_reducible rfl)
              go_simp
              refine wpAnyH_ready (rs := [20]) (by kernel_rfl) (by simp) (AllReadyH.cons rfl (fun K hK => ?_) AllReadyH.nil)
              have cq := HI.out.2.2.1
              have fq := HI.out.2.2.2
              go_simp
              clear cq fq
              refine hK.out _ _ (trivial) (fun hHeld => ?_)
              clear hK K
              refine wpAnyH_done (by kernel_rfl) ?_ _
              dsimp only [OnlyN]
              go_wp2_with fail
              all_goals (go_meet; case rel => exact ⟨_, _, _, Lib.hid (midA_no HR.out hpB hno HBW.out HX5.out ⟨HI.out.1, HI.out.2.1⟩ HLO.out HBLK.out)⟩)
  case rest =>
    obtain ⟨g, cap, R2, HM⟩ := hcut
    obtain ⟨W3, hW3⟩ : ∃ x, x = wc := ⟨_, rfl⟩
    rw [← hW3] at HM
    obtain ⟨hq, hk, hl⟩ := HM.out.at1
    have HR := Lib.hid HM.out.rs
    obtain ⟨u, hu⟩ : ∃ u, u = R2[p].2.1 := ⟨_, rfl⟩
    obtain ⟨l, hll⟩ : ∃ l, l = verC key (chR R) := ⟨_, rfl⟩
    have hlen : l.length ≤ 100000 := by rw [hll]; exact HVL.out
    have HU : Hid (∀ W', Below W3.heap.size W3 W' → W'.cell? ⟨g, p * 2 + 1, none⟩ = some u ∧ RdVS W' u l ∧ (∀ c, u = .slice none 0 c → c = 0)) := Lib.hid (fun W' hb => by
      obtain ⟨g', cap', he, _, c1⟩ := (HR.out.below hb).get hq
      simp only [Value.slice.injEq, Option.some.injEq, Addr.mk.injEq, and_true] at he
      obtain ⟨rfl, _, rfl⟩ := he
      obtain ⟨d1, d2, _⟩ := (HR.out.below hb).ch _ (List.getElem_mem hq)
      rw [hl, ← hll, ← hu] at d1
      rw [← hu] at c1 d2
      exact ⟨c1, d1, d2⟩)
    have HNB := Lib.hid (HR.out.nob HM.out.box)
    have HKT : Hid (∀ W', Frm (BlkR b (.slice (some ⟨g, 0, none⟩) R2.length cap)) W3 W' → W'.cell? ⟨W.heap.size, 0, none⟩ = some (.int .i64 va) ∧ W'.cell? ⟨W.heap.size, 1, none⟩ = some (str vx) ∧ W'.cell? ⟨W.heap.size, 2, none⟩ = some (.bool vz)) := Lib.hid (fun W' hf => by
      have e : W'.heap[W.heap.size]? = _ := (hf.block _ (Array.getElem?_eq_some_iff.1 HM.out.box).1 HNB.out).trans HM.out.box
      simp [World.cell?, e])
    have HKS : Hid (∀ W', Below W3.heap.size W3 W' → SCh b W.heap.size (.slice (some ⟨g, 0, none⟩) R2.length cap) va vx vz W') := Lib.hid (fun W' hb => ⟨((HR.out.below hb).cells).1, HKT.out _ (Frm.of_below hb)⟩)
    have hp := hq
    have HFIN : Hid (∀ W8 g17 c17, RS W8 B b (.slice (some ⟨g, 0, none⟩) R2.length cap) (R2.set p (R2[p].1, .slice (some ⟨g17, 0, none⟩) (l.length + 1) c17, l ++ [(va, vx, vz)])) low ∧ Frm (BlkR b (.slice (some ⟨g, 0, none⟩) R2.length cap)) W3 W8 → W3.heap.size ≤ g17 → RAddP W B b vo R low key (va, vx, vz) (.returned (.int .i64 0)) W8) := Lib.hid (fun W8 g17 c17 h8 h9 => by
      refine ⟨by rw [HC0.out], _, _, h8.1, ?_, HM.out.frm.trans h8.2 (fun i hi e => (HM.out.blk i e).resolve_right (by omega)), HM.out.blk, fun r hr j hj => by
        rcases List.mem_or_eq_of_mem_set hr with hm | rfl
        · exact .inl (HM.out.cb r hm j hj)
        · simp only [sBlk, Option.some.injEq] at hj
          subst hj
          exact .inr (Nat.le_trans HM.out.frm.size h9)⟩
      rw [chR_set HM.out.pl hq hk, HM.out.ins, hll]
      unfold putC
      rw [if_pos HC0.out])
    have hn2 : R2.length ≤ 100001 := by have := HM.out.len; omega
    clear HM hl hk hll hu HC0 HCL HVL HBLK HNB hq
    obtain ⟨i0, hi, hz0, hz1, hz2⟩ := info_parts infoRV
    rw [← hW3]
    clear hW3
    go_upto_region 8 with fail
    refine wp_region_held_drew (S := SCh b W.heap.size (.slice (some ⟨g, 0, none⟩) R2.length cap) va vx vz) (by kernel_rfl) (HKS.out _ (Below.drewsN (Below.refl _ _) 1)) (fun hHeld => ?_)
    obtain ⟨wc, hwc⟩ : ∃ x, x = W3.drew := ⟨_, rfl⟩
    have HB := Lib.hid (show Below W3.heap.size W3 wc by rw [hwc]; exact Below.drewsN (Below.refl _ _) 1)
    rw [← hwc] at hHeld ⊢
    clear hwc
    refine wpAnyH_take (i := 0) (v := ?v107) rfl (by kernel_rfl) (by kernel_rfl) (by kernel_rfl) (fun _ _ _ h => h) (Or.inl ⟨by rfl, ?hy107⟩) (by assumption) ?_
    case hy107 => (intro w hSw; clear hSw; go_simp; try with_reducible rfl)
    go_simp
    refine wpAnyH_take (i := 1) (v := ?v108) rfl (by kernel_rfl) (by kernel_rfl) (by kernel_rfl) (fun _ _ _ h => h) (Or.inl ⟨by rfl, ?hy108⟩) (by assumption) ?_
    case hy108 => (intro w hSw; clear hSw; go_simp; try with_reducible rfl)
    go_simp
    refine wpAnyH_take (i := 2) (v := ?v109) rfl (by kernel_rfl) (by kernel_rfl) (by kernel_rfl) (fun _ _ _ h => h) (Or.inl ⟨by rfl, ?hy109⟩) (by assumption) ?_
    case hy109 => (intro w hSw; clear hSw; go_simp; try with_reducible rfl)
    go_simp
    refine wpAnyH_take (i := 3) (v := ?v110) rfl (by kernel_rfl) (by kernel_rfl) (by kernel_rfl) (fun _ _ _ h => h) (Or.inl ⟨by rfl, ?hy110⟩) (by assumption) ?_
    case hy110 => (intro w hSw; obtain ⟨hs0, hs1, hs2, hs3⟩ := hSw; go_simp; try with_reducible rfl)
    go_simp
    refine wpAnyH_take (i := 4) (v := ?v111) rfl (by kernel_rfl) (by kernel_rfl) (by kernel_rfl) (fun _ _ _ h => h) (Or.inl ⟨by rfl, ?hy111⟩) (by assumption) ?_
    case hy111 => (intro w hSw; clear hSw; go_simp; try with_reducible rfl)
    go_simp
    refine wpAnyH_take (i := 6) (v := ?v112) rfl (by kernel_rfl) (by kernel_rfl) (by kernel_rfl) (fun _ _ _ h => h) (Or.inl ⟨by rfl, ?hy112⟩) (by assumption) ?_
    case hy112 => (intro w hSw; clear hSw; go_simp; try with_reducible rfl)
    go_simp
    refine wpAnyH_take (i := 7) (v := ?v113) rfl (by kernel_rfl) (by kernel_rfl) (by kernel_rfl) (fun _ _ _ h => h) (Or.inl ⟨by rfl, ?hy113⟩) (by assumption) ?_
    case hy113 => (intro w hSw; clear hSw; go_simp; try with_reducible rfl)
    go_simp
    refine wpAnyH_take (i := 8) (v := ?v114) rfl (by kernel_rfl) (by kernel_rfl) (by kernel_rfl) (fun _ _ _ h => h) (Or.inl ⟨by rfl, ?hy114⟩) (by assumption) ?_
    case hy114 => (intro w hSw; clear hSw; go_simp; try with_reducible rfl)
    go_simp
    refine wpAnyH_take (i := 9) (v := ?v115) rfl (by kernel_rfl) (by kernel_rfl) (by kernel_rfl) (fun _ _ _ h => h) (Or.inl ⟨by rfl, ?hy115⟩) (by assumption) ?_
    case hy115 => (intro w hSw; obtain ⟨hs0, hs1, hs2, hs3⟩ := hSw; go_simp; try with_reducible rfl)
    go_simp
    refine wpAnyH_take (i := 10) (v := ?v116) rfl (by kernel_rfl) (by kernel_rfl) (by kernel_rfl) (fun _ _ _ h => h) (Or.inl ⟨by rfl, ?hy116⟩) (by assumption) ?_
    case hy116 => (intro w hSw; clear hSw; go_simp; try with_reducible rfl)
    go_simp
    refine wpAnyH_take (i := 11) (v := ?v117) rfl (by kernel_rfl) (by kernel_rfl) (by kernel_rfl) (fun _ _ _ h => h) (Or.inl ⟨by rfl, ?hy117⟩) (by assumption) ?_
    case hy117 => (intro w hSw; clear hSw; go_simp; try with_reducible rfl)
    go_simp
    refine wpAnyH_take (i := 12) (v := ?v118) rfl (by kernel_rfl) (by kernel_rfl) (by kernel_rfl) (fun _ _ _ h => h) (Or.inl ⟨by rfl, ?hy118⟩) (by assumption) ?_
    case hy118 => (intro w hSw; clear hSw; go_simp; try with_reducible rfl)
    go_simp
    refine wpAnyH_take (i := 15) (v := ?v119) rfl (by kernel_rfl) (by kernel_rfl) (by kernel_rfl) (fun _ _ _ h => h) (Or.inl ⟨by rfl, ?hy119⟩) (by assumption) ?_
    case hy119 => (intro w hSw; obtain ⟨hs0, hs1, hs2, hs3⟩ := hSw; go_simp; try with_reducible rfl)
    go_simp
    refine wpAnyH_ready (rs := [5, 13, 16]) (by kernel_rfl) (by simp) (AllReadyH.cons rfl (fun K hK => ?_) (AllReadyH.cons rfl (fun K hK => ?_) (AllReadyH.cons rfl (fun K hK => ?_) AllReadyH.nil)))
    · go_simp
      obtain ⟨k5, hk5⟩ : ∃ k, k = wc.heap.size := ⟨_, rfl⟩
      obtain ⟨wd, hwd⟩ : ∃ W, W = wc.alloc (.cells #[] 93) := ⟨_, rfl⟩
      have hbs : Below wc.heap.size wc wd := by rw [hwd]; exact below_alloc _ _
      have HE5 := Lib.hid (show wd.ownsRow W3.heap.size 93 3 (.slice (some ⟨k5, 0, none⟩) 0 0) 0 [] by rw [hwd, hk5]; exact World.ownsRow_lit (e := 93) (size := 3) wc #[] 0 HB.out.size (by decide) rfl)
      try (have HL16 := Lib.hid (box_upR HL16.out hbs))
      have HB := Lib.hid (HB.out.trans (hbs.mono HB.out.size))
      rw [← hwd, ← hk5]
      clear hwd hk5 hbs
      rename World => wc
      refine hK.out _ _ (HKS.out _ HB.out) (fun hHeld => ?_)
      clear hK K
      refine wpAnyH_ready (rs := [13, 16]) (by kernel_rfl) (by simp) (AllReadyH.cons rfl (fun K hK => ?_) (AllReadyH.cons rfl (fun K hK => ?_) AllReadyH.nil))
      · have cq := (HU.out _ HB.out).1
        go_simp
        clear cq
        refine hK.out _ _ (HKS.out _ HB.out) (fun hHeld => ?_)
        clear hK K
        refine wpAnyH_ready (rs := [14, 16]) (by kernel_rfl) (by simp) (AllReadyH.cons rfl (fun K hK => ?_) (AllReadyH.cons rfl (fun K hK => ?_) AllReadyH.nil))
        · refine step_appendG (by rfl) _ _ 116 (by rfl) W3.heap.size 93 i0 _ 3 32 Try.underlying116 hi hz0 hz1 hz2 rfl (by decide) k5 0 0 [] (by rfl) HE5.out u (l.map cellsVS) (cellsVS_len l) (one_cellsVS l) (by rfl) (HU.out _ HB.out).2.1 (HU.out _ HB.out).2.2 ?_ ?_ HB.out.size ?_
          · rw [List.length_map]; simp [maxLen]; omega
          · rw [List.length_map]; omega
          intro g14 c14 wd r14 gr14
          rw [List.length_map, Nat.zero_add, List.nil_append] at r14
          rw [List.length_map, Nat.zero_add]
          have hbs : Below W3.heap.size W3 wd := HB.out.grown gr14 HB.out.size (fun k e => by cases e; exact (HE5.out.lt k5 rfl).1)
          try (have HL16 := Lib.hid (grown_box HL16.out gr14 HE5.out))
          have H14 := Lib.hid r14
          have HB := Lib.hid hbs
          clear r14 gr14 hbs
          rename World => wc
          go_simp
          refine hK.out _ _ (HKS.out _ HB.out) (fun hHeld => ?_)
          clear hK K
          refine wpAnyH_ready (rs := [16]) (by kernel_rfl) (by simp) (AllReadyH.cons rfl (fun K hK => ?_) AllReadyH.nil)
          go_simp
          obtain ⟨k16, hk16⟩ : ∃ k, k = wc.heap.size := ⟨_, rfl⟩
          obtain ⟨wd, hwd⟩ : ∃ W, W = wc.alloc (.cells #[.int .i64 va, str vx, .bool vz] 93) := ⟨_, rfl⟩
          have hbs : Below wc.heap.size wc wd := by rw [hwd]; exact below_alloc _ _
          have HL16 := Lib.hid (show wd.heap[k16]? = some (.cells #[.int .i64 va, str vx, .bool vz] 93 (0, 0)) by rw [hwd, hk16]; exact heap_alloc_new _ _)
          try (have HE5 := Lib.hid (owns_below HE5.out hbs (Nat.le_refl _)))
          try (have H14 := Lib.hid (owns_below H14.out hbs (Nat.le_refl _)))
          have HB := Lib.hid (HB.out.trans (hbs.mono HB.out.size))
          rw [← hwd, ← hk16]
          clear hwd hk16 hbs
          rename World => wc
          refine hK.out _ _ (HKS.out _ HB.out) (fun hHeld => ?_)
          clear hK K
          refine wpAnyH_ready (rs := [17]) (by kernel_rfl) (by simp) (AllReadyH.cons rfl (fun K hK => ?_) AllReadyH.nil)
          refine step_appendG (by rfl) _ _ 116 (by rfl) W3.heap.size 93 i0 _ 3 32 Try.underlying116 hi hz0 hz1 hz2 rfl (by decide) g14 c14 l.length _ (by rfl) H14.out (.slice (some ⟨k16, 0, none⟩) 1 1) [cellsVS (va, vx, vz)] (by simp [cellsVS]) (by simp [cellsVS, Value.oneCell']) (by rfl) (RdF.lit [cellsVS (va, vx, vz)] (by simp [cellsVS]) HL16.out rfl (by simp)) (fun c h => by cases h) ?_ ?_ HB.out.size ?_
          · simp [maxLen]; omega
          · simp; omega
          intro g17 c17 wd r17 gr17
          have HB := Lib.hid (HB.out.grown gr17 HB.out.size (fun k e => by cases e; exact (H14.out.lt g14 rfl).1))
          have H17 := Lib.hid (chain_end r17)
          clear r17 gr17
          rename World => wc
          go_simp
          refine hK.out _ _ (HKS.out _ HB.out) (fun hHeld => ?_)
          clear hK K
          refine wpAnyH_take (i := 18) (v := ?v120) rfl (by kernel_rfl) (by kernel_rfl) (by kernel_rfl) (fun _ _ _ h => h) (Or.inl ⟨by rfl, ?hy120⟩) (by assumption) ?_
          case hy120 => (intro w hSw; clear hSw; go_simp; try with_reducible rfl)
          go_simp
          refine wpAnyH_take (i := 19) (v := ?v121) rfl (by kernel_rfl) (by kernel_rfl) (by kernel_rfl) (fun _ _ _ h => h) (Or.inl ⟨by rfl, ?hy121⟩) (by assumption) ?_
          case hy121 => (intro w hSw; clear hSw; go_simp; try with_reducible rfl)
          go_simp
          refine wpAnyH_ready (rs := [20]) (by kernel_rfl) (by simp) (AllReadyH.cons rfl (fun K hK => ?_) AllReadyH.nil)
          have HST := Lib.hid (HR.out.setv hp HB.out H17.out.1 (fun c h => by cases h) (fun j hj => by cases hj; exact ⟨Nat.le_trans (Nat.le_trans HR.out.lt (Nat.le_of_lt HR.out.blt)) H17.out.2.1, H17.out.2.2⟩))
          have cq := HST.out.2.2.1
          have fq := HST.out.2.2.2
          go_simp
          clear cq fq
          refine hK.out _ _ (⟨HST.out.1.cells.1, HKT.out _ HST.out.2.1⟩) (fun hHeld => ?_)
          clear hK K
          refine wpAnyH_done (by kernel_rfl) ?_ _
          have HX := Lib.hid (HFIN.out _ _ _ ⟨HST.out.1, HST.out.2.1⟩ H17.out.2.1)
          clear HKS HKT HU HR HFIN
          go_wp2_with fail
          go_ret
          exact HX.out
        · go_simp
          obtain ⟨k16, hk16⟩ : ∃ k, k = wc.heap.size := ⟨_, rfl⟩
          obtain ⟨wd, hwd⟩ : ∃ W, W = wc.alloc (.cells #[.int .i64 va, str vx, .bool vz] 93) := ⟨_, rfl⟩
          have hbs : Below wc.heap.size wc wd := by rw [hwd]; exact below_alloc _ _
          have HL16 := Lib.hid (show wd.heap[k16]? = some (.cells #[.int .i64 va, str vx, .bool vz] 93 (0, 0)) by rw [hwd, hk16]; exact heap_alloc_new _ _)
          try (have HE5 := Lib.hid (owns_below HE5.out hbs (Nat.le_refl _)))
          try (have H14 := Lib.hid (owns_below H14.out hbs (Nat.le_refl _)))
          have HB := Lib.hid (HB.out.trans (hbs.mono HB.out.size))
          rw [← hwd, ← hk16]
          clear hwd hk16 hbs
          rename World => wc
          refine hK.out _ _ (HKS.out _ HB.out) (fun hHeld => ?_)
          clear hK K
          refine wpAnyH_ready (rs := [14]) (by kernel_rfl) (by simp) (AllReadyH.cons rfl (fun K hK => ?_) AllReadyH.nil)
          refine step_appendG (by rfl) _ _ 116 (by rfl) W3.heap.size 93 i0 _ 3 32 Try.underlying116 hi hz0 hz1 hz2 rfl (by decide) k5 0 0 [] (by rfl) HE5.out u (l.map cellsVS) (cellsVS_len l) (one_cellsVS l) (by rfl) (HU.out _ HB.out).2.1 (HU.out _ HB.out).2.2 ?_ ?_ HB.out.size ?_
          · rw [List.length_map]; simp [maxLen]; omega
          · rw [List.length_map]; omega
          intro g14 c14 wd r14 gr14
          rw [List.length_map, Nat.zero_add, List.nil_append] at r14
          rw [List.length_map, Nat.zero_add]
          have hbs : Below W3.heap.size W3 wd := HB.out.grown gr14 HB.out.size (fun k e => by cases e; exact (HE5.out.lt k5 rfl).1)
          try (have HL16 := Lib.hid (grown_box HL16.out gr14 HE5.out))
          have H14 := Lib.hid r14
          have HB := Lib.hid hbs
          clear r14 gr14 hbs
          rename World => wc
          go_simp
          refine hK.out _ _ (HKS.out _ HB.out) (fun hHeld => ?_)
          clear hK K
          refine wpAnyH_ready (rs := [17]) (by kernel_rfl) (by simp) (AllReadyH.cons rfl (fun K hK => ?_) AllReadyH.nil)
          refine step_appendG (by rfl) _ _ 116 (by rfl) W3.heap.size 93 i0 _ 3 32 Try.underlying116 hi hz0 hz1 hz2 rfl (by decide) g14 c14 l.length _ (by rfl) H14.out (.slice (some ⟨k16, 0, none⟩) 1 1) [cellsVS (va, vx, vz)] (by simp [cellsVS]) (by simp [cellsVS, Value.oneCell']) (by rfl) (RdF.lit [cellsVS (va, vx, vz)] (by simp [cellsVS]) HL16.out rfl (by simp)) (fun c h => by cases h) ?_ ?_ HB.out.size ?_
          · simp [maxLen]; omega
          · simp; omega
          intro g17 c17 wd r17 gr17
          have HB := Lib.hid (HB.out.grown gr17 HB.out.size (fun k e => by cases e; exact (H14.out.lt g14 rfl).1))
          have H17 := Lib.hid (chain_end r17)
          clear r17 gr17
          rename World => wc
          go_simp
          refine hK.out _ _ (HKS.out _ HB.out) (fun hHeld => ?_)
          clear hK K
          refine wpAnyH_take (i := 18) (v := ?v122) rfl (by kernel_rfl) (by kernel_rfl) (by kernel_rfl) (fun _ _ _ h => h) (Or.inl ⟨by rfl, ?hy122⟩) (by assumption) ?_
          case hy122 => (intro w hSw; clear hSw; go_simp; try with_reducible rfl)
          go_simp
          refine wpAnyH_take (i := 19) (v := ?v123) rfl (by kernel_rfl) (by kernel_rfl) (by kernel_rfl) (fun _ _ _ h => h) (Or.inl ⟨by rfl, ?hy123⟩) (by assumption) ?_
          case hy123 => (intro w hSw; clear hSw; go_simp; try with_reducible rfl)
          go_simp
          refine wpAnyH_ready (rs := [20]) (by kernel_rfl) (by simp) (AllReadyH.cons rfl (fun K hK => ?_) AllReadyH.nil)
          have HST := Lib.hid (HR.out.setv hp HB.out H17.out.1 (fun c h => by cases h) (fun j hj => by cases hj; exact ⟨Nat.le_trans (Nat.le_trans HR.out.lt (Nat.le_of_lt HR.out.blt)) H17.out.2.1, H17.out.2.2⟩))
          have cq := HST.out.2.2.1
          have fq := HST.out.2.2.2
          go_simp
          clear cq fq
          refine hK.out _ _ (⟨HST.out.1.cells.1, HKT.out _ HST.out.2.1⟩) (fun hHeld => ?_)
          clear hK K
          refine wpAnyH_done (by kernel_rfl) ?_ _
          have HX := Lib.hid (HFIN.out _ _ _ ⟨HST.out.1, HST.out.2.1⟩ H17.out.2.1)
          clear HKS HKT HU HR HFIN
          go_wp2_with fail
          go_ret
          exact HX.out
      · go_simp
        obtain ⟨k16, hk16⟩ : ∃ k, k = wc.heap.size := ⟨_, rfl⟩
        obtain ⟨wd, hwd⟩ : ∃ W, W = wc.alloc (.cells #[.int .i64 va, str vx, .bool vz] 93) := ⟨_, rfl⟩
        have hbs : Below wc.heap.size wc wd := by rw [hwd]; exact below_alloc _ _
        have HL16 := Lib.hid (show wd.heap[k16]? = some (.cells #[.int .i64 va, str vx, .bool vz] 93 (0, 0)) by rw [hwd, hk16]; exact heap_alloc_new _ _)
        try (have HE5 := Lib.hid (owns_below HE5.out hbs (Nat.le_refl _)))
        try (have H14 := Lib.hid (owns_below H14.out hbs (Nat.le_refl _)))
        have HB := Lib.hid (HB.out.trans (hbs.mono HB.out.size))
        rw [← hwd, ← hk16]
        clear hwd hk16 hbs
        rename World => wc
        refine hK.out _ _ (HKS.out _ HB.out) (fun hHeld => ?_)
        clear hK K
        refine wpAnyH_ready (rs := [13]) (by kernel_rfl) (by simp) (AllReadyH.cons rfl (fun K hK => ?_) AllReadyH.nil)
        have cq := (HU.out _ HB.out).1
        go_simp
        clear cq
        refine hK.out _ _ (HKS.out _ HB.out) (fun hHeld => ?_)
        clear hK K
        refine wpAnyH_ready (rs := [14]) (by kernel_rfl) (by simp) (AllReadyH.cons rfl (fun K hK => ?_) AllReadyH.nil)
        refine step_appendG (by rfl) _ _ 116 (by rfl) W3.heap.size 93 i0 _ 3 32 Try.underlying116 hi hz0 hz1 hz2 rfl (by decide) k5 0 0 [] (by rfl) HE5.out u (l.map cellsVS) (cellsVS_len l) (one_cellsVS l) (by rfl) (HU.out _ HB.out).2.1 (HU.out _ HB.out).2.2 ?_ ?_ HB.out.size ?_
        · rw [List.length_map]; simp [maxLen]; omega
        · rw [List.length_map]; omega
        intro g14 c14 wd r14 gr14
        rw [List.length_map, Nat.zero_add, List.nil_append] at r14
        rw [List.length_map, Nat.zero_add]
        have hbs : Below W3.heap.size W3 wd := HB.out.grown gr14 HB.out.size (fun k e => by cases e; exact (HE5.out.lt k5 rfl).1)
        try (have HL16 := Lib.hid (grown_box HL16.out gr14 HE5.out))
        have H14 := Lib.hid r14
        have HB := Lib.hid hbs
        clear r14 gr14 hbs
        rename World => wc
        go_simp
        refine hK.out _ _ (HKS.out _ HB.out) (fun hHeld => ?_)
        clear hK K
        refine wpAnyH_ready (rs := [17]) (by kernel_rfl) (by simp) (AllReadyH.cons rfl (fun K hK => ?_) AllReadyH.nil)
        refine step_appendG (by rfl) _ _ 116 (by rfl) W3.heap.size 93 i0 _ 3 32 Try.underlying116 hi hz0 hz1 hz2 rfl (by decide) g14 c14 l.length _ (by rfl) H14.out (.slice (some ⟨k16, 0, none⟩) 1 1) [cellsVS (va, vx, vz)] (by simp [cellsVS]) (by simp [cellsVS, Value.oneCell']) (by rfl) (RdF.lit [cellsVS (va, vx, vz)] (by simp [cellsVS]) HL16.out rfl (by simp)) (fun c h => by cases h) ?_ ?_ HB.out.size ?_
        · simp [maxLen]; omega
        · simp; omega
        intro g17 c17 wd r17 gr17
        have HB := Lib.hid (HB.out.grown gr17 HB.out.size (fun k e => by cases e; exact (H14.out.lt g14 rfl).1))
        have H17 := Lib.hid (chain_end r17)
        clear r17 gr17
        rename World => wc
        go_simp
        refine hK.out _ _ (HKS.out _ HB.out) (fun hHeld => ?_)
        clear hK K
        refine wpAnyH_take (i := 18) (v := ?v124) rfl (by kernel_rfl) (by kernel_rfl) (by kernel_rfl) (fun _ _ _ h => h) (Or.inl ⟨by rfl, ?hy124⟩) (by assumption) ?_
        case hy124 => (intro w hSw; clear hSw; go_simp; try with_reducible rfl)
        go_simp
        refine wpAnyH_take (i := 19) (v := ?v125) rfl (by kernel_rfl) (by kernel_rfl) (by kernel_rfl) (fun _ _ _ h => h) (Or.inl ⟨by rfl, ?hy125⟩) (by assumption) ?_
        case hy125 => (intro w hSw; clear hSw; go_simp; try with_reducible rfl)
        go_simp
        refine wpAnyH_ready (rs := [20]) (by kernel_rfl) (by simp) (AllReadyH.cons rfl (fun K hK => ?_) AllReadyH.nil)
        have HST := Lib.hid (HR.out.setv hp HB.out H17.out.1 (fun c h => by cases h) (fun j hj => by cases hj; exact ⟨Nat.le_trans (Nat.le_trans HR.out.lt (Nat.le_of_lt HR.out.blt)) H17.out.2.1, H17.out.2.2⟩))
        have cq := HST.out.2.2.1
        have fq := HST.out.2.2.2
        go_simp
        clear cq fq
        refine hK.out _ _ (⟨HST.out.1.cells.1, HKT.out _ HST.out.2.1⟩) (fun hHeld => ?_)
        clear hK K
        refine wpAnyH_done (by kernel_rfl) ?_ _
        have HX := Lib.hid (HFIN.out _ _ _ ⟨HST.out.1, HST.out.2.1⟩ H17.out.2.1)
        clear HKS HKT HU HR HFIN
        go_wp2_with fail
        go_ret
        exact HX.out
    · have cq := (HU.out _ HB.out).1
      go_simp
      clear cq
      refine hK.out _ _ (HKS.out _ HB.out) (fun hHeld => ?_)
      clear hK K
      refine wpAnyH_ready (rs := [5, 16]) (by kernel_rfl) (by simp) (AllReadyH.cons rfl (fun K hK => ?_) (AllReadyH.cons rfl (fun K hK => ?_) AllReadyH.nil))
      · go_simp
        obtain ⟨k5, hk5⟩ : ∃ k, k = wc.heap.size := ⟨_, rfl⟩
        obtain ⟨wd, hwd⟩ : ∃ W, W = wc.alloc (.cells #[] 93) := ⟨_, rfl⟩
        have hbs : Below wc.heap.size wc wd := by rw [hwd]; exact below_alloc _ _
        have HE5 := Lib.hid (show wd.ownsRow W3.heap.size 93 3 (.slice (some ⟨k5, 0, none⟩) 0 0) 0 [] by rw [hwd, hk5]; exact World.ownsRow_lit (e := 93) (size := 3) wc #[] 0 HB.out.size (by decide) rfl)
        try (have HL16 := Lib.hid (box_upR HL16.out hbs))
        have HB := Lib.hid (HB.out.trans (hbs.mono HB.out.size))
        rw [← hwd, ← hk5]
        clear hwd hk5 hbs
        rename World => wc
        refine hK.out _ _ (HKS.out _ HB.out) (fun hHeld => ?_)
        clear hK K
        refine wpAnyH_ready (rs := [14, 16]) (by kernel_rfl) (by simp) (AllReadyH.cons rfl (fun K hK => ?_) (AllReadyH.cons rfl (fun K hK => ?_) AllReadyH.nil))
        · refine step_appendG (by rfl) _ _ 116 (by rfl) W3.heap.size 93 i0 _ 3 32 Try.underlying116 hi hz0 hz1 hz2 rfl (by decide) k5 0 0 [] (by rfl) HE5.out u (l.map cellsVS) (cellsVS_len l) (one_cellsVS l) (by rfl) (HU.out _ HB.out).2.1 (HU.out _ HB.out).2.2 ?_ ?_ HB.out.size ?_
          · rw [List.length_map]; simp [maxLen]; omega
          · rw [List.length_map]; omega
          intro g14 c14 wd r14 gr14
          rw [List.length_map, Nat.zero_add, List.nil_append] at r14
          rw [List.length_map, Nat.zero_add]
          have hbs : Below W3.heap.size W3 wd := HB.out.grown gr14 HB.out.size (fun k e => by cases e; exact (HE5.out.lt k5 rfl).1)
          try (have HL16 := Lib.hid (grown_box HL16.out gr14 HE5.out))
          have H14 := Lib.hid r14
          have HB := Lib.hid hbs
          clear r14 gr14 hbs
          rename World => wc
          go_simp
          refine hK.out _ _ (HKS.out _ HB.out) (fun hHeld => ?_)
          clear hK K
          refine wpAnyH_ready (rs := [16]) (by kernel_rfl) (by simp) (AllReadyH.cons rfl (fun K hK => ?_) AllReadyH.nil)
          go_simp
          obtain ⟨k16, hk16⟩ : ∃ k, k = wc.heap.size := ⟨_, rfl⟩
          obtain ⟨wd, hwd⟩ : ∃ W, W = wc.alloc (.cells #[.int .i64 va, str vx, .bool vz] 93) := ⟨_, rfl⟩
          have hbs : Below wc.heap.size wc wd := by rw [hwd]; exact below_alloc _ _
          have HL16 := Lib.hid (show wd.heap[k16]? = some (.cells #[.int .i64 va, str vx, .bool vz] 93 (0, 0)) by rw [hwd, hk16]; exact heap_alloc_new _ _)
          try (have HE5 := Lib.hid (owns_below HE5.out hbs (Nat.le_refl _)))
          try (have H14 := Lib.hid (owns_below H14.out hbs (Nat.le_refl _)))
          have HB := Lib.hid (HB.out.trans (hbs.mono HB.out.size))
          rw [← hwd, ← hk16]
          clear hwd hk16 hbs
          rename World => wc
          refine hK.out _ _ (HKS.out _ HB.out) (fun hHeld => ?_)
          clear hK K
          refine wpAnyH_ready (rs := [17]) (by kernel_rfl) (by simp) (AllReadyH.cons rfl (fun K hK => ?_) AllReadyH.nil)
          refine step_appendG (by rfl) _ _ 116 (by rfl) W3.heap.size 93 i0 _ 3 32 Try.underlying116 hi hz0 hz1 hz2 rfl (by decide) g14 c14 l.length _ (by rfl) H14.out (.slice (some ⟨k16, 0, none⟩) 1 1) [cellsVS (va, vx, vz)] (by simp [cellsVS]) (by simp [cellsVS, Value.oneCell']) (by rfl) (RdF.lit [cellsVS (va, vx, vz)] (by simp [cellsVS]) HL16.out rfl (by simp)) (fun c h => by cases h) ?_ ?_ HB.out.size ?_
          · simp [maxLen]; omega
          · simp; omega
          intro g17 c17 wd r17 gr17
          have HB := Lib.hid (HB.out.grown gr17 HB.out.size (fun k e => by cases e; exact (H14.out.lt g14 rfl).1))
          have H17 := Lib.hid (chain_end r17)
          clear r17 gr17
          rename World => wc
          go_simp
          refine hK.out _ _ (HKS.out _ HB.out) (fun hHeld => ?_)
          clear hK K
          refine wpAnyH_take (i := 18) (v := ?v126) rfl (by kernel_rfl) (by kernel_rfl) (by kernel_rfl) (fun _ _ _ h => h) (Or.inl ⟨by rfl, ?hy126⟩) (by assumption) ?_
          case hy126 => (intro w hSw; clear hSw; go_simp; try with_reducible rfl)
          go_simp
          refine wpAnyH_take (i := 19) (v := ?v127) rfl (by kernel_rfl) (by kernel_rfl) (by kernel_rfl) (fun _ _ _ h => h) (Or.inl ⟨by rfl, ?hy127⟩) (by assumption) ?_
          case hy127 => (intro w hSw; clear hSw; go_simp; try with_reducible rfl)
          go_simp
          refine wpAnyH_ready (rs := [20]) (by kernel_rfl) (by simp) (AllReadyH.cons rfl (fun K hK => ?_) AllReadyH.nil)
          have HST := Lib.hid (HR.out.setv hp HB.out H17.out.1 (fun c h => by cases h) (fun j hj => by cases hj; exact ⟨Nat.le_trans (Nat.le_trans HR.out.lt (Nat.le_of_lt HR.out.blt)) H17.out.2.1, H17.out.2.2⟩))
          have cq := HST.out.2.2.1
          have fq := HST.out.2.2.2
          go_simp
          clear cq fq
          refine hK.out _ _ (⟨HST.out.1.cells.1, HKT.out _ HST.out.2.1⟩) (fun hHeld => ?_)
          clear hK K
          refine wpAnyH_done (by kernel_rfl) ?_ _
          have HX := Lib.hid (HFIN.out _ _ _ ⟨HST.out.1, HST.out.2.1⟩ H17.out.2.1)
          clear HKS HKT HU HR HFIN
          go_wp2_with fail
          go_ret
          exact HX.out
        · go_simp
          obtain ⟨k16, hk16⟩ : ∃ k, k = wc.heap.size := ⟨_, rfl⟩
          obtain ⟨wd, hwd⟩ : ∃ W, W = wc.alloc (.cells #[.int .i64 va, str vx, .bool vz] 93) := ⟨_, rfl⟩
          have hbs : Below wc.heap.size wc wd := by rw [hwd]; exact below_alloc _ _
          have HL16 := Lib.hid (show wd.heap[k16]? = some (.cells #[.int .i64 va, str vx, .bool vz] 93 (0, 0)) by rw [hwd, hk16]; exact heap_alloc_new _ _)
          try (have HE5 := Lib.hid (owns_below HE5.out hbs (Nat.le_refl _)))
          try (have H14 := Lib.hid (owns_below H14.out hbs (Nat.le_refl _)))
          have HB := Lib.hid (HB.out.trans (hbs.mono HB.out.size))
          rw [← hwd, ← hk16]
          clear hwd hk16 hbs
          rename World => wc
          refine hK.out _ _ (HKS.out _ HB.out) (fun hHeld => ?_)
          clear hK K
          refine wpAnyH_ready (rs := [14]) (by kernel_rfl) (by simp) (AllReadyH.cons rfl (fun K hK => ?_) AllReadyH.nil)
          refine step_appendG (by rfl) _ _ 116 (by rfl) W3.heap.size 93 i0 _ 3 32 Try.underlying116 hi hz0 hz1 hz2 rfl (by decide) k5 0 0 [] (by rfl) HE5.out u (l.map cellsVS) (cellsVS_len l) (one_cellsVS l) (by rfl) (HU.out _ HB.out).2.1 (HU.out _ HB.out).2.2 ?_ ?_ HB.out.size ?_
          · rw [List.length_map]; simp [maxLen]; omega
          · rw [List.length_map]; omega
          intro g14 c14 wd r14 gr14
          rw [List.length_map, Nat.zero_add, List.nil_append] at r14
          rw [List.length_map, Nat.zero_add]
          have hbs : Below W3.heap.size W3 wd := HB.out.grown gr14 HB.out.size (fun k e => by cases e; exact (HE5.out.lt k5 rfl).1)
          try (have HL16 := Lib.hid (grown_box HL16.out gr14 HE5.out))
          have H14 := Lib.hid r14
          have HB := Lib.hid hbs
          clear r14 gr14 hbs
          rename World => wc
          go_simp
          refine hK.out _ _ (HKS.out _ HB.out) (fun hHeld => ?_)
          clear hK K
          refine wpAnyH_ready (rs := [17]) (by kernel_rfl) (by simp) (AllReadyH.cons rfl (fun K hK => ?_) AllReadyH.nil)
          refine step_appendG (by rfl) _ _ 116 (by rfl) W3.heap.size 93 i0 _ 3 32 Try.underlying116 hi hz0 hz1 hz2 rfl (by decide) g14 c14 l.length _ (by rfl) H14.out (.slice (some ⟨k16, 0, none⟩) 1 1) [cellsVS (va, vx, vz)] (by simp [cellsVS]) (by simp [cellsVS, Value.oneCell']) (by rfl) (RdF.lit [cellsVS (va, vx, vz)] (by simp [cellsVS]) HL16.out rfl (by simp)) (fun c h => by cases h) ?_ ?_ HB.out.size ?_
          · simp [maxLen]; omega
          · simp; omega
          intro g17 c17 wd r17 gr17
          have HB := Lib.hid (HB.out.grown gr17 HB.out.size (fun k e => by cases e; exact (H14.out.lt g14 rfl).1))
          have H17 := Lib.hid (chain_end r17)
          clear r17 gr17
          rename World => wc
          go_simp
          refine hK.out _ _ (HKS.out _ HB.out) (fun hHeld => ?_)
          clear hK K
          refine wpAnyH_take (i := 18) (v := ?v128) rfl (by kernel_rfl) (by kernel_rfl) (by kernel_rfl) (fun _ _ _ h => h) (Or.inl ⟨by rfl, ?hy128⟩) (by assumption) ?_
          case hy128 => (intro w hSw; clear hSw; go_simp; try with_reducible rfl)
          go_simp
          refine wpAnyH_take (i := 19) (v := ?v129) rfl (by kernel_rfl) (by kernel_rfl) (by kernel_rfl) (fun _ _ _ h => h) (Or.inl ⟨by rfl, ?hy129⟩) (by assumption) ?_
          case hy129 => (intro w hSw; clear hSw; go_simp; try with_reducible rfl)
          go_simp
          refine wpAnyH_ready (rs := [20]) (by kernel_rfl) (by simp) (AllReadyH.cons rfl (fun K hK => ?_) AllReadyH.nil)
          have HST := Lib.hid (HR.out.setv hp HB.out H17.out.1 (fun c h => by cases h) (fun j hj => by cases hj; exact ⟨Nat.le_trans (Nat.le_trans HR.out.lt (Nat.le_of_lt HR.out.blt)) H17.out.2.1, H17.out.2.2⟩))
          have cq := HST.out.2.2.1
          have fq := HST.out.2.2.2
          go_simp
          clear cq fq
          refine hK.out _ _ (⟨HST.out.1.cells.1, HKT.out _ HST.out.2.1⟩) (fun hHeld => ?_)
          clear hK K
          refine wpAnyH_done (by kernel_rfl) ?_ _
          have HX := Lib.hid (HFIN.out _ _ _ ⟨HST.out.1, HST.out.2.1⟩ H17.out.2.1)
          clear HKS HKT HU HR HFIN
          go_wp2_with fail
          go_ret
          exact HX.out
      · go_simp
        obtain ⟨k16, hk16⟩ : ∃ k, k = wc.heap.size := ⟨_, rfl⟩
        obtain ⟨wd, hwd⟩ : ∃ W, W = wc.alloc (.cells #[.int .i64 va, str vx, .bool vz] 93) := ⟨_, rfl⟩
        have hbs : Below wc.heap.size wc wd := by rw [hwd]; exact below_alloc _ _
        have HL16 := Lib.hid (show wd.heap[k16]? = some (.cells #[.int .i64 va, str vx, .bool vz] 93 (0, 0)) by rw [hwd, hk16]; exact heap_alloc_new _ _)
        try (have HE5 := Lib.hid (owns_below HE5.out hbs (Nat.le_refl _)))
        try (have H14 := Lib.hid (owns_below H14.out hbs (Nat.le_refl _)))
        have HB := Lib.hid (HB.out.trans (hbs.mono HB.out.size))
        rw [← hwd, ← hk16]
        clear hwd hk16 hbs
        rename World => wc
        refine hK.out _ _ (HKS.out _ HB.out) (fun hHeld => ?_)
        clear hK K
        refine wpAnyH_ready (rs := [5]) (by kernel_rfl) (by simp) (AllReadyH.cons rfl (fun K hK => ?_) AllReadyH.nil)
        go_simp
        obtain ⟨k5, hk5⟩ : ∃ k, k = wc.heap.size := ⟨_, rfl⟩
        obtain ⟨wd, hwd⟩ : ∃ W, W = wc.alloc (.cells #[] 93) := ⟨_, rfl⟩
        have hbs : Below wc.heap.size wc wd := by rw [hwd]; exact below_alloc _ _
        have HE5 := Lib.hid (show wd.ownsRow W3.heap.size 93 3 (.slice (some ⟨k5, 0, none⟩) 0 0) 0 [] by rw [hwd, hk5]; exact World.ownsRow_lit (e := 93) (size := 3) wc #[] 0 HB.out.size (by decide) rfl)
        try (have HL16 := Lib.hid (box_upR HL16.out hbs))
        have HB := Lib.hid (HB.out.trans (hbs.mono HB.out.size))
        rw [← hwd, ← hk5]
        clear hwd hk5 hbs
        rename World => wc
        refine hK.out _ _ (HKS.out _ HB.out) (fun hHeld => ?_)
        clear hK K
        refine wpAnyH_ready (rs := [14]) (by kernel_rfl) (by simp) (AllReadyH.cons rfl (fun K hK => ?_) AllReadyH.nil)
        refine step_appendG (by rfl) _ _ 116 (by rfl) W3.heap.size 93 i0 _ 3 32 Try.underlying116 hi hz0 hz1 hz2 rfl (by decide) k5 0 0 [] (by rfl) HE5.out u (l.map cellsVS) (cellsVS_len l) (one_cellsVS l) (by rfl) (HU.out _ HB.out).2.1 (HU.out _ HB.out).2.2 ?_ ?_ HB.out.size ?_
        · rw [List.length_map]; simp [maxLen]; omega
        · rw [List.length_map]; omega
        intro g14 c14 wd r14 gr14
        rw [List.length_map, Nat.zero_add, List.nil_append] at r14
        rw [List.length_map, Nat.zero_add]
        have hbs : Below W3.heap.size W3 wd := HB.out.grown gr14 HB.out.size (fun k e => by cases e; exact (HE5.out.lt k5 rfl).1)
        try (have HL16 := Lib.hid (grown_box HL16.out gr14 HE5.out))
        have H14 := Lib.hid r14
        have HB := Lib.hid hbs
        clear r14 gr14 hbs
        rename World => wc
        go_simp
        refine hK.out _ _ (HKS.out _ HB.out) (fun hHeld => ?_)
        clear hK K
        refine wpAnyH_ready (rs := [17]) (by kernel_rfl) (by simp) (AllReadyH.cons rfl (fun K hK => ?_) AllReadyH.nil)
        refine step_appendG (by rfl) _ _ 116 (by rfl) W3.heap.size 93 i0 _ 3 32 Try.underlying116 hi hz0 hz1 hz2 rfl (by decide) g14 c14 l.length _ (by rfl) H14.out (.slice (some ⟨k16, 0, none⟩) 1 1) [cellsVS (va, vx, vz)] (by simp [cellsVS]) (by simp [cellsVS, Value.oneCell']) (by rfl) (RdF.lit [cellsVS (va, vx, vz)] (by simp [cellsVS]) HL16.out rfl (by simp)) (fun c h => by cases h) ?_ ?_ HB.out.size ?_
        · simp [maxLen]; omega
        · simp; omega
        intro g17 c17 wd r17 gr17
        have HB := Lib.hid (HB.out.grown gr17 HB.out.size (fun k e => by cases e; exact (H14.out.lt g14 rfl).1))
        have H17 := Lib.hid (chain_end r17)
        clear r17 gr17
        rename World => wc
        go_simp
        refine hK.out _ _ (HKS.out _ HB.out) (fun hHeld => ?_)
        clear hK K
        refine wpAnyH_take (i := 18) (v := ?v130) rfl (by kernel_rfl) (by kernel_rfl) (by kernel_rfl) (fun _ _ _ h => h) (Or.inl ⟨by rfl, ?hy130⟩) (by assumption) ?_
        case hy130 => (intro w hSw; clear hSw; go_simp; try with_reducible rfl)
        go_simp
        refine wpAnyH_take (i := 19) (v := ?v131) rfl (by kernel_rfl) (by kernel_rfl) (by kernel_rfl) (fun _ _ _ h => h) (Or.inl ⟨by rfl, ?hy131⟩) (by assumption) ?_
        case hy131 => (intro w hSw; clear hSw; go_simp; try with_reducible rfl)
        go_simp
        refine wpAnyH_ready (rs := [20]) (by kernel_rfl) (by simp) (AllReadyH.cons rfl (fun K hK => ?_) AllReadyH.nil)
        have HST := Lib.hid (HR.out.setv hp HB.out H17.out.1 (fun c h => by cases h) (fun j hj => by cases hj; exact ⟨Nat.le_trans (Nat.le_trans HR.out.lt (Nat.le_of_lt HR.out.blt)) H17.out.2.1, H17.out.2.2⟩))
        have cq := HST.out.2.2.1
        have fq := HST.out.2.2.2
        go_simp
        clear cq fq
        refine hK.out _ _ (⟨HST.out.1.cells.1, HKT.out _ HST.out.2.1⟩) (fun hHeld => ?_)
        clear hK K
        refine wpAnyH_done (by kernel_rfl) ?_ _
        have HX := Lib.hid (HFIN.out _ _ _ ⟨HST.out.1, HST.out.2.1⟩ H17.out.2.1)
        clear HKS HKT HU HR HFIN
        go_wp2_with fail
        go_ret
        exact HX.out
    · go_simp
      obtain ⟨k16, hk16⟩ : ∃ k, k = wc.heap.size := ⟨_, rfl⟩
      obtain ⟨wd, hwd⟩ : ∃ W, W = wc.alloc (.cells #[.int .i64 va, str vx, .bool vz] 93) := ⟨_, rfl⟩
      have hbs : Below wc.heap.size wc wd := by rw [hwd]; exact below_alloc _ _
      have HL16 := Lib.hid (show wd.heap[k16]? = some (.cells #[.int .i64 va, str vx, .bool vz] 93 (0, 0)) by rw [hwd, hk16]; exact heap_alloc_new _ _)
      try (have HE5 := Lib.hid (owns_below HE5.out hbs (Nat.le_refl _)))
      try (have H14 := Lib.hid (owns_below H14.out hbs (Nat.le_refl _)))
      have HB := Lib.hid (HB.out.trans (hbs.mono HB.out.size))
      rw [← hwd, ← hk16]
      clear hwd hk16 hbs
      rename World => wc
      refine hK.out _ _ (HKS.out _ HB.out) (fun hHeld => ?_)
      clear hK K
      refine wpAnyH_ready (rs := [5, 13]) (by kernel_rfl) (by simp) (AllReadyH.cons rfl (fun K hK => ?_) (AllReadyH.cons rfl (fun K hK => ?_) AllReadyH.nil))
      · go_simp
        obtain ⟨k5, hk5⟩ : ∃ k, k = wc.heap.size := ⟨_, rfl⟩
        obtain ⟨wd, hwd⟩ : ∃ W, W = wc.alloc (.cells #[] 93) := ⟨_, rfl⟩
        have hbs : Below wc.heap.size wc wd := by rw [hwd]; exact below_alloc _ _
        have HE5 := Lib.hid (show wd.ownsRow W3.heap.size 93 3 (.slice (some ⟨k5, 0, none⟩) 0 0) 0 [] by rw [hwd, hk5]; exact World.ownsRow_lit (e := 93) (size := 3) wc #[] 0 HB.out.size (by decide) rfl)
        try (have HL16 := Lib.hid (box_upR HL16.out hbs))
        have HB := Lib.hid (HB.out.trans (hbs.mono HB.out.size))
        rw [← hwd, ← hk5]
        clear hwd hk5 hbs
        rename World => wc
        refine hK.out _ _ (HKS.out _ HB.out) (fun hHeld => ?_)
        clear hK K
        refine wpAnyH_ready (rs := [13]) (by kernel_rfl) (by simp) (AllReadyH.cons rfl (fun K hK => ?_) AllReadyH.nil)
        have cq := (HU.out _ HB.out).1
        go_simp
        clear cq
        refine hK.out _ _ (HKS.out _ HB.out) (fun hHeld => ?_)
        clear hK K
        refine wpAnyH_ready (rs := [14]) (by kernel_rfl) (by simp) (AllReadyH.cons rfl (fun K hK => ?_) AllReadyH.nil)
        refine step_appendG (by rfl) _ _ 116 (by rfl) W3.heap.size 93 i0 _ 3 32 Try.underlying116 hi hz0 hz1 hz2 rfl (by decide) k5 0 0 [] (by rfl) HE5.out u (l.map cellsVS) (cellsVS_len l) (one_cellsVS l) (by rfl) (HU.out _ HB.out).2.1 (HU.out _ HB.out).2.2 ?_ ?_ HB.out.size ?_
        · rw [List.length_map]; simp [maxLen]; omega
        · rw [List.length_map]; omega
        intro g14 c14 wd r14 gr14
        rw [List.length_map, Nat.zero_add, List.nil_append] at r14
        rw [List.length_map, Nat.zero_add]
        have hbs : Below W3.heap.size W3 wd := HB.out.grown gr14 HB.out.size (fun k e => by cases e; exact (HE5.out.lt k5 rfl).1)
        try (have HL16 := Lib.hid (grown_box HL16.out gr14 HE5.out))
        have H14 := Lib.hid r14
        have HB := Lib.hid hbs
        clear r14 gr14 hbs
        rename World => wc
        go_simp
        refine hK.out _ _ (HKS.out _ HB.out) (fun hHeld => ?_)
        clear hK K
        refine wpAnyH_ready (rs := [17]) (by kernel_rfl) (by simp) (AllReadyH.cons rfl (fun K hK => ?_) AllReadyH.nil)
        refine step_appendG (by rfl) _ _ 116 (by rfl) W3.heap.size 93 i0 _ 3 32 Try.underlying116 hi hz0 hz1 hz2 rfl (by decide) g14 c14 l.length _ (by rfl) H14.out (.slice (some ⟨k16, 0, none⟩) 1 1) [cellsVS (va, vx, vz)] (by simp [cellsVS]) (by simp [cellsVS, Value.oneCell']) (by rfl) (RdF.lit [cellsVS (va, vx, vz)] (by simp [cellsVS]) HL16.out rfl (by simp)) (fun c h => by cases h) ?_ ?_ HB.out.size ?_
        · simp [maxLen]; omega
        · simp; omega
        intro g17 c17 wd r17 gr17
        have HB := Lib.hid (HB.out.grown gr17 HB.out.size (fun k e => by cases e; exact (H14.out.lt g14 rfl).1))
        have H17 := Lib.hid (chain_end r17)
        clear r17 gr17
        rename World => wc
        go_simp
        refine hK.out _ _ (HKS.out _ HB.out) (fun hHeld => ?_)
        clear hK K
        refine wpAnyH_take (i := 18) (v := ?v132) rfl (by kernel_rfl) (by kernel_rfl) (by kernel_rfl) (fun _ _ _ h => h) (Or.inl ⟨by rfl, ?hy132⟩) (by assumption) ?_
        case hy132 => (intro w hSw; clear hSw; go_simp; try with_reducible rfl)
        go_simp
        refine wpAnyH_take (i := 19) (v := ?v133) rfl (by kernel_rfl) (by kernel_rfl) (by kernel_rfl) (fun _ _ _ h => h) (Or.inl ⟨by rfl, ?hy133⟩) (by assumption) ?_
        case hy133 => (intro w hSw; clear hSw; go_simp; try with_reducible rfl)
        go_simp
        refine wpAnyH_ready (rs := [20]) (by kernel_rfl) (by simp) (AllReadyH.cons rfl (fun K hK => ?_) AllReadyH.nil)
        have HST := Lib.hid (HR.out.setv hp HB.out H17.out.1 (fun c h => by cases h) (fun j hj => by cases hj; exact ⟨Nat.le_trans (Nat.le_trans HR.out.lt (Nat.le_of_lt HR.out.blt)) H17.out.2.1, H17.out.2.2⟩))
        have cq := HST.out.2.2.1
        have fq := HST.out.2.2.2
        go_simp
        clear cq fq
        refine hK.out _ _ (⟨HST.out.1.cells.1, HKT.out _ HST.out.2.1⟩) (fun hHeld => ?_)
        clear hK K
        refine wpAnyH_done (by kernel_rfl) ?_ _
        have HX := Lib.hid (HFIN.out _ _ _ ⟨HST.out.1, HST.out.2.1⟩ H17.out.2.1)
        clear HKS HKT HU HR HFIN
        go_wp2_with fail
        go_ret
        exact HX.out
      · have cq := (HU.out _ HB.out).1
        go_simp
        clear cq
        refine hK.out _ _ (HKS.out _ HB.out) (fun hHeld => ?_)
        clear hK K
        refine wpAnyH_ready (rs := [5]) (by kernel_rfl) (by simp) (AllReadyH.cons rfl (fun K hK => ?_) AllReadyH.nil)
        go_simp
        obtain ⟨k5, hk5⟩ : ∃ k, k = wc.heap.size := ⟨_, rfl⟩
        obtain ⟨wd, hwd⟩ : ∃ W, W = wc.alloc (.cells #[] 93) := ⟨_, rfl⟩
        have hbs : Below wc.heap.size wc wd := by rw [hwd]; exact below_alloc _ _
        have HE5 := Lib.hid (show wd.ownsRow W3.heap.size 93 3 (.slice (some ⟨k5, 0, none⟩) 0 0) 0 [] by rw [hwd, hk5]; exact World.ownsRow_lit (e := 93) (size := 3) wc #[] 0 HB.out.size (by decide) rfl)
        try (have HL16 := Lib.hid (box_upR HL16.out hbs))
        have HB := Lib.hid (HB.out.trans (hbs.mono HB.out.size))
        rw [← hwd, ← hk5]
        clear hwd hk5 hbs
        rename World => wc
        refine hK.out _ _ (HKS.out _ HB.out) (fun hHeld => ?_)
        clear hK K
        refine wpAnyH_ready (rs := [14]) (by kernel_rfl) (by simp) (AllReadyH.cons rfl (fun K hK => ?_) AllReadyH.nil)
        refine step_appendG (by rfl) _ _ 116 (by rfl) W3.heap.size 93 i0 _ 3 32 Try.underlying116 hi hz0 hz1 hz2 rfl (by decide) k5 0 0 [] (by rfl) HE5.out u (l.map cellsVS) (cellsVS_len l) (one_cellsVS l) (by rfl) (HU.out _ HB.out).2.1 (HU.out _ HB.out).2.2 ?_ ?_ HB.out.size ?_
        · rw [List.length_map]; simp [maxLen]; omega
        · rw [List.length_map]; omega
        intro g14 c14 wd r14 gr14
        rw [List.length_map, Nat.zero_add, List.nil_append] at r14
        rw [List.length_map, Nat.zero_add]
        have hbs : Below W3.heap.size W3 wd := HB.out.grown gr14 HB.out.size (fun k e => by cases e; exact (HE5.out.lt k5 rfl).1)
        try (have HL16 := Lib.hid (grown_box HL16.out gr14 HE5.out))
        have H14 := Lib.hid r14
        have HB := Lib.hid hbs
        clear r14 gr14 hbs
        rename World => wc
        go_simp
        refine hK.out _ _ (HKS.out _ HB.out) (fun hHeld => ?_)
        clear hK K
        refine wpAnyH_ready (rs := [17]) (by kernel_rfl) (by simp) (AllReadyH.cons rfl (fun K hK => ?_) AllReadyH.nil)
        refine step_appendG (by rfl) _ _ 116 (by rfl) W3.heap.size 93 i0 _ 3 32 Try.underlying116 hi hz0 hz1 hz2 rfl (by decide) g14 c14 l.length _ (by rfl) H14.out (.slice (some ⟨k16, 0, none⟩) 1 1) [cellsVS (va, vx, vz)] (by simp [cellsVS]) (by simp [cellsVS, Value.oneCell']) (by rfl) (RdF.lit [cellsVS (va, vx, vz)] (by simp [cellsVS]) HL16.out rfl (by simp)) (fun c h => by cases h) ?_ ?_ HB.out.size ?_
        · simp [maxLen]; omega
        · simp; omega
        intro g17 c17 wd r17 gr17
        have HB := Lib.hid (HB.out.grown gr17 HB.out.size (fun k e => by cases e; exact (H14.out.lt g14 rfl).1))
        have H17 := Lib.hid (chain_end r17)
        clear r17 gr17
        rename World => wc
        go_simp
        refine hK.out _ _ (HKS.out _ HB.out) (fun hHeld => ?_)
        clear hK K
        refine wpAnyH_take (i := 18) (v := ?v134) rfl (by kernel_rfl) (by kernel_rfl) (by kernel_rfl) (fun _ _ _ h => h) (Or.inl ⟨by rfl, ?hy134⟩) (by assumption) ?_
        case hy134 => (intro w hSw; clear hSw; go_simp; try with_reducible rfl)
        go_simp
        refine wpAnyH_take (i := 19) (v := ?v135) rfl (by kernel_rfl) (by kernel_rfl) (by kernel_rfl) (fun _ _ _ h => h) (Or.inl ⟨by rfl, ?hy135⟩) (by assumption) ?_
        case hy135 => (intro w hSw; clear hSw; go_simp; try with_reducible rfl)
        go_simp
        refine wpAnyH_ready (rs := [20]) (by kernel_rfl) (by simp) (AllReadyH.cons rfl (fun K hK => ?_) AllReadyH.nil)
        have HST := Lib.hid (HR.out.setv hp HB.out H17.out.1 (fun c h => by cases h) (fun j hj => by cases hj; exact ⟨Nat.le_trans (Nat.le_trans HR.out.lt (Nat.le_of_lt HR.out.blt)) H17.out.2.1, H17.out.2.2⟩))
        have cq := HST.out.2.2.1
        have fq := HST.out.2.2.2
        go_simp
        clear cq fq
        refine hK.out _ _ (⟨HST.out.1.cells.1, HKT.out _ HST.out.2.1⟩) (fun hHeld => ?_)
        clear hK K
        refine wpAnyH_done (by kernel_rfl) ?_ _
        have HX := Lib.hid (HFIN.out _ _ _ ⟨HST.out.1, HST.out.2.1⟩ H17.out.2.1)
        clear HKS HKT HU HR HFIN
        go_wp2_with fail
        go_ret
        exact HX.out
end Go.Proofs.Ytcgjiddiegepkaa
