import Derived.Test.YteibiaplmmdppaaMrgMath
import Derived.Test.YteibiaplmmdppaaTreeSI
import Derived.Test.YteibiaplmmdppaaKeysSI
import Derived.OwnWalkIn
import Derived.Shelf.RegionOpen
import Derived.TacticsInMore
import Derived.Maps.AppendAt
import Derived.WalkSmall
/- Maps in order, gather[string,int]. -/
namespace Go.Proofs.Yteibiaplmmdppaa
open Go.RowKit
attribute [local go_sem] Oper.semAt_some wide_fn wide_depth

theorem infoPairSI : (Try.prog.info? 118).map (fun i => (i.zero, i.size, i.bytes)) = some (some (.agg #[str [], .int .i64 0]), 2, 24) := by kernel_rfl
/-- What gather tells. -/
def GatherPSI (w : World) (l : List (Value × Value)) (e : Ending) (w' : World) : Prop := ∃ v, e = .returned v ∧ w'.ownsRow w.heap.size 118 2 v l.length (flatP l) ∧ Below w.heap.size w w'
/-- A box that holds a slice of pairs. -/
def BoxPairsSI (n₀ B : Nat) (W : World) (l : List (Value × Value)) : Prop := ∃ v, Boxed W B 115 v ∧ W.ownsRow n₀ 118 2 v l.length (flatP l)
theorem boxPairs_ownSI (n₀ B : Nat) : Go.Own (fun s W => BoxPairsSI n₀ B W s) := by
  intro s X Y row ⟨v, hv, hr⟩ hg hrow
  obtain ⟨v', h1, h2, _⟩ := holdsRow_own n₀ B 115 118 2 (fun s : List (Value × Value) => s.length) flatP (fun _ _ => True) s X Y row ⟨v, hv, hr, trivial⟩ hg hrow
  exact ⟨v', h1, h2⟩
/-- What gather keeps from round to round. -/
def GatherISI (w : World) (pre : List (Value × Value)) (W : World) : Prop := BoxPairsSI (w.heap.size + 1) w.heap.size W pre ∧ Below w.heap.size w W
theorem gatherI_ownSI (w : World) {B : Nat} (hB : w.heap.size ≤ B) : OwnFrom B (GatherISI w) :=
  OwnFrom.and (Own.from (boxPairs_ownSI _ _) _) (ownFrom_below (Nat.le_refl _) hB)
set_option maxRecDepth 100000 in
set_option maxHeartbeats 2000000 in
theorem gather_anySI {Ok : World → Prop} {gf : Nat} {lb : Array Value} {xs : List (Value × Value)} {w : World} (hx : xs.length ≤ 1000000) (hk : ∀ p ∈ xs, KSSI p.1 ∧ VSSI p.2)
    (eg : ∀ args w, (callFunc gf args).run Try.prog w = .ok (.enter gf args) w) (hOk : ∀ W, Below w.heap.size w W → Ok W)
    (hs : ∀ W', Below w.heap.size w W' → Seqs Try.prog gf lb (fun p : Value × Value => #[p.1, p.2]) Ok (fun T => T = 118) xs W') :
    Calls Try.prog 71 #[.func (.func gf) #[] lb] w (GatherPSI w xs) := by
  have hfn := fnil2SI gf lb
  obtain ⟨i0, hi, hz0, hz1, hz2⟩ := info_parts infoPairSI
  refine (callsIn_wide (n := 9)).1 ?_
  refine callsIn_of_wp_marks Try.func71 rfl trivial ?_ rfl
  simp only [Try.ntmps71, List.size_toArray, List.length_cons, List.length_nil, Nat.reduceAdd, Nat.reduceSub, Array.replicate_succ, Array.replicate_zero, List.push_toArray, List.append_toArray, List.nil_append, List.cons_append]
  gi_wp2
  have bO := Boxed.new w 115 (.slice none 0 0)
  have hB0 : Below w.heap.size w (w.alloc (.cells #[.slice none 0 0] 115)) := (Below.refl _ w).alloc (Nat.le_refl _) _
  refine range_law (gf := gf) (lb := lb) rfl eg (Wr := fun T => T = 118) (xs := xs) (fun W' h => hs W' (hB0.trans (h.mono (by simp)))) (by intro x; rfl)
    (fun pre W => GatherISI w pre W)
    (fun _ _ _ => False)
    (gatherI_ownSI w (by simp))
    (fun c => ownFrom_pure _ (fun _ : List (Value × Value) => False))
    ⟨⟨_, bO, World.ownsRow_nil _ _ _ _⟩, hB0⟩ (fun pre W h => hOk W h.2)
    (fun x => { tmps := #[.func (.func gf) #[] lb, undef, .slice none 0 0, .pointer (some ⟨w.heap.size, 0, none⟩), x.1, x.2, .func (.func gf) #[] lb, .bool false, .func (.func gf) #[] lb, x.1, x.2, undef, undef, undef, undef, undef, undef, undef], defers := [] }) ?assign ?body ?done ?stop
  case assign =>
    intro l x W K hK
    gi_wp2
    exact hK
  case body =>
    rintro l2 pre ⟨k, y⟩ W _ ⟨⟨v, hv, hrow⟩, hB⟩ ⟨t, ht⟩
    have hks := hk (k, y) (by rw [ht]; simp)
    obtain ⟨⟨kn, rfl⟩, ⟨yl, rfl⟩⟩ := hks
    dsimp only
    have cv := hv.cell
    have hlen : pre.length + 1 ≤ 1000000 := by rw [ht] at hx; simp at hx; omega
    have hsz : w.heap.size + 1 ≤ W.heap.size := hv.lt
    have H := Lib.hid (And.intro hB ht)
    clear hB ht hx hk hs hOk hB0 bO
    gi_wp2_with (gi_at_builtin; refine wpListIn_append_own _ rfl _ _ 115 rfl (w.heap.size + 1) 118 i0 (.agg #[str [], .int .i64 0]) 2 24 Try.underlying115 hi hz0 hz1 hz2 rfl (by decide) _ _ _ rfl (hrow.alloc _) ⟨W.heap.size, 0, none⟩ 1 1 [(str kn), (.int .i64 yl)] rfl rfl (cell_two_new _ _ _ _) (by simp [Value.oneCell']) (by simp only [maxLen]; omega) (by omega) (by simp; omega) ?_; intro v' w1 hown' hgrow _; obtain ⟨g', cap', rfl⟩ := ownsRow_succ hown'; obtain ⟨hv1, hv2, hr2, hbel⟩ := appended2 hv (by omega) hsz hrow hown' hgrow; have hT := boxT (Wr := fun T => T = 118) (v' := .slice (some ⟨g', 0, none⟩) (pre.length + 1) cap') (D := w.heap.size + 1) hv (by decide) hrow hgrow rfl (by omega); have hc1 := hv1.cell; have hf1 := hv1.frozen)
    obtain ⟨hB, ht⟩ := H.out
    have e1 : flatP (pre ++ [(((str kn) : Value), .int .i64 yl)]) = flatP pre ++ [((str kn) : Value), .int .i64 yl] := by rw [flatP_app]; rfl
    exact ⟨hT.more (by simp), ⟨_, hv2, by rw [e1, List.length_append]; exact hr2⟩, hB.trans (hbel _ (Nat.le_refl _))⟩
  case done =>
    rintro D W hD ⟨⟨v, hv, hrow⟩, hB⟩ hK
    have cv := hv.cell
    gi_wp2
    refine ⟨by simp, .inl ⟨_, _, rfl, run_takeDeferred hK, ?_⟩⟩
    exact ⟨_, results_tmp rfl _ _ _, v, rfl, row_mono (ownsRow_putObj hrow _ hK rfl) (by omega), hB.trans (belowK_b (w := w) (Nat.le_refl _) W D _ _ (by simp at hD; omega) hK rfl rfl)⟩
  case stop =>
    rintro D c pre W hD _ hF _
    exact hF.elim
set_option maxRecDepth 100000 in
/-- Of none. -/
theorem gather_nilSI (w : World) : Calls Try.prog 71 #[.nilFunc] w (GatherPSI w []) := by
  have hnn : ∀ w, (binOp .eql 105 .nilFunc .nilFunc).run Try.prog w = .ok (.bool true) w := fun w => by kernel_rfl
  refine (callsIn_wide (n := 9)).1 ?_
  refine callsIn_of_wp Try.func71 rfl trivial ?_ rfl
  simp only [Try.ntmps71, List.size_toArray, List.length_cons, List.length_nil, Nat.reduceAdd, Nat.reduceSub, Array.replicate_succ, Array.replicate_zero, List.push_toArray, List.append_toArray, List.nil_append, List.cons_append]
  gi_wp2
  go_ret
  exact ⟨_, rfl, World.ownsRow_nil _ _ _ _, Below.refl _ _⟩
end Go.Proofs.Yteibiaplmmdppaa

/- Maps in order, Merge[string,int]: what is ahead. -/
namespace Go.Proofs.Yteibiaplmmdppaa
open Go.RowKit
/-- What is ahead: a slice of pairs in a block from B on. -/
def AheadSI (B : Nat) (W : World) (v : Value) (ra : List (Value × Value)) : Prop :=
  ∃ (a : Option Addr) (cap : Nat), v = .slice a ra.length cap ∧ ra.length ≤ cap ∧ cap ≤ maxLen ∧ (ra ≠ [] → ∃ (g off : Nat) (cur : Array Value), a = some ⟨g, off, none⟩ ∧ B ≤ g ∧ W.heap[g]? = some (.cells cur 118 (0, 0)) ∧
    ∀ i (h : i < ra.length), cur[off + i * 2]? = some ra[i].1 ∧ cur[off + i * 2 + 1]? = some ra[i].2)
theorem AheadSI.of_row {B : Nat} {W : World} {v : Value} {xs : List (Value × Value)} (h : W.ownsRow B 118 2 v xs.length (flatP xs)) : AheadSI B W v xs := by
  rcases h.2 with ⟨rfl, h0⟩ | ⟨g, cap, cur, rfl, hb, hg, h1, h2, h3, h4⟩
  · obtain rfl := List.eq_nil_of_length_eq_zero h0
    exact ⟨none, 0, rfl, Nat.le_refl _, by simp [maxLen], fun h => absurd rfl h⟩
  · refine ⟨_, cap, rfl, h1, h2, fun _ => ⟨g, 0, cur, rfl, hb, hg, fun i hi => ?_⟩⟩
    obtain ⟨e1, e2⟩ := flatP_at xs i hi
    have q1 := congrArg (fun z => z[i * 2]?) h4
    have q2 := congrArg (fun z => z[i * 2 + 1]?) h4
    simp only [List.getElem?_take] at q1 q2
    rw [if_pos (by omega), e1] at q1
    rw [if_pos (by omega), e2] at q2
    exact ⟨by simpa using q1, by simpa using q2⟩
theorem AheadSI.turn {B : Nat} {W W' : World} {v : Value} {ra : List (Value × Value)} (h : AheadSI B W v ra) (hk : ∀ g cur, B ≤ g → W.heap[g]? = some (.cells cur 118 (0, 0)) → W'.heap[g]? = some (.cells cur 118 (0, 0))) : AheadSI B W' v ra := by
  obtain ⟨a, cap, e, h1, h2, h3⟩ := h
  exact ⟨a, cap, e, h1, h2, fun hne => by obtain ⟨g, off, cur, e1, e2, e3, e4⟩ := h3 hne; exact ⟨g, off, cur, e1, e2, hk g cur e2 e3, e4⟩⟩
theorem AheadSI.kt {Wr : TypeId → Prop} {B : Nat} {W W' : World} {v : Value} {ra : List (Value × Value)} (h : AheadSI B W v ra) (hk : KT Wr B W W') (hw : ¬ Wr 118) : AheadSI B W' v ra :=
  h.turn (fun _ _ hg hc => hk.cells hg hc hw)
theorem AheadSI.below {B : Nat} {W W' : World} {v : Value} {ra : List (Value × Value)} (h : AheadSI B W v ra) (hb : Below W.heap.size W W') : AheadSI B W' v ra :=
  h.turn (fun g _ _ hc => by rw [hb.block g (Array.getElem?_eq_some_iff.1 hc).1]; exact hc)
theorem AheadSI.set {B : Nat} {W : World} {v : Value} {ra : List (Value × Value)} (h : AheadSI B W v ra) {b : Nat} {T : TypeId} {u : Value} (hb : Boxed W b T u) (hT : T ≠ 118) (u' : Value) : AheadSI B (W.setCell ⟨b, 0, none⟩ u') v ra :=
  h.turn (fun g cur _ hc => by
    rw [Below.heap_setCell _ _ _ _ (by rintro rfl; rw [show W.heap[g]? = _ from hb] at hc; simp at hc; exact hT hc.2)]; exact hc)
theorem ahead_ownSI {β : Type} (B : Nat) (f : β → Value) (ra : β → List (Value × Value)) : Go.Own (fun s W => AheadSI B W (f s) (ra s)) := fun s X Y row h hg hrow =>
  h.turn (fun g cur _ hc => by
    rw [hg.block g (Array.getElem?_eq_some_iff.1 hc).1 (fun e => by obtain ⟨o, ho, hcs⟩ := hrow g e.symm; rw [hc] at ho; cases ho; cases hcs)]; exact hc)
/-- The first of what is ahead, as the walk reads it. -/
theorem AheadSI.head {B : Nat} {W : World} {v : Value} {p : Value × Value} {ra : List (Value × Value)} (h : AheadSI B W v (p :: ra)) : ∃ g off cap, v = .slice (some ⟨g, off, none⟩) (ra.length + 1) cap ∧ ra.length + 1 ≤ cap ∧ cap ≤ maxLen ∧ B ≤ g ∧
    (∀ W', AheadSI B W' v (p :: ra) → W'.cell? ⟨g, off, none⟩ = some p.1 ∧ W'.cell? ⟨g, off + 1, none⟩ = some p.2) ∧ AheadSI B W (.slice (if cap = 1 then some ⟨g, off, none⟩ else some ⟨g, off + 2, none⟩) ra.length (cap - 1)) ra := by
  obtain ⟨a, cap, e, h1, h2, h3⟩ := h
  obtain ⟨g, off, cur, rfl, hb, hc, hcs⟩ := h3 (by simp)
  subst e
  refine ⟨g, off, cap, rfl, by simpa using h1, h2, hb, fun W' h' => ?_, ?_⟩
  · obtain ⟨a', cap', e', _, _, h3'⟩ := h'
    obtain ⟨g', off', cur', rfl, _, hc', hcs'⟩ := h3' (by simp)
    simp only [Value.slice.injEq, Option.some.injEq, Addr.mk.injEq, and_true] at e'
    obtain ⟨⟨rfl, rfl⟩, _⟩ := e'
    obtain ⟨q1, q2⟩ := hcs' 0 (by simp)
    simp only [Nat.zero_mul, Nat.add_zero, List.getElem_cons_zero] at q1 q2
    rw [cell_of_row W' g _ cur' _ (0, 0) hc', cell_of_row W' g _ cur' _ (0, 0) hc']
    exact ⟨q1, q2⟩
  · refine ⟨_, _, rfl, by simp at h1; omega, by omega, fun hne => ?_⟩
    have : ¬ cap = 1 := by
      have : ra.length ≠ 0 := fun e => hne (List.eq_nil_of_length_eq_zero e)
      simp at h1; omega
    rw [if_neg this]
    refine ⟨g, off + 2, cur, rfl, hb, hc, fun i hi => ?_⟩
    obtain ⟨q1, q2⟩ := hcs (i + 1) (by simpa using hi)
    simp only [List.getElem_cons_succ] at q1 q2
    rw [show off + 2 + i * 2 = off + (i + 1) * 2 by omega]
    exact ⟨q1, q2⟩
/-- What Merge writes of its own. -/
def MrgTSI (T : TypeId) : Prop := T = 115
end Go.Proofs.Yteibiaplmmdppaa
