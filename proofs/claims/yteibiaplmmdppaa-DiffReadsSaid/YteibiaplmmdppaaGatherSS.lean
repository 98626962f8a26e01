/- Maps in order, gather[string,string]. -/
import Derived.Test.YteibiaplmmdppaaMrgMath
import Derived.Test.YteibiaplmmdppaaTreeSS
import Derived.Test.YteibiaplmmdppaaKeysSS
import Derived.OwnWalkIn
import Derived.Shelf.RegionOpen
import Derived.TacticsInMore
import Derived.Maps.AppendAt
import Derived.WalkSmall
namespace Go.Proofs.Yteibiaplmmdppaa
open Go.RowKit
attribute [local go_sem] Oper.semAt_some wide_fn wide_depth

theorem infoPairSS : (Try.prog.info? 95).map (fun i => (i.zero, i.size, i.bytes)) = some (some (.agg #[str [], str []]), 2, 32) := by kernel_rfl
/-- What gather tells. -/
def GatherPSS (w : World) (l : List (Value × Value)) (e : Ending) (w' : World) : Prop := ∃ v, e = .returned v ∧ w'.ownsRow w.heap.size 95 2 v l.length (flatP l) ∧ Below w.heap.size w w'
/-- A box that holds a slice of pairs. -/
def BoxPairsSS (n₀ B : Nat) (W : World) (l : List (Value × Value)) : Prop := ∃ v, Boxed W B 92 v ∧ W.ownsRow n₀ 95 2 v l.length (flatP l)
theorem boxPairs_ownSS (n₀ B : Nat) : Go.Own (fun s W => BoxPairsSS n₀ B W s) := by
  intro s X Y row ⟨v, hv, hr⟩ hg hrow
  obtain ⟨v', h1, h2, _⟩ := holdsRow_own n₀ B 92 95 2 (fun s : List (Value × Value) => s.length) flatP (fun _ _ => True) s X Y row ⟨v, hv, hr, trivial⟩ hg hrow
  exact ⟨v', h1, h2⟩
/-- What gather keeps from round to round. -/
def GatherISS (w : World) (pre : List (Value × Value)) (W : World) : Prop := BoxPairsSS (w.heap.size + 1) w.heap.size W pre ∧ Below w.heap.size w W
theorem gatherI_ownSS (w : World) {B : Nat} (hB : w.heap.size ≤ B) : OwnFrom B (GatherISS w) :=
  OwnFrom.and (Own.from (boxPairs_ownSS _ _) _) (ownFrom_below (Nat.le_refl _) hB)
set_option maxRecDepth 100000 in
set_option maxHeartbeats 2000000 in
theorem gather_anySS {Ok : World → Prop} {gf : Nat} {lb : Array Value} {xs : List (Value × Value)} {w : World} (hx : xs.length ≤ 1000000) (hk : ∀ p ∈ xs, KSSS p.1 ∧ VSSS p.2)
    (eg : ∀ args w, (callFunc gf args).run Try.prog w = .ok (.enter gf args) w) (hOk : ∀ W, Below w.heap.size w W → Ok W)
    (hs : ∀ W', Below w.heap.size w W' → Seqs Try.prog gf lb (fun p : Value × Value => #[p.1, p.2]) Ok (fun T => T = 95) xs W') :
    Calls Try.prog 49 #[.func (.func gf) #[] lb] w (GatherPSS w xs) := by
  have hfn := fnil2SS gf lb
  obtain ⟨i0, hi, hz0, hz1, hz2⟩ := info_parts infoPairSS
  refine (callsIn_wide (n := 9)).1 ?_
  refine callsIn_of_wp_marks Try.func49 rfl trivial ?_ rfl
  simp only [Try.ntmps49, List.size_toArray, List.length_cons, List.length_nil, Nat.reduceAdd, Nat.reduceSub, Array.replicate_succ, Array.replicate_zero, List.push_toArray, List.append_toArray, List.nil_append, List.cons_append]
  gi_wp2
  have bO := Boxed.new w 92 (.slice none 0 0)
  have hB0 : Below w.heap.size w (w.alloc (.cells #[.slice none 0 0] 92)) := (Below.refl _ w).alloc (Nat.le_refl _) _
  refine range_law (gf := gf) (lb := lb) rfl eg (Wr := fun T => T = 95) (xs := xs) (fun W' h => hs W' (hB0.trans (h.mono (by simp)))) (by intro x; rfl)
    (fun pre W => GatherISS w pre W)
    (fun _ _ _ => False)
    (gatherI_ownSS w (by simp))
    (fun c => ownFrom_pure _ (fun _ : List (Value × Value) => False))
    ⟨⟨_, bO, World.ownsRow_nil _ _ _ _⟩, hB0⟩ (fun pre W h => hOk W h.2)
    (fun x => { tmps := #[.func (.func gf) #[] lb, undef, .slice none 0 0, .pointer (some ⟨w.heap.size, 0, none⟩), x.1, x.2, .func (.func gf) #[] lb, .bool false, .func (.func gf) #[] lb, x.1, x.2, undef, undef, undef, undef, undef, undef, undef], defers := [] }) ?assign ?body ?done ?stop
  case assign =>
    intro l x W K hK
    gi_wp2
    exact hK
  case body =>
    rintro l2 pre ⟨k, y⟩ W _ ⟨⟨v, hv, hrow⟩, hB⟩ ⟨t, ht⟩
    have hks := hk (k, y) (by rw [ht]; simp)
    obtain ⟨⟨kn, rfl⟩, ⟨yl, rfl⟩⟩ := hks
    dsimp only
    have cv := hv.cell
    have hlen : pre.length + 1 ≤ 1000000 := by rw [ht] at hx; simp at hx; omega
    have hsz : w.heap.size + 1 ≤ W.heap.size := hv.lt
    have H := Lib.hid (And.intro hB ht)
    clear hB ht hx hk hs hOk hB0 bO
    gi_wp2_with (gi_at_builtin; refine wpListIn_append_own _ rfl _ _ 92 rfl (w.heap.size + 1) 95 i0 (.agg #[str [], str []]) 2 32 Try.underlying92 hi hz0 hz1 hz2 rfl (by decide) _ _ _ rfl (hrow.alloc _) ⟨W.heap.size, 0, none⟩ 1 1 [(str kn), (str yl)] rfl rfl (cell_two_new _ _ _ _) (by simp [Value.oneCell']) (by simp only [maxLen]; omega) (by omega) (by simp; omega) ?_; intro v' w1 hown' hgrow _; obtain ⟨g', cap', rfl⟩ := ownsRow_succ hown'; obtain ⟨hv1, hv2, hr2, hbel⟩ := appended2 hv (by omega) hsz hrow hown' hgrow; have hT := boxT (Wr := fun T => T = 95) (v' := .slice (some ⟨g', 0, none⟩) (pre.length + 1) cap') (D := w.heap.size + 1) hv (by decide) hrow hgrow rfl (by omega); have hc1 := hv1.cell; have hf1 := hv1.frozen)
    obtain ⟨hB, ht⟩ := H.out
    have e1 : flatP (pre ++ [(((str kn) : Value), str yl)]) = flatP pre ++ [((str kn) : Value), str yl] := by rw [flatP_app]; rfl
    exact ⟨hT.more (by simp), ⟨_, hv2, by rw [e1, List.length_append]; exact hr2⟩, hB.trans (hbel _ (Nat.le_refl _))⟩
  case done =>
    rintro D W hD ⟨⟨v, hv, hrow⟩, hB⟩ hK
    have cv := hv.cell
    gi_wp2
    refine ⟨by simp, .inl ⟨_, _, rfl, run_takeDeferred hK, ?_⟩⟩
    exact ⟨_, results_tmp rfl _ _ _, v, rfl, row_mono (ownsRow_putObj hrow _ hK rfl) (by omega), hB.trans (belowK_b (w := w) (Nat.le_refl _) W D _ _ (by simp at hD; omega) hK rfl rfl)⟩
  case stop =>
    rintro D c pre W hD _ hF _
    exact hF.elim
set_option maxRecDepth 100000 in
/-- Of none. -/
theorem gather_nilSS (w : World) : Calls Try.prog 49 #[.nilFunc] w (GatherPSS w []) := by
  have hnn : ∀ w, (binOp .eql 70 .nilFunc .nilFunc).run Try.prog w = .ok (.bool true) w := fun w => by kernel_rfl
  refine (callsIn_wide (n := 9)).1 ?_
  refine callsIn_of_wp Try.func49 rfl trivial ?_ rfl
  simp only [Try.ntmps49, List.size_toArray, List.length_cons, List.length_nil, Nat.reduceAdd, Nat.reduceSub, Array.replicate_succ, Array.replicate_zero, List.push_toArray, List.append_toArray, List.nil_append, List.cons_append]
  gi_wp2
  go_ret
  exact ⟨_, rfl, World.ownsRow_nil _ _ _ _, Below.refl _ _⟩
end Go.Proofs.Yteibiaplmmdppaa
