/- Maps in order, gather[int,string]. -/
import Derived.Test.YtdkplhfbcpobaaaRange
import Derived.Test.YtdkplhfbcpobaaaTreeIS
import Derived.Test.YtdkplhfbcpobaaaKeysIS
import Derived.OwnWalkIn
import Derived.Shelf.RegionOpen
import Derived.TacticsInMore
import Derived.Maps.AppendAt
import Derived.WalkSmall
namespace Go.Proofs.Ytdkplhfbcpobaaa
open Go.RowKit
attribute [local go_sem] Oper.semAt_some wide_fn wide_depth

theorem infoPair : (Try.prog.info? 96).map (fun i => (i.zero, i.size, i.bytes)) = some (some (.agg #[.int .i64 0, str []]), 2, 24) := by kernel_rfl
/-- The cells of pairs. -/
def flatP : List (Value × Value) → List Value
  | [] => []
  | p :: t => p.1 :: p.2 :: flatP t
theorem flatP_len : ∀ l : List (Value × Value), (flatP l).length = l.length * 2
  | [] => rfl
  | p :: t => by simp [flatP, flatP_len t]; omega
theorem flatP_app : ∀ a b : List (Value × Value), flatP (a ++ b) = flatP a ++ flatP b
  | [], _ => rfl
  | p :: t, b => by simp [flatP, flatP_app t b]
theorem flatP_at : ∀ (l : List (Value × Value)) (i : Nat) (h : i < l.length), (flatP l)[i * 2]? = some l[i].1 ∧ (flatP l)[i * 2 + 1]? = some l[i].2
  | p :: t, 0, _ => by simp [flatP]
  | p :: t, i + 1, h => by
    have e : (i + 1) * 2 = i * 2 + 1 + 1 := by omega
    have := flatP_at t i (by simpa using h)
    simp only [flatP, e, List.getElem?_cons_succ, List.getElem_cons_succ]
    exact this
/-- What gather tells. -/
def GatherP (w : World) (l : List (Value × Value)) (e : Ending) (w' : World) : Prop := ∃ v, e = .returned v ∧ w'.ownsRow w.heap.size 96 2 v l.length (flatP l) ∧ Below w.heap.size w w'
/-- A box that holds a slice of pairs. -/
def BoxPairs (n₀ B : Nat) (W : World) (l : List (Value × Value)) : Prop := ∃ v, Boxed W B 92 v ∧ W.ownsRow n₀ 96 2 v l.length (flatP l)
theorem boxPairs_own (n₀ B : Nat) : Go.Own (fun s W => BoxPairs n₀ B W s) := by
  intro s X Y row ⟨v, hv, hr⟩ hg hrow
  obtain ⟨v', h1, h2, _⟩ := holdsRow_own n₀ B 92 96 2 (fun s : List (Value × Value) => s.length) flatP (fun _ _ => True) s X Y row ⟨v, hv, hr, trivial⟩ hg hrow
  exact ⟨v', h1, h2⟩
/-- What gather keeps from round to round. -/
def GatherI (w : World) (pre : List (Value × Value)) (W : World) : Prop := BoxPairs (w.heap.size + 1) w.heap.size W pre ∧ Below w.heap.size w W
theorem gatherI_own (w : World) {B : Nat} (hB : w.heap.size ≤ B) : OwnFrom B (GatherI w) :=
  OwnFrom.and (Own.from (boxPairs_own _ _) _) (ownFrom_below (Nat.le_refl _) hB)
/-- Behind an append to a slice of elements of any size in a box that lies ahead of all rows. -/
theorem appended2 {W w1 : World} {n₀ B size : Nat} {t e : TypeId} {v v' : Value} {k m : Nat} {xs ys : List Value} {tmp : Obj} (hv : Boxed W B t v) (hB : B < n₀) (hn : n₀ ≤ W.heap.size) (hrow : W.ownsRow n₀ e size v k xs)
    (hown' : w1.ownsRow n₀ e size v' m ys) (hgrow : (W.alloc tmp).grownBy w1 v.ownBlock) :
    Boxed w1 B t v ∧ Boxed (w1.setCell ⟨B, 0, none⟩ v') B t v' ∧ (w1.setCell ⟨B, 0, none⟩ v').ownsRow n₀ e size v' m ys ∧ (∀ c, c ≤ B → Below c W (w1.setCell ⟨B, 0, none⟩ v')) := by
  have ne : ∀ j, j < n₀ → some j ≠ v.ownBlock := fun j hj e => by have := (hrow.lt j e.symm).1; omega
  have hv1 : Boxed w1 B t v := (hv.alloc tmp).kept hgrow (ne B hB)
  have ne' : v'.ownBlock = none ∨ v'.ownBlock ≠ some B := .inr fun e => by have := (hown'.lt B e).1; omega
  refine ⟨hv1, hv1.set v', hown'.kept (grownBy_setCell' w1 B v') ne', fun c hc => ?_⟩
  exact (((Below.refl c W).alloc (by omega) tmp).grown hgrow (by simp; omega) (fun j ej => by have := (hrow.lt j ej).1; omega)).setCell (p := ⟨B, 0, none⟩) hc v'
set_option maxRecDepth 100000 in
set_option maxHeartbeats 2000000 in
theorem gather_any {Ok : World → Prop} {gf : Nat} {lb : Array Value} {xs : List (Value × Value)} {w : World} (hx : xs.length ≤ 1000000) (hk : ∀ p ∈ xs, KSIS p.1 ∧ VSIS p.2)
    (eg : ∀ args w, (callFunc gf args).run Try.prog w = .ok (.enter gf args) w) (hOk : ∀ W, Below w.heap.size w W → Ok W)
    (hs : ∀ W', Below w.heap.size w W' → Seqs Try.prog gf lb (fun p : Value × Value => #[p.1, p.2]) Ok (fun T => T = 96) xs W') :
    Calls Try.prog 53 #[.func (.func gf) #[] lb] w (GatherP w xs) := by
  have hfn := fnil2IS gf lb
  obtain ⟨i0, hi, hz0, hz1, hz2⟩ := info_parts infoPair
  refine (callsIn_wide (n := 9)).1 ?_
  refine callsIn_of_wp_marks Try.func53 rfl trivial ?_ rfl
  simp only [Try.ntmps53, List.size_toArray, List.length_cons, List.length_nil, Nat.reduceAdd, Nat.reduceSub, Array.replicate_succ, Array.replicate_zero, List.push_toArray, List.append_toArray, List.nil_append, List.cons_append]
  gi_wp2
  have bO := Boxed.new w 92 (.slice none 0 0)
  have hB0 : Below w.heap.size w (w.alloc (.cells #[.slice none 0 0] 92)) := (Below.refl _ w).alloc (Nat.le_refl _) _
  refine range_law (gf := gf) (lb := lb) rfl eg (Wr := fun T => T = 96) (xs := xs) (fun W' h => hs W' (hB0.trans (h.mono (by simp)))) (by intro x; rfl)
    (fun pre W => GatherI w pre W)
    (fun _ _ _ => False)
    (gatherI_own w (by simp))
    (fun c => ownFrom_pure _ (fun _ : List (Value × Value) => False))
    ⟨⟨_, bO, World.ownsRow_nil _ _ _ _⟩, hB0⟩ (fun pre W h => hOk W h.2)
    (fun x => { tmps := #[.func (.func gf) #[] lb, undef, .slice none 0 0, .pointer (some ⟨w.heap.size, 0, none⟩), x.1, x.2, .func (.func gf) #[] lb, .bool false, .func (.func gf) #[] lb, x.1, x.2, undef, undef, undef, undef, undef, undef, undef], defers := [] }) ?assign ?body ?done ?stop
  case assign =>
    intro l x W K hK
    gi_wp2
    exact hK
  case body =>
    rintro l2 pre ⟨k, y⟩ W _ ⟨⟨v, hv, hrow⟩, hB⟩ ⟨t, ht⟩
    have hks := hk (k, y) (by rw [ht]; simp)
    obtain ⟨⟨kn, rfl, _⟩, ⟨yl, rfl⟩⟩ := hks
    dsimp only
    have cv := hv.cell
    have hlen : pre.length + 1 ≤ 1000000 := by rw [ht] at hx; simp at hx; omega
    have hsz : w.heap.size + 1 ≤ W.heap.size := hv.lt
    have H := Lib.hid (And.intro hB ht)
    clear hB ht hx hk hs hOk hB0 bO
    gi_wp2_with (gi_at_builtin; refine wpListIn_append_own _ rfl _ _ 92 rfl (w.heap.size + 1) 96 i0 (.agg #[.int .i64 0, str []]) 2 24 Try.underlying92 hi hz0 hz1 hz2 rfl (by decide) _ _ _ rfl (hrow.alloc _) ⟨W.heap.size, 0, none⟩ 1 1 [(.int .i64 kn), (str yl)] rfl rfl (cell_two_new _ _ _ _) (by simp [Value.oneCell']) (by simp only [maxLen]; omega) (by omega) (by simp; omega) ?_; intro v' w1 hown' hgrow _; obtain ⟨g', cap', rfl⟩ := ownsRow_succ hown'; obtain ⟨hv1, hv2, hr2, hbel⟩ := appended2 hv (by omega) hsz hrow hown' hgrow; have hT := boxT (Wr := fun T => T = 96) (v' := .slice (some ⟨g', 0, none⟩) (pre.length + 1) cap') (D := w.heap.size + 1) hv (by decide) hrow hgrow rfl (by omega); have hc1 := hv1.cell; have hf1 := hv1.frozen)
    obtain ⟨hB, ht⟩ := H.out
    have e1 : flatP (pre ++ [(((.int .i64 kn) : Value), str yl)]) = flatP pre ++ [((.int .i64 kn) : Value), str yl] := by rw [flatP_app]; rfl
    exact ⟨hT.more (by simp), ⟨_, hv2, by rw [e1, List.length_append]; exact hr2⟩, hB.trans (hbel _ (Nat.le_refl _))⟩
  case done =>
    rintro D W hD ⟨⟨v, hv, hrow⟩, hB⟩ hK
    have cv := hv.cell
    gi_wp2
    refine ⟨by simp, .inl ⟨_, _, rfl, run_takeDeferred hK, ?_⟩⟩
    exact ⟨_, results_tmp rfl _ _ _, v, rfl, row_mono (ownsRow_putObj hrow _ hK rfl) (by omega), hB.trans (belowK_b (w := w) (Nat.le_refl _) W D _ _ (by simp at hD; omega) hK rfl rfl)⟩
  case stop =>
    rintro D c pre W hD _ hF _
    exact hF.elim
set_option maxRecDepth 100000 in
/-- Of none. -/
theorem gather_nil (w : World) : Calls Try.prog 53 #[.nilFunc] w (GatherP w []) := by
  have hnn : ∀ w, (binOp .eql 48 .nilFunc .nilFunc).run Try.prog w = .ok (.bool true) w := fun w => by kernel_rfl
  refine (callsIn_wide (n := 9)).1 ?_
  refine callsIn_of_wp Try.func53 rfl trivial ?_ rfl
  simp only [Try.ntmps53, List.size_toArray, List.length_cons, List.length_nil, Nat.reduceAdd, Nat.reduceSub, Array.replicate_succ, Array.replicate_zero, List.push_toArray, List.append_toArray, List.nil_append, List.cons_append]
  gi_wp2
  go_ret
  exact ⟨_, rfl, World.ownsRow_nil _ _ _ _, Below.refl _ _⟩
end Go.Proofs.Ytdkplhfbcpobaaa
