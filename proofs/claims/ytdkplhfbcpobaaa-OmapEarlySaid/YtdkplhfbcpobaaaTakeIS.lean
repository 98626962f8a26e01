/- Maps in order, Take[int] of keys. -/
import Derived.Test.YtdkplhfbcpobaaaRange
import Derived.Test.YtdkplhfbcpobaaaTreeIS
import Derived.OwnWalkIn
import Derived.Shelf.RegionOpen
import Derived.TacticsInMore
import Derived.Maps.AppendAt
namespace Go.Proofs.Ytdkplhfbcpobaaa
open Go.RowKit
attribute [local go_sem] Oper.semAt_some wide_fn wide_depth

theorem infoKIS : (Try.prog.info? 3).map (fun i => (i.zero, i.size, i.bytes)) = some (some (.int .i64 0), 1, 8) := by kernel_rfl
/-- A function is not nil. -/
theorem fnil1IS (gf : Nat) (lb : Array Value) (w : World) : (binOp .eql 52 (.func (.func gf) #[] lb) .nilFunc).run Try.prog w = .ok (.bool false) w := by kernel_rfl
/-- What Take tells: the first keys. -/
def TakePIS (w : World) (l : List Value) (e : Ending) (w' : World) : Prop := ∃ v, e = .returned v ∧ w'.ownsRow w.heap.size 3 1 v l.length l ∧ Below w.heap.size w w'
/-- What Take keeps from round to round. -/
def TakeIIS (w : World) (N : Nat) (pre : List (Value × Value)) (W : World) : Prop :=
  BoxRow (w.heap.size + 2) (w.heap.size + 1) 42 3 W (pre.map (·.1)) ∧ Boxed W w.heap.size 3 (.int .i64 (N : Int)) ∧ Below w.heap.size w W
theorem takeI_ownIS (w : World) (N : Nat) {B : Nat} (hB : w.heap.size ≤ B) : OwnFrom B (TakeIIS w N) :=
  OwnFrom.and (Own.from (boxRow_own _ _ _ _ _) _) (OwnFrom.and (Own.from (boxed_own _ _ _) _) (ownFrom_below (Nat.le_refl _) hB))
set_option maxRecDepth 100000 in
set_option maxHeartbeats 2000000 in
theorem takeIS_any {Ok : World → Prop} {gf : Nat} {lb : Array Value} {xs : List (Value × Value)} {w : World} (n : Int) (h1 : 1 ≤ n) (hx : xs.length ≤ 1099511627776) (hk : ∀ p ∈ xs, KSIS p.1)
    (eg : ∀ args w, (callFunc gf args).run Try.prog w = .ok (.enter gf args) w) (hOk : ∀ W, Below w.heap.size w W → Ok W)
    (hs : ∀ W', Below w.heap.size w W' → Seqs Try.prog gf lb (fun p : Value × Value => #[p.1]) Ok (fun T => T = 3) xs W') :
    Calls Try.prog 22 #[.func (.func gf) #[] lb, .int .i64 n] w (TakePIS w ((xs.take n.toNat).map (·.1))) := by
  have hfn := fnil1IS gf lb
  obtain ⟨i0, hi, hz0, hz1, hz2⟩ := info_parts infoKIS
  obtain ⟨N, hN, hN1⟩ : ∃ N : Nat, n = (N : Int) ∧ 1 ≤ N := ⟨n.toNat, by omega, by omega⟩
  subst hN
  refine (callsIn_wide (n := 9)).1 ?_
  refine callsIn_of_wp_marks Try.func22 rfl trivial ?_ rfl
  simp only [Try.ntmps22, List.size_toArray, List.length_cons, List.length_nil, Nat.reduceAdd, Nat.reduceSub, Array.replicate_succ, Array.replicate_zero, List.push_toArray, List.append_toArray, List.nil_append, List.cons_append]
  gi_wp2
  have bN := Boxed.new w 3 (.int .i64 (N : Int))
  have bO := Boxed.new (w.alloc (.cells #[.int .i64 (N : Int)] 3)) 42 (.slice none 0 0)
  rw [World.size_alloc] at bO
  have hB0 : Below w.heap.size w ((w.alloc (.cells #[.int .i64 (N : Int)] 3)).alloc (.cells #[.slice none 0 0] 42)) := ((Below.refl _ w).alloc (Nat.le_refl _) _).alloc (by simp) _
  refine range_law (gf := gf) (lb := lb) rfl eg (Wr := fun T => T = 3) (xs := xs) (fun W' h => hs W' (hB0.trans (h.mono (by simp; omega)))) (by intro x; rfl)
    (fun pre W => TakeIIS w N pre W ∧ pre.length < N)
    (fun c pre W => TakeIIS w N pre W ∧ c = .exit 0 ∧ pre.length = N)
    (OwnFrom.and (takeI_ownIS w N (by simp; omega)) (ownFrom_pure _ (fun pre : List (Value × Value) => pre.length < N)))
    (fun c => OwnFrom.and (takeI_ownIS w N (by simp; omega)) (ownFrom_pure _ (fun pre : List (Value × Value) => c = .exit 0 ∧ pre.length = N)))
    ⟨⟨⟨_, bO, World.ownsRow_nil _ _ _ _⟩, bN.alloc _, hB0⟩, by simp; omega⟩ (fun pre W h => hOk W h.1.2.2)
    (fun x => { tmps := #[.func (.func gf) #[] lb, .int .i64 (N : Int), undef, .pointer (some ⟨w.heap.size, 0, none⟩), .slice none 0 0, .pointer (some ⟨w.heap.size + 1, 0, none⟩), x.1, .func (.func gf) #[] lb, .bool false, .bool false, .int .i64 (N : Int), .bool (decide ((N : Int) < 1)), .bool (decide ((N : Int) < 1)), .func (.func gf) #[] lb, x.1, undef, undef, undef, undef, undef, undef, undef, undef, undef], defers := [] }) ?assign ?body ?done ?stop
  case assign =>
    intro l x W K hK
    gi_wp2
    exact hK
  case body =>
    rintro l2 pre ⟨k, y⟩ W _ ⟨⟨⟨v, hv, hrow⟩, hn, hB⟩, hlt⟩ ⟨t, ht⟩
    have hks := hk (k, y) (by rw [ht]; simp)
    obtain ⟨kn, rfl, _⟩ := hks
    dsimp only
    have cv := hv.cell
    have cn := hn.cell
    have hlen : pre.length + 1 ≤ 1099511627776 := by rw [ht] at hx; simp at hx; omega
    have hsz : w.heap.size + 2 ≤ W.heap.size := hv.lt
    obtain ⟨k, hkl⟩ : ∃ k, k = pre.map (·.1) := ⟨_, rfl⟩
    have hl : k.length = pre.length := by rw [hkl]; simp
    rw [← hkl, hl] at hrow
    have H := Lib.hid (And.intro hB (And.intro ht (And.intro hkl hl)))
    clear hl hB ht hx hk hkl hs hOk hB0 bO bN
    gi_wp2_with (gi_at_builtin; refine wpListIn_append_own _ rfl _ _ 42 rfl (w.heap.size + 2) 3 i0 (.int .i64 0) 1 8 Try.underlying42 hi hz0 hz1 hz2 rfl (by decide) _ _ _ rfl (hrow.alloc _) ⟨W.heap.size, 0, none⟩ 1 1 [(.int .i64 kn)] rfl rfl (cell_one_new _ _ _) (by simp [Value.oneCell']) (by simp only [maxLen]; omega) (by omega) (by simp; omega) ?_; intro v' w1 hown' hgrow _; obtain ⟨g', cap', rfl⟩ := ownsRow_succ hown'; obtain ⟨hv1, hv2, hr2, hoth, hbel⟩ := appended hv (by omega) hsz hrow hown' hgrow; have hT := boxT (Wr := fun T => T = 3) (v' := .slice (some ⟨g', 0, none⟩) (pre.length + 1) cap') (D := w.heap.size + 2) hv (by decide) hrow hgrow rfl (by omega); have hc1 := hv1.cell; have hf1 := hv1.frozen; have hn2 := (hoth _ _ _ (by omega) (by omega) hn).2; have cn1 := (hoth _ _ _ (by omega) (by omega) hn).1.cell)
    all_goals
      obtain ⟨hB, ht, hkl, hl⟩ := H.out
      have e1 : (pre ++ [(((.int .i64 kn) : Value), y)]).map (fun p : Value × Value => p.1) = k ++ [((.int .i64 kn) : Value)] := by rw [hkl]; simp
    · have hq : ((pre.length : Int) + 1 == (N : Int)) = true := by first | assumption | fail
      have hq' : pre.length + 1 = N := by have := eq_of_beq hq; omega
      exact ⟨hT.more (by simp), ⟨⟨_, hv2, by rw [e1, List.length_append, hl]; exact hr2⟩, hn2, hB.trans (hbel _ (by omega))⟩, rfl, by simp; omega⟩
    · have hq : ((pre.length : Int) + 1 == (N : Int)) = false := by first | assumption | (simp at *; omega) | fail
      have hq' : pre.length + 1 ≠ N := by intro e; rw [← e] at hq; simp at hq
      exact ⟨hT.more (by simp), ⟨⟨_, hv2, by rw [e1, List.length_append, hl]; exact hr2⟩, hn2, hB.trans (hbel _ (by omega))⟩, by simp; omega⟩
  case done =>
    rintro D W hD ⟨⟨⟨v, hv, hrow⟩, hn, hB⟩, hlt⟩ hK
    have cv := hv.cell
    have e : xs.take ((N : Int).toNat) = xs := List.take_of_length_le (by simp; omega)
    gi_wp2
    refine ⟨by simp, .inl ⟨_, _, rfl, run_takeDeferred hK, ?_⟩⟩
    exact ⟨_, results_tmp rfl _ _ _, v, rfl, by rw [e]; exact row_mono (ownsRow_putObj hrow _ hK rfl) (by omega), hB.trans (belowK_b (w := w) (Nat.le_refl _) W D _ _ (by simp at hD; omega) hK rfl rfl)⟩
  case stop =>
    rintro D c pre W hD ⟨t, ht⟩ ⟨⟨⟨v, hv, hrow⟩, hn, hB⟩, rfl, hlen⟩ hK
    have cv := hv.cell
    have e : xs.take ((N : Int).toNat) = pre := by rw [ht]; simp [← hlen]
    gi_wp2
    refine ⟨by simp, .inl ⟨_, _, rfl, run_takeDeferred hK, ?_⟩⟩
    exact ⟨_, results_tmp rfl _ _ _, v, rfl, by rw [e]; exact row_mono (ownsRow_putObj hrow _ hK rfl) (by omega), hB.trans (belowK_b (w := w) (Nat.le_refl _) W D _ _ (by simp at hD; omega) hK rfl rfl)⟩
end Go.Proofs.Ytdkplhfbcpobaaa
