/- Maps in order, omap[string,string]: Keys. -/
import Derived.Test.YteibiaplmmdppaaRange
import Derived.Test.YteibiaplmmdppaaRows
import Derived.OwnWalkIn
import Derived.Shelf.RegionOpen
import Derived.TacticsInMore
namespace Go.Proofs.Yteibiaplmmdppaa
open Go.RowKit
attribute [local go_sem] Oper.semAt_some wide_fn wide_depth

/-- A function is not nil. -/
theorem fnil2SS (gf : Nat) (lb : Array Value) (w : World) : (binOp .eql 70 (.func (.func gf) #[] lb) .nilFunc).run Try.prog w = .ok (.bool false) w := by kernel_rfl
theorem keysSS_any (gf : Nat) (lb : Array Value) (w : World) : Calls Try.prog 34 #[.func (.func gf) #[] lb] w fun e w' =>
    e = .returned (.func (.func 46) #[] #[.pointer (some ⟨w.heap.size, 0, none⟩)]) ∧ w' = w.alloc (.cells #[.func (.func gf) #[] lb] 70) := by
  go_enter Try.func34, Try.ntmps34
  go_wp2
  go_ret
  exact ⟨rfl, rfl⟩
set_option maxRecDepth 100000 in
set_option maxHeartbeats 2000000 in
theorem keyssSS_any {Ok : World → Prop} {Wr : TypeId → Prop} {gf Bs : Nat} {lb : Array Value} {xs : List (Value × Value)} {W : World} (eg : ∀ args w, (callFunc gf args).run Try.prog w = .ok (.enter gf args) w)
    (hs : ∀ W', Below W.heap.size W W' → Seqs Try.prog gf lb (fun p : Value × Value => #[p.1, p.2]) Ok Wr xs W') (hc : W.cell? ⟨Bs, 0, none⟩ = some (.func (.func gf) #[] lb)) (hw : ¬ Wr 75) :
    Seqs Try.prog 46 #[.pointer (some ⟨Bs, 0, none⟩)] (fun p : Value × Value => #[p.1]) Ok Wr xs W := by
  intro l J Jx hJ hJx hOk hY h0
  have hdd : ∀ k : Nat, (Fence.wide.depth.isSome = true → 1 ≤ k) := fun k h => by cases h
  refine (callsIn_wide (n := 9)).1 ?_
  refine callsIn_of_wp_marks Try.func46 rfl trivial ?_ rfl
  simp only [Try.ntmps46, List.size_toArray, List.length_cons, List.length_nil, Nat.reduceAdd, Nat.reduceSub, Array.replicate_succ, Array.replicate_zero, List.push_toArray, List.append_toArray, List.nil_append, List.cons_append]
  have hfn := fnil2SS gf lb
  have hcl : (W.alloc (.cells #[.func (.yield l) #[] #[]] 75)).cell? ⟨Bs, 0, none⟩ = some (.func (.func gf) #[] lb) := by
    rw [← hc]; exact (below_alloc W _).cell (p := ⟨Bs, 0, none⟩) (World.block_lt_of_cell? W _ hc)
  gi_wp2
  have bY := Boxed.new W 75 (.func (.yield l) #[] #[])
  refine range_law (gf := gf) (lb := lb) rfl eg (Wr := Wr) (xs := xs) (fun W' h => hs W' ((((Below.refl _ W).alloc (Nat.le_refl _) _)).trans (h.mono (by simp)))) (by intro x; rfl)
    (fun pre W2 => J pre W2 ∧ Boxed W2 W.heap.size 75 (.func (.yield l) #[] #[])) (fun c pre W2 => c = .ret ∧ Jx pre W2)
    (OwnFrom.and (ownFrom_more hJ (by simp)) (Own.from (boxed_own _ _ _) _)) (fun c => OwnFrom.and (ownFrom_pure _ (fun _ => c = .ret)) (ownFrom_more hJx (by simp))) ⟨hJ.alloc _ h0, bY⟩ (fun pre W h => hOk pre W h.1)
    (fun x => { tmps := #[.func (.yield l) #[] #[], .pointer (some ⟨Bs, 0, none⟩), .pointer (some ⟨W.heap.size, 0, none⟩), x.1, .func (.func gf) #[] lb, .bool false, .func (.func gf) #[] lb, x.1, x.2, undef, undef, undef, undef], defers := [] }) ?assign ?body ?done ?stop
  case assign =>
    intro l x W K hK
    gi_wp2
    exact hK
  case body =>
    rintro l2 pre x W2 _ ⟨hj, hb⟩ hx
    have cY := hb.cell
    obtain ⟨fn, tmps, assign, body, hy, hR⟩ := hY pre x W2 hj hx 6
    gi_wp2_with (refine hR.mono ?_; clear hR; rintro e W3 ⟨hk, ⟨rfl, hj3⟩ | ⟨rfl, hx3⟩⟩)
    · exact ⟨hk.more (by simp), hj3, hk.box hb (Nat.le_refl _) hw⟩
    · exact ⟨hk.more (by simp), rfl, hx3⟩
  case done =>
    rintro D W2 hD ⟨hj, _⟩ hK
    gi_wp2
    refine ⟨by simp, .inl ⟨_, _, rfl, run_takeDeferred hK, ?_⟩⟩
    exact ⟨_, results_none rfl _ _ _, ⟨_, rfl⟩, .inl (hJ.putObj _ hj (by simp at hD; omega) hK rfl)⟩
  case stop =>
    rintro D c pre W2 hD hx ⟨rfl, hj⟩ hK
    gi_wp2
    refine ⟨by simp, .inl ⟨_, _, rfl, run_takeDeferred hK, ?_⟩⟩
    exact ⟨_, results_none rfl _ _ _, ⟨_, rfl⟩, .inr ⟨pre, hx, hJx.putObj _ hj (by simp at hD; omega) hK rfl⟩⟩
end Go.Proofs.Yteibiaplmmdppaa
