/- Trees in order, omap[int,string]: fall. -/
import Derived.Test.YtdkplhfbcpobaaaRiseBase
import Derived.Test.YtdkplhfbcpobaaaTreeIS
namespace Go.Proofs.Ytdkplhfbcpobaaa
open Go.RowKit
attribute [local go_sem] Oper.semAt_some

/-- A tree's pairs, falling. -/
def rprs : Tr → List (Value × Value)
  | .nil => []
  | .node l k x _ r => rprs r ++ (k, x) :: rprs l
theorem rprs_eq : ∀ t : Tr, rprs t = (prs t).reverse
  | .nil => rfl
  | .node l k x _ r => by simp [rprs, prs, rprs_eq l, rprs_eq r]
set_option maxRecDepth 100000 in
set_option maxHeartbeats 8000000 in
theorem fallIS_any {w₀ : World} {l B : Nat} {Wr : TypeId → Prop} {J Jx : List (Value × Value) → World → Prop} {xs : List (Value × Value)} (hJo : OwnFrom B J) (hOk : ∀ pre W, J pre W → NK w₀ W)
    (hY : ∀ pre x W, J pre W → (∃ t, xs = pre ++ x :: t) → Yld Try.prog l #[x.1, x.2] W (RndPost Wr B J Jx (pre ++ [x]) W)) (T : Tr) :
    ∀ (o : Option Addr) (pre : List (Value × Value)) (W : World) (n : Nat), TP w₀ o T → J pre W → (∃ t, xs = pre ++ (rprs T ++ t)) →
      CallsIn Fence.wide n Try.prog 68 #[.pointer o, .func (.yield l) #[] #[]] W (RiseP J Jx pre (rprs T)) := by
  have hm : Try.prog.follows .mixedOrders = true := by kernel_rfl
  have hdd : ∀ k : Nat, (Fence.wide.depth.isSome = true → 1 ≤ k) := fun k h => by cases h
  induction T with
  | nil =>
    intro o pre W n ht hJ _
    obtain rfl : o = none := ht
    refine callsIn_of_wp Try.func68 rfl trivial ?_ rfl
    simp only [Try.ntmps68, List.size_toArray, List.length_cons, List.length_nil, Nat.reduceAdd, Nat.reduceSub, Array.replicate_succ, Array.replicate_zero, List.push_toArray, List.append_toArray, List.nil_append, List.cons_append]
    gi_wp2
    refine wpIn_region_any hm ?_
    change wpAnyIn _ _ _ _ _ _ _ _ _ (World.drew _)
    refine wpAnyIn_take (i := 0) (v := ?v61) rfl rfl (by kernel_rfl) (by kernel_rfl) (by kernel_rfl) (fun _ _ _ h => h) ⟨Or.inl ⟨by rfl, ?hy61⟩, fun _ => rfl⟩ ?_
    case hy61 => (intro w; go_simp; try with_reducible rfl)
    go_simp
    refine wpAnyIn_take (i := 1) (v := ?v62) rfl rfl (by kernel_rfl) (by kernel_rfl) (by kernel_rfl) (fun _ _ _ h => h) ⟨Or.inl ⟨by rfl, ?hy62⟩, fun _ => rfl⟩ ?_
    case hy62 => (intro w; go_simp; try with_reducible rfl)
    go_simp
    refine wpAnyIn_take (i := 2) (v := ?v63) rfl rfl (by kernel_rfl) (by kernel_rfl) (by kernel_rfl) (fun _ _ _ h => h) ⟨Or.inl ⟨by rfl, ?hy63⟩, fun _ => rfl⟩ ?_
    case hy63 => (intro w; go_simp; try with_reducible rfl)
    go_simp
    refine wpAnyIn_take (i := 3) (v := undef) rfl rfl (by kernel_rfl) (by kernel_rfl) (by kernel_rfl) (fun _ _ _ h => h) ⟨Or.inr ⟨by rfl, rfl⟩, fun _ => rfl⟩ ?_
    go_simp
    refine wpAnyIn_take (i := 4) (v := undef) rfl rfl (by kernel_rfl) (by kernel_rfl) (by kernel_rfl) (fun _ _ _ h => h) ⟨Or.inr ⟨by rfl, rfl⟩, fun _ => rfl⟩ ?_
    go_simp
    refine wpAnyIn_take (i := 5) (v := undef) rfl rfl (by kernel_rfl) (by kernel_rfl) (by kernel_rfl) (fun _ _ _ h => h) ⟨Or.inr ⟨by rfl, rfl⟩, fun _ => rfl⟩ ?_
    go_simp
    refine wpAnyIn_take (i := 6) (v := undef) rfl rfl (by kernel_rfl) (by kernel_rfl) (by kernel_rfl) (fun _ _ _ h => h) ⟨Or.inr ⟨by rfl, rfl⟩, fun _ => rfl⟩ ?_
    go_simp
    refine wpAnyIn_take (i := 7) (v := undef) rfl rfl (by kernel_rfl) (by kernel_rfl) (by kernel_rfl) (fun _ _ _ h => h) ⟨Or.inr ⟨by rfl, rfl⟩, fun _ => rfl⟩ ?_
    go_simp
    refine wpAnyIn_ready (rs := [8]) (by kernel_rfl) (by simp) (AllReadyIn.cons rfl (fun K hK => ?_) AllReadyIn.nil)
    go_simp
    first | refine hK _ _ ?_ | refine ⟨trivial, hK _ _ ?_⟩ | refine ⟨fun _ _ => trivial, hK _ _ ?_⟩ | fail
    clear hK K
    refine wpAnyIn_take (i := 9) (v := undef) rfl rfl (by kernel_rfl) (by kernel_rfl) (by kernel_rfl) (fun _ _ _ h => h) ⟨Or.inr ⟨by rfl, rfl⟩, fun _ => rfl⟩ ?_
    go_simp
    refine wpAnyIn_take (i := 10) (v := undef) rfl rfl (by kernel_rfl) (by kernel_rfl) (by kernel_rfl) (fun _ _ _ h => h) ⟨Or.inr ⟨by rfl, rfl⟩, fun _ => rfl⟩ ?_
    go_simp
    refine wpAnyIn_take (i := 11) (v := undef) rfl rfl (by kernel_rfl) (by kernel_rfl) (by kernel_rfl) (fun _ _ _ h => h) ⟨Or.inr ⟨by rfl, rfl⟩, fun _ => rfl⟩ ?_
    go_simp
    refine wpAnyIn_take (i := 12) (v := undef) rfl rfl (by kernel_rfl) (by kernel_rfl) (by kernel_rfl) (fun _ _ _ h => h) ⟨Or.inr ⟨by rfl, rfl⟩, fun _ => rfl⟩ ?_
    go_simp
    refine wpAnyIn_take (i := 13) (v := undef) rfl rfl (by kernel_rfl) (by kernel_rfl) (by kernel_rfl) (fun _ _ _ h => h) ⟨Or.inr ⟨by rfl, rfl⟩, fun _ => rfl⟩ ?_
    go_simp
    refine wpAnyIn_take (i := 14) (v := undef) rfl rfl (by kernel_rfl) (by kernel_rfl) (by kernel_rfl) (fun _ _ _ h => h) ⟨Or.inr ⟨by rfl, rfl⟩, fun _ => rfl⟩ ?_
    go_simp
    refine wpAnyIn_take (i := 15) (v := undef) rfl rfl (by kernel_rfl) (by kernel_rfl) (by kernel_rfl) (fun _ _ _ h => h) ⟨Or.inr ⟨by rfl, rfl⟩, fun _ => rfl⟩ ?_
    go_simp
    refine wpAnyIn_take (i := 16) (v := undef) rfl rfl (by kernel_rfl) (by kernel_rfl) (by kernel_rfl) (fun _ _ _ h => h) ⟨Or.inr ⟨by rfl, rfl⟩, fun _ => rfl⟩ ?_
    go_simp
    refine wpAnyIn_take (i := 17) (v := undef) rfl rfl (by kernel_rfl) (by kernel_rfl) (by kernel_rfl) (fun _ _ _ h => h) ⟨Or.inr ⟨by rfl, rfl⟩, fun _ => rfl⟩ ?_
    go_simp
    refine wpAnyIn_take (i := 18) (v := undef) rfl rfl (by kernel_rfl) (by kernel_rfl) (by kernel_rfl) (fun _ _ _ h => h) ⟨Or.inr ⟨by rfl, rfl⟩, fun _ => rfl⟩ ?_
    go_simp
    refine wpAnyIn_ready (rs := [19]) (by kernel_rfl) (by simp) (AllReadyIn.cons rfl (fun K hK => ?_) AllReadyIn.nil)
    go_simp
    first | refine hK _ _ ?_ | refine ⟨trivial, hK _ _ ?_⟩ | refine ⟨fun _ _ => trivial, hK _ _ ?_⟩ | fail
    clear hK K
    refine wpAnyIn_take (i := 20) (v := undef) rfl rfl (by kernel_rfl) (by kernel_rfl) (by kernel_rfl) (fun _ _ _ h => h) ⟨Or.inr ⟨by rfl, rfl⟩, fun _ => rfl⟩ ?_
    go_simp
    refine wpAnyIn_take (i := 21) (v := undef) rfl rfl (by kernel_rfl) (by kernel_rfl) (by kernel_rfl) (fun _ _ _ h => h) ⟨Or.inr ⟨by rfl, rfl⟩, fun _ => rfl⟩ ?_
    go_simp
    refine wpAnyIn_take (i := 22) (v := undef) rfl rfl (by kernel_rfl) (by kernel_rfl) (by kernel_rfl) (fun _ _ _ h => h) ⟨Or.inr ⟨by rfl, rfl⟩, fun _ => rfl⟩ ?_
    go_simp
    refine wpAnyIn_take (i := 23) (v := undef) rfl rfl (by kernel_rfl) (by kernel_rfl) (by kernel_rfl) (fun _ _ _ h => h) ⟨Or.inr ⟨by rfl, rfl⟩, fun _ => rfl⟩ ?_
    go_simp
    refine wpAnyIn_take (i := 24) (v := undef) rfl rfl (by kernel_rfl) (by kernel_rfl) (by kernel_rfl) (fun _ _ _ h => h) ⟨Or.inr ⟨by rfl, rfl⟩, fun _ => rfl⟩ ?_
    go_simp
    refine wpAnyIn_take (i := 25) (v := undef) rfl rfl (by kernel_rfl) (by kernel_rfl) (by kernel_rfl) (fun _ _ _ h => h) ⟨Or.inr ⟨by rfl, rfl⟩, fun _ => rfl⟩ ?_
    go_simp
    refine wpAnyIn_take (i := 26) (v := undef) rfl rfl (by kernel_rfl) (by kernel_rfl) (by kernel_rfl) (fun _ _ _ h => h) ⟨Or.inr ⟨by rfl, rfl⟩, fun _ => rfl⟩ ?_
    go_simp
    refine wpAnyIn_ready (rs := [27]) (by kernel_rfl) (by simp) (AllReadyIn.cons rfl (fun K hK => ?_) AllReadyIn.nil)
    go_simp
    first | refine hK _ _ ?_ | refine ⟨trivial, hK _ _ ?_⟩ | refine ⟨fun _ _ => trivial, hK _ _ ?_⟩ | fail
    clear hK K
    refine wpAnyIn_take (i := 28) (v := undef) rfl rfl (by kernel_rfl) (by kernel_rfl) (by kernel_rfl) (fun _ _ _ h => h) ⟨Or.inr ⟨by rfl, rfl⟩, fun _ => rfl⟩ ?_
    go_simp
    refine wpAnyIn_take (i := 29) (v := ?v64) rfl rfl (by kernel_rfl) (by kernel_rfl) (by kernel_rfl) (fun _ _ _ h => h) ⟨Or.inl ⟨by rfl, ?hy64⟩, fun _ => rfl⟩ ?_
    case hy64 => (intro w; go_simp; try with_reducible rfl)
    go_simp
    refine wpAnyIn_take (i := 30) (v := ?v65) rfl rfl (by kernel_rfl) (by kernel_rfl) (by kernel_rfl) (fun _ _ _ h => h) ⟨Or.inl ⟨by rfl, ?hy65⟩, fun _ => rfl⟩ ?_
    case hy65 => (intro w; go_simp; try with_reducible rfl)
    go_simp
    refine wpAnyIn_done (by kernel_rfl) ?_ _
    gi_wp2
    go_ret
    exact .inl ⟨rfl, by simpa [rprs] using own_drew hJo hJ⟩
  | node tl k x h tr ihl ihr =>
    intro o pre W n ht hJ hx
    obtain ⟨b, T, ol, or, rfl, hc, hl, hr⟩ := ht
    have c3 := ((hOk _ _ hJ).cells hc).2.2.2
    obtain ⟨tt, hx⟩ := hx
    have hx' : xs = (pre ++ rprs tr) ++ (k, x) :: (rprs tl ++ tt) := by rw [hx]; simp [rprs]
    have hy2 : ∀ W1, J (pre ++ rprs tr) W1 → YieldAt Fence.wide (n - 1) Try.prog l #[k, x] W1 fun e W2 =>
        (e = .returned (.bool true) ∧ W2.cell? ⟨b, 3, none⟩ = some (.pointer ol) ∧ CallsIn Fence.wide (n - 1) Try.prog 68 #[.pointer ol, .func (.yield l) #[] #[]] W2 (RiseP J Jx (pre ++ rprs tr ++ [(k, x)]) (rprs tl))) ∨ (e = .returned (.bool false) ∧ Jx (pre ++ rprs tr ++ [(k, x)]) W2) := by
      intro W1 hJ1
      refine (hY (pre ++ rprs tr) (k, x) W1 hJ1 ⟨_, hx'⟩ (n - 1)).mono ?_
      rintro e W2 ⟨_, ⟨he, hj⟩ | ⟨he, hj⟩⟩
      · exact .inl ⟨he, ((hOk _ _ hj).cells hc).2.2.1, ihl ol _ W2 (n - 1) hl hj ⟨tt, by rw [hx']; simp⟩⟩
      · exact .inr ⟨he, hj⟩
    have ih1 := (ihr or pre W.drew (n - 1) hr (own_drew hJo hJ) ⟨(k, x) :: (rprs tl ++ tt), by rw [hx']; simp⟩).mono (R' := fun e W1 =>
        (e = .returned (.bool true) ∧ W1.cell? ⟨b, 0, none⟩ = some k ∧ W1.cell? ⟨b, 1, none⟩ = some x ∧ YieldAt Fence.wide (n - 1) Try.prog l #[k, x] W1 fun e W2 =>
        (e = .returned (.bool true) ∧ W2.cell? ⟨b, 3, none⟩ = some (.pointer ol) ∧ CallsIn Fence.wide (n - 1) Try.prog 68 #[.pointer ol, .func (.yield l) #[] #[]] W2 (RiseP J Jx (pre ++ rprs tr ++ [(k, x)]) (rprs tl))) ∨ (e = .returned (.bool false) ∧ Jx (pre ++ rprs tr ++ [(k, x)]) W2)) ∨
        (e = .returned (.bool false) ∧ ∃ q, (∃ t, rprs tr = q ++ t) ∧ Jx (pre ++ q) W1))
      (fun e W1 h => h.elim (fun ⟨he, hj⟩ => .inl ⟨he, ((hOk _ _ hj).cells hc).1, ((hOk _ _ hj).cells hc).2.1, hy2 W1 hj⟩) .inr)
    have el : rprs (Tr.node tl k x h tr) = rprs tr ++ (k, x) :: rprs tl := by simp [rprs]
    have HE := Lib.hid el
    rw [el]
    clear hy2 ihl ihr hx hx' el hc hl hr hJ
    refine callsIn_of_wp Try.func68 rfl trivial ?_ rfl
    simp only [Try.ntmps68, List.size_toArray, List.length_cons, List.length_nil, Nat.reduceAdd, Nat.reduceSub, Array.replicate_succ, Array.replicate_zero, List.push_toArray, List.append_toArray, List.nil_append, List.cons_append]
    gi_wp2
    refine wpIn_region_any hm ?_
    change wpAnyIn _ _ _ _ _ _ _ _ _ (World.drew _)
    refine wpAnyIn_take (i := 0) (v := ?v66) rfl rfl (by kernel_rfl) (by kernel_rfl) (by kernel_rfl) (fun _ _ _ h => h) ⟨Or.inl ⟨by rfl, ?hy66⟩, fun _ => rfl⟩ ?_
    case hy66 => (intro w; go_simp; try with_reducible rfl)
    go_simp
    refine wpAnyIn_take (i := 1) (v := ?v67) rfl rfl (by kernel_rfl) (by kernel_rfl) (by kernel_rfl) (fun _ _ _ h => h) ⟨Or.inl ⟨by rfl, ?hy67⟩, fun _ => rfl⟩ ?_
    case hy67 => (intro w; go_simp; try with_reducible rfl)
    go_simp
    refine wpAnyIn_take (i := 2) (v := ?v68) rfl rfl (by kernel_rfl) (by kernel_rfl) (by kernel_rfl) (fun _ _ _ h => h) ⟨Or.inl ⟨by rfl, ?hy68⟩, fun _ => rfl⟩ ?_
    case hy68 => (intro w; go_simp; try with_reducible rfl)
    go_simp
    refine wpAnyIn_take (i := 3) (v := ?v69) rfl rfl (by kernel_rfl) (by kernel_rfl) (by kernel_rfl) (fun _ _ _ h => h) ⟨Or.inl ⟨by rfl, ?hy69⟩, fun _ => rfl⟩ ?_
    case hy69 => (intro w; go_simp; try with_reducible rfl)
    go_simp
    refine wpAnyIn_take (i := 4) (v := ?v70) rfl rfl (by kernel_rfl) (by kernel_rfl) (by kernel_rfl) (fun _ _ _ h => h) ⟨Or.inl ⟨by rfl, ?hy70⟩, fun _ => rfl⟩ ?_
    case hy70 => (intro w; go_simp; try with_reducible rfl)
    go_simp
    refine wpAnyIn_take (i := 5) (v := ?v71) rfl rfl (by kernel_rfl) (by kernel_rfl) (by kernel_rfl) (fun _ _ _ h => h) ⟨Or.inl ⟨by rfl, ?hy71⟩, fun _ => rfl⟩ ?_
    case hy71 => (intro w; go_simp; try with_reducible rfl)
    go_simp
    refine wpAnyIn_take (i := 7) (v := ?v72) rfl rfl (by kernel_rfl) (by kernel_rfl) (by kernel_rfl) (fun _ _ _ h => h) ⟨Or.inl ⟨by rfl, ?hy72⟩, fun _ => rfl⟩ ?_
    case hy72 => (intro w; go_simp; try with_reducible rfl)
    go_simp
    refine wpAnyIn_ready (rs := [6]) (by kernel_rfl) (by simp) (AllReadyIn.cons rfl (fun K hK => ?_) AllReadyIn.nil)
    go_simp
    first | refine hK _ _ ?_ | refine ⟨trivial, hK _ _ ?_⟩ | refine ⟨fun _ _ => trivial, hK _ _ ?_⟩ | fail
    clear hK K
    refine wpAnyIn_ready (rs := [8]) (by kernel_rfl) (by simp) (AllReadyIn.cons rfl (fun K hK => ?_) AllReadyIn.nil)
    go_simp
    refine ⟨trivial, hdd _, ih1.mono ?_⟩
    clear ih1
    rintro e W1 (⟨rfl, c0, c1, fn, tmps, assign, body, hy, hR⟩ | ⟨rfl, q, hq, hx1⟩)
    · clear c3
      refine hK _ _ ?_
      clear hK K
      refine wpAnyIn_take (i := 9) (v := ?v73) rfl rfl (by kernel_rfl) (by kernel_rfl) (by kernel_rfl) (fun _ _ _ h => h) ⟨Or.inl ⟨by rfl, ?hy73⟩, fun _ => rfl⟩ ?_
      case hy73 => (intro w; go_simp; try with_reducible rfl)
      go_simp
      refine wpAnyIn_take (i := 10) (v := ?v74) rfl rfl (by kernel_rfl) (by kernel_rfl) (by kernel_rfl) (fun _ _ _ h => h) ⟨Or.inl ⟨by rfl, ?hy74⟩, fun _ => rfl⟩ ?_
      case hy74 => (intro w; go_simp; try with_reducible rfl)
      go_simp
      refine wpAnyIn_take (i := 11) (v := ?v75) rfl rfl (by kernel_rfl) (by kernel_rfl) (by kernel_rfl) (fun _ _ _ h => h) ⟨Or.inl ⟨by rfl, ?hy75⟩, fun _ => rfl⟩ ?_
      case hy75 => (intro w; go_simp; try with_reducible rfl)
      go_simp
      refine wpAnyIn_take (i := 12) (v := ?v76) rfl rfl (by kernel_rfl) (by kernel_rfl) (by kernel_rfl) (fun _ _ _ h => h) ⟨Or.inl ⟨by rfl, ?hy76⟩, fun _ => rfl⟩ ?_
      case hy76 => (intro w; go_simp; try with_reducible rfl)
      go_simp
      refine wpAnyIn_take (i := 13) (v := ?v77) rfl rfl (by kernel_rfl) (by kernel_rfl) (by kernel_rfl) (fun _ _ _ h => h) ⟨Or.inl ⟨by rfl, ?hy77⟩, fun _ => rfl⟩ ?_
      case hy77 => (intro w; go_simp; try with_reducible rfl)
      go_simp
      refine wpAnyIn_take (i := 15) (v := ?v78) rfl rfl (by kernel_rfl) (by kernel_rfl) (by kernel_rfl) (fun _ _ _ h => h) ⟨Or.inl ⟨by rfl, ?hy78⟩, fun _ => rfl⟩ ?_
      case hy78 => (intro w; go_simp; try with_reducible rfl)
      go_simp
      refine wpAnyIn_take (i := 16) (v := ?v79) rfl rfl (by kernel_rfl) (by kernel_rfl) (by kernel_rfl) (fun _ _ _ h => h) ⟨Or.inl ⟨by rfl, ?hy79⟩, fun _ => rfl⟩ ?_
      case hy79 => (intro w; go_simp; try with_reducible rfl)
      go_simp
      refine wpAnyIn_take (i := 17) (v := ?v80) rfl rfl (by kernel_rfl) (by kernel_rfl) (by kernel_rfl) (fun _ _ _ h => h) ⟨Or.inl ⟨by rfl, ?hy80⟩, fun _ => rfl⟩ ?_
      case hy80 => (intro w; go_simp; try with_reducible rfl)
      go_simp
      refine wpAnyIn_ready (rs := [14, 18]) (by kernel_rfl) (by simp) (AllReadyIn.cons rfl (fun K hK => ?_) (AllReadyIn.cons rfl (fun K hK => ?_) AllReadyIn.nil))
      all_goals (go_simp; refine hK _ _ ?_; clear hK K)
      · refine wpAnyIn_ready (rs := [18]) (by kernel_rfl) (by simp) (AllReadyIn.cons rfl (fun K hK => ?_) AllReadyIn.nil)
        go_simp
        refine hK _ _ ?_
        clear hK K
        refine wpAnyIn_ready (rs := [19]) (by kernel_rfl) (by simp) (AllReadyIn.cons rfl (fun K hK => ?_) AllReadyIn.nil)
        go_simp
        refine ⟨hdd _, hR.mono ?_⟩
        clear hR
        rintro e W2 (⟨rfl, c4, ih2⟩ | ⟨rfl, hx2⟩)
        · clear c0 c1 hy
          refine hK _ _ ?_
          clear hK K
          refine wpAnyIn_take (i := 20) (v := ?v81) rfl rfl (by kernel_rfl) (by kernel_rfl) (by kernel_rfl) (fun _ _ _ h => h) ⟨Or.inl ⟨by rfl, ?hy81⟩, fun _ => rfl⟩ ?_
          case hy81 => (intro w; go_simp; try with_reducible rfl)
          go_simp
          refine wpAnyIn_take (i := 21) (v := ?v82) rfl rfl (by kernel_rfl) (by kernel_rfl) (by kernel_rfl) (fun _ _ _ h => h) ⟨Or.inl ⟨by rfl, ?hy82⟩, fun _ => rfl⟩ ?_
          case hy82 => (intro w; go_simp; try with_reducible rfl)
          go_simp
          refine wpAnyIn_take (i := 22) (v := ?v83) rfl rfl (by kernel_rfl) (by kernel_rfl) (by kernel_rfl) (fun _ _ _ h => h) ⟨Or.inl ⟨by rfl, ?hy83⟩, fun _ => rfl⟩ ?_
          case hy83 => (intro w; go_simp; try with_reducible rfl)
          go_simp
          refine wpAnyIn_take (i := 23) (v := ?v84) rfl rfl (by kernel_rfl) (by kernel_rfl) (by kernel_rfl) (fun _ _ _ h => h) ⟨Or.inl ⟨by rfl, ?hy84⟩, fun _ => rfl⟩ ?_
          case hy84 => (intro w; go_simp; try with_reducible rfl)
          go_simp
          refine wpAnyIn_take (i := 24) (v := ?v85) rfl rfl (by kernel_rfl) (by kernel_rfl) (by kernel_rfl) (fun _ _ _ h => h) ⟨Or.inl ⟨by rfl, ?hy85⟩, fun _ => rfl⟩ ?_
          case hy85 => (intro w; go_simp; try with_reducible rfl)
          go_simp
          refine wpAnyIn_take (i := 26) (v := ?v86) rfl rfl (by kernel_rfl) (by kernel_rfl) (by kernel_rfl) (fun _ _ _ h => h) ⟨Or.inl ⟨by rfl, ?hy86⟩, fun _ => rfl⟩ ?_
          case hy86 => (intro w; go_simp; try with_reducible rfl)
          go_simp
          refine wpAnyIn_ready (rs := [25]) (by kernel_rfl) (by simp) (AllReadyIn.cons rfl (fun K hK => ?_) AllReadyIn.nil)
          go_simp
          first | refine hK _ _ ?_ | refine ⟨trivial, hK _ _ ?_⟩ | refine ⟨fun _ _ => trivial, hK _ _ ?_⟩ | fail
          clear hK K
          refine wpAnyIn_ready (rs := [27]) (by kernel_rfl) (by simp) (AllReadyIn.cons rfl (fun K hK => ?_) AllReadyIn.nil)
          go_simp
          refine ⟨trivial, hdd _, ih2.mono ?_⟩
          clear ih2
          rintro e W3 (⟨rfl, hJ3⟩ | ⟨rfl, q, ⟨t, hq⟩, hx3⟩)
          · refine hK _ _ ?_
            clear hK K
            refine wpAnyIn_take (i := 28) (v := ?v87) rfl rfl (by kernel_rfl) (by kernel_rfl) (by kernel_rfl) (fun _ _ _ h => h) ⟨Or.inl ⟨by rfl, ?hy87⟩, fun _ => rfl⟩ ?_
            case hy87 => (intro w; go_simp; try with_reducible rfl)
            go_simp
            refine wpAnyIn_take (i := 29) (v := ?v88) rfl rfl (by kernel_rfl) (by kernel_rfl) (by kernel_rfl) (fun _ _ _ h => h) ⟨Or.inl ⟨by rfl, ?hy88⟩, fun _ => rfl⟩ ?_
            case hy88 => (intro w; go_simp; try with_reducible rfl)
            go_simp
            refine wpAnyIn_take (i := 30) (v := ?v89) rfl rfl (by kernel_rfl) (by kernel_rfl) (by kernel_rfl) (fun _ _ _ h => h) ⟨Or.inl ⟨by rfl, ?hy89⟩, fun _ => rfl⟩ ?_
            case hy89 => (intro w; go_simp; try with_reducible rfl)
            go_simp
            refine wpAnyIn_done (by kernel_rfl) ?_ _
            gi_wp2
            go_ret
            exact .inl ⟨rfl, by simpa using hJ3⟩
          · refine hK _ _ ?_
            clear hK K
            refine wpAnyIn_take (i := 28) (v := ?v90) rfl rfl (by kernel_rfl) (by kernel_rfl) (by kernel_rfl) (fun _ _ _ h => h) ⟨Or.inl ⟨by rfl, ?hy90⟩, fun _ => rfl⟩ ?_
            case hy90 => (intro w; go_simp; try with_reducible rfl)
            go_simp
            refine wpAnyIn_take (i := 29) (v := ?v91) rfl rfl (by kernel_rfl) (by kernel_rfl) (by kernel_rfl) (fun _ _ _ h => h) ⟨Or.inl ⟨by rfl, ?hy91⟩, fun _ => rfl⟩ ?_
            case hy91 => (intro w; go_simp; try with_reducible rfl)
            go_simp
            refine wpAnyIn_take (i := 30) (v := ?v92) rfl rfl (by kernel_rfl) (by kernel_rfl) (by kernel_rfl) (fun _ _ _ h => h) ⟨Or.inl ⟨by rfl, ?hy92⟩, fun _ => rfl⟩ ?_
            case hy92 => (intro w; go_simp; try with_reducible rfl)
            go_simp
            refine wpAnyIn_done (by kernel_rfl) ?_ _
            gi_wp2
            go_ret
            exact .inr ⟨rfl, rprs tr ++ (k, x) :: q, ⟨t, by simp [hq]⟩, by simpa using hx3⟩
        · clear c0 c1 hy
          refine hK _ _ ?_
          clear hK K
          refine wpAnyIn_take (i := 20) (v := ?v93) rfl rfl (by kernel_rfl) (by kernel_rfl) (by kernel_rfl) (fun _ _ _ h => h) ⟨Or.inl ⟨by rfl, ?hy93⟩, fun _ => rfl⟩ ?_
          case hy93 => (intro w; go_simp; try with_reducible rfl)
          go_simp
          refine wpAnyIn_take (i := 21) (v := ?v94) rfl rfl (by kernel_rfl) (by kernel_rfl) (by kernel_rfl) (fun _ _ _ h => h) ⟨Or.inl ⟨by rfl, ?hy94⟩, fun _ => rfl⟩ ?_
          case hy94 => (intro w; go_simp; try with_reducible rfl)
          go_simp
          refine wpAnyIn_take (i := 22) (v := undef) rfl rfl (by kernel_rfl) (by kernel_rfl) (by kernel_rfl) (fun _ _ _ h => h) ⟨Or.inr ⟨by rfl, rfl⟩, fun _ => rfl⟩ ?_
          go_simp
          refine wpAnyIn_take (i := 23) (v := undef) rfl rfl (by kernel_rfl) (by kernel_rfl) (by kernel_rfl) (fun _ _ _ h => h) ⟨Or.inr ⟨by rfl, rfl⟩, fun _ => rfl⟩ ?_
          go_simp
          refine wpAnyIn_take (i := 24) (v := undef) rfl rfl (by kernel_rfl) (by kernel_rfl) (by kernel_rfl) (fun _ _ _ h => h) ⟨Or.inr ⟨by rfl, rfl⟩, fun _ => rfl⟩ ?_
          go_simp
          refine wpAnyIn_take (i := 25) (v := undef) rfl rfl (by kernel_rfl) (by kernel_rfl) (by kernel_rfl) (fun _ _ _ h => h) ⟨Or.inr ⟨by rfl, rfl⟩, fun _ => rfl⟩ ?_
          go_simp
          refine wpAnyIn_take (i := 26) (v := undef) rfl rfl (by kernel_rfl) (by kernel_rfl) (by kernel_rfl) (fun _ _ _ h => h) ⟨Or.inr ⟨by rfl, rfl⟩, fun _ => rfl⟩ ?_
          go_simp
          refine wpAnyIn_ready (rs := [27]) (by kernel_rfl) (by simp) (AllReadyIn.cons rfl (fun K hK => ?_) AllReadyIn.nil)
          go_simp
          first | refine hK _ _ ?_ | refine ⟨trivial, hK _ _ ?_⟩ | refine ⟨fun _ _ => trivial, hK _ _ ?_⟩ | fail
          clear hK K
          refine wpAnyIn_take (i := 28) (v := ?v95) rfl rfl (by kernel_rfl) (by kernel_rfl) (by kernel_rfl) (fun _ _ _ h => h) ⟨Or.inl ⟨by rfl, ?hy95⟩, fun _ => rfl⟩ ?_
          case hy95 => (intro w; go_simp; try with_reducible rfl)
          go_simp
          refine wpAnyIn_take (i := 29) (v := ?v96) rfl rfl (by kernel_rfl) (by kernel_rfl) (by kernel_rfl) (fun _ _ _ h => h) ⟨Or.inl ⟨by rfl, ?hy96⟩, fun _ => rfl⟩ ?_
          case hy96 => (intro w; go_simp; try with_reducible rfl)
          go_simp
          refine wpAnyIn_take (i := 30) (v := ?v97) rfl rfl (by kernel_rfl) (by kernel_rfl) (by kernel_rfl) (fun _ _ _ h => h) ⟨Or.inl ⟨by rfl, ?hy97⟩, fun _ => rfl⟩ ?_
          case hy97 => (intro w; go_simp; try with_reducible rfl)
          go_simp
          refine wpAnyIn_done (by kernel_rfl) ?_ _
          gi_wp2
          go_ret
          exact .inr ⟨rfl, rprs tr ++ [(k, x)], ⟨rprs tl, by simp⟩, by simpa using hx2⟩
      · refine wpAnyIn_ready (rs := [14]) (by kernel_rfl) (by simp) (AllReadyIn.cons rfl (fun K hK => ?_) AllReadyIn.nil)
        go_simp
        refine hK _ _ ?_
        clear hK K
        refine wpAnyIn_ready (rs := [19]) (by kernel_rfl) (by simp) (AllReadyIn.cons rfl (fun K hK => ?_) AllReadyIn.nil)
        go_simp
        refine ⟨hdd _, hR.mono ?_⟩
        clear hR
        rintro e W2 (⟨rfl, c4, ih2⟩ | ⟨rfl, hx2⟩)
        · clear c0 c1 hy
          refine hK _ _ ?_
          clear hK K
          refine wpAnyIn_take (i := 20) (v := ?v98) rfl rfl (by kernel_rfl) (by kernel_rfl) (by kernel_rfl) (fun _ _ _ h => h) ⟨Or.inl ⟨by rfl, ?hy98⟩, fun _ => rfl⟩ ?_
          case hy98 => (intro w; go_simp; try with_reducible rfl)
          go_simp
          refine wpAnyIn_take (i := 21) (v := ?v99) rfl rfl (by kernel_rfl) (by kernel_rfl) (by kernel_rfl) (fun _ _ _ h => h) ⟨Or.inl ⟨by rfl, ?hy99⟩, fun _ => rfl⟩ ?_
          case hy99 => (intro w; go_simp; try with_reducible rfl)
          go_simp
          refine wpAnyIn_take (i := 22) (v := ?v100) rfl rfl (by kernel_rfl) (by kernel_rfl) (by kernel_rfl) (fun _ _ _ h => h) ⟨Or.inl ⟨by rfl, ?hy100⟩, fun _ => rfl⟩ ?_
          case hy100 => (intro w; go_simp; try with_reducible rfl)
          go_simp
          refine wpAnyIn_take (i := 23) (v := ?v101) rfl rfl (by kernel_rfl) (by kernel_rfl) (by kernel_rfl) (fun _ _ _ h => h) ⟨Or.inl ⟨by rfl, ?hy101⟩, fun _ => rfl⟩ ?_
          case hy101 => (intro w; go_simp; try with_reducible rfl)
          go_simp
          refine wpAnyIn_take (i := 24) (v := ?v102) rfl rfl (by kernel_rfl) (by kernel_rfl) (by kernel_rfl) (fun _ _ _ h => h) ⟨Or.inl ⟨by rfl, ?hy102⟩, fun _ => rfl⟩ ?_
          case hy102 => (intro w; go_simp; try with_reducible rfl)
          go_simp
          refine wpAnyIn_take (i := 26) (v := ?v103) rfl rfl (by kernel_rfl) (by kernel_rfl) (by kernel_rfl) (fun _ _ _ h => h) ⟨Or.inl ⟨by rfl, ?hy103⟩, fun _ => rfl⟩ ?_
          case hy103 => (intro w; go_simp; try with_reducible rfl)
          go_simp
          refine wpAnyIn_ready (rs := [25]) (by kernel_rfl) (by simp) (AllReadyIn.cons rfl (fun K hK => ?_) AllReadyIn.nil)
          go_simp
          first | refine hK _ _ ?_ | refine ⟨trivial, hK _ _ ?_⟩ | refine ⟨fun _ _ => trivial, hK _ _ ?_⟩ | fail
          clear hK K
          refine wpAnyIn_ready (rs := [27]) (by kernel_rfl) (by simp) (AllReadyIn.cons rfl (fun K hK => ?_) AllReadyIn.nil)
          go_simp
          refine ⟨trivial, hdd _, ih2.mono ?_⟩
          clear ih2
          rintro e W3 (⟨rfl, hJ3⟩ | ⟨rfl, q, ⟨t, hq⟩, hx3⟩)
          · refine hK _ _ ?_
            clear hK K
            refine wpAnyIn_take (i := 28) (v := ?v104) rfl rfl (by kernel_rfl) (by kernel_rfl) (by kernel_rfl) (fun _ _ _ h => h) ⟨Or.inl ⟨by rfl, ?hy104⟩, fun _ => rfl⟩ ?_
            case hy104 => (intro w; go_simp; try with_reducible rfl)
            go_simp
            refine wpAnyIn_take (i := 29) (v := ?v105) rfl rfl (by kernel_rfl) (by kernel_rfl) (by kernel_rfl) (fun _ _ _ h => h) ⟨Or.inl ⟨by rfl, ?hy105⟩, fun _ => rfl⟩ ?_
            case hy105 => (intro w; go_simp; try with_reducible rfl)
            go_simp
            refine wpAnyIn_take (i := 30) (v := ?v106) rfl rfl (by kernel_rfl) (by kernel_rfl) (by kernel_rfl) (fun _ _ _ h => h) ⟨Or.inl ⟨by rfl, ?hy106⟩, fun _ => rfl⟩ ?_
            case hy106 => (intro w; go_simp; try with_reducible rfl)
            go_simp
            refine wpAnyIn_done (by kernel_rfl) ?_ _
            gi_wp2
            go_ret
            exact .inl ⟨rfl, by simpa using hJ3⟩
          · refine hK _ _ ?_
            clear hK K
            refine wpAnyIn_take (i := 28) (v := ?v107) rfl rfl (by kernel_rfl) (by kernel_rfl) (by kernel_rfl) (fun _ _ _ h => h) ⟨Or.inl ⟨by rfl, ?hy107⟩, fun _ => rfl⟩ ?_
            case hy107 => (intro w; go_simp; try with_reducible rfl)
            go_simp
            refine wpAnyIn_take (i := 29) (v := ?v108) rfl rfl (by kernel_rfl) (by kernel_rfl) (by kernel_rfl) (fun _ _ _ h => h) ⟨Or.inl ⟨by rfl, ?hy108⟩, fun _ => rfl⟩ ?_
            case hy108 => (intro w; go_simp; try with_reducible rfl)
            go_simp
            refine wpAnyIn_take (i := 30) (v := ?v109) rfl rfl (by kernel_rfl) (by kernel_rfl) (by kernel_rfl) (fun _ _ _ h => h) ⟨Or.inl ⟨by rfl, ?hy109⟩, fun _ => rfl⟩ ?_
            case hy109 => (intro w; go_simp; try with_reducible rfl)
            go_simp
            refine wpAnyIn_done (by kernel_rfl) ?_ _
            gi_wp2
            go_ret
            exact .inr ⟨rfl, rprs tr ++ (k, x) :: q, ⟨t, by simp [hq]⟩, by simpa using hx3⟩
        · clear c0 c1 hy
          refine hK _ _ ?_
          clear hK K
          refine wpAnyIn_take (i := 20) (v := ?v110) rfl rfl (by kernel_rfl) (by kernel_rfl) (by kernel_rfl) (fun _ _ _ h => h) ⟨Or.inl ⟨by rfl, ?hy110⟩, fun _ => rfl⟩ ?_
          case hy110 => (intro w; go_simp; try with_reducible rfl)
          go_simp
          refine wpAnyIn_take (i := 21) (v := ?v111) rfl rfl (by kernel_rfl) (by kernel_rfl) (by kernel_rfl) (fun _ _ _ h => h) ⟨Or.inl ⟨by rfl, ?hy111⟩, fun _ => rfl⟩ ?_
          case hy111 => (intro w; go_simp; try with_reducible rfl)
          go_simp
          refine wpAnyIn_take (i := 22) (v := undef) rfl rfl (by kernel_rfl) (by kernel_rfl) (by kernel_rfl) (fun _ _ _ h => h) ⟨Or.inr ⟨by rfl, rfl⟩, fun _ => rfl⟩ ?_
          go_simp
          refine wpAnyIn_take (i := 23) (v := undef) rfl rfl (by kernel_rfl) (by kernel_rfl) (by kernel_rfl) (fun _ _ _ h => h) ⟨Or.inr ⟨by rfl, rfl⟩, fun _ => rfl⟩ ?_
          go_simp
          refine wpAnyIn_take (i := 24) (v := undef) rfl rfl (by kernel_rfl) (by kernel_rfl) (by kernel_rfl) (fun _ _ _ h => h) ⟨Or.inr ⟨by rfl, rfl⟩, fun _ => rfl⟩ ?_
          go_simp
          refine wpAnyIn_take (i := 25) (v := undef) rfl rfl (by kernel_rfl) (by kernel_rfl) (by kernel_rfl) (fun _ _ _ h => h) ⟨Or.inr ⟨by rfl, rfl⟩, fun _ => rfl⟩ ?_
          go_simp
          refine wpAnyIn_take (i := 26) (v := undef) rfl rfl (by kernel_rfl) (by kernel_rfl) (by kernel_rfl) (fun _ _ _ h => h) ⟨Or.inr ⟨by rfl, rfl⟩, fun _ => rfl⟩ ?_
          go_simp
          refine wpAnyIn_ready (rs := [27]) (by kernel_rfl) (by simp) (AllReadyIn.cons rfl (fun K hK => ?_) AllReadyIn.nil)
          go_simp
          first | refine hK _ _ ?_ | refine ⟨trivial, hK _ _ ?_⟩ | refine ⟨fun _ _ => trivial, hK _ _ ?_⟩ | fail
          clear hK K
          refine wpAnyIn_take (i := 28) (v := ?v112) rfl rfl (by kernel_rfl) (by kernel_rfl) (by kernel_rfl) (fun _ _ _ h => h) ⟨Or.inl ⟨by rfl, ?hy112⟩, fun _ => rfl⟩ ?_
          case hy112 => (intro w; go_simp; try with_reducible rfl)
          go_simp
          refine wpAnyIn_take (i := 29) (v := ?v113) rfl rfl (by kernel_rfl) (by kernel_rfl) (by kernel_rfl) (fun _ _ _ h => h) ⟨Or.inl ⟨by rfl, ?hy113⟩, fun _ => rfl⟩ ?_
          case hy113 => (intro w; go_simp; try with_reducible rfl)
          go_simp
          refine wpAnyIn_take (i := 30) (v := ?v114) rfl rfl (by kernel_rfl) (by kernel_rfl) (by kernel_rfl) (fun _ _ _ h => h) ⟨Or.inl ⟨by rfl, ?hy114⟩, fun _ => rfl⟩ ?_
          case hy114 => (intro w; go_simp; try with_reducible rfl)
          go_simp
          refine wpAnyIn_done (by kernel_rfl) ?_ _
          gi_wp2
          go_ret
          exact .inr ⟨rfl, rprs tr ++ [(k, x)], ⟨rprs tl, by simp⟩, by simpa using hx2⟩
    · clear c3
      refine hK _ _ ?_
      clear hK K
      refine wpAnyIn_take (i := 9) (v := ?v115) rfl rfl (by kernel_rfl) (by kernel_rfl) (by kernel_rfl) (fun _ _ _ h => h) ⟨Or.inl ⟨by rfl, ?hy115⟩, fun _ => rfl⟩ ?_
      case hy115 => (intro w; go_simp; try with_reducible rfl)
      go_simp
      refine wpAnyIn_take (i := 10) (v := undef) rfl rfl (by kernel_rfl) (by kernel_rfl) (by kernel_rfl) (fun _ _ _ h => h) ⟨Or.inr ⟨by rfl, rfl⟩, fun _ => rfl⟩ ?_
      go_simp
      refine wpAnyIn_take (i := 11) (v := undef) rfl rfl (by kernel_rfl) (by kernel_rfl) (by kernel_rfl) (fun _ _ _ h => h) ⟨Or.inr ⟨by rfl, rfl⟩, fun _ => rfl⟩ ?_
      go_simp
      refine wpAnyIn_take (i := 12) (v := undef) rfl rfl (by kernel_rfl) (by kernel_rfl) (by kernel_rfl) (fun _ _ _ h => h) ⟨Or.inr ⟨by rfl, rfl⟩, fun _ => rfl⟩ ?_
      go_simp
      refine wpAnyIn_take (i := 13) (v := undef) rfl rfl (by kernel_rfl) (by kernel_rfl) (by kernel_rfl) (fun _ _ _ h => h) ⟨Or.inr ⟨by rfl, rfl⟩, fun _ => rfl⟩ ?_
      go_simp
      refine wpAnyIn_take (i := 14) (v := undef) rfl rfl (by kernel_rfl) (by kernel_rfl) (by kernel_rfl) (fun _ _ _ h => h) ⟨Or.inr ⟨by rfl, rfl⟩, fun _ => rfl⟩ ?_
      go_simp
      refine wpAnyIn_take (i := 15) (v := undef) rfl rfl (by kernel_rfl) (by kernel_rfl) (by kernel_rfl) (fun _ _ _ h => h) ⟨Or.inr ⟨by rfl, rfl⟩, fun _ => rfl⟩ ?_
      go_simp
      refine wpAnyIn_take (i := 16) (v := undef) rfl rfl (by kernel_rfl) (by kernel_rfl) (by kernel_rfl) (fun _ _ _ h => h) ⟨Or.inr ⟨by rfl, rfl⟩, fun _ => rfl⟩ ?_
      go_simp
      refine wpAnyIn_take (i := 17) (v := undef) rfl rfl (by kernel_rfl) (by kernel_rfl) (by kernel_rfl) (fun _ _ _ h => h) ⟨Or.inr ⟨by rfl, rfl⟩, fun _ => rfl⟩ ?_
      go_simp
      refine wpAnyIn_take (i := 18) (v := undef) rfl rfl (by kernel_rfl) (by kernel_rfl) (by kernel_rfl) (fun _ _ _ h => h) ⟨Or.inr ⟨by rfl, rfl⟩, fun _ => rfl⟩ ?_
      go_simp
      refine wpAnyIn_ready (rs := [19]) (by kernel_rfl) (by simp) (AllReadyIn.cons rfl (fun K hK => ?_) AllReadyIn.nil)
      go_simp
      first | refine hK _ _ ?_ | refine ⟨trivial, hK _ _ ?_⟩ | refine ⟨fun _ _ => trivial, hK _ _ ?_⟩ | fail
      clear hK K
      refine wpAnyIn_take (i := 20) (v := ?v116) rfl rfl (by kernel_rfl) (by kernel_rfl) (by kernel_rfl) (fun _ _ _ h => h) ⟨Or.inl ⟨by rfl, ?hy116⟩, fun _ => rfl⟩ ?_
      case hy116 => (intro w; go_simp; try with_reducible rfl)
      go_simp
      refine wpAnyIn_take (i := 21) (v := ?v117) rfl rfl (by kernel_rfl) (by kernel_rfl) (by kernel_rfl) (fun _ _ _ h => h) ⟨Or.inl ⟨by rfl, ?hy117⟩, fun _ => rfl⟩ ?_
      case hy117 => (intro w; go_simp; try with_reducible rfl)
      go_simp
      refine wpAnyIn_take (i := 22) (v := undef) rfl rfl (by kernel_rfl) (by kernel_rfl) (by kernel_rfl) (fun _ _ _ h => h) ⟨Or.inr ⟨by rfl, rfl⟩, fun _ => rfl⟩ ?_
      go_simp
      refine wpAnyIn_take (i := 23) (v := undef) rfl rfl (by kernel_rfl) (by kernel_rfl) (by kernel_rfl) (fun _ _ _ h => h) ⟨Or.inr ⟨by rfl, rfl⟩, fun _ => rfl⟩ ?_
      go_simp
      refine wpAnyIn_take (i := 24) (v := undef) rfl rfl (by kernel_rfl) (by kernel_rfl) (by kernel_rfl) (fun _ _ _ h => h) ⟨Or.inr ⟨by rfl, rfl⟩, fun _ => rfl⟩ ?_
      go_simp
      refine wpAnyIn_take (i := 25) (v := undef) rfl rfl (by kernel_rfl) (by kernel_rfl) (by kernel_rfl) (fun _ _ _ h => h) ⟨Or.inr ⟨by rfl, rfl⟩, fun _ => rfl⟩ ?_
      go_simp
      refine wpAnyIn_take (i := 26) (v := undef) rfl rfl (by kernel_rfl) (by kernel_rfl) (by kernel_rfl) (fun _ _ _ h => h) ⟨Or.inr ⟨by rfl, rfl⟩, fun _ => rfl⟩ ?_
      go_simp
      refine wpAnyIn_ready (rs := [27]) (by kernel_rfl) (by simp) (AllReadyIn.cons rfl (fun K hK => ?_) AllReadyIn.nil)
      go_simp
      first | refine hK _ _ ?_ | refine ⟨trivial, hK _ _ ?_⟩ | refine ⟨fun _ _ => trivial, hK _ _ ?_⟩ | fail
      clear hK K
      refine wpAnyIn_take (i := 28) (v := ?v118) rfl rfl (by kernel_rfl) (by kernel_rfl) (by kernel_rfl) (fun _ _ _ h => h) ⟨Or.inl ⟨by rfl, ?hy118⟩, fun _ => rfl⟩ ?_
      case hy118 => (intro w; go_simp; try with_reducible rfl)
      go_simp
      refine wpAnyIn_take (i := 29) (v := ?v119) rfl rfl (by kernel_rfl) (by kernel_rfl) (by kernel_rfl) (fun _ _ _ h => h) ⟨Or.inl ⟨by rfl, ?hy119⟩, fun _ => rfl⟩ ?_
      case hy119 => (intro w; go_simp; try with_reducible rfl)
      go_simp
      refine wpAnyIn_take (i := 30) (v := ?v120) rfl rfl (by kernel_rfl) (by kernel_rfl) (by kernel_rfl) (fun _ _ _ h => h) ⟨Or.inl ⟨by rfl, ?hy120⟩, fun _ => rfl⟩ ?_
      case hy120 => (intro w; go_simp; try with_reducible rfl)
      go_simp
      refine wpAnyIn_done (by kernel_rfl) ?_ _
      gi_wp2
      go_ret
      obtain ⟨t, hq⟩ := hq
      exact .inr ⟨rfl, q, ⟨t ++ (k, x) :: rprs tl, by rw [hq]; simp⟩, hx1⟩
end Go.Proofs.Ytdkplhfbcpobaaa
