import Derived.Test.YtcgjiddiegepkaaRiseVS
import Derived.Test.YtcgjiddiegepkaaMapVS
import Derived.Test.YtcgjiddiegepkaaVScan
/- Trees in order, omap[string,[]handbill/vers.Version[string]]: between, Range. -/
namespace Go.Proofs.Ytcgjiddiegepkaa
open Go.RowKit
attribute [local go_sem] Oper.semAt_some wide_fn wide_depth

/-- The pairs from lo on and below hi, as they are walked. -/
def btwVS (lo hi : Value) : Tr → List (Value × Value)
  | .nil => []
  | .node l k x _ r => if lessV k lo = true then btwVS lo hi r else if lessV k hi = false then btwVS lo hi l else btwVS lo hi l ++ (k, x) :: btwVS lo hi r
theorem btwVS_filter {K V : Value → Prop} (O : Ord K) {lo hi : Value} (hlo : K lo) (hhi : K hi) : ∀ {t : Tr}, WS K V t → Ris (prs t) → btwVS lo hi t = (prs t).filter (fun p => !lessV p.1 lo && lessV p.1 hi)
  | .nil, _, _ => rfl
  | .node l k x n r, h, hr => by
    obtain ⟨_, a1, a2, a3, a4⟩ := h
    rw [prs_node, ris_app] at hr
    obtain ⟨r1, r2, r3⟩ := hr
    have hlk : ∀ p ∈ prs l, K p.1 ∧ lessV p.1 k = true := fun p hp => ⟨(ws_keys a3 p hp).1, r3 p hp (k, x) (List.mem_cons_self ..)⟩
    have hrk : ∀ p ∈ prs r, K p.1 ∧ lessV k p.1 = true := fun p hp => ⟨(ws_keys a4 p hp).1, r2.1 p hp⟩
    have il := btwVS_filter O hlo hhi a3 r1
    have ir := btwVS_filter O hlo hhi a4 r2.2
    unfold btwVS
    rw [prs_node, List.filter_append, List.filter_cons]
    split
    · next g =>
      have e : (prs l).filter (fun p => !lessV p.1 lo && lessV p.1 hi) = [] := by
        rw [List.filter_eq_nil_iff]
        intro p hp
        have := O.tr p.1 k lo (hlk p hp).1 a1 hlo (hlk p hp).2 g
        simp [this]
      rw [e, ir]
      simp [g]
    · next g =>
      split
      · next g2 =>
        have e : (prs r).filter (fun p => !lessV p.1 lo && lessV p.1 hi) = [] := by
          rw [List.filter_eq_nil_iff]
          intro p hp
          have : lessV p.1 hi = false := by
            cases e : lessV p.1 hi with
            | false => rfl
            | true => have := O.tr k p.1 hi a1 (hrk p hp).1 hhi (hrk p hp).2 e; rw [g2] at this; cases this
          simp [this]
        rw [e, il]
        simp [g2]
      · next g2 =>
        rw [il, ir]
        have g' : lessV k lo = false := by simpa using g
        have g2' : lessV k hi = true := by simpa using g2
        simp [g', g2']
theorem lessVS_any (a b : List UInt8) (w : World) : Calls Try.prog 69 #[str a, str b] w fun e w' => e = .returned (.bool (lessV (str a) (str b))) ∧ w' = w := by
  have e1 : lessV (str a) (str b) = Op.bytesLess a b := rfl
  rw [e1]
  have n1 : (a != a) = false := bne_self_eq_false _
  have n2 : (b != b) = false := bne_self_eq_false _
  clear e1
  go_enter Try.func69, Try.ntmps69
  go_wp2
  go_ret
  exact ⟨rfl, rfl⟩
theorem lessKVS {k b : Value} (hk : KSVS k) (hb : KSVS b) (w : World) : Calls Try.prog 69 #[k, b] w fun e w' => e = .returned (.bool (lessV k b)) ∧ w' = w := by
  obtain ⟨x, rfl⟩ := hk
  obtain ⟨y, rfl⟩ := hb
  exact lessVS_any x y w
set_option maxRecDepth 100000 in
set_option maxHeartbeats 8000000 in
theorem betweenVS_any {w₀ : World} {l B : Nat} {Wr : TypeId → Prop} {J Jx : List (Value × Value) → World → Prop} {xs : List (Value × Value)} {lo hi : Value} (hlo : KSVS lo) (hhi : KSVS hi) (hJo : OwnFrom B J) (hOk : ∀ pre W, J pre W → NK w₀ W)
    (hY : ∀ pre x W, J pre W → (∃ t, xs = pre ++ x :: t) → Yld Try.prog l #[x.1, x.2] W (RndPost Wr B J Jx (pre ++ [x]) W)) (T : Tr) :
    ∀ (o : Option Addr) (pre : List (Value × Value)) (W : World) (n : Nat), TP w₀ o T → WS KSVS VSVS T → J pre W → (∃ t, xs = pre ++ (btwVS lo hi T ++ t)) →
      CallsIn Fence.wide n Try.prog 87 #[.pointer o, lo, hi, .func (.yield l) #[] #[]] W (RiseP J Jx pre (btwVS lo hi T)) := by
  have hm : Try.prog.follows .mixedOrders = true := by kernel_rfl
  have hdd : ∀ k : Nat, (Fence.wide.depth.isSome = true → 1 ≤ k) := fun k h => by cases h
  induction T with
  | nil =>
    intro o pre W n ht _ hJ _
    obtain rfl : o = none := ht
    refine callsIn_of_wp Try.func87 rfl trivial ?_ rfl
    simp only [Try.ntmps87, List.size_toArray, List.length_cons, List.length_nil, Nat.reduceAdd, Nat.reduceSub, Array.replicate_succ, Array.replicate_zero, List.push_toArray, List.append_toArray, List.nil_append, List.cons_append]
    gi_wp2
    go_ret
    exact .inl ⟨rfl, by simpa [btwVS] using hJ⟩
  | node tl k x h tr ihl ihr =>
    intro o pre W n ht hw hJ hx
    obtain ⟨b, T, ol, or, rfl, hc, hl, hr⟩ := ht
    obtain ⟨_, a1, a2, a3, a4⟩ := hw
    obtain ⟨c0, _, c3, c4⟩ := (hOk _ _ hJ).cells hc
    have L1 : ∀ m W, CallsIn Fence.wide m Try.prog 69 #[k, lo] W fun e w' => e = .returned (.bool (lessV k lo)) ∧ w' = W := fun m W => callsIn_wide.2 (lessKVS a1 hlo W)
    have L2 : ∀ m W, CallsIn Fence.wide m Try.prog 69 #[k, hi] W fun e w' => e = .returned (.bool (lessV k hi)) ∧ w' = W := fun m W => callsIn_wide.2 (lessKVS a1 hhi W)
    unfold btwVS at hx ⊢
    by_cases g1 : lessV k lo = true
    · rw [if_pos g1] at hx ⊢
      have ih := ihr or pre W (n - 1) hr a4 hJ hx
      have L1' := Lib.hid (fun m => by have := L1 m W; rw [g1] at this; exact this)
      clear L1 L2 ihl ihr hx hc hl hr hJ a3 a4 c3 g1
      refine callsIn_of_wp Try.func87 rfl trivial ?_ rfl
      simp only [Try.ntmps87, List.size_toArray, List.length_cons, List.length_nil, Nat.reduceAdd, Nat.reduceSub, Array.replicate_succ, Array.replicate_zero, List.push_toArray, List.append_toArray, List.nil_append, List.cons_append]
      gi_wp2_with (first | (gi_at_call 69; refine (L1'.out _).mono ?_; rintro e w' ⟨rfl, rfl⟩) | (gi_at_call 87; refine ih.mono ?_; clear ih; rintro e W1 (⟨rfl, hJ1⟩ | ⟨rfl, hx1⟩)) | fail)
      · go_ret
        exact .inl ⟨rfl, hJ1⟩
      · go_ret
        exact .inr ⟨rfl, hx1⟩
    rw [if_neg g1] at hx ⊢
    have g1' : lessV k lo = false := by simpa using g1
    by_cases g2 : lessV k hi = false
    · rw [if_pos g2] at hx ⊢
      have ih := ihl ol pre W (n - 1) hl a3 hJ hx
      have L1' := Lib.hid (fun m => by have := L1 m W; rw [g1'] at this; exact this)
      have L2' := Lib.hid (fun m => by have := L2 m W; rw [g2] at this; exact this)
      clear L1 L2 ihl ihr hx hc hl hr hJ a3 a4 c4 g1 g2 g1'
      refine callsIn_of_wp Try.func87 rfl trivial ?_ rfl
      simp only [Try.ntmps87, List.size_toArray, List.length_cons, List.length_nil, Nat.reduceAdd, Nat.reduceSub, Array.replicate_succ, Array.replicate_zero, List.push_toArray, List.append_toArray, List.nil_append, List.cons_append]
      gi_wp2_with (first | (gi_at_call 69; refine (L1'.out _).mono ?_; clear L1'; rintro e w' ⟨rfl, rfl⟩) | (gi_at_call 69; refine (L2'.out _).mono ?_; rintro e w' ⟨rfl, rfl⟩) | (gi_at_call 87; refine ih.mono ?_; clear ih; rintro e W1 (⟨rfl, hJ1⟩ | ⟨rfl, hx1⟩)) | fail)
      · go_ret
        exact .inl ⟨rfl, hJ1⟩
      · go_ret
        exact .inr ⟨rfl, hx1⟩
    rw [if_neg g2] at hx ⊢
    have g2' : lessV k hi = true := by simpa using g2
    have L1' := Lib.hid (fun m => by have := L1 m W; rw [g1'] at this; exact this)
    have L2' := Lib.hid (fun m => by have := L2 m W; rw [g2'] at this; exact this)
    obtain ⟨tt, hx⟩ := hx
    have hx' : xs = (pre ++ btwVS lo hi tl) ++ (k, x) :: (btwVS lo hi tr ++ tt) := by rw [hx]; simp
    have hy2 : ∀ W1, J (pre ++ btwVS lo hi tl) W1 → YieldAt Fence.wide (n - 1) Try.prog l #[k, x] W1 fun e W2 =>
        (e = .returned (.bool true) ∧ W2.cell? ⟨b, 4, none⟩ = some (.pointer or) ∧ CallsIn Fence.wide (n - 1) Try.prog 87 #[.pointer or, lo, hi, .func (.yield l) #[] #[]] W2 (RiseP J Jx (pre ++ btwVS lo hi tl ++ [(k, x)]) (btwVS lo hi tr))) ∨ (e = .returned (.bool false) ∧ Jx (pre ++ btwVS lo hi tl ++ [(k, x)]) W2) := by
      intro W1 hJ1
      refine (hY (pre ++ btwVS lo hi tl) (k, x) W1 hJ1 ⟨_, hx'⟩ (n - 1)).mono ?_
      rintro e W2 ⟨_, ⟨he, hj⟩ | ⟨he, hj⟩⟩
      · exact .inl ⟨he, ((hOk _ _ hj).cells hc).2.2.2, ihr or _ W2 (n - 1) hr a4 hj ⟨tt, by rw [hx']; simp⟩⟩
      · exact .inr ⟨he, hj⟩
    have ih1 := (ihl ol pre W.drew (n - 1) hl a3 (own_drew hJo hJ) ⟨(k, x) :: (btwVS lo hi tr ++ tt), by rw [hx']; simp⟩).mono (R' := fun e W1 =>
        (e = .returned (.bool true) ∧ W1.cell? ⟨b, 0, none⟩ = some k ∧ W1.cell? ⟨b, 1, none⟩ = some x ∧ YieldAt Fence.wide (n - 1) Try.prog l #[k, x] W1 fun e W2 =>
        (e = .returned (.bool true) ∧ W2.cell? ⟨b, 4, none⟩ = some (.pointer or) ∧ CallsIn Fence.wide (n - 1) Try.prog 87 #[.pointer or, lo, hi, .func (.yield l) #[] #[]] W2 (RiseP J Jx (pre ++ btwVS lo hi tl ++ [(k, x)]) (btwVS lo hi tr))) ∨ (e = .returned (.bool false) ∧ Jx (pre ++ btwVS lo hi tl ++ [(k, x)]) W2)) ∨
        (e = .returned (.bool false) ∧ ∃ q, (∃ t, btwVS lo hi tl = q ++ t) ∧ Jx (pre ++ q) W1))
      (fun e W1 h => h.elim (fun ⟨he, hj⟩ => .inl ⟨he, ((hOk _ _ hj).cells hc).1, ((hOk _ _ hj).cells hc).2.1, hy2 W1 hj⟩) .inr)
    clear L1 L2 hy2 ihl ihr hx hx' hc hl hr hJ a3 a4 c4 g1 g2 g1' g2'
    obtain ⟨A, hA⟩ : ∃ A, A = btwVS lo hi tl := ⟨_, rfl⟩
    obtain ⟨Bt, hBt⟩ : ∃ Bt, Bt = btwVS lo hi tr := ⟨_, rfl⟩
    rw [← hA, ← hBt] at ih1 ⊢
    clear hA hBt
    refine callsIn_of_wp Try.func87 rfl trivial ?_ rfl
    simp only [Try.ntmps87, List.size_toArray, List.length_cons, List.length_nil, Nat.reduceAdd, Nat.reduceSub, Array.replicate_succ, Array.replicate_zero, List.push_toArray, List.append_toArray, List.nil_append, List.cons_append]
    gi_wp2_with (first | (gi_at_call 69; refine (L1'.out _).mono ?_; clear L1'; rintro e w' ⟨rfl, rfl⟩) | (gi_at_call 69; refine (L2'.out _).mono ?_; clear L2'; rintro e w' ⟨rfl, rfl⟩) | fail)
    refine wpIn_region_any hm ?_
    change wpAnyIn _ _ _ _ _ _ _ _ _ (World.drew _)
    refine wpAnyIn_take (i := 0) (v := ?v1) rfl rfl (by kernel_rfl) (by kernel_rfl) (by kernel_rfl) (fun _ _ _ h => h) ⟨Or.inl ⟨by rfl, ?hy1⟩, fun _ => rfl⟩ ?_
    case hy1 => (intro w; go_simp; try with_reducible rfl)
    go_simp
    refine wpAnyIn_take (i := 1) (v := ?v2) rfl rfl (by kernel_rfl) (by kernel_rfl) (by kernel_rfl) (fun _ _ _ h => h) ⟨Or.inl ⟨by rfl, ?hy2⟩, fun _ => rfl⟩ ?_
    case hy2 => (intro w; go_simp; try with_reducible rfl)
    go_simp
    refine wpAnyIn_take (i := 2) (v := ?v3) rfl rfl (by kernel_rfl) (by kernel_rfl) (by kernel_rfl) (fun _ _ _ h => h) ⟨Or.inl ⟨by rfl, ?hy3⟩, fun _ => rfl⟩ ?_
    case hy3 => (intro w; go_simp; try with_reducible rfl)
    go_simp
    refine wpAnyIn_take (i := 4) (v := ?v4) rfl rfl (by kernel_rfl) (by kernel_rfl) (by kernel_rfl) (fun _ _ _ h => h) ⟨Or.inl ⟨by rfl, ?hy4⟩, fun _ => rfl⟩ ?_
    case hy4 => (intro w; go_simp; try with_reducible rfl)
    go_simp
    refine wpAnyIn_take (i := 5) (v := ?v5) rfl rfl (by kernel_rfl) (by kernel_rfl) (by kernel_rfl) (fun _ _ _ h => h) ⟨Or.inl ⟨by rfl, ?hy5⟩, fun _ => rfl⟩ ?_
    case hy5 => (intro w; go_simp; try with_reducible rfl)
    go_simp
    refine wpAnyIn_take (i := 6) (v := ?v6) rfl rfl (by kernel_rfl) (by kernel_rfl) (by kernel_rfl) (fun _ _ _ h => h) ⟨Or.inl ⟨by rfl, ?hy6⟩, fun _ => rfl⟩ ?_
    case hy6 => (intro w; go_simp; try with_reducible rfl)
    go_simp
    refine wpAnyIn_ready (rs := [3]) (by kernel_rfl) (by simp) (AllReadyIn.cons rfl (fun K hK => ?_) AllReadyIn.nil)
    go_simp
    first | refine hK _ _ ?_ | refine ⟨trivial, hK _ _ ?_⟩ | refine ⟨fun _ _ => trivial, hK _ _ ?_⟩ | fail
    clear hK K
    refine wpAnyIn_ready (rs := [7]) (by kernel_rfl) (by simp) (AllReadyIn.cons rfl (fun K hK => ?_) AllReadyIn.nil)
    go_simp
    refine ih1.mono ?_
    clear ih1
    rintro e W1 (⟨rfl, c0, c1, fn, tmps, assign, body, hy, hR⟩ | ⟨rfl, q, hq, hx1⟩)
    · clear c3
      refine hK _ _ ?_
      clear hK K
      refine wpAnyIn_take (i := 8) (v := ?v7) rfl rfl (by kernel_rfl) (by kernel_rfl) (by kernel_rfl) (fun _ _ _ h => h) ⟨Or.inl ⟨by rfl, ?hy7⟩, fun _ => rfl⟩ ?_
      case hy7 => (intro w; go_simp; try with_reducible rfl)
      go_simp
      refine wpAnyIn_take (i := 9) (v := ?v8) rfl rfl (by kernel_rfl) (by kernel_rfl) (by kernel_rfl) (fun _ _ _ h => h) ⟨Or.inl ⟨by rfl, ?hy8⟩, fun _ => rfl⟩ ?_
      case hy8 => (intro w; go_simp; try with_reducible rfl)
      go_simp
      refine wpAnyIn_take (i := 10) (v := ?v9) rfl rfl (by kernel_rfl) (by kernel_rfl) (by kernel_rfl) (fun _ _ _ h => h) ⟨Or.inl ⟨by rfl, ?hy9⟩, fun _ => rfl⟩ ?_
      case hy9 => (intro w; go_simp; try with_reducible rfl)
      go_simp
      refine wpAnyIn_take (i := 11) (v := ?v10) rfl rfl (by kernel_rfl) (by kernel_rfl) (by kernel_rfl) (fun _ _ _ h => h) ⟨Or.inl ⟨by rfl, ?hy10⟩, fun _ => rfl⟩ ?_
      case hy10 => (intro w; go_simp; try with_reducible rfl)
      go_simp
      refine wpAnyIn_take (i := 12) (v := ?v11) rfl rfl (by kernel_rfl) (by kernel_rfl) (by kernel_rfl) (fun _ _ _ h => h) ⟨Or.inl ⟨by rfl, ?hy11⟩, fun _ => rfl⟩ ?_
      case hy11 => (intro w; go_simp; try with_reducible rfl)
      go_simp
      refine wpAnyIn_take (i := 14) (v := ?v12) rfl rfl (by kernel_rfl) (by kernel_rfl) (by kernel_rfl) (fun _ _ _ h => h) ⟨Or.inl ⟨by rfl, ?hy12⟩, fun _ => rfl⟩ ?_
      case hy12 => (intro w; go_simp; try with_reducible rfl)
      go_simp
      refine wpAnyIn_take (i := 15) (v := ?v13) rfl rfl (by kernel_rfl) (by kernel_rfl) (by kernel_rfl) (fun _ _ _ h => h) ⟨Or.inl ⟨by rfl, ?hy13⟩, fun _ => rfl⟩ ?_
      case hy13 => (intro w; go_simp; try with_reducible rfl)
      go_simp
      refine wpAnyIn_take (i := 16) (v := ?v14) rfl rfl (by kernel_rfl) (by kernel_rfl) (by kernel_rfl) (fun _ _ _ h => h) ⟨Or.inl ⟨by rfl, ?hy14⟩, fun _ => rfl⟩ ?_
      case hy14 => (intro w; go_simp; try with_reducible rfl)
      go_simp
      refine wpAnyIn_ready (rs := [13, 17]) (by kernel_rfl) (by simp) (AllReadyIn.cons rfl (fun K hK => ?_) (AllReadyIn.cons rfl (fun K hK => ?_) AllReadyIn.nil))
      all_goals (go_simp; refine hK _ _ ?_; clear hK K)
      · refine wpAnyIn_ready (rs := [17]) (by kernel_rfl) (by simp) (AllReadyIn.cons rfl (fun K hK => ?_) AllReadyIn.nil)
        go_simp
        refine hK _ _ ?_
        clear hK K
        refine wpAnyIn_ready (rs := [18]) (by kernel_rfl) (by simp) (AllReadyIn.cons rfl (fun K hK => ?_) AllReadyIn.nil)
        go_simp
        refine hR.mono ?_
        clear hR
        rintro e W2 (⟨rfl, c4, ih2⟩ | ⟨rfl, hx2⟩)
        · clear c0 c1 hy
          refine hK _ _ ?_
          clear hK K
          refine wpAnyIn_take (i := 19) (v := ?v15) rfl rfl (by kernel_rfl) (by kernel_rfl) (by kernel_rfl) (fun _ _ _ h => h) ⟨Or.inl ⟨by rfl, ?hy15⟩, fun _ => rfl⟩ ?_
          case hy15 => (intro w; go_simp; try with_reducible rfl)
          go_simp
          refine wpAnyIn_take (i := 20) (v := ?v16) rfl rfl (by kernel_rfl) (by kernel_rfl) (by kernel_rfl) (fun _ _ _ h => h) ⟨Or.inl ⟨by rfl, ?hy16⟩, fun _ => rfl⟩ ?_
          case hy16 => (intro w; go_simp; try with_reducible rfl)
          go_simp
          refine wpAnyIn_take (i := 21) (v := ?v17) rfl rfl (by kernel_rfl) (by kernel_rfl) (by kernel_rfl) (fun _ _ _ h => h) ⟨Or.inl ⟨by rfl, ?hy17⟩, fun _ => rfl⟩ ?_
          case hy17 => (intro w; go_simp; try with_reducible rfl)
          go_simp
          refine wpAnyIn_take (i := 22) (v := ?v18) rfl rfl (by kernel_rfl) (by kernel_rfl) (by kernel_rfl) (fun _ _ _ h => h) ⟨Or.inl ⟨by rfl, ?hy18⟩, fun _ => rfl⟩ ?_
          case hy18 => (intro w; go_simp; try with_reducible rfl)
          go_simp
          refine wpAnyIn_take (i := 23) (v := ?v19) rfl rfl (by kernel_rfl) (by kernel_rfl) (by kernel_rfl) (fun _ _ _ h => h) ⟨Or.inl ⟨by rfl, ?hy19⟩, fun _ => rfl⟩ ?_
          case hy19 => (intro w; go_simp; try with_reducible rfl)
          go_simp
          refine wpAnyIn_take (i := 25) (v := ?v20) rfl rfl (by kernel_rfl) (by kernel_rfl) (by kernel_rfl) (fun _ _ _ h => h) ⟨Or.inl ⟨by rfl, ?hy20⟩, fun _ => rfl⟩ ?_
          case hy20 => (intro w; go_simp; try with_reducible rfl)
          go_simp
          refine wpAnyIn_take (i := 26) (v := ?v21) rfl rfl (by kernel_rfl) (by kernel_rfl) (by kernel_rfl) (fun _ _ _ h => h) ⟨Or.inl ⟨by rfl, ?hy21⟩, fun _ => rfl⟩ ?_
          case hy21 => (intro w; go_simp; try with_reducible rfl)
          go_simp
          refine wpAnyIn_take (i := 27) (v := ?v22) rfl rfl (by kernel_rfl) (by kernel_rfl) (by kernel_rfl) (fun _ _ _ h => h) ⟨Or.inl ⟨by rfl, ?hy22⟩, fun _ => rfl⟩ ?_
          case hy22 => (intro w; go_simp; try with_reducible rfl)
          go_simp
          refine wpAnyIn_ready (rs := [24]) (by kernel_rfl) (by simp) (AllReadyIn.cons rfl (fun K hK => ?_) AllReadyIn.nil)
          go_simp
          first | refine hK _ _ ?_ | refine ⟨trivial, hK _ _ ?_⟩ | refine ⟨fun _ _ => trivial, hK _ _ ?_⟩ | fail
          clear hK K
          refine wpAnyIn_ready (rs := [28]) (by kernel_rfl) (by simp) (AllReadyIn.cons rfl (fun K hK => ?_) AllReadyIn.nil)
          go_simp
          refine ih2.mono ?_
          clear ih2
          rintro e W3 (⟨rfl, hJ3⟩ | ⟨rfl, q, ⟨t, hq⟩, hx3⟩)
          · refine hK _ _ ?_
            clear hK K
            refine wpAnyIn_take (i := 29) (v := ?v23) rfl rfl (by kernel_rfl) (by kernel_rfl) (by kernel_rfl) (fun _ _ _ h => h) ⟨Or.inl ⟨by rfl, ?hy23⟩, fun _ => rfl⟩ ?_
            case hy23 => (intro w; go_simp; try with_reducible rfl)
            go_simp
            refine wpAnyIn_take (i := 30) (v := ?v24) rfl rfl (by kernel_rfl) (by kernel_rfl) (by kernel_rfl) (fun _ _ _ h => h) ⟨Or.inl ⟨by rfl, ?hy24⟩, fun _ => rfl⟩ ?_
            case hy24 => (intro w; go_simp; try with_reducible rfl)
            go_simp
            refine wpAnyIn_done (by kernel_rfl) ?_ _
            gi_wp2
            go_ret
            exact .inl ⟨rfl, by simpa using hJ3⟩
          · refine hK _ _ ?_
            clear hK K
            refine wpAnyIn_take (i := 29) (v := ?v25) rfl rfl (by kernel_rfl) (by kernel_rfl) (by kernel_rfl) (fun _ _ _ h => h) ⟨Or.inl ⟨by rfl, ?hy25⟩, fun _ => rfl⟩ ?_
            case hy25 => (intro w; go_simp; try with_reducible rfl)
            go_simp
            refine wpAnyIn_take (i := 30) (v := ?v26) rfl rfl (by kernel_rfl) (by kernel_rfl) (by kernel_rfl) (fun _ _ _ h => h) ⟨Or.inl ⟨by rfl, ?hy26⟩, fun _ => rfl⟩ ?_
            case hy26 => (intro w; go_simp; try with_reducible rfl)
            go_simp
            refine wpAnyIn_done (by kernel_rfl) ?_ _
            gi_wp2
            go_ret
            exact .inr ⟨rfl, A ++ (k, x) :: q, ⟨t, by simp [hq]⟩, by simpa using hx3⟩
        · clear c0 c1 hy
          refine hK _ _ ?_
          clear hK K
          refine wpAnyIn_take (i := 19) (v := ?v27) rfl rfl (by kernel_rfl) (by kernel_rfl) (by kernel_rfl) (fun _ _ _ h => h) ⟨Or.inl ⟨by rfl, ?hy27⟩, fun _ => rfl⟩ ?_
          case hy27 => (intro w; go_simp; try with_reducible rfl)
          go_simp
          refine wpAnyIn_take (i := 20) (v := ?v28) rfl rfl (by kernel_rfl) (by kernel_rfl) (by kernel_rfl) (fun _ _ _ h => h) ⟨Or.inl ⟨by rfl, ?hy28⟩, fun _ => rfl⟩ ?_
          case hy28 => (intro w; go_simp; try with_reducible rfl)
          go_simp
          refine wpAnyIn_take (i := 21) (v := undef) rfl rfl (by kernel_rfl) (by kernel_rfl) (by kernel_rfl) (fun _ _ _ h => h) ⟨Or.inr ⟨by rfl, rfl⟩, fun _ => rfl⟩ ?_
          go_simp
          refine wpAnyIn_take (i := 22) (v := undef) rfl rfl (by kernel_rfl) (by kernel_rfl) (by kernel_rfl) (fun _ _ _ h => h) ⟨Or.inr ⟨by rfl, rfl⟩, fun _ => rfl⟩ ?_
          go_simp
          refine wpAnyIn_take (i := 23) (v := undef) rfl rfl (by kernel_rfl) (by kernel_rfl) (by kernel_rfl) (fun _ _ _ h => h) ⟨Or.inr ⟨by rfl, rfl⟩, fun _ => rfl⟩ ?_
          go_simp
          refine wpAnyIn_take (i := 24) (v := undef) rfl rfl (by kernel_rfl) (by kernel_rfl) (by kernel_rfl) (fun _ _ _ h => h) ⟨Or.inr ⟨by rfl, rfl⟩, fun _ => rfl⟩ ?_
          go_simp
          refine wpAnyIn_take (i := 25) (v := undef) rfl rfl (by kernel_rfl) (by kernel_rfl) (by kernel_rfl) (fun _ _ _ h => h) ⟨Or.inr ⟨by rfl, rfl⟩, fun _ => rfl⟩ ?_
          go_simp
          refine wpAnyIn_take (i := 26) (v := undef) rfl rfl (by kernel_rfl) (by kernel_rfl) (by kernel_rfl) (fun _ _ _ h => h) ⟨Or.inr ⟨by rfl, rfl⟩, fun _ => rfl⟩ ?_
          go_simp
          refine wpAnyIn_take (i := 27) (v := undef) rfl rfl (by kernel_rfl) (by kernel_rfl) (by kernel_rfl) (fun _ _ _ h => h) ⟨Or.inr ⟨by rfl, rfl⟩, fun _ => rfl⟩ ?_
          go_simp
          refine wpAnyIn_ready (rs := [28]) (by kernel_rfl) (by simp) (AllReadyIn.cons rfl (fun K hK => ?_) AllReadyIn.nil)
          go_simp
          first | refine hK _ _ ?_ | refine ⟨trivial, hK _ _ ?_⟩ | refine ⟨fun _ _ => trivial, hK _ _ ?_⟩ | fail
          clear hK K
          refine wpAnyIn_take (i := 29) (v := ?v29) rfl rfl (by kernel_rfl) (by kernel_rfl) (by kernel_rfl) (fun _ _ _ h => h) ⟨Or.inl ⟨by rfl, ?hy29⟩, fun _ => rfl⟩ ?_
          case hy29 => (intro w; go_simp; try with_reducible rfl)
          go_simp
          refine wpAnyIn_take (i := 30) (v := ?v30) rfl rfl (by kernel_rfl) (by kernel_rfl) (by kernel_rfl) (fun _ _ _ h => h) ⟨Or.inl ⟨by rfl, ?hy30⟩, fun _ => rfl⟩ ?_
          case hy30 => (intro w; go_simp; try with_reducible rfl)
          go_simp
          refine wpAnyIn_done (by kernel_rfl) ?_ _
          gi_wp2
          go_ret
          exact .inr ⟨rfl, A ++ [(k, x)], ⟨Bt, by simp⟩, by simpa using hx2⟩
      · refine wpAnyIn_ready (rs := [13]) (by kernel_rfl) (by simp) (AllReadyIn.cons rfl (fun K hK => ?_) AllReadyIn.nil)
        go_simp
        refine hK _ _ ?_
        clear hK K
        refine wpAnyIn_ready (rs := [18]) (by kernel_rfl) (by simp) (AllReadyIn.cons rfl (fun K hK => ?_) AllReadyIn.nil)
        go_simp
        refine hR.mono ?_
        clear hR
        rintro e W2 (⟨rfl, c4, ih2⟩ | ⟨rfl, hx2⟩)
        · clear c0 c1 hy
          refine hK _ _ ?_
          clear hK K
          refine wpAnyIn_take (i := 19) (v := ?v31) rfl rfl (by kernel_rfl) (by kernel_rfl) (by kernel_rfl) (fun _ _ _ h => h) ⟨Or.inl ⟨by rfl, ?hy31⟩, fun _ => rfl⟩ ?_
          case hy31 => (intro w; go_simp; try with_reducible rfl)
          go_simp
          refine wpAnyIn_take (i := 20) (v := ?v32) rfl rfl (by kernel_rfl) (by kernel_rfl) (by kernel_rfl) (fun _ _ _ h => h) ⟨Or.inl ⟨by rfl, ?hy32⟩, fun _ => rfl⟩ ?_
          case hy32 => (intro w; go_simp; try with_reducible rfl)
          go_simp
          refine wpAnyIn_take (i := 21) (v := ?v33) rfl rfl (by kernel_rfl) (by kernel_rfl) (by kernel_rfl) (fun _ _ _ h => h) ⟨Or.inl ⟨by rfl, ?hy33⟩, fun _ => rfl⟩ ?_
          case hy33 => (intro w; go_simp; try with_reducible rfl)
          go_simp
          refine wpAnyIn_take (i := 22) (v := ?v34) rfl rfl (by kernel_rfl) (by kernel_rfl) (by kernel_rfl) (fun _ _ _ h => h) ⟨Or.inl ⟨by rfl, ?hy34⟩, fun _ => rfl⟩ ?_
          case hy34 => (intro w; go_simp; try with_reducible rfl)
          go_simp
          refine wpAnyIn_take (i := 23) (v := ?v35) rfl rfl (by kernel_rfl) (by kernel_rfl) (by kernel_rfl) (fun _ _ _ h => h) ⟨Or.inl ⟨by rfl, ?hy35⟩, fun _ => rfl⟩ ?_
          case hy35 => (intro w; go_simp; try with_reducible rfl)
          go_simp
          refine wpAnyIn_take (i := 25) (v := ?v36) rfl rfl (by kernel_rfl) (by kernel_rfl) (by kernel_rfl) (fun _ _ _ h => h) ⟨Or.inl ⟨by rfl, ?hy36⟩, fun _ => rfl⟩ ?_
          case hy36 => (intro w; go_simp; try with_reducible rfl)
          go_simp
          refine wpAnyIn_take (i := 26) (v := ?v37) rfl rfl (by kernel_rfl) (by kernel_rfl) (by kernel_rfl) (fun _ _ _ h => h) ⟨Or.inl ⟨by rfl, ?hy37⟩, fun _ => rfl⟩ ?_
          case hy37 => (intro w; go_simp; try with_reducible rfl)
          go_simp
          refine wpAnyIn_take (i := 27) (v := ?v38) rfl rfl (by kernel_rfl) (by kernel_rfl) (by kernel_rfl) (fun _ _ _ h => h) ⟨Or.inl ⟨by rfl, ?hy38⟩, fun _ => rfl⟩ ?_
          case hy38 => (intro w; go_simp; try with_reducible rfl)
          go_simp
          refine wpAnyIn_ready (rs := [24]) (by kernel_rfl) (by simp) (AllReadyIn.cons rfl (fun K hK => ?_) AllReadyIn.nil)
          go_simp
          first | refine hK _ _ ?_ | refine ⟨trivial, hK _ _ ?_⟩ | refine ⟨fun _ _ => trivial, hK _ _ ?_⟩ | fail
          clear hK K
          refine wpAnyIn_ready (rs := [28]) (by kernel_rfl) (by simp) (AllReadyIn.cons rfl (fun K hK => ?_) AllReadyIn.nil)
          go_simp
          refine ih2.mono ?_
          clear ih2
          rintro e W3 (⟨rfl, hJ3⟩ | ⟨rfl, q, ⟨t, hq⟩, hx3⟩)
          · refine hK _ _ ?_
            clear hK K
            refine wpAnyIn_take (i := 29) (v := ?v39) rfl rfl (by kernel_rfl) (by kernel_rfl) (by kernel_rfl) (fun _ _ _ h => h) ⟨Or.inl ⟨by rfl, ?hy39⟩, fun _ => rfl⟩ ?_
            case hy39 => (intro w; go_simp; try with_reducible rfl)
            go_simp
            refine wpAnyIn_take (i := 30) (v := ?v40) rfl rfl (by kernel_rfl) (by kernel_rfl) (by kernel_rfl) (fun _ _ _ h => h) ⟨Or.inl ⟨by rfl, ?hy40⟩, fun _ => rfl⟩ ?_
            case hy40 => (intro w; go_simp; try with_reducible rfl)
            go_simp
            refine wpAnyIn_done (by kernel_rfl) ?_ _
            gi_wp2
            go_ret
            exact .inl ⟨rfl, by simpa using hJ3⟩
          · refine hK _ _ ?_
            clear hK K
            refine wpAnyIn_take (i := 29) (v := ?v41) rfl rfl (by kernel_rfl) (by kernel_rfl) (by kernel_rfl) (fun _ _ _ h => h) ⟨Or.inl ⟨by rfl, ?hy41⟩, fun _ => rfl⟩ ?_
            case hy41 => (intro w; go_simp; try with_reducible rfl)
            go_simp
            refine wpAnyIn_take (i := 30) (v := ?v42) rfl rfl (by kernel_rfl) (by kernel_rfl) (by kernel_rfl) (fun _ _ _ h => h) ⟨Or.inl ⟨by rfl, ?hy42⟩, fun _ => rfl⟩ ?_
            case hy42 => (intro w; go_simp; try with_reducible rfl)
            go_simp
            refine wpAnyIn_done (by kernel_rfl) ?_ _
            gi_wp2
            go_ret
            exact .inr ⟨rfl, A ++ (k, x) :: q, ⟨t, by simp [hq]⟩, by simpa using hx3⟩
        · clear c0 c1 hy
          refine hK _ _ ?_
          clear hK K
          refine wpAnyIn_take (i := 19) (v := ?v43) rfl rfl (by kernel_rfl) (by kernel_rfl) (by kernel_rfl) (fun _ _ _ h => h) ⟨Or.inl ⟨by rfl, ?hy43⟩, fun _ => rfl⟩ ?_
          case hy43 => (intro w; go_simp; try with_reducible rfl)
          go_simp
          refine wpAnyIn_take (i := 20) (v := ?v44) rfl rfl (by kernel_rfl) (by kernel_rfl) (by kernel_rfl) (fun _ _ _ h => h) ⟨Or.inl ⟨by rfl, ?hy44⟩, fun _ => rfl⟩ ?_
          case hy44 => (intro w; go_simp; try with_reducible rfl)
          go_simp
          refine wpAnyIn_take (i := 21) (v := undef) rfl rfl (by kernel_rfl) (by kernel_rfl) (by kernel_rfl) (fun _ _ _ h => h) ⟨Or.inr ⟨by rfl, rfl⟩, fun _ => rfl⟩ ?_
          go_simp
          refine wpAnyIn_take (i := 22) (v := undef) rfl rfl (by kernel_rfl) (by kernel_rfl) (by kernel_rfl) (fun _ _ _ h => h) ⟨Or.inr ⟨by rfl, rfl⟩, fun _ => rfl⟩ ?_
          go_simp
          refine wpAnyIn_take (i := 23) (v := undef) rfl rfl (by kernel_rfl) (by kernel_rfl) (by kernel_rfl) (fun _ _ _ h => h) ⟨Or.inr ⟨by rfl, rfl⟩, fun _ => rfl⟩ ?_
          go_simp
          refine wpAnyIn_take (i := 24) (v := undef) rfl rfl (by kernel_rfl) (by kernel_rfl) (by kernel_rfl) (fun _ _ _ h => h) ⟨Or.inr ⟨by rfl, rfl⟩, fun _ => rfl⟩ ?_
          go_simp
          refine wpAnyIn_take (i := 25) (v := undef) rfl rfl (by kernel_rfl) (by kernel_rfl) (by kernel_rfl) (fun _ _ _ h => h) ⟨Or.inr ⟨by rfl, rfl⟩, fun _ => rfl⟩ ?_
          go_simp
          refine wpAnyIn_take (i := 26) (v := undef) rfl rfl (by kernel_rfl) (by kernel_rfl) (by kernel_rfl) (fun _ _ _ h => h) ⟨Or.inr ⟨by rfl, rfl⟩, fun _ => rfl⟩ ?_
          go_simp
          refine wpAnyIn_take (i := 27) (v := undef) rfl rfl (by kernel_rfl) (by kernel_rfl) (by kernel_rfl) (fun _ _ _ h => h) ⟨Or.inr ⟨by rfl, rfl⟩, fun _ => rfl⟩ ?_
          go_simp
          refine wpAnyIn_ready (rs := [28]) (by kernel_rfl) (by simp) (AllReadyIn.cons rfl (fun K hK => ?_) AllReadyIn.nil)
          go_simp
          first | refine hK _ _ ?_ | refine ⟨trivial, hK _ _ ?_⟩ | refine ⟨fun _ _ => trivial, hK _ _ ?_⟩ | fail
          clear hK K
          refine wpAnyIn_take (i := 29) (v := ?v45) rfl rfl (by kernel_rfl) (by kernel_rfl) (by kernel_rfl) (fun _ _ _ h => h) ⟨Or.inl ⟨by rfl, ?hy45⟩, fun _ => rfl⟩ ?_
          case hy45 => (intro w; go_simp; try with_reducible rfl)
          go_simp
          refine wpAnyIn_take (i := 30) (v := ?v46) rfl rfl (by kernel_rfl) (by kernel_rfl) (by kernel_rfl) (fun _ _ _ h => h) ⟨Or.inl ⟨by rfl, ?hy46⟩, fun _ => rfl⟩ ?_
          case hy46 => (intro w; go_simp; try with_reducible rfl)
          go_simp
          refine wpAnyIn_done (by kernel_rfl) ?_ _
          gi_wp2
          go_ret
          exact .inr ⟨rfl, A ++ [(k, x)], ⟨Bt, by simp⟩, by simpa using hx2⟩
    · clear c3
      refine hK _ _ ?_
      clear hK K
      refine wpAnyIn_take (i := 8) (v := ?v47) rfl rfl (by kernel_rfl) (by kernel_rfl) (by kernel_rfl) (fun _ _ _ h => h) ⟨Or.inl ⟨by rfl, ?hy47⟩, fun _ => rfl⟩ ?_
      case hy47 => (intro w; go_simp; try with_reducible rfl)
      go_simp
      refine wpAnyIn_take (i := 9) (v := undef) rfl rfl (by kernel_rfl) (by kernel_rfl) (by kernel_rfl) (fun _ _ _ h => h) ⟨Or.inr ⟨by rfl, rfl⟩, fun _ => rfl⟩ ?_
      go_simp
      refine wpAnyIn_take (i := 10) (v := undef) rfl rfl (by kernel_rfl) (by kernel_rfl) (by kernel_rfl) (fun _ _ _ h => h) ⟨Or.inr ⟨by rfl, rfl⟩, fun _ => rfl⟩ ?_
      go_simp
      refine wpAnyIn_take (i := 11) (v := undef) rfl rfl (by kernel_rfl) (by kernel_rfl) (by kernel_rfl) (fun _ _ _ h => h) ⟨Or.inr ⟨by rfl, rfl⟩, fun _ => rfl⟩ ?_
      go_simp
      refine wpAnyIn_take (i := 12) (v := undef) rfl rfl (by kernel_rfl) (by kernel_rfl) (by kernel_rfl) (fun _ _ _ h => h) ⟨Or.inr ⟨by rfl, rfl⟩, fun _ => rfl⟩ ?_
      go_simp
      refine wpAnyIn_take (i := 13) (v := undef) rfl rfl (by kernel_rfl) (by kernel_rfl) (by kernel_rfl) (fun _ _ _ h => h) ⟨Or.inr ⟨by rfl, rfl⟩, fun _ => rfl⟩ ?_
      go_simp
      refine wpAnyIn_take (i := 14) (v := undef) rfl rfl (by kernel_rfl) (by kernel_rfl) (by kernel_rfl) (fun _ _ _ h => h) ⟨Or.inr ⟨by rfl, rfl⟩, fun _ => rfl⟩ ?_
      go_simp
      refine wpAnyIn_take (i := 15) (v := undef) rfl rfl (by kernel_rfl) (by kernel_rfl) (by kernel_rfl) (fun _ _ _ h => h) ⟨Or.inr ⟨by rfl, rfl⟩, fun _ => rfl⟩ ?_
      go_simp
      refine wpAnyIn_take (i := 16) (v := undef) rfl rfl (by kernel_rfl) (by kernel_rfl) (by kernel_rfl) (fun _ _ _ h => h) ⟨Or.inr ⟨by rfl, rfl⟩, fun _ => rfl⟩ ?_
      go_simp
      refine wpAnyIn_take (i := 17) (v := undef) rfl rfl (by kernel_rfl) (by kernel_rfl) (by kernel_rfl) (fun _ _ _ h => h) ⟨Or.inr ⟨by rfl, rfl⟩, fun _ => rfl⟩ ?_
      go_simp
      refine wpAnyIn_ready (rs := [18]) (by kernel_rfl) (by simp) (AllReadyIn.cons rfl (fun K hK => ?_) AllReadyIn.nil)
      go_simp
      first | refine hK _ _ ?_ | refine ⟨trivial, hK _ _ ?_⟩ | refine ⟨fun _ _ => trivial, hK _ _ ?_⟩ | fail
      clear hK K
      refine wpAnyIn_take (i := 19) (v := ?v48) rfl rfl (by kernel_rfl) (by kernel_rfl) (by kernel_rfl) (fun _ _ _ h => h) ⟨Or.inl ⟨by rfl, ?hy48⟩, fun _ => rfl⟩ ?_
      case hy48 => (intro w; go_simp; try with_reducible rfl)
      go_simp
      refine wpAnyIn_take (i := 20) (v := ?v49) rfl rfl (by kernel_rfl) (by kernel_rfl) (by kernel_rfl) (fun _ _ _ h => h) ⟨Or.inl ⟨by rfl, ?hy49⟩, fun _ => rfl⟩ ?_
      case hy49 => (intro w; go_simp; try with_reducible rfl)
      go_simp
      refine wpAnyIn_take (i := 21) (v := undef) rfl rfl (by kernel_rfl) (by kernel_rfl) (by kernel_rfl) (fun _ _ _ h => h) ⟨Or.inr ⟨by rfl, rfl⟩, fun _ => rfl⟩ ?_
      go_simp
      refine wpAnyIn_take (i := 22) (v := undef) rfl rfl (by kernel_rfl) (by kernel_rfl) (by kernel_rfl) (fun _ _ _ h => h) ⟨Or.inr ⟨by rfl, rfl⟩, fun _ => rfl⟩ ?_
      go_simp
      refine wpAnyIn_take (i := 23) (v := undef) rfl rfl (by kernel_rfl) (by kernel_rfl) (by kernel_rfl) (fun _ _ _ h => h) ⟨Or.inr ⟨by rfl, rfl⟩, fun _ => rfl⟩ ?_
      go_simp
      refine wpAnyIn_take (i := 24) (v := undef) rfl rfl (by kernel_rfl) (by kernel_rfl) (by kernel_rfl) (fun _ _ _ h => h) ⟨Or.inr ⟨by rfl, rfl⟩, fun _ => rfl⟩ ?_
      go_simp
      refine wpAnyIn_take (i := 25) (v := undef) rfl rfl (by kernel_rfl) (by kernel_rfl) (by kernel_rfl) (fun _ _ _ h => h) ⟨Or.inr ⟨by rfl, rfl⟩, fun _ => rfl⟩ ?_
      go_simp
      refine wpAnyIn_take (i := 26) (v := undef) rfl rfl (by kernel_rfl) (by kernel_rfl) (by kernel_rfl) (fun _ _ _ h => h) ⟨Or.inr ⟨by rfl, rfl⟩, fun _ => rfl⟩ ?_
      go_simp
      refine wpAnyIn_take (i := 27) (v := undef) rfl rfl (by kernel_rfl) (by kernel_rfl) (by kernel_rfl) (fun _ _ _ h => h) ⟨Or.inr ⟨by rfl, rfl⟩, fun _ => rfl⟩ ?_
      go_simp
      refine wpAnyIn_ready (rs := [28]) (by kernel_rfl) (by simp) (AllReadyIn.cons rfl (fun K hK => ?_) AllReadyIn.nil)
      go_simp
      first | refine hK _ _ ?_ | refine ⟨trivial, hK _ _ ?_⟩ | refine ⟨fun _ _ => trivial, hK _ _ ?_⟩ | fail
      clear hK K
      refine wpAnyIn_take (i := 29) (v := ?v50) rfl rfl (by kernel_rfl) (by kernel_rfl) (by kernel_rfl) (fun _ _ _ h => h) ⟨Or.inl ⟨by rfl, ?hy50⟩, fun _ => rfl⟩ ?_
      case hy50 => (intro w; go_simp; try with_reducible rfl)
      go_simp
      refine wpAnyIn_take (i := 30) (v := ?v51) rfl rfl (by kernel_rfl) (by kernel_rfl) (by kernel_rfl) (fun _ _ _ h => h) ⟨Or.inl ⟨by rfl, ?hy51⟩, fun _ => rfl⟩ ?_
      case hy51 => (intro w; go_simp; try with_reducible rfl)
      go_simp
      refine wpAnyIn_done (by kernel_rfl) ?_ _
      gi_wp2
      go_ret
      obtain ⟨t, hq⟩ := hq
      exact .inr ⟨rfl, q, ⟨t ++ (k, x) :: Bt, by rw [hq]; simp⟩, hx1⟩
end Go.Proofs.Ytcgjiddiegepkaa

/- Maps in order, omap[string,[]handbill/vers.Version[string]]: Range, what it ranges over. -/
namespace Go.Proofs.Ytcgjiddiegepkaa
open Go.RowKit
attribute [local go_sem] Oper.semAt_some wide_fn wide_depth

/-- The world behind Range. -/
def spanWVS (w : World) (b : Nat) (lo hi : Value) : World := ((w.alloc (.cells #[.pointer (some ⟨b, 0, none⟩)] 85)).alloc (.cells #[lo] 9)).alloc (.cells #[hi] 9)
theorem mspanVS_any (b : Nat) (lo hi : Value) (hlo : KSVS lo) (hhi : KSVS hi) (w : World) : Calls Try.prog 77 #[.pointer (some ⟨b, 0, none⟩), lo, hi] w fun e w' =>
    e = .returned (.func (.func 86) #[] #[.pointer (some ⟨w.heap.size, 0, none⟩), .pointer (some ⟨w.heap.size + 1, 0, none⟩), .pointer (some ⟨w.heap.size + 2, 0, none⟩)]) ∧ w' = spanWVS w b lo hi := by
  unfold spanWVS
  obtain ⟨x, rfl⟩ := hlo
  obtain ⟨y, rfl⟩ := hhi
  go_enter Try.func77, Try.ntmps77
  go_wp2
  go_ret
  exact ⟨rfl, rfl⟩
set_option maxRecDepth 100000 in
set_option maxHeartbeats 2000000 in
theorem spansVS_any {Wr : TypeId → Prop} {b B0 B1 B2 : Nat} {t : Tr} {lo hi : Value} {w W : World} (hm : MP w b t) (hw : WS KSVS VSVS t) (hlo : KSVS lo) (hhi : KSVS hi) (hc : w.cell? ⟨B0, 0, none⟩ = some (.pointer (some ⟨b, 0, none⟩)))
    (hc1 : w.cell? ⟨B1, 0, none⟩ = some lo) (hc2 : w.cell? ⟨B2, 0, none⟩ = some hi) (hW : Below w.heap.size w W) :
    Seqs Try.prog 86 #[.pointer (some ⟨B0, 0, none⟩), .pointer (some ⟨B1, 0, none⟩), .pointer (some ⟨B2, 0, none⟩)] (fun p => #[p.1, p.2]) (NK w) Wr (btwVS lo hi t) W := by
  intro l J Jx hJ hJx hOk hY h0
  have q0 : W.cell? ⟨B0, 0, none⟩ = some (.pointer (some ⟨b, 0, none⟩)) := (hW.cell (p := ⟨B0, 0, none⟩) (World.block_lt_of_cell? w _ hc)).trans hc
  have q1 : W.cell? ⟨B1, 0, none⟩ = some lo := (hW.cell (p := ⟨B1, 0, none⟩) (World.block_lt_of_cell? w _ hc1)).trans hc1
  have q2 : W.cell? ⟨B2, 0, none⟩ = some hi := (hW.cell (p := ⟨B2, 0, none⟩) (World.block_lt_of_cell? w _ hc2)).trans hc2
  obtain ⟨T, o, hb, ht⟩ := hm
  have hb' : W.heap[b]? = some (.cells #[.pointer o, .int .i64 ((prs t).length : Int)] T (0, 0)) := by rw [hW.block b (Array.getElem?_eq_some_iff.1 hb).1]; exact hb
  have c0 : W.cell? ⟨b, 0, none⟩ = some (.pointer o) := by simp [World.cell?, hb']
  have hr : CallsIn Fence.wide 8 Try.prog 87 #[.pointer o, lo, hi, .func (.yield l) #[] #[]] W.drew fun e W1 => ∃ c, e = .returned (.bool c) ∧ (J (btwVS lo hi t) W1 ∨ ∃ pre, (∃ q, btwVS lo hi t = pre ++ q) ∧ Jx pre W1) := by
    refine (betweenVS_any (xs := btwVS lo hi t) hlo hhi hJ hOk hY t o [] W.drew 8 ht hw (own_drew hJ h0) ⟨[], by simp⟩).mono ?_
    rintro e W1 (⟨rfl, h⟩ | ⟨rfl, q, hq, h⟩)
    · exact ⟨true, rfl, .inl (by simpa using h)⟩
    · exact ⟨false, rfl, .inr ⟨q, hq, by simpa using h⟩⟩
  have hm : Try.prog.follows .mixedOrders = true := by kernel_rfl
  clear hb hb' ht hc hc1 hc2
  refine (callsIn_wide (n := 9)).1 ?_
  refine callsIn_of_wp Try.func86 rfl trivial ?_ rfl
  simp only [Try.ntmps86, List.size_toArray, List.length_cons, List.length_nil, Nat.reduceAdd, Nat.reduceSub, Array.replicate_succ, Array.replicate_zero, List.push_toArray, List.append_toArray, List.nil_append, List.cons_append]
  gi_wp2
  gi_region_with_o (gi_at_call 87; refine hr.mono ?_; rintro e W1 ⟨c, rfl, hP⟩)
  all_goals
    gi_wp2
    go_end0
    exact ⟨⟨_, rfl⟩, hP⟩
end Go.Proofs.Ytcgjiddiegepkaa

/- Scan below a hi: what it ranges over. -/
namespace Go.Proofs.Ytcgjiddiegepkaa
open Go.RowKit
attribute [local go_sem] Oper.semAt_some wide_fn wide_depth
theorem fromHi_any {W : World} {B s mb : Nat} {t : Tr} {S : ChsVS} {cnt low : Int} {k : Nat} (h : StVS W B s mb t S cnt low k) (lo : List UInt8) (hic : UInt8) (his : List UInt8) :
    Calls Try.prog 57 #[.pointer (some ⟨s, 0, none⟩), str lo, str (hic :: his)] W fun e w' => e = .returned (.func (.func 86) #[] #[.pointer (some ⟨W.heap.size, 0, none⟩), .pointer (some ⟨W.heap.size + 1, 0, none⟩), .pointer (some ⟨W.heap.size + 2, 0, none⟩)]) ∧ w' = spanWVS W mb (str lo) (str (hic :: his)) := by
  obtain ⟨c0, _, _, _⟩ := h.cells
  have CA := Lib.hid (mspanVS_any mb (str lo) (str (hic :: his)) ⟨lo, rfl⟩ ⟨hic :: his, rfl⟩ W)
  clear h
  go_enter Try.func57, Try.ntmps57
  go_wp2_with fail
  refine CA.out.mono ?_
  rintro e w' ⟨rfl, h1⟩
  have H1 := Lib.hid h1
  clear h1
  go_wp2_with fail
  go_ret
  exact ⟨rfl, H1.out⟩
/-- The keys from lo on and below hi. -/
def cutS (lo hi : List UInt8) (S : ChsVS) : ChsVS := S.filter (fun x => !Op.bytesLess x.1 lo && Op.bytesLess x.1 hi)
theorem btw_cut {W : World} {B s mb : Nat} {t : Tr} {S : ChsVS} {cnt low : Int} {k : Nat} (h : StVS W B s mb t S cnt low k) (lo hi : List UInt8) : btwVS (str lo) (str hi) t = (cutS lo hi S).map (pairB Prod.fst) := by
  rw [btwVS_filter ordVS ⟨lo, rfl⟩ ⟨hi, rfl⟩ h.ws (by rw [h.pr]; exact (ris_map _ _).2 h.rs), h.pr, List.filter_map]
  rfl
theorem below_spanVS (w : World) (b : Nat) (lo hi : Value) : Below w.heap.size w (spanWVS w b lo hi) := by
  unfold spanWVS
  exact (((Below.refl _ w).alloc (Nat.le_refl _) _).alloc (by simp) _).alloc (by simp; omega) _
theorem spanVS_cells (w : World) (b : Nat) (lo hi : List UInt8) (w2 : World) (h : w2 = spanWVS w b (str lo) (str hi)) :
    w2.cell? ⟨w.heap.size, 0, none⟩ = some (.pointer (some ⟨b, 0, none⟩)) ∧ w2.cell? ⟨w.heap.size + 1, 0, none⟩ = some (str lo) ∧ w2.cell? ⟨w.heap.size + 2, 0, none⟩ = some (str hi) := by
  subst h
  unfold spanWVS
  obtain ⟨A, hA⟩ : ∃ A, A = w.alloc (.cells #[.pointer (some ⟨b, 0, none⟩)] 85) := ⟨_, rfl⟩
  rw [← hA]
  obtain ⟨C, hC⟩ : ∃ C, C = A.alloc (.cells #[str lo] 9) := ⟨_, rfl⟩
  rw [← hC]
  have a0 : A.heap.size = w.heap.size + 1 := by rw [hA]; simp
  have a1 : C.heap.size = w.heap.size + 2 := by rw [hC]; simp [a0]
  have e0 : A.cell? ⟨w.heap.size, 0, none⟩ = some (.pointer (some ⟨b, 0, none⟩)) := by rw [hA]; simp
  have e1 : C.cell? ⟨A.heap.size, 0, none⟩ = some (str lo) := by rw [hC]; simp
  have e2 : (C.alloc (.cells #[str hi] 9)).cell? ⟨C.heap.size, 0, none⟩ = some (str hi) := by simp
  have b1 : Below A.heap.size A C := by rw [hC]; exact below_alloc A _
  have b2 : Below C.heap.size C (C.alloc (.cells #[str hi] 9)) := below_alloc C _
  rw [a0] at e1
  rw [a1] at e2
  refine ⟨?_, ?_, e2⟩
  · rw [b2.cell (p := ⟨w.heap.size, 0, none⟩) (by show w.heap.size < _; omega), b1.cell (p := ⟨w.heap.size, 0, none⟩) (by show w.heap.size < _; omega)]; exact e0
  · rw [b2.cell (p := ⟨w.heap.size + 1, 0, none⟩) (by show w.heap.size + 1 < _; omega)]; exact e1
set_option maxRecDepth 100000 in
set_option maxHeartbeats 2000000 in
theorem spans2_any {Wr : TypeId → Prop} {b B0 B1 B2 : Nat} {t : Tr} {lo hi : Value} {w W : World} (hm : MP w b t) (hw : WS KSVS VSVS t) (hlo : KSVS lo) (hhi : KSVS hi) (q0 : W.cell? ⟨B0, 0, none⟩ = some (.pointer (some ⟨b, 0, none⟩)))
    (q1 : W.cell? ⟨B1, 0, none⟩ = some lo) (q2 : W.cell? ⟨B2, 0, none⟩ = some hi) (hW : Below w.heap.size w W) :
    Seqs Try.prog 86 #[.pointer (some ⟨B0, 0, none⟩), .pointer (some ⟨B1, 0, none⟩), .pointer (some ⟨B2, 0, none⟩)] (fun p => #[p.1, p.2]) (NK w) Wr (btwVS lo hi t) W := by
  intro l J Jx hJ hJx hOk hY h0
  obtain ⟨T, o, hb, ht⟩ := hm
  have hb' : W.heap[b]? = some (.cells #[.pointer o, .int .i64 ((prs t).length : Int)] T (0, 0)) := by rw [hW.block b (Array.getElem?_eq_some_iff.1 hb).1]; exact hb
  have c0 : W.cell? ⟨b, 0, none⟩ = some (.pointer o) := by simp [World.cell?, hb']
  have hr : CallsIn Fence.wide 8 Try.prog 87 #[.pointer o, lo, hi, .func (.yield l) #[] #[]] W.drew fun e W1 => ∃ c, e = .returned (.bool c) ∧ (J (btwVS lo hi t) W1 ∨ ∃ pre, (∃ q, btwVS lo hi t = pre ++ q) ∧ Jx pre W1) := by
    refine (betweenVS_any (xs := btwVS lo hi t) hlo hhi hJ hOk hY t o [] W.drew 8 ht hw (own_drew hJ h0) ⟨[], by simp⟩).mono ?_
    rintro e W1 (⟨rfl, h⟩ | ⟨rfl, q, hq, h⟩)
    · exact ⟨true, rfl, .inl (by simpa using h)⟩
    · exact ⟨false, rfl, .inr ⟨q, hq, by simpa using h⟩⟩
  have hm : Try.prog.follows .mixedOrders = true := by kernel_rfl
  clear hb hb' ht
  refine (callsIn_wide (n := 9)).1 ?_
  refine callsIn_of_wp Try.func86 rfl trivial ?_ rfl
  simp only [Try.ntmps86, List.size_toArray, List.length_cons, List.length_nil, Nat.reduceAdd, Nat.reduceSub, Array.replicate_succ, Array.replicate_zero, List.push_toArray, List.append_toArray, List.nil_append, List.cons_append]
  gi_wp2
  gi_region_with_o (gi_at_call 87; refine hr.mono ?_; rintro e W1 ⟨c, rfl, hP⟩)
  all_goals
    gi_wp2
    go_end0
    exact ⟨⟨_, rfl⟩, hP⟩
set_option maxRecDepth 100000 in
set_option maxHeartbeats 4000000 in
theorem scanHi_any {Wr : TypeId → Prop} {w W : World} {B s mb b0 b1 b2 b3 : Nat} {t : Tr} {S : ChsVS} {cnt low : Int} {k : Nat} (h : StVS w B s mb t S cnt low k) (hk : k ≤ 100000) {lo : List UInt8} {hic : UInt8} {his : List UInt8} {at1 : Int} (hb : ScB w b0 b1 b2 b3 s lo (hic :: his) at1) (hW : Below w.heap.size w W) (hw : ¬ Wr 94) :
    Seqs Try.prog 56 #[.pointer (some ⟨b0, 0, none⟩), .pointer (some ⟨b1, 0, none⟩), .pointer (some ⟨b2, 0, none⟩), .pointer (some ⟨b3, 0, none⟩)] (fun p : List UInt8 × List UInt8 => #[str p.1, str p.2]) (fun W2 => Below w.heap.size w W2) Wr (scanL lo at1 (cutS lo (hic :: his) S)) W := by
  intro l J Jx hJ hJx hOk hY h0
  obtain ⟨S2, hS2⟩ : ∃ S2, S2 = cutS lo (hic :: his) S := ⟨_, rfl⟩
  rw [← hS2] at hY ⊢
  have hdd : ∀ k : Nat, (Fence.wide.depth.isSome = true → 1 ≤ k) := fun k h => by cases h
  obtain ⟨d0, d1, d2, _⟩ := hb.up (hW.trans ((below_alloc W (.cells #[.func (.yield l) #[] #[]] 94)).mono hW.size))
  have hs1 := h.below (hW.trans ((below_alloc W (.cells #[.func (.yield l) #[] #[]] 94)).mono hW.size))
  have CF := Lib.hid (callsIn_wide (n := 8) |>.2 (fromHi_any hs1 lo hic his))
  have bY := Boxed.new W 94 (.func (.yield l) #[] #[])
  refine (callsIn_wide (n := 9)).1 ?_
  refine callsIn_of_wp_marks Try.func56 rfl trivial ?_ rfl
  simp only [Try.ntmps56, List.size_toArray, List.length_cons, List.length_nil, Nat.reduceAdd, Nat.reduceSub, Array.replicate_succ, Array.replicate_zero, List.push_toArray, List.append_toArray, List.nil_append, List.cons_append]
  gi_wp2_with fail
  refine CF.out.mono ?_
  rintro e w2 ⟨rfl, hw2⟩
  obtain ⟨W1, hW1⟩ : ∃ W1, W1 = W.alloc (.cells #[.func (.yield l) #[] #[]] 94) := ⟨_, rfl⟩
  rw [← hW1] at hw2 bY hs1 ⊢
  have l1 : Below W.heap.size W W1 := by rw [hW1]; exact below_alloc W _
  have l2 : Below W1.heap.size W1 w2 := by rw [hw2]; exact below_spanVS W1 _ _ _
  have hz1 : W1.heap.size = W.heap.size + 1 := by rw [hW1]; simp
  have hz2 : w2.heap.size = W.heap.size + 4 := by rw [hw2]; simp [spanWVS, hz1]
  obtain ⟨c4, c5, c6⟩ := spanVS_cells W1 mb lo (hic :: his) w2 hw2
  have hs2 := hs1.below l2
  have lw2 : Below w.heap.size w w2 := (hW.trans (l1.mono hW.size)).trans (l2.mono (by have := hW.size; omega))
  obtain ⟨xs, hxs⟩ : ∃ xs, xs = btwVS (str lo) (str (hic :: his)) t := ⟨_, rfl⟩
  have hxp : xs = S2.map (pairB Prod.fst) := by rw [hxs, hS2]; exact btw_cut h lo (hic :: his)
  have hmf : ∀ x ∈ S2, x ∈ S := fun x hx => by rw [hS2] at hx; exact (List.mem_filter.1 hx).1
  have hseq : ∀ W', Below w2.heap.size w2 W' → Seqs Try.prog 86 #[.pointer (some ⟨W1.heap.size, 0, none⟩), .pointer (some ⟨W1.heap.size + 1, 0, none⟩), .pointer (some ⟨W1.heap.size + 2, 0, none⟩)] (fun p : Value × Value => #[p.1, p.2]) (NK w) Wr xs W' := fun W' hW' => by
    rw [hxs]
    exact spans2_any h.mp h.ws ⟨lo, rfl⟩ ⟨hic :: his, rfl⟩ ((hW'.cell (p := ⟨W1.heap.size, 0, none⟩) (World.block_lt_of_cell? w2 _ c4)).trans c4) ((hW'.cell (p := ⟨W1.heap.size + 1, 0, none⟩) (World.block_lt_of_cell? w2 _ c5)).trans c5) ((hW'.cell (p := ⟨W1.heap.size + 2, 0, none⟩) (World.block_lt_of_cell? w2 _ c6)).trans c6) (lw2.trans (hW'.mono lw2.size))
  have hj0 : J (scanL lo at1 []) w2 := own_below hJ (own_below hJ h0 l1) l2
  have hy0 : Boxed w2 W.heap.size 94 (.func (.yield l) #[] #[]) := (l2.block _ (by omega)).trans bY
  have HPR := Lib.hid hxp
  have HRW : Hid (∀ W2, Below w.heap.size w W2 → ∀ x ∈ S2, RdVS W2 x.2.1 x.2.2 ∧ RisT (timesVS x.2.2) ∧ x.2.2.length ≤ 1000000) := Lib.hid (fun W2 hb2 x hx => ⟨(rd_rowVS (h.ch x (hmf x hx))).up hb2, h.tr x (hmf x hx), by have := h.hk.2.2 x (hmf x hx); omega⟩)
  have HSB := Lib.hid hb
  have HZ2 := Lib.hid hz2
  clear hxs hxp hmf c5 c6 hS2
  clear l1 l2 hz1 c4 hs2 hs1 hW1 hw2 d0 d1 d2 bY h0 CF h hb
  gi_wp2_with fail
  refine range_law (gf := 86) (lb := #[.pointer (some ⟨W1.heap.size, 0, none⟩), .pointer (some ⟨W1.heap.size + 1, 0, none⟩), .pointer (some ⟨W1.heap.size + 2, 0, none⟩)]) rfl (enters_of Try.func86 (by kernel_rfl) rfl) (Ok := NK w) (Wr := Wr) (xs := xs) hseq (by intro x; rfl)
    (fun pre W2 => (∃ A Q, S2 = A ++ Q ∧ pre = A.map (pairB Prod.fst) ∧ J (scanL lo at1 A) W2) ∧ Boxed W2 W.heap.size 94 (.func (.yield l) #[] #[]))
    (fun c _ W2 => c = .ret ∧ ∃ out, (∃ t, scanL lo at1 S2 = out ++ t) ∧ Jx out W2)
    (OwnFrom.and ?ownj (boxed_ownT (Tw := fun _ => False) _ _ (fun _ : List (Value × Value) => .func (.yield l) #[] #[]) (by simp) |>.from _ |>.plain)) (fun c => ?ownx) ⟨⟨[], S2, rfl, rfl, hj0⟩, hy0⟩ ?okk ?a1 ?assign ?body ?done ?stop
  case ownj =>
    rintro s' X Y row ⟨A, Q, e1, e2, hj⟩ hg hr
    exact ⟨A, Q, e1, e2, hJ _ _ _ _ hj hg (fun r e => ⟨by have := (hr r e).1; have := HZ2.out; omega, (hr r e).2⟩)⟩
  case ownx =>
    rintro s' X Y row ⟨hc, out, ht, hj⟩ hg hr
    exact ⟨hc, out, ht, hJx _ _ _ _ hj hg (fun r e => ⟨by have := (hr r e).1; have := HZ2.out; omega, (hr r e).2⟩)⟩
  case okk =>
    rintro pre W2 ⟨⟨A, Q, _, _, hj⟩, _⟩
    exact NK.of_below (hOk _ _ hj)
  case assign =>
    intro l x W' K hK
    gi_wp2
    exact hK
  case body =>
    rintro l2 pre x W2 hl2 ⟨⟨A, Q, e1, e2, hj⟩, hbx⟩ ⟨tl, ht⟩
    obtain ⟨key, v, L, Q', rfl, rfl⟩ : ∃ key v L Q', Q = (key, (v, L)) :: Q' ∧ x = pairB Prod.fst ((key, (v, L)) : List UInt8 × ChVS) := by
      have h6 := HPR.out.symm.trans ht
      rw [e1, List.map_append, e2] at h6
      have h7 := List.append_cancel_left h6
      cases Q with
      | nil => cases h7
      | cons q Q' =>
        obtain ⟨key, v, L⟩ := q
        simp only [List.map_cons, List.cons.injEq] at h7
        exact ⟨key, v, L, Q', rfl, h7.1.symm⟩
    have hmem : (key, (v, L)) ∈ S2 := by rw [e1]; simp
    have hB2 := hOk _ _ hj
    obtain ⟨hrd, htr, hll⟩ := HRW.out W2 hB2 _ hmem
    dsimp only at hrd htr hll
    obtain ⟨_, c1, _, c3⟩ := HSB.out.up hB2
    have cY : W2.cell? ⟨W.heap.size, 0, none⟩ = some (.func (.yield l) #[] #[]) := hbx.cell
    have hC := seenVS_any v L at1 W2 hrd htr hll
    have hsn := scanL_snoc lo at1 A (key, (v, L))
    have hst : scanL lo at1 S2 = scanL lo at1 A ++ ((scan1 lo at1 (key, (v, L))).toList ++ scanL lo at1 Q') := by
      rw [e1, scanL_app, show (key, (v, L)) :: Q' = [(key, (v, L))] ++ Q' from rfl, scanL_app]
      congr 2
    have HA : Hid (S2 = A ++ [(key, (v, L))] ++ Q' ∧ pre ++ [pairB Prod.fst ((key, (v, L)) : List UInt8 × ChVS)] = (A ++ [(key, (v, L))]).map (pairB Prod.fst)) := Lib.hid ⟨by rw [e1]; simp, by rw [e2]; simp⟩
    unfold scan1 at hsn hst
    dsimp only at hsn hst
    obtain ⟨rs, hrs⟩ : ∃ rs, rs = seenVS L at1 := ⟨_, rfl⟩
    rw [← hrs] at hC hsn hst
    have HSN := Lib.hid hsn
    have HST := Lib.hid hst
    have HJ := Lib.hid hj
    have HBX := Lib.hid hbx
    have HLE : Hid (W.heap.size ≤ w2.heap.size) := Lib.hid (by have := HZ2.out; omega)
    clear hmem hrd htr hll hsn hst e1 e2 ht hseq hj0 hy0 hj hbx hrs
    dsimp only [pairB]
    by_cases hlo : Op.bytesLess key lo = true
    · gi_wp2
      refine ⟨KT.refl _ _ _, ⟨A ++ [(key, (v, L))], Q', HA.out.1, HA.out.2, ?_⟩, HBX.out⟩
      have := HSN.out
      rw [if_pos hlo] at this
      rw [this]
      simpa using HJ.out
    · have hlo' : Op.bytesLess key lo = false := by simpa using hlo
      have HC1 : Hid (∀ m, CallsIn (Fence.wide.inRound l2) m Try.prog 58 #[v, .int .i64 at1] W2 fun e w' => e = seenEVS rs ∧ Below W2.heap.size W2 w') := Lib.hid (fun m => (callsIn_wide.2 hC).inRound l2)
      have HSN2 := Lib.hid (by have := HSN.out; rw [if_neg hlo] at this; exact this)
      have HST2 := Lib.hid (by have := HST.out; rw [if_neg hlo] at this; exact this)
      clear hC HSN HST hlo
      cases rs with
      | none =>
        unfold seenEVS at HC1
        gi_wp2_with fail
        refine (HC1.out _).mono ?_
        rintro e w3 ⟨rfl, hb3⟩
        have H3 := Lib.hid hb3
        clear hb3
        gi_wp2
        refine ⟨KT.of_below H3.out, ⟨A ++ [(key, (v, L))], Q', HA.out.1, HA.out.2, ?_⟩, (H3.out.block _ (Array.getElem?_eq_some_iff.1 (show W2.heap[W.heap.size]? = _ from HBX.out)).1).trans HBX.out⟩
        rw [HSN2.out]
        simpa using own_below hJ HJ.out H3.out
      | some r =>
        unfold seenEVS at HC1
        gi_wp2_with fail
        refine (HC1.out _).mono ?_
        rintro e w3 ⟨rfl, hb3⟩
        have H3 := Lib.hid hb3
        have cY3 : w3.cell? ⟨W.heap.size, 0, none⟩ = some (.func (.yield l) #[] #[]) := (hb3.cell (p := ⟨W.heap.size, 0, none⟩) (World.block_lt_of_cell? W2 _ cY)).trans cY
        have hj3 := own_below hJ HJ.out hb3
        have hbx3 : Boxed w3 W.heap.size 94 (.func (.yield l) #[] #[]) := (hb3.block _ (Array.getElem?_eq_some_iff.1 (show W2.heap[W.heap.size]? = _ from HBX.out)).1).trans HBX.out
        obtain ⟨fn, tmps, assign, body, hy, hR⟩ := hY (scanL lo at1 A) (key, r) w3 hj3 ⟨scanL lo at1 Q', by rw [HST2.out]; rfl⟩ 6
        have HB3 := Lib.hid hbx3
        clear hb3 hj3 hbx3 HC1
        gi_wp2_with (refine hR.mono ?_; clear hR; rintro e W4 ⟨hk, ⟨rfl, hj4⟩ | ⟨rfl, hx4⟩⟩)
        · exact ⟨(KT.of_below H3.out).trans (hk.more HLE.out), ⟨A ++ [(key, (v, L))], Q', HA.out.1, HA.out.2, by rw [HSN2.out]; exact hj4⟩, hk.box HB3.out (Nat.le_refl _) hw⟩
        · exact ⟨(KT.of_below H3.out).trans (hk.more HLE.out), rfl, _, ⟨scanL lo at1 Q', by rw [HST2.out, ← List.append_assoc]; rfl⟩, hx4⟩
  case done =>
    rintro D W2 hD ⟨⟨A, Q, e1, e2, hj⟩, _⟩ hK
    have hA : A = S2 := by
      have h6 := HPR.out.symm.trans e2
      rw [e1, List.map_append] at h6
      have h7 := congrArg List.length h6
      simp at h7
      rw [e1, h7, List.append_nil]
    subst hA
    gi_wp2
    refine ⟨by simp, .inl ⟨_, _, rfl, run_takeDeferred hK, ?_⟩⟩
    exact ⟨_, results_none rfl _ _ _, ⟨_, rfl⟩, .inl (hJ.putObj _ hj (by have := HZ2.out; omega) hK rfl)⟩
  case stop =>
    rintro D c pre W2 hD hx ⟨rfl, out, ht, hj⟩ hK
    gi_wp2
    refine ⟨by simp, .inl ⟨_, _, rfl, run_takeDeferred hK, ?_⟩⟩
    exact ⟨_, results_none rfl _ _ _, ⟨_, rfl⟩, .inr ⟨out, ht, hJx.putObj _ hj (by have := HZ2.out; omega) hK rfl⟩⟩
end Go.Proofs.Ytcgjiddiegepkaa
