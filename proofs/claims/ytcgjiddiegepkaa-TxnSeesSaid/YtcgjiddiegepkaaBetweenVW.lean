/- Trees in order, omap[string,handbill/api.Write]: between, Range. -/
import Derived.Test.YtcgjiddiegepkaaRiseVW
import Derived.Test.YtcgjiddiegepkaaMapVW
namespace Go.Proofs.Ytcgjiddiegepkaa
open Go.RowKit
attribute [local go_sem] Oper.semAt_some wide_fn wide_depth

/-- The pairs from lo on and below hi, as they are walked. -/
def btwVW (lo hi : Value) : Tr → List (Value × Value)
  | .nil => []
  | .node l k x _ r => if lessV k lo = true then btwVW lo hi r else if lessV k hi = false then btwVW lo hi l else btwVW lo hi l ++ (k, x) :: btwVW lo hi r
theorem btwVW_filter {K V : Value → Prop} (O : Ord K) {lo hi : Value} (hlo : K lo) (hhi : K hi) : ∀ {t : Tr}, WS K V t → Ris (prs t) → btwVW lo hi t = (prs t).filter (fun p => !lessV p.1 lo && lessV p.1 hi)
  | .nil, _, _ => rfl
  | .node l k x n r, h, hr => by
    obtain ⟨_, a1, a2, a3, a4⟩ := h
    rw [prs_node, ris_app] at hr
    obtain ⟨r1, r2, r3⟩ := hr
    have hlk : ∀ p ∈ prs l, K p.1 ∧ lessV p.1 k = true := fun p hp => ⟨(ws_keys a3 p hp).1, r3 p hp (k, x) (List.mem_cons_self ..)⟩
    have hrk : ∀ p ∈ prs r, K p.1 ∧ lessV k p.1 = true := fun p hp => ⟨(ws_keys a4 p hp).1, r2.1 p hp⟩
    have il := btwVW_filter O hlo hhi a3 r1
    have ir := btwVW_filter O hlo hhi a4 r2.2
    unfold btwVW
    rw [prs_node, List.filter_append, List.filter_cons]
    split
    · next g =>
      have e : (prs l).filter (fun p => !lessV p.1 lo && lessV p.1 hi) = [] := by
        rw [List.filter_eq_nil_iff]
        intro p hp
        have := O.tr p.1 k lo (hlk p hp).1 a1 hlo (hlk p hp).2 g
        simp [this]
      rw [e, ir]
      simp [g]
    · next g =>
      split
      · next g2 =>
        have e : (prs r).filter (fun p => !lessV p.1 lo && lessV p.1 hi) = [] := by
          rw [List.filter_eq_nil_iff]
          intro p hp
          have : lessV p.1 hi = false := by
            cases e : lessV p.1 hi with
            | false => rfl
            | true => have := O.tr k p.1 hi a1 (hrk p hp).1 hhi (hrk p hp).2 e; rw [g2] at this; cases this
          simp [this]
        rw [e, il]
        simp [g2]
      · next g2 =>
        rw [il, ir]
        have g' : lessV k lo = false := by simpa using g
        have g2' : lessV k hi = true := by simpa using g2
        simp [g', g2']
theorem lessVW_any (a b : List UInt8) (w : World) : Calls Try.prog 69 #[str a, str b] w fun e w' => e = .returned (.bool (lessV (str a) (str b))) ∧ w' = w := by
  have e1 : lessV (str a) (str b) = Op.bytesLess a b := rfl
  rw [e1]
  have n1 : (a != a) = false := bne_self_eq_false _
  have n2 : (b != b) = false := bne_self_eq_false _
  clear e1
  go_enter Try.func69, Try.ntmps69
  go_wp2
  go_ret
  exact ⟨rfl, rfl⟩
theorem lessKVW {k b : Value} (hk : KSVW k) (hb : KSVW b) (w : World) : Calls Try.prog 69 #[k, b] w fun e w' => e = .returned (.bool (lessV k b)) ∧ w' = w := by
  obtain ⟨x, rfl⟩ := hk
  obtain ⟨y, rfl⟩ := hb
  exact lessVW_any x y w
set_option maxRecDepth 100000 in
set_option maxHeartbeats 8000000 in
theorem betweenVW_any {w₀ : World} {l B : Nat} {Wr : TypeId → Prop} {J Jx : List (Value × Value) → World → Prop} {xs : List (Value × Value)} {lo hi : Value} (hlo : KSVW lo) (hhi : KSVW hi) (hJo : OwnFrom B J) (hOk : ∀ pre W, J pre W → NQ w₀ W)
    (hY : ∀ pre x W, J pre W → (∃ t, xs = pre ++ x :: t) → Yld Try.prog l #[x.1, x.2] W (RndPost Wr B J Jx (pre ++ [x]) W)) (T : Tr) :
    ∀ (o : Option Addr) (pre : List (Value × Value)) (W : World) (n : Nat), TQ w₀ o T → WS KSVW VSVW T → J pre W → (∃ t, xs = pre ++ (btwVW lo hi T ++ t)) →
      CallsIn Fence.wide n Try.prog 83 #[.pointer o, lo, hi, .func (.yield l) #[] #[]] W (RiseP J Jx pre (btwVW lo hi T)) := by
  have hm : Try.prog.follows .mixedOrders = true := by kernel_rfl
  have hdd : ∀ k : Nat, (Fence.wide.depth.isSome = true → 1 ≤ k) := fun k h => by cases h
  induction T with
  | nil =>
    intro o pre W n ht _ hJ _
    obtain rfl : o = none := ht
    refine callsIn_of_wp Try.func83 rfl trivial ?_ rfl
    simp only [Try.ntmps83, List.size_toArray, List.length_cons, List.length_nil, Nat.reduceAdd, Nat.reduceSub, Array.replicate_succ, Array.replicate_zero, List.push_toArray, List.append_toArray, List.nil_append, List.cons_append]
    gi_wp2
    go_ret
    exact .inl ⟨rfl, by simpa [btwVW] using hJ⟩
  | node tl k x h tr ihl ihr =>
    intro o pre W n ht hw hJ hx
    obtain ⟨b, T, ol, or, rfl, hc, hl, hr⟩ := ht
    obtain ⟨_, a1, ⟨xa, xb, xc, rfl⟩, a3, a4⟩ := hw
    obtain ⟨c0, _, c3, c4⟩ := (hOk _ _ hJ).cells hc
    have L1 : ∀ m W, CallsIn Fence.wide m Try.prog 69 #[k, lo] W fun e w' => e = .returned (.bool (lessV k lo)) ∧ w' = W := fun m W => callsIn_wide.2 (lessKVW a1 hlo W)
    have L2 : ∀ m W, CallsIn Fence.wide m Try.prog 69 #[k, hi] W fun e w' => e = .returned (.bool (lessV k hi)) ∧ w' = W := fun m W => callsIn_wide.2 (lessKVW a1 hhi W)
    unfold btwVW at hx ⊢
    by_cases g1 : lessV k lo = true
    · rw [if_pos g1] at hx ⊢
      have ih := ihr or pre W (n - 1) hr a4 hJ hx
      have L1' := Lib.hid (fun m => by have := L1 m W; rw [g1] at this; exact this)
      clear L1 L2 ihl ihr hx hc hl hr hJ a3 a4 c3 g1
      refine callsIn_of_wp Try.func83 rfl trivial ?_ rfl
      simp only [Try.ntmps83, List.size_toArray, List.length_cons, List.length_nil, Nat.reduceAdd, Nat.reduceSub, Array.replicate_succ, Array.replicate_zero, List.push_toArray, List.append_toArray, List.nil_append, List.cons_append]
      gi_wp2_with (first | (gi_at_call 69; refine (L1'.out _).mono ?_; rintro e w' ⟨rfl, rfl⟩) | (gi_at_call 83; refine ih.mono ?_; clear ih; rintro e W1 (⟨rfl, hJ1⟩ | ⟨rfl, hx1⟩)) | fail)
      · go_ret
        exact .inl ⟨rfl, hJ1⟩
      · go_ret
        exact .inr ⟨rfl, hx1⟩
    rw [if_neg g1] at hx ⊢
    have g1' : lessV k lo = false := by simpa using g1
    by_cases g2 : lessV k hi = false
    · rw [if_pos g2] at hx ⊢
      have ih := ihl ol pre W (n - 1) hl a3 hJ hx
      have L1' := Lib.hid (fun m => by have := L1 m W; rw [g1'] at this; exact this)
      have L2' := Lib.hid (fun m => by have := L2 m W; rw [g2] at this; exact this)
      clear L1 L2 ihl ihr hx hc hl hr hJ a3 a4 c4 g1 g2 g1'
      refine callsIn_of_wp Try.func83 rfl trivial ?_ rfl
      simp only [Try.ntmps83, List.size_toArray, List.length_cons, List.length_nil, Nat.reduceAdd, Nat.reduceSub, Array.replicate_succ, Array.replicate_zero, List.push_toArray, List.append_toArray, List.nil_append, List.cons_append]
      gi_wp2_with (first | (gi_at_call 69; refine (L1'.out _).mono ?_; clear L1'; rintro e w' ⟨rfl, rfl⟩) | (gi_at_call 69; refine (L2'.out _).mono ?_; rintro e w' ⟨rfl, rfl⟩) | (gi_at_call 83; refine ih.mono ?_; clear ih; rintro e W1 (⟨rfl, hJ1⟩ | ⟨rfl, hx1⟩)) | fail)
      · go_ret
        exact .inl ⟨rfl, hJ1⟩
      · go_ret
        exact .inr ⟨rfl, hx1⟩
    rw [if_neg g2] at hx ⊢
    have g2' : lessV k hi = true := by simpa using g2
    have L1' := Lib.hid (fun m => by have := L1 m W; rw [g1'] at this; exact this)
    have L2' := Lib.hid (fun m => by have := L2 m W; rw [g2'] at this; exact this)
    obtain ⟨tt, hx⟩ := hx
    have hx' : xs = (pre ++ btwVW lo hi tl) ++ (k, (.agg #[str xa, str xb, .bool xc])) :: (btwVW lo hi tr ++ tt) := by rw [hx]; simp
    have hy2 : ∀ W1, J (pre ++ btwVW lo hi tl) W1 → YieldAt Fence.wide (n - 1) Try.prog l #[k, (.agg #[str xa, str xb, .bool xc])] W1 fun e W2 =>
        (e = .returned (.bool true) ∧ W2.cell? ⟨b, 6, none⟩ = some (.pointer or) ∧ CallsIn Fence.wide (n - 1) Try.prog 83 #[.pointer or, lo, hi, .func (.yield l) #[] #[]] W2 (RiseP J Jx (pre ++ btwVW lo hi tl ++ [(k, (.agg #[str xa, str xb, .bool xc]))]) (btwVW lo hi tr))) ∨ (e = .returned (.bool false) ∧ Jx (pre ++ btwVW lo hi tl ++ [(k, (.agg #[str xa, str xb, .bool xc]))]) W2) := by
      intro W1 hJ1
      refine (hY (pre ++ btwVW lo hi tl) (k, (.agg #[str xa, str xb, .bool xc])) W1 hJ1 ⟨_, hx'⟩ (n - 1)).mono ?_
      rintro e W2 ⟨_, ⟨he, hj⟩ | ⟨he, hj⟩⟩
      · exact .inl ⟨he, ((hOk _ _ hj).cells hc).2.2.2, ihr or _ W2 (n - 1) hr a4 hj ⟨tt, by rw [hx']; simp⟩⟩
      · exact .inr ⟨he, hj⟩
    have ih1 := (ihl ol pre W.drew (n - 1) hl a3 (own_drew hJo hJ) ⟨(k, (.agg #[str xa, str xb, .bool xc])) :: (btwVW lo hi tr ++ tt), by rw [hx']; simp⟩).mono (R' := fun e W1 =>
        (e = .returned (.bool true) ∧ W1.cell? ⟨b, 0, none⟩ = some k ∧ (W1.cell? ⟨b, 1, none⟩ = some (str xa) ∧ W1.cell? ⟨b, 2, none⟩ = some (str xb) ∧ W1.cell? ⟨b, 3, none⟩ = some (.bool xc)) ∧ YieldAt Fence.wide (n - 1) Try.prog l #[k, (.agg #[str xa, str xb, .bool xc])] W1 fun e W2 =>
        (e = .returned (.bool true) ∧ W2.cell? ⟨b, 6, none⟩ = some (.pointer or) ∧ CallsIn Fence.wide (n - 1) Try.prog 83 #[.pointer or, lo, hi, .func (.yield l) #[] #[]] W2 (RiseP J Jx (pre ++ btwVW lo hi tl ++ [(k, (.agg #[str xa, str xb, .bool xc]))]) (btwVW lo hi tr))) ∨ (e = .returned (.bool false) ∧ Jx (pre ++ btwVW lo hi tl ++ [(k, (.agg #[str xa, str xb, .bool xc]))]) W2)) ∨
        (e = .returned (.bool false) ∧ ∃ q, (∃ t, btwVW lo hi tl = q ++ t) ∧ Jx (pre ++ q) W1))
      (fun e W1 h => h.elim (fun ⟨he, hj⟩ => .inl ⟨he, ((hOk _ _ hj).cells hc).1, ((hOk _ _ hj).cells hc).2.1, hy2 W1 hj⟩) .inr)
    clear L1 L2 hy2 ihl ihr hx hx' hc hl hr hJ a3 a4 c4 g1 g2 g1' g2'
    obtain ⟨A, hA⟩ : ∃ A, A = btwVW lo hi tl := ⟨_, rfl⟩
    obtain ⟨Bt, hBt⟩ : ∃ Bt, Bt = btwVW lo hi tr := ⟨_, rfl⟩
    rw [← hA, ← hBt] at ih1 ⊢
    clear hA hBt
    refine callsIn_of_wp Try.func83 rfl trivial ?_ rfl
    simp only [Try.ntmps83, List.size_toArray, List.length_cons, List.length_nil, Nat.reduceAdd, Nat.reduceSub, Array.replicate_succ, Array.replicate_zero, List.push_toArray, List.append_toArray, List.nil_append, List.cons_append]
    gi_wp2_with (first | (gi_at_call 69; refine (L1'.out _).mono ?_; clear L1'; rintro e w' ⟨rfl, rfl⟩) | (gi_at_call 69; refine (L2'.out _).mono ?_; clear L2'; rintro e w' ⟨rfl, rfl⟩) | fail)
    refine wpIn_region_any hm ?_
    change wpAnyIn _ _ _ _ _ _ _ _ _ (World.drew _)
    refine wpAnyIn_take (i := 0) (v := ?v1) rfl rfl (by kernel_rfl) (by kernel_rfl) (by kernel_rfl) (fun _ _ _ h => h) ⟨Or.inl ⟨by rfl, ?hy1⟩, fun _ => rfl⟩ ?_
    case hy1 => (intro w; go_simp; try with_reducible rfl)
    go_simp
    refine wpAnyIn_take (i := 1) (v := ?v2) rfl rfl (by kernel_rfl) (by kernel_rfl) (by kernel_rfl) (fun _ _ _ h => h) ⟨Or.inl ⟨by rfl, ?hy2⟩, fun _ => rfl⟩ ?_
    case hy2 => (intro w; go_simp; try with_reducible rfl)
    go_simp
    refine wpAnyIn_take (i := 2) (v := ?v3) rfl rfl (by kernel_rfl) (by kernel_rfl) (by kernel_rfl) (fun _ _ _ h => h) ⟨Or.inl ⟨by rfl, ?hy3⟩, fun _ => rfl⟩ ?_
    case hy3 => (intro w; go_simp; try with_reducible rfl)
    go_simp
    refine wpAnyIn_take (i := 4) (v := ?v4) rfl rfl (by kernel_rfl) (by kernel_rfl) (by kernel_rfl) (fun _ _ _ h => h) ⟨Or.inl ⟨by rfl, ?hy4⟩, fun _ => rfl⟩ ?_
    case hy4 => (intro w; go_simp; try with_reducible rfl)
    go_simp
    refine wpAnyIn_take (i := 5) (v := ?v5) rfl rfl (by kernel_rfl) (by kernel_rfl) (by kernel_rfl) (fun _ _ _ h => h) ⟨Or.inl ⟨by rfl, ?hy5⟩, fun _ => rfl⟩ ?_
    case hy5 => (intro w; go_simp; try with_reducible rfl)
    go_simp
    refine wpAnyIn_take (i := 6) (v := ?v6) rfl rfl (by kernel_rfl) (by kernel_rfl) (by kernel_rfl) (fun _ _ _ h => h) ⟨Or.inl ⟨by rfl, ?hy6⟩, fun _ => rfl⟩ ?_
    case hy6 => (intro w; go_simp; try with_reducible rfl)
    go_simp
    refine wpAnyIn_ready (rs := [3]) (by kernel_rfl) (by simp) (AllReadyIn.cons rfl (fun K hK => ?_) AllReadyIn.nil)
    go_simp
    first | refine hK _ _ ?_ | refine ⟨trivial, hK _ _ ?_⟩ | refine ⟨fun _ _ => trivial, hK _ _ ?_⟩ | fail
    clear hK K
    refine wpAnyIn_ready (rs := [7]) (by kernel_rfl) (by simp) (AllReadyIn.cons rfl (fun K hK => ?_) AllReadyIn.nil)
    go_simp
    refine ih1.mono ?_
    clear ih1
    rintro e W1 (⟨rfl, c0, ⟨c1, c1b, c1c⟩, fn, tmps, assign, body, hy, hR⟩ | ⟨rfl, q, hq, hx1⟩)
    · clear c3
      refine hK _ _ ?_
      clear hK K
      refine wpAnyIn_take (i := 8) (v := ?v7) rfl rfl (by kernel_rfl) (by kernel_rfl) (by kernel_rfl) (fun _ _ _ h => h) ⟨Or.inl ⟨by rfl, ?hy7⟩, fun _ => rfl⟩ ?_
      case hy7 => (intro w; go_simp; try with_reducible rfl)
      go_simp
      refine wpAnyIn_take (i := 9) (v := ?v8) rfl rfl (by kernel_rfl) (by kernel_rfl) (by kernel_rfl) (fun _ _ _ h => h) ⟨Or.inl ⟨by rfl, ?hy8⟩, fun _ => rfl⟩ ?_
      case hy8 => (intro w; go_simp; try with_reducible rfl)
      go_simp
      refine wpAnyIn_take (i := 10) (v := ?v9) rfl rfl (by kernel_rfl) (by kernel_rfl) (by kernel_rfl) (fun _ _ _ h => h) ⟨Or.inl ⟨by rfl, ?hy9⟩, fun _ => rfl⟩ ?_
      case hy9 => (intro w; go_simp; try with_reducible rfl)
      go_simp
      refine wpAnyIn_take (i := 11) (v := ?v10) rfl rfl (by kernel_rfl) (by kernel_rfl) (by kernel_rfl) (fun _ _ _ h => h) ⟨Or.inl ⟨by rfl, ?hy10⟩, fun _ => rfl⟩ ?_
      case hy10 => (intro w; go_simp; try with_reducible rfl)
      go_simp
      refine wpAnyIn_take (i := 12) (v := ?v11) rfl rfl (by kernel_rfl) (by kernel_rfl) (by kernel_rfl) (fun _ _ _ h => h) ⟨Or.inl ⟨by rfl, ?hy11⟩, fun _ => rfl⟩ ?_
      case hy11 => (intro w; go_simp; try with_reducible rfl)
      go_simp
      refine wpAnyIn_take (i := 14) (v := ?v12) rfl rfl (by kernel_rfl) (by kernel_rfl) (by kernel_rfl) (fun _ _ _ h => h) ⟨Or.inl ⟨by rfl, ?hy12⟩, fun _ => rfl⟩ ?_
      case hy12 => (intro w; go_simp; try with_reducible rfl)
      go_simp
      refine wpAnyIn_take (i := 15) (v := ?v13) rfl rfl (by kernel_rfl) (by kernel_rfl) (by kernel_rfl) (fun _ _ _ h => h) ⟨Or.inl ⟨by rfl, ?hy13⟩, fun _ => rfl⟩ ?_
      case hy13 => (intro w; go_simp; try with_reducible rfl)
      go_simp
      refine wpAnyIn_take (i := 16) (v := ?v14) rfl rfl (by kernel_rfl) (by kernel_rfl) (by kernel_rfl) (fun _ _ _ h => h) ⟨Or.inl ⟨by rfl, ?hy14⟩, fun _ => rfl⟩ ?_
      case hy14 => (intro w; go_simp; try with_reducible rfl)
      go_simp
      refine wpAnyIn_ready (rs := [13, 17]) (by kernel_rfl) (by simp) (AllReadyIn.cons rfl (fun K hK => ?_) (AllReadyIn.cons rfl (fun K hK => ?_) AllReadyIn.nil))
      all_goals (go_simp; refine hK _ _ ?_; clear hK K)
      · refine wpAnyIn_ready (rs := [17]) (by kernel_rfl) (by simp) (AllReadyIn.cons rfl (fun K hK => ?_) AllReadyIn.nil)
        go_simp
        refine hK _ _ ?_
        clear hK K
        refine wpAnyIn_ready (rs := [18]) (by kernel_rfl) (by simp) (AllReadyIn.cons rfl (fun K hK => ?_) AllReadyIn.nil)
        go_simp
        refine hR.mono ?_
        clear hR
        rintro e W2 (⟨rfl, c4, ih2⟩ | ⟨rfl, hx2⟩)
        · clear c0 c1 c1b c1c hy
          refine hK _ _ ?_
          clear hK K
          refine wpAnyIn_take (i := 19) (v := ?v15) rfl rfl (by kernel_rfl) (by kernel_rfl) (by kernel_rfl) (fun _ _ _ h => h) ⟨Or.inl ⟨by rfl, ?hy15⟩, fun _ => rfl⟩ ?_
          case hy15 => (intro w; go_simp; try with_reducible rfl)
          go_simp
          refine wpAnyIn_take (i := 20) (v := ?v16) rfl rfl (by kernel_rfl) (by kernel_rfl) (by kernel_rfl) (fun _ _ _ h => h) ⟨Or.inl ⟨by rfl, ?hy16⟩, fun _ => rfl⟩ ?_
          case hy16 => (intro w; go_simp; try with_reducible rfl)
          go_simp
          refine wpAnyIn_take (i := 21) (v := ?v17) rfl rfl (by kernel_rfl) (by kernel_rfl) (by kernel_rfl) (fun _ _ _ h => h) ⟨Or.inl ⟨by rfl, ?hy17⟩, fun _ => rfl⟩ ?_
          case hy17 => (intro w; go_simp; try with_reducible rfl)
          go_simp
          refine wpAnyIn_take (i := 22) (v := ?v18) rfl rfl (by kernel_rfl) (by kernel_rfl) (by kernel_rfl) (fun _ _ _ h => h) ⟨Or.inl ⟨by rfl, ?hy18⟩, fun _ => rfl⟩ ?_
          case hy18 => (intro w; go_simp; try with_reducible rfl)
          go_simp
          refine wpAnyIn_take (i := 23) (v := ?v19) rfl rfl (by kernel_rfl) (by kernel_rfl) (by kernel_rfl) (fun _ _ _ h => h) ⟨Or.inl ⟨by rfl, ?hy19⟩, fun _ => rfl⟩ ?_
          case hy19 => (intro w; go_simp; try with_reducible rfl)
          go_simp
          refine wpAnyIn_take (i := 25) (v := ?v20) rfl rfl (by kernel_rfl) (by kernel_rfl) (by kernel_rfl) (fun _ _ _ h => h) ⟨Or.inl ⟨by rfl, ?hy20⟩, fun _ => rfl⟩ ?_
          case hy20 => (intro w; go_simp; try with_reducible rfl)
          go_simp
          refine wpAnyIn_take (i := 26) (v := ?v21) rfl rfl (by kernel_rfl) (by kernel_rfl) (by kernel_rfl) (fun _ _ _ h => h) ⟨Or.inl ⟨by rfl, ?hy21⟩, fun _ => rfl⟩ ?_
          case hy21 => (intro w; go_simp; try with_reducible rfl)
          go_simp
          refine wpAnyIn_take (i := 27) (v := ?v22) rfl rfl (by kernel_rfl) (by kernel_rfl) (by kernel_rfl) (fun _ _ _ h => h) ⟨Or.inl ⟨by rfl, ?hy22⟩, fun _ => rfl⟩ ?_
          case hy22 => (intro w; go_simp; try with_reducible rfl)
          go_simp
          refine wpAnyIn_ready (rs := [24]) (by kernel_rfl) (by simp) (AllReadyIn.cons rfl (fun K hK => ?_) AllReadyIn.nil)
          go_simp
          first | refine hK _ _ ?_ | refine ⟨trivial, hK _ _ ?_⟩ | refine ⟨fun _ _ => trivial, hK _ _ ?_⟩ | fail
          clear hK K
          refine wpAnyIn_ready (rs := [28]) (by kernel_rfl) (by simp) (AllReadyIn.cons rfl (fun K hK => ?_) AllReadyIn.nil)
          go_simp
          refine ih2.mono ?_
          clear ih2
          rintro e W3 (⟨rfl, hJ3⟩ | ⟨rfl, q, ⟨t, hq⟩, hx3⟩)
          · refine hK _ _ ?_
            clear hK K
            refine wpAnyIn_take (i := 29) (v := ?v23) rfl rfl (by kernel_rfl) (by kernel_rfl) (by kernel_rfl) (fun _ _ _ h => h) ⟨Or.inl ⟨by rfl, ?hy23⟩, fun _ => rfl⟩ ?_
            case hy23 => (intro w; go_simp; try with_reducible rfl)
            go_simp
            refine wpAnyIn_take (i := 30) (v := ?v24) rfl rfl (by kernel_rfl) (by kernel_rfl) (by kernel_rfl) (fun _ _ _ h => h) ⟨Or.inl ⟨by rfl, ?hy24⟩, fun _ => rfl⟩ ?_
            case hy24 => (intro w; go_simp; try with_reducible rfl)
            go_simp
            refine wpAnyIn_done (by kernel_rfl) ?_ _
            gi_wp2
            go_ret
            exact .inl ⟨rfl, by simpa using hJ3⟩
          · refine hK _ _ ?_
            clear hK K
            refine wpAnyIn_take (i := 29) (v := ?v25) rfl rfl (by kernel_rfl) (by kernel_rfl) (by kernel_rfl) (fun _ _ _ h => h) ⟨Or.inl ⟨by rfl, ?hy25⟩, fun _ => rfl⟩ ?_
            case hy25 => (intro w; go_simp; try with_reducible rfl)
            go_simp
            refine wpAnyIn_take (i := 30) (v := ?v26) rfl rfl (by kernel_rfl) (by kernel_rfl) (by kernel_rfl) (fun _ _ _ h => h) ⟨Or.inl ⟨by rfl, ?hy26⟩, fun _ => rfl⟩ ?_
            case hy26 => (intro w; go_simp; try with_reducible rfl)
            go_simp
            refine wpAnyIn_done (by kernel_rfl) ?_ _
            gi_wp2
            go_ret
            exact .inr ⟨rfl, A ++ (k, (.agg #[str xa, str xb, .bool xc])) :: q, ⟨t, by simp [hq]⟩, by simpa using hx3⟩
        · clear c0 c1 c1b c1c hy
          refine hK _ _ ?_
          clear hK K
          refine wpAnyIn_take (i := 19) (v := ?v27) rfl rfl (by kernel_rfl) (by kernel_rfl) (by kernel_rfl) (fun _ _ _ h => h) ⟨Or.inl ⟨by rfl, ?hy27⟩, fun _ => rfl⟩ ?_
          case hy27 => (intro w; go_simp; try with_reducible rfl)
          go_simp
          refine wpAnyIn_take (i := 20) (v := ?v28) rfl rfl (by kernel_rfl) (by kernel_rfl) (by kernel_rfl) (fun _ _ _ h => h) ⟨Or.inl ⟨by rfl, ?hy28⟩, fun _ => rfl⟩ ?_
          case hy28 => (intro w; go_simp; try with_reducible rfl)
          go_simp
          refine wpAnyIn_take (i := 21) (v := undef) rfl rfl (by kernel_rfl) (by kernel_rfl) (by kernel_rfl) (fun _ _ _ h => h) ⟨Or.inr ⟨by rfl, rfl⟩, fun _ => rfl⟩ ?_
          go_simp
          refine wpAnyIn_take (i := 22) (v := undef) rfl rfl (by kernel_rfl) (by kernel_rfl) (by kernel_rfl) (fun _ _ _ h => h) ⟨Or.inr ⟨by rfl, rfl⟩, fun _ => rfl⟩ ?_
          go_simp
          refine wpAnyIn_take (i := 23) (v := undef) rfl rfl (by kernel_rfl) (by kernel_rfl) (by kernel_rfl) (fun _ _ _ h => h) ⟨Or.inr ⟨by rfl, rfl⟩, fun _ => rfl⟩ ?_
          go_simp
          refine wpAnyIn_take (i := 24) (v := undef) rfl rfl (by kernel_rfl) (by kernel_rfl) (by kernel_rfl) (fun _ _ _ h => h) ⟨Or.inr ⟨by rfl, rfl⟩, fun _ => rfl⟩ ?_
          go_simp
          refine wpAnyIn_take (i := 25) (v := undef) rfl rfl (by kernel_rfl) (by kernel_rfl) (by kernel_rfl) (fun _ _ _ h => h) ⟨Or.inr ⟨by rfl, rfl⟩, fun _ => rfl⟩ ?_
          go_simp
          refine wpAnyIn_take (i := 26) (v := undef) rfl rfl (by kernel_rfl) (by kernel_rfl) (by kernel_rfl) (fun _ _ _ h => h) ⟨Or.inr ⟨by rfl, rfl⟩, fun _ => rfl⟩ ?_
          go_simp
          refine wpAnyIn_take (i := 27) (v := undef) rfl rfl (by kernel_rfl) (by kernel_rfl) (by kernel_rfl) (fun _ _ _ h => h) ⟨Or.inr ⟨by rfl, rfl⟩, fun _ => rfl⟩ ?_
          go_simp
          refine wpAnyIn_ready (rs := [28]) (by kernel_rfl) (by simp) (AllReadyIn.cons rfl (fun K hK => ?_) AllReadyIn.nil)
          go_simp
          first | refine hK _ _ ?_ | refine ⟨trivial, hK _ _ ?_⟩ | refine ⟨fun _ _ => trivial, hK _ _ ?_⟩ | fail
          clear hK K
          refine wpAnyIn_take (i := 29) (v := ?v29) rfl rfl (by kernel_rfl) (by kernel_rfl) (by kernel_rfl) (fun _ _ _ h => h) ⟨Or.inl ⟨by rfl, ?hy29⟩, fun _ => rfl⟩ ?_
          case hy29 => (intro w; go_simp; try with_reducible rfl)
          go_simp
          refine wpAnyIn_take (i := 30) (v := ?v30) rfl rfl (by kernel_rfl) (by kernel_rfl) (by kernel_rfl) (fun _ _ _ h => h) ⟨Or.inl ⟨by rfl, ?hy30⟩, fun _ => rfl⟩ ?_
          case hy30 => (intro w; go_simp; try with_reducible rfl)
          go_simp
          refine wpAnyIn_done (by kernel_rfl) ?_ _
          gi_wp2
          go_ret
          exact .inr ⟨rfl, A ++ [(k, (.agg #[str xa, str xb, .bool xc]))], ⟨Bt, by simp⟩, by simpa using hx2⟩
      · refine wpAnyIn_ready (rs := [13]) (by kernel_rfl) (by simp) (AllReadyIn.cons rfl (fun K hK => ?_) AllReadyIn.nil)
        go_simp
        refine hK _ _ ?_
        clear hK K
        refine wpAnyIn_ready (rs := [18]) (by kernel_rfl) (by simp) (AllReadyIn.cons rfl (fun K hK => ?_) AllReadyIn.nil)
        go_simp
        refine hR.mono ?_
        clear hR
        rintro e W2 (⟨rfl, c4, ih2⟩ | ⟨rfl, hx2⟩)
        · clear c0 c1 c1b c1c hy
          refine hK _ _ ?_
          clear hK K
          refine wpAnyIn_take (i := 19) (v := ?v31) rfl rfl (by kernel_rfl) (by kernel_rfl) (by kernel_rfl) (fun _ _ _ h => h) ⟨Or.inl ⟨by rfl, ?hy31⟩, fun _ => rfl⟩ ?_
          case hy31 => (intro w; go_simp; try with_reducible rfl)
          go_simp
          refine wpAnyIn_take (i := 20) (v := ?v32) rfl rfl (by kernel_rfl) (by kernel_rfl) (by kernel_rfl) (fun _ _ _ h => h) ⟨Or.inl ⟨by rfl, ?hy32⟩, fun _ => rfl⟩ ?_
          case hy32 => (intro w; go_simp; try with_reducible rfl)
          go_simp
          refine wpAnyIn_take (i := 21) (v := ?v33) rfl rfl (by kernel_rfl) (by kernel_rfl) (by kernel_rfl) (fun _ _ _ h => h) ⟨Or.inl ⟨by rfl, ?hy33⟩, fun _ => rfl⟩ ?_
          case hy33 => (intro w; go_simp; try with_reducible rfl)
          go_simp
          refine wpAnyIn_take (i := 22) (v := ?v34) rfl rfl (by kernel_rfl) (by kernel_rfl) (by kernel_rfl) (fun _ _ _ h => h) ⟨Or.inl ⟨by rfl, ?hy34⟩, fun _ => rfl⟩ ?_
          case hy34 => (intro w; go_simp; try with_reducible rfl)
          go_simp
          refine wpAnyIn_take (i := 23) (v := ?v35) rfl rfl (by kernel_rfl) (by kernel_rfl) (by kernel_rfl) (fun _ _ _ h => h) ⟨Or.inl ⟨by rfl, ?hy35⟩, fun _ => rfl⟩ ?_
          case hy35 => (intro w; go_simp; try with_reducible rfl)
          go_simp
          refine wpAnyIn_take (i := 25) (v := ?v36) rfl rfl (by kernel_rfl) (by kernel_rfl) (by kernel_rfl) (fun _ _ _ h => h) ⟨Or.inl ⟨by rfl, ?hy36⟩, fun _ => rfl⟩ ?_
          case hy36 => (intro w; go_simp; try with_reducible rfl)
          go_simp
          refine wpAnyIn_take (i := 26) (v := ?v37) rfl rfl (by kernel_rfl) (by kernel_rfl) (by kernel_rfl) (fun _ _ _ h => h) ⟨Or.inl ⟨by rfl, ?hy37⟩, fun _ => rfl⟩ ?_
          case hy37 => (intro w; go_simp; try with_reducible rfl)
          go_simp
          refine wpAnyIn_take (i := 27) (v := ?v38) rfl rfl (by kernel_rfl) (by kernel_rfl) (by kernel_rfl) (fun _ _ _ h => h) ⟨Or.inl ⟨by rfl, ?hy38⟩, fun _ => rfl⟩ ?_
          case hy38 => (intro w; go_simp; try with_reducible rfl)
          go_simp
          refine wpAnyIn_ready (rs := [24]) (by kernel_rfl) (by simp) (AllReadyIn.cons rfl (fun K hK => ?_) AllReadyIn.nil)
          go_simp
          first | refine hK _ _ ?_ | refine ⟨trivial, hK _ _ ?_⟩ | refine ⟨fun _ _ => trivial, hK _ _ ?_⟩ | fail
          clear hK K
          refine wpAnyIn_ready (rs := [28]) (by kernel_rfl) (by simp) (AllReadyIn.cons rfl (fun K hK => ?_) AllReadyIn.nil)
          go_simp
          refine ih2.mono ?_
          clear ih2
          rintro e W3 (⟨rfl, hJ3⟩ | ⟨rfl, q, ⟨t, hq⟩, hx3⟩)
          · refine hK _ _ ?_
            clear hK K
            refine wpAnyIn_take (i := 29) (v := ?v39) rfl rfl (by kernel_rfl) (by kernel_rfl) (by kernel_rfl) (fun _ _ _ h => h) ⟨Or.inl ⟨by rfl, ?hy39⟩, fun _ => rfl⟩ ?_
            case hy39 => (intro w; go_simp; try with_reducible rfl)
            go_simp
            refine wpAnyIn_take (i := 30) (v := ?v40) rfl rfl (by kernel_rfl) (by kernel_rfl) (by kernel_rfl) (fun _ _ _ h => h) ⟨Or.inl ⟨by rfl, ?hy40⟩, fun _ => rfl⟩ ?_
            case hy40 => (intro w; go_simp; try with_reducible rfl)
            go_simp
            refine wpAnyIn_done (by kernel_rfl) ?_ _
            gi_wp2
            go_ret
            exact .inl ⟨rfl, by simpa using hJ3⟩
          · refine hK _ _ ?_
            clear hK K
            refine wpAnyIn_take (i := 29) (v := ?v41) rfl rfl (by kernel_rfl) (by kernel_rfl) (by kernel_rfl) (fun _ _ _ h => h) ⟨Or.inl ⟨by rfl, ?hy41⟩, fun _ => rfl⟩ ?_
            case hy41 => (intro w; go_simp; try with_reducible rfl)
            go_simp
            refine wpAnyIn_take (i := 30) (v := ?v42) rfl rfl (by kernel_rfl) (by kernel_rfl) (by kernel_rfl) (fun _ _ _ h => h) ⟨Or.inl ⟨by rfl, ?hy42⟩, fun _ => rfl⟩ ?_
            case hy42 => (intro w; go_simp; try with_reducible rfl)
            go_simp
            refine wpAnyIn_done (by kernel_rfl) ?_ _
            gi_wp2
            go_ret
            exact .inr ⟨rfl, A ++ (k, (.agg #[str xa, str xb, .bool xc])) :: q, ⟨t, by simp [hq]⟩, by simpa using hx3⟩
        · clear c0 c1 c1b c1c hy
          refine hK _ _ ?_
          clear hK K
          refine wpAnyIn_take (i := 19) (v := ?v43) rfl rfl (by kernel_rfl) (by kernel_rfl) (by kernel_rfl) (fun _ _ _ h => h) ⟨Or.inl ⟨by rfl, ?hy43⟩, fun _ => rfl⟩ ?_
          case hy43 => (intro w; go_simp; try with_reducible rfl)
          go_simp
          refine wpAnyIn_take (i := 20) (v := ?v44) rfl rfl (by kernel_rfl) (by kernel_rfl) (by kernel_rfl) (fun _ _ _ h => h) ⟨Or.inl ⟨by rfl, ?hy44⟩, fun _ => rfl⟩ ?_
          case hy44 => (intro w; go_simp; try with_reducible rfl)
          go_simp
          refine wpAnyIn_take (i := 21) (v := undef) rfl rfl (by kernel_rfl) (by kernel_rfl) (by kernel_rfl) (fun _ _ _ h => h) ⟨Or.inr ⟨by rfl, rfl⟩, fun _ => rfl⟩ ?_
          go_simp
          refine wpAnyIn_take (i := 22) (v := undef) rfl rfl (by kernel_rfl) (by kernel_rfl) (by kernel_rfl) (fun _ _ _ h => h) ⟨Or.inr ⟨by rfl, rfl⟩, fun _ => rfl⟩ ?_
          go_simp
          refine wpAnyIn_take (i := 23) (v := undef) rfl rfl (by kernel_rfl) (by kernel_rfl) (by kernel_rfl) (fun _ _ _ h => h) ⟨Or.inr ⟨by rfl, rfl⟩, fun _ => rfl⟩ ?_
          go_simp
          refine wpAnyIn_take (i := 24) (v := undef) rfl rfl (by kernel_rfl) (by kernel_rfl) (by kernel_rfl) (fun _ _ _ h => h) ⟨Or.inr ⟨by rfl, rfl⟩, fun _ => rfl⟩ ?_
          go_simp
          refine wpAnyIn_take (i := 25) (v := undef) rfl rfl (by kernel_rfl) (by kernel_rfl) (by kernel_rfl) (fun _ _ _ h => h) ⟨Or.inr ⟨by rfl, rfl⟩, fun _ => rfl⟩ ?_
          go_simp
          refine wpAnyIn_take (i := 26) (v := undef) rfl rfl (by kernel_rfl) (by kernel_rfl) (by kernel_rfl) (fun _ _ _ h => h) ⟨Or.inr ⟨by rfl, rfl⟩, fun _ => rfl⟩ ?_
          go_simp
          refine wpAnyIn_take (i := 27) (v := undef) rfl rfl (by kernel_rfl) (by kernel_rfl) (by kernel_rfl) (fun _ _ _ h => h) ⟨Or.inr ⟨by rfl, rfl⟩, fun _ => rfl⟩ ?_
          go_simp
          refine wpAnyIn_ready (rs := [28]) (by kernel_rfl) (by simp) (AllReadyIn.cons rfl (fun K hK => ?_) AllReadyIn.nil)
          go_simp
          first | refine hK _ _ ?_ | refine ⟨trivial, hK _ _ ?_⟩ | refine ⟨fun _ _ => trivial, hK _ _ ?_⟩ | fail
          clear hK K
          refine wpAnyIn_take (i := 29) (v := ?v45) rfl rfl (by kernel_rfl) (by kernel_rfl) (by kernel_rfl) (fun _ _ _ h => h) ⟨Or.inl ⟨by rfl, ?hy45⟩, fun _ => rfl⟩ ?_
          case hy45 => (intro w; go_simp; try with_reducible rfl)
          go_simp
          refine wpAnyIn_take (i := 30) (v := ?v46) rfl rfl (by kernel_rfl) (by kernel_rfl) (by kernel_rfl) (fun _ _ _ h => h) ⟨Or.inl ⟨by rfl, ?hy46⟩, fun _ => rfl⟩ ?_
          case hy46 => (intro w; go_simp; try with_reducible rfl)
          go_simp
          refine wpAnyIn_done (by kernel_rfl) ?_ _
          gi_wp2
          go_ret
          exact .inr ⟨rfl, A ++ [(k, (.agg #[str xa, str xb, .bool xc]))], ⟨Bt, by simp⟩, by simpa using hx2⟩
    · clear c3
      refine hK _ _ ?_
      clear hK K
      refine wpAnyIn_take (i := 8) (v := ?v47) rfl rfl (by kernel_rfl) (by kernel_rfl) (by kernel_rfl) (fun _ _ _ h => h) ⟨Or.inl ⟨by rfl, ?hy47⟩, fun _ => rfl⟩ ?_
      case hy47 => (intro w; go_simp; try with_reducible rfl)
      go_simp
      refine wpAnyIn_take (i := 9) (v := undef) rfl rfl (by kernel_rfl) (by kernel_rfl) (by kernel_rfl) (fun _ _ _ h => h) ⟨Or.inr ⟨by rfl, rfl⟩, fun _ => rfl⟩ ?_
      go_simp
      refine wpAnyIn_take (i := 10) (v := undef) rfl rfl (by kernel_rfl) (by kernel_rfl) (by kernel_rfl) (fun _ _ _ h => h) ⟨Or.inr ⟨by rfl, rfl⟩, fun _ => rfl⟩ ?_
      go_simp
      refine wpAnyIn_take (i := 11) (v := undef) rfl rfl (by kernel_rfl) (by kernel_rfl) (by kernel_rfl) (fun _ _ _ h => h) ⟨Or.inr ⟨by rfl, rfl⟩, fun _ => rfl⟩ ?_
      go_simp
      refine wpAnyIn_take (i := 12) (v := undef) rfl rfl (by kernel_rfl) (by kernel_rfl) (by kernel_rfl) (fun _ _ _ h => h) ⟨Or.inr ⟨by rfl, rfl⟩, fun _ => rfl⟩ ?_
      go_simp
      refine wpAnyIn_take (i := 13) (v := undef) rfl rfl (by kernel_rfl) (by kernel_rfl) (by kernel_rfl) (fun _ _ _ h => h) ⟨Or.inr ⟨by rfl, rfl⟩, fun _ => rfl⟩ ?_
      go_simp
      refine wpAnyIn_take (i := 14) (v := undef) rfl rfl (by kernel_rfl) (by kernel_rfl) (by kernel_rfl) (fun _ _ _ h => h) ⟨Or.inr ⟨by rfl, rfl⟩, fun _ => rfl⟩ ?_
      go_simp
      refine wpAnyIn_take (i := 15) (v := undef) rfl rfl (by kernel_rfl) (by kernel_rfl) (by kernel_rfl) (fun _ _ _ h => h) ⟨Or.inr ⟨by rfl, rfl⟩, fun _ => rfl⟩ ?_
      go_simp
      refine wpAnyIn_take (i := 16) (v := undef) rfl rfl (by kernel_rfl) (by kernel_rfl) (by kernel_rfl) (fun _ _ _ h => h) ⟨Or.inr ⟨by rfl, rfl⟩, fun _ => rfl⟩ ?_
      go_simp
      refine wpAnyIn_take (i := 17) (v := undef) rfl rfl (by kernel_rfl) (by kernel_rfl) (by kernel_rfl) (fun _ _ _ h => h) ⟨Or.inr ⟨by rfl, rfl⟩, fun _ => rfl⟩ ?_
      go_simp
      refine wpAnyIn_ready (rs := [18]) (by kernel_rfl) (by simp) (AllReadyIn.cons rfl (fun K hK => ?_) AllReadyIn.nil)
      go_simp
      first | refine hK _ _ ?_ | refine ⟨trivial, hK _ _ ?_⟩ | refine ⟨fun _ _ => trivial, hK _ _ ?_⟩ | fail
      clear hK K
      refine wpAnyIn_take (i := 19) (v := ?v48) rfl rfl (by kernel_rfl) (by kernel_rfl) (by kernel_rfl) (fun _ _ _ h => h) ⟨Or.inl ⟨by rfl, ?hy48⟩, fun _ => rfl⟩ ?_
      case hy48 => (intro w; go_simp; try with_reducible rfl)
      go_simp
      refine wpAnyIn_take (i := 20) (v := ?v49) rfl rfl (by kernel_rfl) (by kernel_rfl) (by kernel_rfl) (fun _ _ _ h => h) ⟨Or.inl ⟨by rfl, ?hy49⟩, fun _ => rfl⟩ ?_
      case hy49 => (intro w; go_simp; try with_reducible rfl)
      go_simp
      refine wpAnyIn_take (i := 21) (v := undef) rfl rfl (by kernel_rfl) (by kernel_rfl) (by kernel_rfl) (fun _ _ _ h => h) ⟨Or.inr ⟨by rfl, rfl⟩, fun _ => rfl⟩ ?_
      go_simp
      refine wpAnyIn_take (i := 22) (v := undef) rfl rfl (by kernel_rfl) (by kernel_rfl) (by kernel_rfl) (fun _ _ _ h => h) ⟨Or.inr ⟨by rfl, rfl⟩, fun _ => rfl⟩ ?_
      go_simp
      refine wpAnyIn_take (i := 23) (v := undef) rfl rfl (by kernel_rfl) (by kernel_rfl) (by kernel_rfl) (fun _ _ _ h => h) ⟨Or.inr ⟨by rfl, rfl⟩, fun _ => rfl⟩ ?_
      go_simp
      refine wpAnyIn_take (i := 24) (v := undef) rfl rfl (by kernel_rfl) (by kernel_rfl) (by kernel_rfl) (fun _ _ _ h => h) ⟨Or.inr ⟨by rfl, rfl⟩, fun _ => rfl⟩ ?_
      go_simp
      refine wpAnyIn_take (i := 25) (v := undef) rfl rfl (by kernel_rfl) (by kernel_rfl) (by kernel_rfl) (fun _ _ _ h => h) ⟨Or.inr ⟨by rfl, rfl⟩, fun _ => rfl⟩ ?_
      go_simp
      refine wpAnyIn_take (i := 26) (v := undef) rfl rfl (by kernel_rfl) (by kernel_rfl) (by kernel_rfl) (fun _ _ _ h => h) ⟨Or.inr ⟨by rfl, rfl⟩, fun _ => rfl⟩ ?_
      go_simp
      refine wpAnyIn_take (i := 27) (v := undef) rfl rfl (by kernel_rfl) (by kernel_rfl) (by kernel_rfl) (fun _ _ _ h => h) ⟨Or.inr ⟨by rfl, rfl⟩, fun _ => rfl⟩ ?_
      go_simp
      refine wpAnyIn_ready (rs := [28]) (by kernel_rfl) (by simp) (AllReadyIn.cons rfl (fun K hK => ?_) AllReadyIn.nil)
      go_simp
      first | refine hK _ _ ?_ | refine ⟨trivial, hK _ _ ?_⟩ | refine ⟨fun _ _ => trivial, hK _ _ ?_⟩ | fail
      clear hK K
      refine wpAnyIn_take (i := 29) (v := ?v50) rfl rfl (by kernel_rfl) (by kernel_rfl) (by kernel_rfl) (fun _ _ _ h => h) ⟨Or.inl ⟨by rfl, ?hy50⟩, fun _ => rfl⟩ ?_
      case hy50 => (intro w; go_simp; try with_reducible rfl)
      go_simp
      refine wpAnyIn_take (i := 30) (v := ?v51) rfl rfl (by kernel_rfl) (by kernel_rfl) (by kernel_rfl) (fun _ _ _ h => h) ⟨Or.inl ⟨by rfl, ?hy51⟩, fun _ => rfl⟩ ?_
      case hy51 => (intro w; go_simp; try with_reducible rfl)
      go_simp
      refine wpAnyIn_done (by kernel_rfl) ?_ _
      gi_wp2
      go_ret
      obtain ⟨t, hq⟩ := hq
      exact .inr ⟨rfl, q, ⟨t ++ (k, (.agg #[str xa, str xb, .bool xc])) :: Bt, by rw [hq]; simp⟩, hx1⟩
end Go.Proofs.Ytcgjiddiegepkaa
