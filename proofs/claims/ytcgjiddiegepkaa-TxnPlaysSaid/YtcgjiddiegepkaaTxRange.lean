import Derived.Test.YtcgjiddiegepkaaTxScan
import Derived.Test.YtcgjiddiegepkaaVScanH
import Derived.Test.YtcgjiddiegepkaaTxSt
import Derived.Test.YtcgjiddiegepkaaTxScn
import Derived.Deep.RegionHeld3
import Derived.Test.YtcgjiddiegepkaaRfPut
import Derived.Test.YtcgjiddiegepkaaTxPairs
import Derived.Test.YtcgjiddiegepkaaTxSeesM
/- Scan below a hi, ranged over by who lays its boxes. -/
namespace Go.Proofs.Ytcgjiddiegepkaa
open Go.RowKit
attribute [local go_sem] Oper.semAt_some wide_fn wide_depth
set_option maxRecDepth 100000 in
set_option maxHeartbeats 4000000 in
theorem scanOkH_any {Wr : TypeId → Prop} {w W : World} {B s mb b0 b1 b2 b3 : Nat} {t : Tr} {S : ChsVS} {cnt low : Int} {k : Nat} (h : StVS w B s mb t S cnt low k) (hk : k ≤ 100000) {lo : List UInt8} {hic : UInt8} {his : List UInt8} {at1 : Int} (hb : ScB W b0 b1 b2 b3 s lo (hic :: his) at1) (hW : Below w.heap.size w W) (hw : ¬ Wr 94) :
    Seqs Try.prog 56 #[.pointer (some ⟨b0, 0, none⟩), .pointer (some ⟨b1, 0, none⟩), .pointer (some ⟨b2, 0, none⟩), .pointer (some ⟨b3, 0, none⟩)] (fun p : List UInt8 × List UInt8 => #[str p.1, str p.2]) (fun W2 => Below w.heap.size w W2 ∧ ScB W2 b0 b1 b2 b3 s lo (hic :: his) at1) Wr (scanL lo at1 (cutS lo (hic :: his) S)) W := by
  intro l J Jx hJ hJx hOk hY h0
  obtain ⟨S2, hS2⟩ : ∃ S2, S2 = cutS lo (hic :: his) S := ⟨_, rfl⟩
  rw [← hS2] at hY ⊢
  have hdd : ∀ k : Nat, (Fence.wide.depth.isSome = true → 1 ≤ k) := fun k h => by cases h
  obtain ⟨d0, d1, d2, _⟩ := hb.up (below_alloc W (.cells #[.func (.yield l) #[] #[]] 94))
  have hs1 := h.below (hW.trans ((below_alloc W (.cells #[.func (.yield l) #[] #[]] 94)).mono hW.size))
  have CF := Lib.hid (callsIn_wide (n := 8) |>.2 (fromHi_any hs1 lo hic his))
  have bY := Boxed.new W 94 (.func (.yield l) #[] #[])
  refine (callsIn_wide (n := 9)).1 ?_
  refine callsIn_of_wp_marks Try.func56 rfl trivial ?_ rfl
  simp only [Try.ntmps56, List.size_toArray, List.length_cons, List.length_nil, Nat.reduceAdd, Nat.reduceSub, Array.replicate_succ, Array.replicate_zero, List.push_toArray, List.append_toArray, List.nil_append, List.cons_append]
  gi_wp2_with fail
  refine CF.out.mono ?_
  rintro e w2 ⟨rfl, hw2⟩
  obtain ⟨W1, hW1⟩ : ∃ W1, W1 = W.alloc (.cells #[.func (.yield l) #[] #[]] 94) := ⟨_, rfl⟩
  rw [← hW1] at hw2 bY hs1 ⊢
  have l1 : Below W.heap.size W W1 := by rw [hW1]; exact below_alloc W _
  have l2 : Below W1.heap.size W1 w2 := by rw [hw2]; exact below_spanVS W1 _ _ _
  have hz1 : W1.heap.size = W.heap.size + 1 := by rw [hW1]; simp
  have hz2 : w2.heap.size = W.heap.size + 4 := by rw [hw2]; simp [spanWVS, hz1]
  obtain ⟨c4, c5, c6⟩ := spanVS_cells W1 mb lo (hic :: his) w2 hw2
  have hs2 := hs1.below l2
  have lw2 : Below w.heap.size w w2 := (hW.trans (l1.mono hW.size)).trans (l2.mono (by have := hW.size; omega))
  obtain ⟨xs, hxs⟩ : ∃ xs, xs = btwVS (str lo) (str (hic :: his)) t := ⟨_, rfl⟩
  have hxp : xs = S2.map (pairB Prod.fst) := by rw [hxs, hS2]; exact btw_cut h lo (hic :: his)
  have hmf : ∀ x ∈ S2, x ∈ S := fun x hx => by rw [hS2] at hx; exact (List.mem_filter.1 hx).1
  have hseq : ∀ W', Below w2.heap.size w2 W' → Seqs Try.prog 86 #[.pointer (some ⟨W1.heap.size, 0, none⟩), .pointer (some ⟨W1.heap.size + 1, 0, none⟩), .pointer (some ⟨W1.heap.size + 2, 0, none⟩)] (fun p : Value × Value => #[p.1, p.2]) (NK w) Wr xs W' := fun W' hW' => by
    rw [hxs]
    exact spans2_any h.mp h.ws ⟨lo, rfl⟩ ⟨hic :: his, rfl⟩ ((hW'.cell (p := ⟨W1.heap.size, 0, none⟩) (World.block_lt_of_cell? w2 _ c4)).trans c4) ((hW'.cell (p := ⟨W1.heap.size + 1, 0, none⟩) (World.block_lt_of_cell? w2 _ c5)).trans c5) ((hW'.cell (p := ⟨W1.heap.size + 2, 0, none⟩) (World.block_lt_of_cell? w2 _ c6)).trans c6) (lw2.trans (hW'.mono lw2.size))
  have hj0 : J (scanL lo at1 []) w2 := own_below hJ (own_below hJ h0 l1) l2
  have hy0 : Boxed w2 W.heap.size 94 (.func (.yield l) #[] #[]) := (l2.block _ (by omega)).trans bY
  have HPR := Lib.hid hxp
  have HRW : Hid (∀ W2, Below w.heap.size w W2 → ∀ x ∈ S2, RdVS W2 x.2.1 x.2.2 ∧ RisT (timesVS x.2.2) ∧ x.2.2.length ≤ 1000000) := Lib.hid (fun W2 hb2 x hx => ⟨(rd_rowVS (h.ch x (hmf x hx))).up hb2, h.tr x (hmf x hx), by have := h.hk.2.2 x (hmf x hx); omega⟩)
  have HZ2 := Lib.hid hz2
  clear hxs hxp hmf c5 c6 hS2
  clear l1 l2 hz1 c4 hs2 hs1 hW1 hw2 d0 d1 d2 bY h0 CF h hb
  gi_wp2_with fail
  refine range_law (gf := 86) (lb := #[.pointer (some ⟨W1.heap.size, 0, none⟩), .pointer (some ⟨W1.heap.size + 1, 0, none⟩), .pointer (some ⟨W1.heap.size + 2, 0, none⟩)]) rfl (enters_of Try.func86 (by kernel_rfl) rfl) (Ok := NK w) (Wr := Wr) (xs := xs) hseq (by intro x; rfl)
    (fun pre W2 => (∃ A Q, S2 = A ++ Q ∧ pre = A.map (pairB Prod.fst) ∧ J (scanL lo at1 A) W2) ∧ Boxed W2 W.heap.size 94 (.func (.yield l) #[] #[]))
    (fun c _ W2 => c = .ret ∧ ∃ out, (∃ t, scanL lo at1 S2 = out ++ t) ∧ Jx out W2)
    (OwnFrom.and ?ownj (boxed_ownT (Tw := fun _ => False) _ _ (fun _ : List (Value × Value) => .func (.yield l) #[] #[]) (by simp) |>.from _ |>.plain)) (fun c => ?ownx) ⟨⟨[], S2, rfl, rfl, hj0⟩, hy0⟩ ?okk ?a1 ?assign ?body ?done ?stop
  case ownj =>
    rintro s' X Y row ⟨A, Q, e1, e2, hj⟩ hg hr
    exact ⟨A, Q, e1, e2, hJ _ _ _ _ hj hg (fun r e => ⟨by have := (hr r e).1; have := HZ2.out; omega, (hr r e).2⟩)⟩
  case ownx =>
    rintro s' X Y row ⟨hc, out, ht, hj⟩ hg hr
    exact ⟨hc, out, ht, hJx _ _ _ _ hj hg (fun r e => ⟨by have := (hr r e).1; have := HZ2.out; omega, (hr r e).2⟩)⟩
  case okk =>
    rintro pre W2 ⟨⟨A, Q, _, _, hj⟩, _⟩
    exact NK.of_below (hOk _ _ hj).1
  case assign =>
    intro l x W' K hK
    gi_wp2
    exact hK
  case body =>
    rintro l2 pre x W2 hl2 ⟨⟨A, Q, e1, e2, hj⟩, hbx⟩ ⟨tl, ht⟩
    obtain ⟨key, v, L, Q', rfl, rfl⟩ : ∃ key v L Q', Q = (key, (v, L)) :: Q' ∧ x = pairB Prod.fst ((key, (v, L)) : List UInt8 × ChVS) := by
      have h6 := HPR.out.symm.trans ht
      rw [e1, List.map_append, e2] at h6
      have h7 := List.append_cancel_left h6
      cases Q with
      | nil => cases h7
      | cons q Q' =>
        obtain ⟨key, v, L⟩ := q
        simp only [List.map_cons, List.cons.injEq] at h7
        exact ⟨key, v, L, Q', rfl, h7.1.symm⟩
    have hmem : (key, (v, L)) ∈ S2 := by rw [e1]; simp
    have hB2 := (hOk _ _ hj).1
    obtain ⟨hrd, htr, hll⟩ := HRW.out W2 hB2 _ hmem
    dsimp only at hrd htr hll
    obtain ⟨_, c1, _, c3⟩ := (hOk _ _ hj).2
    have cY : W2.cell? ⟨W.heap.size, 0, none⟩ = some (.func (.yield l) #[] #[]) := hbx.cell
    have hC := seenVS_any v L at1 W2 hrd htr hll
    have hsn := scanL_snoc lo at1 A (key, (v, L))
    have hst : scanL lo at1 S2 = scanL lo at1 A ++ ((scan1 lo at1 (key, (v, L))).toList ++ scanL lo at1 Q') := by
      rw [e1, scanL_app, show (key, (v, L)) :: Q' = [(key, (v, L))] ++ Q' from rfl, scanL_app]
      congr 2
    have HA : Hid (S2 = A ++ [(key, (v, L))] ++ Q' ∧ pre ++ [pairB Prod.fst ((key, (v, L)) : List UInt8 × ChVS)] = (A ++ [(key, (v, L))]).map (pairB Prod.fst)) := Lib.hid ⟨by rw [e1]; simp, by rw [e2]; simp⟩
    unfold scan1 at hsn hst
    dsimp only at hsn hst
    obtain ⟨rs, hrs⟩ : ∃ rs, rs = seenVS L at1 := ⟨_, rfl⟩
    rw [← hrs] at hC hsn hst
    have HSN := Lib.hid hsn
    have HST := Lib.hid hst
    have HJ := Lib.hid hj
    have HBX := Lib.hid hbx
    have HLE : Hid (W.heap.size ≤ w2.heap.size) := Lib.hid (by have := HZ2.out; omega)
    clear hmem hrd htr hll hsn hst e1 e2 ht hseq hj0 hy0 hj hbx hrs
    dsimp only [pairB]
    by_cases hlo : Op.bytesLess key lo = true
    · gi_wp2
      refine ⟨KT.refl _ _ _, ⟨A ++ [(key, (v, L))], Q', HA.out.1, HA.out.2, ?_⟩, HBX.out⟩
      have := HSN.out
      rw [if_pos hlo] at this
      rw [this]
      simpa using HJ.out
    · have hlo' : Op.bytesLess key lo = false := by simpa using hlo
      have HC1 : Hid (∀ m, CallsIn (Fence.wide.inRound l2) m Try.prog 58 #[v, .int .i64 at1] W2 fun e w' => e = seenEVS rs ∧ Below W2.heap.size W2 w') := Lib.hid (fun m => (callsIn_wide.2 hC).inRound l2)
      have HSN2 := Lib.hid (by have := HSN.out; rw [if_neg hlo] at this; exact this)
      have HST2 := Lib.hid (by have := HST.out; rw [if_neg hlo] at this; exact this)
      clear hC HSN HST hlo
      cases rs with
      | none =>
        unfold seenEVS at HC1
        gi_wp2_with fail
        refine (HC1.out _).mono ?_
        rintro e w3 ⟨rfl, hb3⟩
        have H3 := Lib.hid hb3
        clear hb3
        gi_wp2
        refine ⟨KT.of_below H3.out, ⟨A ++ [(key, (v, L))], Q', HA.out.1, HA.out.2, ?_⟩, (H3.out.block _ (Array.getElem?_eq_some_iff.1 (show W2.heap[W.heap.size]? = _ from HBX.out)).1).trans HBX.out⟩
        rw [HSN2.out]
        simpa using own_below hJ HJ.out H3.out
      | some r =>
        unfold seenEVS at HC1
        gi_wp2_with fail
        refine (HC1.out _).mono ?_
        rintro e w3 ⟨rfl, hb3⟩
        have H3 := Lib.hid hb3
        have cY3 : w3.cell? ⟨W.heap.size, 0, none⟩ = some (.func (.yield l) #[] #[]) := (hb3.cell (p := ⟨W.heap.size, 0, none⟩) (World.block_lt_of_cell? W2 _ cY)).trans cY
        have hj3 := own_below hJ HJ.out hb3
        have hbx3 : Boxed w3 W.heap.size 94 (.func (.yield l) #[] #[]) := (hb3.block _ (Array.getElem?_eq_some_iff.1 (show W2.heap[W.heap.size]? = _ from HBX.out)).1).trans HBX.out
        obtain ⟨fn, tmps, assign, body, hy, hR⟩ := hY (scanL lo at1 A) (key, r) w3 hj3 ⟨scanL lo at1 Q', by rw [HST2.out]; rfl⟩ 6
        have HB3 := Lib.hid hbx3
        clear hb3 hj3 hbx3 HC1
        gi_wp2_with (refine hR.mono ?_; clear hR; rintro e W4 ⟨hk, ⟨rfl, hj4⟩ | ⟨rfl, hx4⟩⟩)
        · exact ⟨(KT.of_below H3.out).trans (hk.more HLE.out), ⟨A ++ [(key, (v, L))], Q', HA.out.1, HA.out.2, by rw [HSN2.out]; exact hj4⟩, hk.box HB3.out (Nat.le_refl _) hw⟩
        · exact ⟨(KT.of_below H3.out).trans (hk.more HLE.out), rfl, _, ⟨scanL lo at1 Q', by rw [HST2.out, ← List.append_assoc]; rfl⟩, hx4⟩
  case done =>
    rintro D W2 hD ⟨⟨A, Q, e1, e2, hj⟩, _⟩ hK
    have hA : A = S2 := by
      have h6 := HPR.out.symm.trans e2
      rw [e1, List.map_append] at h6
      have h7 := congrArg List.length h6
      simp at h7
      rw [e1, h7, List.append_nil]
    subst hA
    gi_wp2
    refine ⟨by simp, .inl ⟨_, _, rfl, run_takeDeferred hK, ?_⟩⟩
    exact ⟨_, results_none rfl _ _ _, ⟨_, rfl⟩, .inl (hJ.putObj _ hj (by have := HZ2.out; omega) hK rfl)⟩
  case stop =>
    rintro D c pre W2 hD hx ⟨rfl, out, ht, hj⟩ hK
    gi_wp2
    refine ⟨by simp, .inl ⟨_, _, rfl, run_takeDeferred hK, ?_⟩⟩
    exact ⟨_, results_none rfl _ _ _, ⟨_, rfl⟩, .inr ⟨out, ht, hJx.putObj _ hj (by have := HZ2.out; omega) hK rfl⟩⟩
end Go.Proofs.Ytcgjiddiegepkaa

/- txn: what the store has below a hi, as writes. -/
namespace Go.Proofs.Ytcgjiddiegepkaa
open Go.RowKit
attribute [local go_sem] Oper.semAt_some wide_fn wide_depth
set_option maxRecDepth 100000 in
set_option maxHeartbeats 4000000 in
theorem storedH_any {Wr : TypeId → Prop} {w W : World} {B s mb b1 b2 b3 tb wb : Nat} {t : Tr} {S : ChsVS} {cnt low : Int} {k : Nat} (h : StVS w B s mb t S cnt low k) (hk : k ≤ 100000) {lo : List UInt8} {hic : UInt8} {his : List UInt8} {at1 : Int} (htx : TxB w tb s at1 wb) (hL : TxL w b1 b2 b3 tb lo (hic :: his)) (hW : Below w.heap.size w W)
    (hw1 : ¬ Wr 94) (hw2 : ¬ Wr 109) (hw3 : ¬ Wr 25) (hw4 : ¬ Wr 9) (hw5 : ¬ Wr 3) :
    Seqs Try.prog 70 #[.pointer (some ⟨b1, 0, none⟩), .pointer (some ⟨b2, 0, none⟩), .pointer (some ⟨b3, 0, none⟩)] (fun p : Value × Value => #[p.1, p.2]) (fun W2 => Below w.heap.size w W2) Wr ((scanL lo at1 (cutS lo (hic :: his) S)).map stW) W := by
  intro l J Jx hJ hJx hOk hY h0
  obtain ⟨S2, hS2⟩ : ∃ S2, S2 = cutS lo (hic :: his) S := ⟨_, rfl⟩
  rw [← hS2] at hY ⊢
  have hm : Try.prog.follows .mixedOrders = true := by kernel_rfl
  have hdd : ∀ k : Nat, (Fence.wide.depth.isSome = true → 1 ≤ k) := fun k h => by cases h
  obtain ⟨W1, hW1⟩ : ∃ W1, W1 = (W.alloc (.cells #[.func (.yield l) #[] #[]] 109)).drew := ⟨_, rfl⟩
  have l1 : Below W.heap.size W W1 := by rw [hW1]; exact Below.drewsN (below_alloc W _) 1
  have hz1 : W1.heap.size = W.heap.size + 1 := by rw [hW1]; simp
  have lw1 : Below w.heap.size w W1 := hW.trans (l1.mono hW.size)
  obtain ⟨q1, q2, q3⟩ := hL.below lw1
  obtain ⟨p0, p1, _⟩ := (htx.below lw1).cells
  have bY : Boxed W1 W.heap.size 109 (.func (.yield l) #[] #[]) := by rw [hW1]; exact Boxed.new W 109 (.func (.yield l) #[] #[])
  have CS := Lib.hid (scan_any W1 s lo (hic :: his) at1)
  refine (callsIn_wide (n := 9)).1 ?_
  refine callsIn_of_wp_marks Try.func70 rfl trivial ?_ rfl
  simp only [Try.ntmps70, List.size_toArray, List.length_cons, List.length_nil, Nat.reduceAdd, Nat.reduceSub, Array.replicate_succ, Array.replicate_zero, List.push_toArray, List.append_toArray, List.nil_append, List.cons_append]
  gi_wp2_with fail
  refine onlyF_cut (fun a W' => a = { tmps := #[.func (.yield l) #[] #[], .pointer (some ⟨b1, 0, none⟩), .pointer (some ⟨b2, 0, none⟩), .pointer (some ⟨b3, 0, none⟩), .pointer (some ⟨W.heap.size, 0, none⟩), undef, undef, .pointer (some ⟨tb, 0, none⟩), .pointer (some ⟨tb, 0, none⟩), .pointer (some ⟨tb, 0, none⟩), .pointer (some ⟨s, 0, none⟩), str lo, str (hic :: his), .pointer (some ⟨tb, 0, none⟩), .pointer (some ⟨tb, 0, none⟩), .pointer (some ⟨tb, 1, none⟩), .int .i64 at1, .func (.func 56) #[] #[.pointer (some ⟨W.heap.size + 1, 0, none⟩), .pointer (some ⟨W.heap.size + 1 + 1, 0, none⟩), .pointer (some ⟨W.heap.size + 1 + 2, 0, none⟩), .pointer (some ⟨W.heap.size + 1 + 3, 0, none⟩)], undef, undef, undef, undef, undef, undef, undef, undef, undef], defers := [] } ∧ W' = scanW W1 s lo (hic :: his) at1) ?_ ?_
  · have HS : Hid (∀ W', Below W1.heap.size W1 W' → W'.cell? ⟨b1, 0, none⟩ = some (.pointer (some ⟨tb, 0, none⟩)) ∧ W'.cell? ⟨b2, 0, none⟩ = some (str lo) ∧ W'.cell? ⟨b3, 0, none⟩ = some (str (hic :: his)) ∧ W'.cell? ⟨tb, 0, none⟩ = some (.pointer (some ⟨s, 0, none⟩)) ∧ W'.cell? ⟨tb, 1, none⟩ = some (.int .i64 at1)) := Lib.hid (fun W' hb => by
      obtain ⟨q1, q2, q3⟩ := hL.below (lw1.trans (hb.mono lw1.size))
      obtain ⟨p0, p1, _⟩ := (htx.below (lw1.trans (hb.mono lw1.size))).cells
      exact ⟨q1, q2, q3, p0, p1⟩)
    clear q1 q2 q3 p0 p1 bY hz1 l1 lw1
    refine wpIn_wide.2 ?_
    subst hW1
    go_region_held3 (fun W' => W'.cell? ⟨b1, 0, none⟩ = some (.pointer (some ⟨tb, 0, none⟩)) ∧ W'.cell? ⟨b2, 0, none⟩ = some (str lo) ∧ W'.cell? ⟨b3, 0, none⟩ = some (str (hic :: his)) ∧ W'.cell? ⟨tb, 0, none⟩ = some (.pointer (some ⟨s, 0, none⟩)) ∧ W'.cell? ⟨tb, 1, none⟩ = some (.int .i64 at1))
      (first
        | (exact HS.out _ (Below.refl _ _))
        | (exact HS.out _ (scanW_box _ _ _ _ _).2)
        | go_keep)
      ((go_at_call 36; refine CS.out.mono ?_; rintro e w2 ⟨rfl, rfl⟩))
    all_goals
      dsimp only [OnlyF]
      exact ⟨rfl, rfl⟩
  · rintro a w2 ⟨rfl, hw2'⟩
    obtain ⟨_, l2⟩ := scanW_box W1 s lo (hic :: his) at1
    have hbx := bxS_new W1 s lo (hic :: his) at1
    rw [← hw2'] at hbx l2
    have hz2 : w2.heap.size = W.heap.size + 5 := by rw [hw2']; simp [scanW, hz1]
    have lw2 : Below w.heap.size w w2 := lw1.trans (l2.mono (by have := lw1.size; omega))
    have bY2 : Boxed w2 W.heap.size 109 (.func (.yield l) #[] #[]) := (l2.block _ (by omega)).trans bY
    obtain ⟨b, hb⟩ : ∃ b, b = W.heap.size + 1 := ⟨_, rfl⟩
    rw [hz1, ← hb] at hbx
    rw [← hb]
    have hbW := hb
    have hseq : ∀ W', Below w2.heap.size w2 W' → Seqs Try.prog 56 #[.pointer (some ⟨b, 0, none⟩), .pointer (some ⟨b + 1, 0, none⟩), .pointer (some ⟨b + 2, 0, none⟩), .pointer (some ⟨b + 3, 0, none⟩)] (fun p : PairT => #[str p.1, str p.2]) (fun W2 => Below w.heap.size w W2 ∧ ScB W2 b (b + 1) (b + 2) (b + 3) s lo (hic :: his) at1) Wr (scanL lo at1 S2) W' := fun W' hW' => by
      rw [hS2]
      exact scanOkH_any h hk (hbx.below hW').sc (lw2.trans (hW'.mono lw2.size)) hw1
    have hj0 : J (([] : List PairT).map stW) w2 := own_below hJ (own_below hJ h0 l1) l2
    have HZ := Lib.hid (And.intro hz2 hbW)
    clear hS2
    clear CS hW1 l1 hz1 lw1 q1 q2 q3 p0 p1 bY hw2' l2 hb h htx hL
    gi_wp2_with fail
    refine range_law (gf := 56) (lb := #[.pointer (some ⟨b, 0, none⟩), .pointer (some ⟨b + 1, 0, none⟩), .pointer (some ⟨b + 2, 0, none⟩), .pointer (some ⟨b + 3, 0, none⟩)]) rfl (enters_of Try.func56 (by kernel_rfl) rfl) (Wr := Wr) (xs := scanL lo at1 S2) hseq (by intro x; rfl)
      (fun pre W2 => J (pre.map stW) W2 ∧ Boxed W2 W.heap.size 109 (.func (.yield l) #[] #[]) ∧ BxS W2 b (b + 1) (b + 2) (b + 3) s lo (hic :: his) at1)
      (fun c _ W2 => c = .ret ∧ ∃ out, (∃ t, (scanL lo at1 S2).map stW = out ++ t) ∧ Jx out W2)
      (OwnFrom.and ?ownj (OwnFrom.and (boxed_ownT (Tw := fun _ => False) _ _ (fun _ : List PairT => .func (.yield l) #[] #[]) (by simp) |>.from _ |>.plain) (bxS_own _ _ _ _ _ _ _ _ _))) (fun c => ?ownx) ⟨hj0, bY2, hbx⟩ ?okk ?a1 ?assign ?body ?done ?stop
    case ownj =>
      rintro s' X Y row hj hg hr
      exact hJ _ _ _ _ hj hg (fun r e => ⟨by have := (hr r e).1; have := HZ.out.1; omega, (hr r e).2⟩)
    case ownx =>
      rintro s' X Y row ⟨hc, out, ht, hj⟩ hg hr
      exact ⟨hc, out, ht, hJx _ _ _ _ hj hg (fun r e => ⟨by have := (hr r e).1; have := HZ.out.1; omega, (hr r e).2⟩)⟩
    case okk =>
      rintro pre W2 ⟨hj, _, hx⟩
      exact ⟨hOk _ _ hj, hx.sc⟩
    case assign =>
      intro l x W' K hK
      gi_wp2
      exact hK
    case body =>
      rintro l2 pre ⟨key, v⟩ W2 hl2 ⟨hj, hby, hx⟩ ⟨tl, ht⟩
      have cY : W2.cell? ⟨W.heap.size, 0, none⟩ = some (.func (.yield l) #[] #[]) := hby.cell
      have hx1 : (scanL lo at1 S2).map stW = pre.map stW ++ stW (key, v) :: tl.map stW := by rw [ht]; simp
      obtain ⟨fn, tmps, assign, body, hy, hR⟩ := hY (pre.map stW) (stW (key, v)) W2 hj ⟨_, hx1⟩ 6
      have HH := Lib.hid (And.intro hx1 (And.intro hby hx))
      rw [show stW (key, v) = (str key, .agg #[str key, str v, .bool false]) from rfl] at hy hR
      dsimp only at hy hR
      clear hj hby hx hx1 ht hseq hj0 bY2 hbx
      dsimp only
      gi_wp2_with (refine hR.mono ?_; clear hR; rintro e W4 ⟨hk, ⟨rfl, hj4⟩ | ⟨rfl, hx4⟩⟩)
      · obtain ⟨e1, e2, e3⟩ := HH.out
        have hz := HZ.out
        refine ⟨hk.more (by omega), by rw [List.map_append]; exact hj4, hk.box e2 (Nat.le_refl _) hw2, e3.kt hk (by omega) hw3 hw4 hw5⟩
      · obtain ⟨e1, e2, e3⟩ := HH.out
        have hz := HZ.out
        exact ⟨hk.more (by omega), rfl, _, ⟨_, by rw [e1, ← List.append_cons]; rfl⟩, hx4⟩
    case done =>
      rintro D W2 hD ⟨hj, _, _⟩ hK
      gi_wp2
      refine ⟨by simp, .inl ⟨_, _, rfl, run_takeDeferred hK, ?_⟩⟩
      exact ⟨_, results_none rfl _ _ _, ⟨_, rfl⟩, .inl (hJ.putObj _ hj (by have := HZ.out.1; omega) hK rfl)⟩
    case stop =>
      rintro D c pre W2 hD hx ⟨rfl, out, ht, hj⟩ hK
      gi_wp2
      refine ⟨by simp, .inl ⟨_, _, rfl, run_takeDeferred hK, ?_⟩⟩
      exact ⟨_, results_none rfl _ _ _, ⟨_, rfl⟩, .inr ⟨out, ht, hJx.putObj _ hj (by have := HZ.out.1; omega) hK rfl⟩⟩
end Go.Proofs.Ytcgjiddiegepkaa

/- txn: the transaction's own writes below a hi. -/
namespace Go.Proofs.Ytcgjiddiegepkaa
open Go.RowKit
attribute [local go_sem] Oper.semAt_some wide_fn wide_depth
theorem below_spanVW (w : World) (b : Nat) (lo hi : Value) : Below w.heap.size w (spanWVW w b lo hi) := by
  unfold spanWVW
  exact (((Below.refl _ w).alloc (Nat.le_refl _) _).alloc (by simp) _).alloc (by simp; omega) _
theorem spanVW_cells (w : World) (b : Nat) (lo hi : List UInt8) (w2 : World) (h : w2 = spanWVW w b (str lo) (str hi)) :
    w2.cell? ⟨w.heap.size, 0, none⟩ = some (.pointer (some ⟨b, 0, none⟩)) ∧ w2.cell? ⟨w.heap.size + 1, 0, none⟩ = some (str lo) ∧ w2.cell? ⟨w.heap.size + 2, 0, none⟩ = some (str hi) := by
  subst h
  unfold spanWVW
  obtain ⟨A, hA⟩ : ∃ A, A = w.alloc (.cells #[.pointer (some ⟨b, 0, none⟩)] 72) := ⟨_, rfl⟩
  rw [← hA]
  obtain ⟨C, hC⟩ : ∃ C, C = A.alloc (.cells #[str lo] 9) := ⟨_, rfl⟩
  rw [← hC]
  have a0 : A.heap.size = w.heap.size + 1 := by rw [hA]; simp
  have a1 : C.heap.size = w.heap.size + 2 := by rw [hC]; simp [a0]
  have e0 : A.cell? ⟨w.heap.size, 0, none⟩ = some (.pointer (some ⟨b, 0, none⟩)) := by rw [hA]; simp
  have e1 : C.cell? ⟨A.heap.size, 0, none⟩ = some (str lo) := by rw [hC]; simp
  have e2 : (C.alloc (.cells #[str hi] 9)).cell? ⟨C.heap.size, 0, none⟩ = some (str hi) := by simp
  have b1 : Below A.heap.size A C := by rw [hC]; exact below_alloc A _
  have b2 : Below C.heap.size C (C.alloc (.cells #[str hi] 9)) := below_alloc C _
  rw [a0] at e1
  rw [a1] at e2
  refine ⟨?_, ?_, e2⟩
  · rw [b2.cell (p := ⟨w.heap.size, 0, none⟩) (by show w.heap.size < _; omega), b1.cell (p := ⟨w.heap.size, 0, none⟩) (by show w.heap.size < _; omega)]; exact e0
  · rw [b2.cell (p := ⟨w.heap.size + 1, 0, none⟩) (by show w.heap.size + 1 < _; omega)]; exact e1
set_option maxRecDepth 100000 in
set_option maxHeartbeats 2000000 in
theorem spans2VW_any {Wr : TypeId → Prop} {b B0 B1 B2 : Nat} {t : Tr} {lo hi : Value} {w W : World} (hm : MQ w b t) (hw : WS KSVW VSVW t) (hlo : KSVW lo) (hhi : KSVW hi) (q0 : W.cell? ⟨B0, 0, none⟩ = some (.pointer (some ⟨b, 0, none⟩)))
    (q1 : W.cell? ⟨B1, 0, none⟩ = some lo) (q2 : W.cell? ⟨B2, 0, none⟩ = some hi) (hW : Below w.heap.size w W) :
    Seqs Try.prog 82 #[.pointer (some ⟨B0, 0, none⟩), .pointer (some ⟨B1, 0, none⟩), .pointer (some ⟨B2, 0, none⟩)] (fun p => #[p.1, p.2]) (NQ w) Wr (btwVW lo hi t) W := by
  intro l J Jx hJ hJx hOk hY h0
  obtain ⟨T, o, hb, ht⟩ := hm
  have hb' : W.heap[b]? = some (.cells #[.pointer o, .int .i64 ((prs t).length : Int)] T (0, 0)) := by rw [hW.block b (Array.getElem?_eq_some_iff.1 hb).1]; exact hb
  have c0 : W.cell? ⟨b, 0, none⟩ = some (.pointer o) := by simp [World.cell?, hb']
  have hr : CallsIn Fence.wide 8 Try.prog 83 #[.pointer o, lo, hi, .func (.yield l) #[] #[]] W.drew fun e W1 => ∃ c, e = .returned (.bool c) ∧ (J (btwVW lo hi t) W1 ∨ ∃ pre, (∃ q, btwVW lo hi t = pre ++ q) ∧ Jx pre W1) := by
    refine (betweenVW_any (xs := btwVW lo hi t) hlo hhi hJ hOk hY t o [] W.drew 8 ht hw (own_drew hJ h0) ⟨[], by simp⟩).mono ?_
    rintro e W1 (⟨rfl, h⟩ | ⟨rfl, q, hq, h⟩)
    · exact ⟨true, rfl, .inl (by simpa using h)⟩
    · exact ⟨false, rfl, .inr ⟨q, hq, by simpa using h⟩⟩
  have hm : Try.prog.follows .mixedOrders = true := by kernel_rfl
  clear hb hb' ht
  refine (callsIn_wide (n := 9)).1 ?_
  refine callsIn_of_wp Try.func82 rfl trivial ?_ rfl
  simp only [Try.ntmps82, List.size_toArray, List.length_cons, List.length_nil, Nat.reduceAdd, Nat.reduceSub, Array.replicate_succ, Array.replicate_zero, List.push_toArray, List.append_toArray, List.nil_append, List.cons_append]
  gi_wp2
  gi_region_with_o (gi_at_call 83; refine hr.mono ?_; rintro e W1 ⟨c, rfl, hP⟩)
  all_goals
    gi_wp2
    go_end0
    exact ⟨⟨_, rfl⟩, hP⟩
/-- The world behind written. -/
def wrHW (W : World) (tb wb : Nat) (lo hi : List UInt8) : World := spanWVW ((W.alloc (.cells #[.pointer (some ⟨tb, 0, none⟩)] 30)).alloc (.cells #[str lo] 9)).drew wb (str lo) (str hi)
theorem txn_writtenH (W : World) (tb s wb : Nat) (at1 : Int) (lo : List UInt8) (hic : UInt8) (his : List UInt8) (htx : TxB W tb s at1 wb) : Calls Try.prog 52 #[.pointer (some ⟨tb, 0, none⟩), str lo, str (hic :: his)] W fun e w' =>
    e = .returned (.func (.func 82) #[] #[.pointer (some ⟨W.heap.size + 2, 0, none⟩), .pointer (some ⟨W.heap.size + 3, 0, none⟩), .pointer (some ⟨W.heap.size + 4, 0, none⟩)]) ∧
    w' = wrHW W tb wb lo (hic :: his) := by
  obtain ⟨W1, hW1⟩ : ∃ W1, W1 = (W.alloc (.cells #[.pointer (some ⟨tb, 0, none⟩)] 30)).alloc (.cells #[str lo] 9) := ⟨_, rfl⟩
  have hb1 : Below W.heap.size W W1 := by rw [hW1]; exact ((Below.refl _ W).alloc (Nat.le_refl _) _).alloc (by simp) _
  have hz1 : W1.heap.size = W.heap.size + 2 := by rw [hW1]; simp
  have hz1d : W1.drew.heap.size = W.heap.size + 2 := hz1
  have CR := Lib.hid (mspanVW_any wb (str lo) (str (hic :: his)) ⟨lo, rfl⟩ ⟨hic :: his, rfl⟩ W1.drew)
  rw [hz1d] at CR
  have HS : Hid (∀ W', Below W1.heap.size W1 W' → W'.cell? ⟨W.heap.size, 0, none⟩ = some (.pointer (some ⟨tb, 0, none⟩)) ∧ W'.cell? ⟨W.heap.size + 1, 0, none⟩ = some (str lo) ∧ W'.cell? ⟨tb, 2, none⟩ = some (.pointer (some ⟨wb, 0, none⟩))) := Lib.hid (fun W' hb => by
    have e0 : W1.cell? ⟨W.heap.size, 0, none⟩ = some (.pointer (some ⟨tb, 0, none⟩)) := by rw [hW1]; simp
    have e1 : W1.cell? ⟨W.heap.size + 1, 0, none⟩ = some (str lo) := by rw [hW1]; simp
    exact ⟨(hb.cell (p := ⟨W.heap.size, 0, none⟩) (World.block_lt_of_cell? W1 _ e0)).trans e0, (hb.cell (p := ⟨W.heap.size + 1, 0, none⟩) (World.block_lt_of_cell? W1 _ e1)).trans e1, (htx.below (hb1.trans (hb.mono hb1.size))).cells.2.2⟩)
  have HE : Hid (wrHW W tb wb lo (hic :: his) = spanWVW W1.drew wb (str lo) (str (hic :: his))) := Lib.hid (by unfold wrHW; rw [hW1])
  have HBS := Lib.hid (below_spanVW W1.drew wb (str lo) (str (hic :: his)))
  have HB1 : Hid (Below W1.heap.size W1 W1.drew) := Lib.hid (Below.drewsN (Below.refl _ _) 1)
  clear htx hb1 hz1 hz1d
  go_enter Try.func52, Try.ntmps52
  go_wp2_with fail
  subst hW1
  go_region_held3 (fun W' => W'.cell? ⟨W.heap.size, 0, none⟩ = some (.pointer (some ⟨tb, 0, none⟩)) ∧ W'.cell? ⟨W.heap.size + 1, 0, none⟩ = some (str lo) ∧ W'.cell? ⟨tb, 2, none⟩ = some (.pointer (some ⟨wb, 0, none⟩)))
    (first
      | (exact HS.out _ HB1.out)
      | (exact HS.out _ (HB1.out.trans (HBS.out.mono HB1.out.size)))
      | go_keep)
    ((first
      | (go_at_call 71; refine CR.out.mono ?_; rintro e w2 ⟨rfl, rfl⟩)
      | fail))
  all_goals
    go_wp2_with fail
    go_ret
    exact ⟨rfl, HE.out.symm⟩
end Go.Proofs.Ytcgjiddiegepkaa

/- txn: Scan below a hi, ranged over. -/
namespace Go.Proofs.Ytcgjiddiegepkaa
open Go.RowKit
attribute [local go_sem] Oper.semAt_some wide_fn wide_depth
abbrev rgF (n : Nat) : Value := .func (.func 82) #[] #[.pointer (some ⟨n + 5, 0, none⟩), .pointer (some ⟨n + 6, 0, none⟩), .pointer (some ⟨n + 7, 0, none⟩)]
structure Mg1H (W' : World) (n tb : Nat) (lo hi : List UInt8) : Prop where
  s1 : Boxed W' n 30 (.pointer (some ⟨tb, 0, none⟩))
  s2 : Boxed W' (n + 1) 9 (str lo)
  s3 : Boxed W' (n + 2) 9 (str hi)
structure Mg2H (W' : World) (n tb wb : Nat) (lo hi : List UInt8) : Prop where
  m1 : Mg1H W' n tb lo hi
  w1 : Boxed W' (n + 5) 72 (.pointer (some ⟨wb, 0, none⟩))
  w2 : Boxed W' (n + 6) 9 (str lo)
  w3 : Boxed W' (n + 7) 9 (str hi)
structure Mg3H (W' : World) (n tb wb : Nat) (lo hi : List UInt8) : Prop where
  m2 : Mg2H W' n tb wb lo hi
  g1 : Boxed W' (n + 8) 96 (stF n)
  g2 : Boxed W' (n + 9) 96 (rgF n)
theorem Mg1H.up {W W' : World} {n tb : Nat} {lo hi : List UInt8} (h : Mg1H W n tb lo hi) (hb : Below W.heap.size W W') : Mg1H W' n tb lo hi := ⟨boxed_up h.s1 hb, boxed_up h.s2 hb, boxed_up h.s3 hb⟩
theorem Mg2H.up {W W' : World} {n tb wb : Nat} {lo hi : List UInt8} (h : Mg2H W n tb wb lo hi) (hb : Below W.heap.size W W') : Mg2H W' n tb wb lo hi := ⟨h.m1.up hb, boxed_up h.w1 hb, boxed_up h.w2 hb, boxed_up h.w3 hb⟩
theorem Mg3H.up {W W' : World} {n tb wb : Nat} {lo hi : List UInt8} (h : Mg3H W n tb wb lo hi) (hb : Below W.heap.size W W') : Mg3H W' n tb wb lo hi := ⟨h.m2.up hb, boxed_up h.g1 hb, boxed_up h.g2 hb⟩
theorem OnW.drew {W1 W' : World} {m : Nat} (h : OnW W1 m W') : OnW W1 m W'.drew := ⟨h.1.trans ((Below.drewsN (Below.refl _ _) 1).mono h.1.size), h.2⟩
theorem stored_onH {W1 W' : World} {n tb : Nat} {lo hi : List UInt8} (h : OnW W1 n W') : Calls Try.prog 51 #[.pointer (some ⟨tb, 0, none⟩), str lo, str hi] W' fun e w' => e = .returned (stF n) ∧ Hid (OnW W1 (n + 3) w' ∧ Mg1H w' n tb lo hi) := by
  refine (txn_stored W' tb lo hi).mono ?_
  rintro e w' ⟨rfl, rfl⟩
  have a1 := h.alloc (.cells #[.pointer (some ⟨tb, 0, none⟩)] 30)
  have a2 := a1.alloc (.cells #[str lo] 9)
  have a3 := a2.alloc (.cells #[str hi] 9)
  refine ⟨by rw [h.2], Lib.hid ⟨a3, ((boxed_at h.2).alloc _).alloc _, (boxed_at a1.2).alloc _, boxed_at a2.2⟩⟩
theorem written_onH {W1 W' : World} {n tb s wb : Nat} {at1 : Int} {lo : List UInt8} {hic : UInt8} {his : List UInt8} (htx : ∀ W', Below W1.heap.size W1 W' → TxB W' tb s at1 wb) (h : Hid (OnW W1 (n + 3) W' ∧ Mg1H W' n tb lo (hic :: his))) : Calls Try.prog 52 #[.pointer (some ⟨tb, 0, none⟩), str lo, str (hic :: his)] W' fun e w' => e = .returned (rgF n) ∧ Hid (OnW W1 (n + 8) w' ∧ Mg2H w' n tb wb lo (hic :: his)) := by
  obtain ⟨h1, h2⟩ := h.out
  refine (txn_writtenH W' tb s wb at1 lo hic his (htx _ h1.1)).mono ?_
  rintro e w' ⟨rfl, hw⟩
  unfold wrHW spanWVW at hw
  have a1 := h1.alloc (.cells #[.pointer (some ⟨tb, 0, none⟩)] 30)
  have a2 := (a1.alloc (.cells #[str lo] 9)).drew
  have a3 := a2.alloc (.cells #[.pointer (some ⟨wb, 0, none⟩)] 72)
  have a4 := a3.alloc (.cells #[str lo] 9)
  have a5 := a4.alloc (.cells #[str (hic :: his)] 9)
  rw [← hw] at a5
  have hbl : Below W'.heap.size W' w' := by
    rw [hw]
    exact ((((Below.drewsN (((Below.refl _ W').alloc (Nat.le_refl _) _).alloc (by simp) _) 1).alloc (by simp; omega) _).alloc (by simp; omega) _).alloc (by simp; omega) _)
  refine ⟨by rw [h1.2], Lib.hid ⟨a5, h2.up hbl, ?_, ?_, ?_⟩⟩
  · rw [hw]; exact ((boxed_at a2.2).alloc _).alloc _
  · rw [hw]; exact (boxed_at a3.2).alloc _
  · rw [hw]; exact boxed_at a4.2
theorem merge_onH {W1 W' : World} {n tb wb : Nat} {lo hi : List UInt8} (h : Hid (OnW W1 (n + 8) W' ∧ Mg2H W' n tb wb lo hi)) : Calls Try.prog 50 #[stF n, rgF n] W' fun e w' => e = .returned (.func (.func 67) #[] #[.pointer (some ⟨n + 8, 0, none⟩), .pointer (some ⟨n + 9, 0, none⟩)]) ∧ Hid (OnW W1 (n + 10) w' ∧ Mg3H w' n tb wb lo hi) := by
  obtain ⟨h1, h2⟩ := h.out
  refine (merge_anyVW (va := stF n) (.inr ⟨_, _, rfl⟩) 82 #[.pointer (some ⟨n + 5, 0, none⟩), .pointer (some ⟨n + 6, 0, none⟩), .pointer (some ⟨n + 7, 0, none⟩)] W').mono ?_
  rintro e w' ⟨rfl, rfl⟩
  have a1 := h1.alloc (.cells #[stF n] 96)
  have a2 := a1.alloc (.cells #[rgF n] 96)
  refine ⟨by rw [h1.2], Lib.hid ⟨a2, (h2.up (below_alloc W' _)).up (below_alloc _ _), (boxed_at h1.2).alloc _, boxed_at a1.2⟩⟩
/-- What a transaction sees below a hi, as Merge has it. -/
def txLH (lo hi : List UInt8) (at1 : Int) (S : ChsVS) (tw : Tr) : List (Value × Value) := mrgL ((scanL lo at1 (cutS lo hi S)).map stW) (btwVW (str lo) (str hi) tw)
set_option maxRecDepth 100000 in
set_option maxHeartbeats 8000000 in
theorem scanTxH_any {Wr : TypeId → Prop} {w W : World} {B s mb b1 b2 b3 tb wb : Nat} {t tw : Tr} {S : ChsVS} {cnt low : Int} {k : Nat} (h : StVS w B s mb t S cnt low k) (hk : k ≤ 100000) (hmq : MQ w wb tw) (hws : WS KSVW VSVW tw) (hlw : (prs tw).length ≤ 100000) (hrs : Ris (prs tw)) {lo : List UInt8} {hic : UInt8} {his : List UInt8} {at1 : Int} (htx : TxB w tb s at1 wb) (hL : TxL W b1 b2 b3 tb lo (hic :: his)) (hW : Below w.heap.size w W)
    (hw1 : ¬ Wr 126) (hw2 : ¬ Wr 129) (hw3 : ¬ Wr 109) (hw4 : ¬ Wr 58) (hw5 : ¬ Wr 94) (hw6 : ¬ Wr 9) :
    SeqsW MrgTVW Try.prog 49 #[.pointer (some ⟨b1, 0, none⟩), .pointer (some ⟨b2, 0, none⟩), .pointer (some ⟨b3, 0, none⟩)] (fun p : PairT => #[str p.1, str p.2]) (fun W2 => Below w.heap.size w W2) Wr (seenW (txLH lo (hic :: his) at1 S tw)) W := by
  intro l J Jx hJ hJx hOk hY h0
  obtain ⟨xs, hxs⟩ : ∃ xs, xs = txLH lo (hic :: his) at1 S tw := ⟨_, rfl⟩
  rw [← hxs] at hY ⊢
  obtain ⟨W1, hW1⟩ : ∃ W1, W1 = (W.alloc (.cells #[.func (.yield l) #[] #[]] 94)).drew := ⟨_, rfl⟩
  have l1 : Below W.heap.size W W1 := by rw [hW1]; exact Below.drewsN (below_alloc W _) 1
  have hz1 : W1.heap.size = W.heap.size + 1 := by rw [hW1]; simp
  have lw1 : Below w.heap.size w W1 := hW.trans (l1.mono hW.size)
  have bY : Boxed W1 W.heap.size 94 (.func (.yield l) #[] #[]) := by rw [hW1]; exact Boxed.new W 94 (.func (.yield l) #[] #[])
  obtain ⟨n, hn⟩ : ∃ n, n = W.heap.size + 1 := ⟨_, rfl⟩
  have HB0 : Hid (OnW W1 n W1) := Lib.hid ⟨Below.refl _ _, by rw [hn]; exact hz1⟩
  have HTX : Hid (∀ W', Below W1.heap.size W1 W' → TxB W' tb s at1 wb) := Lib.hid (fun W' hb => htx.below (lw1.trans (hb.mono lw1.size)))
  have HS : Hid (∀ W', Below W1.heap.size W1 W' → W'.cell? ⟨b1, 0, none⟩ = some (.pointer (some ⟨tb, 0, none⟩)) ∧ W'.cell? ⟨b2, 0, none⟩ = some (str lo) ∧ W'.cell? ⟨b3, 0, none⟩ = some (str (hic :: his))) := Lib.hid (fun W' hb => by
    obtain ⟨q1, q2, q3⟩ := (hL.below l1).below hb
    exact ⟨q1, q2, q3⟩)
  refine (callsIn_wide (n := 9)).1 ?_
  refine callsIn_of_wp_marks Try.func49 rfl trivial ?_ rfl
  simp only [Try.ntmps49, List.size_toArray, List.length_cons, List.length_nil, Nat.reduceAdd, Nat.reduceSub, Array.replicate_succ, Array.replicate_zero, List.push_toArray, List.append_toArray, List.nil_append, List.cons_append]
  gi_wp2_with fail
  refine onlyF_cut (fun a W' => a = { tmps := #[.func (.yield l) #[] #[], .pointer (some ⟨b1, 0, none⟩), .pointer (some ⟨b2, 0, none⟩), .pointer (some ⟨b3, 0, none⟩), .pointer (some ⟨W.heap.size, 0, none⟩), undef, undef, .pointer (some ⟨tb, 0, none⟩), str lo, str (hic :: his), stF n, .pointer (some ⟨tb, 0, none⟩), str lo, str (hic :: his), rgF n, .func (.func 67) #[] #[.pointer (some ⟨n + 8, 0, none⟩), .pointer (some ⟨n + 9, 0, none⟩)], undef, undef, undef, undef, undef, undef, undef, undef, undef, undef, undef, undef, undef], defers := [] } ∧ Hid (OnW W1 (n + 10) W' ∧ Mg3H W' n tb wb lo (hic :: his))) ?_ ?_
  · clear bY hz1 l1 lw1 hn
    refine wpIn_wide.2 ?_
    subst hW1
    go_region_held3 (fun W' => W'.cell? ⟨b1, 0, none⟩ = some (.pointer (some ⟨tb, 0, none⟩)) ∧ W'.cell? ⟨b2, 0, none⟩ = some (str lo) ∧ W'.cell? ⟨b3, 0, none⟩ = some (str (hic :: his)))
      (first
        | (exact HS.out _ (Below.refl _ _))
        | (exact HS.out _ HC.out.1.1)
        | go_keep)
      ((first
        | (go_at_call 51; refine Calls.mono (stored_onH HB0.out) ?_; rintro e w2 ⟨rfl, HC⟩)
        | (go_at_call 52; refine Calls.mono (written_onH HTX.out HC) ?_; rintro e w2 ⟨rfl, HC⟩)
        | (go_at_call 50; refine Calls.mono (merge_onH HC) ?_; rintro e w2 ⟨rfl, HC⟩)
        | fail))
    all_goals
      dsimp only [OnlyF]
      exact ⟨rfl, HC⟩
  · rintro a w2 ⟨rfl, HM⟩
    obtain ⟨⟨l2, hz2⟩, hmg⟩ := HM.out
    have lw2 : Below w.heap.size w w2 := lw1.trans (l2.mono (by have := lw1.size; omega))
    have bY2 : Boxed w2 W.heap.size 94 (.func (.yield l) #[] #[]) := boxed_up bY l2
    have hxa : ((scanL lo at1 (cutS lo (hic :: his) S)).map stW).length ≤ 1000000 := by
      rw [List.length_map]
      have := List.length_filterMap_le (scan1 lo at1) (cutS lo (hic :: his) S)
      have h2 : (cutS lo (hic :: his) S).length ≤ S.length := List.length_filter_le _ _
      have := h.hk.2.1
      unfold scanL; omega
    have ebt := btwVW_filter ordVW (K := KSVW) (V := VSVW) ⟨lo, rfl⟩ ⟨hic :: his, rfl⟩ hws hrs
    have hkb : ∀ p ∈ btwVW (str lo) (str (hic :: his)) tw, KSVW p.1 ∧ VSVW p.2 := fun p hp => ws_keys hws p (by rw [ebt] at hp; exact (List.mem_filter.1 hp).1)
    have hxb : (btwVW (str lo) (str (hic :: his)) tw).length ≤ 1000000 := by
      have := List.length_filter_le (fun p : Value × Value => !lessV p.1 (str lo) && lessV p.1 (str (hic :: his))) (prs tw)
      rw [ebt]; omega
    have hseq : ∀ W', Below w2.heap.size w2 W' → SeqsW MrgTVW Try.prog 67 #[.pointer (some ⟨n + 8, 0, none⟩), .pointer (some ⟨n + 9, 0, none⟩)] (fun p : Value × Value => #[p.1, p.2]) (fun W2 => Below w.heap.size w W2 ∧ W2.cell? ⟨n + 6, 0, none⟩ = some (str lo)) Wr xs W' := fun W' hW' => by
      rw [hxs]
      have hm3 := hmg.up hW'
      refine merg2_seqsVW hxa hxb (stW_kinds _) hkb (fun W3 hW3 => ?_) (enters_of Try.func82 (by kernel_rfl) rfl) (fun W3 hW3 => ?_) hm3.g1.cell hm3.g2.cell hw1 hw2 hw3 hw4
      · have hb3 := hW'.trans (hW3.mono hW'.size)
        have hm4 := hmg.up hb3
        have lw3 := lw2.trans (hb3.mono lw2.size)
        exact gather_anyVW hxa (stW_kinds _) (enters_of Try.func70 (by kernel_rfl) rfl) (fun W4 h4 => h4) (fun W4 h4 => storedH_any (h.below lw3) hk (htx.below lw3) ⟨hm4.m2.m1.s1.cell, hm4.m2.m1.s2.cell, hm4.m2.m1.s3.cell⟩ h4 (by decide) (by decide) (by decide) (by decide) (by decide))
      · have hb3 := hW'.trans (hW3.mono hW'.size)
        have hm4 := hmg.up hb3
        exact fun l J Jx hJ hJx hOk => spans2VW_any hmq hws ⟨lo, rfl⟩ ⟨hic :: his, rfl⟩ hm4.m2.w1.cell hm4.m2.w2.cell hm4.m2.w3.cell (lw2.trans (hb3.mono lw2.size)) l J Jx hJ hJx (fun s2 W2 hj => NQ.of_below (hOk s2 W2 hj).1)
    have hj0 : J (seenW []) w2 := own_below hJ.plain (own_below hJ.plain h0 l1) l2
    have HXK : Hid (∀ p ∈ xs, KSVW p.1 ∧ VSVW p.2) := Lib.hid (by rw [hxs]; exact mrg_mem _ _ _ (stW_kinds _) hkb)
    have b4 := hmg.m2.w2
    have HZ := Lib.hid (And.intro hz2 hn)
    clear hW1 l1 hz1 lw1 bY l2 h htx hL HS HB0 hmq hws hmg HM hxs hxa hxb hz2 hn hkb ebt HTX
    gi_wp2_with fail
    refine range_lawA (Tw := MrgTVW) (gf := 67) (lb := #[.pointer (some ⟨n + 8, 0, none⟩), .pointer (some ⟨n + 9, 0, none⟩)]) rfl (enters_of Try.func67 (by kernel_rfl) rfl) (Wr := Wr) (xs := xs) hseq (by intro x; rfl)
      (fun pre W2 => J (seenW pre) W2 ∧ Boxed W2 W.heap.size 94 (.func (.yield l) #[] #[]) ∧ Boxed W2 (n + 6) 9 (str lo))
      (fun c _ W2 => c = .ret ∧ ∃ out, (∃ t', seenW xs = out ++ t') ∧ Jx out W2)
      (OwnFromT.and ?ownj (OwnFromT.and (boxed_ownT (Tw := MrgTVW) _ _ (fun _ : List (Value × Value) => .func (.yield l) #[] #[]) (by unfold MrgTVW; decide) |>.from _) (boxed_ownT (Tw := MrgTVW) _ _ (fun _ : List (Value × Value) => str lo) (by unfold MrgTVW; decide) |>.from _))) (fun c => ?ownx) ⟨hj0, bY2, b4⟩ (fun pre W2 h => ⟨hOk _ _ h.1, h.2.2.cell⟩)
      (fun x b => { tmps := #[.func (.yield l) #[] #[], .pointer (some ⟨b1, 0, none⟩), .pointer (some ⟨b2, 0, none⟩), .pointer (some ⟨b3, 0, none⟩), .pointer (some ⟨W.heap.size, 0, none⟩), x.1, .pointer (some ⟨b, 0, none⟩), .pointer (some ⟨tb, 0, none⟩), str lo, str (hic :: his), stF n, .pointer (some ⟨tb, 0, none⟩), str lo, str (hic :: his), rgF n, .func (.func 67) #[] #[.pointer (some ⟨n + 8, 0, none⟩), .pointer (some ⟨n + 9, 0, none⟩)], x.1, x.2, undef, undef, undef, undef, undef, undef, undef, undef, undef, undef, undef], defers := [] }) (fun x => .cells #[wA x.2, wB x.2, wC x.2] 58) ?assign ?body ?done ?stop
    case ownj =>
      rintro s' X Y row hj hg hr
      exact hJ _ _ _ _ hj hg (fun r e => ⟨by have := (hr r e).1; have := HZ.out; omega, (hr r e).2⟩)
    case ownx =>
      rintro s' X Y row ⟨hc, out, ht, hj⟩ hg hr
      exact ⟨hc, out, ht, hJx _ _ _ _ hj hg (fun r e => ⟨by have := (hr r e).1; have := HZ.out; omega, (hr r e).2⟩)⟩
    case assign =>
      intro l2 x W' K hx2 hK
      obtain ⟨xk, xv⟩ := x
      obtain ⟨⟨kx, hkx⟩, ⟨ya, yb, yc, hyv⟩⟩ := HXK.out _ hx2
      dsimp only at hkx hyv
      subst hkx hyv
      have HK := Lib.hid hK
      clear hK
      dsimp only
      gi_wp2
      exact HK.out
    case body =>
      rintro l2 pre ⟨xk, xv⟩ b W2 hl2 hbl hbo ⟨hj, hby, hb4⟩ ⟨tl, ht⟩
      obtain ⟨⟨key, rfl⟩, ⟨ya, yb, yc, rfl⟩⟩ := HXK.out (xk, xv) (by rw [ht]; simp)
      have hbx : W2.heap[b]? = some (.cells #[str ya, str yb, .bool yc] 58 (0, 0)) := hbo
      have z1 : W2.cell? ⟨b, 1, none⟩ = some (str yb) := cell_of_row W2 b 1 _ _ (0, 0) hbx
      have z2 : W2.cell? ⟨b, 2, none⟩ = some (.bool yc) := cell_of_row W2 b 2 _ _ (0, 0) hbx
      have cY : W2.cell? ⟨W.heap.size, 0, none⟩ = some (.func (.yield l) #[] #[]) := hby.cell
      have hsn := seenW_snoc pre (str key, .agg #[str ya, str yb, .bool yc])
      rw [decW_eq] at hsn
      have hst : seenW xs = seenW pre ++ ((if yc then none else some (key, yb)).toList ++ seenW tl) := by
        rw [ht, show (str key, Value.agg #[str ya, str yb, .bool yc]) :: tl = [(str key, Value.agg #[str ya, str yb, .bool yc])] ++ tl from rfl, ← List.append_assoc, seenW_app, hsn, List.append_assoc]
      clear hbo hbx ht hseq hj0 bY2 b4
      dsimp only
      cases yc with
      | true =>
        have HH := Lib.hid (And.intro hsn (And.intro hj (And.intro hby hb4)))
        clear hsn hst hj hby hb4
        gi_wp2_with fail
        obtain ⟨e1, e2, e3, e4⟩ := HH.out
        exact ⟨KT.refl _ _ _, by rw [e1]; simpa using e2, e3, e4⟩
      | false =>
        have hY1 := hY (seenW pre) (key, yb) W2 hj ⟨seenW tl, by rw [hst]; rfl⟩ 6
        obtain ⟨fn, tmps, assign, body, hy, hR⟩ := hY1
        have HH := Lib.hid (And.intro hsn (And.intro hst (And.intro hby hb4)))
        dsimp only at hy hR
        clear hsn hst hj hby hb4
        gi_wp2_with (refine hR.mono ?_; clear hR; rintro e W4 ⟨hk, ⟨rfl, hj4⟩ | ⟨rfl, hx4⟩⟩)
        · obtain ⟨e1, e2, e3, e4⟩ := HH.out
          have hz := HZ.out
          exact ⟨hk.more (by omega), by rw [e1]; exact hj4, hk.box e3 (Nat.le_refl _) hw5, hk.box e4 (by omega) hw6⟩
        · obtain ⟨e1, e2, e3, e4⟩ := HH.out
          have hz := HZ.out
          exact ⟨hk.more (by omega), rfl, _, ⟨seenW tl, by rw [e2, ← List.append_assoc]; rfl⟩, hx4⟩
    case done =>
      rintro D W2 hD ⟨hj, _, _⟩ hK
      gi_wp2
      refine ⟨by simp, .inl ⟨_, _, rfl, run_takeDeferred hK, ?_⟩⟩
      exact ⟨_, results_none rfl _ _ _, ⟨_, rfl⟩, .inl (hJ.plain.putObj _ hj (by have := HZ.out; omega) hK rfl)⟩
    case stop =>
      rintro D c pre W2 hD hx ⟨rfl, out, ht, hj⟩ hK
      gi_wp2
      refine ⟨by simp, .inl ⟨_, _, rfl, run_takeDeferred hK, ?_⟩⟩
      exact ⟨_, results_none rfl _ _ _, ⟨_, rfl⟩, .inr ⟨out, ht, hJx.plain.putObj _ hj (by have := HZ.out; omega) hK rfl⟩⟩
end Go.Proofs.Ytcgjiddiegepkaa

/- hblref11's Count, Scan. -/
namespace Go.Proofs.Ytcgjiddiegepkaa
open Go.RowKit
section
variable {W : World} {B b : Nat} {vo : Value} {R : List RRow} {low : Int}
theorem tot_takeR (R : List RRow) (i : Nat) (h : i < R.length) : totC (chR (R.take (i + 1))) = totC (chR (R.take i)) + R[i].2.2.length := by
  rw [List.take_add_one, List.getElem?_eq_getElem h]
  simp only [totC, chR, List.map_append, List.sum_append, Option.toList, List.map_cons, List.map_nil, List.sum_cons, List.sum_nil, Nat.add_zero]
theorem tot_leR (R : List RRow) (i : Nat) : totC (chR (R.take i)) ≤ totC (chR R) := by
  have : totC (chR R) = totC (chR (R.take i)) + totC (chR (R.drop i)) := by
    conv => lhs; rw [← List.take_append_drop i R]
    simp only [totC, chR, List.map_append, List.sum_append]
  omega
theorem filter_mid {Y : Type} (f : Y → Bool) (C : List Y) (p i : Nat) (hpi : p ≤ i) (h1 : ∀ j (h : j < C.length), j < p → f C[j] = false) (h2 : ∀ j (h : j < C.length), p ≤ j → j < i → f C[j] = true) (h3 : ∀ j (h : j < C.length), i ≤ j → f C[j] = false) : C.filter f = (C.take i).drop p := by
  have e : C = C.take p ++ ((C.take i).drop p ++ C.drop i) := by
    have e1 : (C.take i).take p = C.take p := by rw [List.take_take]; congr 1; omega
    rw [← List.append_assoc, ← e1, List.take_append_drop, List.take_append_drop]
  have f1 : (C.take p).filter f = [] := by
    rw [List.filter_eq_nil_iff]
    intro x hx
    obtain ⟨j, hj, rfl⟩ := List.mem_iff_getElem.1 hx
    have hj2 := hj
    rw [List.length_take] at hj2
    rw [List.getElem_take, h1 j (by omega) (by omega)]; simp
  have f2 : ((C.take i).drop p).filter f = (C.take i).drop p := by
    rw [List.filter_eq_self]
    intro x hx
    obtain ⟨j, hj, rfl⟩ := List.mem_iff_getElem.1 hx
    have hj2 := hj
    rw [List.length_drop, List.length_take] at hj2
    rw [List.getElem_drop, List.getElem_take]
    exact h2 (p + j) (by omega) (by omega) (by omega)
  have f3 : (C.drop i).filter f = [] := by
    rw [List.filter_eq_nil_iff]
    intro x hx
    obtain ⟨j, hj, rfl⟩ := List.mem_iff_getElem.1 hx
    have hj2 := hj
    rw [List.length_drop] at hj2
    rw [List.getElem_drop, h3 (i + j) (by omega) (by omega)]; simp
  conv => lhs; rw [e]
  rw [List.filter_append, List.filter_append, f1, f2, f3]
  simp
def hiB (hi k : List UInt8) : Bool := hi == [] || Op.bytesLess k hi
/-- What is scanned from lo on and below hi. -/
def scanH (lo hi : List UInt8) (at1 : Int) (C : ChC) : List PairT := scanC at1 (C.filter (fun p => !Op.bytesLess p.1 lo && hiB hi p.1))
theorem scan_cut {R : List RRow} {lo hi : List UInt8} {at1 : Int} {p i : Nat} (hr : RisB (chR R)) (hp : PlaceB lo (chR R) p) (hpi : p ≤ i) (hi1 : i ≤ R.length) (h2 : ∀ j (h : j < R.length), p ≤ j → j < i → hiB hi R[j].1 = true) (h3 : ∀ h : i < R.length, hiB hi R[i].1 = false) : scanH lo hi at1 (chR R) = scanC at1 ((chR R).take i |>.drop p) := by
  unfold scanH
  rw [filter_mid _ _ p i hpi]
  · intro j h hj
    rw [hp.lo j h hj]; rfl
  · intro j h hj hj2
    have h' : j < R.length := by rwa [chR_len] at h
    rw [hp.hi j h hj, chR_key h h', h2 j h' hj hj2]; rfl
  · intro j h hj
    have h' : j < R.length := by rwa [chR_len] at h
    have hi' : i < R.length := by omega
    have e := h3 hi'
    rw [chR_key h h']
    have : hiB hi R[j].1 = false := by
      unfold hiB at e ⊢
      rw [Bool.or_eq_false_iff] at e ⊢
      refine ⟨e.1, ?_⟩
      by_cases q : i = j
      · subst q; exact e.2
      · cases h4 : Op.bytesLess R[j].1 hi with
        | false => rfl
        | true =>
          have := bl_tr _ _ _ (rs_lt hr (show i < j by omega) h') h4
          rw [e.2] at this; cases this
    rw [this, Bool.and_false]
theorem scan_snoc {R : List RRow} {at1 : Int} {p i : Nat} (hpi : p ≤ i) (hi : i < R.length) : scanC at1 (((chR R).take (i + 1)).drop p) = scanC at1 (((chR R).take i).drop p) ++ ((seenVS R[i].2.2 at1).map (fun r => (R[i].1, r))).toList := by
  have h' : i < (chR R).length := by rw [chR_len]; exact hi
  have e : ((chR R).take (i + 1)).drop p = ((chR R).take i).drop p ++ [(chR R)[i]] := by
    rw [List.take_add_one, List.getElem?_eq_getElem h', List.drop_append_of_le_length (by rw [List.length_take]; omega)]
    rfl
  rw [e]
  unfold scanC
  rw [List.filterMap_append]
  congr 1
  have e2 : (chR R)[i] = (R[i].1, R[i].2.2) := by simp [chR]
  rw [e2]
  cases h : seenVS R[i].2.2 at1 <;> simp [h]
theorem scanC_len (at1 : Int) (C : ChC) : (scanC at1 C).length ≤ C.length := List.length_filterMap_le _ _
set_option maxRecDepth 100000 in
set_option maxHeartbeats 8000000 in
theorem rscan_any {W : World} {B b : Nat} {vo : Value} {R : List RRow} {low : Int} (h : RS W B b vo R low) (hn : R.length ≤ 1000000) (hc : ∀ r ∈ R, RisT (timesVS r.2.2) ∧ r.2.2.length ≤ 1000000 ∧ ∀ x ∈ r.2.2, x.2.2 = true → x.2.1 = []) (lo hi : List UInt8) (t : Int) :
    Calls Try.prog 53 #[.pointer (some ⟨b, 0, none⟩), str lo, str hi, .int .i64 t] W (PrsP W (scanH lo hi t (chR R))) := by
  have CF := Lib.hid (rfind_any h hn lo)
  obtain ⟨a, cap, rfl⟩ := h.form
  have HS := Lib.hid h
  have HC := Lib.hid hc
  obtain ⟨i0, hinf, hz0, hz1, hz2⟩ := info_parts infoPair
  have HQ : Hid (hi = [] ∨ ∃ c s, hi = c :: s) := Lib.hid (by cases hi with | nil => exact .inl rfl | cons c s => exact .inr ⟨c, s, rfl⟩)
  clear h hc
  go_enter Try.func53, Try.ntmps53
  go_wp2_with fail
  refine CF.out.mono ?_
  rintro e w1 ⟨p, zb, rfl, hp, hz, hb⟩
  have HP := Lib.hid hp
  have hpl : p ≤ R.length := by have := hp.le; rwa [chR_len] at this
  have HB1 := Lib.hid hb
  clear hp hz hb CF
  go_wp2_with fail
  go_loopw [9, 10] (fun vo vi wr => ∃ i : Nat, p ≤ i ∧ i ≤ R.length ∧ vi = .int .i64 (i : Int) ∧ Hid (∃ L, L = scanC t (((chR R).take i).drop p) ∧ wr.ownsRow W.heap.size 63 2 vo L.length (L.map cellsP).flatten ∧ L.length ≤ R.length ∧ Below W.heap.size W wr) ∧ Hid (∀ j (h : j < R.length), p ≤ j → j < i → hiB hi R[j].1 = true)) (fun _ vi _ => R.length - (intOf vi).toNat)
  case atStart => exact ⟨p, Nat.le_refl _, hpl, rfl, Lib.hid ⟨[], by simp [scanC], World.ownsRow_nil _ _ _ _, by simp, HB1.out⟩, Lib.hid (fun j _ h1 h2 => absurd h2 (by omega))⟩
  case round =>
    obtain ⟨i, hpi, hil, rfl, HI, HU⟩ := hrel
    obtain ⟨L, hL, hrow, hLl, hbel⟩ := HI.out
    have HL := Lib.hid hL
    have HH := Lib.hid (And.intro hrow (And.intro hLl hbel))
    have HSr := Lib.hid (HS.out.below hbel)
    obtain ⟨s0, _, _, _⟩ := HSr.out.cells
    clear hL hrow hLl hbel HI
    by_cases hlt : i < R.length
    · have g1 : (i : Int) < (R.length : Int) := by omega
      have g1d : decide ((i : Int) < (R.length : Int)) = true := by simp; omega
      have g3 : (0 : Int) ≤ (i : Int) := by omega
      obtain ⟨g, cap', ha, c0, c1⟩ := HSr.out.get hlt
      simp only [Value.slice.injEq, true_and] at ha
      obtain ⟨rfl, rfl⟩ := ha
      obtain ⟨y, hy⟩ : ∃ y, y = R[i].1 := ⟨_, rfl⟩
      obtain ⟨u, hu⟩ : ∃ u, u = R[i].2.1 := ⟨_, rfl⟩
      obtain ⟨sv, hsv⟩ : ∃ sv, sv = seenVS R[i].2.2 t := ⟨_, rfl⟩
      rw [← hy] at c0
      rw [← hu] at c1
      have CS := Lib.hid (rseen_any R[i].2.1 R[i].2.2 t wr (HSr.out.ch R[i] (List.getElem_mem hlt)).1 (HC.out R[i] (List.getElem_mem hlt)).1 (HC.out R[i] (List.getElem_mem hlt)).2.1 (HC.out R[i] (List.getElem_mem hlt)).2.2)
      rw [← hu, ← hsv] at CS
      have HSN := Lib.hid (scan_snoc (at1 := t) hpi hlt)
      rw [← hsv, ← hy, ← HL.out] at HSN
      have HY := Lib.hid hy
      have w2 : IntKind.i64.wrap ((i : Int) + 1) = (i : Int) + 1 := IntWalk.i64_in _ ⟨by omega, by omega⟩
      clear hy hu hsv
      rcases HQ.out with rfl | ⟨hc, hs, rfl⟩
      · have HKY : Hid (hiB [] y = true) := Lib.hid rfl
        have HU2 : Hid (∀ j (h : j < R.length), p ≤ j → j < i + 1 → hiB [] R[j].1 = true) := Lib.hid (fun j h h1 h2 => by
        by_cases q : j = i
        · subst q; rw [← HY.out]; exact HKY.out
        · exact HU.out j h h1 (by omega))
        go_wp2_with fail
        refine CS.out.mono ?_
        rintro e w5 ⟨he, hb5⟩
        have HSr5 := Lib.hid (HSr.out.below hb5)
        obtain ⟨s5, _, _, _⟩ := HSr5.out.cells
        obtain ⟨g', cap', ha, c5, _⟩ := HSr5.out.get hlt
        simp only [Value.slice.injEq, Option.some.injEq, Addr.mk.injEq, and_true, true_and] at ha
        obtain ⟨rfl, rfl⟩ := ha
        rw [← HY.out] at c5
        have HR5 := Lib.hid (And.intro (owns_below HH.out.1 hb5 (Nat.le_refl _)) (And.intro HH.out.2.1 (HH.out.2.2.trans (hb5.mono HH.out.2.2.size))))
        clear hb5 CS s0 c0 c1 HH HSr HSr5
        cases sv with
        | none =>
          obtain rfl : e = .returned (.tuple #[str [], .bool false]) := he
          go_wp2_with fail
          go_roundw
          case rel => exact ⟨i + 1, by omega, by omega, by go_num, Lib.hid ⟨L, by rw [HSN.out]; simp, HR5.out⟩, HU2⟩
          case measure => simp [intOf]; omega
        | some sx =>
          obtain rfl : e = .returned (.tuple #[str sx, .bool true]) := he
          go_wp2_with (at_builtin; refine hold ?_)
          intro _
          refine wpList_appendF (by rfl) _ _ 43 (by rfl) W.heap.size 63 i0 _ 2 32 Try.underlying43 hinf hz0 hz1 hz2 rfl (by decide) u9 L.length _ (by rfl) (World.ownsRow.alloc HR5.out.1 _) (.slice (some ⟨w5.heap.size, 0, none⟩) 1 1) [cellsP (y, sx)] (by simp [cellsP]) (by simp [cellsP, Value.oneCell']) (by rfl) (RdF.lit [cellsP (y, sx)] (by simp [cellsP]) (heap_alloc_new _ _) rfl (by simp)) (fun c h => by cases h) (by have := HR5.out.2.1; simp [maxLen]; omega) (by have := HR5.out.2.1; simp; omega) (by have := HR5.out.2.2.size; simp; omega) ?_
          intro v7 w7 ho7 hg7
          have HN : Hid (∃ L, L = scanC t (((chR R).take (i + 1)).drop p) ∧ w7.ownsRow W.heap.size 63 2 v7 L.length (L.map cellsP).flatten ∧ L.length ≤ R.length ∧ Below W.heap.size W w7) := Lib.hid ⟨L ++ [(y, sx)], by rw [HSN.out]; simp, by simpa using ho7, by rw [show L ++ [(y, sx)] = scanC t (((chR R).take (i + 1)).drop p) by rw [HSN.out]; simp]; refine Nat.le_trans (scanC_len _ _) ?_; rw [List.length_drop, List.length_take, chR_len]; omega, (HR5.out.2.2.alloc HR5.out.2.2.size _).grown hg7 (by have := HR5.out.2.2.size; simp; omega) (fun j ej => (World.ownsRow.lt HR5.out.1 j ej).1)⟩
          clear ho7 hg7 s5 c5 HR5
          go_wp2_with fail
          go_roundw
          case rel => exact ⟨i + 1, by omega, by omega, by go_num, HN, HU2⟩
          case measure => simp [intOf]; omega
      · cases hl : Op.bytesLess y (hc :: hs) with
        | true =>
          have HKY : Hid (hiB (hc :: hs) y = true) := Lib.hid (by unfold hiB; rw [hl, Bool.or_true])
          have HU2 : Hid (∀ j (h : j < R.length), p ≤ j → j < i + 1 → hiB (hc :: hs) R[j].1 = true) := Lib.hid (fun j h h1 h2 => by
          by_cases q : j = i
          · subst q; rw [← HY.out]; exact HKY.out
          · exact HU.out j h h1 (by omega))
          go_wp2_with fail
          refine CS.out.mono ?_
          rintro e w5 ⟨he, hb5⟩
          have HSr5 := Lib.hid (HSr.out.below hb5)
          obtain ⟨s5, _, _, _⟩ := HSr5.out.cells
          obtain ⟨g', cap', ha, c5, _⟩ := HSr5.out.get hlt
          simp only [Value.slice.injEq, Option.some.injEq, Addr.mk.injEq, and_true, true_and] at ha
          obtain ⟨rfl, rfl⟩ := ha
          rw [← HY.out] at c5
          have HR5 := Lib.hid (And.intro (owns_below HH.out.1 hb5 (Nat.le_refl _)) (And.intro HH.out.2.1 (HH.out.2.2.trans (hb5.mono HH.out.2.2.size))))
          clear hb5 CS s0 c0 c1 HH HSr HSr5
          cases sv with
          | none =>
            obtain rfl : e = .returned (.tuple #[str [], .bool false]) := he
            go_wp2_with fail
            go_roundw
            case rel => exact ⟨i + 1, by omega, by omega, by go_num, Lib.hid ⟨L, by rw [HSN.out]; simp, HR5.out⟩, HU2⟩
            case measure => simp [intOf]; omega
          | some sx =>
            obtain rfl : e = .returned (.tuple #[str sx, .bool true]) := he
            go_wp2_with (at_builtin; refine hold ?_)
            intro _
            refine wpList_appendF (by rfl) _ _ 43 (by rfl) W.heap.size 63 i0 _ 2 32 Try.underlying43 hinf hz0 hz1 hz2 rfl (by decide) u9 L.length _ (by rfl) (World.ownsRow.alloc HR5.out.1 _) (.slice (some ⟨w5.heap.size, 0, none⟩) 1 1) [cellsP (y, sx)] (by simp [cellsP]) (by simp [cellsP, Value.oneCell']) (by rfl) (RdF.lit [cellsP (y, sx)] (by simp [cellsP]) (heap_alloc_new _ _) rfl (by simp)) (fun c h => by cases h) (by have := HR5.out.2.1; simp [maxLen]; omega) (by have := HR5.out.2.1; simp; omega) (by have := HR5.out.2.2.size; simp; omega) ?_
            intro v7 w7 ho7 hg7
            have HN : Hid (∃ L, L = scanC t (((chR R).take (i + 1)).drop p) ∧ w7.ownsRow W.heap.size 63 2 v7 L.length (L.map cellsP).flatten ∧ L.length ≤ R.length ∧ Below W.heap.size W w7) := Lib.hid ⟨L ++ [(y, sx)], by rw [HSN.out]; simp, by simpa using ho7, by rw [show L ++ [(y, sx)] = scanC t (((chR R).take (i + 1)).drop p) by rw [HSN.out]; simp]; refine Nat.le_trans (scanC_len _ _) ?_; rw [List.length_drop, List.length_take, chR_len]; omega, (HR5.out.2.2.alloc HR5.out.2.2.size _).grown hg7 (by have := HR5.out.2.2.size; simp; omega) (fun j ej => (World.ownsRow.lt HR5.out.1 j ej).1)⟩
            clear ho7 hg7 s5 c5 HR5
            go_wp2_with fail
            go_roundw
            case rel => exact ⟨i + 1, by omega, by omega, by go_num, HN, HU2⟩
            case measure => simp [intOf]; omega
        | false =>
          have HKY : Hid (hiB (hc :: hs) y = false) := Lib.hid (by unfold hiB; rw [hl]; rfl)
          have HE := Lib.hid (scan_cut (at1 := t) HS.out.rs HP.out hpi (by omega) HU.out (fun _ => by rw [← HY.out]; exact HKY.out))
          go_wp2_with fail
          go_ret
          exact ⟨u9, by first | rfl | go_num, by rw [HE.out, ← HL.out]; exact HH.out.1, HH.out.2.2⟩
    · obtain rfl : i = R.length := by omega
      have g1 : ¬ (R.length : Int) < (R.length : Int) := by omega
      have g1d : decide ((R.length : Int) < (R.length : Int)) = false := by simp
      have HE := Lib.hid (scan_cut (at1 := t) HS.out.rs HP.out hpi (by omega) HU.out (fun h => absurd h (by omega)))
      go_wp2_with fail
      go_ret
      exact ⟨u9, by first | rfl | go_num, by rw [HE.out, ← HL.out]; exact HH.out.1, HH.out.2.2⟩
end
end Go.Proofs.Ytcgjiddiegepkaa

/- What is scanned, told by the chains. -/
namespace Go.Proofs.Ytcgjiddiegepkaa
open Go.RowKit
theorem scanL_cut (lo hi : List UInt8) (at1 : Int) (f : List UInt8 → Bool) (S : ChsVS) (hf : ∀ k, hiB hi k = f k) : scanL lo at1 (S.filter (fun x => !Op.bytesLess x.1 lo && f x.1)) = scanH lo hi at1 (chsVS S) := by
  unfold scanL scanH scanC chsVS
  rw [List.filterMap_filter, List.filterMap_filter, List.filterMap_map]
  congr 1
  funext x
  simp only [Function.comp, scan1, hf]
  cases Op.bytesLess x.1 lo <;> cases f x.1 <;> simp
theorem scanL_hi (lo : List UInt8) (c : UInt8) (s : List UInt8) (at1 : Int) (S : ChsVS) : scanL lo at1 (cutS lo (c :: s) S) = scanH lo (c :: s) at1 (chsVS S) := scanL_cut lo (c :: s) at1 (fun k => Op.bytesLess k (c :: s)) S (fun k => by unfold hiB; rfl)
theorem scanL_all (lo : List UInt8) (at1 : Int) (S : ChsVS) : scanL lo at1 S = scanH lo [] at1 (chsVS S) := by
  rw [← scanL_cut lo [] at1 (fun _ => true) S (fun k => rfl)]
  unfold scanL
  rw [List.filterMap_filter]
  congr 1
  funext x
  unfold scan1
  cases Op.bytesLess x.1 lo <;> simp
theorem scanH_len (lo hi : List UInt8) (at1 : Int) (C : ChC) : (scanH lo hi at1 C).length ≤ C.length := Nat.le_trans (scanC_len _ _) (List.length_filter_le _ _)
theorem scannedH {X W : World} {K : Nat → Prop} {s mb : Nat} {C : ChC} {low : Int} {n : Nat} (h : SG X K W s mb C low n) (hn : n ≤ 10000) (lo hi : List UInt8) (at1 m : Int) (hm : 1 ≤ m) :
    Calls Try.prog 21 #[.func (.func 56) #[] #[.pointer (some ⟨W.heap.size, 0, none⟩), .pointer (some ⟨W.heap.size + 1, 0, none⟩), .pointer (some ⟨W.heap.size + 2, 0, none⟩), .pointer (some ⟨W.heap.size + 3, 0, none⟩)], .int .i64 m] (scanW W s lo hi at1) (PrsP (scanW W s lo hi at1) ((scanH lo hi at1 C).take m.toNat)) := by
  obtain ⟨t, S, h1, h2, h3, h4, h5⟩ := h
  obtain ⟨hb, hbl⟩ := scanW_box W s lo hi at1
  have hl : (scanH lo hi at1 C).length ≤ 1000000 := by
    have e1 := scanH_len lo hi at1 C
    have e2 : C.length = S.length := by rw [← h2]; simp [chsVS]
    have := h1.hk.2.1
    omega
  have hs : ∀ W', Below (scanW W s lo hi at1).heap.size (scanW W s lo hi at1) W' → Seqs Try.prog 56 #[.pointer (some ⟨W.heap.size, 0, none⟩), .pointer (some ⟨W.heap.size + 1, 0, none⟩), .pointer (some ⟨W.heap.size + 2, 0, none⟩), .pointer (some ⟨W.heap.size + 3, 0, none⟩)] (fun p : PairT => #[str p.1, str p.2]) (fun W2 => Below (scanW W s lo hi at1).heap.size (scanW W s lo hi at1) W2) (fun T => T = 63) (scanH lo hi at1 C) W' := fun W' hW' => by
    rw [← h2]
    cases hi with
    | nil => rw [← scanL_all]; exact scanAll_any (h1.below hbl) (by omega) hb hW' (by decide)
    | cons c q => rw [← scanL_hi]; exact scanHi_any (h1.below hbl) (by omega) hb hW' (by decide)
  exact v11pairs_any (Ok := fun W2 => Below (scanW W s lo hi at1).heap.size (scanW W s lo hi at1) W2) m hm hl (enters_of Try.func56 (by kernel_rfl) rfl) (fun W' h => h) hs
theorem scanH_read {W W' : World} {s : Nat} {lo hi : List UInt8} {at1 : Int} {L : List PairT} {e : Ending} (h : PrsP (scanW W s lo hi at1) L e W') : ∃ v, e = .returned v ∧ RdP W' v L ∧ Below W.heap.size W W' := by
  obtain ⟨v, rfl, h1, h2⟩ := h
  have hbl := (scanW_box W s lo hi at1).2
  refine ⟨v, rfl, RdF.of_row (fun r hr => ?_) (by simpa using h1), hbl.trans (h2.mono hbl.size)⟩
  obtain ⟨p, _, rfl⟩ := List.mem_map.1 hr
  rfl
end Go.Proofs.Ytcgjiddiegepkaa

/- hbllaw11.Pairs over Scan below a hi. -/
namespace Go.Proofs.Ytcgjiddiegepkaa
open Go.RowKit
/-- What a transaction's Scan tells, as a slice. -/
theorem txPairsH_any {w : World} {B s mb b1 b2 b3 tb wb : Nat} {t tw : Tr} {S : ChsVS} {cnt low : Int} {k : Nat} (h : StVS w B s mb t S cnt low k) (hk : k ≤ 100000) (hmq : MQ w wb tw) (hws : WS KSVW VSVW tw) (hlw : (prs tw).length ≤ 100000) (hrs : Ris (prs tw)) {lo : List UInt8} {hic : UInt8} {his : List UInt8} {at1 : Int} (htx : TxB w tb s at1 wb) (hL : TxL w b1 b2 b3 tb lo (hic :: his)) (n : Int) (h1 : 1 ≤ n) (hx : (seenW (txLH lo (hic :: his) at1 S tw)).length ≤ 1000000) :
    Calls Try.prog 21 #[.func (.func 49) #[] #[.pointer (some ⟨b1, 0, none⟩), .pointer (some ⟨b2, 0, none⟩), .pointer (some ⟨b3, 0, none⟩)], .int .i64 n] w (PrsP w ((seenW (txLH lo (hic :: his) at1 S tw)).take n.toNat)) :=
  v11pairsW_any (Tw := MrgTVW) (by unfold MrgTVW; decide) (by unfold MrgTVW; decide) (by unfold MrgTVW; decide) (Ok := fun W2 => Below w.heap.size w W2) n h1 hx (enters_of Try.func49 (by kernel_rfl) rfl) (fun W hW => hW) (fun W' hW' => scanTxH_any h hk hmq hws hlw hrs htx (hL.below hW') hW' (by decide) (by decide) (by decide) (by decide) (by decide) (by decide))
end Go.Proofs.Ytcgjiddiegepkaa

/- What a transaction sees from lo on and below hi. -/
namespace Go.Proofs.Ytcgjiddiegepkaa
open Go.RowKit
/-- From lo on and below hi. -/
def inR (lo hi k : List UInt8) : Bool := !Op.bytesLess k lo && hiB hi k
def sawR (lo hi : List UInt8) (at1 : Int) (C : ChC) (L : OwnL) : List PairT := (sawP (scanC at1 C) L).filter (fun z => inR lo hi z.1)
theorem ris_filter {Y : Type} {l : List (List UInt8 × Y)} (h : RisB l) (f : List UInt8 → Bool) : RisB (l.filter (fun z => f z.1)) := List.Pairwise.filter _ h
theorem saw_filter {A : List PairT} {L : OwnL} (ha : RisB A) (hl : RisB L) (f : List UInt8 → Bool) : sawP (A.filter (fun z => f z.1)) (L.filter (fun z => f z.1)) = (sawP A L).filter (fun z => f z.1) := by
  refine ris_ext (ris_saw _ _ (ris_filter ha f) (ris_filter hl f)) (ris_filter (ris_saw _ _ ha hl) f) (fun z => ?_)
  rw [mem_saw _ _ (ris_filter ha f) (ris_filter hl f), List.mem_filter, mem_saw _ _ ha hl]
  unfold OwnP
  constructor
  · rintro (⟨x, hx, e1, e2, e3⟩ | ⟨hz, hn⟩)
    · obtain ⟨hx, hf⟩ := List.mem_filter.1 hx
      exact ⟨.inl ⟨x, hx, e1, e2, e3⟩, by rw [← e1]; exact hf⟩
    · obtain ⟨hz, hf⟩ := List.mem_filter.1 hz
      exact ⟨.inr ⟨hz, fun x hx e => hn x (List.mem_filter.2 ⟨hx, by rw [e]; exact hf⟩) e⟩, hf⟩
  · rintro ⟨⟨x, hx, e1, e2, e3⟩ | ⟨hz, hn⟩, hf⟩
    · exact .inl ⟨x, List.mem_filter.2 ⟨hx, by rw [e1]; exact hf⟩, e1, e2, e3⟩
    · exact .inr ⟨List.mem_filter.2 ⟨hz, hf⟩, fun x hx => hn x (List.mem_filter.1 hx).1⟩
theorem scanC_filter (at1 : Int) (f : List UInt8 → Bool) : ∀ C : ChC, scanC at1 (C.filter (fun p => f p.1)) = (scanC at1 C).filter (fun z => f z.1)
  | [] => rfl
  | p :: t => by
    have ih := scanC_filter at1 f t
    unfold scanC at ih ⊢
    cases hf : f p.1 with
    | true =>
      rw [List.filter_cons_of_pos (by simpa using hf), List.filterMap_cons, List.filterMap_cons]
      cases hs : seenVS p.2 at1 with
      | none => simpa using ih
      | some r => simp only [Option.map_some]; rw [ih, List.filter_cons_of_pos (by simpa using hf)]
    | false =>
      rw [List.filter_cons_of_neg (by simp [hf]), List.filterMap_cons]
      cases hs : seenVS p.2 at1 with
      | none => simpa using ih
      | some r => simp only [Option.map_some]; rw [ih, List.filter_cons_of_neg (by simp [hf])]
theorem scanH_eq (lo hi : List UInt8) (at1 : Int) (C : ChC) : scanH lo hi at1 C = (scanC at1 C).filter (fun z => inR lo hi z.1) := scanC_filter at1 (inR lo hi) C
theorem own_filter (g : List UInt8 → Bool) (L : OwnL) (f : Value × Value → Bool) (h : ∀ x : List UInt8 × WrT, f (pairB fW x) = g x.1) : (L.map (pairB fW)).filter f = (L.filter (fun x => g x.1)).map (pairB fW) := by
  rw [List.filter_map]
  congr 1
  apply List.filter_congr
  intro x _
  exact h x
theorem saw_lo {S : ChsVS} {tw : Tr} {L : OwnL} (lo : List UInt8) (at1 : Int) (hs : RisB (chsVS S)) (hl : RisB L) (hp : prs tw = L.map (pairB fW)) : seenW (txL lo at1 S tw) = sawR lo [] at1 (chsVS S) L := by
  unfold txL fromW sawR
  rw [hp, own_filter (inR lo []) L _ (fun x => by unfold inR hiB; simp [pairB, lessB]), scanL_all, scanH_eq, saw_plain]
  exact saw_filter (scan_ris hs) hl (inR lo [])
theorem saw_hi {S : ChsVS} {tw : Tr} {L : OwnL} (lo : List UInt8) (hic : UInt8) (his : List UInt8) (at1 : Int) (hs : RisB (chsVS S)) (hl : RisB L) (hp : prs tw = L.map (pairB fW)) (hw : WS KSVW VSVW tw) : seenW (txLH lo (hic :: his) at1 S tw) = sawR lo (hic :: his) at1 (chsVS S) L := by
  unfold txLH sawR
  rw [btwVW_filter ordVW (K := KSVW) (V := VSVW) ⟨lo, rfl⟩ ⟨hic :: his, rfl⟩ hw (by rw [hp]; exact (ris_map _ _).2 hl), hp, own_filter (inR lo (hic :: his)) L _ (fun x => by unfold inR hiB; simp [pairB, lessB]), scanL_hi, scanH_eq, saw_plain]
  exact saw_filter (scan_ris hs) hl (inR lo (hic :: his))
theorem sawR_len (lo hi : List UInt8) (at1 : Int) (C : ChC) (L : OwnL) : (sawR lo hi at1 C L).length ≤ C.length + L.length := by
  have h1 : (sawR lo hi at1 C L).length ≤ (sawP (scanC at1 C) L).length := List.length_filter_le _ _
  have h2 := saw_len at1 C L
  rw [sawT_eq] at h2
  omega
theorem sawR_all (at1 : Int) (C : ChC) (L : OwnL) : sawR [] [] at1 C L = sawP (scanC at1 C) L := by
  unfold sawR
  rw [List.filter_eq_self]
  intro z _
  unfold inR hiB
  rw [less_nil]; rfl
variable {X W : World} {s mb : Nat} {C : ChC} {low : Int} {n tb wb : Nat} {at1 : Int} {L : OwnL} {k : Nat}
theorem ttScanned (h : TT X W s mb C low n tb wb at1 L k) (hn : n ≤ 10000) (hk : k ≤ 100000) {b1 b2 b3 : Nat} {lo hi : List UInt8} (hL : TxL W b1 b2 b3 tb lo hi) (m : Int) (hm : 1 ≤ m) :
    Calls Try.prog 21 #[.func (.func 49) #[] #[.pointer (some ⟨b1, 0, none⟩), .pointer (some ⟨b2, 0, none⟩), .pointer (some ⟨b3, 0, none⟩)], .int .i64 m] W (PrsP W ((sawR lo hi at1 C L).take m.toNat)) := by
  obtain ⟨t, S, h1, h2, h3, h4, h6⟩ := h.sg
  obtain ⟨tw, m1, m2, m3⟩ := h.tx.mp
  have hkk := h.tx.hk
  have hC : C.length ≤ n := by rw [← h2]; unfold chsVS; rw [List.length_map]; exact h1.hk.2.1
  have hR := h.sg.ris.2.1
  have hll := sawR_len lo hi at1 C L
  subst h2
  cases hi with
  | nil =>
    have e := saw_lo (tw := tw) lo at1 hR h.tx.rs m3
    have := txPairs_any h1 (by omega) m1 m2 (by rw [m3, List.length_map]; omega) h.tx.box hL m hm (by rw [e]; omega)
    rw [e] at this
    exact this
  | cons c q =>
    have e := saw_hi (tw := tw) lo c q at1 hR h.tx.rs m3 m2
    have := txPairsH_any h1 (by omega) m1 m2 (by rw [m3, List.length_map]; omega) (by rw [m3]; exact (ris_map _ _).2 h.tx.rs) h.tx.box hL m hm (by rw [e]; omega)
    rw [e] at this
    exact this
theorem ttScanR (_ : TT X W s mb C low n tb wb at1 L k) (lo hi : List UInt8) : Calls Try.prog 29 #[.pointer (some ⟨tb, 0, none⟩), str lo, str hi] W fun e W' => ∃ b1, e = .returned (.func (.func 49) #[] #[.pointer (some ⟨b1, 0, none⟩), .pointer (some ⟨b1 + 1, 0, none⟩), .pointer (some ⟨b1 + 2, 0, none⟩)]) ∧ TxL W' b1 (b1 + 1) (b1 + 2) tb lo hi ∧ Below W.heap.size W W' := by
  refine (txn_scan W tb lo hi).mono ?_
  rintro e W' ⟨rfl, rfl⟩
  exact ⟨W.heap.size, rfl, txL_new W tb lo hi, (((Below.refl _ _).alloc (Nat.le_refl _) _).alloc (by simp) _).alloc (by simp; omega) _⟩
end Go.Proofs.Ytcgjiddiegepkaa
