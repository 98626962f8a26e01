import Derived.Test.YtcgjiddiegepkaaTxScan
import Derived.Test.YtcgjiddiegepkaaVScanH
import Derived.Test.YtcgjiddiegepkaaTxSt
import Derived.Test.YtcgjiddiegepkaaTxScn
import Derived.Deep.RegionHeld3
/- Scan below a hi, ranged over by who lays its boxes. -/
namespace Go.Proofs.Ytcgjiddiegepkaa
open Go.RowKit
attribute [local go_sem] Oper.semAt_some wide_fn wide_depth
set_option maxRecDepth 100000 in
set_option maxHeartbeats 4000000 in
theorem scanOkH_any {Wr : TypeId → Prop} {w W : World} {B s mb b0 b1 b2 b3 : Nat} {t : Tr} {S : ChsVS} {cnt low : Int} {k : Nat} (h : StVS w B s mb t S cnt low k) (hk : k ≤ 100000) {lo : List UInt8} {hic : UInt8} {his : List UInt8} {at1 : Int} (hb : ScB W b0 b1 b2 b3 s lo (hic :: his) at1) (hW : Below w.heap.size w W) (hw : ¬ Wr 94) :
    Seqs Try.prog 56 #[.pointer (some ⟨b0, 0, none⟩), .pointer (some ⟨b1, 0, none⟩), .pointer (some ⟨b2, 0, none⟩), .pointer (some ⟨b3, 0, none⟩)] (fun p : List UInt8 × List UInt8 => #[str p.1, str p.2]) (fun W2 => Below w.heap.size w W2 ∧ ScB W2 b0 b1 b2 b3 s lo (hic :: his) at1) Wr (scanL lo at1 (cutS lo (hic :: his) S)) W := by
  intro l J Jx hJ hJx hOk hY h0
  obtain ⟨S2, hS2⟩ : ∃ S2, S2 = cutS lo (hic :: his) S := ⟨_, rfl⟩
  rw [← hS2] at hY ⊢
  have hdd : ∀ k : Nat, (Fence.wide.depth.isSome = true → 1 ≤ k) := fun k h => by cases h
  obtain ⟨d0, d1, d2, _⟩ := hb.up (below_alloc W (.cells #[.func (.yield l) #[] #[]] 94))
  have hs1 := h.below (hW.trans ((below_alloc W (.cells #[.func (.yield l) #[] #[]] 94)).mono hW.size))
  have CF := Lib.hid (callsIn_wide (n := 8) |>.2 (fromHi_any hs1 lo hic his))
  have bY := Boxed.new W 94 (.func (.yield l) #[] #[])
  refine (callsIn_wide (n := 9)).1 ?_
  refine callsIn_of_wp_marks Try.func56 rfl trivial ?_ rfl
  simp only [Try.ntmps56, List.size_toArray, List.length_cons, List.length_nil, Nat.reduceAdd, Nat.reduceSub, Array.replicate_succ, Array.replicate_zero, List.push_toArray, List.append_toArray, List.nil_append, List.cons_append]
  gi_wp2_with fail
  refine CF.out.mono ?_
  rintro e w2 ⟨rfl, hw2⟩
  obtain ⟨W1, hW1⟩ : ∃ W1, W1 = W.alloc (.cells #[.func (.yield l) #[] #[]] 94) := ⟨_, rfl⟩
  rw [← hW1] at hw2 bY hs1 ⊢
  have l1 : Below W.heap.size W W1 := by rw [hW1]; exact below_alloc W _
  have l2 : Below W1.heap.size W1 w2 := by rw [hw2]; exact below_spanVS W1 _ _ _
  have hz1 : W1.heap.size = W.heap.size + 1 := by rw [hW1]; simp
  have hz2 : w2.heap.size = W.heap.size + 4 := by rw [hw2]; simp [spanWVS, hz1]
  obtain ⟨c4, c5, c6⟩ := spanVS_cells W1 mb lo (hic :: his) w2 hw2
  have hs2 := hs1.below l2
  have lw2 : Below w.heap.size w w2 := (hW.trans (l1.mono hW.size)).trans (l2.mono (by have := hW.size; omega))
  obtain ⟨xs, hxs⟩ : ∃ xs, xs = btwVS (str lo) (str (hic :: his)) t := ⟨_, rfl⟩
  have hxp : xs = S2.map (pairB Prod.fst) := by rw [hxs, hS2]; exact btw_cut h lo (hic :: his)
  have hmf : ∀ x ∈ S2, x ∈ S := fun x hx => by rw [hS2] at hx; exact (List.mem_filter.1 hx).1
  have hseq : ∀ W', Below w2.heap.size w2 W' → Seqs Try.prog 86 #[.pointer (some ⟨W1.heap.size, 0, none⟩), .pointer (some ⟨W1.heap.size + 1, 0, none⟩), .pointer (some ⟨W1.heap.size + 2, 0, none⟩)] (fun p : Value × Value => #[p.1, p.2]) (NK w) Wr xs W' := fun W' hW' => by
    rw [hxs]
    exact spans2_any h.mp h.ws ⟨lo, rfl⟩ ⟨hic :: his, rfl⟩ ((hW'.cell (p := ⟨W1.heap.size, 0, none⟩) (World.block_lt_of_cell? w2 _ c4)).trans c4) ((hW'.cell (p := ⟨W1.heap.size + 1, 0, none⟩) (World.block_lt_of_cell? w2 _ c5)).trans c5) ((hW'.cell (p := ⟨W1.heap.size + 2, 0, none⟩) (World.block_lt_of_cell? w2 _ c6)).trans c6) (lw2.trans (hW'.mono lw2.size))
  have hj0 : J (scanL lo at1 []) w2 := own_below hJ (own_below hJ h0 l1) l2
  have hy0 : Boxed w2 W.heap.size 94 (.func (.yield l) #[] #[]) := (l2.block _ (by omega)).trans bY
  have HPR := Lib.hid hxp
  have HRW : Hid (∀ W2, Below w.heap.size w W2 → ∀ x ∈ S2, RdVS W2 x.2.1 x.2.2 ∧ RisT (timesVS x.2.2) ∧ x.2.2.length ≤ 1000000) := Lib.hid (fun W2 hb2 x hx => ⟨(rd_rowVS (h.ch x (hmf x hx))).up hb2, h.tr x (hmf x hx), by have := h.hk.2.2 x (hmf x hx); omega⟩)
  have HZ2 := Lib.hid hz2
  clear hxs hxp hmf c5 c6 hS2
  clear l1 l2 hz1 c4 hs2 hs1 hW1 hw2 d0 d1 d2 bY h0 CF h hb
  gi_wp2_with fail
  refine range_law (gf := 86) (lb := #[.pointer (some ⟨W1.heap.size, 0, none⟩), .pointer (some ⟨W1.heap.size + 1, 0, none⟩), .pointer (some ⟨W1.heap.size + 2, 0, none⟩)]) rfl (enters_of Try.func86 (by kernel_rfl) rfl) (Ok := NK w) (Wr := Wr) (xs := xs) hseq (by intro x; rfl)
    (fun pre W2 => (∃ A Q, S2 = A ++ Q ∧ pre = A.map (pairB Prod.fst) ∧ J (scanL lo at1 A) W2) ∧ Boxed W2 W.heap.size 94 (.func (.yield l) #[] #[]))
    (fun c _ W2 => c = .ret ∧ ∃ out, (∃ t, scanL lo at1 S2 = out ++ t) ∧ Jx out W2)
    (OwnFrom.and ?ownj (boxed_ownT (Tw := fun _ => False) _ _ (fun _ : List (Value × Value) => .func (.yield l) #[] #[]) (by simp) |>.from _ |>.plain)) (fun c => ?ownx) ⟨⟨[], S2, rfl, rfl, hj0⟩, hy0⟩ ?okk ?a1 ?assign ?body ?done ?stop
  case ownj =>
    rintro s' X Y row ⟨A, Q, e1, e2, hj⟩ hg hr
    exact ⟨A, Q, e1, e2, hJ _ _ _ _ hj hg (fun r e => ⟨by have := (hr r e).1; have := HZ2.out; omega, (hr r e).2⟩)⟩
  case ownx =>
    rintro s' X Y row ⟨hc, out, ht, hj⟩ hg hr
    exact ⟨hc, out, ht, hJx _ _ _ _ hj hg (fun r e => ⟨by have := (hr r e).1; have := HZ2.out; omega, (hr r e).2⟩)⟩
  case okk =>
    rintro pre W2 ⟨⟨A, Q, _, _, hj⟩, _⟩
    exact NK.of_below (hOk _ _ hj).1
  case assign =>
    intro l x W' K hK
    gi_wp2
    exact hK
  case body =>
    rintro l2 pre x W2 hl2 ⟨⟨A, Q, e1, e2, hj⟩, hbx⟩ ⟨tl, ht⟩
    obtain ⟨key, v, L, Q', rfl, rfl⟩ : ∃ key v L Q', Q = (key, (v, L)) :: Q' ∧ x = pairB Prod.fst ((key, (v, L)) : List UInt8 × ChVS) := by
      have h6 := HPR.out.symm.trans ht
      rw [e1, List.map_append, e2] at h6
      have h7 := List.append_cancel_left h6
      cases Q with
      | nil => cases h7
      | cons q Q' =>
        obtain ⟨key, v, L⟩ := q
        simp only [List.map_cons, List.cons.injEq] at h7
        exact ⟨key, v, L, Q', rfl, h7.1.symm⟩
    have hmem : (key, (v, L)) ∈ S2 := by rw [e1]; simp
    have hB2 := (hOk _ _ hj).1
    obtain ⟨hrd, htr, hll⟩ := HRW.out W2 hB2 _ hmem
    dsimp only at hrd htr hll
    obtain ⟨_, c1, _, c3⟩ := (hOk _ _ hj).2
    have cY : W2.cell? ⟨W.heap.size, 0, none⟩ = some (.func (.yield l) #[] #[]) := hbx.cell
    have hC := seenVS_any v L at1 W2 hrd htr hll
    have hsn := scanL_snoc lo at1 A (key, (v, L))
    have hst : scanL lo at1 S2 = scanL lo at1 A ++ ((scan1 lo at1 (key, (v, L))).toList ++ scanL lo at1 Q') := by
      rw [e1, scanL_app, show (key, (v, L)) :: Q' = [(key, (v, L))] ++ Q' from rfl, scanL_app]
      congr 2
    have HA : Hid (S2 = A ++ [(key, (v, L))] ++ Q' ∧ pre ++ [pairB Prod.fst ((key, (v, L)) : List UInt8 × ChVS)] = (A ++ [(key, (v, L))]).map (pairB Prod.fst)) := Lib.hid ⟨by rw [e1]; simp, by rw [e2]; simp⟩
    unfold scan1 at hsn hst
    dsimp only at hsn hst
    obtain ⟨rs, hrs⟩ : ∃ rs, rs = seenVS L at1 := ⟨_, rfl⟩
    rw [← hrs] at hC hsn hst
    have HSN := Lib.hid hsn
    have HST := Lib.hid hst
    have HJ := Lib.hid hj
    have HBX := Lib.hid hbx
    have HLE : Hid (W.heap.size ≤ w2.heap.size) := Lib.hid (by have := HZ2.out; omega)
    clear hmem hrd htr hll hsn hst e1 e2 ht hseq hj0 hy0 hj hbx hrs
    dsimp only [pairB]
    by_cases hlo : Op.bytesLess key lo = true
    · gi_wp2
      refine ⟨KT.refl _ _ _, ⟨A ++ [(key, (v, L))], Q', HA.out.1, HA.out.2, ?_⟩, HBX.out⟩
      have := HSN.out
      rw [if_pos hlo] at this
      rw [this]
      simpa using HJ.out
    · have hlo' : Op.bytesLess key lo = false := by simpa using hlo
      have HC1 : Hid (∀ m, CallsIn (Fence.wide.inRound l2) m Try.prog 58 #[v, .int .i64 at1] W2 fun e w' => e = seenEVS rs ∧ Below W2.heap.size W2 w') := Lib.hid (fun m => (callsIn_wide.2 hC).inRound l2)
      have HSN2 := Lib.hid (by have := HSN.out; rw [if_neg hlo] at this; exact this)
      have HST2 := Lib.hid (by have := HST.out; rw [if_neg hlo] at this; exact this)
      clear hC HSN HST hlo
      cases rs with
      | none =>
        unfold seenEVS at HC1
        gi_wp2_with fail
        refine (HC1.out _).mono ?_
        rintro e w3 ⟨rfl, hb3⟩
        have H3 := Lib.hid hb3
        clear hb3
        gi_wp2
        refine ⟨KT.of_below H3.out, ⟨A ++ [(key, (v, L))], Q', HA.out.1, HA.out.2, ?_⟩, (H3.out.block _ (Array.getElem?_eq_some_iff.1 (show W2.heap[W.heap.size]? = _ from HBX.out)).1).trans HBX.out⟩
        rw [HSN2.out]
        simpa using own_below hJ HJ.out H3.out
      | some r =>
        unfold seenEVS at HC1
        gi_wp2_with fail
        refine (HC1.out _).mono ?_
        rintro e w3 ⟨rfl, hb3⟩
        have H3 := Lib.hid hb3
        have cY3 : w3.cell? ⟨W.heap.size, 0, none⟩ = some (.func (.yield l) #[] #[]) := (hb3.cell (p := ⟨W.heap.size, 0, none⟩) (World.block_lt_of_cell? W2 _ cY)).trans cY
        have hj3 := own_below hJ HJ.out hb3
        have hbx3 : Boxed w3 W.heap.size 94 (.func (.yield l) #[] #[]) := (hb3.block _ (Array.getElem?_eq_some_iff.1 (show W2.heap[W.heap.size]? = _ from HBX.out)).1).trans HBX.out
        obtain ⟨fn, tmps, assign, body, hy, hR⟩ := hY (scanL lo at1 A) (key, r) w3 hj3 ⟨scanL lo at1 Q', by rw [HST2.out]; rfl⟩ 6
        have HB3 := Lib.hid hbx3
        clear hb3 hj3 hbx3 HC1
        gi_wp2_with (refine hR.mono ?_; clear hR; rintro e W4 ⟨hk, ⟨rfl, hj4⟩ | ⟨rfl, hx4⟩⟩)
        · exact ⟨(KT.of_below H3.out).trans (hk.more HLE.out), ⟨A ++ [(key, (v, L))], Q', HA.out.1, HA.out.2, by rw [HSN2.out]; exact hj4⟩, hk.box HB3.out (Nat.le_refl _) hw⟩
        · exact ⟨(KT.of_below H3.out).trans (hk.more HLE.out), rfl, _, ⟨scanL lo at1 Q', by rw [HST2.out, ← List.append_assoc]; rfl⟩, hx4⟩
  case done =>
    rintro D W2 hD ⟨⟨A, Q, e1, e2, hj⟩, _⟩ hK
    have hA : A = S2 := by
      have h6 := HPR.out.symm.trans e2
      rw [e1, List.map_append] at h6
      have h7 := congrArg List.length h6
      simp at h7
      rw [e1, h7, List.append_nil]
    subst hA
    gi_wp2
    refine ⟨by simp, .inl ⟨_, _, rfl, run_takeDeferred hK, ?_⟩⟩
    exact ⟨_, results_none rfl _ _ _, ⟨_, rfl⟩, .inl (hJ.putObj _ hj (by have := HZ2.out; omega) hK rfl)⟩
  case stop =>
    rintro D c pre W2 hD hx ⟨rfl, out, ht, hj⟩ hK
    gi_wp2
    refine ⟨by simp, .inl ⟨_, _, rfl, run_takeDeferred hK, ?_⟩⟩
    exact ⟨_, results_none rfl _ _ _, ⟨_, rfl⟩, .inr ⟨out, ht, hJx.putObj _ hj (by have := HZ2.out; omega) hK rfl⟩⟩
end Go.Proofs.Ytcgjiddiegepkaa

/- txn: what the store has below a hi, as writes. -/
namespace Go.Proofs.Ytcgjiddiegepkaa
open Go.RowKit
attribute [local go_sem] Oper.semAt_some wide_fn wide_depth
set_option maxRecDepth 100000 in
set_option maxHeartbeats 4000000 in
theorem storedH_any {Wr : TypeId → Prop} {w W : World} {B s mb b1 b2 b3 tb wb : Nat} {t : Tr} {S : ChsVS} {cnt low : Int} {k : Nat} (h : StVS w B s mb t S cnt low k) (hk : k ≤ 100000) {lo : List UInt8} {hic : UInt8} {his : List UInt8} {at1 : Int} (htx : TxB w tb s at1 wb) (hL : TxL w b1 b2 b3 tb lo (hic :: his)) (hW : Below w.heap.size w W)
    (hw1 : ¬ Wr 94) (hw2 : ¬ Wr 109) (hw3 : ¬ Wr 25) (hw4 : ¬ Wr 9) (hw5 : ¬ Wr 3) :
    Seqs Try.prog 70 #[.pointer (some ⟨b1, 0, none⟩), .pointer (some ⟨b2, 0, none⟩), .pointer (some ⟨b3, 0, none⟩)] (fun p : Value × Value => #[p.1, p.2]) (fun W2 => Below w.heap.size w W2) Wr ((scanL lo at1 (cutS lo (hic :: his) S)).map stW) W := by
  intro l J Jx hJ hJx hOk hY h0
  obtain ⟨S2, hS2⟩ : ∃ S2, S2 = cutS lo (hic :: his) S := ⟨_, rfl⟩
  rw [← hS2] at hY ⊢
  have hm : Try.prog.follows .mixedOrders = true := by kernel_rfl
  have hdd : ∀ k : Nat, (Fence.wide.depth.isSome = true → 1 ≤ k) := fun k h => by cases h
  obtain ⟨W1, hW1⟩ : ∃ W1, W1 = (W.alloc (.cells #[.func (.yield l) #[] #[]] 109)).drew := ⟨_, rfl⟩
  have l1 : Below W.heap.size W W1 := by rw [hW1]; exact Below.drewsN (below_alloc W _) 1
  have hz1 : W1.heap.size = W.heap.size + 1 := by rw [hW1]; simp
  have lw1 : Below w.heap.size w W1 := hW.trans (l1.mono hW.size)
  obtain ⟨q1, q2, q3⟩ := hL.below lw1
  obtain ⟨p0, p1, _⟩ := (htx.below lw1).cells
  have bY : Boxed W1 W.heap.size 109 (.func (.yield l) #[] #[]) := by rw [hW1]; exact Boxed.new W 109 (.func (.yield l) #[] #[])
  have CS := Lib.hid (scan_any W1 s lo (hic :: his) at1)
  refine (callsIn_wide (n := 9)).1 ?_
  refine callsIn_of_wp_marks Try.func70 rfl trivial ?_ rfl
  simp only [Try.ntmps70, List.size_toArray, List.length_cons, List.length_nil, Nat.reduceAdd, Nat.reduceSub, Array.replicate_succ, Array.replicate_zero, List.push_toArray, List.append_toArray, List.nil_append, List.cons_append]
  gi_wp2_with fail
  refine onlyF_cut (fun a W' => a = { tmps := #[.func (.yield l) #[] #[], .pointer (some ⟨b1, 0, none⟩), .pointer (some ⟨b2, 0, none⟩), .pointer (some ⟨b3, 0, none⟩), .pointer (some ⟨W.heap.size, 0, none⟩), undef, undef, .pointer (some ⟨tb, 0, none⟩), .pointer (some ⟨tb, 0, none⟩), .pointer (some ⟨tb, 0, none⟩), .pointer (some ⟨s, 0, none⟩), str lo, str (hic :: his), .pointer (some ⟨tb, 0, none⟩), .pointer (some ⟨tb, 0, none⟩), .pointer (some ⟨tb, 1, none⟩), .int .i64 at1, .func (.func 56) #[] #[.pointer (some ⟨W.heap.size + 1, 0, none⟩), .pointer (some ⟨W.heap.size + 1 + 1, 0, none⟩), .pointer (some ⟨W.heap.size + 1 + 2, 0, none⟩), .pointer (some ⟨W.heap.size + 1 + 3, 0, none⟩)], undef, undef, undef, undef, undef, undef, undef, undef, undef], defers := [] } ∧ W' = scanW W1 s lo (hic :: his) at1) ?_ ?_
  · have HS : Hid (∀ W', Below W1.heap.size W1 W' → W'.cell? ⟨b1, 0, none⟩ = some (.pointer (some ⟨tb, 0, none⟩)) ∧ W'.cell? ⟨b2, 0, none⟩ = some (str lo) ∧ W'.cell? ⟨b3, 0, none⟩ = some (str (hic :: his)) ∧ W'.cell? ⟨tb, 0, none⟩ = some (.pointer (some ⟨s, 0, none⟩)) ∧ W'.cell? ⟨tb, 1, none⟩ = some (.int .i64 at1)) := Lib.hid (fun W' hb => by
      obtain ⟨q1, q2, q3⟩ := hL.below (lw1.trans (hb.mono lw1.size))
      obtain ⟨p0, p1, _⟩ := (htx.below (lw1.trans (hb.mono lw1.size))).cells
      exact ⟨q1, q2, q3, p0, p1⟩)
    clear q1 q2 q3 p0 p1 bY hz1 l1 lw1
    refine wpIn_wide.2 ?_
    subst hW1
    go_region_held3 (fun W' => W'.cell? ⟨b1, 0, none⟩ = some (.pointer (some ⟨tb, 0, none⟩)) ∧ W'.cell? ⟨b2, 0, none⟩ = some (str lo) ∧ W'.cell? ⟨b3, 0, none⟩ = some (str (hic :: his)) ∧ W'.cell? ⟨tb, 0, none⟩ = some (.pointer (some ⟨s, 0, none⟩)) ∧ W'.cell? ⟨tb, 1, none⟩ = some (.int .i64 at1))
      (first
        | (exact HS.out _ (Below.refl _ _))
        | (exact HS.out _ (scanW_box _ _ _ _ _).2)
        | go_keep)
      ((go_at_call 36; refine CS.out.mono ?_; rintro e w2 ⟨rfl, rfl⟩))
    all_goals
      dsimp only [OnlyF]
      exact ⟨rfl, rfl⟩
  · rintro a w2 ⟨rfl, hw2'⟩
    obtain ⟨_, l2⟩ := scanW_box W1 s lo (hic :: his) at1
    have hbx := bxS_new W1 s lo (hic :: his) at1
    rw [← hw2'] at hbx l2
    have hz2 : w2.heap.size = W.heap.size + 5 := by rw [hw2']; simp [scanW, hz1]
    have lw2 : Below w.heap.size w w2 := lw1.trans (l2.mono (by have := lw1.size; omega))
    have bY2 : Boxed w2 W.heap.size 109 (.func (.yield l) #[] #[]) := (l2.block _ (by omega)).trans bY
    obtain ⟨b, hb⟩ : ∃ b, b = W.heap.size + 1 := ⟨_, rfl⟩
    rw [hz1, ← hb] at hbx
    rw [← hb]
    have hbW := hb
    have hseq : ∀ W', Below w2.heap.size w2 W' → Seqs Try.prog 56 #[.pointer (some ⟨b, 0, none⟩), .pointer (some ⟨b + 1, 0, none⟩), .pointer (some ⟨b + 2, 0, none⟩), .pointer (some ⟨b + 3, 0, none⟩)] (fun p : PairT => #[str p.1, str p.2]) (fun W2 => Below w.heap.size w W2 ∧ ScB W2 b (b + 1) (b + 2) (b + 3) s lo (hic :: his) at1) Wr (scanL lo at1 S2) W' := fun W' hW' => by
      rw [hS2]
      exact scanOkH_any h hk (hbx.below hW').sc (lw2.trans (hW'.mono lw2.size)) hw1
    have hj0 : J (([] : List PairT).map stW) w2 := own_below hJ (own_below hJ h0 l1) l2
    have HZ := Lib.hid (And.intro hz2 hbW)
    clear hS2
    clear CS hW1 l1 hz1 lw1 q1 q2 q3 p0 p1 bY hw2' l2 hb h htx hL
    gi_wp2_with fail
    refine range_law (gf := 56) (lb := #[.pointer (some ⟨b, 0, none⟩), .pointer (some ⟨b + 1, 0, none⟩), .pointer (some ⟨b + 2, 0, none⟩), .pointer (some ⟨b + 3, 0, none⟩)]) rfl (enters_of Try.func56 (by kernel_rfl) rfl) (Wr := Wr) (xs := scanL lo at1 S2) hseq (by intro x; rfl)
      (fun pre W2 => J (pre.map stW) W2 ∧ Boxed W2 W.heap.size 109 (.func (.yield l) #[] #[]) ∧ BxS W2 b (b + 1) (b + 2) (b + 3) s lo (hic :: his) at1)
      (fun c _ W2 => c = .ret ∧ ∃ out, (∃ t, (scanL lo at1 S2).map stW = out ++ t) ∧ Jx out W2)
      (OwnFrom.and ?ownj (OwnFrom.and (boxed_ownT (Tw := fun _ => False) _ _ (fun _ : List PairT => .func (.yield l) #[] #[]) (by simp) |>.from _ |>.plain) (bxS_own _ _ _ _ _ _ _ _ _))) (fun c => ?ownx) ⟨hj0, bY2, hbx⟩ ?okk ?a1 ?assign ?body ?done ?stop
    case ownj =>
      rintro s' X Y row hj hg hr
      exact hJ _ _ _ _ hj hg (fun r e => ⟨by have := (hr r e).1; have := HZ.out.1; omega, (hr r e).2⟩)
    case ownx =>
      rintro s' X Y row ⟨hc, out, ht, hj⟩ hg hr
      exact ⟨hc, out, ht, hJx _ _ _ _ hj hg (fun r e => ⟨by have := (hr r e).1; have := HZ.out.1; omega, (hr r e).2⟩)⟩
    case okk =>
      rintro pre W2 ⟨hj, _, hx⟩
      exact ⟨hOk _ _ hj, hx.sc⟩
    case assign =>
      intro l x W' K hK
      gi_wp2
      exact hK
    case body =>
      rintro l2 pre ⟨key, v⟩ W2 hl2 ⟨hj, hby, hx⟩ ⟨tl, ht⟩
      have cY : W2.cell? ⟨W.heap.size, 0, none⟩ = some (.func (.yield l) #[] #[]) := hby.cell
      have hx1 : (scanL lo at1 S2).map stW = pre.map stW ++ stW (key, v) :: tl.map stW := by rw [ht]; simp
      obtain ⟨fn, tmps, assign, body, hy, hR⟩ := hY (pre.map stW) (stW (key, v)) W2 hj ⟨_, hx1⟩ 6
      have HH := Lib.hid (And.intro hx1 (And.intro hby hx))
      rw [show stW (key, v) = (str key, .agg #[str key, str v, .bool false]) from rfl] at hy hR
      dsimp only at hy hR
      clear hj hby hx hx1 ht hseq hj0 bY2 hbx
      dsimp only
      gi_wp2_with (refine hR.mono ?_; clear hR; rintro e W4 ⟨hk, ⟨rfl, hj4⟩ | ⟨rfl, hx4⟩⟩)
      · obtain ⟨e1, e2, e3⟩ := HH.out
        have hz := HZ.out
        refine ⟨hk.more (by omega), by rw [List.map_append]; exact hj4, hk.box e2 (Nat.le_refl _) hw2, e3.kt hk (by omega) hw3 hw4 hw5⟩
      · obtain ⟨e1, e2, e3⟩ := HH.out
        have hz := HZ.out
        exact ⟨hk.more (by omega), rfl, _, ⟨_, by rw [e1, ← List.append_cons]; rfl⟩, hx4⟩
    case done =>
      rintro D W2 hD ⟨hj, _, _⟩ hK
      gi_wp2
      refine ⟨by simp, .inl ⟨_, _, rfl, run_takeDeferred hK, ?_⟩⟩
      exact ⟨_, results_none rfl _ _ _, ⟨_, rfl⟩, .inl (hJ.putObj _ hj (by have := HZ.out.1; omega) hK rfl)⟩
    case stop =>
      rintro D c pre W2 hD hx ⟨rfl, out, ht, hj⟩ hK
      gi_wp2
      refine ⟨by simp, .inl ⟨_, _, rfl, run_takeDeferred hK, ?_⟩⟩
      exact ⟨_, results_none rfl _ _ _, ⟨_, rfl⟩, .inr ⟨out, ht, hJx.putObj _ hj (by have := HZ.out.1; omega) hK rfl⟩⟩
end Go.Proofs.Ytcgjiddiegepkaa

/- txn: the transaction's own writes below a hi. -/
namespace Go.Proofs.Ytcgjiddiegepkaa
open Go.RowKit
attribute [local go_sem] Oper.semAt_some wide_fn wide_depth
theorem below_spanVW (w : World) (b : Nat) (lo hi : Value) : Below w.heap.size w (spanWVW w b lo hi) := by
  unfold spanWVW
  exact (((Below.refl _ w).alloc (Nat.le_refl _) _).alloc (by simp) _).alloc (by simp; omega) _
theorem spanVW_cells (w : World) (b : Nat) (lo hi : List UInt8) (w2 : World) (h : w2 = spanWVW w b (str lo) (str hi)) :
    w2.cell? ⟨w.heap.size, 0, none⟩ = some (.pointer (some ⟨b, 0, none⟩)) ∧ w2.cell? ⟨w.heap.size + 1, 0, none⟩ = some (str lo) ∧ w2.cell? ⟨w.heap.size + 2, 0, none⟩ = some (str hi) := by
  subst h
  unfold spanWVW
  obtain ⟨A, hA⟩ : ∃ A, A = w.alloc (.cells #[.pointer (some ⟨b, 0, none⟩)] 72) := ⟨_, rfl⟩
  rw [← hA]
  obtain ⟨C, hC⟩ : ∃ C, C = A.alloc (.cells #[str lo] 9) := ⟨_, rfl⟩
  rw [← hC]
  have a0 : A.heap.size = w.heap.size + 1 := by rw [hA]; simp
  have a1 : C.heap.size = w.heap.size + 2 := by rw [hC]; simp [a0]
  have e0 : A.cell? ⟨w.heap.size, 0, none⟩ = some (.pointer (some ⟨b, 0, none⟩)) := by rw [hA]; simp
  have e1 : C.cell? ⟨A.heap.size, 0, none⟩ = some (str lo) := by rw [hC]; simp
  have e2 : (C.alloc (.cells #[str hi] 9)).cell? ⟨C.heap.size, 0, none⟩ = some (str hi) := by simp
  have b1 : Below A.heap.size A C := by rw [hC]; exact below_alloc A _
  have b2 : Below C.heap.size C (C.alloc (.cells #[str hi] 9)) := below_alloc C _
  rw [a0] at e1
  rw [a1] at e2
  refine ⟨?_, ?_, e2⟩
  · rw [b2.cell (p := ⟨w.heap.size, 0, none⟩) (by show w.heap.size < _; omega), b1.cell (p := ⟨w.heap.size, 0, none⟩) (by show w.heap.size < _; omega)]; exact e0
  · rw [b2.cell (p := ⟨w.heap.size + 1, 0, none⟩) (by show w.heap.size + 1 < _; omega)]; exact e1
set_option maxRecDepth 100000 in
set_option maxHeartbeats 2000000 in
theorem spans2VW_any {Wr : TypeId → Prop} {b B0 B1 B2 : Nat} {t : Tr} {lo hi : Value} {w W : World} (hm : MQ w b t) (hw : WS KSVW VSVW t) (hlo : KSVW lo) (hhi : KSVW hi) (q0 : W.cell? ⟨B0, 0, none⟩ = some (.pointer (some ⟨b, 0, none⟩)))
    (q1 : W.cell? ⟨B1, 0, none⟩ = some lo) (q2 : W.cell? ⟨B2, 0, none⟩ = some hi) (hW : Below w.heap.size w W) :
    Seqs Try.prog 82 #[.pointer (some ⟨B0, 0, none⟩), .pointer (some ⟨B1, 0, none⟩), .pointer (some ⟨B2, 0, none⟩)] (fun p => #[p.1, p.2]) (NQ w) Wr (btwVW lo hi t) W := by
  intro l J Jx hJ hJx hOk hY h0
  obtain ⟨T, o, hb, ht⟩ := hm
  have hb' : W.heap[b]? = some (.cells #[.pointer o, .int .i64 ((prs t).length : Int)] T (0, 0)) := by rw [hW.block b (Array.getElem?_eq_some_iff.1 hb).1]; exact hb
  have c0 : W.cell? ⟨b, 0, none⟩ = some (.pointer o) := by simp [World.cell?, hb']
  have hr : CallsIn Fence.wide 8 Try.prog 83 #[.pointer o, lo, hi, .func (.yield l) #[] #[]] W.drew fun e W1 => ∃ c, e = .returned (.bool c) ∧ (J (btwVW lo hi t) W1 ∨ ∃ pre, (∃ q, btwVW lo hi t = pre ++ q) ∧ Jx pre W1) := by
    refine (betweenVW_any (xs := btwVW lo hi t) hlo hhi hJ hOk hY t o [] W.drew 8 ht hw (own_drew hJ h0) ⟨[], by simp⟩).mono ?_
    rintro e W1 (⟨rfl, h⟩ | ⟨rfl, q, hq, h⟩)
    · exact ⟨true, rfl, .inl (by simpa using h)⟩
    · exact ⟨false, rfl, .inr ⟨q, hq, by simpa using h⟩⟩
  have hm : Try.prog.follows .mixedOrders = true := by kernel_rfl
  clear hb hb' ht
  refine (callsIn_wide (n := 9)).1 ?_
  refine callsIn_of_wp Try.func82 rfl trivial ?_ rfl
  simp only [Try.ntmps82, List.size_toArray, List.length_cons, List.length_nil, Nat.reduceAdd, Nat.reduceSub, Array.replicate_succ, Array.replicate_zero, List.push_toArray, List.append_toArray, List.nil_append, List.cons_append]
  gi_wp2
  gi_region_with_o (gi_at_call 83; refine hr.mono ?_; rintro e W1 ⟨c, rfl, hP⟩)
  all_goals
    gi_wp2
    go_end0
    exact ⟨⟨_, rfl⟩, hP⟩
/-- The world behind written. -/
def wrHW (W : World) (tb wb : Nat) (lo hi : List UInt8) : World := spanWVW ((W.alloc (.cells #[.pointer (some ⟨tb, 0, none⟩)] 30)).alloc (.cells #[str lo] 9)).drew wb (str lo) (str hi)
theorem txn_writtenH (W : World) (tb s wb : Nat) (at1 : Int) (lo : List UInt8) (hic : UInt8) (his : List UInt8) (htx : TxB W tb s at1 wb) : Calls Try.prog 52 #[.pointer (some ⟨tb, 0, none⟩), str lo, str (hic :: his)] W fun e w' =>
    e = .returned (.func (.func 82) #[] #[.pointer (some ⟨W.heap.size + 2, 0, none⟩), .pointer (some ⟨W.heap.size + 3, 0, none⟩), .pointer (some ⟨W.heap.size + 4, 0, none⟩)]) ∧
    w' = wrHW W tb wb lo (hic :: his) := by
  obtain ⟨W1, hW1⟩ : ∃ W1, W1 = (W.alloc (.cells #[.pointer (some ⟨tb, 0, none⟩)] 30)).alloc (.cells #[str lo] 9) := ⟨_, rfl⟩
  have hb1 : Below W.heap.size W W1 := by rw [hW1]; exact ((Below.refl _ W).alloc (Nat.le_refl _) _).alloc (by simp) _
  have hz1 : W1.heap.size = W.heap.size + 2 := by rw [hW1]; simp
  have hz1d : W1.drew.heap.size = W.heap.size + 2 := hz1
  have CR := Lib.hid (mspanVW_any wb (str lo) (str (hic :: his)) ⟨lo, rfl⟩ ⟨hic :: his, rfl⟩ W1.drew)
  rw [hz1d] at CR
  have HS : Hid (∀ W', Below W1.heap.size W1 W' → W'.cell? ⟨W.heap.size, 0, none⟩ = some (.pointer (some ⟨tb, 0, none⟩)) ∧ W'.cell? ⟨W.heap.size + 1, 0, none⟩ = some (str lo) ∧ W'.cell? ⟨tb, 2, none⟩ = some (.pointer (some ⟨wb, 0, none⟩))) := Lib.hid (fun W' hb => by
    have e0 : W1.cell? ⟨W.heap.size, 0, none⟩ = some (.pointer (some ⟨tb, 0, none⟩)) := by rw [hW1]; simp
    have e1 : W1.cell? ⟨W.heap.size + 1, 0, none⟩ = some (str lo) := by rw [hW1]; simp
    exact ⟨(hb.cell (p := ⟨W.heap.size, 0, none⟩) (World.block_lt_of_cell? W1 _ e0)).trans e0, (hb.cell (p := ⟨W.heap.size + 1, 0, none⟩) (World.block_lt_of_cell? W1 _ e1)).trans e1, (htx.below (hb1.trans (hb.mono hb1.size))).cells.2.2⟩)
  have HE : Hid (wrHW W tb wb lo (hic :: his) = spanWVW W1.drew wb (str lo) (str (hic :: his))) := Lib.hid (by unfold wrHW; rw [hW1])
  have HBS := Lib.hid (below_spanVW W1.drew wb (str lo) (str (hic :: his)))
  have HB1 : Hid (Below W1.heap.size W1 W1.drew) := Lib.hid (Below.drewsN (Below.refl _ _) 1)
  clear htx hb1 hz1 hz1d
  go_enter Try.func52, Try.ntmps52
  go_wp2_with fail
  subst hW1
  go_region_held3 (fun W' => W'.cell? ⟨W.heap.size, 0, none⟩ = some (.pointer (some ⟨tb, 0, none⟩)) ∧ W'.cell? ⟨W.heap.size + 1, 0, none⟩ = some (str lo) ∧ W'.cell? ⟨tb, 2, none⟩ = some (.pointer (some ⟨wb, 0, none⟩)))
    (first
      | (exact HS.out _ HB1.out)
      | (exact HS.out _ (HB1.out.trans (HBS.out.mono HB1.out.size)))
      | go_keep)
    ((first
      | (go_at_call 71; refine CR.out.mono ?_; rintro e w2 ⟨rfl, rfl⟩)
      | fail))
  all_goals
    go_wp2_with fail
    go_ret
    exact ⟨rfl, HE.out.symm⟩
end Go.Proofs.Ytcgjiddiegepkaa
