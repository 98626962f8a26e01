import Derived.Test.YtcgjiddiegepkaaVScan
import Derived.Test.YtcgjiddiegepkaaBetweenVW
import Derived.Test.YtcgjiddiegepkaaRiseVW
import Derived.Test.YtcgjiddiegepkaaMapVW
import Derived.Test.YtcgjiddiegepkaaV11StayN
import Derived.Test.YtcgjiddiegepkaaMergeVW
import Derived.Test.YtcgjiddiegepkaaOnlyF
import Derived.Deep.RegionHeld3
import Derived.ControlIn
/- Scan, ranged over by who lays its boxes. -/
namespace Go.Proofs.Ytcgjiddiegepkaa
open Go.RowKit
attribute [local go_sem] Oper.semAt_some wide_fn wide_depth
set_option maxRecDepth 100000 in
set_option maxHeartbeats 4000000 in
theorem scanOk_any {Wr : TypeId → Prop} {w W : World} {B s mb b0 b1 b2 b3 : Nat} {t : Tr} {S : ChsVS} {cnt low : Int} {k : Nat} (h : StVS w B s mb t S cnt low k) (hk : k ≤ 100000) {lo : List UInt8} {at1 : Int} (hb : ScB W b0 b1 b2 b3 s lo [] at1) (hW : Below w.heap.size w W) (hw : ¬ Wr 94) :
    Seqs Try.prog 56 #[.pointer (some ⟨b0, 0, none⟩), .pointer (some ⟨b1, 0, none⟩), .pointer (some ⟨b2, 0, none⟩), .pointer (some ⟨b3, 0, none⟩)] (fun p : List UInt8 × List UInt8 => #[str p.1, str p.2]) (fun W2 => Below w.heap.size w W2 ∧ ScB W2 b0 b1 b2 b3 s lo [] at1) Wr (scanL lo at1 S) W := by
  intro l J Jx hJ hJx hOk hY h0
  have hdd : ∀ k : Nat, (Fence.wide.depth.isSome = true → 1 ≤ k) := fun k h => by cases h
  obtain ⟨d0, d1, d2, _⟩ := hb.up (below_alloc W (.cells #[.func (.yield l) #[] #[]] 94))
  have hs1 := h.below (hW.trans ((below_alloc W (.cells #[.func (.yield l) #[] #[]] 94)).mono hW.size))
  have CF := Lib.hid (callsIn_wide (n := 8) |>.2 (fromAll_any hs1 lo))
  have bY := Boxed.new W 94 (.func (.yield l) #[] #[])
  refine (callsIn_wide (n := 9)).1 ?_
  refine callsIn_of_wp_marks Try.func56 rfl trivial ?_ rfl
  simp only [Try.ntmps56, List.size_toArray, List.length_cons, List.length_nil, Nat.reduceAdd, Nat.reduceSub, Array.replicate_succ, Array.replicate_zero, List.push_toArray, List.append_toArray, List.nil_append, List.cons_append]
  gi_wp2_with fail
  refine CF.out.mono ?_
  rintro e w2 ⟨rfl, hw2⟩
  obtain ⟨W1, hW1⟩ : ∃ W1, W1 = W.alloc (.cells #[.func (.yield l) #[] #[]] 94) := ⟨_, rfl⟩
  rw [← hW1] at hw2 bY hs1 ⊢
  have l1 : Below W.heap.size W W1 := by rw [hW1]; exact below_alloc W _
  have l2 : Below W1.heap.size W1 w2 := by rw [hw2]; exact below_alloc W1 _
  have hz1 : W1.heap.size = W.heap.size + 1 := by rw [hW1]; simp
  have hz2 : w2.heap.size = W.heap.size + 2 := by rw [hw2]; simp [hz1]
  have c4 : w2.cell? ⟨W1.heap.size, 0, none⟩ = some (.pointer (some ⟨mb, 0, none⟩)) := by rw [hw2]; simp
  have hs2 := hs1.below l2
  have lw2 : Below w.heap.size w w2 := (hW.trans (l1.mono hW.size)).trans (l2.mono (by have := hW.size; omega))
  have hseq : ∀ W', Below w2.heap.size w2 W' → Seqs Try.prog 84 #[.pointer (some ⟨W1.heap.size, 0, none⟩)] (fun p : Value × Value => #[p.1, p.2]) (NK w) Wr (prs t) W' := fun W' hW' => alls2_any h.mp ((hW'.cell (p := ⟨W1.heap.size, 0, none⟩) (World.block_lt_of_cell? w2 _ c4)).trans c4) (lw2.trans (hW'.mono lw2.size))
  have hj0 : J (scanL lo at1 []) w2 := own_below hJ (own_below hJ h0 l1) l2
  have hy0 : Boxed w2 W.heap.size 94 (.func (.yield l) #[] #[]) := (l2.block _ (by omega)).trans bY
  have HPR := Lib.hid h.pr
  have HRW : Hid (∀ W2, Below w.heap.size w W2 → ∀ x ∈ S, RdVS W2 x.2.1 x.2.2 ∧ RisT (timesVS x.2.2) ∧ x.2.2.length ≤ 1000000) := Lib.hid (fun W2 hb2 x hx => ⟨(rd_rowVS (h.ch x hx)).up hb2, h.tr x hx, by have := h.hk.2.2 x hx; omega⟩)
  have HZ2 := Lib.hid hz2
  clear l1 l2 hz1 c4 hs2 hs1 hW1 hw2 d0 d1 d2 bY h0 CF h hb
  gi_wp2_with fail
  refine range_law (gf := 84) (lb := #[.pointer (some ⟨W1.heap.size, 0, none⟩)]) rfl (enters_of Try.func84 (by kernel_rfl) rfl) (Ok := NK w) (Wr := Wr) (xs := prs t) hseq (by intro x; rfl)
    (fun pre W2 => (∃ A Q, S = A ++ Q ∧ pre = A.map (pairB Prod.fst) ∧ J (scanL lo at1 A) W2) ∧ Boxed W2 W.heap.size 94 (.func (.yield l) #[] #[]))
    (fun c _ W2 => c = .ret ∧ ∃ out, (∃ t, scanL lo at1 S = out ++ t) ∧ Jx out W2)
    (OwnFrom.and ?ownj (boxed_ownT (Tw := fun _ => False) _ _ (fun _ : List (Value × Value) => .func (.yield l) #[] #[]) (by simp) |>.from _ |>.plain)) (fun c => ?ownx) ⟨⟨[], S, rfl, rfl, hj0⟩, hy0⟩ ?okk ?a1 ?assign ?body ?done ?stop
  case ownj =>
    rintro s' X Y row ⟨A, Q, e1, e2, hj⟩ hg hr
    exact ⟨A, Q, e1, e2, hJ _ _ _ _ hj hg (fun r e => ⟨by have := (hr r e).1; have := HZ2.out; omega, (hr r e).2⟩)⟩
  case ownx =>
    rintro s' X Y row ⟨hc, out, ht, hj⟩ hg hr
    exact ⟨hc, out, ht, hJx _ _ _ _ hj hg (fun r e => ⟨by have := (hr r e).1; have := HZ2.out; omega, (hr r e).2⟩)⟩
  case okk =>
    rintro pre W2 ⟨⟨A, Q, _, _, hj⟩, _⟩
    exact NK.of_below (hOk _ _ hj).1
  case assign =>
    intro l x W' K hK
    gi_wp2
    exact hK
  case body =>
    rintro l2 pre x W2 hl2 ⟨⟨A, Q, e1, e2, hj⟩, hbx⟩ ⟨tl, ht⟩
    obtain ⟨key, v, L, Q', rfl, rfl⟩ : ∃ key v L Q', Q = (key, (v, L)) :: Q' ∧ x = pairB Prod.fst ((key, (v, L)) : List UInt8 × ChVS) := by
      have h6 := HPR.out.symm.trans ht
      rw [e1, List.map_append, e2] at h6
      have h7 := List.append_cancel_left h6
      cases Q with
      | nil => cases h7
      | cons q Q' =>
        obtain ⟨key, v, L⟩ := q
        simp only [List.map_cons, List.cons.injEq] at h7
        exact ⟨key, v, L, Q', rfl, h7.1.symm⟩
    have hmem : (key, (v, L)) ∈ S := by rw [e1]; simp
    have hB2 := (hOk _ _ hj).1
    obtain ⟨hrd, htr, hll⟩ := HRW.out W2 hB2 _ hmem
    dsimp only at hrd htr hll
    obtain ⟨_, c1, _, c3⟩ := (hOk _ _ hj).2
    have cY : W2.cell? ⟨W.heap.size, 0, none⟩ = some (.func (.yield l) #[] #[]) := hbx.cell
    have hC := seenVS_any v L at1 W2 hrd htr hll
    have hsn := scanL_snoc lo at1 A (key, (v, L))
    have hst : scanL lo at1 S = scanL lo at1 A ++ ((scan1 lo at1 (key, (v, L))).toList ++ scanL lo at1 Q') := by
      rw [e1, scanL_app, show (key, (v, L)) :: Q' = [(key, (v, L))] ++ Q' from rfl, scanL_app]
      congr 2
    have HA : Hid (S = A ++ [(key, (v, L))] ++ Q' ∧ pre ++ [pairB Prod.fst ((key, (v, L)) : List UInt8 × ChVS)] = (A ++ [(key, (v, L))]).map (pairB Prod.fst)) := Lib.hid ⟨by rw [e1]; simp, by rw [e2]; simp⟩
    unfold scan1 at hsn hst
    dsimp only at hsn hst
    obtain ⟨rs, hrs⟩ : ∃ rs, rs = seenVS L at1 := ⟨_, rfl⟩
    rw [← hrs] at hC hsn hst
    have HSN := Lib.hid hsn
    have HST := Lib.hid hst
    have HJ := Lib.hid hj
    have HBX := Lib.hid hbx
    have HLE : Hid (W.heap.size ≤ w2.heap.size) := Lib.hid (by have := HZ2.out; omega)
    clear hmem hrd htr hll hsn hst e1 e2 ht hseq hj0 hy0 hj hbx hrs
    dsimp only [pairB]
    by_cases hlo : Op.bytesLess key lo = true
    · gi_wp2
      refine ⟨KT.refl _ _ _, ⟨A ++ [(key, (v, L))], Q', HA.out.1, HA.out.2, ?_⟩, HBX.out⟩
      have := HSN.out
      rw [if_pos hlo] at this
      rw [this]
      simpa using HJ.out
    · have hlo' : Op.bytesLess key lo = false := by simpa using hlo
      have HC1 : Hid (∀ m, CallsIn (Fence.wide.inRound l2) m Try.prog 58 #[v, .int .i64 at1] W2 fun e w' => e = seenEVS rs ∧ Below W2.heap.size W2 w') := Lib.hid (fun m => (callsIn_wide.2 hC).inRound l2)
      have HSN2 := Lib.hid (by have := HSN.out; rw [if_neg hlo] at this; exact this)
      have HST2 := Lib.hid (by have := HST.out; rw [if_neg hlo] at this; exact this)
      clear hC HSN HST hlo
      cases rs with
      | none =>
        unfold seenEVS at HC1
        gi_wp2_with fail
        refine (HC1.out _).mono ?_
        rintro e w3 ⟨rfl, hb3⟩
        have H3 := Lib.hid hb3
        clear hb3
        gi_wp2
        refine ⟨KT.of_below H3.out, ⟨A ++ [(key, (v, L))], Q', HA.out.1, HA.out.2, ?_⟩, (H3.out.block _ (Array.getElem?_eq_some_iff.1 (show W2.heap[W.heap.size]? = _ from HBX.out)).1).trans HBX.out⟩
        rw [HSN2.out]
        simpa using own_below hJ HJ.out H3.out
      | some r =>
        unfold seenEVS at HC1
        gi_wp2_with fail
        refine (HC1.out _).mono ?_
        rintro e w3 ⟨rfl, hb3⟩
        have H3 := Lib.hid hb3
        have cY3 : w3.cell? ⟨W.heap.size, 0, none⟩ = some (.func (.yield l) #[] #[]) := (hb3.cell (p := ⟨W.heap.size, 0, none⟩) (World.block_lt_of_cell? W2 _ cY)).trans cY
        have hj3 := own_below hJ HJ.out hb3
        have hbx3 : Boxed w3 W.heap.size 94 (.func (.yield l) #[] #[]) := (hb3.block _ (Array.getElem?_eq_some_iff.1 (show W2.heap[W.heap.size]? = _ from HBX.out)).1).trans HBX.out
        obtain ⟨fn, tmps, assign, body, hy, hR⟩ := hY (scanL lo at1 A) (key, r) w3 hj3 ⟨scanL lo at1 Q', by rw [HST2.out]; rfl⟩ 6
        have HB3 := Lib.hid hbx3
        clear hb3 hj3 hbx3 HC1
        gi_wp2_with (refine hR.mono ?_; clear hR; rintro e W4 ⟨hk, ⟨rfl, hj4⟩ | ⟨rfl, hx4⟩⟩)
        · exact ⟨(KT.of_below H3.out).trans (hk.more HLE.out), ⟨A ++ [(key, (v, L))], Q', HA.out.1, HA.out.2, by rw [HSN2.out]; exact hj4⟩, hk.box HB3.out (Nat.le_refl _) hw⟩
        · exact ⟨(KT.of_below H3.out).trans (hk.more HLE.out), rfl, _, ⟨scanL lo at1 Q', by rw [HST2.out, ← List.append_assoc]; rfl⟩, hx4⟩
  case done =>
    rintro D W2 hD ⟨⟨A, Q, e1, e2, hj⟩, _⟩ hK
    have hA : A = S := by
      have h6 := HPR.out.symm.trans e2
      rw [e1, List.map_append] at h6
      have h7 := congrArg List.length h6
      simp at h7
      rw [e1, h7, List.append_nil]
    subst hA
    gi_wp2
    refine ⟨by simp, .inl ⟨_, _, rfl, run_takeDeferred hK, ?_⟩⟩
    exact ⟨_, results_none rfl _ _ _, ⟨_, rfl⟩, .inl (hJ.putObj _ hj (by have := HZ2.out; omega) hK rfl)⟩
  case stop =>
    rintro D c pre W2 hD hx ⟨rfl, out, ht, hj⟩ hK
    gi_wp2
    refine ⟨by simp, .inl ⟨_, _, rfl, run_takeDeferred hK, ?_⟩⟩
    exact ⟨_, results_none rfl _ _ _, ⟨_, rfl⟩, .inr ⟨out, ht, hJx.putObj _ hj (by have := HZ2.out; omega) hK rfl⟩⟩
end Go.Proofs.Ytcgjiddiegepkaa

/- Maps in order, omap[string,handbill/api.Write]: Range, what it ranges over. -/
namespace Go.Proofs.Ytcgjiddiegepkaa
open Go.RowKit
attribute [local go_sem] Oper.semAt_some wide_fn wide_depth

/-- The world behind Range. -/
def spanWVW (w : World) (b : Nat) (lo hi : Value) : World := ((w.alloc (.cells #[.pointer (some ⟨b, 0, none⟩)] 72)).alloc (.cells #[lo] 9)).alloc (.cells #[hi] 9)
theorem mspanVW_any (b : Nat) (lo hi : Value) (hlo : KSVW lo) (hhi : KSVW hi) (w : World) : Calls Try.prog 71 #[.pointer (some ⟨b, 0, none⟩), lo, hi] w fun e w' =>
    e = .returned (.func (.func 82) #[] #[.pointer (some ⟨w.heap.size, 0, none⟩), .pointer (some ⟨w.heap.size + 1, 0, none⟩), .pointer (some ⟨w.heap.size + 2, 0, none⟩)]) ∧ w' = spanWVW w b lo hi := by
  unfold spanWVW
  obtain ⟨x, rfl⟩ := hlo
  obtain ⟨y, rfl⟩ := hhi
  go_enter Try.func71, Try.ntmps71
  go_wp2
  go_ret
  exact ⟨rfl, rfl⟩
set_option maxRecDepth 100000 in
set_option maxHeartbeats 2000000 in
theorem spansVW_any {Wr : TypeId → Prop} {b B0 B1 B2 : Nat} {t : Tr} {lo hi : Value} {w W : World} (hm : MQ w b t) (hw : WS KSVW VSVW t) (hlo : KSVW lo) (hhi : KSVW hi) (hc : w.cell? ⟨B0, 0, none⟩ = some (.pointer (some ⟨b, 0, none⟩)))
    (hc1 : w.cell? ⟨B1, 0, none⟩ = some lo) (hc2 : w.cell? ⟨B2, 0, none⟩ = some hi) (hW : Below w.heap.size w W) :
    Seqs Try.prog 82 #[.pointer (some ⟨B0, 0, none⟩), .pointer (some ⟨B1, 0, none⟩), .pointer (some ⟨B2, 0, none⟩)] (fun p => #[p.1, p.2]) (NQ w) Wr (btwVW lo hi t) W := by
  intro l J Jx hJ hJx hOk hY h0
  have q0 : W.cell? ⟨B0, 0, none⟩ = some (.pointer (some ⟨b, 0, none⟩)) := (hW.cell (p := ⟨B0, 0, none⟩) (World.block_lt_of_cell? w _ hc)).trans hc
  have q1 : W.cell? ⟨B1, 0, none⟩ = some lo := (hW.cell (p := ⟨B1, 0, none⟩) (World.block_lt_of_cell? w _ hc1)).trans hc1
  have q2 : W.cell? ⟨B2, 0, none⟩ = some hi := (hW.cell (p := ⟨B2, 0, none⟩) (World.block_lt_of_cell? w _ hc2)).trans hc2
  obtain ⟨T, o, hb, ht⟩ := hm
  have hb' : W.heap[b]? = some (.cells #[.pointer o, .int .i64 ((prs t).length : Int)] T (0, 0)) := by rw [hW.block b (Array.getElem?_eq_some_iff.1 hb).1]; exact hb
  have c0 : W.cell? ⟨b, 0, none⟩ = some (.pointer o) := by simp [World.cell?, hb']
  have hr : CallsIn Fence.wide 8 Try.prog 83 #[.pointer o, lo, hi, .func (.yield l) #[] #[]] W.drew fun e W1 => ∃ c, e = .returned (.bool c) ∧ (J (btwVW lo hi t) W1 ∨ ∃ pre, (∃ q, btwVW lo hi t = pre ++ q) ∧ Jx pre W1) := by
    refine (betweenVW_any (xs := btwVW lo hi t) hlo hhi hJ hOk hY t o [] W.drew 8 ht hw (own_drew hJ h0) ⟨[], by simp⟩).mono ?_
    rintro e W1 (⟨rfl, h⟩ | ⟨rfl, q, hq, h⟩)
    · exact ⟨true, rfl, .inl (by simpa using h)⟩
    · exact ⟨false, rfl, .inr ⟨q, hq, by simpa using h⟩⟩
  have hm : Try.prog.follows .mixedOrders = true := by kernel_rfl
  clear hb hb' ht hc hc1 hc2
  refine (callsIn_wide (n := 9)).1 ?_
  refine callsIn_of_wp Try.func82 rfl trivial ?_ rfl
  simp only [Try.ntmps82, List.size_toArray, List.length_cons, List.length_nil, Nat.reduceAdd, Nat.reduceSub, Array.replicate_succ, Array.replicate_zero, List.push_toArray, List.append_toArray, List.nil_append, List.cons_append]
  gi_wp2
  gi_region_with_o (gi_at_call 83; refine hr.mono ?_; rintro e W1 ⟨c, rfl, hP⟩)
  all_goals
    gi_wp2
    go_end0
    exact ⟨⟨_, rfl⟩, hP⟩
end Go.Proofs.Ytcgjiddiegepkaa

/- Maps in order, omap[string,handbill/api.Write]: All, what it ranges over. -/
namespace Go.Proofs.Ytcgjiddiegepkaa
open Go.RowKit
attribute [local go_sem] Oper.semAt_some wide_fn wide_depth

/-- A pair as what is handed on; a key alone. -/
theorem mallVW_any (b : Nat) (w : World) : Calls Try.prog 54 #[.pointer (some ⟨b, 0, none⟩)] w fun e w' =>
    e = .returned (.func (.func 73) #[] #[.pointer (some ⟨w.heap.size, 0, none⟩)]) ∧ w' = w.alloc (.cells #[.pointer (some ⟨b, 0, none⟩)] 72) := by
  go_enter Try.func54, Try.ntmps54
  go_wp2
  go_ret
  exact ⟨rfl, rfl⟩
set_option maxHeartbeats 1000000 in
theorem allsVW_any {Wr : TypeId → Prop} {b Bm : Nat} {t : Tr} {w W : World} (hm : MQ w b t) (hw : WS KSVW VSVW t) (hc : w.cell? ⟨Bm, 0, none⟩ = some (.pointer (some ⟨b, 0, none⟩))) (hW : Below w.heap.size w W) :
    Seqs Try.prog 73 #[.pointer (some ⟨Bm, 0, none⟩)] (fun p => #[p.1, p.2]) (NQ w) Wr (prs t) W := by
  intro l J Jx hJ hJx hOk hY h0
  have hc' : W.cell? ⟨Bm, 0, none⟩ = some (.pointer (some ⟨b, 0, none⟩)) := (hW.cell (p := ⟨Bm, 0, none⟩) (World.block_lt_of_cell? w _ hc)).trans hc
  obtain ⟨T, o, hb, ht⟩ := hm
  have hb' : W.heap[b]? = some (.cells #[.pointer o, .int .i64 ((prs t).length : Int)] T (0, 0)) := by rw [hW.block b (Array.getElem?_eq_some_iff.1 hb).1]; exact hb
  have c0 : W.cell? ⟨b, 0, none⟩ = some (.pointer o) := by simp [World.cell?, hb']
  have hr := riseVW_any (xs := prs t) hJ hOk hY t o [] W 8 ht hw h0 ⟨[], by simp⟩
  have hdd : ∀ k : Nat, (Fence.wide.depth.isSome = true → 1 ≤ k) := fun k h => by cases h
  clear hb hb' ht
  refine (callsIn_wide (n := 9)).1 ?_
  refine callsIn_of_wp Try.func73 rfl trivial ?_ rfl
  simp only [Try.ntmps73, List.size_toArray, List.length_cons, List.length_nil, Nat.reduceAdd, Nat.reduceSub, Array.replicate_succ, Array.replicate_zero, List.push_toArray, List.append_toArray, List.nil_append, List.cons_append]
  gi_wp2_with (gi_at_call 74; refine hr.mono ?_; clear hr; rintro e W1 (⟨rfl, hJ1⟩ | ⟨rfl, q, hq, hx⟩))
  · go_end0
    exact ⟨⟨_, rfl⟩, .inl (by simpa using hJ1)⟩
  · go_end0
    exact ⟨⟨_, rfl⟩, .inr ⟨q, hq, by simpa using hx⟩⟩
end Go.Proofs.Ytcgjiddiegepkaa

/- txn: how a transaction lies; what the store has, as writes. -/
namespace Go.Proofs.Ytcgjiddiegepkaa
open Go.RowKit
attribute [local go_sem] Oper.semAt_some wide_fn wide_depth

theorem onlyF_cut {F : Fence} {n : Nat} {P : Program} {c : Code} {Q : Exit → Act → World → Prop} {a : Act} {w : World} (R : Act → World → Prop) (h : c.wpIn F n P (OnlyF R) a w) (hR : ∀ a w, R a w → Q .normal a w) : c.wpIn F n P Q a w :=
  wpIn_mono h (fun e a' w' hq => by
    cases e with
    | normal => exact hR _ _ hq
    | _ => exact hq.elim)
/-- A value of the store as a write. -/
def stW (p : PairT) : Value × Value := (str p.1, .agg #[str p.1, str p.2, .bool false])
/-- What a box that scanning reads holds. -/
structure BxS (W : World) (b0 b1 b2 b3 s : Nat) (lo hi : List UInt8) (at1 : Int) : Prop where
  x0 : Boxed W b0 25 (.pointer (some ⟨s, 0, none⟩))
  x1 : Boxed W b1 9 (str lo)
  x2 : Boxed W b2 9 (str hi)
  x3 : Boxed W b3 3 (.int .i64 at1)
theorem BxS.sc {W : World} {b0 b1 b2 b3 s : Nat} {lo hi : List UInt8} {at1 : Int} (h : BxS W b0 b1 b2 b3 s lo hi at1) : ScB W b0 b1 b2 b3 s lo hi at1 := ⟨h.x0.cell, h.x1.cell, h.x2.cell, h.x3.cell⟩
theorem BxS.kt {Wr : TypeId → Prop} {W W' : World} {B b s : Nat} {lo hi : List UInt8} {at1 : Int} (h : BxS W b (b + 1) (b + 2) (b + 3) s lo hi at1) (hk : KT Wr B W W') (hB : B ≤ b) (h1 : ¬ Wr 25) (h2 : ¬ Wr 9) (h3 : ¬ Wr 3) : BxS W' b (b + 1) (b + 2) (b + 3) s lo hi at1 :=
  ⟨hk.box h.x0 hB h1, hk.box h.x1 (by omega) h2, hk.box h.x2 (by omega) h2, hk.box h.x3 (by omega) h3⟩
theorem BxS.below {W W' : World} {b0 b1 b2 b3 s : Nat} {lo hi : List UInt8} {at1 : Int} (h : BxS W b0 b1 b2 b3 s lo hi at1) (hb : Below W.heap.size W W') : BxS W' b0 b1 b2 b3 s lo hi at1 := by
  have k : ∀ {b : Nat} {T : TypeId} {v : Value}, Boxed W b T v → Boxed W' b T v := fun {b T v} hx => (hb.block b (Array.getElem?_eq_some_iff.1 (show W.heap[b]? = _ from hx)).1).trans hx
  exact ⟨k h.x0, k h.x1, k h.x2, k h.x3⟩
theorem bxS_new (W : World) (s : Nat) (lo hi : List UInt8) (at1 : Int) : BxS (scanW W s lo hi at1) W.heap.size (W.heap.size + 1) (W.heap.size + 2) (W.heap.size + 3) s lo hi at1 := by
  have g0 := Boxed.new W 25 (.pointer (some ⟨s, 0, none⟩))
  have g1 := Boxed.new (W.alloc (.cells #[.pointer (some ⟨s, 0, none⟩)] 25)) 9 (str lo)
  have g2 := Boxed.new ((W.alloc (.cells #[.pointer (some ⟨s, 0, none⟩)] 25)).alloc (.cells #[str lo] 9)) 9 (str hi)
  have g3 := Boxed.new (((W.alloc (.cells #[.pointer (some ⟨s, 0, none⟩)] 25)).alloc (.cells #[str lo] 9)).alloc (.cells #[str hi] 9)) 3 (.int .i64 at1)
  simp only [World.size_alloc] at g1 g2 g3
  exact ⟨((g0.alloc _).alloc _).alloc _, (g1.alloc _).alloc _, g2.alloc _, g3⟩
theorem bxS_own {β : Type} (B b0 b1 b2 b3 s : Nat) (lo hi : List UInt8) (at1 : Int) : OwnFrom B (fun (_ : β) W => BxS W b0 b1 b2 b3 s lo hi at1) := fun p X Y row h hg hr => by
  have k : ∀ (b : Nat) (T : TypeId) (v : Value), Boxed X b T v → Boxed Y b T v := fun b T v hx => ((boxed_ownT (Tw := fun _ => False) (β := β) b T (fun _ => v) (fun h => h)).from B).plain p X Y row hx hg hr
  exact ⟨k _ _ _ h.x0, k _ _ _ h.x1, k _ _ _ h.x2, k _ _ _ h.x3⟩
/-- A transaction's box. -/
def TxB (W : World) (tb s : Nat) (at1 : Int) (wb : Nat) : Prop := W.heap[tb]? = some (.cells #[.pointer (some ⟨s, 0, none⟩), .int .i64 at1, .pointer (some ⟨wb, 0, none⟩)] 75 (0, 0))
theorem TxB.cells {W : World} {tb s : Nat} {at1 : Int} {wb : Nat} (h : TxB W tb s at1 wb) : W.cell? ⟨tb, 0, none⟩ = some (.pointer (some ⟨s, 0, none⟩)) ∧ W.cell? ⟨tb, 1, none⟩ = some (.int .i64 at1) ∧ W.cell? ⟨tb, 2, none⟩ = some (.pointer (some ⟨wb, 0, none⟩)) := by
  have h' : W.heap[tb]? = _ := h
  exact ⟨by simp [World.cell?, h'], by simp [World.cell?, h'], by simp [World.cell?, h']⟩
theorem TxB.below {W W' : World} {tb s : Nat} {at1 : Int} {wb : Nat} (h : TxB W tb s at1 wb) (hb : Below W.heap.size W W') : TxB W' tb s at1 wb := (hb.block tb (Array.getElem?_eq_some_iff.1 (show W.heap[tb]? = _ from h)).1).trans h
/-- stored's boxes, written's and Scan's: the transaction, lo, hi. -/
structure TxL (W : World) (b1 b2 b3 tb : Nat) (lo hi : List UInt8) : Prop where
  x1 : W.cell? ⟨b1, 0, none⟩ = some (.pointer (some ⟨tb, 0, none⟩))
  x2 : W.cell? ⟨b2, 0, none⟩ = some (str lo)
  x3 : W.cell? ⟨b3, 0, none⟩ = some (str hi)
theorem TxL.below {W W' : World} {b1 b2 b3 tb : Nat} {lo hi : List UInt8} (h : TxL W b1 b2 b3 tb lo hi) (hb : Below W.heap.size W W') : TxL W' b1 b2 b3 tb lo hi :=
  ⟨(hb.cell (p := ⟨b1, 0, none⟩) (World.block_lt_of_cell? W _ h.x1)).trans h.x1, (hb.cell (p := ⟨b2, 0, none⟩) (World.block_lt_of_cell? W _ h.x2)).trans h.x2, (hb.cell (p := ⟨b3, 0, none⟩) (World.block_lt_of_cell? W _ h.x3)).trans h.x3⟩
theorem txn_stored (W : World) (tb : Nat) (lo hi : List UInt8) : Calls Try.prog 51 #[.pointer (some ⟨tb, 0, none⟩), str lo, str hi] W fun e w' =>
    e = .returned (.func (.func 70) #[] #[.pointer (some ⟨W.heap.size, 0, none⟩), .pointer (some ⟨W.heap.size + 1, 0, none⟩), .pointer (some ⟨W.heap.size + 2, 0, none⟩)]) ∧
    w' = ((W.alloc (.cells #[.pointer (some ⟨tb, 0, none⟩)] 30)).alloc (.cells #[str lo] 9)).alloc (.cells #[str hi] 9) := by
  go_enter Try.func51, Try.ntmps51
  go_wp2_with fail
  go_ret
  exact ⟨rfl, rfl⟩
theorem txn_written (W : World) (tb : Nat) (lo : List UInt8) : Calls Try.prog 52 #[.pointer (some ⟨tb, 0, none⟩), str lo, str []] W fun e w' =>
    e = .returned (.func (.func 72) #[] #[.pointer (some ⟨W.heap.size, 0, none⟩), .pointer (some ⟨W.heap.size + 1, 0, none⟩)]) ∧
    w' = (W.alloc (.cells #[.pointer (some ⟨tb, 0, none⟩)] 30)).alloc (.cells #[str lo] 9) := by
  go_enter Try.func52, Try.ntmps52
  go_wp2_with fail
  go_ret
  exact ⟨rfl, rfl⟩
set_option maxRecDepth 100000 in
set_option maxHeartbeats 4000000 in
theorem stored_any {Wr : TypeId → Prop} {w W : World} {B s mb b1 b2 b3 tb wb : Nat} {t : Tr} {S : ChsVS} {cnt low : Int} {k : Nat} (h : StVS w B s mb t S cnt low k) (hk : k ≤ 100000) {lo : List UInt8} {at1 : Int} (htx : TxB w tb s at1 wb) (hL : TxL w b1 b2 b3 tb lo []) (hW : Below w.heap.size w W)
    (hw1 : ¬ Wr 94) (hw2 : ¬ Wr 109) (hw3 : ¬ Wr 25) (hw4 : ¬ Wr 9) (hw5 : ¬ Wr 3) :
    Seqs Try.prog 70 #[.pointer (some ⟨b1, 0, none⟩), .pointer (some ⟨b2, 0, none⟩), .pointer (some ⟨b3, 0, none⟩)] (fun p : Value × Value => #[p.1, p.2]) (fun W2 => Below w.heap.size w W2) Wr ((scanL lo at1 S).map stW) W := by
  intro l J Jx hJ hJx hOk hY h0
  have hm : Try.prog.follows .mixedOrders = true := by kernel_rfl
  have hdd : ∀ k : Nat, (Fence.wide.depth.isSome = true → 1 ≤ k) := fun k h => by cases h
  obtain ⟨W1, hW1⟩ : ∃ W1, W1 = (W.alloc (.cells #[.func (.yield l) #[] #[]] 109)).drew := ⟨_, rfl⟩
  have l1 : Below W.heap.size W W1 := by rw [hW1]; exact Below.drewsN (below_alloc W _) 1
  have hz1 : W1.heap.size = W.heap.size + 1 := by rw [hW1]; simp
  have lw1 : Below w.heap.size w W1 := hW.trans (l1.mono hW.size)
  obtain ⟨q1, q2, q3⟩ := hL.below lw1
  obtain ⟨p0, p1, _⟩ := (htx.below lw1).cells
  have bY : Boxed W1 W.heap.size 109 (.func (.yield l) #[] #[]) := by rw [hW1]; exact Boxed.new W 109 (.func (.yield l) #[] #[])
  have CS := Lib.hid (scan_any W1 s lo [] at1)
  refine (callsIn_wide (n := 9)).1 ?_
  refine callsIn_of_wp_marks Try.func70 rfl trivial ?_ rfl
  simp only [Try.ntmps70, List.size_toArray, List.length_cons, List.length_nil, Nat.reduceAdd, Nat.reduceSub, Array.replicate_succ, Array.replicate_zero, List.push_toArray, List.append_toArray, List.nil_append, List.cons_append]
  gi_wp2_with fail
  refine onlyF_cut (fun a W' => a = { tmps := #[.func (.yield l) #[] #[], .pointer (some ⟨b1, 0, none⟩), .pointer (some ⟨b2, 0, none⟩), .pointer (some ⟨b3, 0, none⟩), .pointer (some ⟨W.heap.size, 0, none⟩), undef, undef, .pointer (some ⟨tb, 0, none⟩), .pointer (some ⟨tb, 0, none⟩), .pointer (some ⟨tb, 0, none⟩), .pointer (some ⟨s, 0, none⟩), str lo, str [], .pointer (some ⟨tb, 0, none⟩), .pointer (some ⟨tb, 0, none⟩), .pointer (some ⟨tb, 1, none⟩), .int .i64 at1, .func (.func 56) #[] #[.pointer (some ⟨W.heap.size + 1, 0, none⟩), .pointer (some ⟨W.heap.size + 1 + 1, 0, none⟩), .pointer (some ⟨W.heap.size + 1 + 2, 0, none⟩), .pointer (some ⟨W.heap.size + 1 + 3, 0, none⟩)], undef, undef, undef, undef, undef, undef, undef, undef, undef], defers := [] } ∧ W' = scanW W1 s lo [] at1) ?_ ?_
  · have HS : Hid (∀ W', Below W1.heap.size W1 W' → W'.cell? ⟨b1, 0, none⟩ = some (.pointer (some ⟨tb, 0, none⟩)) ∧ W'.cell? ⟨b2, 0, none⟩ = some (str lo) ∧ W'.cell? ⟨b3, 0, none⟩ = some (str []) ∧ W'.cell? ⟨tb, 0, none⟩ = some (.pointer (some ⟨s, 0, none⟩)) ∧ W'.cell? ⟨tb, 1, none⟩ = some (.int .i64 at1)) := Lib.hid (fun W' hb => by
      obtain ⟨q1, q2, q3⟩ := hL.below (lw1.trans (hb.mono lw1.size))
      obtain ⟨p0, p1, _⟩ := (htx.below (lw1.trans (hb.mono lw1.size))).cells
      exact ⟨q1, q2, q3, p0, p1⟩)
    clear q1 q2 q3 p0 p1 bY hz1 l1 lw1
    refine wpIn_wide.2 ?_
    subst hW1
    go_region_held3 (fun W' => W'.cell? ⟨b1, 0, none⟩ = some (.pointer (some ⟨tb, 0, none⟩)) ∧ W'.cell? ⟨b2, 0, none⟩ = some (str lo) ∧ W'.cell? ⟨b3, 0, none⟩ = some (str []) ∧ W'.cell? ⟨tb, 0, none⟩ = some (.pointer (some ⟨s, 0, none⟩)) ∧ W'.cell? ⟨tb, 1, none⟩ = some (.int .i64 at1))
      (first
        | (exact HS.out _ (Below.refl _ _))
        | (exact HS.out _ (scanW_box _ _ _ _ _).2)
        | go_keep)
      ((go_at_call 36; refine CS.out.mono ?_; rintro e w2 ⟨rfl, rfl⟩))
    all_goals
      dsimp only [OnlyF]
      exact ⟨rfl, rfl⟩
  · rintro a w2 ⟨rfl, hw2'⟩
    obtain ⟨_, l2⟩ := scanW_box W1 s lo [] at1
    have hbx := bxS_new W1 s lo [] at1
    rw [← hw2'] at hbx l2
    have hz2 : w2.heap.size = W.heap.size + 5 := by rw [hw2']; simp [scanW, hz1]
    have lw2 : Below w.heap.size w w2 := lw1.trans (l2.mono (by have := lw1.size; omega))
    have bY2 : Boxed w2 W.heap.size 109 (.func (.yield l) #[] #[]) := (l2.block _ (by omega)).trans bY
    obtain ⟨b, hb⟩ : ∃ b, b = W.heap.size + 1 := ⟨_, rfl⟩
    rw [hz1, ← hb] at hbx
    rw [← hb]
    have hbW := hb
    have hseq : ∀ W', Below w2.heap.size w2 W' → Seqs Try.prog 56 #[.pointer (some ⟨b, 0, none⟩), .pointer (some ⟨b + 1, 0, none⟩), .pointer (some ⟨b + 2, 0, none⟩), .pointer (some ⟨b + 3, 0, none⟩)] (fun p : PairT => #[str p.1, str p.2]) (fun W2 => Below w.heap.size w W2 ∧ ScB W2 b (b + 1) (b + 2) (b + 3) s lo [] at1) Wr (scanL lo at1 S) W' := fun W' hW' => scanOk_any h hk (hbx.below hW').sc (lw2.trans (hW'.mono lw2.size)) hw1
    have hj0 : J (([] : List PairT).map stW) w2 := own_below hJ (own_below hJ h0 l1) l2
    have HZ := Lib.hid (And.intro hz2 hbW)
    clear CS hW1 l1 hz1 lw1 q1 q2 q3 p0 p1 bY hw2' l2 hb h htx hL
    gi_wp2_with fail
    refine range_law (gf := 56) (lb := #[.pointer (some ⟨b, 0, none⟩), .pointer (some ⟨b + 1, 0, none⟩), .pointer (some ⟨b + 2, 0, none⟩), .pointer (some ⟨b + 3, 0, none⟩)]) rfl (enters_of Try.func56 (by kernel_rfl) rfl) (Wr := Wr) (xs := scanL lo at1 S) hseq (by intro x; rfl)
      (fun pre W2 => J (pre.map stW) W2 ∧ Boxed W2 W.heap.size 109 (.func (.yield l) #[] #[]) ∧ BxS W2 b (b + 1) (b + 2) (b + 3) s lo [] at1)
      (fun c _ W2 => c = .ret ∧ ∃ out, (∃ t, (scanL lo at1 S).map stW = out ++ t) ∧ Jx out W2)
      (OwnFrom.and ?ownj (OwnFrom.and (boxed_ownT (Tw := fun _ => False) _ _ (fun _ : List PairT => .func (.yield l) #[] #[]) (by simp) |>.from _ |>.plain) (bxS_own _ _ _ _ _ _ _ _ _))) (fun c => ?ownx) ⟨hj0, bY2, hbx⟩ ?okk ?a1 ?assign ?body ?done ?stop
    case ownj =>
      rintro s' X Y row hj hg hr
      exact hJ _ _ _ _ hj hg (fun r e => ⟨by have := (hr r e).1; have := HZ.out.1; omega, (hr r e).2⟩)
    case ownx =>
      rintro s' X Y row ⟨hc, out, ht, hj⟩ hg hr
      exact ⟨hc, out, ht, hJx _ _ _ _ hj hg (fun r e => ⟨by have := (hr r e).1; have := HZ.out.1; omega, (hr r e).2⟩)⟩
    case okk =>
      rintro pre W2 ⟨hj, _, hx⟩
      exact ⟨hOk _ _ hj, hx.sc⟩
    case assign =>
      intro l x W' K hK
      gi_wp2
      exact hK
    case body =>
      rintro l2 pre ⟨key, v⟩ W2 hl2 ⟨hj, hby, hx⟩ ⟨tl, ht⟩
      have cY : W2.cell? ⟨W.heap.size, 0, none⟩ = some (.func (.yield l) #[] #[]) := hby.cell
      have hx1 : (scanL lo at1 S).map stW = pre.map stW ++ stW (key, v) :: tl.map stW := by rw [ht]; simp
      obtain ⟨fn, tmps, assign, body, hy, hR⟩ := hY (pre.map stW) (stW (key, v)) W2 hj ⟨_, hx1⟩ 6
      have HH := Lib.hid (And.intro hx1 (And.intro hby hx))
      rw [show stW (key, v) = (str key, .agg #[str key, str v, .bool false]) from rfl] at hy hR
      dsimp only at hy hR
      clear hj hby hx hx1 ht hseq hj0 bY2 hbx
      dsimp only
      gi_wp2_with (refine hR.mono ?_; clear hR; rintro e W4 ⟨hk, ⟨rfl, hj4⟩ | ⟨rfl, hx4⟩⟩)
      · obtain ⟨e1, e2, e3⟩ := HH.out
        have hz := HZ.out
        refine ⟨hk.more (by omega), by rw [List.map_append]; exact hj4, hk.box e2 (Nat.le_refl _) hw2, e3.kt hk (by omega) hw3 hw4 hw5⟩
      · obtain ⟨e1, e2, e3⟩ := HH.out
        have hz := HZ.out
        exact ⟨hk.more (by omega), rfl, _, ⟨_, by rw [e1, ← List.append_cons]; rfl⟩, hx4⟩
    case done =>
      rintro D W2 hD ⟨hj, _, _⟩ hK
      gi_wp2
      refine ⟨by simp, .inl ⟨_, _, rfl, run_takeDeferred hK, ?_⟩⟩
      exact ⟨_, results_none rfl _ _ _, ⟨_, rfl⟩, .inl (hJ.putObj _ hj (by have := HZ.out.1; omega) hK rfl)⟩
    case stop =>
      rintro D c pre W2 hD hx ⟨rfl, out, ht, hj⟩ hK
      gi_wp2
      refine ⟨by simp, .inl ⟨_, _, rfl, run_takeDeferred hK, ?_⟩⟩
      exact ⟨_, results_none rfl _ _ _, ⟨_, rfl⟩, .inr ⟨out, ht, hJx.putObj _ hj (by have := HZ.out.1; omega) hK rfl⟩⟩
end Go.Proofs.Ytcgjiddiegepkaa
