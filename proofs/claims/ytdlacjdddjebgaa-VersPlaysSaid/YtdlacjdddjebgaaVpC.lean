/- Joined: SpanVS, VScanH, RfPut, RfScan, RfPrune, V11ScM, V11Js, RfChain, V11Jq, V2. -/
import Derived.Test.YtdlacjdddjebgaaBetweenVS
import Derived.Test.YtdlacjdddjebgaaVScan
import Derived.Test.YtdlacjdddjebgaaVpB
import Derived.Test.YtdlacjdddjebgaaV11Stay
import Derived.Test.YtdlacjdddjebgaaV11Put
namespace Go.Proofs.Ytdlacjdddjebgaa
open Go.RowKit
attribute [local go_sem] Oper.semAt_some wide_fn wide_depth

/-- The world behind Range. -/
def spanWVS (w : World) (b : Nat) (lo hi : Value) : World := ((w.alloc (.cells #[.pointer (some ⟨b, 0, none⟩)] 68)).alloc (.cells #[lo] 9)).alloc (.cells #[hi] 9)
theorem mspanVS_any (b : Nat) (lo hi : Value) (hlo : KSVS lo) (hhi : KSVS hi) (w : World) : Calls Try.prog 69 #[.pointer (some ⟨b, 0, none⟩), lo, hi] w fun e w' =>
    e = .returned (.func (.func 80) #[] #[.pointer (some ⟨w.heap.size, 0, none⟩), .pointer (some ⟨w.heap.size + 1, 0, none⟩), .pointer (some ⟨w.heap.size + 2, 0, none⟩)]) ∧ w' = spanWVS w b lo hi := by
  unfold spanWVS
  obtain ⟨x, rfl⟩ := hlo
  obtain ⟨y, rfl⟩ := hhi
  go_enter Try.func69, Try.ntmps69
  go_wp2
  go_ret
  exact ⟨rfl, rfl⟩
set_option maxRecDepth 100000 in
set_option maxHeartbeats 2000000 in
theorem spansVS_any {Wr : TypeId → Prop} {b B0 B1 B2 : Nat} {t : Tr} {lo hi : Value} {w W : World} (hm : MP w b t) (hw : WS KSVS VSVS t) (hlo : KSVS lo) (hhi : KSVS hi) (hc : w.cell? ⟨B0, 0, none⟩ = some (.pointer (some ⟨b, 0, none⟩)))
    (hc1 : w.cell? ⟨B1, 0, none⟩ = some lo) (hc2 : w.cell? ⟨B2, 0, none⟩ = some hi) (hW : Below w.heap.size w W) :
    Seqs Try.prog 80 #[.pointer (some ⟨B0, 0, none⟩), .pointer (some ⟨B1, 0, none⟩), .pointer (some ⟨B2, 0, none⟩)] (fun p => #[p.1, p.2]) (NK w) Wr (btwVS lo hi t) W := by
  intro l J Jx hJ hJx hOk hY h0
  have q0 : W.cell? ⟨B0, 0, none⟩ = some (.pointer (some ⟨b, 0, none⟩)) := (hW.cell (p := ⟨B0, 0, none⟩) (World.block_lt_of_cell? w _ hc)).trans hc
  have q1 : W.cell? ⟨B1, 0, none⟩ = some lo := (hW.cell (p := ⟨B1, 0, none⟩) (World.block_lt_of_cell? w _ hc1)).trans hc1
  have q2 : W.cell? ⟨B2, 0, none⟩ = some hi := (hW.cell (p := ⟨B2, 0, none⟩) (World.block_lt_of_cell? w _ hc2)).trans hc2
  obtain ⟨T, o, hb, ht⟩ := hm
  have hb' : W.heap[b]? = some (.cells #[.pointer o, .int .i64 ((prs t).length : Int)] T (0, 0)) := by rw [hW.block b (Array.getElem?_eq_some_iff.1 hb).1]; exact hb
  have c0 : W.cell? ⟨b, 0, none⟩ = some (.pointer o) := by simp [World.cell?, hb']
  have hr : CallsIn Fence.wide 8 Try.prog 81 #[.pointer o, lo, hi, .func (.yield l) #[] #[]] W.drew fun e W1 => ∃ c, e = .returned (.bool c) ∧ (J (btwVS lo hi t) W1 ∨ ∃ pre, (∃ q, btwVS lo hi t = pre ++ q) ∧ Jx pre W1) := by
    refine (betweenVS_any (xs := btwVS lo hi t) hlo hhi hJ hOk hY t o [] W.drew 8 ht hw (own_drew hJ h0) ⟨[], by simp⟩).mono ?_
    rintro e W1 (⟨rfl, h⟩ | ⟨rfl, q, hq, h⟩)
    · exact ⟨true, rfl, .inl (by simpa using h)⟩
    · exact ⟨false, rfl, .inr ⟨q, hq, by simpa using h⟩⟩
  have hm : Try.prog.follows .mixedOrders = true := by kernel_rfl
  clear hb hb' ht hc hc1 hc2
  refine (callsIn_wide (n := 9)).1 ?_
  refine callsIn_of_wp Try.func80 rfl trivial ?_ rfl
  simp only [Try.ntmps80, List.size_toArray, List.length_cons, List.length_nil, Nat.reduceAdd, Nat.reduceSub, Array.replicate_succ, Array.replicate_zero, List.push_toArray, List.append_toArray, List.nil_append, List.cons_append]
  gi_wp2
  gi_region_with_o (gi_at_call 81; refine hr.mono ?_; rintro e W1 ⟨c, rfl, hP⟩)
  all_goals
    gi_wp2
    go_end0
    exact ⟨⟨_, rfl⟩, hP⟩
end Go.Proofs.Ytdlacjdddjebgaa
namespace Go.Proofs.Ytdlacjdddjebgaa
open Go.RowKit
attribute [local go_sem] Oper.semAt_some wide_fn wide_depth
theorem fromHi_any {W : World} {B s mb : Nat} {t : Tr} {S : ChsVS} {cnt low : Int} {k : Nat} (h : StVS W B s mb t S cnt low k) (lo : List UInt8) (hic : UInt8) (his : List UInt8) :
    Calls Try.prog 53 #[.pointer (some ⟨s, 0, none⟩), str lo, str (hic :: his)] W fun e w' => e = .returned (.func (.func 80) #[] #[.pointer (some ⟨W.heap.size, 0, none⟩), .pointer (some ⟨W.heap.size + 1, 0, none⟩), .pointer (some ⟨W.heap.size + 2, 0, none⟩)]) ∧ w' = spanWVS W mb (str lo) (str (hic :: his)) := by
  obtain ⟨c0, _, _, _⟩ := h.cells
  have CA := Lib.hid (mspanVS_any mb (str lo) (str (hic :: his)) ⟨lo, rfl⟩ ⟨hic :: his, rfl⟩ W)
  clear h
  go_enter Try.func53, Try.ntmps53
  go_wp2_with fail
  refine CA.out.mono ?_
  rintro e w' ⟨rfl, h1⟩
  have H1 := Lib.hid h1
  clear h1
  go_wp2_with fail
  go_ret
  exact ⟨rfl, H1.out⟩
/-- The keys from lo on and below hi. -/
def cutS (lo hi : List UInt8) (S : ChsVS) : ChsVS := S.filter (fun x => !Op.bytesLess x.1 lo && Op.bytesLess x.1 hi)
theorem btw_cut {W : World} {B s mb : Nat} {t : Tr} {S : ChsVS} {cnt low : Int} {k : Nat} (h : StVS W B s mb t S cnt low k) (lo hi : List UInt8) : btwVS (str lo) (str hi) t = (cutS lo hi S).map (pairB Prod.fst) := by
  rw [btwVS_filter ordVS ⟨lo, rfl⟩ ⟨hi, rfl⟩ h.ws (by rw [h.pr]; exact (ris_map _ _).2 h.rs), h.pr, List.filter_map]
  rfl
theorem below_spanVS (w : World) (b : Nat) (lo hi : Value) : Below w.heap.size w (spanWVS w b lo hi) := by
  unfold spanWVS
  exact (((Below.refl _ w).alloc (Nat.le_refl _) _).alloc (by simp) _).alloc (by simp; omega) _
theorem spanVS_cells (w : World) (b : Nat) (lo hi : List UInt8) (w2 : World) (h : w2 = spanWVS w b (str lo) (str hi)) :
    w2.cell? ⟨w.heap.size, 0, none⟩ = some (.pointer (some ⟨b, 0, none⟩)) ∧ w2.cell? ⟨w.heap.size + 1, 0, none⟩ = some (str lo) ∧ w2.cell? ⟨w.heap.size + 2, 0, none⟩ = some (str hi) := by
  subst h
  unfold spanWVS
  obtain ⟨A, hA⟩ : ∃ A, A = w.alloc (.cells #[.pointer (some ⟨b, 0, none⟩)] 68) := ⟨_, rfl⟩
  rw [← hA]
  obtain ⟨C, hC⟩ : ∃ C, C = A.alloc (.cells #[str lo] 9) := ⟨_, rfl⟩
  rw [← hC]
  have a0 : A.heap.size = w.heap.size + 1 := by rw [hA]; simp
  have a1 : C.heap.size = w.heap.size + 2 := by rw [hC]; simp [a0]
  have e0 : A.cell? ⟨w.heap.size, 0, none⟩ = some (.pointer (some ⟨b, 0, none⟩)) := by rw [hA]; simp
  have e1 : C.cell? ⟨A.heap.size, 0, none⟩ = some (str lo) := by rw [hC]; simp
  have e2 : (C.alloc (.cells #[str hi] 9)).cell? ⟨C.heap.size, 0, none⟩ = some (str hi) := by simp
  have b1 : Below A.heap.size A C := by rw [hC]; exact below_alloc A _
  have b2 : Below C.heap.size C (C.alloc (.cells #[str hi] 9)) := below_alloc C _
  rw [a0] at e1
  rw [a1] at e2
  refine ⟨?_, ?_, e2⟩
  · rw [b2.cell (p := ⟨w.heap.size, 0, none⟩) (by show w.heap.size < _; omega), b1.cell (p := ⟨w.heap.size, 0, none⟩) (by show w.heap.size < _; omega)]; exact e0
  · rw [b2.cell (p := ⟨w.heap.size + 1, 0, none⟩) (by show w.heap.size + 1 < _; omega)]; exact e1
set_option maxRecDepth 100000 in
set_option maxHeartbeats 2000000 in
theorem spans2_any {Wr : TypeId → Prop} {b B0 B1 B2 : Nat} {t : Tr} {lo hi : Value} {w W : World} (hm : MP w b t) (hw : WS KSVS VSVS t) (hlo : KSVS lo) (hhi : KSVS hi) (q0 : W.cell? ⟨B0, 0, none⟩ = some (.pointer (some ⟨b, 0, none⟩)))
    (q1 : W.cell? ⟨B1, 0, none⟩ = some lo) (q2 : W.cell? ⟨B2, 0, none⟩ = some hi) (hW : Below w.heap.size w W) :
    Seqs Try.prog 80 #[.pointer (some ⟨B0, 0, none⟩), .pointer (some ⟨B1, 0, none⟩), .pointer (some ⟨B2, 0, none⟩)] (fun p => #[p.1, p.2]) (NK w) Wr (btwVS lo hi t) W := by
  intro l J Jx hJ hJx hOk hY h0
  obtain ⟨T, o, hb, ht⟩ := hm
  have hb' : W.heap[b]? = some (.cells #[.pointer o, .int .i64 ((prs t).length : Int)] T (0, 0)) := by rw [hW.block b (Array.getElem?_eq_some_iff.1 hb).1]; exact hb
  have c0 : W.cell? ⟨b, 0, none⟩ = some (.pointer o) := by simp [World.cell?, hb']
  have hr : CallsIn Fence.wide 8 Try.prog 81 #[.pointer o, lo, hi, .func (.yield l) #[] #[]] W.drew fun e W1 => ∃ c, e = .returned (.bool c) ∧ (J (btwVS lo hi t) W1 ∨ ∃ pre, (∃ q, btwVS lo hi t = pre ++ q) ∧ Jx pre W1) := by
    refine (betweenVS_any (xs := btwVS lo hi t) hlo hhi hJ hOk hY t o [] W.drew 8 ht hw (own_drew hJ h0) ⟨[], by simp⟩).mono ?_
    rintro e W1 (⟨rfl, h⟩ | ⟨rfl, q, hq, h⟩)
    · exact ⟨true, rfl, .inl (by simpa using h)⟩
    · exact ⟨false, rfl, .inr ⟨q, hq, by simpa using h⟩⟩
  have hm : Try.prog.follows .mixedOrders = true := by kernel_rfl
  clear hb hb' ht
  refine (callsIn_wide (n := 9)).1 ?_
  refine callsIn_of_wp Try.func80 rfl trivial ?_ rfl
  simp only [Try.ntmps80, List.size_toArray, List.length_cons, List.length_nil, Nat.reduceAdd, Nat.reduceSub, Array.replicate_succ, Array.replicate_zero, List.push_toArray, List.append_toArray, List.nil_append, List.cons_append]
  gi_wp2
  gi_region_with_o (gi_at_call 81; refine hr.mono ?_; rintro e W1 ⟨c, rfl, hP⟩)
  all_goals
    gi_wp2
    go_end0
    exact ⟨⟨_, rfl⟩, hP⟩
set_option maxRecDepth 100000 in
set_option maxHeartbeats 4000000 in
theorem scanHi_any {Wr : TypeId → Prop} {w W : World} {B s mb b0 b1 b2 b3 : Nat} {t : Tr} {S : ChsVS} {cnt low : Int} {k : Nat} (h : StVS w B s mb t S cnt low k) (hk : k ≤ 100000) {lo : List UInt8} {hic : UInt8} {his : List UInt8} {at1 : Int} (hb : ScB w b0 b1 b2 b3 s lo (hic :: his) at1) (hW : Below w.heap.size w W) (hw : ¬ Wr 89) :
    Seqs Try.prog 52 #[.pointer (some ⟨b0, 0, none⟩), .pointer (some ⟨b1, 0, none⟩), .pointer (some ⟨b2, 0, none⟩), .pointer (some ⟨b3, 0, none⟩)] (fun p : List UInt8 × List UInt8 => #[str p.1, str p.2]) (fun W2 => Below w.heap.size w W2) Wr (scanL lo at1 (cutS lo (hic :: his) S)) W := by
  intro l J Jx hJ hJx hOk hY h0
  obtain ⟨S2, hS2⟩ : ∃ S2, S2 = cutS lo (hic :: his) S := ⟨_, rfl⟩
  rw [← hS2] at hY ⊢
  have hdd : ∀ k : Nat, (Fence.wide.depth.isSome = true → 1 ≤ k) := fun k h => by cases h
  obtain ⟨d0, d1, d2, _⟩ := hb.up (hW.trans ((below_alloc W (.cells #[.func (.yield l) #[] #[]] 89)).mono hW.size))
  have hs1 := h.below (hW.trans ((below_alloc W (.cells #[.func (.yield l) #[] #[]] 89)).mono hW.size))
  have CF := Lib.hid (callsIn_wide (n := 8) |>.2 (fromHi_any hs1 lo hic his))
  have bY := Boxed.new W 89 (.func (.yield l) #[] #[])
  refine (callsIn_wide (n := 9)).1 ?_
  refine callsIn_of_wp_marks Try.func52 rfl trivial ?_ rfl
  simp only [Try.ntmps52, List.size_toArray, List.length_cons, List.length_nil, Nat.reduceAdd, Nat.reduceSub, Array.replicate_succ, Array.replicate_zero, List.push_toArray, List.append_toArray, List.nil_append, List.cons_append]
  gi_wp2_with fail
  refine CF.out.mono ?_
  rintro e w2 ⟨rfl, hw2⟩
  obtain ⟨W1, hW1⟩ : ∃ W1, W1 = W.alloc (.cells #[.func (.yield l) #[] #[]] 89) := ⟨_, rfl⟩
  rw [← hW1] at hw2 bY hs1 ⊢
  have l1 : Below W.heap.size W W1 := by rw [hW1]; exact below_alloc W _
  have l2 : Below W1.heap.size W1 w2 := by rw [hw2]; exact below_spanVS W1 _ _ _
  have hz1 : W1.heap.size = W.heap.size + 1 := by rw [hW1]; simp
  have hz2 : w2.heap.size = W.heap.size + 4 := by rw [hw2]; simp [spanWVS, hz1]
  obtain ⟨c4, c5, c6⟩ := spanVS_cells W1 mb lo (hic :: his) w2 hw2
  have hs2 := hs1.below l2
  have lw2 : Below w.heap.size w w2 := (hW.trans (l1.mono hW.size)).trans (l2.mono (by have := hW.size; omega))
  obtain ⟨xs, hxs⟩ : ∃ xs, xs = btwVS (str lo) (str (hic :: his)) t := ⟨_, rfl⟩
  have hxp : xs = S2.map (pairB Prod.fst) := by rw [hxs, hS2]; exact btw_cut h lo (hic :: his)
  have hmf : ∀ x ∈ S2, x ∈ S := fun x hx => by rw [hS2] at hx; exact (List.mem_filter.1 hx).1
  have hseq : ∀ W', Below w2.heap.size w2 W' → Seqs Try.prog 80 #[.pointer (some ⟨W1.heap.size, 0, none⟩), .pointer (some ⟨W1.heap.size + 1, 0, none⟩), .pointer (some ⟨W1.heap.size + 2, 0, none⟩)] (fun p : Value × Value => #[p.1, p.2]) (NK w) Wr xs W' := fun W' hW' => by
    rw [hxs]
    exact spans2_any h.mp h.ws ⟨lo, rfl⟩ ⟨hic :: his, rfl⟩ ((hW'.cell (p := ⟨W1.heap.size, 0, none⟩) (World.block_lt_of_cell? w2 _ c4)).trans c4) ((hW'.cell (p := ⟨W1.heap.size + 1, 0, none⟩) (World.block_lt_of_cell? w2 _ c5)).trans c5) ((hW'.cell (p := ⟨W1.heap.size + 2, 0, none⟩) (World.block_lt_of_cell? w2 _ c6)).trans c6) (lw2.trans (hW'.mono lw2.size))
  have hj0 : J (scanL lo at1 []) w2 := own_below hJ (own_below hJ h0 l1) l2
  have hy0 : Boxed w2 W.heap.size 89 (.func (.yield l) #[] #[]) := (l2.block _ (by omega)).trans bY
  have HPR := Lib.hid hxp
  have HRW : Hid (∀ W2, Below w.heap.size w W2 → ∀ x ∈ S2, RdVS W2 x.2.1 x.2.2 ∧ RisT (timesVS x.2.2) ∧ x.2.2.length ≤ 1000000) := Lib.hid (fun W2 hb2 x hx => ⟨(rd_rowVS (h.ch x (hmf x hx))).up hb2, h.tr x (hmf x hx), by have := h.hk.2.2 x (hmf x hx); omega⟩)
  have HSB := Lib.hid hb
  have HZ2 := Lib.hid hz2
  clear hxs hxp hmf c5 c6 hS2
  clear l1 l2 hz1 c4 hs2 hs1 hW1 hw2 d0 d1 d2 bY h0 CF h hb
  gi_wp2_with fail
  refine range_law (gf := 80) (lb := #[.pointer (some ⟨W1.heap.size, 0, none⟩), .pointer (some ⟨W1.heap.size + 1, 0, none⟩), .pointer (some ⟨W1.heap.size + 2, 0, none⟩)]) rfl (enters_of Try.func80 (by kernel_rfl) rfl) (Ok := NK w) (Wr := Wr) (xs := xs) hseq (by intro x; rfl)
    (fun pre W2 => (∃ A Q, S2 = A ++ Q ∧ pre = A.map (pairB Prod.fst) ∧ J (scanL lo at1 A) W2) ∧ Boxed W2 W.heap.size 89 (.func (.yield l) #[] #[]))
    (fun c _ W2 => c = .ret ∧ ∃ out, (∃ t, scanL lo at1 S2 = out ++ t) ∧ Jx out W2)
    (OwnFrom.and ?ownj (boxed_ownT (Tw := fun _ => False) _ _ (fun _ : List (Value × Value) => .func (.yield l) #[] #[]) (by simp) |>.from _ |>.plain)) (fun c => ?ownx) ⟨⟨[], S2, rfl, rfl, hj0⟩, hy0⟩ ?okk ?a1 ?assign ?body ?done ?stop
  case ownj =>
    rintro s' X Y row ⟨A, Q, e1, e2, hj⟩ hg hr
    exact ⟨A, Q, e1, e2, hJ _ _ _ _ hj hg (fun r e => ⟨by have := (hr r e).1; have := HZ2.out; omega, (hr r e).2⟩)⟩
  case ownx =>
    rintro s' X Y row ⟨hc, out, ht, hj⟩ hg hr
    exact ⟨hc, out, ht, hJx _ _ _ _ hj hg (fun r e => ⟨by have := (hr r e).1; have := HZ2.out; omega, (hr r e).2⟩)⟩
  case okk =>
    rintro pre W2 ⟨⟨A, Q, _, _, hj⟩, _⟩
    exact NK.of_below (hOk _ _ hj)
  case assign =>
    intro l x W' K hK
    gi_wp2
    exact hK
  case body =>
    rintro l2 pre x W2 hl2 ⟨⟨A, Q, e1, e2, hj⟩, hbx⟩ ⟨tl, ht⟩
    obtain ⟨key, v, L, Q', rfl, rfl⟩ : ∃ key v L Q', Q = (key, (v, L)) :: Q' ∧ x = pairB Prod.fst ((key, (v, L)) : List UInt8 × ChVS) := by
      have h6 := HPR.out.symm.trans ht
      rw [e1, List.map_append, e2] at h6
      have h7 := List.append_cancel_left h6
      cases Q with
      | nil => cases h7
      | cons q Q' =>
        obtain ⟨key, v, L⟩ := q
        simp only [List.map_cons, List.cons.injEq] at h7
        exact ⟨key, v, L, Q', rfl, h7.1.symm⟩
    have hmem : (key, (v, L)) ∈ S2 := by rw [e1]; simp
    have hB2 := hOk _ _ hj
    obtain ⟨hrd, htr, hll⟩ := HRW.out W2 hB2 _ hmem
    dsimp only at hrd htr hll
    obtain ⟨_, c1, _, c3⟩ := HSB.out.up hB2
    have cY : W2.cell? ⟨W.heap.size, 0, none⟩ = some (.func (.yield l) #[] #[]) := hbx.cell
    have hC := seenVS_any v L at1 W2 hrd htr hll
    have hsn := scanL_snoc lo at1 A (key, (v, L))
    have hst : scanL lo at1 S2 = scanL lo at1 A ++ ((scan1 lo at1 (key, (v, L))).toList ++ scanL lo at1 Q') := by
      rw [e1, scanL_app, show (key, (v, L)) :: Q' = [(key, (v, L))] ++ Q' from rfl, scanL_app]
      congr 2
    have HA : Hid (S2 = A ++ [(key, (v, L))] ++ Q' ∧ pre ++ [pairB Prod.fst ((key, (v, L)) : List UInt8 × ChVS)] = (A ++ [(key, (v, L))]).map (pairB Prod.fst)) := Lib.hid ⟨by rw [e1]; simp, by rw [e2]; simp⟩
    unfold scan1 at hsn hst
    dsimp only at hsn hst
    obtain ⟨rs, hrs⟩ : ∃ rs, rs = seenVS L at1 := ⟨_, rfl⟩
    rw [← hrs] at hC hsn hst
    have HSN := Lib.hid hsn
    have HST := Lib.hid hst
    have HJ := Lib.hid hj
    have HBX := Lib.hid hbx
    have HLE : Hid (W.heap.size ≤ w2.heap.size) := Lib.hid (by have := HZ2.out; omega)
    clear hmem hrd htr hll hsn hst e1 e2 ht hseq hj0 hy0 hj hbx hrs
    dsimp only [pairB]
    by_cases hlo : Op.bytesLess key lo = true
    · gi_wp2
      refine ⟨KT.refl _ _ _, ⟨A ++ [(key, (v, L))], Q', HA.out.1, HA.out.2, ?_⟩, HBX.out⟩
      have := HSN.out
      rw [if_pos hlo] at this
      rw [this]
      simpa using HJ.out
    · have hlo' : Op.bytesLess key lo = false := by simpa using hlo
      have HC1 : Hid (∀ m, CallsIn (Fence.wide.inRound l2) m Try.prog 50 #[v, .int .i64 at1] W2 fun e w' => e = seenEVS rs ∧ Below W2.heap.size W2 w') := Lib.hid (fun m => (callsIn_wide.2 hC).inRound l2)
      have HSN2 := Lib.hid (by have := HSN.out; rw [if_neg hlo] at this; exact this)
      have HST2 := Lib.hid (by have := HST.out; rw [if_neg hlo] at this; exact this)
      clear hC HSN HST hlo
      cases rs with
      | none =>
        unfold seenEVS at HC1
        gi_wp2_with fail
        refine (HC1.out _).mono ?_
        rintro e w3 ⟨rfl, hb3⟩
        have H3 := Lib.hid hb3
        clear hb3
        gi_wp2
        refine ⟨KT.of_below H3.out, ⟨A ++ [(key, (v, L))], Q', HA.out.1, HA.out.2, ?_⟩, (H3.out.block _ (Array.getElem?_eq_some_iff.1 (show W2.heap[W.heap.size]? = _ from HBX.out)).1).trans HBX.out⟩
        rw [HSN2.out]
        simpa using own_below hJ HJ.out H3.out
      | some r =>
        unfold seenEVS at HC1
        gi_wp2_with fail
        refine (HC1.out _).mono ?_
        rintro e w3 ⟨rfl, hb3⟩
        have H3 := Lib.hid hb3
        have cY3 : w3.cell? ⟨W.heap.size, 0, none⟩ = some (.func (.yield l) #[] #[]) := (hb3.cell (p := ⟨W.heap.size, 0, none⟩) (World.block_lt_of_cell? W2 _ cY)).trans cY
        have hj3 := own_below hJ HJ.out hb3
        have hbx3 : Boxed w3 W.heap.size 89 (.func (.yield l) #[] #[]) := (hb3.block _ (Array.getElem?_eq_some_iff.1 (show W2.heap[W.heap.size]? = _ from HBX.out)).1).trans HBX.out
        obtain ⟨fn, tmps, assign, body, hy, hR⟩ := hY (scanL lo at1 A) (key, r) w3 hj3 ⟨scanL lo at1 Q', by rw [HST2.out]; rfl⟩ 6
        have HB3 := Lib.hid hbx3
        clear hb3 hj3 hbx3 HC1
        gi_wp2_with (refine hR.mono ?_; clear hR; rintro e W4 ⟨hk, ⟨rfl, hj4⟩ | ⟨rfl, hx4⟩⟩)
        · exact ⟨(KT.of_below H3.out).trans (hk.more HLE.out), ⟨A ++ [(key, (v, L))], Q', HA.out.1, HA.out.2, by rw [HSN2.out]; exact hj4⟩, hk.box HB3.out (Nat.le_refl _) hw⟩
        · exact ⟨(KT.of_below H3.out).trans (hk.more HLE.out), rfl, _, ⟨scanL lo at1 Q', by rw [HST2.out, ← List.append_assoc]; rfl⟩, hx4⟩
  case done =>
    rintro D W2 hD ⟨⟨A, Q, e1, e2, hj⟩, _⟩ hK
    have hA : A = S2 := by
      have h6 := HPR.out.symm.trans e2
      rw [e1, List.map_append] at h6
      have h7 := congrArg List.length h6
      simp at h7
      rw [e1, h7, List.append_nil]
    subst hA
    gi_wp2
    refine ⟨by simp, .inl ⟨_, _, rfl, run_takeDeferred hK, ?_⟩⟩
    exact ⟨_, results_none rfl _ _ _, ⟨_, rfl⟩, .inl (hJ.putObj _ hj (by have := HZ2.out; omega) hK rfl)⟩
  case stop =>
    rintro D c pre W2 hD hx ⟨rfl, out, ht, hj⟩ hK
    gi_wp2
    refine ⟨by simp, .inl ⟨_, _, rfl, run_takeDeferred hK, ?_⟩⟩
    exact ⟨_, results_none rfl _ _ _, ⟨_, rfl⟩, .inr ⟨out, ht, hJx.putObj _ hj (by have := HZ2.out; omega) hK rfl⟩⟩
end Go.Proofs.Ytdlacjdddjebgaa
namespace Go.Proofs.Ytdlacjdddjebgaa
open Go.RowKit
variable {W : World} {B b : Nat} {vo : Value} {R : List RRow} {low : Int}
theorem radd_any (h : RS W B b vo R low) (hn : R.length ≤ 100000) (hc : ∀ r ∈ R, r.2.2.length ≤ 100000) (key : List UInt8) (va : Int) (vx : List UInt8) (vz : Bool) :
    Calls Try.prog 42 #[.pointer (some ⟨b, 0, none⟩), str key, .agg #[.int .i64 va, str vx, .bool vz]] W (RAddP W B b vo R low key (va, vx, vz)) := by
  by_cases h1 : va < 1
  · exact radd_low h key va vx vz h1
  by_cases h2 : 1099511627776 < va
  · exact radd_high h key va vx vz h2
  by_cases h3 : va ≤ lastTVS (verC key (chR R))
  · exact radd_old h hn hc key va vx vz h1 h2 h3
  by_cases h4 : va < low
  · exact radd_under h hn hc key va vx vz h1 h2 h3 h4
  exact radd_yes h hn hc key va vx vz h1 h2 h3 h4
theorem RAddP.on {W W1 W' : World} {key : List UInt8} {v : VerVS} {e : Ending} (hb : Below W.heap.size W W1) (h : RAddP W1 B b vo R low key v e W') : RAddP W B b vo R low key v e W' := by
  obtain ⟨he, vo', R', h1, h2, h3, h4, h5⟩ := h
  exact ⟨he, vo', R', h1, h2, (Frm.of_below (F := BlkR b vo) hb).trans h3 (fun _ _ e => e), fun k hk => (h4 k hk).imp id (fun h => Nat.le_trans hb.size h), fun r hr j hj => (h5 r hr j hj).imp id (fun h => Nat.le_trans hb.size h)⟩
theorem rput_any (h : RS W B b vo R low) (hn : R.length ≤ 100000) (hc : ∀ r ∈ R, r.2.2.length ≤ 100000) (key : List UInt8) (va : Int) (vx : List UInt8) :
    Calls Try.prog 12 #[.pointer (some ⟨b, 0, none⟩), .int .i64 va, str key, str vx] W (RAddP W B b vo R low key (va, vx, false)) := by
  have C := Lib.hid (radd_any h hn hc key va vx false)
  clear h hn hc
  go_enter Try.func12, Try.ntmps12
  go_wp2_with fail
  refine C.out.mono ?_
  rintro e w5 ⟨rfl, h1⟩
  have HX := Lib.hid h1
  clear h1 C
  go_wp2_with fail
  go_ret
  exact ⟨rfl, HX.out⟩
theorem rkill_any (h : RS W B b vo R low) (hn : R.length ≤ 100000) (hc : ∀ r ∈ R, r.2.2.length ≤ 100000) (key : List UInt8) (va : Int) :
    Calls Try.prog 14 #[.pointer (some ⟨b, 0, none⟩), .int .i64 va, str key] W (RAddP W B b vo R low key (va, [], true)) := by
  have C := Lib.hid (radd_any h hn hc key va [] true)
  clear h hn hc
  go_enter Try.func14, Try.ntmps14
  go_wp2_with fail
  refine C.out.mono ?_
  rintro e w5 ⟨rfl, h1⟩
  have HX := Lib.hid h1
  clear h1 C
  go_wp2_with fail
  go_ret
  exact ⟨rfl, HX.out⟩
end Go.Proofs.Ytdlacjdddjebgaa
namespace Go.Proofs.Ytdlacjdddjebgaa
open Go.RowKit
section
variable {W : World} {B b : Nat} {vo : Value} {R : List RRow} {low : Int}
theorem tot_takeR (R : List RRow) (i : Nat) (h : i < R.length) : totC (chR (R.take (i + 1))) = totC (chR (R.take i)) + R[i].2.2.length := by
  rw [List.take_add_one, List.getElem?_eq_getElem h]
  simp only [totC, chR, List.map_append, List.sum_append, Option.toList, List.map_cons, List.map_nil, List.sum_cons, List.sum_nil, Nat.add_zero]
theorem tot_leR (R : List RRow) (i : Nat) : totC (chR (R.take i)) ≤ totC (chR R) := by
  have : totC (chR R) = totC (chR (R.take i)) + totC (chR (R.drop i)) := by
    conv => lhs; rw [← List.take_append_drop i R]
    simp only [totC, chR, List.map_append, List.sum_append]
  omega
set_option maxRecDepth 100000 in
set_option maxHeartbeats 4000000 in
theorem rcount_any (h : RS W B b vo R low) (hn : R.length ≤ 1000000) (ht : totC (chR R) ≤ 1000000000) :
    Calls Try.prog 21 #[.pointer (some ⟨b, 0, none⟩)] W fun e w' => e = .returned (.int .i64 (totC (chR R) : Int)) ∧ w' = W := by
  obtain ⟨s0, _, _, _⟩ := h.cells
  obtain ⟨a, cap, rfl⟩ := h.form
  have HS := Lib.hid h
  have HT := Lib.hid ht
  clear h ht
  go_enter Try.func21, Try.ntmps21
  go_wp2_with fail
  go_loopw [3, 4] (fun vn vi wr => ∃ i n : Nat, i ≤ R.length ∧ vi = .int .i64 (i : Int) ∧ vn = .int .i64 (n : Int) ∧ Hid (n = totC (chR (R.take i))) ∧ wr = W) (fun _ vi _ => R.length - (intOf vi).toNat)
  case atStart => exact ⟨0, 0, Nat.zero_le _, by go_num, by go_num, Lib.hid (by simp [totC, chR]), rfl⟩
  case round =>
    obtain ⟨i, n, hi, rfl, rfl, HI, rfl⟩ := hrel
    by_cases hlt : i < R.length
    · have g1 : (i : Int) < (R.length : Int) := by omega
      have g3 : (0 : Int) ≤ (i : Int) := by omega
      obtain ⟨g, cap', ha, _, c1⟩ := HS.out.get hlt
      simp only [Value.slice.injEq, true_and] at ha
      obtain ⟨rfl, rfl⟩ := ha
      obtain ⟨hv1, _, _⟩ := HS.out.ch R[i] (List.getElem_mem hlt)
      obtain ⟨av, cv, hv, _⟩ := hv1.form
      rw [hv] at c1
      obtain ⟨k, hk⟩ : ∃ k, k = R[i].2.2.length := ⟨_, rfl⟩
      rw [← hk] at c1
      have HN : Hid (n + k = totC (chR (R.take (i + 1)))) := Lib.hid (by rw [tot_takeR R i hlt, HI.out, hk])
      have hb : n + k ≤ 1000000000 := by have := HN.out; have := tot_leR R (i + 1); have := HT.out; omega
      have w1 : IntKind.i64.wrap ((n : Int) + (k : Int)) = (n : Int) + (k : Int) := IntWalk.i64_in _ ⟨by omega, by omega⟩
      have w2 : IntKind.i64.wrap ((i : Int) + 1) = (i : Int) + 1 := IntWalk.i64_in _ ⟨by omega, by omega⟩
      clear hv1 hv hk HS HT hb HI
      go_wp2_with fail
      go_roundw
      case rel => exact ⟨i + 1, n + k, by omega, by go_num, by go_num, HN, by first | rfl | trivial⟩
      case measure => simp [intOf]; omega
    · obtain rfl : i = R.length := by omega
      have g1 : ¬ (R.length : Int) < (R.length : Int) := by omega
      have HN : Hid (n = totC (chR R)) := Lib.hid (by rw [HI.out, List.take_length])
      clear HS HT HI
      go_wp2_with fail
      go_ret
      exact ⟨by rw [HN.out]; rfl, rfl⟩
theorem filter_mid {Y : Type} (f : Y → Bool) (C : List Y) (p i : Nat) (hpi : p ≤ i) (h1 : ∀ j (h : j < C.length), j < p → f C[j] = false) (h2 : ∀ j (h : j < C.length), p ≤ j → j < i → f C[j] = true) (h3 : ∀ j (h : j < C.length), i ≤ j → f C[j] = false) : C.filter f = (C.take i).drop p := by
  have e : C = C.take p ++ ((C.take i).drop p ++ C.drop i) := by
    have e1 : (C.take i).take p = C.take p := by rw [List.take_take]; congr 1; omega
    rw [← List.append_assoc, ← e1, List.take_append_drop, List.take_append_drop]
  have f1 : (C.take p).filter f = [] := by
    rw [List.filter_eq_nil_iff]
    intro x hx
    obtain ⟨j, hj, rfl⟩ := List.mem_iff_getElem.1 hx
    have hj2 := hj
    rw [List.length_take] at hj2
    rw [List.getElem_take, h1 j (by omega) (by omega)]; simp
  have f2 : ((C.take i).drop p).filter f = (C.take i).drop p := by
    rw [List.filter_eq_self]
    intro x hx
    obtain ⟨j, hj, rfl⟩ := List.mem_iff_getElem.1 hx
    have hj2 := hj
    rw [List.length_drop, List.length_take] at hj2
    rw [List.getElem_drop, List.getElem_take]
    exact h2 (p + j) (by omega) (by omega) (by omega)
  have f3 : (C.drop i).filter f = [] := by
    rw [List.filter_eq_nil_iff]
    intro x hx
    obtain ⟨j, hj, rfl⟩ := List.mem_iff_getElem.1 hx
    have hj2 := hj
    rw [List.length_drop] at hj2
    rw [List.getElem_drop, h3 (i + j) (by omega) (by omega)]; simp
  conv => lhs; rw [e]
  rw [List.filter_append, List.filter_append, f1, f2, f3]
  simp
def hiB (hi k : List UInt8) : Bool := hi == [] || Op.bytesLess k hi
/-- What is scanned from lo on and below hi. -/
def scanH (lo hi : List UInt8) (at1 : Int) (C : ChC) : List PairT := scanC at1 (C.filter (fun p => !Op.bytesLess p.1 lo && hiB hi p.1))
theorem scan_cut {R : List RRow} {lo hi : List UInt8} {at1 : Int} {p i : Nat} (hr : RisB (chR R)) (hp : PlaceB lo (chR R) p) (hpi : p ≤ i) (hi1 : i ≤ R.length) (h2 : ∀ j (h : j < R.length), p ≤ j → j < i → hiB hi R[j].1 = true) (h3 : ∀ h : i < R.length, hiB hi R[i].1 = false) : scanH lo hi at1 (chR R) = scanC at1 ((chR R).take i |>.drop p) := by
  unfold scanH
  rw [filter_mid _ _ p i hpi]
  · intro j h hj
    rw [hp.lo j h hj]; rfl
  · intro j h hj hj2
    have h' : j < R.length := by rwa [chR_len] at h
    rw [hp.hi j h hj, chR_key h h', h2 j h' hj hj2]; rfl
  · intro j h hj
    have h' : j < R.length := by rwa [chR_len] at h
    have hi' : i < R.length := by omega
    have e := h3 hi'
    rw [chR_key h h']
    have : hiB hi R[j].1 = false := by
      unfold hiB at e ⊢
      rw [Bool.or_eq_false_iff] at e ⊢
      refine ⟨e.1, ?_⟩
      by_cases q : i = j
      · subst q; exact e.2
      · cases h4 : Op.bytesLess R[j].1 hi with
        | false => rfl
        | true =>
          have := bl_tr _ _ _ (rs_lt hr (show i < j by omega) h') h4
          rw [e.2] at this; cases this
    rw [this, Bool.and_false]
theorem scan_snoc {R : List RRow} {at1 : Int} {p i : Nat} (hpi : p ≤ i) (hi : i < R.length) : scanC at1 (((chR R).take (i + 1)).drop p) = scanC at1 (((chR R).take i).drop p) ++ ((seenVS R[i].2.2 at1).map (fun r => (R[i].1, r))).toList := by
  have h' : i < (chR R).length := by rw [chR_len]; exact hi
  have e : ((chR R).take (i + 1)).drop p = ((chR R).take i).drop p ++ [(chR R)[i]] := by
    rw [List.take_add_one, List.getElem?_eq_getElem h', List.drop_append_of_le_length (by rw [List.length_take]; omega)]
    rfl
  rw [e]
  unfold scanC
  rw [List.filterMap_append]
  congr 1
  have e2 : (chR R)[i] = (R[i].1, R[i].2.2) := by simp [chR]
  rw [e2]
  cases h : seenVS R[i].2.2 at1 <;> simp [h]
theorem scanC_len (at1 : Int) (C : ChC) : (scanC at1 C).length ≤ C.length := List.length_filterMap_le _ _
set_option maxRecDepth 100000 in
set_option maxHeartbeats 8000000 in
theorem rscan_any {W : World} {B b : Nat} {vo : Value} {R : List RRow} {low : Int} (h : RS W B b vo R low) (hn : R.length ≤ 1000000) (hc : ∀ r ∈ R, RisT (timesVS r.2.2) ∧ r.2.2.length ≤ 1000000 ∧ ∀ x ∈ r.2.2, x.2.2 = true → x.2.1 = []) (lo hi : List UInt8) (t : Int) :
    Calls Try.prog 32 #[.pointer (some ⟨b, 0, none⟩), str lo, str hi, .int .i64 t] W (PrsP W (scanH lo hi t (chR R))) := by
  have CF := Lib.hid (rfind_any h hn lo)
  obtain ⟨a, cap, rfl⟩ := h.form
  have HS := Lib.hid h
  have HC := Lib.hid hc
  obtain ⟨i0, hinf, hz0, hz1, hz2⟩ := info_parts infoPair
  have HQ : Hid (hi = [] ∨ ∃ c s, hi = c :: s) := Lib.hid (by cases hi with | nil => exact .inl rfl | cons c s => exact .inr ⟨c, s, rfl⟩)
  clear h hc
  go_enter Try.func32, Try.ntmps32
  go_wp2_with fail
  refine CF.out.mono ?_
  rintro e w1 ⟨p, zb, rfl, hp, hz, hb⟩
  have HP := Lib.hid hp
  have hpl : p ≤ R.length := by have := hp.le; rwa [chR_len] at this
  have HB1 := Lib.hid hb
  clear hp hz hb CF
  go_wp2_with fail
  go_loopw [9, 10] (fun vo vi wr => ∃ i : Nat, p ≤ i ∧ i ≤ R.length ∧ vi = .int .i64 (i : Int) ∧ Hid (∃ L, L = scanC t (((chR R).take i).drop p) ∧ wr.ownsRow W.heap.size 55 2 vo L.length (L.map cellsP).flatten ∧ L.length ≤ R.length ∧ Below W.heap.size W wr) ∧ Hid (∀ j (h : j < R.length), p ≤ j → j < i → hiB hi R[j].1 = true)) (fun _ vi _ => R.length - (intOf vi).toNat)
  case atStart => exact ⟨p, Nat.le_refl _, hpl, rfl, Lib.hid ⟨[], by simp [scanC], World.ownsRow_nil _ _ _ _, by simp, HB1.out⟩, Lib.hid (fun j _ h1 h2 => absurd h2 (by omega))⟩
  case round =>
    obtain ⟨i, hpi, hil, rfl, HI, HU⟩ := hrel
    obtain ⟨L, hL, hrow, hLl, hbel⟩ := HI.out
    have HL := Lib.hid hL
    have HH := Lib.hid (And.intro hrow (And.intro hLl hbel))
    have HSr := Lib.hid (HS.out.below hbel)
    obtain ⟨s0, _, _, _⟩ := HSr.out.cells
    clear hL hrow hLl hbel HI
    by_cases hlt : i < R.length
    · have g1 : (i : Int) < (R.length : Int) := by omega
      have g1d : decide ((i : Int) < (R.length : Int)) = true := by simp; omega
      have g3 : (0 : Int) ≤ (i : Int) := by omega
      obtain ⟨g, cap', ha, c0, c1⟩ := HSr.out.get hlt
      simp only [Value.slice.injEq, true_and] at ha
      obtain ⟨rfl, rfl⟩ := ha
      obtain ⟨y, hy⟩ : ∃ y, y = R[i].1 := ⟨_, rfl⟩
      obtain ⟨u, hu⟩ : ∃ u, u = R[i].2.1 := ⟨_, rfl⟩
      obtain ⟨sv, hsv⟩ : ∃ sv, sv = seenVS R[i].2.2 t := ⟨_, rfl⟩
      rw [← hy] at c0
      rw [← hu] at c1
      have CS := Lib.hid (rseen_any R[i].2.1 R[i].2.2 t wr (HSr.out.ch R[i] (List.getElem_mem hlt)).1 (HC.out R[i] (List.getElem_mem hlt)).1 (HC.out R[i] (List.getElem_mem hlt)).2.1 (HC.out R[i] (List.getElem_mem hlt)).2.2)
      rw [← hu, ← hsv] at CS
      have HSN := Lib.hid (scan_snoc (at1 := t) hpi hlt)
      rw [← hsv, ← hy, ← HL.out] at HSN
      have HY := Lib.hid hy
      have w2 : IntKind.i64.wrap ((i : Int) + 1) = (i : Int) + 1 := IntWalk.i64_in _ ⟨by omega, by omega⟩
      clear hy hu hsv
      rcases HQ.out with rfl | ⟨hc, hs, rfl⟩
      · have HKY : Hid (hiB [] y = true) := Lib.hid rfl
        have HU2 : Hid (∀ j (h : j < R.length), p ≤ j → j < i + 1 → hiB [] R[j].1 = true) := Lib.hid (fun j h h1 h2 => by
        by_cases q : j = i
        · subst q; rw [← HY.out]; exact HKY.out
        · exact HU.out j h h1 (by omega))
        go_wp2_with fail
        refine CS.out.mono ?_
        rintro e w5 ⟨he, hb5⟩
        have HSr5 := Lib.hid (HSr.out.below hb5)
        obtain ⟨s5, _, _, _⟩ := HSr5.out.cells
        obtain ⟨g', cap', ha, c5, _⟩ := HSr5.out.get hlt
        simp only [Value.slice.injEq, Option.some.injEq, Addr.mk.injEq, and_true, true_and] at ha
        obtain ⟨rfl, rfl⟩ := ha
        rw [← HY.out] at c5
        have HR5 := Lib.hid (And.intro (owns_below HH.out.1 hb5 (Nat.le_refl _)) (And.intro HH.out.2.1 (HH.out.2.2.trans (hb5.mono HH.out.2.2.size))))
        clear hb5 CS s0 c0 c1 HH HSr HSr5
        cases sv with
        | none =>
          obtain rfl : e = .returned (.tuple #[str [], .bool false]) := he
          go_wp2_with fail
          go_roundw
          case rel => exact ⟨i + 1, by omega, by omega, by go_num, Lib.hid ⟨L, by rw [HSN.out]; simp, HR5.out⟩, HU2⟩
          case measure => simp [intOf]; omega
        | some sx =>
          obtain rfl : e = .returned (.tuple #[str sx, .bool true]) := he
          go_wp2_with (at_builtin; refine hold ?_)
          intro _
          refine wpList_appendF (by rfl) _ _ 47 (by rfl) W.heap.size 55 i0 _ 2 32 Try.underlying47 hinf hz0 hz1 hz2 rfl (by decide) u9 L.length _ (by rfl) (World.ownsRow.alloc HR5.out.1 _) (.slice (some ⟨w5.heap.size, 0, none⟩) 1 1) [cellsP (y, sx)] (by simp [cellsP]) (by simp [cellsP, Value.oneCell']) (by rfl) (RdF.lit [cellsP (y, sx)] (by simp [cellsP]) (heap_alloc_new _ _) rfl (by simp)) (fun c h => by cases h) (by have := HR5.out.2.1; simp [maxLen]; omega) (by have := HR5.out.2.1; simp; omega) (by have := HR5.out.2.2.size; simp; omega) ?_
          intro v7 w7 ho7 hg7
          have HN : Hid (∃ L, L = scanC t (((chR R).take (i + 1)).drop p) ∧ w7.ownsRow W.heap.size 55 2 v7 L.length (L.map cellsP).flatten ∧ L.length ≤ R.length ∧ Below W.heap.size W w7) := Lib.hid ⟨L ++ [(y, sx)], by rw [HSN.out]; simp, by simpa using ho7, by rw [show L ++ [(y, sx)] = scanC t (((chR R).take (i + 1)).drop p) by rw [HSN.out]; simp]; refine Nat.le_trans (scanC_len _ _) ?_; rw [List.length_drop, List.length_take, chR_len]; omega, (HR5.out.2.2.alloc HR5.out.2.2.size _).grown hg7 (by have := HR5.out.2.2.size; simp; omega) (fun j ej => (World.ownsRow.lt HR5.out.1 j ej).1)⟩
          clear ho7 hg7 s5 c5 HR5
          go_wp2_with fail
          go_roundw
          case rel => exact ⟨i + 1, by omega, by omega, by go_num, HN, HU2⟩
          case measure => simp [intOf]; omega
      · cases hl : Op.bytesLess y (hc :: hs) with
        | true =>
          have HKY : Hid (hiB (hc :: hs) y = true) := Lib.hid (by unfold hiB; rw [hl, Bool.or_true])
          have HU2 : Hid (∀ j (h : j < R.length), p ≤ j → j < i + 1 → hiB (hc :: hs) R[j].1 = true) := Lib.hid (fun j h h1 h2 => by
          by_cases q : j = i
          · subst q; rw [← HY.out]; exact HKY.out
          · exact HU.out j h h1 (by omega))
          go_wp2_with fail
          refine CS.out.mono ?_
          rintro e w5 ⟨he, hb5⟩
          have HSr5 := Lib.hid (HSr.out.below hb5)
          obtain ⟨s5, _, _, _⟩ := HSr5.out.cells
          obtain ⟨g', cap', ha, c5, _⟩ := HSr5.out.get hlt
          simp only [Value.slice.injEq, Option.some.injEq, Addr.mk.injEq, and_true, true_and] at ha
          obtain ⟨rfl, rfl⟩ := ha
          rw [← HY.out] at c5
          have HR5 := Lib.hid (And.intro (owns_below HH.out.1 hb5 (Nat.le_refl _)) (And.intro HH.out.2.1 (HH.out.2.2.trans (hb5.mono HH.out.2.2.size))))
          clear hb5 CS s0 c0 c1 HH HSr HSr5
          cases sv with
          | none =>
            obtain rfl : e = .returned (.tuple #[str [], .bool false]) := he
            go_wp2_with fail
            go_roundw
            case rel => exact ⟨i + 1, by omega, by omega, by go_num, Lib.hid ⟨L, by rw [HSN.out]; simp, HR5.out⟩, HU2⟩
            case measure => simp [intOf]; omega
          | some sx =>
            obtain rfl : e = .returned (.tuple #[str sx, .bool true]) := he
            go_wp2_with (at_builtin; refine hold ?_)
            intro _
            refine wpList_appendF (by rfl) _ _ 47 (by rfl) W.heap.size 55 i0 _ 2 32 Try.underlying47 hinf hz0 hz1 hz2 rfl (by decide) u9 L.length _ (by rfl) (World.ownsRow.alloc HR5.out.1 _) (.slice (some ⟨w5.heap.size, 0, none⟩) 1 1) [cellsP (y, sx)] (by simp [cellsP]) (by simp [cellsP, Value.oneCell']) (by rfl) (RdF.lit [cellsP (y, sx)] (by simp [cellsP]) (heap_alloc_new _ _) rfl (by simp)) (fun c h => by cases h) (by have := HR5.out.2.1; simp [maxLen]; omega) (by have := HR5.out.2.1; simp; omega) (by have := HR5.out.2.2.size; simp; omega) ?_
            intro v7 w7 ho7 hg7
            have HN : Hid (∃ L, L = scanC t (((chR R).take (i + 1)).drop p) ∧ w7.ownsRow W.heap.size 55 2 v7 L.length (L.map cellsP).flatten ∧ L.length ≤ R.length ∧ Below W.heap.size W w7) := Lib.hid ⟨L ++ [(y, sx)], by rw [HSN.out]; simp, by simpa using ho7, by rw [show L ++ [(y, sx)] = scanC t (((chR R).take (i + 1)).drop p) by rw [HSN.out]; simp]; refine Nat.le_trans (scanC_len _ _) ?_; rw [List.length_drop, List.length_take, chR_len]; omega, (HR5.out.2.2.alloc HR5.out.2.2.size _).grown hg7 (by have := HR5.out.2.2.size; simp; omega) (fun j ej => (World.ownsRow.lt HR5.out.1 j ej).1)⟩
            clear ho7 hg7 s5 c5 HR5
            go_wp2_with fail
            go_roundw
            case rel => exact ⟨i + 1, by omega, by omega, by go_num, HN, HU2⟩
            case measure => simp [intOf]; omega
        | false =>
          have HKY : Hid (hiB (hc :: hs) y = false) := Lib.hid (by unfold hiB; rw [hl]; rfl)
          have HE := Lib.hid (scan_cut (at1 := t) HS.out.rs HP.out hpi (by omega) HU.out (fun _ => by rw [← HY.out]; exact HKY.out))
          go_wp2_with fail
          go_ret
          exact ⟨u9, by first | rfl | go_num, by rw [HE.out, ← HL.out]; exact HH.out.1, HH.out.2.2⟩
    · obtain rfl : i = R.length := by omega
      have g1 : ¬ (R.length : Int) < (R.length : Int) := by omega
      have g1d : decide ((R.length : Int) < (R.length : Int)) = false := by simp
      have HE := Lib.hid (scan_cut (at1 := t) HS.out.rs HP.out hpi (by omega) HU.out (fun h => absurd h (by omega)))
      go_wp2_with fail
      go_ret
      exact ⟨u9, by first | rfl | go_num, by rw [HE.out, ← HL.out]; exact HH.out.1, HH.out.2.2⟩
end
end Go.Proofs.Ytdlacjdddjebgaa
namespace Go.Proofs.Ytdlacjdddjebgaa
open Go.RowKit
theorem drop_nil (lw : Int) : dropNVS [] lw = 0 := by simp [dropNVS, timesVS, upN]
theorem drop_isR {L : List VerVS} {lw : Int} {d : Nat} (hr : RisT (timesVS L)) (h0 : d = 0 ∨ ∃ h : d < L.length, L[d].1 ≤ lw) (hd : d < L.length) (hn : ∀ h : d + 1 < L.length, lw < L[d + 1].1) :
    (L[d].1 ≤ lw → dropNVS L lw = if L[d].2.2 = true then d + 1 else d) ∧ (¬ L[d].1 ≤ lw → dropNVS L lw = d) := by
  have tl : (timesVS L).length = L.length := by simp [timesVS]
  have tg : ∀ p (h : p < (timesVS L).length) (h' : p < L.length), (timesVS L)[p] = L[p].1 := fun p h h' => by simp [timesVS]
  constructor
  · intro hle
    have e : upN (timesVS L) lw = d + 1 := by
      refine upN_is (by omega) (fun p h hp => ?_) (fun p h hp => ?_)
      · by_cases q : p = d
        · subst q; rw [tg p h (by omega)]; exact hle
        · have := risT_at hr h (show d < (timesVS L).length by omega) (show p < d by omega)
          rw [tg d (by omega) hd] at this
          omega
      · have hp1 : p < L.length := by omega
        have h1 := hn (by omega)
        by_cases q : p = d + 1
        · subst q; rw [tg _ h hp1]; exact h1
        · have := risT_at hr (show d + 1 < (timesVS L).length by omega) h (show d + 1 < p by omega)
          rw [tg (d + 1) (by omega) (by omega)] at this
          omega
    unfold dropNVS
    rw [e]
    simp only [List.getElem?_eq_getElem hd]
  · intro hle
    obtain rfl : d = 0 := by
      rcases h0 with h | ⟨h, h'⟩
      · exact h
      · exact absurd h' hle
    have e : upN (timesVS L) lw = 0 := by
      refine upN_is (by omega) (fun p h hp => absurd hp (by omega)) (fun p h hp => ?_)
      by_cases q : p = 0
      · subst q; rw [tg 0 h hd]; omega
      · have := risT_at hr (show 0 < (timesVS L).length by omega) h (show 0 < p by omega)
        rw [tg 0 (by omega) hd] at this
        omega
    unfold dropNVS
    rw [e]
theorem chR_snoc (R : List RRow) (i : Nat) (h : i < R.length) : chR (R.take (i + 1)) = chR (R.take i) ++ [(R[i].1, R[i].2.2)] := by
  rw [List.take_add_one, List.getElem?_eq_getElem h]
  simp only [chR, List.map_append, Option.toList, List.map_cons, List.map_nil]
theorem pruC_snocR (lw : Int) (R : List RRow) (i : Nat) (h : i < R.length) : pruCVS lw (chR (R.take (i + 1))) = pruCVS lw (chR (R.take i)) ++ if (keptVVS lw R[i].2.2).length = 0 then [] else [(R[i].1, keptVVS lw R[i].2.2)] := by
  rw [chR_snoc R i h]
  unfold pruCVS
  rw [List.filterMap_append]
  congr 1
  by_cases e : (keptVVS lw R[i].2.2).length = 0
  · have e' := List.eq_nil_of_length_eq_zero e
    simp [e']
  · have e' : keptVVS lw R[i].2.2 ≠ [] := fun h => e (by rw [h]; rfl)
    simp [e']
theorem pruD_snocR (lw : Int) (R : List RRow) (i : Nat) (h : i < R.length) : pruDVS lw (chR (R.take (i + 1))) = pruDVS lw (chR (R.take i)) + dropNVS R[i].2.2 lw := by
  rw [chR_snoc R i h]
  simp [pruDVS]
section
variable {W : World} {B b : Nat} {vo : Value} {R : List RRow} {low : Int}
theorem pruD_leR (lw : Int) (i : Nat) (d : Nat) (h : i < R.length) (hd : d ≤ R[i].2.2.length) : pruDVS lw (chR (R.take i)) + d ≤ totC (chR R) := by
  have h1 := tot_pru lw (chR (R.take i))
  have h2 := tot_takeR R i h
  have h3 := tot_leR R (i + 1)
  omega
theorem RS.low' (h : RS W B b vo R low) (lw : Int) : RS (W.setCell ⟨b, 1, none⟩ (.int .i64 lw)) B b vo R lw ∧ Frm (fun i => i = b) W (W.setCell ⟨b, 1, none⟩ (.int .i64 lw)) := by
  have f2 : Frm (fun i => i = b) W (W.setCell ⟨b, 1, none⟩ (.int .i64 lw)) := Frm.set _ rfl
  refine ⟨⟨?_, ?_, fun r hr => ?_, h.rs, h.lt⟩, f2⟩
  · rw [heap_setCell_same W b 1 _ _ _ h.box]; rfl
  · exact owns_frm h.row f2 (fun k hk e => h.ne (by rw [hk, e]))
  · obtain ⟨h1, h2, h3⟩ := h.ch r hr
    have ha : ∀ j, sBlk r.2.1 = some j → j ≠ b := fun j hj e => h.apart hr hj (.inl e)
    refine ⟨RdF.frm h1 f2 (fun j hj e => ha j hj e), h2, fun j hj => ?_⟩
    obtain ⟨h4, cs, z, h5⟩ := h3 j hj
    exact ⟨h4, cs, z, by rw [f2.block j (Array.getElem?_eq_some_iff.1 h5).1 (ha j hj)]; exact h5⟩
def RPruP (W : World) (B b : Nat) (vo : Value) (R : List RRow) (low lw : Int) (e : Ending) (W' : World) : Prop :=
  e = .returned (.int .i64 ((pruN lw low (chR R) : Nat) : Int)) ∧ ∃ vo' R', RS W' B b vo' R' (pruLow lw low) ∧ chR R' = pruG lw low (chR R) ∧ Frm (BlkR b vo) W W' ∧ (∀ k, BlkR b vo' k → BlkR b vo k ∨ W.heap.size ≤ k) ∧ ∀ r ∈ R', ∀ j, sBlk r.2.1 = some j → (∃ x ∈ R, sBlk x.2.1 = some j) ∨ W.heap.size ≤ j
/-- A row that is kept. -/
def KeptR (W : World) (R : List RRow) (r : RRow) : Prop := r.2.2 ≠ [] ∧ RdVS W r.2.1 r.2.2 ∧ ∃ x ∈ R, ∀ j, sBlk r.2.1 = some j → sBlk x.2.1 = some j
def PruI (W3 : World) (R : List RRow) (lw : Int) (i : Nat) (v : Value) (w : World) : Prop :=
  ∃ P : List RRow, chR P = pruCVS lw (chR (R.take i)) ∧ w.ownsRow W3.heap.size 83 2 v P.length (P.map cellsR).flatten ∧ P.length ≤ i ∧ Below W3.heap.size W3 w ∧ ∀ r ∈ P, KeptR W3 R r
theorem PruI.skip {W3 w : World} {lw : Int} {i : Nat} {v : Value} (h : PruI W3 R lw i v w) (hi : i < R.length) (hk : (keptVVS lw R[i].2.2).length = 0) : PruI W3 R lw (i + 1) v w := by
  obtain ⟨P, h1, h2, h3, h4, h5⟩ := h
  exact ⟨P, by rw [pruC_snocR lw R i hi, if_pos hk, List.append_nil, h1], h2, by omega, h4, h5⟩
theorem PruI.form {W3 w : World} {lw : Int} {i : Nat} {v : Value} (h : PruI W3 R lw i v w) : ∃ a n c, v = .slice a n c := by
  obtain ⟨P, _, h2, _⟩ := h
  rcases h2.2 with ⟨e, _⟩ | ⟨g, cap, cur, e, _⟩
  · exact ⟨_, _, _, e⟩
  · exact ⟨_, _, _, e⟩
theorem pruI_end {W3 w : World} {lw : Int} {v : Value} {B b : Nat} {vo : Value} (h : PruI W3 R lw R.length v w) (hs : RS W3 B b vo R lw) :
    ∃ P : List RRow, RS (w.setCell ⟨b, 0, none⟩ v) B b v P lw ∧ chR P = pruCVS lw (chR R) ∧ Frm (BlkR b vo) W3 (w.setCell ⟨b, 0, none⟩ v) ∧ (∀ k, BlkR b v k → BlkR b vo k ∨ W3.heap.size ≤ k) ∧ w.cell? ⟨b, 0, none⟩ = some vo ∧ w.frozen? ⟨b, 0, none⟩ = false ∧ ∀ r ∈ P, ∀ j, sBlk r.2.1 = some j → ∃ x ∈ R, sBlk x.2.1 = some j := by
  obtain ⟨P, h1, h2, h3, h4, h5⟩ := h
  rw [List.take_length] at h1
  have hw := hs.below h4
  have f2 : Frm (fun i => i = b) w (w.setCell ⟨b, 0, none⟩ v) := Frm.set _ rfl
  have hfr : Frm (BlkR b vo) W3 (w.setCell ⟨b, 0, none⟩ v) := (Frm.of_below (F := BlkR b vo) h4).trans f2 (fun i _ e => .inl e)
  have hbl : b < W3.heap.size := hs.blt
  refine ⟨P, ⟨?_, ?_, fun r hr => ?_, ?_, hs.lt⟩, h1, hfr, fun k hk => ?_, hw.cells.1, hw.cells.2.2.1, fun r hr j hj => by obtain ⟨_, _, x, hx, h8⟩ := h5 r hr; exact ⟨x, hx, h8 j hj⟩⟩
  · rw [heap_setCell_same w b 0 _ _ _ hw.box]; rfl
  · refine owns_frm (row_mono (b := W3.heap.size) (b' := B) h2 (by have := hs.lt; omega)) f2 (fun k hk e => ?_)
    have := (World.ownsRow.lt h2 k hk).1
    omega
  · obtain ⟨h6, h7, x, hx, h8⟩ := h5 r hr
    have ha : ∀ j, sBlk r.2.1 = some j → ¬ BlkR b vo j := fun j hj => hs.apart hx (h8 j hj)
    refine ⟨RdF.frm h7 hfr ha, fun c e => ?_, fun j hj => ?_⟩
    · obtain ⟨a', c', he, _, _, _, h9⟩ := h7
      obtain ⟨q, o, hq, _⟩ := h9 (by simpa using h6)
      rw [e] at he
      simp only [Value.slice.injEq] at he
      rw [hq] at he
      cases he.1
    · obtain ⟨_, _, h10⟩ := hs.ch x hx
      obtain ⟨h11, cs, z, h12⟩ := h10 j (h8 j hj)
      exact ⟨h11, cs, z, by rw [hfr.block j (Array.getElem?_eq_some_iff.1 h12).1 (ha j hj)]; exact h12⟩
  · rw [h1]
    have : (pruCVS lw (chR R)).Pairwise (fun a b => Op.bytesLess a.1 b.1 = true) := by
      unfold pruCVS
      rw [List.pairwise_filterMap]
      refine List.Pairwise.imp ?_ (show (chR R).Pairwise (fun a b => Op.bytesLess a.1 b.1 = true) from hs.rs)
      intro a c hac a' ha' c' hc'
      split at ha' <;> simp at ha'
      split at hc' <;> simp at hc'
      rw [← ha', ← hc']; exact hac
    exact this
  · rcases hk with rfl | e
    · exact .inl (.inl rfl)
    · exact .inr (World.ownsRow.lt h2 k e).1
set_option maxRecDepth 100000 in
set_option maxHeartbeats 4000000 in
theorem rprune_low (h : RS W B b vo R low) (lw : Int) (h1 : lw ≤ low ∨ 1099511627776 < lw) :
    Calls Try.prog 16 #[.pointer (some ⟨b, 0, none⟩), .int .i64 lw] W (RPruP W B b vo R low lw) := by
  have hn : ¬ (low < lw ∧ lw ≤ 1099511627776) := by omega
  have HX : Hid (RPruP W B b vo R low lw (.returned (.int .i64 0)) W) := Lib.hid ⟨by unfold pruN; rw [if_neg hn]; rfl, vo, R, by unfold pruLow; rw [if_neg hn]; exact h, by unfold pruG; rw [if_neg hn], Frm.of_below (Below.refl _ _), fun k hk => .inl hk, fun r hr j hj => .inl ⟨r, hr, hj⟩⟩
  obtain ⟨_, s1, _, _⟩ := h.cells
  by_cases h2 : lw ≤ low
  · have z1 : decide (lw ≤ low) = true := decide_eq_true h2
    clear h hn h1 h2
    go_enter Try.func16, Try.ntmps16
    go_wp2_with fail
    go_ret
    exact HX.out
  · have z1 : decide (lw ≤ low) = false := decide_eq_false h2
    have z2 : decide (1099511627776 < lw) = true := decide_eq_true (by omega)
    clear h hn h1 h2
    go_enter Try.func16, Try.ntmps16
    go_wp2_with fail
    go_ret
    exact HX.out
set_option maxRecDepth 100000 in
set_option maxHeartbeats 16000000 in
theorem rprune_yes (h : RS W B b vo R low) (hn : R.length ≤ 100000) (ht : totC (chR R) ≤ 1000000000) (hc : ∀ r ∈ R, RisT (timesVS r.2.2)) (lw : Int) (h1 : low < lw) (h2 : lw ≤ 1099511627776) :
    Calls Try.prog 16 #[.pointer (some ⟨b, 0, none⟩), .int .i64 lw] W (RPruP W B b vo R low lw) := by
  have hyes : low < lw ∧ lw ≤ 1099511627776 := ⟨h1, h2⟩
  obtain ⟨_, s1, _, f1⟩ := h.cells
  obtain ⟨W3, hW3⟩ : ∃ W3, W3 = W.setCell ⟨b, 1, none⟩ (.int .i64 lw) := ⟨_, rfl⟩
  obtain ⟨hS3, hF3⟩ := h.low' lw
  rw [← hW3] at hS3 hF3
  have HFIN : Hid (∀ w' v, PruI W3 R lw R.length v w' → RPruP W B b vo R low lw (.returned (.int .i64 ((pruDVS lw (chR R) : Nat) : Int))) (w'.setCell ⟨b, 0, none⟩ v)) := Lib.hid (fun w' v hv => by
    obtain ⟨P, p1, p2, p3, p4, _, _, p5⟩ := pruI_end hv hS3
    refine ⟨by unfold pruN; rw [if_pos hyes], v, P, by unfold pruLow; rw [if_pos hyes]; exact p1, by unfold pruG; rw [if_pos hyes]; exact p2, (hF3.mono (fun i _ e => .inl e)).trans p3 (fun i _ e => e), fun k hk => (p4 k hk).imp id (fun q => Nat.le_trans hF3.size q), fun r hr j hj => .inl (p5 r hr j hj)⟩)
  have HS := Lib.hid hS3
  have HT := Lib.hid ht
  have HC := Lib.hid hc
  have z1 : decide (lw ≤ low) = false := decide_eq_false (by omega)
  have z2 : decide (1099511627776 < lw) = false := decide_eq_false (by omega)
  obtain ⟨i1, hj, hy0, hy1, hy2⟩ := info_parts infoRr
  obtain ⟨a, cap, rfl⟩ := h.form
  clear h ht hc hyes hS3 hF3 h1 h2
  go_enter Try.func16, Try.ntmps16
  go_wp2_with fail
  rw [← hW3]
  clear s1 f1 hW3 z1 z2
  go_loopw [5, 6, 7] (fun vn vo vi wr => ∃ i n : Nat, i ≤ R.length ∧ vi = .int .i64 (i : Int) ∧ vn = .int .i64 (n : Int) ∧ Hid (n = pruDVS lw (chR (R.take i))) ∧ Hid (PruI W3 R lw i vo wr)) (fun _ _ vi _ => R.length - (intOf vi).toNat)
  case atStart => exact ⟨0, 0, Nat.zero_le _, by go_num, by go_num, Lib.hid (by simp [pruDVS, chR]), Lib.hid ⟨[], by simp [pruCVS, chR], World.ownsRow_nil _ _ _ _, by simp, Below.refl _ _, fun r h => by cases h⟩⟩
  case round =>
    obtain ⟨i, n, hil, rfl, rfl, HI, HP⟩ := hrel
    have HB : Hid (Below W3.heap.size W3 wr) := Lib.hid (by obtain ⟨_, _, _, _, h, _⟩ := HP.out; exact h)
    have HSr := Lib.hid (HS.out.below HB.out)
    obtain ⟨s0, _, _, _⟩ := HSr.out.cells
    by_cases hlt : i < R.length
    · have g1 : (i : Int) < (R.length : Int) := by omega
      have g3 : (0 : Int) ≤ (i : Int) := by omega
      obtain ⟨g, cap', ha, c0, c1⟩ := HSr.out.get hlt
      simp only [Value.slice.injEq, true_and] at ha
      obtain ⟨rfl, rfl⟩ := ha
      have hv3 := (HS.out.ch R[i] (List.getElem_mem hlt)).1
      obtain ⟨au, cu, hv, _⟩ := hv3.form
      obtain ⟨key, hy⟩ : ∃ y, y = R[i].1 := ⟨_, rfl⟩
      obtain ⟨u, hu⟩ : ∃ u, u = R[i].2.1 := ⟨_, rfl⟩
      obtain ⟨L, hL⟩ : ∃ L, L = R[i].2.2 := ⟨_, rfl⟩
      rw [← hu] at c1 hv hv3
      rw [← hL] at hv hv3
      rw [← hy] at c0
      have HRT : Hid (RisT (timesVS L)) := Lib.hid (by rw [hL]; exact HC.out _ (List.getElem_mem hlt))
      have HBK : Hid (∀ j, sBlk u = some j → ∃ x ∈ R, sBlk x.2.1 = some j) := Lib.hid (fun j hj => ⟨R[i], List.getElem_mem hlt, by rw [← hu]; exact hj⟩)
      have HND : Hid (∀ d, d ≤ L.length → n + d ≤ 1000000000) := Lib.hid (fun d hd => by have := pruD_leR (R := R) lw i d hlt (by rw [← hL]; exact hd); have := HI.out; have := HT.out; omega)
      have HNX : Hid (∀ d, dropNVS L lw = d → n + d = pruDVS lw (chR (R.take (i + 1)))) := Lib.hid (fun d hd => by rw [pruD_snocR lw R i hlt, ← hL, hd, HI.out])
      have HSK : Hid (∀ d, dropNVS L lw = d → L.length ≤ d → ∀ v w, PruI W3 R lw i v w → PruI W3 R lw (i + 1) v w) := Lib.hid (fun d hd hl v w hp => hp.skip hlt (by rw [← hL]; unfold keptVVS; rw [hd, List.length_drop]; omega))
      have HAP : Hid (∀ d (P : List RRow) vl v w, dropNVS L lw = d → d < L.length → RdVS W3 vl (L.drop d) → (∀ j, sBlk vl = some j → sBlk u = some j) → chR P = pruCVS lw (chR (R.take i)) → w.ownsRow W3.heap.size 83 2 v (P ++ [(key, vl, L.drop d)]).length ((P ++ [(key, vl, L.drop d)]).map cellsR).flatten → P.length ≤ i → Below W3.heap.size W3 w → (∀ r ∈ P, KeptR W3 R r) → PruI W3 R lw (i + 1) v w) := Lib.hid (fun d P vl v w hd hdl hrd hsb hP hrow hPl hbel hk => by
        refine ⟨P ++ [(key, vl, L.drop d)], ?_, hrow, by simp; omega, hbel, fun r hr => ?_⟩
        · rw [pruC_snocR lw R i hlt, ← hL, ← hy, if_neg (by unfold keptVVS; rw [hd, List.length_drop]; omega), ← hP]
          unfold keptVVS
          rw [hd]
          simp [chR]
        · rcases List.mem_append.1 hr with hr | hr
          · exact hk r hr
          · simp only [List.mem_cons, List.not_mem_nil, or_false] at hr
            subst hr
            refine ⟨by intro e; have := congrArg List.length e; simp at this; omega, hrd, R[i], List.getElem_mem hlt, fun j hj => by rw [← hu]; exact hsb j hj⟩)
      have HV := Lib.hid (show RdVS W3 (.slice au L.length cu) L by rw [← hv]; exact hv3)
      have HVU := Lib.hid hv
      have w2 : IntKind.i64.wrap ((i : Int) + 1) = (i : Int) + 1 := IntWalk.i64_in _ ⟨by omega, by omega⟩
      rw [hv] at c1
      clear hv hv3 hu hL hy HI HSr HS HT HC HFIN
      go_wp2_with fail
      go_loopw [5, 8] (fun vn vl wq => ∃ (d m c N : Nat) (A : Option Addr), d + m = L.length ∧ m ≤ c ∧ vn = .int .i64 (N : Int) ∧ vl = .slice A m c ∧ Hid (N = n + d) ∧ N ≤ 1000000000 ∧ Hid (RdVS W3 (.slice A m c) (L.drop d) ∧ (∀ j, sBlk (.slice A m c) = some j → sBlk u = some j) ∧ (d = 0 ∨ ∃ h : d < L.length, L[d].1 ≤ lw)) ∧ wq = wr) (fun _ vl _ => match vl with | .slice _ m _ => m | _ => 0)
      case atStart => exact ⟨0, L.length, cu, n, au, by omega, by obtain ⟨_, _, he, _, hc, _⟩ := HV.out; simp only [Value.slice.injEq] at he; rw [List.length_map] at hc; omega, by first | rfl | go_num, rfl, Lib.hid rfl, by have := HND.out 0 (Nat.zero_le _); omega, Lib.hid ⟨HV.out, fun j hj => by rw [HVU.out]; exact hj, .inl rfl⟩, rfl⟩
      case round =>
        obtain ⟨d, m, c, N, A, hdm, hmc, rfl, rfl, HNE, hN, HD, rfl⟩ := hrel
        by_cases hm0 : m = 0
        · subst hm0
          have hdr : Hid (dropNVS L lw = d) := Lib.hid (by
            rcases HD.out.2.2 with h | ⟨h, _⟩
            · subst h
              obtain rfl : L = [] := List.eq_nil_of_length_eq_zero (by omega)
              exact drop_nil lw
            · omega)
          have HN := Lib.hid (HSK.out (d) hdr.out (by omega) _ _ HP.out)
          have HNN : Hid (N = pruDVS lw (chR (R.take (i + 1)))) := Lib.hid (by have := HNX.out (d) hdr.out; have := HNE.out; omega)
          clear HP
          go_wp2_with fail
          all_goals
            go_roundw
            case rel => exact ⟨i + 1, N, by omega, by go_num, by go_num, HNN, HN⟩
            case measure => simp [intOf]; omega
        · obtain ⟨q, off, rfl, k0, _, k2⟩ := (HD.out.1.up HB.out).get (show 0 < (L.drop d).length by rw [List.length_drop]; omega)
          obtain ⟨⟨ca, cs, cg⟩, hc⟩ : ∃ x, x = L[d]'(by omega) := ⟨_, rfl⟩
          rw [List.getElem_drop] at k0 k2
          simp only [Nat.add_zero, Nat.zero_mul] at k0 k2
          rw [← hc] at k0 k2
          dsimp only at k0 k2
          by_cases hm : 1 < m
          · have q1 : (1 : Int) < (m : Int) := by omega
            have q1d : decide ((1 : Int) < (m : Int)) = true := decide_eq_true q1
            obtain ⟨q', off', hA, k1, _, _⟩ := (HD.out.1.up HB.out).get (show 1 < (L.drop d).length by rw [List.length_drop]; omega)
            simp only [Option.some.injEq, Addr.mk.injEq, and_true] at hA
            obtain ⟨rfl, rfl⟩ := hA
            rw [List.getElem_drop] at k1
            simp only [Nat.one_mul] at k1
            obtain ⟨y, hy⟩ : ∃ y, y = (L[d + 1]'(by omega)).1 := ⟨_, rfl⟩
            rw [← hy] at k1
            by_cases hle : y ≤ lw
            · have z1 : decide (y ≤ lw) = true := decide_eq_true hle
              have w1 : IntKind.i64.wrap ((N : Int) + 1) = (N : Int) + 1 := IntWalk.i64_in _ ⟨by omega, by omega⟩
              have hc1 : ¬ c = 1 := by omega
              have q2 : 1 ≤ m := by omega
              have q3 : 1 ≤ c := by omega
              have HD2 : Hid (RdVS W3 (.slice (some ⟨q, off + 3, none⟩) (m - 1) (c - 1)) (L.drop (d + 1)) ∧ (∀ j, sBlk (.slice (some ⟨q, off + 3, none⟩) (m - 1) (c - 1)) = some j → sBlk u = some j) ∧ (d + 1 = 0 ∨ ∃ h : d + 1 < L.length, L[d + 1].1 ≤ lw)) := Lib.hid ⟨by have := RdF.drop HD.out.1 1 (by rw [List.length_map, List.length_drop]; omega); show RdF 3 _ _ _; simpa [← List.map_drop] using this, HD.out.2.1, .inr ⟨by omega, by rw [← hy]; exact hle⟩⟩
              have HNE2 : Hid (N + 1 = n + (d + 1)) := Lib.hid (by rw [HNE.out]; omega)
              have hN2 : N + 1 ≤ 1000000000 := by have := HND.out (d + 1) (by omega); have := HNE.out; omega
              clear hy hc HD HNE
              go_wp2_with fail
              go_roundw
              case rel => exact ⟨d + 1, m - 1, c - 1, N + 1, _, by omega, by omega, by go_num, rfl, HNE2, hN2, HD2, by first | rfl | trivial⟩
              case measure => simp; omega
            · have z1 : decide (y ≤ lw) = false := decide_eq_false hle
              have hnx : ∀ h : d + 1 < L.length, lw < L[d + 1].1 := fun _ => by rw [← hy]; omega
              clear hy hle
              have HDR := Lib.hid (drop_isR HRT.out HD.out.2.2 (by omega) hnx)
              rw [← hc] at HDR
              have hd1 : d < L.length := by omega
              have q0 : (0 : Int) < (m : Int) := by omega
              have w1 : IntKind.i64.wrap ((N : Int) + 1) = (N : Int) + 1 := IntWalk.i64_in _ ⟨by omega, by omega⟩
              clear hnx
              cases cg with
              | false =>
                have hdr : dropNVS L lw = d := by
                  by_cases q : ca ≤ lw
                  · have := HDR.out.1 q; simpa using this
                  · exact HDR.out.2 q
                have hdr := Lib.hid hdr
                clear hc HDR
                obtain ⟨P, p1, p2, p3, p4, p5⟩ := HP.out
                have HPP := Lib.hid (And.intro p1 (And.intro p2 (And.intro p3 p5)))
                clear p1 p2 p3 p4 p5 HP
                go_wp2_with (at_builtin; refine hold ?_)
                intro _
                refine wpList_appendF (by rfl) _ _ 27 (by rfl) W3.heap.size 83 i1 _ 2 40 Try.underlying27 hj hy0 hy1 hy2 rfl (by decide) u6 P.length _ (by rfl) (World.ownsRow.alloc HPP.out.2.1 _) (.slice (some ⟨wr.heap.size, 0, none⟩) 1 1) [cellsR (key, .slice (some ⟨q, off, none⟩) m c, L.drop (d))] (by simp [cellsR]) (by simp [cellsR, Value.oneCell']) (by rfl) (RdF.lit [cellsR (key, .slice (some ⟨q, off, none⟩) m c, L.drop (d))] (by simp [cellsR]) (heap_alloc_new _ _) rfl (by simp)) (fun c h => by cases h) (by have := HPP.out.2.2.1; simp [maxLen]; omega) (by have := HPP.out.2.2.1; simp; omega) (by have := HB.out.size; simp; omega) ?_
                intro v7 w7 ho7 hg7
                have HN := Lib.hid (HAP.out (d) P (.slice (some ⟨q, off, none⟩) m c) v7 w7 hdr.out (hd1) (HD.out.1) (HD.out.2.1) HPP.out.1 (by simpa using ho7) HPP.out.2.2.1 ((HB.out.alloc HB.out.size _).grown hg7 (by have := HB.out.size; simp; omega) (fun j ej => (World.ownsRow.lt HPP.out.2.1 j ej).1)) HPP.out.2.2.2)
                have HNN : Hid (N = pruDVS lw (chR (R.take (i + 1)))) := Lib.hid (by have := HNX.out (d) hdr.out; have := HNE.out; omega)
                clear ho7 hg7 HPP
                go_wp2_with fail
                go_roundw
                case rel => exact ⟨i + 1, N, by omega, by go_num, by go_num, HNN, HN⟩
                case measure => simp [intOf]; omega
              | true =>
                by_cases hq : ca ≤ lw
                · have z0 : decide (ca ≤ lw) = true := decide_eq_true hq
                  have hdr : dropNVS L lw = d + 1 := by have := HDR.out.1 hq; simpa using this
                  have hdr := Lib.hid hdr
                  clear hc hq HDR
                  have q3 : (0 : Int) < (m : Int) - 1 := by omega
                  have q4 : 0 < m - 1 := by omega
                  have q5 : (0 : Int) < ((m - 1 : Nat) : Int) := by omega
                  have hc1 : ¬ c = 1 := by omega
                  obtain ⟨P, p1, p2, p3, p4, p5⟩ := HP.out
                  have HPP := Lib.hid (And.intro p1 (And.intro p2 (And.intro p3 p5)))
                  clear p1 p2 p3 p4 p5 HP
                  go_wp2_with (at_builtin; refine hold ?_)
                  intro _
                  refine wpList_appendF (by rfl) _ _ 27 (by rfl) W3.heap.size 83 i1 _ 2 40 Try.underlying27 hj hy0 hy1 hy2 rfl (by decide) u6 P.length _ (by rfl) (World.ownsRow.alloc HPP.out.2.1 _) (.slice (some ⟨wr.heap.size, 0, none⟩) 1 1) [cellsR (key, .slice (some ⟨q, off + 3, none⟩) (m - 1) (c - 1), L.drop (d + 1))] (by simp [cellsR]) (by simp [cellsR, Value.oneCell']) (by rfl) (RdF.lit [cellsR (key, .slice (some ⟨q, off + 3, none⟩) (m - 1) (c - 1), L.drop (d + 1))] (by simp [cellsR]) (heap_alloc_new _ _) rfl (by simp)) (fun c h => by cases h) (by have := HPP.out.2.2.1; simp [maxLen]; omega) (by have := HPP.out.2.2.1; simp; omega) (by have := HB.out.size; simp; omega) ?_
                  intro v7 w7 ho7 hg7
                  have HN := Lib.hid (HAP.out (d + 1) P (.slice (some ⟨q, off + 3, none⟩) (m - 1) (c - 1)) v7 w7 hdr.out (by omega) (by have := RdF.drop HD.out.1 1 (by rw [List.length_map, List.length_drop]; omega); show RdF 3 _ _ _; simpa [← List.map_drop] using this) (HD.out.2.1) HPP.out.1 (by simpa using ho7) HPP.out.2.2.1 ((HB.out.alloc HB.out.size _).grown hg7 (by have := HB.out.size; simp; omega) (fun j ej => (World.ownsRow.lt HPP.out.2.1 j ej).1)) HPP.out.2.2.2)
                  have HNN : Hid (N + 1 = pruDVS lw (chR (R.take (i + 1)))) := Lib.hid (by have := HNX.out (d + 1) hdr.out; have := HNE.out; omega)
                  clear ho7 hg7 HPP
                  go_wp2_with fail
                  go_roundw
                  case rel => exact ⟨i + 1, N + 1, by omega, by go_num, by go_num, HNN, HN⟩
                  case measure => simp [intOf]; omega
                · have z0 : decide (ca ≤ lw) = false := decide_eq_false hq
                  have hdr := Lib.hid (HDR.out.2 hq)
                  clear hc hq HDR
                  obtain ⟨P, p1, p2, p3, p4, p5⟩ := HP.out
                  have HPP := Lib.hid (And.intro p1 (And.intro p2 (And.intro p3 p5)))
                  clear p1 p2 p3 p4 p5 HP
                  go_wp2_with (at_builtin; refine hold ?_)
                  intro _
                  refine wpList_appendF (by rfl) _ _ 27 (by rfl) W3.heap.size 83 i1 _ 2 40 Try.underlying27 hj hy0 hy1 hy2 rfl (by decide) u6 P.length _ (by rfl) (World.ownsRow.alloc HPP.out.2.1 _) (.slice (some ⟨wr.heap.size, 0, none⟩) 1 1) [cellsR (key, .slice (some ⟨q, off, none⟩) m c, L.drop (d))] (by simp [cellsR]) (by simp [cellsR, Value.oneCell']) (by rfl) (RdF.lit [cellsR (key, .slice (some ⟨q, off, none⟩) m c, L.drop (d))] (by simp [cellsR]) (heap_alloc_new _ _) rfl (by simp)) (fun c h => by cases h) (by have := HPP.out.2.2.1; simp [maxLen]; omega) (by have := HPP.out.2.2.1; simp; omega) (by have := HB.out.size; simp; omega) ?_
                  intro v7 w7 ho7 hg7
                  have HN := Lib.hid (HAP.out (d) P (.slice (some ⟨q, off, none⟩) m c) v7 w7 hdr.out (hd1) (HD.out.1) (HD.out.2.1) HPP.out.1 (by simpa using ho7) HPP.out.2.2.1 ((HB.out.alloc HB.out.size _).grown hg7 (by have := HB.out.size; simp; omega) (fun j ej => (World.ownsRow.lt HPP.out.2.1 j ej).1)) HPP.out.2.2.2)
                  have HNN : Hid (N = pruDVS lw (chR (R.take (i + 1)))) := Lib.hid (by have := HNX.out (d) hdr.out; have := HNE.out; omega)
                  clear ho7 hg7 HPP
                  go_wp2_with fail
                  go_roundw
                  case rel => exact ⟨i + 1, N, by omega, by go_num, by go_num, HNN, HN⟩
                  case measure => simp [intOf]; omega
          · have q1 : ¬ (1 : Int) < (m : Int) := by omega
            have q1d : decide ((1 : Int) < (m : Int)) = false := decide_eq_false q1
            have hnx : ∀ h : d + 1 < L.length, lw < L[d + 1].1 := fun h => absurd h (by omega)
            have HDR := Lib.hid (drop_isR HRT.out HD.out.2.2 (by omega) hnx)
            rw [← hc] at HDR
            have hd1 : d < L.length := by omega
            have q0 : (0 : Int) < (m : Int) := by omega
            have w1 : IntKind.i64.wrap ((N : Int) + 1) = (N : Int) + 1 := IntWalk.i64_in _ ⟨by omega, by omega⟩
            clear hnx
            cases cg with
            | false =>
              have hdr : dropNVS L lw = d := by
                by_cases q : ca ≤ lw
                · have := HDR.out.1 q; simpa using this
                · exact HDR.out.2 q
              have hdr := Lib.hid hdr
              clear hc HDR
              obtain ⟨P, p1, p2, p3, p4, p5⟩ := HP.out
              have HPP := Lib.hid (And.intro p1 (And.intro p2 (And.intro p3 p5)))
              clear p1 p2 p3 p4 p5 HP
              go_wp2_with (at_builtin; refine hold ?_)
              intro _
              refine wpList_appendF (by rfl) _ _ 27 (by rfl) W3.heap.size 83 i1 _ 2 40 Try.underlying27 hj hy0 hy1 hy2 rfl (by decide) u6 P.length _ (by rfl) (World.ownsRow.alloc HPP.out.2.1 _) (.slice (some ⟨wr.heap.size, 0, none⟩) 1 1) [cellsR (key, .slice (some ⟨q, off, none⟩) m c, L.drop (d))] (by simp [cellsR]) (by simp [cellsR, Value.oneCell']) (by rfl) (RdF.lit [cellsR (key, .slice (some ⟨q, off, none⟩) m c, L.drop (d))] (by simp [cellsR]) (heap_alloc_new _ _) rfl (by simp)) (fun c h => by cases h) (by have := HPP.out.2.2.1; simp [maxLen]; omega) (by have := HPP.out.2.2.1; simp; omega) (by have := HB.out.size; simp; omega) ?_
              intro v7 w7 ho7 hg7
              have HN := Lib.hid (HAP.out (d) P (.slice (some ⟨q, off, none⟩) m c) v7 w7 hdr.out (hd1) (HD.out.1) (HD.out.2.1) HPP.out.1 (by simpa using ho7) HPP.out.2.2.1 ((HB.out.alloc HB.out.size _).grown hg7 (by have := HB.out.size; simp; omega) (fun j ej => (World.ownsRow.lt HPP.out.2.1 j ej).1)) HPP.out.2.2.2)
              have HNN : Hid (N = pruDVS lw (chR (R.take (i + 1)))) := Lib.hid (by have := HNX.out (d) hdr.out; have := HNE.out; omega)
              clear ho7 hg7 HPP
              go_wp2_with fail
              go_roundw
              case rel => exact ⟨i + 1, N, by omega, by go_num, by go_num, HNN, HN⟩
              case measure => simp [intOf]; omega
            | true =>
              by_cases hq : ca ≤ lw
              · have z0 : decide (ca ≤ lw) = true := decide_eq_true hq
                have hdr : dropNVS L lw = d + 1 := by have := HDR.out.1 hq; simpa using this
                have hdr := Lib.hid hdr
                clear hc hq HDR
                have q3 : ¬ (0 : Int) < (m : Int) - 1 := by omega
                have q5 : ¬ (0 : Int) < ((m - 1 : Nat) : Int) := by omega
                have HN := Lib.hid (HSK.out (d + 1) hdr.out (by omega) _ _ HP.out)
                have HNN : Hid (N + 1 = pruDVS lw (chR (R.take (i + 1)))) := Lib.hid (by have := HNX.out (d + 1) hdr.out; have := HNE.out; omega)
                clear HP
                go_wp2_with fail
                all_goals
                  go_roundw
                  case rel => exact ⟨i + 1, N + 1, by omega, by go_num, by go_num, HNN, HN⟩
                  case measure => simp [intOf]; omega
              · have z0 : decide (ca ≤ lw) = false := decide_eq_false hq
                have hdr := Lib.hid (HDR.out.2 hq)
                clear hc hq HDR
                obtain ⟨P, p1, p2, p3, p4, p5⟩ := HP.out
                have HPP := Lib.hid (And.intro p1 (And.intro p2 (And.intro p3 p5)))
                clear p1 p2 p3 p4 p5 HP
                go_wp2_with (at_builtin; refine hold ?_)
                intro _
                refine wpList_appendF (by rfl) _ _ 27 (by rfl) W3.heap.size 83 i1 _ 2 40 Try.underlying27 hj hy0 hy1 hy2 rfl (by decide) u6 P.length _ (by rfl) (World.ownsRow.alloc HPP.out.2.1 _) (.slice (some ⟨wr.heap.size, 0, none⟩) 1 1) [cellsR (key, .slice (some ⟨q, off, none⟩) m c, L.drop (d))] (by simp [cellsR]) (by simp [cellsR, Value.oneCell']) (by rfl) (RdF.lit [cellsR (key, .slice (some ⟨q, off, none⟩) m c, L.drop (d))] (by simp [cellsR]) (heap_alloc_new _ _) rfl (by simp)) (fun c h => by cases h) (by have := HPP.out.2.2.1; simp [maxLen]; omega) (by have := HPP.out.2.2.1; simp; omega) (by have := HB.out.size; simp; omega) ?_
                intro v7 w7 ho7 hg7
                have HN := Lib.hid (HAP.out (d) P (.slice (some ⟨q, off, none⟩) m c) v7 w7 hdr.out (hd1) (HD.out.1) (HD.out.2.1) HPP.out.1 (by simpa using ho7) HPP.out.2.2.1 ((HB.out.alloc HB.out.size _).grown hg7 (by have := HB.out.size; simp; omega) (fun j ej => (World.ownsRow.lt HPP.out.2.1 j ej).1)) HPP.out.2.2.2)
                have HNN : Hid (N = pruDVS lw (chR (R.take (i + 1)))) := Lib.hid (by have := HNX.out (d) hdr.out; have := HNE.out; omega)
                clear ho7 hg7 HPP
                go_wp2_with fail
                go_roundw
                case rel => exact ⟨i + 1, N, by omega, by go_num, by go_num, HNN, HN⟩
                case measure => simp [intOf]; omega
    · obtain rfl : i = R.length := by omega
      have g1 : ¬ (R.length : Int) < (R.length : Int) := by omega
      have HN : Hid (n = pruDVS lw (chR R)) := Lib.hid (by rw [HI.out, List.take_length])
      have s0 := HSr.out.cells.1
      have f9 := HSr.out.cells.2.2.1
      have HX := Lib.hid (HFIN.out wr u6 HP.out)
      obtain ⟨aP, nP, cP, rfl⟩ := HP.out.form
      clear HS HT HC HI HFIN HP HSr
      go_wp2_with fail
      go_ret
      rw [← HN.out] at HX
      exact HX.out
theorem rprune_any (h : RS W B b vo R low) (hn : R.length ≤ 100000) (ht : totC (chR R) ≤ 1000000000) (hc : ∀ r ∈ R, RisT (timesVS r.2.2)) (lw : Int) :
    Calls Try.prog 16 #[.pointer (some ⟨b, 0, none⟩), .int .i64 lw] W (RPruP W B b vo R low lw) := by
  by_cases h1 : lw ≤ low ∨ 1099511627776 < lw
  · exact rprune_low h lw h1
  · exact rprune_yes h hn ht hc lw (by omega) (by omega)
end
end Go.Proofs.Ytdlacjdddjebgaa
namespace Go.Proofs.Ytdlacjdddjebgaa
open Go.RowKit
theorem scanL_cut (lo hi : List UInt8) (at1 : Int) (f : List UInt8 → Bool) (S : ChsVS) (hf : ∀ k, hiB hi k = f k) : scanL lo at1 (S.filter (fun x => !Op.bytesLess x.1 lo && f x.1)) = scanH lo hi at1 (chsVS S) := by
  unfold scanL scanH scanC chsVS
  rw [List.filterMap_filter, List.filterMap_filter, List.filterMap_map]
  congr 1
  funext x
  simp only [Function.comp, scan1, hf]
  cases Op.bytesLess x.1 lo <;> cases f x.1 <;> simp
theorem scanL_hi (lo : List UInt8) (c : UInt8) (s : List UInt8) (at1 : Int) (S : ChsVS) : scanL lo at1 (cutS lo (c :: s) S) = scanH lo (c :: s) at1 (chsVS S) := scanL_cut lo (c :: s) at1 (fun k => Op.bytesLess k (c :: s)) S (fun k => by unfold hiB; rfl)
theorem scanL_all (lo : List UInt8) (at1 : Int) (S : ChsVS) : scanL lo at1 S = scanH lo [] at1 (chsVS S) := by
  rw [← scanL_cut lo [] at1 (fun _ => true) S (fun k => rfl)]
  unfold scanL
  rw [List.filterMap_filter]
  congr 1
  funext x
  unfold scan1
  cases Op.bytesLess x.1 lo <;> simp
theorem scanH_len (lo hi : List UInt8) (at1 : Int) (C : ChC) : (scanH lo hi at1 C).length ≤ C.length := Nat.le_trans (scanC_len _ _) (List.length_filter_le _ _)
theorem scannedH {X W : World} {K : Nat → Prop} {s mb : Nat} {C : ChC} {low : Int} {n : Nat} (h : SG X K W s mb C low n) (hn : n ≤ 10000) (lo hi : List UInt8) (at1 m : Int) (hm : 1 ≤ m) :
    Calls Try.prog 30 #[.func (.func 52) #[] #[.pointer (some ⟨W.heap.size, 0, none⟩), .pointer (some ⟨W.heap.size + 1, 0, none⟩), .pointer (some ⟨W.heap.size + 2, 0, none⟩), .pointer (some ⟨W.heap.size + 3, 0, none⟩)], .int .i64 m] (scanW W s lo hi at1) (PrsP (scanW W s lo hi at1) ((scanH lo hi at1 C).take m.toNat)) := by
  obtain ⟨t, S, h1, h2, h3, h4, h5⟩ := h
  obtain ⟨hb, hbl⟩ := scanW_box W s lo hi at1
  have hl : (scanH lo hi at1 C).length ≤ 1000000 := by
    have e1 := scanH_len lo hi at1 C
    have e2 : C.length = S.length := by rw [← h2]; simp [chsVS]
    have := h1.hk.2.1
    omega
  have hs : ∀ W', Below (scanW W s lo hi at1).heap.size (scanW W s lo hi at1) W' → Seqs Try.prog 52 #[.pointer (some ⟨W.heap.size, 0, none⟩), .pointer (some ⟨W.heap.size + 1, 0, none⟩), .pointer (some ⟨W.heap.size + 2, 0, none⟩), .pointer (some ⟨W.heap.size + 3, 0, none⟩)] (fun p : PairT => #[str p.1, str p.2]) (fun W2 => Below (scanW W s lo hi at1).heap.size (scanW W s lo hi at1) W2) (fun T => T = 55) (scanH lo hi at1 C) W' := fun W' hW' => by
    rw [← h2]
    cases hi with
    | nil => rw [← scanL_all]; exact scanAll_any (h1.below hbl) (by omega) hb hW' (by decide)
    | cons c q => rw [← scanL_hi]; exact scanHi_any (h1.below hbl) (by omega) hb hW' (by decide)
  exact v11pairs_any (Ok := fun W2 => Below (scanW W s lo hi at1).heap.size (scanW W s lo hi at1) W2) m hm hl (enters_of Try.func52 (by kernel_rfl) rfl) (fun W' h => h) hs
theorem scanH_read {W W' : World} {s : Nat} {lo hi : List UInt8} {at1 : Int} {L : List PairT} {e : Ending} (h : PrsP (scanW W s lo hi at1) L e W') : ∃ v, e = .returned v ∧ RdP W' v L ∧ Below W.heap.size W W' := by
  obtain ⟨v, rfl, h1, h2⟩ := h
  have hbl := (scanW_box W s lo hi at1).2
  refine ⟨v, rfl, RdF.of_row (fun r hr => ?_) (by simpa using h1), hbl.trans (h2.mono hbl.size)⟩
  obtain ⟨p, _, rfl⟩ := List.mem_map.1 hr
  rfl
end Go.Proofs.Ytdlacjdddjebgaa
namespace Go.Proofs.Ytdlacjdddjebgaa
open Go.RowKit
/-- The blocks of the document's store. -/
def RK (b : Nat) (vo : Value) (R : List RRow) (i : Nat) : Prop := BlkR b vo i ∨ ∃ x ∈ R, sBlk x.2.1 = some i
/-- Both stores: the program's chains C, the document's D. -/
def JS (X : World) (B : Nat) (W : World) (s mb b : Nat) (C : ChC) (low : Int) (D : ChC) (dow : Int) (n : Nat) : Prop :=
  ∃ vo R, SG X (RK b vo R) W s mb C low n ∧ RS W B b vo R dow ∧ chR R = D
variable {X W : World} {B s mb b : Nat} {C D : ChC} {low dow : Int} {n : Nat} {vo : Value} {R : List RRow}
theorem RS.rk (h : RS W B b vo R low) : ∀ i, RK b vo R i → i < W.heap.size := by
  rintro i (hi | ⟨x, hx, hi⟩)
  · exact (h.blk i hi).2
  · obtain ⟨_, cs, z, h5⟩ := (h.ch x hx).2.2 i hi
    exact (Array.getElem?_eq_some_iff.1 h5).1
theorem RS.kept {W' : World} (h : RS W B b vo R low) (hk : Kp (RK b vo R) W W') : RS W' B b vo R low :=
  h.frm hk (fun _ hk hn => hn (.inl hk)) (fun r hr _ hj hn => hn (.inr ⟨r, hr, hj⟩))
theorem SG.ref {W' : World} {vo' : Value} {R' : List RRow} (h : SG X (RK b vo R) W s mb C low n) (hr : RS W B b vo R dow) (hX : X.heap.size ≤ B) (hf : Frm (BlkR b vo) W W') (hl : ∀ i, RK b vo' R' i → i < W'.heap.size)
    (hn : ∀ k, BlkR b vo' k → BlkR b vo k ∨ W.heap.size ≤ k) (hc : ∀ r ∈ R', ∀ j, sBlk r.2.1 = some j → (∃ x ∈ R, sBlk x.2.1 = some j) ∨ W.heap.size ≤ j) : SG X (RK b vo' R') W' s mb C low n := by
  obtain ⟨t, S, h1, h2, h3, h4, h5⟩ := h
  have hap : ∀ i, BlkVS s mb S i → ¬ BlkR b vo i := fun i hi e => (h5 i (.inl e)).2 hi
  refine ⟨t, S, h1.frm hf (fun i e cs T z hc => hr.five i e cs T z hc) hap, h2, ⟨hf.os.trans h3.os, hf.tape.trans h3.tape, hf.output.trans h3.output, Nat.le_trans h3.size hf.size, fun k hk => ?_⟩, h4, fun i hi => ⟨hl i hi, fun e => ?_⟩⟩
  · rw [hf.block k (Nat.lt_of_lt_of_le hk h3.size) (fun e => by have := (hr.blk k e).1; omega)]
    exact h3.block k hk
  · have hlt := (h1.blk i e).2
    rcases hi with hi | ⟨r, hr', hj⟩
    · rcases hn i hi with q | q
      · exact hap i e q
      · omega
    · rcases hc r hr' i hj with q | q
      · exact (h5 i (.inr q)).2 e
      · omega
theorem JS.below {W' : World} (h : JS X B W s mb b C low D dow n) (hb : Below W.heap.size W W') : JS X B W' s mb b C low D dow n := by
  obtain ⟨vo, R, h1, h2, h3⟩ := h
  exact ⟨vo, R, h1.below hb, h2.below hb, h3⟩
theorem jput (h : JS X B W s mb b C low D dow n) (hn : n ≤ 10000) (key : List UInt8) (at1 : Int) (x : List UInt8) :
    Calls Try.prog 11 #[.pointer (some ⟨s, 0, none⟩), .int .i64 at1, str key, str x] W fun e W' => e = .returned (.int .i64 (addCVS (verC key C) low (at1, x, false))) ∧ JS X B W' s mb b (putC C low key (at1, x, false)) low D dow (n + 1) := by
  obtain ⟨vo, R, h1, h2, h3⟩ := h
  refine (putG h1 hn key at1 x).mono ?_
  rintro e W' ⟨rfl, h4, h5⟩
  exact ⟨rfl, vo, R, h4, h2.kept h5, h3⟩
theorem jkill (h : JS X B W s mb b C low D dow n) (hn : n ≤ 10000) (key : List UInt8) (at1 : Int) :
    Calls Try.prog 13 #[.pointer (some ⟨s, 0, none⟩), .int .i64 at1, str key] W fun e W' => e = .returned (.int .i64 (addCVS (verC key C) low (at1, [], true))) ∧ JS X B W' s mb b (putC C low key (at1, [], true)) low D dow (n + 1) := by
  obtain ⟨vo, R, h1, h2, h3⟩ := h
  refine (killG h1 hn key at1).mono ?_
  rintro e W' ⟨rfl, h4, h5⟩
  exact ⟨rfl, vo, R, h4, h2.kept h5, h3⟩
theorem jprune (h : JS X B W s mb b C low D dow n) (hn : n ≤ 10000) (lw : Int) :
    Calls Try.prog 15 #[.pointer (some ⟨s, 0, none⟩), .int .i64 lw] W fun e W' => e = .returned (.int .i64 (pruN lw low C : Int)) ∧ JS X B W' s mb b (pruG lw low C) (pruLow lw low) D dow n := by
  obtain ⟨vo, R, h1, h2, h3⟩ := h
  refine (pruneG h1 hn lw).mono ?_
  rintro e W' ⟨rfl, h4, h5⟩
  exact ⟨rfl, vo, R, h4, h2.kept h5, h3⟩
theorem chR_bound (h : chR R = D) (hd : D.length ≤ 100000) (ht : totC D ≤ 100000) : R.length ≤ 100000 ∧ ∀ r ∈ R, r.2.2.length ≤ 100000 := by
  subst h
  refine ⟨by rwa [chR_len] at hd, fun r hr => ?_⟩
  have : (r.1, r.2.2) ∈ chR R := List.mem_map.2 ⟨r, hr, rfl⟩
  have := tot_at this
  dsimp only at this
  omega
theorem jrput (h : JS X B W s mb b C low D dow n) (hX : X.heap.size ≤ B) (hd : D.length ≤ 100000) (ht : totC D ≤ 100000) (key : List UInt8) (at1 : Int) (x : List UInt8) :
    Calls Try.prog 12 #[.pointer (some ⟨b, 0, none⟩), .int .i64 at1, str key, str x] W fun e W' => e = .returned (.int .i64 (addCVS (verC key D) dow (at1, x, false))) ∧ JS X B W' s mb b C low (putC D dow key (at1, x, false)) dow n := by
  obtain ⟨vo, R, h1, h2, h3⟩ := h
  have hb := chR_bound h3 hd ht
  refine (rput_any h2 hb.1 hb.2 key at1 x).mono ?_
  rintro e W' ⟨rfl, vo', R', h4, h5, h6, h7, h8⟩
  rw [h3] at h5 ⊢
  exact ⟨rfl, vo', R', h1.ref h2 hX h6 h4.rk h7 h8, h4, h5⟩
theorem jrkill (h : JS X B W s mb b C low D dow n) (hX : X.heap.size ≤ B) (hd : D.length ≤ 100000) (ht : totC D ≤ 100000) (key : List UInt8) (at1 : Int) :
    Calls Try.prog 14 #[.pointer (some ⟨b, 0, none⟩), .int .i64 at1, str key] W fun e W' => e = .returned (.int .i64 (addCVS (verC key D) dow (at1, [], true))) ∧ JS X B W' s mb b C low (putC D dow key (at1, [], true)) dow n := by
  obtain ⟨vo, R, h1, h2, h3⟩ := h
  have hb := chR_bound h3 hd ht
  refine (rkill_any h2 hb.1 hb.2 key at1).mono ?_
  rintro e W' ⟨rfl, vo', R', h4, h5, h6, h7, h8⟩
  rw [h3] at h5 ⊢
  exact ⟨rfl, vo', R', h1.ref h2 hX h6 h4.rk h7 h8, h4, h5⟩
theorem jrprune (h : JS X B W s mb b C low D dow n) (hX : X.heap.size ≤ B) (hd : D.length ≤ 100000) (ht : totC D ≤ 100000) (hr : ∀ p ∈ D, RisT (timesVS p.2)) (lw : Int) :
    Calls Try.prog 16 #[.pointer (some ⟨b, 0, none⟩), .int .i64 lw] W fun e W' => e = .returned (.int .i64 (pruN lw dow D : Int)) ∧ JS X B W' s mb b C low (pruG lw dow D) (pruLow lw dow) n := by
  obtain ⟨vo, R, h1, h2, h3⟩ := h
  have hb := chR_bound h3 hd ht
  refine (rprune_any h2 hb.1 (by rw [h3]; omega) (fun r hr' => hr (r.1, r.2.2) (by rw [← h3]; exact List.mem_map.2 ⟨r, hr', rfl⟩)) lw).mono ?_
  rintro e W' ⟨rfl, vo', R', h4, h5, h6, h7, h8⟩
  rw [h3] at h5 ⊢
  exact ⟨rfl, vo', R', h1.ref h2 hX h6 h4.rk h7 h8, h4, h5⟩
end Go.Proofs.Ytdlacjdddjebgaa
namespace Go.Proofs.Ytdlacjdddjebgaa
open Go.RowKit
set_option maxRecDepth 100000 in
set_option maxHeartbeats 4000000 in
theorem chain_same (va vb : Value) (L : List VerVS) (w : World) (ha : RdVS w va L) (hb : RdVS w vb L) (hl : L.length ≤ 1000000) :
    Calls Try.prog 24 #[va, vb] w fun e w' => e = .returned (.bool true) ∧ Below w.heap.size w w' := by
  obtain ⟨a, ca, rfl, _⟩ := ha.form
  obtain ⟨b, cb, rfl, _⟩ := hb.form
  have HA := Lib.hid ha
  have HB := Lib.hid hb
  clear ha hb
  go_enter Try.func24, Try.ntmps24
  go_wp2_with fail
  go_loopw [5] (fun vi wr => ∃ i : Nat, i ≤ L.length ∧ vi = .int .i64 (i : Int) ∧ Hid (Below w.heap.size w wr)) (fun vi _ => L.length - (intOf vi).toNat)
  case atStart => exact ⟨0, Nat.zero_le _, by go_num, Lib.hid (by first | exact Below.refl _ _ | exact Below.drewsN (Below.refl _ _) _)⟩
  case round =>
    obtain ⟨i, hi, rfl, HW⟩ := hrel
    by_cases hlt : i < L.length
    · have g1 : (i : Int) < (L.length : Int) := by omega
      have g3 : (0 : Int) ≤ (i : Int) := by omega
      obtain ⟨q, o, rfl, x0, x1, x2⟩ := (HA.out.up HW.out).get hlt
      obtain ⟨q', o', rfl, y0, y1, y2⟩ := (HB.out.up HW.out).get hlt
      obtain ⟨⟨da, ds, dg⟩, hc⟩ : ∃ x, x = L[i] := ⟨_, rfl⟩
      rw [← hc] at x0 x1 x2 y0 y1 y2
      dsimp only at x0 x1 x2 y0 y1 y2
      have w2 : IntKind.i64.wrap ((i : Int) + 1) = (i : Int) + 1 := IntWalk.i64_in _ ⟨by omega, by omega⟩
      have e1 : (da != da) = false := by simp
      have e2 : (ds != ds) = false := by simp
      have e3 : (dg != dg) = false := by simp
      clear hc
      go_wp2_with fail
      go_quiet (fail)
      obtain ⟨W5, hW5⟩ : ∃ W5, W5 = wr.drewN nq := ⟨_, rfl⟩
      rw [← hW5]
      have HW5 : Hid (Below w.heap.size w W5) := Lib.hid (by rw [hW5]; exact HW.out.trans (Below.drewsN (Below.refl _ _) _ |>.mono HW.out.size))
      clear hW5 x0 x1 x2 y0 y1 y2 HW
      go_wp2_with fail
      go_roundw
      case rel => exact ⟨i + 1, by omega, by go_num, HW5⟩
      case measure => simp [intOf]; omega
    · obtain rfl : i = L.length := by omega
      have g1 : ¬ (L.length : Int) < (L.length : Int) := by omega
      go_wp2_with fail
      go_ret
      exact ⟨rfl, HW.out⟩
end Go.Proofs.Ytdlacjdddjebgaa
namespace Go.Proofs.Ytdlacjdddjebgaa
open Go.RowKit
variable {X W : World} {B s mb b : Nat} {C D : ChC} {low dow : Int} {n : Nat}
/-- What is gone has no value. -/
def OkC (D : ChC) : Prop := ∀ p ∈ D, ∀ x ∈ p.2, x.2.2 = true → x.2.1 = []
theorem okC_nil : OkC [] := fun _ h => by cases h
theorem mem_insB {Y : Type} {k : List UInt8} {y : Y} {p : List UInt8 × Y} : ∀ {l : List (List UInt8 × Y)}, p ∈ insB k y l → p = (k, y) ∨ p ∈ l
  | [], h => by simp [insB] at h; exact .inl h
  | (k', y') :: t, h => by
    unfold insB at h
    split at h
    · rcases List.mem_cons.1 h with rfl | h
      · exact .inl rfl
      · exact .inr h
    · split at h
      · rcases List.mem_cons.1 h with rfl | h
        · exact .inr (by simp)
        · rcases mem_insB h with h | h
          · exact .inl h
          · exact .inr (List.mem_cons_of_mem _ h)
      · rcases List.mem_cons.1 h with rfl | h
        · exact .inl rfl
        · exact .inr (List.mem_cons_of_mem _ h)
theorem mem_getB {Y : Type} {k : List UInt8} {y : Y} : ∀ {l : List (List UInt8 × Y)}, getB k l = some y → ∃ p ∈ l, p.2 = y
  | [], h => by simp [getB] at h
  | (k', y') :: t, h => by
    unfold getB at h
    split at h
    · cases h
    · split at h
      · obtain ⟨p, hp, e⟩ := mem_getB h
        exact ⟨p, List.mem_cons_of_mem _ hp, e⟩
      · simp only [Option.some.injEq] at h
        exact ⟨(k', y'), by simp, h⟩
theorem okC_ver (h : OkC D) (key : List UInt8) : ∀ x ∈ verC key D, x.2.2 = true → x.2.1 = [] := by
  intro x hx
  unfold verC at hx
  cases e : getB key D with
  | none => rw [e] at hx; cases hx
  | some y =>
    rw [e] at hx
    obtain ⟨p, hp, rfl⟩ := mem_getB e
    exact h p hp x hx
theorem okC_put (h : OkC D) (low : Int) (key : List UInt8) (v : VerVS) (hv : v.2.2 = true → v.2.1 = []) : OkC (putC D low key v) := by
  unfold putC
  split
  · intro p hp
    rcases mem_insB hp with rfl | hp
    · intro x hx
      rcases List.mem_append.1 hx with hx | hx
      · exact okC_ver h key x hx
      · simp only [List.mem_cons, List.not_mem_nil, or_false] at hx
        subst hx; exact hv
    · exact h p hp
  · exact h
theorem okC_pru (h : OkC D) (lw low : Int) : OkC (pruG lw low D) := by
  unfold pruG
  split
  · intro p hp x hx
    unfold pruCVS at hp
    obtain ⟨q, hq, e⟩ := List.mem_filterMap.1 hp
    split at e
    · cases e
    · simp only [Option.some.injEq] at e
      subst e
      exact h q hq x (List.mem_of_mem_drop hx)
  · exact h
theorem jget (h : JS X B W s mb b C low D dow n) (hn : n ≤ 10000) (key : List UInt8) (at1 : Int) :
    Calls Try.prog 27 #[.pointer (some ⟨s, 0, none⟩), str key, .int .i64 at1] W fun e W' => e = seenEVS (seenVS (verC key C) at1) ∧ Below W.heap.size W W' := by
  obtain ⟨vo, R, h1, h2, h3⟩ := h
  exact getG h1 hn key at1
theorem jchain (h : JS X B W s mb b C low D dow n) (hn : n ≤ 10000) (key : List UInt8) :
    Calls Try.prog 25 #[.pointer (some ⟨s, 0, none⟩), str key] W (CloQ (verC key C) W) := by
  obtain ⟨vo, R, h1, h2, h3⟩ := h
  exact chainG h1 hn key
theorem jlast (h : JS X B W s mb b C low D dow n) (hn : n ≤ 10000) (key : List UInt8) :
    Calls Try.prog 18 #[.pointer (some ⟨s, 0, none⟩), str key] W fun e W' => e = .returned (.int .i64 (lastTVS (verC key C))) ∧ W = W' := by
  obtain ⟨vo, R, h1, h2, h3⟩ := h
  exact lastG h1 hn key
theorem jcount (h : JS X B W s mb b C low D dow n) : Calls Try.prog 20 #[.pointer (some ⟨s, 0, none⟩)] W fun e W' => e = .returned (.int .i64 (totC C : Int)) ∧ W = W' := by
  obtain ⟨vo, R, h1, h2, h3⟩ := h
  exact countG h1
theorem jlow (h : JS X B W s mb b C low D dow n) : Calls Try.prog 19 #[.pointer (some ⟨s, 0, none⟩)] W fun e W' => e = .returned (.int .i64 low) ∧ W = W' := by
  obtain ⟨vo, R, h1, h2, h3⟩ := h
  exact lowG h1
theorem jscan (h : JS X B W s mb b C low D dow n) (hn : n ≤ 10000) (lo hi : List UInt8) (at1 m : Int) (hm : 1 ≤ m) :
    Calls Try.prog 30 #[.func (.func 52) #[] #[.pointer (some ⟨W.heap.size, 0, none⟩), .pointer (some ⟨W.heap.size + 1, 0, none⟩), .pointer (some ⟨W.heap.size + 2, 0, none⟩), .pointer (some ⟨W.heap.size + 3, 0, none⟩)], .int .i64 m] (scanW W s lo hi at1) (PrsP (scanW W s lo hi at1) ((scanH lo hi at1 C).take m.toNat)) := by
  obtain ⟨vo, R, h1, h2, h3⟩ := h
  exact scannedH h1 hn lo hi at1 m hm
theorem jrget (h : JS X B W s mb b C low D dow n) (hd : D.length ≤ 100000) (ht : totC D ≤ 100000) (hr : ∀ p ∈ D, RisT (timesVS p.2)) (ho : OkC D) (key : List UInt8) (at1 : Int) :
    Calls Try.prog 28 #[.pointer (some ⟨b, 0, none⟩), str key, .int .i64 at1] W fun e W' => e = seenEVS (seenVS (verC key D) at1) ∧ Below W.heap.size W W' := by
  obtain ⟨vo, R, h1, h2, h3⟩ := h
  have hb := chR_bound h3 hd ht
  subst h3
  have hm : ∀ r ∈ R, (r.1, r.2.2) ∈ chR R := fun r hr' => List.mem_map.2 ⟨r, hr', rfl⟩
  exact rget_any h2 (by omega) (fun r hr' => ⟨hr _ (hm r hr'), by have := hb.2 r hr'; omega, ho _ (hm r hr')⟩) key at1
theorem jrscan (h : JS X B W s mb b C low D dow n) (hd : D.length ≤ 100000) (ht : totC D ≤ 100000) (hr : ∀ p ∈ D, RisT (timesVS p.2)) (ho : OkC D) (lo hi : List UInt8) (at1 : Int) :
    Calls Try.prog 32 #[.pointer (some ⟨b, 0, none⟩), str lo, str hi, .int .i64 at1] W (PrsP W (scanH lo hi at1 D)) := by
  obtain ⟨vo, R, h1, h2, h3⟩ := h
  have hb := chR_bound h3 hd ht
  subst h3
  have hm : ∀ r ∈ R, (r.1, r.2.2) ∈ chR R := fun r hr' => List.mem_map.2 ⟨r, hr', rfl⟩
  exact rscan_any h2 (by omega) (fun r hr' => ⟨hr _ (hm r hr'), by have := hb.2 r hr'; omega, ho _ (hm r hr')⟩) lo hi at1
theorem jrchain (h : JS X B W s mb b C low D dow n) (hd : D.length ≤ 100000) (ht : totC D ≤ 100000) (key : List UInt8) :
    Calls Try.prog 26 #[.pointer (some ⟨b, 0, none⟩), str key] W (CloQ (verC key D) W) := by
  obtain ⟨vo, R, h1, h2, h3⟩ := h
  have hb := chR_bound h3 hd ht
  subst h3
  exact rchain_any h2 (by omega) (fun r hr' => by have := hb.2 r hr'; omega) key
theorem jrlast (h : JS X B W s mb b C low D dow n) (hd : D.length ≤ 100000) (ht : totC D ≤ 100000) (key : List UInt8) :
    Calls Try.prog 23 #[.pointer (some ⟨b, 0, none⟩), str key] W fun e w' => e = .returned (.int .i64 (lastTVS (verC key D))) ∧ Below W.heap.size W w' := by
  obtain ⟨vo, R, h1, h2, h3⟩ := h
  have hb := chR_bound h3 hd ht
  subst h3
  exact rlast_any h2 (by omega) (fun r hr' => by have := hb.2 r hr'; omega) key
theorem jrcount (h : JS X B W s mb b C low D dow n) (hd : D.length ≤ 100000) (ht : totC D ≤ 100000) :
    Calls Try.prog 21 #[.pointer (some ⟨b, 0, none⟩)] W fun e w' => e = .returned (.int .i64 (totC D : Int)) ∧ w' = W := by
  obtain ⟨vo, R, h1, h2, h3⟩ := h
  have hb := chR_bound h3 hd ht
  subst h3
  exact rcount_any h2 (by omega) (by omega)
theorem jrlow (h : JS X B W s mb b C low D dow n) : Calls Try.prog 22 #[.pointer (some ⟨b, 0, none⟩)] W fun e w' => e = .returned (.int .i64 dow) ∧ w' = W := by
  obtain ⟨vo, R, h1, h2, h3⟩ := h
  exact rlow_any h2
end Go.Proofs.Ytdlacjdddjebgaa
namespace Go.Proofs.Ytdlacjdddjebgaa
open Go.RowKit

/-- Two stores under X whose blocks are apart. -/
def S2 (X : World) (K : Nat → Prop) (W : World) (sa ma : Nat) (Ca : ChC) (la : Int) (na : Nat) (sb mb : Nat) (Cb : ChC) (lb : Int) (nb : Nat) : Prop :=
  ∃ ta Sa tb Sb, StVS W X.heap.size sa ma ta Sa (totC Ca : Int) la na ∧ chsVS Sa = Ca ∧ totC Ca ≤ na ∧ StVS W X.heap.size sb mb tb Sb (totC Cb : Int) lb nb ∧ chsVS Sb = Cb ∧ totC Cb ≤ nb ∧ Below X.heap.size X W ∧ (∀ i, BlkVS sa ma Sa i → ¬ BlkVS sb mb Sb i) ∧ ∀ i, K i → i < W.heap.size ∧ ¬ BlkVS sa ma Sa i ∧ ¬ BlkVS sb mb Sb i
variable {X W : World} {K : Nat → Prop} {sa ma sb mb : Nat} {Ca Cb : ChC} {la lb : Int} {na nb : Nat}
theorem S2.swap (h : S2 X K W sa ma Ca la na sb mb Cb lb nb) : S2 X K W sb mb Cb lb nb sa ma Ca la na := by
  obtain ⟨ta, Sa, tb, Sb, h1, h2, h3, h4, h5, h6, h7, h8, h9⟩ := h
  exact ⟨tb, Sb, ta, Sa, h4, h5, h6, h1, h2, h3, h7, fun i hb ha => h8 i ha hb, fun i hi => ⟨(h9 i hi).1, (h9 i hi).2.2, (h9 i hi).2.1⟩⟩
theorem S2.below {W' : World} (h : S2 X K W sa ma Ca la na sb mb Cb lb nb) (hb : Below W.heap.size W W') : S2 X K W' sa ma Ca la na sb mb Cb lb nb := by
  obtain ⟨ta, Sa, tb, Sb, h1, h2, h3, h4, h5, h6, h7, h8, h9⟩ := h
  exact ⟨ta, Sa, tb, Sb, h1.below hb, h2, h3, h4.below hb, h5, h6, h7.trans (hb.mono h7.size), h8, fun i hi => ⟨Nat.lt_of_lt_of_le (h9 i hi).1 hb.size, (h9 i hi).2⟩⟩
/-- What came behind them may be kept. -/
theorem S2.keep {W' : World} (h : S2 X K W sa ma Ca la na sb mb Cb lb nb) (hb : Below W.heap.size W W') : S2 X (fun i => W.heap.size ≤ i ∧ i < W'.heap.size) W' sa ma Ca la na sb mb Cb lb nb := by
  obtain ⟨ta, Sa, tb, Sb, h1, h2, h3, h4, h5, h6, h7, h8, h9⟩ := h
  refine ⟨ta, Sa, tb, Sb, h1.below hb, h2, h3, h4.below hb, h5, h6, h7.trans (hb.mono h7.size), h8, fun i hi => ⟨hi.2, fun e => ?_, fun e => ?_⟩⟩
  · have := (h1.blk i e).2; omega
  · have := (h4.blk i e).2; omega
theorem S2.bel (h : S2 X K W sa ma Ca la na sb mb Cb lb nb) : Below X.heap.size X W := by
  obtain ⟨ta, Sa, tb, Sb, h1, h2, h3, h4, h5, h6, h7, h8, h9⟩ := h
  exact h7
theorem S2.wide {na' nb' : Nat} (h : S2 X K W sa ma Ca la na sb mb Cb lb nb) (ha : na ≤ na') (hb : nb ≤ nb') : S2 X K W sa ma Ca la na' sb mb Cb lb nb' := by
  obtain ⟨ta, Sa, tb, Sb, h1, h2, h3, h4, h5, h6, h7, h8, h9⟩ := h
  exact ⟨ta, Sa, tb, Sb, h1.wide ha, h2, by omega, h4.wide hb, h5, by omega, h7, h8, h9⟩
/-- One of them, as a store. -/
theorem S2.sg (h : S2 X K W sa ma Ca la na sb mb Cb lb nb) : SG X K W sa ma Ca la na := by
  obtain ⟨ta, Sa, tb, Sb, h1, h2, h3, h4, h5, h6, h7, h8, h9⟩ := h
  exact ⟨ta, Sa, h1, h2, h7, h3, fun i hi => ⟨(h9 i hi).1, (h9 i hi).2.1⟩⟩
theorem new2 (h : SG X (fun _ => False) W sa ma Ca la na) : Calls Try.prog 9 #[] W fun e W' => ∃ s mb, e = .returned (.pointer (some ⟨s, 0, none⟩)) ∧ S2 X (fun _ => False) W' sa ma Ca la na s mb [] 0 0 := by
  obtain ⟨t, S, h1, h2, h3, h4, _⟩ := h
  refine (newVS_st W).mono ?_
  rintro e W' ⟨s, mb, rfl, h5, h6, _⟩
  have hB := h3.size
  refine ⟨s, mb, rfl, t, S, .nil, [], h1.below h6, h2, h4, ⟨h5.box, h5.mp, h5.ws, h5.pr, h5.rs, by simp, h5.ap, h5.tr, h5.hk, ⟨by have := h5.lo.1; omega, by have := h5.lo.2; omega⟩⟩, rfl, Nat.le_refl _, h3.trans (h6.mono hB), fun i hi hj => ?_, fun _ h => h.elim⟩
  have a := (h1.blk i hi).2
  have b := (h5.blk i hj).1
  omega
/-- What a Put, a Kill at the first leaves of both. -/
def Add2 (X : World) (K : Nat → Prop) (W : World) (sa ma : Nat) (Ca : ChC) (la : Int) (na : Nat) (sb mb : Nat) (Cb : ChC) (lb : Int) (nb : Nat) (key : List UInt8) (v : VerVS) (e : Ending) (W' : World) : Prop :=
  e = .returned (.int .i64 (addCVS (verC key Ca) la v)) ∧ S2 X K W' sa ma (putC Ca la key v) la (na + 1) sb mb Cb lb nb ∧ Kp K W W'
theorem add2_of {ta tb : Tr} {Sa Sb : ChsVS} (h1 : StVS W X.heap.size sa ma ta Sa (totC Ca : Int) la na) (h2 : chsVS Sa = Ca) (h3 : totC Ca ≤ na) (h4 : StVS W X.heap.size sb mb tb Sb (totC Cb : Int) lb nb) (h5 : chsVS Sb = Cb) (h6 : totC Cb ≤ nb) (h7 : Below X.heap.size X W) (h8 : ∀ i, BlkVS sa ma Sa i → ¬ BlkVS sb mb Sb i) (h9 : ∀ i, K i → i < W.heap.size ∧ ¬ BlkVS sa ma Sa i ∧ ¬ BlkVS sb mb Sb i) (key : List UInt8) (v : VerVS) {e : Ending} {W' : World}
    (h : AddPVS W X.heap.size sa ma Sa (totC Ca : Int) la na key v (addCVS (verSVS key Sa) la v) e W') : Add2 X K W sa ma Ca la na sb mb Cb lb nb key v e W' := by
  have hv : verSVS key Sa = verC key Ca := by rw [ver_chs, h2]; rfl
  obtain ⟨rfl, g1, g2⟩ := h
  rw [hv] at g1 g2
  unfold Add2 putC
  rw [hv]
  refine ⟨rfl, ?_⟩
  by_cases h0 : addCVS (verC key Ca) la v = 0
  · rw [if_pos h0]
    obtain ⟨t', v', g3, g4, g5⟩ := g2 h0
    rw [hv] at g3 g5
    have ht := tot_ins key v Ca
    refine ⟨⟨t', insB key (v', verC key Ca ++ [v]) Sa, tb, Sb, ?_, ?_, by rw [ht]; omega, h4.frm g4 h1.five (fun i hi ha => h8 i ha hi), h5, h6, h1.down g4 h7 (Nat.le_refl _), fun i hi hj => ?_, fun i hi => ⟨Nat.lt_of_lt_of_le (h9 i hi).1 g4.size, fun e => ?_, (h9 i hi).2.2⟩⟩, g4.mono (fun i _ hb hk => (h9 i hk).2.1 hb)⟩
    · rw [ht]; exact g3
    · rw [chs_ins, h2]
    · rcases g5 i hi with h | h
      · exact h8 i h hj
      · have := (h4.blk i hj).2; omega
    · rcases g5 i e with h | h
      · exact (h9 i hi).2.1 h
      · have := (h9 i hi).1; omega
  · rw [if_neg h0]
    have hb := g1 h0
    exact ⟨⟨ta, Sa, tb, Sb, (h1.below hb).wide (by omega), h2, by omega, h4.below hb, h5, h6, h7.trans (hb.mono h7.size), h8, fun i hi => ⟨Nat.lt_of_lt_of_le (h9 i hi).1 hb.size, (h9 i hi).2⟩⟩, Kp.of hb⟩
theorem put2 (h : S2 X K W sa ma Ca la na sb mb Cb lb nb) (hn : na ≤ 10000) (key : List UInt8) (at1 : Int) (x : List UInt8) :
    Calls Try.prog 11 #[.pointer (some ⟨sa, 0, none⟩), .int .i64 at1, str key, str x] W (Add2 X K W sa ma Ca la na sb mb Cb lb nb key (at1, x, false)) := by
  obtain ⟨ta, Sa, tb, Sb, h1, h2, h3, h4, h5, h6, h7, h8, h9⟩ := h
  exact (putVS_st h1 (by omega) (by omega) key at1 x h7.size).mono (fun e W' h => add2_of h1 h2 h3 h4 h5 h6 h7 h8 h9 key _ h)
theorem kill2 (h : S2 X K W sa ma Ca la na sb mb Cb lb nb) (hn : na ≤ 10000) (key : List UInt8) (at1 : Int) :
    Calls Try.prog 13 #[.pointer (some ⟨sa, 0, none⟩), .int .i64 at1, str key] W (Add2 X K W sa ma Ca la na sb mb Cb lb nb key (at1, [], true)) := by
  obtain ⟨ta, Sa, tb, Sb, h1, h2, h3, h4, h5, h6, h7, h8, h9⟩ := h
  exact (killVS_st h1 (by omega) (by omega) key at1 h7.size).mono (fun e W' h => add2_of h1 h2 h3 h4 h5 h6 h7 h8 h9 key _ h)
set_option maxHeartbeats 2000000 in
theorem putO2 (h : S2 X K W sa ma Ca la na sb mb Cb lb nb) (hn : na ≤ 9000) (o : Op11) :
    Calls Try.prog 33 #[.pointer (some ⟨sa, 0, none⟩), enc11 o] W fun e W' => e = .returned (.tuple #[]) ∧ S2 X K W' sa ma (opC o Ca la) la (na + 1) sb mb Cb lb nb ∧ Kp K W W' := by
  obtain ⟨kd, a, ky, y, hi⟩ := o
  unfold opC enc11
  dsimp only
  have HK : Hid (Kp K W _) := Lib.hid (Kp.of (below_alloc W (.cells #[.int .i64 kd, .int .i64 a, str ky, str y, str hi] 32)))
  have HS := Lib.hid (h.below (below_alloc W (.cells #[.int .i64 kd, .int .i64 a, str ky, str y, str hi] 32)))
  have CP := Lib.hid (put2 HS.out (by omega) ky a y)
  have CK := Lib.hid (kill2 HS.out (by omega) ky a)
  clear h
  by_cases h0 : kd = 0
  · subst h0
    rw [if_pos rfl]
    go_enter Try.func33, Try.ntmps33
    go_wp2_with fail
    refine CP.out.mono ?_
    rintro e w2 ⟨rfl, h2, h3⟩
    have H2 := Lib.hid (And.intro h2 (HK.out.tr h3))
    clear h2 h3 CP CK HS
    go_wp2_with fail
    first
      | exact bodyPost_ret (results_none rfl _ _ _) rfl ⟨rfl, H2.out⟩
      | (go_end0; exact ⟨rfl, H2.out⟩)
  by_cases h1 : kd = 1
  · subst h1
    rw [if_neg h0, if_pos rfl]
    go_enter Try.func33, Try.ntmps33
    go_wp2_with fail
    refine CK.out.mono ?_
    rintro e w2 ⟨rfl, h2, h3⟩
    have H2 := Lib.hid (And.intro h2 (HK.out.tr h3))
    clear h2 h3 CP CK HS
    go_wp2_with fail
    first
      | exact bodyPost_ret (results_none rfl _ _ _) rfl ⟨rfl, H2.out⟩
      | (go_end0; exact ⟨rfl, H2.out⟩)
  rw [if_neg h0, if_neg h1]
  have d0 : (kd == 0) = false := beq_eq_false_iff_ne.2 h0
  have d1 : (kd == 1) = false := beq_eq_false_iff_ne.2 h1
  have HX : Hid (S2 X K _ sa ma Ca la (na + 1) sb mb Cb lb nb) := Lib.hid (by
    exact HS.out.wide (by omega) (Nat.le_refl _))
  go_enter Try.func33, Try.ntmps33
  go_wp2_with fail
  first
    | exact bodyPost_ret (results_none rfl _ _ _) rfl ⟨rfl, HX.out, HK.out⟩
    | (go_end0; exact ⟨rfl, HX.out, HK.out⟩)
end Go.Proofs.Ytdlacjdddjebgaa
