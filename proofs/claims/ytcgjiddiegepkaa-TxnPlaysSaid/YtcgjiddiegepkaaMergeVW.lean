/- Maps in order, Merge[string,handbill/api.Write]. -/
import Derived.Test.YtcgjiddiegepkaaAheadVW
import Derived.Test.YtcgjiddiegepkaaLessVW
import Derived.LoopNIn
import Derived.LoopIn
namespace Go.Proofs.Ytcgjiddiegepkaa
open Go.RowKit
attribute [local go_sem] Oper.semAt_some wide_fn wide_depth

attribute [local go_sem] run_store_fn
theorem ownToF {β : Type} {B : Nat} {I : β → World → Prop} (h : OwnFrom B I) : OwnFromT (fun _ => False) B I := fun s W W' row hs hg hr => h s W W' row hs hg (fun r e => by
  obtain ⟨h1, o, h2, h3⟩ := hr r e
  rcases h3 with h3 | ⟨_, _, _, _, h4⟩
  · exact ⟨h1, o, h2, h3⟩
  · exact h4.elim)
/-- Merge: two boxes; of a second one that is nil a function that tells nothing. -/
theorem merge_anyVW {va : Value} (hva : va = .nilFunc ∨ ∃ ga lba, va = .func (.func ga) #[] lba) (gb : Nat) (lbb : Array Value) (w : World) : Calls Try.prog 50 #[va, .func (.func gb) #[] lbb] w fun e w' =>
    e = .returned (.func (.func 67) #[] #[.pointer (some ⟨w.heap.size, 0, none⟩), .pointer (some ⟨w.heap.size + 1, 0, none⟩)]) ∧ w' = (w.alloc (.cells #[va] 96)).alloc (.cells #[.func (.func gb) #[] lbb] 96) := by
  have hfn := fnil2VW gb lbb
  rcases hva with rfl | ⟨ga, lba, rfl⟩
  all_goals
    go_enter Try.func50, Try.ntmps50
    go_wp2
    go_ret
    exact ⟨rfl, rfl⟩
theorem merge_nilVW {va : Value} (hva : va = .nilFunc ∨ ∃ ga lba, va = .func (.func ga) #[] lba) (w : World) : Calls Try.prog 50 #[va, .nilFunc] w fun e w' =>
    e = .returned (.func (.func 67) #[] #[.pointer (some ⟨w.heap.size, 0, none⟩), .pointer (some ⟨w.heap.size + 1, 0, none⟩)]) ∧ w' = (w.alloc (.cells #[va] 96)).alloc (.cells #[.func (.func 66) #[] #[]] 96) := by
  have hnn : ∀ w, (binOp .eql 96 .nilFunc .nilFunc).run Try.prog w = .ok (.bool true) w := fun w => by kernel_rfl
  rcases hva with rfl | ⟨ga, lba, rfl⟩
  all_goals
    go_enter Try.func50, Try.ntmps50
    go_wp2
    go_ret
    exact ⟨rfl, rfl⟩
/-- It tells nothing. -/
theorem merg1_seqsVW {Ok : World → Prop} {Wr : TypeId → Prop} (W : World) : Seqs Try.prog 66 #[] (fun p : Value × Value => #[p.1, p.2]) Ok Wr [] W := by
  intro l J Jx _ _ _ _ h0
  go_enter Try.func66, Try.ntmps66
  go_wp2
  go_end0
  exact ⟨⟨_, rfl⟩, .inl h0⟩
/-- What Merge keeps from round to round. -/
def MIVW (J : List (Value × Value) → World → Prop) (B0 B4 l : Nat) (xa xb pre : List (Value × Value)) (W : World) : Prop :=
  ∃ out ra v, J out W ∧ Boxed W B4 126 v ∧ AheadVW B0 W v ra ∧ Boxed W B0 109 (.func (.yield l) #[] #[]) ∧ (∀ p ∈ ra, KSVW p.1 ∧ VSVW p.2) ∧ ∀ rem, xb = pre ++ rem → mrgL xa xb = out ++ mrgL ra rem
theorem MIVW_own {J : List (Value × Value) → World → Prop} {B0 B4 l B : Nat} {xa xb : List (Value × Value)} (hJ : OwnFrom B0 J) (hB : B0 ≤ B) : OwnFrom B (MIVW J B0 B4 l xa xb) := by
  rintro s X Y row ⟨out, ra, v, hj, h4, ha, h3, hk, hG⟩ hg hr
  have hr' : ∀ r, row = some r → ∃ o : Obj, X.heap[r]? = some o ∧ o.isCells = false := fun r e => (hr r e).2
  exact ⟨out, ra, v, hJ _ _ _ _ hj hg (fun r e => ⟨Nat.le_trans hB (hr r e).1, (hr r e).2⟩), boxed_own (β := Unit) B4 _ (fun _ => v) () X Y row h4 hg hr', ahead_ownVW (β := Unit) B0 (fun _ => v) (fun _ => ra) () X Y row ha hg hr', boxed_own (β := Unit) B0 _ (fun _ => .func (.yield l) #[] #[]) () X Y row h3 hg hr', hk, hG⟩
set_option maxRecDepth 100000 in
set_option maxHeartbeats 8000000 in
theorem merg2_seqsVW {Ok : World → Prop} {Wr : TypeId → Prop} {va : Value} {xa xb : List (Value × Value)} {gb Ba Bb : Nat} {lbb : Array Value} {W : World} (hxa : xa.length ≤ 1000000) (hxb : xb.length ≤ 1000000) (hka : ∀ p ∈ xa, KSVW p.1 ∧ VSVW p.2) (hkb : ∀ p ∈ xb, KSVW p.1 ∧ VSVW p.2)
    (hga : ∀ W', Below W.heap.size W W' → Calls Try.prog 68 #[va] W' (GatherPVW W' xa))
    (eg : ∀ args w, (callFunc gb args).run Try.prog w = .ok (.enter gb args) w)
    (hsb : ∀ W', Below W.heap.size W W' → Seqs Try.prog gb lbb (fun p : Value × Value => #[p.1, p.2]) Ok Wr xb W')
    (hca : W.cell? ⟨Ba, 0, none⟩ = some va) (hcb : W.cell? ⟨Bb, 0, none⟩ = some (.func (.func gb) #[] lbb))
    (hw1 : ¬ Wr 126) (hw2 : ¬ Wr 129) (hw3 : ¬ Wr 109) (hw4 : ¬ Wr 58) :
    SeqsW MrgTVW Try.prog 67 #[.pointer (some ⟨Ba, 0, none⟩), .pointer (some ⟨Bb, 0, none⟩)] (fun p : Value × Value => #[p.1, p.2]) Ok Wr (mrgL xa xb) W := by
  intro l J Jx hJ hJx hOk hY h0
  have hm : Try.prog.follows .mixedOrders = true := by kernel_rfl
  have hdd : ∀ k : Nat, (Fence.wide.depth.isSome = true → 1 ≤ k) := fun k h => by cases h
  have hB1 := below_alloc W (.cells #[.func (.yield l) #[] #[]] 109)
  have hcl : (W.alloc (.cells #[.func (.yield l) #[] #[]] 109)).cell? ⟨Ba, 0, none⟩ = some va := by
    rw [← hca]; exact (below_alloc W _).cell (p := ⟨Ba, 0, none⟩) (World.block_lt_of_cell? W _ hca)
  have CG := Lib.hid (callsIn_wide (n := 8).2 (hga _ hB1))
  refine (callsIn_wide (n := 9)).1 ?_
  refine callsIn_of_wp_marks Try.func67 rfl trivial ?_ rfl
  simp only [Try.ntmps67, List.size_toArray, List.length_cons, List.length_nil, Nat.reduceAdd, Nat.reduceSub, Array.replicate_succ, Array.replicate_zero, List.push_toArray, List.append_toArray, List.nil_append, List.cons_append]
  have bY := Boxed.new W 109 (.func (.yield l) #[] #[])
  have hB1' := Lib.hid hB1
  have HJ0 := Lib.hid (hJ.plain.alloc (.cells #[.func (.yield l) #[] #[]] 109) h0)
  have HCB := Lib.hid hcb
  clear hga hB1 h0 hca hcb
  gi_wp2_with fail
  refine CG.out.mono ?_
  rintro e w1 ⟨vg, rfl, hrow, hb1⟩
  have hs0 : (W.alloc (.cells #[.func (.yield l) #[] #[]] 109)).heap.size = W.heap.size + 1 := by simp
  rw [hs0] at hrow hb1
  have hBW : Below W.heap.size W w1 := hB1'.out.trans (hb1.mono (by omega))
  have bY1 : Boxed w1 W.heap.size 109 (.func (.yield l) #[] #[]) := by
    show w1.heap[W.heap.size]? = _
    rw [hb1.block W.heap.size (by omega)]; exact bY
  have hAh : AheadVW W.heap.size w1 vg xa := AheadVW.of_row (row_mono hrow (by omega))
  have HJ1 : Hid (J [] w1) := Lib.hid (hJ.plain [] _ _ none HJ0.out (grown_below hb1) (fun r e => by cases e))
  have HCB1 : w1.cell? ⟨Bb, 0, none⟩ = some (.func (.func gb) #[] lbb) := (hBW.cell (p := ⟨Bb, 0, none⟩) (World.block_lt_of_cell? W _ HCB.out)).trans HCB.out
  obtain ⟨ag, ng, cg, rfl⟩ : ∃ ag ng cg, vg = .slice ag ng cg := by obtain ⟨a, c, h, _⟩ := hAh; exact ⟨a, _, c, h⟩
  clear CG bY HJ0 hB1' HCB hcl hs0
  have hs1 : W.heap.size + 1 ≤ w1.heap.size := by have := hb1.size; simpa using this
  have HCB2 : (w1.alloc (.cells #[.slice ag ng cg] 126)).cell? ⟨Bb, 0, none⟩ = some (.func (.func gb) #[] lbb) := ((below_alloc w1 _).cell (p := ⟨Bb, 0, none⟩) (World.block_lt_of_cell? w1 _ HCB1)).trans HCB1
  gi_wp2
  have b4 := Boxed.new w1 126 (.slice ag ng cg)
  obtain ⟨w2, hw2'⟩ : ∃ w2, w2 = w1.alloc (.cells #[.slice ag ng cg] 126) := ⟨_, rfl⟩
  rw [← hw2'] at b4 ⊢
  have hBW2 : Below W.heap.size W w2 := by rw [hw2']; exact hBW.trans ((below_alloc w1 _).mono hBW.size)
  have hs2 : w2.heap.size = w1.heap.size + 1 := by rw [hw2']; simp
  have hJ2 : J [] w2 := by rw [hw2']; exact hJ.plain.alloc _ HJ1.out
  have hA2 : AheadVW W.heap.size w2 (.slice ag ng cg) xa := by rw [hw2']; exact hAh.below (below_alloc w1 _)
  have b3 : Boxed w2 W.heap.size 109 (.func (.yield l) #[] #[]) := by rw [hw2']; exact bY1.alloc _
  have hs4 : W.heap.size < w1.heap.size := by omega
  refine range_lawA (Tw := fun _ => False) (gf := gb) (lb := lbb) rfl eg (Wr := Wr) (xs := xb) (fun W' h => (hsb W' (hBW2.trans (h.mono hBW2.size))).toW) (by intro x; rfl)
    (MIVW J W.heap.size w1.heap.size l xa xb) (fun c pre W2 => c = .ret ∧ ∃ out, (∃ t, mrgL xa xb = out ++ t) ∧ Jx out W2)
    (ownToF (MIVW_own hJ.plain (by omega))) (fun c => ownToF (OwnFrom.and (ownFrom_pure _ (fun _ => c = .ret)) ?ownx)) ?start (fun pre W2 h => by obtain ⟨out, ra, v, hj, _⟩ := h; exact hOk out W2 hj)
    (fun x b => { tmps := #[.func (.yield l) #[] #[], .pointer (some ⟨Ba, 0, none⟩), .pointer (some ⟨Bb, 0, none⟩), .pointer (some ⟨W.heap.size, 0, none⟩), .pointer (some ⟨w1.heap.size, 0, none⟩), x.1, .pointer (some ⟨b, 0, none⟩), undef, undef, va, .slice ag ng cg, .func (.func gb) #[] lbb, x.1, x.2, undef, undef, undef, undef, undef, undef, undef, undef, undef, undef, undef, undef, undef, undef, undef, undef, undef, undef, undef, undef, undef, undef, undef, undef, undef, undef, undef, undef, undef, undef, undef, undef, undef, undef, undef, undef, undef, undef, undef, undef, undef, undef, undef, undef, undef, undef, undef, undef, undef, undef, undef, undef, undef, undef, undef, undef, undef], defers := [] }) (fun x => .cells #[wA x.2, wB x.2, wC x.2] 58) ?assign ?body ?done ?stop
  case ownx =>
    rintro s X Y row ⟨out, ht, hj⟩ hg hr
    exact ⟨out, ht, hJx.plain _ _ _ _ hj hg (fun r e => ⟨by have := (hr r e).1; omega, (hr r e).2⟩)⟩
  case start => exact ⟨[], xa, _, hJ2, b4, hA2, b3, hka, fun rem e => by rw [e]; rfl⟩
  case assign =>
    intro l x W K hx2 hK
    obtain ⟨xk, xv⟩ := x
    obtain ⟨⟨kx, hkx⟩, ⟨ya, yb, yc, hyv⟩⟩ := hkb _ hx2
    dsimp only at hkx hyv
    subst hkx hyv
    have HK := Lib.hid hK
    clear hK
    dsimp only
    gi_wp2
    exact HK.out
  case body =>
    rintro l2 pre ⟨xk, xv⟩ b W2 hl2 hbl hbo ⟨out, ra, v, hj, hb4, hah, hb3, hra, hG⟩ ⟨t, ht⟩
    obtain ⟨⟨kx, rfl⟩, ⟨ya, yb, yc, rfl⟩⟩ := hkb (xk, xv) (by rw [ht]; simp)
    have hbx : W2.heap[b]? = some (.cells #[str ya, str yb, .bool yc] 58 (0, 0)) := hbo
    have hbn : b ≠ w1.heap.size := by omega
    clear hbo
    dsimp only
    have HT := Lib.hid ht
    have hG0 := hG _ ht
    have hksx : KSVW (str kx) := ⟨kx, rfl⟩
    clear hka hkb hsb hs4 hA2 b3 hJ2 b4 hw2' hrow hAh HJ1 HCB1 HCB2 bY1 hG hb1 ht
    gi_wp2_with fail
    gi_loopw [] (fun wr => ∃ out ra v, J out wr ∧ Boxed wr w1.heap.size 126 v ∧ AheadVW W.heap.size wr v ra ∧ Boxed wr W.heap.size 109 (.func (.yield l) #[] #[]) ∧ (∀ p ∈ ra, KSVW p.1 ∧ VSVW p.2) ∧ KT Wr w2.heap.size W2 wr ∧ mrgL xa xb = out ++ mrgL ra ((str kx, .agg #[str ya, str yb, .bool yc]) :: t)) (fun wr => lenAt wr w1.heap.size)
    case atStart => exact ⟨out, ra, v, hj, hb4, hah, hb3, hra, KT.refl _ _ _, hG0⟩
    case round =>
      clear hj hb4 hah hb3 hra hG0
      obtain ⟨out, ra, v, hj, hb4, hah, hb3, hra, hkt, hG⟩ := hrel
      have bz : wr.heap[b]? = some (.cells #[str ya, str yb, .bool yc] 58 (0, 0)) := hkt.cells hbl hbx hw4
      have z0 : wr.cell? ⟨b, 0, none⟩ = some (str ya) := cell_of_row wr b 0 _ _ (0, 0) bz
      have z1 : wr.cell? ⟨b, 1, none⟩ = some (str yb) := cell_of_row wr b 1 _ _ (0, 0) bz
      have z2 : wr.cell? ⟨b, 2, none⟩ = some (.bool yc) := cell_of_row wr b 2 _ _ (0, 0) bz
      have c3 := hb3.cell
      cases ra with
      | nil =>
        have hah0 := hah
        obtain ⟨a0, cap0, rfl, _⟩ := hah
        have c4 := hb4.cell
        have hx1 : ∃ t', mrgL xa xb = out ++ (str kx, .agg #[str ya, str yb, .bool yc]) :: t' := ⟨_, by rw [hG, mrg_none]⟩
        obtain ⟨fn, tmps, assign, body, hy, hR⟩ := hY out (str kx, .agg #[str ya, str yb, .bool yc]) wr hj hx1 6
        gi_wp2_with (refine hR.mono ?_; clear hR; rintro e W3 ⟨hk, ⟨rfl, hj3⟩ | ⟨rfl, hx3⟩⟩)
        · exact ⟨hkt.trans (hk.more (by omega)), out ++ [(str kx, .agg #[str ya, str yb, .bool yc])], [], _, hj3, hk.box hb4 (by omega) hw1, AheadVW.kt hah0 hk hw2, hk.box hb3 (Nat.le_refl _) hw3, hra, fun rem e => by
            obtain rfl := rem_eq HT.out e
            rw [hG, mrg_none]; simp⟩
        · exact ⟨hkt.trans (hk.more (by omega)), rfl, out ++ [(str kx, .agg #[str ya, str yb, .bool yc])], ⟨_, by rw [hG, mrg_none, List.append_assoc]; rfl⟩, hx3⟩
      | cons p ra =>
        obtain ⟨pk, pv⟩ := p
        obtain ⟨g, off, cap, rfl, hc1, hc2, hg, hcells, hnext⟩ := hah.head
        obtain ⟨⟨kp, hkp⟩, ⟨pa, pb, pc, hyp⟩⟩ := hra (pk, pv) (by simp)
        dsimp only at hkp hyp
        subst hkp hyp
        have hksp : KSVW (str kp) := ⟨kp, rfl⟩
        have c4 := hb4.cell
        obtain ⟨c5, c6, c7, c8⟩ := hcells wr hah
        simp only [wA_agg, wB_agg, wC_agg] at c6 c7 c8
        have q1 : (0 : Int) < (ra.length : Int) + 1 := by omega
        by_cases hless : lessV (str kp) (str kx) = true
        · have hl0 : lessV (str kp) (str kx) = true := hless
          have CL : Hid (∀ m w, CallsIn (Fence.wide.inRound l2) m Try.prog 69 #[str kp, str kx] w fun e w' => e = .returned (.bool true) ∧ w' = w) :=
            Lib.hid (fun m w => (callsIn_wide.2 (by have := lessVW_any kp kx w; rw [hl0] at this; exact this)).inRound l2)
          rw [mrg_less hl0] at hG
          obtain ⟨W9, hW9⟩ : ∃ W9, W9 = wr.drew := ⟨_, rfl⟩
          have hj9 : J out W9 := by rw [hW9]; exact own_drew hJ.plain hj
          have hk9 : KT Wr W.heap.size wr W9 := by rw [hW9]; exact KT.drew _ _ _
          have a9 : AheadVW W.heap.size W9 (.slice (some ⟨g, off, none⟩) (ra.length + 1) cap) ((str kp, .agg #[str pa, str pb, .bool pc]) :: ra) := by rw [hW9]; exact hah
          have n9 : AheadVW W.heap.size W9 (.slice (if cap = 1 then some ⟨g, off, none⟩ else some ⟨g, off + 4, none⟩) ra.length (cap - 1)) ra := by rw [hW9]; exact hnext
          have b49 : Boxed W9 w1.heap.size 126 (.slice (some ⟨g, off, none⟩) (ra.length + 1) cap) := by rw [hW9]; exact hb4
          have b39 : Boxed W9 W.heap.size 109 (.func (.yield l) #[] #[]) := by rw [hW9]; exact hb3
          have hl : lenAt wr w1.heap.size = ra.length + 1 := lenAt_box hb4
          obtain ⟨fn, tmps, assign, body, hy, hR⟩ := hY out (str kp, .agg #[str pa, str pb, .bool pc]) W9 hj9 ⟨_, hG⟩ 6
          have hkt9 := hkt.trans (hk9.more (by omega : W.heap.size ≤ w2.heap.size))
          have HH := Lib.hid (And.intro hkt9 (And.intro a9 (And.intro n9 (And.intro b49 (And.intro b39 (And.intro hra hG))))))
          clear hj hah hnext hb4 hb3 hkt hcells hkt9 hk9 hj9 hg hY
          gi_wp2_with (first | (gi_at_call 69; refine (CL.out _ _).mono ?_; rintro e w' ⟨rfl, rfl⟩) | fail)
          refine cut_region (fun a W3 => Kept (∃ c : Bool, a = { tmps := #[.func (.yield l) #[] #[], .pointer (some ⟨Ba, 0, none⟩), .pointer (some ⟨Bb, 0, none⟩), .pointer (some ⟨W.heap.size, 0, none⟩), .pointer (some ⟨w1.heap.size, 0, none⟩), str kx, .pointer (some ⟨b, 0, none⟩), undef, undef, va, .slice ag ng cg, .func (.func gb) #[] lbb, str kx, .agg #[str ya, str yb, .bool yc], .slice (some ⟨g, off, none⟩) (ra.length + 1) cap, .int .i64 ((ra.length : Int) + 1), .bool true, .bool true, .slice (some ⟨g, off, none⟩) (ra.length + 1) cap, .pointer (some ⟨g, off, none⟩), .pointer (some ⟨g, off, none⟩), str kp, str kx, .bool true, .bool true, .func (.yield l) #[] #[], .slice (some ⟨g, off, none⟩) (ra.length + 1) cap, .pointer (some ⟨g, off, none⟩), .pointer (some ⟨g, off, none⟩), str kp, .slice (some ⟨g, off, none⟩) (ra.length + 1) cap, .pointer (some ⟨g, off, none⟩), .pointer (some ⟨g, off + 1, none⟩), .agg #[str pa, str pb, .bool pc], .bool c, .bool (!c), u36, u37, undef, undef, undef, undef, undef, undef, undef, undef, undef, undef, undef, undef, undef, undef, undef, undef, undef, undef, undef, undef, undef, undef, undef, undef, undef, undef, undef, undef, undef, undef, undef, undef, undef], defers := [] } ∧ KT Wr W.heap.size W9 W3 ∧ ((c = true ∧ J (out ++ [(str kp, .agg #[str pa, str pb, .bool pc])]) W3) ∨ (c = false ∧ Jx (out ++ [(str kp, .agg #[str pa, str pb, .bool pc])]) W3)))) ?_ ?_
          · have d3 := HH.out.2.2.2.2.1.cell
            have d4 := HH.out.2.2.2.1.cell
            have d5 : W9.cell? ⟨g, off, none⟩ = some (str kp) := by rw [hW9]; exact c5
            have d6 : W9.cell? ⟨g, off + 1, none⟩ = some (str pa) := by rw [hW9]; exact c6
            have d7 : W9.cell? ⟨g, off + 2, none⟩ = some (str pb) := by rw [hW9]; exact c7
            have d8 : W9.cell? ⟨g, off + 3, none⟩ = some (.bool pc) := by rw [hW9]; exact c8
            refine wpIn_region_any hm ?_
            change wpAnyIn _ _ _ _ _ _ _ _ _ (World.drew _)
            rw [← hW9]
            refine any_inRound rfl (by kernel_rfl) _ _ _ _ ?_
            clear hW9 c3 c4 c5 c6 c7 c8 z0 z1 z2 CL HH
            -- REG6
            refine wpAnyIn_ready (rs := [0, 1, 5]) (by kernel_rfl) (by simp) (AllReadyIn.cons rfl (fun K hK => ?_) (AllReadyIn.cons rfl (fun K hK => ?_) (AllReadyIn.cons rfl (fun K hK => ?_) AllReadyIn.nil)))
            · go_simp
              refine hK _ _ ?_
              clear hK K
              refine wpAnyIn_ready (rs := [1, 5]) (by kernel_rfl) (by simp) (AllReadyIn.cons rfl (fun K hK => ?_) (AllReadyIn.cons rfl (fun K hK => ?_) AllReadyIn.nil))
              · go_simp
                refine hK _ _ ?_
                clear hK K
                refine wpAnyIn_take (i := 2) (v := ?v1) rfl rfl (by kernel_rfl) (by kernel_rfl) (by kernel_rfl) (fun _ _ _ h => (nomatch h.1)) ⟨Or.inl ⟨by rfl, ?hy1⟩, fun _ => rfl⟩ ?_
                case hy1 => (intro w; go_simp; try with_reducible rfl)
                go_simp
                refine wpAnyIn_take (i := 3) (v := ?v2) rfl rfl (by kernel_rfl) (by kernel_rfl) (by kernel_rfl) (fun _ _ _ h => (nomatch h.1)) ⟨Or.inl ⟨by rfl, ?hy2⟩, fun _ => rfl⟩ ?_
                case hy2 => (intro w; go_simp; try with_reducible rfl)
                go_simp
                refine wpAnyIn_ready (rs := [4, 5]) (by kernel_rfl) (by simp) (AllReadyIn.cons rfl (fun K hK => ?_) (AllReadyIn.cons rfl (fun K hK => ?_) AllReadyIn.nil))
                · go_simp
                  refine hK _ _ ?_
                  clear hK K
                  refine wpAnyIn_ready (rs := [5]) (by kernel_rfl) (by simp) (AllReadyIn.cons rfl (fun K hK => ?_) AllReadyIn.nil)
                  go_simp
                  refine hK _ _ ?_
                  clear hK K
                  refine wpAnyIn_take (i := 6) (v := ?v3) rfl rfl (by kernel_rfl) (by kernel_rfl) (by kernel_rfl) (fun _ _ _ h => (nomatch h.1)) ⟨Or.inl ⟨by rfl, ?hy3⟩, fun _ => rfl⟩ ?_
                  case hy3 => (intro w; go_simp; try with_reducible rfl)
                  go_simp
                  refine wpAnyIn_take (i := 7) (v := ?v4) rfl rfl (by kernel_rfl) (by kernel_rfl) (by kernel_rfl) (fun _ _ _ h => (nomatch h.1)) ⟨Or.inl ⟨by rfl, ?hy4⟩, fun _ => rfl⟩ ?_
                  case hy4 => (intro w; go_simp; try with_reducible rfl)
                  go_simp
                  refine wpAnyIn_ready (rs := [8]) (by kernel_rfl) (by simp) (AllReadyIn.cons rfl (fun K hK => ?_) AllReadyIn.nil)
                  go_simp
                  refine hK _ _ ?_
                  clear hK K
                  refine wpAnyIn_ready (rs := [9]) (by kernel_rfl) (by simp) (AllReadyIn.cons rfl (fun K hK => ?_) AllReadyIn.nil)
                  go_simp
                  first | refine ⟨hdd _, hR.mono ?_⟩ | refine hR.mono ?_ | refine ⟨trivial, hR.mono ?_⟩ | refine ⟨trivial, hdd _, hR.mono ?_⟩
                  clear hR
                  rintro e W3 ⟨hk, ⟨rfl, hj3⟩ | ⟨rfl, hx3⟩⟩
                  · refine hK _ _ ?_
                    clear hK K
                    refine wpAnyIn_take (i := 10) (v := ?v5) rfl rfl (by kernel_rfl) (by kernel_rfl) (by kernel_rfl) (fun _ _ _ h => (nomatch h.1)) ⟨Or.inl ⟨by rfl, ?hy5⟩, fun _ => rfl⟩ ?_
                    case hy5 => (intro w; go_simp; try with_reducible rfl)
                    go_simp
                    refine wpAnyIn_done (by kernel_rfl) ?_ _
                    exact ⟨rfl, Kept.intro (.inr ⟨rfl, hk, hj3⟩)⟩
                  · refine hK _ _ ?_
                    clear hK K
                    refine wpAnyIn_take (i := 10) (v := ?v6) rfl rfl (by kernel_rfl) (by kernel_rfl) (by kernel_rfl) (fun _ _ _ h => (nomatch h.1)) ⟨Or.inl ⟨by rfl, ?hy6⟩, fun _ => rfl⟩ ?_
                    case hy6 => (intro w; go_simp; try with_reducible rfl)
                    go_simp
                    refine wpAnyIn_done (by kernel_rfl) ?_ _
                    exact ⟨rfl, Kept.intro (.inl ⟨rfl, hk, hx3⟩)⟩
                · go_simp
                  refine hK _ _ ?_
                  clear hK K
                  refine wpAnyIn_take (i := 6) (v := ?v7) rfl rfl (by kernel_rfl) (by kernel_rfl) (by kernel_rfl) (fun _ _ _ h => (nomatch h.1)) ⟨Or.inl ⟨by rfl, ?hy7⟩, fun _ => rfl⟩ ?_
                  case hy7 => (intro w; go_simp; try with_reducible rfl)
                  go_simp
                  refine wpAnyIn_take (i := 7) (v := ?v8) rfl rfl (by kernel_rfl) (by kernel_rfl) (by kernel_rfl) (fun _ _ _ h => (nomatch h.1)) ⟨Or.inl ⟨by rfl, ?hy8⟩, fun _ => rfl⟩ ?_
                  case hy8 => (intro w; go_simp; try with_reducible rfl)
                  go_simp
                  refine wpAnyIn_ready (rs := [4, 8]) (by kernel_rfl) (by simp) (AllReadyIn.cons rfl (fun K hK => ?_) (AllReadyIn.cons rfl (fun K hK => ?_) AllReadyIn.nil))
                  · go_simp
                    refine hK _ _ ?_
                    clear hK K
                    refine wpAnyIn_ready (rs := [8]) (by kernel_rfl) (by simp) (AllReadyIn.cons rfl (fun K hK => ?_) AllReadyIn.nil)
                    go_simp
                    refine hK _ _ ?_
                    clear hK K
                    refine wpAnyIn_ready (rs := [9]) (by kernel_rfl) (by simp) (AllReadyIn.cons rfl (fun K hK => ?_) AllReadyIn.nil)
                    go_simp
                    first | refine ⟨hdd _, hR.mono ?_⟩ | refine hR.mono ?_ | refine ⟨trivial, hR.mono ?_⟩ | refine ⟨trivial, hdd _, hR.mono ?_⟩
                    clear hR
                    rintro e W3 ⟨hk, ⟨rfl, hj3⟩ | ⟨rfl, hx3⟩⟩
                    · refine hK _ _ ?_
                      clear hK K
                      refine wpAnyIn_take (i := 10) (v := ?v9) rfl rfl (by kernel_rfl) (by kernel_rfl) (by kernel_rfl) (fun _ _ _ h => (nomatch h.1)) ⟨Or.inl ⟨by rfl, ?hy9⟩, fun _ => rfl⟩ ?_
                      case hy9 => (intro w; go_simp; try with_reducible rfl)
                      go_simp
                      refine wpAnyIn_done (by kernel_rfl) ?_ _
                      exact ⟨rfl, Kept.intro (.inr ⟨rfl, hk, hj3⟩)⟩
                    · refine hK _ _ ?_
                      clear hK K
                      refine wpAnyIn_take (i := 10) (v := ?v10) rfl rfl (by kernel_rfl) (by kernel_rfl) (by kernel_rfl) (fun _ _ _ h => (nomatch h.1)) ⟨Or.inl ⟨by rfl, ?hy10⟩, fun _ => rfl⟩ ?_
                      case hy10 => (intro w; go_simp; try with_reducible rfl)
                      go_simp
                      refine wpAnyIn_done (by kernel_rfl) ?_ _
                      exact ⟨rfl, Kept.intro (.inl ⟨rfl, hk, hx3⟩)⟩
                  · go_simp
                    refine hK _ _ ?_
                    clear hK K
                    refine wpAnyIn_ready (rs := [4]) (by kernel_rfl) (by simp) (AllReadyIn.cons rfl (fun K hK => ?_) AllReadyIn.nil)
                    go_simp
                    refine hK _ _ ?_
                    clear hK K
                    refine wpAnyIn_ready (rs := [9]) (by kernel_rfl) (by simp) (AllReadyIn.cons rfl (fun K hK => ?_) AllReadyIn.nil)
                    go_simp
                    first | refine ⟨hdd _, hR.mono ?_⟩ | refine hR.mono ?_ | refine ⟨trivial, hR.mono ?_⟩ | refine ⟨trivial, hdd _, hR.mono ?_⟩
                    clear hR
                    rintro e W3 ⟨hk, ⟨rfl, hj3⟩ | ⟨rfl, hx3⟩⟩
                    · refine hK _ _ ?_
                      clear hK K
                      refine wpAnyIn_take (i := 10) (v := ?v11) rfl rfl (by kernel_rfl) (by kernel_rfl) (by kernel_rfl) (fun _ _ _ h => (nomatch h.1)) ⟨Or.inl ⟨by rfl, ?hy11⟩, fun _ => rfl⟩ ?_
                      case hy11 => (intro w; go_simp; try with_reducible rfl)
                      go_simp
                      refine wpAnyIn_done (by kernel_rfl) ?_ _
                      exact ⟨rfl, Kept.intro (.inr ⟨rfl, hk, hj3⟩)⟩
                    · refine hK _ _ ?_
                      clear hK K
                      refine wpAnyIn_take (i := 10) (v := ?v12) rfl rfl (by kernel_rfl) (by kernel_rfl) (by kernel_rfl) (fun _ _ _ h => (nomatch h.1)) ⟨Or.inl ⟨by rfl, ?hy12⟩, fun _ => rfl⟩ ?_
                      case hy12 => (intro w; go_simp; try with_reducible rfl)
                      go_simp
                      refine wpAnyIn_done (by kernel_rfl) ?_ _
                      exact ⟨rfl, Kept.intro (.inl ⟨rfl, hk, hx3⟩)⟩
              · go_simp
                refine hK _ _ ?_
                clear hK K
                refine wpAnyIn_take (i := 6) (v := ?v13) rfl rfl (by kernel_rfl) (by kernel_rfl) (by kernel_rfl) (fun _ _ _ h => (nomatch h.1)) ⟨Or.inl ⟨by rfl, ?hy13⟩, fun _ => rfl⟩ ?_
                case hy13 => (intro w; go_simp; try with_reducible rfl)
                go_simp
                refine wpAnyIn_take (i := 7) (v := ?v14) rfl rfl (by kernel_rfl) (by kernel_rfl) (by kernel_rfl) (fun _ _ _ h => (nomatch h.1)) ⟨Or.inl ⟨by rfl, ?hy14⟩, fun _ => rfl⟩ ?_
                case hy14 => (intro w; go_simp; try with_reducible rfl)
                go_simp
                refine wpAnyIn_ready (rs := [1, 8]) (by kernel_rfl) (by simp) (AllReadyIn.cons rfl (fun K hK => ?_) (AllReadyIn.cons rfl (fun K hK => ?_) AllReadyIn.nil))
                · go_simp
                  refine hK _ _ ?_
                  clear hK K
                  refine wpAnyIn_take (i := 2) (v := ?v15) rfl rfl (by kernel_rfl) (by kernel_rfl) (by kernel_rfl) (fun _ _ _ h => (nomatch h.1)) ⟨Or.inl ⟨by rfl, ?hy15⟩, fun _ => rfl⟩ ?_
                  case hy15 => (intro w; go_simp; try with_reducible rfl)
                  go_simp
                  refine wpAnyIn_take (i := 3) (v := ?v16) rfl rfl (by kernel_rfl) (by kernel_rfl) (by kernel_rfl) (fun _ _ _ h => (nomatch h.1)) ⟨Or.inl ⟨by rfl, ?hy16⟩, fun _ => rfl⟩ ?_
                  case hy16 => (intro w; go_simp; try with_reducible rfl)
                  go_simp
                  refine wpAnyIn_ready (rs := [4, 8]) (by kernel_rfl) (by simp) (AllReadyIn.cons rfl (fun K hK => ?_) (AllReadyIn.cons rfl (fun K hK => ?_) AllReadyIn.nil))
                  · go_simp
                    refine hK _ _ ?_
                    clear hK K
                    refine wpAnyIn_ready (rs := [8]) (by kernel_rfl) (by simp) (AllReadyIn.cons rfl (fun K hK => ?_) AllReadyIn.nil)
                    go_simp
                    refine hK _ _ ?_
                    clear hK K
                    refine wpAnyIn_ready (rs := [9]) (by kernel_rfl) (by simp) (AllReadyIn.cons rfl (fun K hK => ?_) AllReadyIn.nil)
                    go_simp
                    first | refine ⟨hdd _, hR.mono ?_⟩ | refine hR.mono ?_ | refine ⟨trivial, hR.mono ?_⟩ | refine ⟨trivial, hdd _, hR.mono ?_⟩
                    clear hR
                    rintro e W3 ⟨hk, ⟨rfl, hj3⟩ | ⟨rfl, hx3⟩⟩
                    · refine hK _ _ ?_
                      clear hK K
                      refine wpAnyIn_take (i := 10) (v := ?v17) rfl rfl (by kernel_rfl) (by kernel_rfl) (by kernel_rfl) (fun _ _ _ h => (nomatch h.1)) ⟨Or.inl ⟨by rfl, ?hy17⟩, fun _ => rfl⟩ ?_
                      case hy17 => (intro w; go_simp; try with_reducible rfl)
                      go_simp
                      refine wpAnyIn_done (by kernel_rfl) ?_ _
                      exact ⟨rfl, Kept.intro (.inr ⟨rfl, hk, hj3⟩)⟩
                    · refine hK _ _ ?_
                      clear hK K
                      refine wpAnyIn_take (i := 10) (v := ?v18) rfl rfl (by kernel_rfl) (by kernel_rfl) (by kernel_rfl) (fun _ _ _ h => (nomatch h.1)) ⟨Or.inl ⟨by rfl, ?hy18⟩, fun _ => rfl⟩ ?_
                      case hy18 => (intro w; go_simp; try with_reducible rfl)
                      go_simp
                      refine wpAnyIn_done (by kernel_rfl) ?_ _
                      exact ⟨rfl, Kept.intro (.inl ⟨rfl, hk, hx3⟩)⟩
                  · go_simp
                    refine hK _ _ ?_
                    clear hK K
                    refine wpAnyIn_ready (rs := [4]) (by kernel_rfl) (by simp) (AllReadyIn.cons rfl (fun K hK => ?_) AllReadyIn.nil)
                    go_simp
                    refine hK _ _ ?_
                    clear hK K
                    refine wpAnyIn_ready (rs := [9]) (by kernel_rfl) (by simp) (AllReadyIn.cons rfl (fun K hK => ?_) AllReadyIn.nil)
                    go_simp
                    first | refine ⟨hdd _, hR.mono ?_⟩ | refine hR.mono ?_ | refine ⟨trivial, hR.mono ?_⟩ | refine ⟨trivial, hdd _, hR.mono ?_⟩
                    clear hR
                    rintro e W3 ⟨hk, ⟨rfl, hj3⟩ | ⟨rfl, hx3⟩⟩
                    · refine hK _ _ ?_
                      clear hK K
                      refine wpAnyIn_take (i := 10) (v := ?v19) rfl rfl (by kernel_rfl) (by kernel_rfl) (by kernel_rfl) (fun _ _ _ h => (nomatch h.1)) ⟨Or.inl ⟨by rfl, ?hy19⟩, fun _ => rfl⟩ ?_
                      case hy19 => (intro w; go_simp; try with_reducible rfl)
                      go_simp
                      refine wpAnyIn_done (by kernel_rfl) ?_ _
                      exact ⟨rfl, Kept.intro (.inr ⟨rfl, hk, hj3⟩)⟩
                    · refine hK _ _ ?_
                      clear hK K
                      refine wpAnyIn_take (i := 10) (v := ?v20) rfl rfl (by kernel_rfl) (by kernel_rfl) (by kernel_rfl) (fun _ _ _ h => (nomatch h.1)) ⟨Or.inl ⟨by rfl, ?hy20⟩, fun _ => rfl⟩ ?_
                      case hy20 => (intro w; go_simp; try with_reducible rfl)
                      go_simp
                      refine wpAnyIn_done (by kernel_rfl) ?_ _
                      exact ⟨rfl, Kept.intro (.inl ⟨rfl, hk, hx3⟩)⟩
                · go_simp
                  refine hK _ _ ?_
                  clear hK K
                  refine wpAnyIn_ready (rs := [1]) (by kernel_rfl) (by simp) (AllReadyIn.cons rfl (fun K hK => ?_) AllReadyIn.nil)
                  go_simp
                  refine hK _ _ ?_
                  clear hK K
                  refine wpAnyIn_take (i := 2) (v := ?v21) rfl rfl (by kernel_rfl) (by kernel_rfl) (by kernel_rfl) (fun _ _ _ h => (nomatch h.1)) ⟨Or.inl ⟨by rfl, ?hy21⟩, fun _ => rfl⟩ ?_
                  case hy21 => (intro w; go_simp; try with_reducible rfl)
                  go_simp
                  refine wpAnyIn_take (i := 3) (v := ?v22) rfl rfl (by kernel_rfl) (by kernel_rfl) (by kernel_rfl) (fun _ _ _ h => (nomatch h.1)) ⟨Or.inl ⟨by rfl, ?hy22⟩, fun _ => rfl⟩ ?_
                  case hy22 => (intro w; go_simp; try with_reducible rfl)
                  go_simp
                  refine wpAnyIn_ready (rs := [4]) (by kernel_rfl) (by simp) (AllReadyIn.cons rfl (fun K hK => ?_) AllReadyIn.nil)
                  go_simp
                  refine hK _ _ ?_
                  clear hK K
                  refine wpAnyIn_ready (rs := [9]) (by kernel_rfl) (by simp) (AllReadyIn.cons rfl (fun K hK => ?_) AllReadyIn.nil)
                  go_simp
                  first | refine ⟨hdd _, hR.mono ?_⟩ | refine hR.mono ?_ | refine ⟨trivial, hR.mono ?_⟩ | refine ⟨trivial, hdd _, hR.mono ?_⟩
                  clear hR
                  rintro e W3 ⟨hk, ⟨rfl, hj3⟩ | ⟨rfl, hx3⟩⟩
                  · refine hK _ _ ?_
                    clear hK K
                    refine wpAnyIn_take (i := 10) (v := ?v23) rfl rfl (by kernel_rfl) (by kernel_rfl) (by kernel_rfl) (fun _ _ _ h => (nomatch h.1)) ⟨Or.inl ⟨by rfl, ?hy23⟩, fun _ => rfl⟩ ?_
                    case hy23 => (intro w; go_simp; try with_reducible rfl)
                    go_simp
                    refine wpAnyIn_done (by kernel_rfl) ?_ _
                    exact ⟨rfl, Kept.intro (.inr ⟨rfl, hk, hj3⟩)⟩
                  · refine hK _ _ ?_
                    clear hK K
                    refine wpAnyIn_take (i := 10) (v := ?v24) rfl rfl (by kernel_rfl) (by kernel_rfl) (by kernel_rfl) (fun _ _ _ h => (nomatch h.1)) ⟨Or.inl ⟨by rfl, ?hy24⟩, fun _ => rfl⟩ ?_
                    case hy24 => (intro w; go_simp; try with_reducible rfl)
                    go_simp
                    refine wpAnyIn_done (by kernel_rfl) ?_ _
                    exact ⟨rfl, Kept.intro (.inl ⟨rfl, hk, hx3⟩)⟩
            · go_simp
              refine hK _ _ ?_
              clear hK K
              refine wpAnyIn_take (i := 2) (v := ?v25) rfl rfl (by kernel_rfl) (by kernel_rfl) (by kernel_rfl) (fun _ _ _ h => (nomatch h.1)) ⟨Or.inl ⟨by rfl, ?hy25⟩, fun _ => rfl⟩ ?_
              case hy25 => (intro w; go_simp; try with_reducible rfl)
              go_simp
              refine wpAnyIn_take (i := 3) (v := ?v26) rfl rfl (by kernel_rfl) (by kernel_rfl) (by kernel_rfl) (fun _ _ _ h => (nomatch h.1)) ⟨Or.inl ⟨by rfl, ?hy26⟩, fun _ => rfl⟩ ?_
              case hy26 => (intro w; go_simp; try with_reducible rfl)
              go_simp
              refine wpAnyIn_ready (rs := [0, 4, 5]) (by kernel_rfl) (by simp) (AllReadyIn.cons rfl (fun K hK => ?_) (AllReadyIn.cons rfl (fun K hK => ?_) (AllReadyIn.cons rfl (fun K hK => ?_) AllReadyIn.nil)))
              · go_simp
                refine hK _ _ ?_
                clear hK K
                refine wpAnyIn_ready (rs := [4, 5]) (by kernel_rfl) (by simp) (AllReadyIn.cons rfl (fun K hK => ?_) (AllReadyIn.cons rfl (fun K hK => ?_) AllReadyIn.nil))
                · go_simp
                  refine hK _ _ ?_
                  clear hK K
                  refine wpAnyIn_ready (rs := [5]) (by kernel_rfl) (by simp) (AllReadyIn.cons rfl (fun K hK => ?_) AllReadyIn.nil)
                  go_simp
                  refine hK _ _ ?_
                  clear hK K
                  refine wpAnyIn_take (i := 6) (v := ?v27) rfl rfl (by kernel_rfl) (by kernel_rfl) (by kernel_rfl) (fun _ _ _ h => (nomatch h.1)) ⟨Or.inl ⟨by rfl, ?hy27⟩, fun _ => rfl⟩ ?_
                  case hy27 => (intro w; go_simp; try with_reducible rfl)
                  go_simp
                  refine wpAnyIn_take (i := 7) (v := ?v28) rfl rfl (by kernel_rfl) (by kernel_rfl) (by kernel_rfl) (fun _ _ _ h => (nomatch h.1)) ⟨Or.inl ⟨by rfl, ?hy28⟩, fun _ => rfl⟩ ?_
                  case hy28 => (intro w; go_simp; try with_reducible rfl)
                  go_simp
                  refine wpAnyIn_ready (rs := [8]) (by kernel_rfl) (by simp) (AllReadyIn.cons rfl (fun K hK => ?_) AllReadyIn.nil)
                  go_simp
                  refine hK _ _ ?_
                  clear hK K
                  refine wpAnyIn_ready (rs := [9]) (by kernel_rfl) (by simp) (AllReadyIn.cons rfl (fun K hK => ?_) AllReadyIn.nil)
                  go_simp
                  first | refine ⟨hdd _, hR.mono ?_⟩ | refine hR.mono ?_ | refine ⟨trivial, hR.mono ?_⟩ | refine ⟨trivial, hdd _, hR.mono ?_⟩
                  clear hR
                  rintro e W3 ⟨hk, ⟨rfl, hj3⟩ | ⟨rfl, hx3⟩⟩
                  · refine hK _ _ ?_
                    clear hK K
                    refine wpAnyIn_take (i := 10) (v := ?v29) rfl rfl (by kernel_rfl) (by kernel_rfl) (by kernel_rfl) (fun _ _ _ h => (nomatch h.1)) ⟨Or.inl ⟨by rfl, ?hy29⟩, fun _ => rfl⟩ ?_
                    case hy29 => (intro w; go_simp; try with_reducible rfl)
                    go_simp
                    refine wpAnyIn_done (by kernel_rfl) ?_ _
                    exact ⟨rfl, Kept.intro (.inr ⟨rfl, hk, hj3⟩)⟩
                  · refine hK _ _ ?_
                    clear hK K
                    refine wpAnyIn_take (i := 10) (v := ?v30) rfl rfl (by kernel_rfl) (by kernel_rfl) (by kernel_rfl) (fun _ _ _ h => (nomatch h.1)) ⟨Or.inl ⟨by rfl, ?hy30⟩, fun _ => rfl⟩ ?_
                    case hy30 => (intro w; go_simp; try with_reducible rfl)
                    go_simp
                    refine wpAnyIn_done (by kernel_rfl) ?_ _
                    exact ⟨rfl, Kept.intro (.inl ⟨rfl, hk, hx3⟩)⟩
                · go_simp
                  refine hK _ _ ?_
                  clear hK K
                  refine wpAnyIn_take (i := 6) (v := ?v31) rfl rfl (by kernel_rfl) (by kernel_rfl) (by kernel_rfl) (fun _ _ _ h => (nomatch h.1)) ⟨Or.inl ⟨by rfl, ?hy31⟩, fun _ => rfl⟩ ?_
                  case hy31 => (intro w; go_simp; try with_reducible rfl)
                  go_simp
                  refine wpAnyIn_take (i := 7) (v := ?v32) rfl rfl (by kernel_rfl) (by kernel_rfl) (by kernel_rfl) (fun _ _ _ h => (nomatch h.1)) ⟨Or.inl ⟨by rfl, ?hy32⟩, fun _ => rfl⟩ ?_
                  case hy32 => (intro w; go_simp; try with_reducible rfl)
                  go_simp
                  refine wpAnyIn_ready (rs := [4, 8]) (by kernel_rfl) (by simp) (AllReadyIn.cons rfl (fun K hK => ?_) (AllReadyIn.cons rfl (fun K hK => ?_) AllReadyIn.nil))
                  · go_simp
                    refine hK _ _ ?_
                    clear hK K
                    refine wpAnyIn_ready (rs := [8]) (by kernel_rfl) (by simp) (AllReadyIn.cons rfl (fun K hK => ?_) AllReadyIn.nil)
                    go_simp
                    refine hK _ _ ?_
                    clear hK K
                    refine wpAnyIn_ready (rs := [9]) (by kernel_rfl) (by simp) (AllReadyIn.cons rfl (fun K hK => ?_) AllReadyIn.nil)
                    go_simp
                    first | refine ⟨hdd _, hR.mono ?_⟩ | refine hR.mono ?_ | refine ⟨trivial, hR.mono ?_⟩ | refine ⟨trivial, hdd _, hR.mono ?_⟩
                    clear hR
                    rintro e W3 ⟨hk, ⟨rfl, hj3⟩ | ⟨rfl, hx3⟩⟩
                    · refine hK _ _ ?_
                      clear hK K
                      refine wpAnyIn_take (i := 10) (v := ?v33) rfl rfl (by kernel_rfl) (by kernel_rfl) (by kernel_rfl) (fun _ _ _ h => (nomatch h.1)) ⟨Or.inl ⟨by rfl, ?hy33⟩, fun _ => rfl⟩ ?_
                      case hy33 => (intro w; go_simp; try with_reducible rfl)
                      go_simp
                      refine wpAnyIn_done (by kernel_rfl) ?_ _
                      exact ⟨rfl, Kept.intro (.inr ⟨rfl, hk, hj3⟩)⟩
                    · refine hK _ _ ?_
                      clear hK K
                      refine wpAnyIn_take (i := 10) (v := ?v34) rfl rfl (by kernel_rfl) (by kernel_rfl) (by kernel_rfl) (fun _ _ _ h => (nomatch h.1)) ⟨Or.inl ⟨by rfl, ?hy34⟩, fun _ => rfl⟩ ?_
                      case hy34 => (intro w; go_simp; try with_reducible rfl)
                      go_simp
                      refine wpAnyIn_done (by kernel_rfl) ?_ _
                      exact ⟨rfl, Kept.intro (.inl ⟨rfl, hk, hx3⟩)⟩
                  · go_simp
                    refine hK _ _ ?_
                    clear hK K
                    refine wpAnyIn_ready (rs := [4]) (by kernel_rfl) (by simp) (AllReadyIn.cons rfl (fun K hK => ?_) AllReadyIn.nil)
                    go_simp
                    refine hK _ _ ?_
                    clear hK K
                    refine wpAnyIn_ready (rs := [9]) (by kernel_rfl) (by simp) (AllReadyIn.cons rfl (fun K hK => ?_) AllReadyIn.nil)
                    go_simp
                    first | refine ⟨hdd _, hR.mono ?_⟩ | refine hR.mono ?_ | refine ⟨trivial, hR.mono ?_⟩ | refine ⟨trivial, hdd _, hR.mono ?_⟩
                    clear hR
                    rintro e W3 ⟨hk, ⟨rfl, hj3⟩ | ⟨rfl, hx3⟩⟩
                    · refine hK _ _ ?_
                      clear hK K
                      refine wpAnyIn_take (i := 10) (v := ?v35) rfl rfl (by kernel_rfl) (by kernel_rfl) (by kernel_rfl) (fun _ _ _ h => (nomatch h.1)) ⟨Or.inl ⟨by rfl, ?hy35⟩, fun _ => rfl⟩ ?_
                      case hy35 => (intro w; go_simp; try with_reducible rfl)
                      go_simp
                      refine wpAnyIn_done (by kernel_rfl) ?_ _
                      exact ⟨rfl, Kept.intro (.inr ⟨rfl, hk, hj3⟩)⟩
                    · refine hK _ _ ?_
                      clear hK K
                      refine wpAnyIn_take (i := 10) (v := ?v36) rfl rfl (by kernel_rfl) (by kernel_rfl) (by kernel_rfl) (fun _ _ _ h => (nomatch h.1)) ⟨Or.inl ⟨by rfl, ?hy36⟩, fun _ => rfl⟩ ?_
                      case hy36 => (intro w; go_simp; try with_reducible rfl)
                      go_simp
                      refine wpAnyIn_done (by kernel_rfl) ?_ _
                      exact ⟨rfl, Kept.intro (.inl ⟨rfl, hk, hx3⟩)⟩
              · go_simp
                refine hK _ _ ?_
                clear hK K
                refine wpAnyIn_ready (rs := [0, 5]) (by kernel_rfl) (by simp) (AllReadyIn.cons rfl (fun K hK => ?_) (AllReadyIn.cons rfl (fun K hK => ?_) AllReadyIn.nil))
                · go_simp
                  refine hK _ _ ?_
                  clear hK K
                  refine wpAnyIn_ready (rs := [5]) (by kernel_rfl) (by simp) (AllReadyIn.cons rfl (fun K hK => ?_) AllReadyIn.nil)
                  go_simp
                  refine hK _ _ ?_
                  clear hK K
                  refine wpAnyIn_take (i := 6) (v := ?v37) rfl rfl (by kernel_rfl) (by kernel_rfl) (by kernel_rfl) (fun _ _ _ h => (nomatch h.1)) ⟨Or.inl ⟨by rfl, ?hy37⟩, fun _ => rfl⟩ ?_
                  case hy37 => (intro w; go_simp; try with_reducible rfl)
                  go_simp
                  refine wpAnyIn_take (i := 7) (v := ?v38) rfl rfl (by kernel_rfl) (by kernel_rfl) (by kernel_rfl) (fun _ _ _ h => (nomatch h.1)) ⟨Or.inl ⟨by rfl, ?hy38⟩, fun _ => rfl⟩ ?_
                  case hy38 => (intro w; go_simp; try with_reducible rfl)
                  go_simp
                  refine wpAnyIn_ready (rs := [8]) (by kernel_rfl) (by simp) (AllReadyIn.cons rfl (fun K hK => ?_) AllReadyIn.nil)
                  go_simp
                  refine hK _ _ ?_
                  clear hK K
                  refine wpAnyIn_ready (rs := [9]) (by kernel_rfl) (by simp) (AllReadyIn.cons rfl (fun K hK => ?_) AllReadyIn.nil)
                  go_simp
                  first | refine ⟨hdd _, hR.mono ?_⟩ | refine hR.mono ?_ | refine ⟨trivial, hR.mono ?_⟩ | refine ⟨trivial, hdd _, hR.mono ?_⟩
                  clear hR
                  rintro e W3 ⟨hk, ⟨rfl, hj3⟩ | ⟨rfl, hx3⟩⟩
                  · refine hK _ _ ?_
                    clear hK K
                    refine wpAnyIn_take (i := 10) (v := ?v39) rfl rfl (by kernel_rfl) (by kernel_rfl) (by kernel_rfl) (fun _ _ _ h => (nomatch h.1)) ⟨Or.inl ⟨by rfl, ?hy39⟩, fun _ => rfl⟩ ?_
                    case hy39 => (intro w; go_simp; try with_reducible rfl)
                    go_simp
                    refine wpAnyIn_done (by kernel_rfl) ?_ _
                    exact ⟨rfl, Kept.intro (.inr ⟨rfl, hk, hj3⟩)⟩
                  · refine hK _ _ ?_
                    clear hK K
                    refine wpAnyIn_take (i := 10) (v := ?v40) rfl rfl (by kernel_rfl) (by kernel_rfl) (by kernel_rfl) (fun _ _ _ h => (nomatch h.1)) ⟨Or.inl ⟨by rfl, ?hy40⟩, fun _ => rfl⟩ ?_
                    case hy40 => (intro w; go_simp; try with_reducible rfl)
                    go_simp
                    refine wpAnyIn_done (by kernel_rfl) ?_ _
                    exact ⟨rfl, Kept.intro (.inl ⟨rfl, hk, hx3⟩)⟩
                · go_simp
                  refine hK _ _ ?_
                  clear hK K
                  refine wpAnyIn_take (i := 6) (v := ?v41) rfl rfl (by kernel_rfl) (by kernel_rfl) (by kernel_rfl) (fun _ _ _ h => (nomatch h.1)) ⟨Or.inl ⟨by rfl, ?hy41⟩, fun _ => rfl⟩ ?_
                  case hy41 => (intro w; go_simp; try with_reducible rfl)
                  go_simp
                  refine wpAnyIn_take (i := 7) (v := ?v42) rfl rfl (by kernel_rfl) (by kernel_rfl) (by kernel_rfl) (fun _ _ _ h => (nomatch h.1)) ⟨Or.inl ⟨by rfl, ?hy42⟩, fun _ => rfl⟩ ?_
                  case hy42 => (intro w; go_simp; try with_reducible rfl)
                  go_simp
                  refine wpAnyIn_ready (rs := [0, 8]) (by kernel_rfl) (by simp) (AllReadyIn.cons rfl (fun K hK => ?_) (AllReadyIn.cons rfl (fun K hK => ?_) AllReadyIn.nil))
                  · go_simp
                    refine hK _ _ ?_
                    clear hK K
                    refine wpAnyIn_ready (rs := [8]) (by kernel_rfl) (by simp) (AllReadyIn.cons rfl (fun K hK => ?_) AllReadyIn.nil)
                    go_simp
                    refine hK _ _ ?_
                    clear hK K
                    refine wpAnyIn_ready (rs := [9]) (by kernel_rfl) (by simp) (AllReadyIn.cons rfl (fun K hK => ?_) AllReadyIn.nil)
                    go_simp
                    first | refine ⟨hdd _, hR.mono ?_⟩ | refine hR.mono ?_ | refine ⟨trivial, hR.mono ?_⟩ | refine ⟨trivial, hdd _, hR.mono ?_⟩
                    clear hR
                    rintro e W3 ⟨hk, ⟨rfl, hj3⟩ | ⟨rfl, hx3⟩⟩
                    · refine hK _ _ ?_
                      clear hK K
                      refine wpAnyIn_take (i := 10) (v := ?v43) rfl rfl (by kernel_rfl) (by kernel_rfl) (by kernel_rfl) (fun _ _ _ h => (nomatch h.1)) ⟨Or.inl ⟨by rfl, ?hy43⟩, fun _ => rfl⟩ ?_
                      case hy43 => (intro w; go_simp; try with_reducible rfl)
                      go_simp
                      refine wpAnyIn_done (by kernel_rfl) ?_ _
                      exact ⟨rfl, Kept.intro (.inr ⟨rfl, hk, hj3⟩)⟩
                    · refine hK _ _ ?_
                      clear hK K
                      refine wpAnyIn_take (i := 10) (v := ?v44) rfl rfl (by kernel_rfl) (by kernel_rfl) (by kernel_rfl) (fun _ _ _ h => (nomatch h.1)) ⟨Or.inl ⟨by rfl, ?hy44⟩, fun _ => rfl⟩ ?_
                      case hy44 => (intro w; go_simp; try with_reducible rfl)
                      go_simp
                      refine wpAnyIn_done (by kernel_rfl) ?_ _
                      exact ⟨rfl, Kept.intro (.inl ⟨rfl, hk, hx3⟩)⟩
                  · go_simp
                    refine hK _ _ ?_
                    clear hK K
                    refine wpAnyIn_ready (rs := [0]) (by kernel_rfl) (by simp) (AllReadyIn.cons rfl (fun K hK => ?_) AllReadyIn.nil)
                    go_simp
                    refine hK _ _ ?_
                    clear hK K
                    refine wpAnyIn_ready (rs := [9]) (by kernel_rfl) (by simp) (AllReadyIn.cons rfl (fun K hK => ?_) AllReadyIn.nil)
                    go_simp
                    first | refine ⟨hdd _, hR.mono ?_⟩ | refine hR.mono ?_ | refine ⟨trivial, hR.mono ?_⟩ | refine ⟨trivial, hdd _, hR.mono ?_⟩
                    clear hR
                    rintro e W3 ⟨hk, ⟨rfl, hj3⟩ | ⟨rfl, hx3⟩⟩
                    · refine hK _ _ ?_
                      clear hK K
                      refine wpAnyIn_take (i := 10) (v := ?v45) rfl rfl (by kernel_rfl) (by kernel_rfl) (by kernel_rfl) (fun _ _ _ h => (nomatch h.1)) ⟨Or.inl ⟨by rfl, ?hy45⟩, fun _ => rfl⟩ ?_
                      case hy45 => (intro w; go_simp; try with_reducible rfl)
                      go_simp
                      refine wpAnyIn_done (by kernel_rfl) ?_ _
                      exact ⟨rfl, Kept.intro (.inr ⟨rfl, hk, hj3⟩)⟩
                    · refine hK _ _ ?_
                      clear hK K
                      refine wpAnyIn_take (i := 10) (v := ?v46) rfl rfl (by kernel_rfl) (by kernel_rfl) (by kernel_rfl) (fun _ _ _ h => (nomatch h.1)) ⟨Or.inl ⟨by rfl, ?hy46⟩, fun _ => rfl⟩ ?_
                      case hy46 => (intro w; go_simp; try with_reducible rfl)
                      go_simp
                      refine wpAnyIn_done (by kernel_rfl) ?_ _
                      exact ⟨rfl, Kept.intro (.inl ⟨rfl, hk, hx3⟩)⟩
              · go_simp
                refine hK _ _ ?_
                clear hK K
                refine wpAnyIn_take (i := 6) (v := ?v47) rfl rfl (by kernel_rfl) (by kernel_rfl) (by kernel_rfl) (fun _ _ _ h => (nomatch h.1)) ⟨Or.inl ⟨by rfl, ?hy47⟩, fun _ => rfl⟩ ?_
                case hy47 => (intro w; go_simp; try with_reducible rfl)
                go_simp
                refine wpAnyIn_take (i := 7) (v := ?v48) rfl rfl (by kernel_rfl) (by kernel_rfl) (by kernel_rfl) (fun _ _ _ h => (nomatch h.1)) ⟨Or.inl ⟨by rfl, ?hy48⟩, fun _ => rfl⟩ ?_
                case hy48 => (intro w; go_simp; try with_reducible rfl)
                go_simp
                refine wpAnyIn_ready (rs := [0, 4, 8]) (by kernel_rfl) (by simp) (AllReadyIn.cons rfl (fun K hK => ?_) (AllReadyIn.cons rfl (fun K hK => ?_) (AllReadyIn.cons rfl (fun K hK => ?_) AllReadyIn.nil)))
                · go_simp
                  refine hK _ _ ?_
                  clear hK K
                  refine wpAnyIn_ready (rs := [4, 8]) (by kernel_rfl) (by simp) (AllReadyIn.cons rfl (fun K hK => ?_) (AllReadyIn.cons rfl (fun K hK => ?_) AllReadyIn.nil))
                  · go_simp
                    refine hK _ _ ?_
                    clear hK K
                    refine wpAnyIn_ready (rs := [8]) (by kernel_rfl) (by simp) (AllReadyIn.cons rfl (fun K hK => ?_) AllReadyIn.nil)
                    go_simp
                    refine hK _ _ ?_
                    clear hK K
                    refine wpAnyIn_ready (rs := [9]) (by kernel_rfl) (by simp) (AllReadyIn.cons rfl (fun K hK => ?_) AllReadyIn.nil)
                    go_simp
                    first | refine ⟨hdd _, hR.mono ?_⟩ | refine hR.mono ?_ | refine ⟨trivial, hR.mono ?_⟩ | refine ⟨trivial, hdd _, hR.mono ?_⟩
                    clear hR
                    rintro e W3 ⟨hk, ⟨rfl, hj3⟩ | ⟨rfl, hx3⟩⟩
                    · refine hK _ _ ?_
                      clear hK K
                      refine wpAnyIn_take (i := 10) (v := ?v49) rfl rfl (by kernel_rfl) (by kernel_rfl) (by kernel_rfl) (fun _ _ _ h => (nomatch h.1)) ⟨Or.inl ⟨by rfl, ?hy49⟩, fun _ => rfl⟩ ?_
                      case hy49 => (intro w; go_simp; try with_reducible rfl)
                      go_simp
                      refine wpAnyIn_done (by kernel_rfl) ?_ _
                      exact ⟨rfl, Kept.intro (.inr ⟨rfl, hk, hj3⟩)⟩
                    · refine hK _ _ ?_
                      clear hK K
                      refine wpAnyIn_take (i := 10) (v := ?v50) rfl rfl (by kernel_rfl) (by kernel_rfl) (by kernel_rfl) (fun _ _ _ h => (nomatch h.1)) ⟨Or.inl ⟨by rfl, ?hy50⟩, fun _ => rfl⟩ ?_
                      case hy50 => (intro w; go_simp; try with_reducible rfl)
                      go_simp
                      refine wpAnyIn_done (by kernel_rfl) ?_ _
                      exact ⟨rfl, Kept.intro (.inl ⟨rfl, hk, hx3⟩)⟩
                  · go_simp
                    refine hK _ _ ?_
                    clear hK K
                    refine wpAnyIn_ready (rs := [4]) (by kernel_rfl) (by simp) (AllReadyIn.cons rfl (fun K hK => ?_) AllReadyIn.nil)
                    go_simp
                    refine hK _ _ ?_
                    clear hK K
                    refine wpAnyIn_ready (rs := [9]) (by kernel_rfl) (by simp) (AllReadyIn.cons rfl (fun K hK => ?_) AllReadyIn.nil)
                    go_simp
                    first | refine ⟨hdd _, hR.mono ?_⟩ | refine hR.mono ?_ | refine ⟨trivial, hR.mono ?_⟩ | refine ⟨trivial, hdd _, hR.mono ?_⟩
                    clear hR
                    rintro e W3 ⟨hk, ⟨rfl, hj3⟩ | ⟨rfl, hx3⟩⟩
                    · refine hK _ _ ?_
                      clear hK K
                      refine wpAnyIn_take (i := 10) (v := ?v51) rfl rfl (by kernel_rfl) (by kernel_rfl) (by kernel_rfl) (fun _ _ _ h => (nomatch h.1)) ⟨Or.inl ⟨by rfl, ?hy51⟩, fun _ => rfl⟩ ?_
                      case hy51 => (intro w; go_simp; try with_reducible rfl)
                      go_simp
                      refine wpAnyIn_done (by kernel_rfl) ?_ _
                      exact ⟨rfl, Kept.intro (.inr ⟨rfl, hk, hj3⟩)⟩
                    · refine hK _ _ ?_
                      clear hK K
                      refine wpAnyIn_take (i := 10) (v := ?v52) rfl rfl (by kernel_rfl) (by kernel_rfl) (by kernel_rfl) (fun _ _ _ h => (nomatch h.1)) ⟨Or.inl ⟨by rfl, ?hy52⟩, fun _ => rfl⟩ ?_
                      case hy52 => (intro w; go_simp; try with_reducible rfl)
                      go_simp
                      refine wpAnyIn_done (by kernel_rfl) ?_ _
                      exact ⟨rfl, Kept.intro (.inl ⟨rfl, hk, hx3⟩)⟩
                · go_simp
                  refine hK _ _ ?_
                  clear hK K
                  refine wpAnyIn_ready (rs := [0, 8]) (by kernel_rfl) (by simp) (AllReadyIn.cons rfl (fun K hK => ?_) (AllReadyIn.cons rfl (fun K hK => ?_) AllReadyIn.nil))
                  · go_simp
                    refine hK _ _ ?_
                    clear hK K
                    refine wpAnyIn_ready (rs := [8]) (by kernel_rfl) (by simp) (AllReadyIn.cons rfl (fun K hK => ?_) AllReadyIn.nil)
                    go_simp
                    refine hK _ _ ?_
                    clear hK K
                    refine wpAnyIn_ready (rs := [9]) (by kernel_rfl) (by simp) (AllReadyIn.cons rfl (fun K hK => ?_) AllReadyIn.nil)
                    go_simp
                    first | refine ⟨hdd _, hR.mono ?_⟩ | refine hR.mono ?_ | refine ⟨trivial, hR.mono ?_⟩ | refine ⟨trivial, hdd _, hR.mono ?_⟩
                    clear hR
                    rintro e W3 ⟨hk, ⟨rfl, hj3⟩ | ⟨rfl, hx3⟩⟩
                    · refine hK _ _ ?_
                      clear hK K
                      refine wpAnyIn_take (i := 10) (v := ?v53) rfl rfl (by kernel_rfl) (by kernel_rfl) (by kernel_rfl) (fun _ _ _ h => (nomatch h.1)) ⟨Or.inl ⟨by rfl, ?hy53⟩, fun _ => rfl⟩ ?_
                      case hy53 => (intro w; go_simp; try with_reducible rfl)
                      go_simp
                      refine wpAnyIn_done (by kernel_rfl) ?_ _
                      exact ⟨rfl, Kept.intro (.inr ⟨rfl, hk, hj3⟩)⟩
                    · refine hK _ _ ?_
                      clear hK K
                      refine wpAnyIn_take (i := 10) (v := ?v54) rfl rfl (by kernel_rfl) (by kernel_rfl) (by kernel_rfl) (fun _ _ _ h => (nomatch h.1)) ⟨Or.inl ⟨by rfl, ?hy54⟩, fun _ => rfl⟩ ?_
                      case hy54 => (intro w; go_simp; try with_reducible rfl)
                      go_simp
                      refine wpAnyIn_done (by kernel_rfl) ?_ _
                      exact ⟨rfl, Kept.intro (.inl ⟨rfl, hk, hx3⟩)⟩
                  · go_simp
                    refine hK _ _ ?_
                    clear hK K
                    refine wpAnyIn_ready (rs := [0]) (by kernel_rfl) (by simp) (AllReadyIn.cons rfl (fun K hK => ?_) AllReadyIn.nil)
                    go_simp
                    refine hK _ _ ?_
                    clear hK K
                    refine wpAnyIn_ready (rs := [9]) (by kernel_rfl) (by simp) (AllReadyIn.cons rfl (fun K hK => ?_) AllReadyIn.nil)
                    go_simp
                    first | refine ⟨hdd _, hR.mono ?_⟩ | refine hR.mono ?_ | refine ⟨trivial, hR.mono ?_⟩ | refine ⟨trivial, hdd _, hR.mono ?_⟩
                    clear hR
                    rintro e W3 ⟨hk, ⟨rfl, hj3⟩ | ⟨rfl, hx3⟩⟩
                    · refine hK _ _ ?_
                      clear hK K
                      refine wpAnyIn_take (i := 10) (v := ?v55) rfl rfl (by kernel_rfl) (by kernel_rfl) (by kernel_rfl) (fun _ _ _ h => (nomatch h.1)) ⟨Or.inl ⟨by rfl, ?hy55⟩, fun _ => rfl⟩ ?_
                      case hy55 => (intro w; go_simp; try with_reducible rfl)
                      go_simp
                      refine wpAnyIn_done (by kernel_rfl) ?_ _
                      exact ⟨rfl, Kept.intro (.inr ⟨rfl, hk, hj3⟩)⟩
                    · refine hK _ _ ?_
                      clear hK K
                      refine wpAnyIn_take (i := 10) (v := ?v56) rfl rfl (by kernel_rfl) (by kernel_rfl) (by kernel_rfl) (fun _ _ _ h => (nomatch h.1)) ⟨Or.inl ⟨by rfl, ?hy56⟩, fun _ => rfl⟩ ?_
                      case hy56 => (intro w; go_simp; try with_reducible rfl)
                      go_simp
                      refine wpAnyIn_done (by kernel_rfl) ?_ _
                      exact ⟨rfl, Kept.intro (.inl ⟨rfl, hk, hx3⟩)⟩
                · go_simp
                  refine hK _ _ ?_
                  clear hK K
                  refine wpAnyIn_ready (rs := [0, 4]) (by kernel_rfl) (by simp) (AllReadyIn.cons rfl (fun K hK => ?_) (AllReadyIn.cons rfl (fun K hK => ?_) AllReadyIn.nil))
                  · go_simp
                    refine hK _ _ ?_
                    clear hK K
                    refine wpAnyIn_ready (rs := [4]) (by kernel_rfl) (by simp) (AllReadyIn.cons rfl (fun K hK => ?_) AllReadyIn.nil)
                    go_simp
                    refine hK _ _ ?_
                    clear hK K
                    refine wpAnyIn_ready (rs := [9]) (by kernel_rfl) (by simp) (AllReadyIn.cons rfl (fun K hK => ?_) AllReadyIn.nil)
                    go_simp
                    first | refine ⟨hdd _, hR.mono ?_⟩ | refine hR.mono ?_ | refine ⟨trivial, hR.mono ?_⟩ | refine ⟨trivial, hdd _, hR.mono ?_⟩
                    clear hR
                    rintro e W3 ⟨hk, ⟨rfl, hj3⟩ | ⟨rfl, hx3⟩⟩
                    · refine hK _ _ ?_
                      clear hK K
                      refine wpAnyIn_take (i := 10) (v := ?v57) rfl rfl (by kernel_rfl) (by kernel_rfl) (by kernel_rfl) (fun _ _ _ h => (nomatch h.1)) ⟨Or.inl ⟨by rfl, ?hy57⟩, fun _ => rfl⟩ ?_
                      case hy57 => (intro w; go_simp; try with_reducible rfl)
                      go_simp
                      refine wpAnyIn_done (by kernel_rfl) ?_ _
                      exact ⟨rfl, Kept.intro (.inr ⟨rfl, hk, hj3⟩)⟩
                    · refine hK _ _ ?_
                      clear hK K
                      refine wpAnyIn_take (i := 10) (v := ?v58) rfl rfl (by kernel_rfl) (by kernel_rfl) (by kernel_rfl) (fun _ _ _ h => (nomatch h.1)) ⟨Or.inl ⟨by rfl, ?hy58⟩, fun _ => rfl⟩ ?_
                      case hy58 => (intro w; go_simp; try with_reducible rfl)
                      go_simp
                      refine wpAnyIn_done (by kernel_rfl) ?_ _
                      exact ⟨rfl, Kept.intro (.inl ⟨rfl, hk, hx3⟩)⟩
                  · go_simp
                    refine hK _ _ ?_
                    clear hK K
                    refine wpAnyIn_ready (rs := [0]) (by kernel_rfl) (by simp) (AllReadyIn.cons rfl (fun K hK => ?_) AllReadyIn.nil)
                    go_simp
                    refine hK _ _ ?_
                    clear hK K
                    refine wpAnyIn_ready (rs := [9]) (by kernel_rfl) (by simp) (AllReadyIn.cons rfl (fun K hK => ?_) AllReadyIn.nil)
                    go_simp
                    first | refine ⟨hdd _, hR.mono ?_⟩ | refine hR.mono ?_ | refine ⟨trivial, hR.mono ?_⟩ | refine ⟨trivial, hdd _, hR.mono ?_⟩
                    clear hR
                    rintro e W3 ⟨hk, ⟨rfl, hj3⟩ | ⟨rfl, hx3⟩⟩
                    · refine hK _ _ ?_
                      clear hK K
                      refine wpAnyIn_take (i := 10) (v := ?v59) rfl rfl (by kernel_rfl) (by kernel_rfl) (by kernel_rfl) (fun _ _ _ h => (nomatch h.1)) ⟨Or.inl ⟨by rfl, ?hy59⟩, fun _ => rfl⟩ ?_
                      case hy59 => (intro w; go_simp; try with_reducible rfl)
                      go_simp
                      refine wpAnyIn_done (by kernel_rfl) ?_ _
                      exact ⟨rfl, Kept.intro (.inr ⟨rfl, hk, hj3⟩)⟩
                    · refine hK _ _ ?_
                      clear hK K
                      refine wpAnyIn_take (i := 10) (v := ?v60) rfl rfl (by kernel_rfl) (by kernel_rfl) (by kernel_rfl) (fun _ _ _ h => (nomatch h.1)) ⟨Or.inl ⟨by rfl, ?hy60⟩, fun _ => rfl⟩ ?_
                      case hy60 => (intro w; go_simp; try with_reducible rfl)
                      go_simp
                      refine wpAnyIn_done (by kernel_rfl) ?_ _
                      exact ⟨rfl, Kept.intro (.inl ⟨rfl, hk, hx3⟩)⟩
            · go_simp
              refine hK _ _ ?_
              clear hK K
              refine wpAnyIn_take (i := 6) (v := ?v61) rfl rfl (by kernel_rfl) (by kernel_rfl) (by kernel_rfl) (fun _ _ _ h => (nomatch h.1)) ⟨Or.inl ⟨by rfl, ?hy61⟩, fun _ => rfl⟩ ?_
              case hy61 => (intro w; go_simp; try with_reducible rfl)
              go_simp
              refine wpAnyIn_take (i := 7) (v := ?v62) rfl rfl (by kernel_rfl) (by kernel_rfl) (by kernel_rfl) (fun _ _ _ h => (nomatch h.1)) ⟨Or.inl ⟨by rfl, ?hy62⟩, fun _ => rfl⟩ ?_
              case hy62 => (intro w; go_simp; try with_reducible rfl)
              go_simp
              refine wpAnyIn_ready (rs := [0, 1, 8]) (by kernel_rfl) (by simp) (AllReadyIn.cons rfl (fun K hK => ?_) (AllReadyIn.cons rfl (fun K hK => ?_) (AllReadyIn.cons rfl (fun K hK => ?_) AllReadyIn.nil)))
              · go_simp
                refine hK _ _ ?_
                clear hK K
                refine wpAnyIn_ready (rs := [1, 8]) (by kernel_rfl) (by simp) (AllReadyIn.cons rfl (fun K hK => ?_) (AllReadyIn.cons rfl (fun K hK => ?_) AllReadyIn.nil))
                · go_simp
                  refine hK _ _ ?_
                  clear hK K
                  refine wpAnyIn_take (i := 2) (v := ?v63) rfl rfl (by kernel_rfl) (by kernel_rfl) (by kernel_rfl) (fun _ _ _ h => (nomatch h.1)) ⟨Or.inl ⟨by rfl, ?hy63⟩, fun _ => rfl⟩ ?_
                  case hy63 => (intro w; go_simp; try with_reducible rfl)
                  go_simp
                  refine wpAnyIn_take (i := 3) (v := ?v64) rfl rfl (by kernel_rfl) (by kernel_rfl) (by kernel_rfl) (fun _ _ _ h => (nomatch h.1)) ⟨Or.inl ⟨by rfl, ?hy64⟩, fun _ => rfl⟩ ?_
                  case hy64 => (intro w; go_simp; try with_reducible rfl)
                  go_simp
                  refine wpAnyIn_ready (rs := [4, 8]) (by kernel_rfl) (by simp) (AllReadyIn.cons rfl (fun K hK => ?_) (AllReadyIn.cons rfl (fun K hK => ?_) AllReadyIn.nil))
                  · go_simp
                    refine hK _ _ ?_
                    clear hK K
                    refine wpAnyIn_ready (rs := [8]) (by kernel_rfl) (by simp) (AllReadyIn.cons rfl (fun K hK => ?_) AllReadyIn.nil)
                    go_simp
                    refine hK _ _ ?_
                    clear hK K
                    refine wpAnyIn_ready (rs := [9]) (by kernel_rfl) (by simp) (AllReadyIn.cons rfl (fun K hK => ?_) AllReadyIn.nil)
                    go_simp
                    first | refine ⟨hdd _, hR.mono ?_⟩ | refine hR.mono ?_ | refine ⟨trivial, hR.mono ?_⟩ | refine ⟨trivial, hdd _, hR.mono ?_⟩
                    clear hR
                    rintro e W3 ⟨hk, ⟨rfl, hj3⟩ | ⟨rfl, hx3⟩⟩
                    · refine hK _ _ ?_
                      clear hK K
                      refine wpAnyIn_take (i := 10) (v := ?v65) rfl rfl (by kernel_rfl) (by kernel_rfl) (by kernel_rfl) (fun _ _ _ h => (nomatch h.1)) ⟨Or.inl ⟨by rfl, ?hy65⟩, fun _ => rfl⟩ ?_
                      case hy65 => (intro w; go_simp; try with_reducible rfl)
                      go_simp
                      refine wpAnyIn_done (by kernel_rfl) ?_ _
                      exact ⟨rfl, Kept.intro (.inr ⟨rfl, hk, hj3⟩)⟩
                    · refine hK _ _ ?_
                      clear hK K
                      refine wpAnyIn_take (i := 10) (v := ?v66) rfl rfl (by kernel_rfl) (by kernel_rfl) (by kernel_rfl) (fun _ _ _ h => (nomatch h.1)) ⟨Or.inl ⟨by rfl, ?hy66⟩, fun _ => rfl⟩ ?_
                      case hy66 => (intro w; go_simp; try with_reducible rfl)
                      go_simp
                      refine wpAnyIn_done (by kernel_rfl) ?_ _
                      exact ⟨rfl, Kept.intro (.inl ⟨rfl, hk, hx3⟩)⟩
                  · go_simp
                    refine hK _ _ ?_
                    clear hK K
                    refine wpAnyIn_ready (rs := [4]) (by kernel_rfl) (by simp) (AllReadyIn.cons rfl (fun K hK => ?_) AllReadyIn.nil)
                    go_simp
                    refine hK _ _ ?_
                    clear hK K
                    refine wpAnyIn_ready (rs := [9]) (by kernel_rfl) (by simp) (AllReadyIn.cons rfl (fun K hK => ?_) AllReadyIn.nil)
                    go_simp
                    first | refine ⟨hdd _, hR.mono ?_⟩ | refine hR.mono ?_ | refine ⟨trivial, hR.mono ?_⟩ | refine ⟨trivial, hdd _, hR.mono ?_⟩
                    clear hR
                    rintro e W3 ⟨hk, ⟨rfl, hj3⟩ | ⟨rfl, hx3⟩⟩
                    · refine hK _ _ ?_
                      clear hK K
                      refine wpAnyIn_take (i := 10) (v := ?v67) rfl rfl (by kernel_rfl) (by kernel_rfl) (by kernel_rfl) (fun _ _ _ h => (nomatch h.1)) ⟨Or.inl ⟨by rfl, ?hy67⟩, fun _ => rfl⟩ ?_
                      case hy67 => (intro w; go_simp; try with_reducible rfl)
                      go_simp
                      refine wpAnyIn_done (by kernel_rfl) ?_ _
                      exact ⟨rfl, Kept.intro (.inr ⟨rfl, hk, hj3⟩)⟩
                    · refine hK _ _ ?_
                      clear hK K
                      refine wpAnyIn_take (i := 10) (v := ?v68) rfl rfl (by kernel_rfl) (by kernel_rfl) (by kernel_rfl) (fun _ _ _ h => (nomatch h.1)) ⟨Or.inl ⟨by rfl, ?hy68⟩, fun _ => rfl⟩ ?_
                      case hy68 => (intro w; go_simp; try with_reducible rfl)
                      go_simp
                      refine wpAnyIn_done (by kernel_rfl) ?_ _
                      exact ⟨rfl, Kept.intro (.inl ⟨rfl, hk, hx3⟩)⟩
                · go_simp
                  refine hK _ _ ?_
                  clear hK K
                  refine wpAnyIn_ready (rs := [1]) (by kernel_rfl) (by simp) (AllReadyIn.cons rfl (fun K hK => ?_) AllReadyIn.nil)
                  go_simp
                  refine hK _ _ ?_
                  clear hK K
                  refine wpAnyIn_take (i := 2) (v := ?v69) rfl rfl (by kernel_rfl) (by kernel_rfl) (by kernel_rfl) (fun _ _ _ h => (nomatch h.1)) ⟨Or.inl ⟨by rfl, ?hy69⟩, fun _ => rfl⟩ ?_
                  case hy69 => (intro w; go_simp; try with_reducible rfl)
                  go_simp
                  refine wpAnyIn_take (i := 3) (v := ?v70) rfl rfl (by kernel_rfl) (by kernel_rfl) (by kernel_rfl) (fun _ _ _ h => (nomatch h.1)) ⟨Or.inl ⟨by rfl, ?hy70⟩, fun _ => rfl⟩ ?_
                  case hy70 => (intro w; go_simp; try with_reducible rfl)
                  go_simp
                  refine wpAnyIn_ready (rs := [4]) (by kernel_rfl) (by simp) (AllReadyIn.cons rfl (fun K hK => ?_) AllReadyIn.nil)
                  go_simp
                  refine hK _ _ ?_
                  clear hK K
                  refine wpAnyIn_ready (rs := [9]) (by kernel_rfl) (by simp) (AllReadyIn.cons rfl (fun K hK => ?_) AllReadyIn.nil)
                  go_simp
                  first | refine ⟨hdd _, hR.mono ?_⟩ | refine hR.mono ?_ | refine ⟨trivial, hR.mono ?_⟩ | refine ⟨trivial, hdd _, hR.mono ?_⟩
                  clear hR
                  rintro e W3 ⟨hk, ⟨rfl, hj3⟩ | ⟨rfl, hx3⟩⟩
                  · refine hK _ _ ?_
                    clear hK K
                    refine wpAnyIn_take (i := 10) (v := ?v71) rfl rfl (by kernel_rfl) (by kernel_rfl) (by kernel_rfl) (fun _ _ _ h => (nomatch h.1)) ⟨Or.inl ⟨by rfl, ?hy71⟩, fun _ => rfl⟩ ?_
                    case hy71 => (intro w; go_simp; try with_reducible rfl)
                    go_simp
                    refine wpAnyIn_done (by kernel_rfl) ?_ _
                    exact ⟨rfl, Kept.intro (.inr ⟨rfl, hk, hj3⟩)⟩
                  · refine hK _ _ ?_
                    clear hK K
                    refine wpAnyIn_take (i := 10) (v := ?v72) rfl rfl (by kernel_rfl) (by kernel_rfl) (by kernel_rfl) (fun _ _ _ h => (nomatch h.1)) ⟨Or.inl ⟨by rfl, ?hy72⟩, fun _ => rfl⟩ ?_
                    case hy72 => (intro w; go_simp; try with_reducible rfl)
                    go_simp
                    refine wpAnyIn_done (by kernel_rfl) ?_ _
                    exact ⟨rfl, Kept.intro (.inl ⟨rfl, hk, hx3⟩)⟩
              · go_simp
                refine hK _ _ ?_
                clear hK K
                refine wpAnyIn_take (i := 2) (v := ?v73) rfl rfl (by kernel_rfl) (by kernel_rfl) (by kernel_rfl) (fun _ _ _ h => (nomatch h.1)) ⟨Or.inl ⟨by rfl, ?hy73⟩, fun _ => rfl⟩ ?_
                case hy73 => (intro w; go_simp; try with_reducible rfl)
                go_simp
                refine wpAnyIn_take (i := 3) (v := ?v74) rfl rfl (by kernel_rfl) (by kernel_rfl) (by kernel_rfl) (fun _ _ _ h => (nomatch h.1)) ⟨Or.inl ⟨by rfl, ?hy74⟩, fun _ => rfl⟩ ?_
                case hy74 => (intro w; go_simp; try with_reducible rfl)
                go_simp
                refine wpAnyIn_ready (rs := [0, 4, 8]) (by kernel_rfl) (by simp) (AllReadyIn.cons rfl (fun K hK => ?_) (AllReadyIn.cons rfl (fun K hK => ?_) (AllReadyIn.cons rfl (fun K hK => ?_) AllReadyIn.nil)))
                · go_simp
                  refine hK _ _ ?_
                  clear hK K
                  refine wpAnyIn_ready (rs := [4, 8]) (by kernel_rfl) (by simp) (AllReadyIn.cons rfl (fun K hK => ?_) (AllReadyIn.cons rfl (fun K hK => ?_) AllReadyIn.nil))
                  · go_simp
                    refine hK _ _ ?_
                    clear hK K
                    refine wpAnyIn_ready (rs := [8]) (by kernel_rfl) (by simp) (AllReadyIn.cons rfl (fun K hK => ?_) AllReadyIn.nil)
                    go_simp
                    refine hK _ _ ?_
                    clear hK K
                    refine wpAnyIn_ready (rs := [9]) (by kernel_rfl) (by simp) (AllReadyIn.cons rfl (fun K hK => ?_) AllReadyIn.nil)
                    go_simp
                    first | refine ⟨hdd _, hR.mono ?_⟩ | refine hR.mono ?_ | refine ⟨trivial, hR.mono ?_⟩ | refine ⟨trivial, hdd _, hR.mono ?_⟩
                    clear hR
                    rintro e W3 ⟨hk, ⟨rfl, hj3⟩ | ⟨rfl, hx3⟩⟩
                    · refine hK _ _ ?_
                      clear hK K
                      refine wpAnyIn_take (i := 10) (v := ?v75) rfl rfl (by kernel_rfl) (by kernel_rfl) (by kernel_rfl) (fun _ _ _ h => (nomatch h.1)) ⟨Or.inl ⟨by rfl, ?hy75⟩, fun _ => rfl⟩ ?_
                      case hy75 => (intro w; go_simp; try with_reducible rfl)
                      go_simp
                      refine wpAnyIn_done (by kernel_rfl) ?_ _
                      exact ⟨rfl, Kept.intro (.inr ⟨rfl, hk, hj3⟩)⟩
                    · refine hK _ _ ?_
                      clear hK K
                      refine wpAnyIn_take (i := 10) (v := ?v76) rfl rfl (by kernel_rfl) (by kernel_rfl) (by kernel_rfl) (fun _ _ _ h => (nomatch h.1)) ⟨Or.inl ⟨by rfl, ?hy76⟩, fun _ => rfl⟩ ?_
                      case hy76 => (intro w; go_simp; try with_reducible rfl)
                      go_simp
                      refine wpAnyIn_done (by kernel_rfl) ?_ _
                      exact ⟨rfl, Kept.intro (.inl ⟨rfl, hk, hx3⟩)⟩
                  · go_simp
                    refine hK _ _ ?_
                    clear hK K
                    refine wpAnyIn_ready (rs := [4]) (by kernel_rfl) (by simp) (AllReadyIn.cons rfl (fun K hK => ?_) AllReadyIn.nil)
                    go_simp
                    refine hK _ _ ?_
                    clear hK K
                    refine wpAnyIn_ready (rs := [9]) (by kernel_rfl) (by simp) (AllReadyIn.cons rfl (fun K hK => ?_) AllReadyIn.nil)
                    go_simp
                    first | refine ⟨hdd _, hR.mono ?_⟩ | refine hR.mono ?_ | refine ⟨trivial, hR.mono ?_⟩ | refine ⟨trivial, hdd _, hR.mono ?_⟩
                    clear hR
                    rintro e W3 ⟨hk, ⟨rfl, hj3⟩ | ⟨rfl, hx3⟩⟩
                    · refine hK _ _ ?_
                      clear hK K
                      refine wpAnyIn_take (i := 10) (v := ?v77) rfl rfl (by kernel_rfl) (by kernel_rfl) (by kernel_rfl) (fun _ _ _ h => (nomatch h.1)) ⟨Or.inl ⟨by rfl, ?hy77⟩, fun _ => rfl⟩ ?_
                      case hy77 => (intro w; go_simp; try with_reducible rfl)
                      go_simp
                      refine wpAnyIn_done (by kernel_rfl) ?_ _
                      exact ⟨rfl, Kept.intro (.inr ⟨rfl, hk, hj3⟩)⟩
                    · refine hK _ _ ?_
                      clear hK K
                      refine wpAnyIn_take (i := 10) (v := ?v78) rfl rfl (by kernel_rfl) (by kernel_rfl) (by kernel_rfl) (fun _ _ _ h => (nomatch h.1)) ⟨Or.inl ⟨by rfl, ?hy78⟩, fun _ => rfl⟩ ?_
                      case hy78 => (intro w; go_simp; try with_reducible rfl)
                      go_simp
                      refine wpAnyIn_done (by kernel_rfl) ?_ _
                      exact ⟨rfl, Kept.intro (.inl ⟨rfl, hk, hx3⟩)⟩
                · go_simp
                  refine hK _ _ ?_
                  clear hK K
                  refine wpAnyIn_ready (rs := [0, 8]) (by kernel_rfl) (by simp) (AllReadyIn.cons rfl (fun K hK => ?_) (AllReadyIn.cons rfl (fun K hK => ?_) AllReadyIn.nil))
                  · go_simp
                    refine hK _ _ ?_
                    clear hK K
                    refine wpAnyIn_ready (rs := [8]) (by kernel_rfl) (by simp) (AllReadyIn.cons rfl (fun K hK => ?_) AllReadyIn.nil)
                    go_simp
                    refine hK _ _ ?_
                    clear hK K
                    refine wpAnyIn_ready (rs := [9]) (by kernel_rfl) (by simp) (AllReadyIn.cons rfl (fun K hK => ?_) AllReadyIn.nil)
                    go_simp
                    first | refine ⟨hdd _, hR.mono ?_⟩ | refine hR.mono ?_ | refine ⟨trivial, hR.mono ?_⟩ | refine ⟨trivial, hdd _, hR.mono ?_⟩
                    clear hR
                    rintro e W3 ⟨hk, ⟨rfl, hj3⟩ | ⟨rfl, hx3⟩⟩
                    · refine hK _ _ ?_
                      clear hK K
                      refine wpAnyIn_take (i := 10) (v := ?v79) rfl rfl (by kernel_rfl) (by kernel_rfl) (by kernel_rfl) (fun _ _ _ h => (nomatch h.1)) ⟨Or.inl ⟨by rfl, ?hy79⟩, fun _ => rfl⟩ ?_
                      case hy79 => (intro w; go_simp; try with_reducible rfl)
                      go_simp
                      refine wpAnyIn_done (by kernel_rfl) ?_ _
                      exact ⟨rfl, Kept.intro (.inr ⟨rfl, hk, hj3⟩)⟩
                    · refine hK _ _ ?_
                      clear hK K
                      refine wpAnyIn_take (i := 10) (v := ?v80) rfl rfl (by kernel_rfl) (by kernel_rfl) (by kernel_rfl) (fun _ _ _ h => (nomatch h.1)) ⟨Or.inl ⟨by rfl, ?hy80⟩, fun _ => rfl⟩ ?_
                      case hy80 => (intro w; go_simp; try with_reducible rfl)
                      go_simp
                      refine wpAnyIn_done (by kernel_rfl) ?_ _
                      exact ⟨rfl, Kept.intro (.inl ⟨rfl, hk, hx3⟩)⟩
                  · go_simp
                    refine hK _ _ ?_
                    clear hK K
                    refine wpAnyIn_ready (rs := [0]) (by kernel_rfl) (by simp) (AllReadyIn.cons rfl (fun K hK => ?_) AllReadyIn.nil)
                    go_simp
                    refine hK _ _ ?_
                    clear hK K
                    refine wpAnyIn_ready (rs := [9]) (by kernel_rfl) (by simp) (AllReadyIn.cons rfl (fun K hK => ?_) AllReadyIn.nil)
                    go_simp
                    first | refine ⟨hdd _, hR.mono ?_⟩ | refine hR.mono ?_ | refine ⟨trivial, hR.mono ?_⟩ | refine ⟨trivial, hdd _, hR.mono ?_⟩
                    clear hR
                    rintro e W3 ⟨hk, ⟨rfl, hj3⟩ | ⟨rfl, hx3⟩⟩
                    · refine hK _ _ ?_
                      clear hK K
                      refine wpAnyIn_take (i := 10) (v := ?v81) rfl rfl (by kernel_rfl) (by kernel_rfl) (by kernel_rfl) (fun _ _ _ h => (nomatch h.1)) ⟨Or.inl ⟨by rfl, ?hy81⟩, fun _ => rfl⟩ ?_
                      case hy81 => (intro w; go_simp; try with_reducible rfl)
                      go_simp
                      refine wpAnyIn_done (by kernel_rfl) ?_ _
                      exact ⟨rfl, Kept.intro (.inr ⟨rfl, hk, hj3⟩)⟩
                    · refine hK _ _ ?_
                      clear hK K
                      refine wpAnyIn_take (i := 10) (v := ?v82) rfl rfl (by kernel_rfl) (by kernel_rfl) (by kernel_rfl) (fun _ _ _ h => (nomatch h.1)) ⟨Or.inl ⟨by rfl, ?hy82⟩, fun _ => rfl⟩ ?_
                      case hy82 => (intro w; go_simp; try with_reducible rfl)
                      go_simp
                      refine wpAnyIn_done (by kernel_rfl) ?_ _
                      exact ⟨rfl, Kept.intro (.inl ⟨rfl, hk, hx3⟩)⟩
                · go_simp
                  refine hK _ _ ?_
                  clear hK K
                  refine wpAnyIn_ready (rs := [0, 4]) (by kernel_rfl) (by simp) (AllReadyIn.cons rfl (fun K hK => ?_) (AllReadyIn.cons rfl (fun K hK => ?_) AllReadyIn.nil))
                  · go_simp
                    refine hK _ _ ?_
                    clear hK K
                    refine wpAnyIn_ready (rs := [4]) (by kernel_rfl) (by simp) (AllReadyIn.cons rfl (fun K hK => ?_) AllReadyIn.nil)
                    go_simp
                    refine hK _ _ ?_
                    clear hK K
                    refine wpAnyIn_ready (rs := [9]) (by kernel_rfl) (by simp) (AllReadyIn.cons rfl (fun K hK => ?_) AllReadyIn.nil)
                    go_simp
                    first | refine ⟨hdd _, hR.mono ?_⟩ | refine hR.mono ?_ | refine ⟨trivial, hR.mono ?_⟩ | refine ⟨trivial, hdd _, hR.mono ?_⟩
                    clear hR
                    rintro e W3 ⟨hk, ⟨rfl, hj3⟩ | ⟨rfl, hx3⟩⟩
                    · refine hK _ _ ?_
                      clear hK K
                      refine wpAnyIn_take (i := 10) (v := ?v83) rfl rfl (by kernel_rfl) (by kernel_rfl) (by kernel_rfl) (fun _ _ _ h => (nomatch h.1)) ⟨Or.inl ⟨by rfl, ?hy83⟩, fun _ => rfl⟩ ?_
                      case hy83 => (intro w; go_simp; try with_reducible rfl)
                      go_simp
                      refine wpAnyIn_done (by kernel_rfl) ?_ _
                      exact ⟨rfl, Kept.intro (.inr ⟨rfl, hk, hj3⟩)⟩
                    · refine hK _ _ ?_
                      clear hK K
                      refine wpAnyIn_take (i := 10) (v := ?v84) rfl rfl (by kernel_rfl) (by kernel_rfl) (by kernel_rfl) (fun _ _ _ h => (nomatch h.1)) ⟨Or.inl ⟨by rfl, ?hy84⟩, fun _ => rfl⟩ ?_
                      case hy84 => (intro w; go_simp; try with_reducible rfl)
                      go_simp
                      refine wpAnyIn_done (by kernel_rfl) ?_ _
                      exact ⟨rfl, Kept.intro (.inl ⟨rfl, hk, hx3⟩)⟩
                  · go_simp
                    refine hK _ _ ?_
                    clear hK K
                    refine wpAnyIn_ready (rs := [0]) (by kernel_rfl) (by simp) (AllReadyIn.cons rfl (fun K hK => ?_) AllReadyIn.nil)
                    go_simp
                    refine hK _ _ ?_
                    clear hK K
                    refine wpAnyIn_ready (rs := [9]) (by kernel_rfl) (by simp) (AllReadyIn.cons rfl (fun K hK => ?_) AllReadyIn.nil)
                    go_simp
                    first | refine ⟨hdd _, hR.mono ?_⟩ | refine hR.mono ?_ | refine ⟨trivial, hR.mono ?_⟩ | refine ⟨trivial, hdd _, hR.mono ?_⟩
                    clear hR
                    rintro e W3 ⟨hk, ⟨rfl, hj3⟩ | ⟨rfl, hx3⟩⟩
                    · refine hK _ _ ?_
                      clear hK K
                      refine wpAnyIn_take (i := 10) (v := ?v85) rfl rfl (by kernel_rfl) (by kernel_rfl) (by kernel_rfl) (fun _ _ _ h => (nomatch h.1)) ⟨Or.inl ⟨by rfl, ?hy85⟩, fun _ => rfl⟩ ?_
                      case hy85 => (intro w; go_simp; try with_reducible rfl)
                      go_simp
                      refine wpAnyIn_done (by kernel_rfl) ?_ _
                      exact ⟨rfl, Kept.intro (.inr ⟨rfl, hk, hj3⟩)⟩
                    · refine hK _ _ ?_
                      clear hK K
                      refine wpAnyIn_take (i := 10) (v := ?v86) rfl rfl (by kernel_rfl) (by kernel_rfl) (by kernel_rfl) (fun _ _ _ h => (nomatch h.1)) ⟨Or.inl ⟨by rfl, ?hy86⟩, fun _ => rfl⟩ ?_
                      case hy86 => (intro w; go_simp; try with_reducible rfl)
                      go_simp
                      refine wpAnyIn_done (by kernel_rfl) ?_ _
                      exact ⟨rfl, Kept.intro (.inl ⟨rfl, hk, hx3⟩)⟩
              · go_simp
                refine hK _ _ ?_
                clear hK K
                refine wpAnyIn_ready (rs := [0, 1]) (by kernel_rfl) (by simp) (AllReadyIn.cons rfl (fun K hK => ?_) (AllReadyIn.cons rfl (fun K hK => ?_) AllReadyIn.nil))
                · go_simp
                  refine hK _ _ ?_
                  clear hK K
                  refine wpAnyIn_ready (rs := [1]) (by kernel_rfl) (by simp) (AllReadyIn.cons rfl (fun K hK => ?_) AllReadyIn.nil)
                  go_simp
                  refine hK _ _ ?_
                  clear hK K
                  refine wpAnyIn_take (i := 2) (v := ?v87) rfl rfl (by kernel_rfl) (by kernel_rfl) (by kernel_rfl) (fun _ _ _ h => (nomatch h.1)) ⟨Or.inl ⟨by rfl, ?hy87⟩, fun _ => rfl⟩ ?_
                  case hy87 => (intro w; go_simp; try with_reducible rfl)
                  go_simp
                  refine wpAnyIn_take (i := 3) (v := ?v88) rfl rfl (by kernel_rfl) (by kernel_rfl) (by kernel_rfl) (fun _ _ _ h => (nomatch h.1)) ⟨Or.inl ⟨by rfl, ?hy88⟩, fun _ => rfl⟩ ?_
                  case hy88 => (intro w; go_simp; try with_reducible rfl)
                  go_simp
                  refine wpAnyIn_ready (rs := [4]) (by kernel_rfl) (by simp) (AllReadyIn.cons rfl (fun K hK => ?_) AllReadyIn.nil)
                  go_simp
                  refine hK _ _ ?_
                  clear hK K
                  refine wpAnyIn_ready (rs := [9]) (by kernel_rfl) (by simp) (AllReadyIn.cons rfl (fun K hK => ?_) AllReadyIn.nil)
                  go_simp
                  first | refine ⟨hdd _, hR.mono ?_⟩ | refine hR.mono ?_ | refine ⟨trivial, hR.mono ?_⟩ | refine ⟨trivial, hdd _, hR.mono ?_⟩
                  clear hR
                  rintro e W3 ⟨hk, ⟨rfl, hj3⟩ | ⟨rfl, hx3⟩⟩
                  · refine hK _ _ ?_
                    clear hK K
                    refine wpAnyIn_take (i := 10) (v := ?v89) rfl rfl (by kernel_rfl) (by kernel_rfl) (by kernel_rfl) (fun _ _ _ h => (nomatch h.1)) ⟨Or.inl ⟨by rfl, ?hy89⟩, fun _ => rfl⟩ ?_
                    case hy89 => (intro w; go_simp; try with_reducible rfl)
                    go_simp
                    refine wpAnyIn_done (by kernel_rfl) ?_ _
                    exact ⟨rfl, Kept.intro (.inr ⟨rfl, hk, hj3⟩)⟩
                  · refine hK _ _ ?_
                    clear hK K
                    refine wpAnyIn_take (i := 10) (v := ?v90) rfl rfl (by kernel_rfl) (by kernel_rfl) (by kernel_rfl) (fun _ _ _ h => (nomatch h.1)) ⟨Or.inl ⟨by rfl, ?hy90⟩, fun _ => rfl⟩ ?_
                    case hy90 => (intro w; go_simp; try with_reducible rfl)
                    go_simp
                    refine wpAnyIn_done (by kernel_rfl) ?_ _
                    exact ⟨rfl, Kept.intro (.inl ⟨rfl, hk, hx3⟩)⟩
                · go_simp
                  refine hK _ _ ?_
                  clear hK K
                  refine wpAnyIn_take (i := 2) (v := ?v91) rfl rfl (by kernel_rfl) (by kernel_rfl) (by kernel_rfl) (fun _ _ _ h => (nomatch h.1)) ⟨Or.inl ⟨by rfl, ?hy91⟩, fun _ => rfl⟩ ?_
                  case hy91 => (intro w; go_simp; try with_reducible rfl)
                  go_simp
                  refine wpAnyIn_take (i := 3) (v := ?v92) rfl rfl (by kernel_rfl) (by kernel_rfl) (by kernel_rfl) (fun _ _ _ h => (nomatch h.1)) ⟨Or.inl ⟨by rfl, ?hy92⟩, fun _ => rfl⟩ ?_
                  case hy92 => (intro w; go_simp; try with_reducible rfl)
                  go_simp
                  refine wpAnyIn_ready (rs := [0, 4]) (by kernel_rfl) (by simp) (AllReadyIn.cons rfl (fun K hK => ?_) (AllReadyIn.cons rfl (fun K hK => ?_) AllReadyIn.nil))
                  · go_simp
                    refine hK _ _ ?_
                    clear hK K
                    refine wpAnyIn_ready (rs := [4]) (by kernel_rfl) (by simp) (AllReadyIn.cons rfl (fun K hK => ?_) AllReadyIn.nil)
                    go_simp
                    refine hK _ _ ?_
                    clear hK K
                    refine wpAnyIn_ready (rs := [9]) (by kernel_rfl) (by simp) (AllReadyIn.cons rfl (fun K hK => ?_) AllReadyIn.nil)
                    go_simp
                    first | refine ⟨hdd _, hR.mono ?_⟩ | refine hR.mono ?_ | refine ⟨trivial, hR.mono ?_⟩ | refine ⟨trivial, hdd _, hR.mono ?_⟩
                    clear hR
                    rintro e W3 ⟨hk, ⟨rfl, hj3⟩ | ⟨rfl, hx3⟩⟩
                    · refine hK _ _ ?_
                      clear hK K
                      refine wpAnyIn_take (i := 10) (v := ?v93) rfl rfl (by kernel_rfl) (by kernel_rfl) (by kernel_rfl) (fun _ _ _ h => (nomatch h.1)) ⟨Or.inl ⟨by rfl, ?hy93⟩, fun _ => rfl⟩ ?_
                      case hy93 => (intro w; go_simp; try with_reducible rfl)
                      go_simp
                      refine wpAnyIn_done (by kernel_rfl) ?_ _
                      exact ⟨rfl, Kept.intro (.inr ⟨rfl, hk, hj3⟩)⟩
                    · refine hK _ _ ?_
                      clear hK K
                      refine wpAnyIn_take (i := 10) (v := ?v94) rfl rfl (by kernel_rfl) (by kernel_rfl) (by kernel_rfl) (fun _ _ _ h => (nomatch h.1)) ⟨Or.inl ⟨by rfl, ?hy94⟩, fun _ => rfl⟩ ?_
                      case hy94 => (intro w; go_simp; try with_reducible rfl)
                      go_simp
                      refine wpAnyIn_done (by kernel_rfl) ?_ _
                      exact ⟨rfl, Kept.intro (.inl ⟨rfl, hk, hx3⟩)⟩
                  · go_simp
                    refine hK _ _ ?_
                    clear hK K
                    refine wpAnyIn_ready (rs := [0]) (by kernel_rfl) (by simp) (AllReadyIn.cons rfl (fun K hK => ?_) AllReadyIn.nil)
                    go_simp
                    refine hK _ _ ?_
                    clear hK K
                    refine wpAnyIn_ready (rs := [9]) (by kernel_rfl) (by simp) (AllReadyIn.cons rfl (fun K hK => ?_) AllReadyIn.nil)
                    go_simp
                    first | refine ⟨hdd _, hR.mono ?_⟩ | refine hR.mono ?_ | refine ⟨trivial, hR.mono ?_⟩ | refine ⟨trivial, hdd _, hR.mono ?_⟩
                    clear hR
                    rintro e W3 ⟨hk, ⟨rfl, hj3⟩ | ⟨rfl, hx3⟩⟩
                    · refine hK _ _ ?_
                      clear hK K
                      refine wpAnyIn_take (i := 10) (v := ?v95) rfl rfl (by kernel_rfl) (by kernel_rfl) (by kernel_rfl) (fun _ _ _ h => (nomatch h.1)) ⟨Or.inl ⟨by rfl, ?hy95⟩, fun _ => rfl⟩ ?_
                      case hy95 => (intro w; go_simp; try with_reducible rfl)
                      go_simp
                      refine wpAnyIn_done (by kernel_rfl) ?_ _
                      exact ⟨rfl, Kept.intro (.inr ⟨rfl, hk, hj3⟩)⟩
                    · refine hK _ _ ?_
                      clear hK K
                      refine wpAnyIn_take (i := 10) (v := ?v96) rfl rfl (by kernel_rfl) (by kernel_rfl) (by kernel_rfl) (fun _ _ _ h => (nomatch h.1)) ⟨Or.inl ⟨by rfl, ?hy96⟩, fun _ => rfl⟩ ?_
                      case hy96 => (intro w; go_simp; try with_reducible rfl)
                      go_simp
                      refine wpAnyIn_done (by kernel_rfl) ?_ _
                      exact ⟨rfl, Kept.intro (.inl ⟨rfl, hk, hx3⟩)⟩
            -- END REG6
          · intro a1 W3 hkept
            obtain ⟨c, rfl, hk, hc⟩ := hkept.out
            clear hkept
            obtain ⟨h1, h2, h3, h4, h5, h6, h7⟩ := HH.out
            have e4 := hk.box h4 (by omega) hw1
            have e3 := hk.box h5 (Nat.le_refl _) hw3
            have n3 := h3.kt hk hw2
            have k3 := h1.trans (hk.more (by omega : W.heap.size ≤ w2.heap.size))
            have c4 := e4.cell
            have f4 := e4.frozen
            have q2 : (1 : Int) ≤ (ra.length : Int) + 1 := by omega
            have q3 : (ra.length : Int) + 1 ≤ (cap : Int) := by omega
            clear HH h1 h2 h3 h4 h5 c3 c5 c6 c7 c8 z0 z1 z2 CL hk
            rcases hc with ⟨rfl, hj3⟩ | ⟨rfl, hx3⟩
            · by_cases hcap : cap = 1
              · subst hcap
                obtain rfl : ra = [] := List.eq_nil_of_length_eq_zero (by omega)
                have b4 : Boxed W3 w1.heap.size 126 (.slice (some ⟨g, off, none⟩) 1 1) := e4
                have n0 : AheadVW W.heap.size W3 (.slice (some ⟨g, off, none⟩) 0 0) [] := ⟨_, 0, rfl, Nat.le_refl _, by simp [maxLen], fun h => absurd rfl h⟩
                clear c4 f4 e4 q1 q2 q3 n3
                have c4 := b4.cell
                have f4 := b4.frozen
                gi_wp2_with fail
                refine ⟨⟨out ++ [(str kp, .agg #[str pa, str pb, .bool pc])], [], _, hJ.set hj3 (by omega) b4 rfl _, b4.set _, n0.set b4 (by decide) _, e3.other (by omega) _, fun p hp => (by cases hp), k3.trans (KT.of_grown (grownBy_setCell' _ _ _) (fun j e => .inl (by cases e; omega))), by rw [h7]; simp⟩, ?_⟩
                rw [lenAt_box (b4.set _), hl]
                simp
              · rw [if_neg hcap] at n3
                gi_wp2_with fail
                refine ⟨⟨out ++ [(str kp, .agg #[str pa, str pb, .bool pc])], ra, _, hJ.set hj3 (by omega) e4 rfl _, e4.set _, n3.set e4 (by decide) _, e3.other (by omega) _, fun p hp => h6 p (by simp [hp]), k3.trans (KT.of_grown (grownBy_setCell' _ _ _) (fun j e => .inl (by cases e; omega))), by rw [h7]; simp⟩, ?_⟩
                rw [lenAt_box (e4.set _), hl]
                omega
            · gi_wp2_with fail
              exact ⟨k3, rfl, out ++ [(str kp, .agg #[str pa, str pb, .bool pc])], ⟨_, by rw [h7, List.append_assoc]; rfl⟩, hx3⟩
        · have hl0 : lessV (str kp) (str kx) = false := by simpa using hless
          have CL : Hid (∀ m w, CallsIn (Fence.wide.inRound l2) m Try.prog 69 #[str kp, str kx] w fun e w' => e = .returned (.bool false) ∧ w' = w) :=
            Lib.hid (fun m w => (callsIn_wide.2 (by have := lessVW_any kp kx w; rw [hl0] at this; exact this)).inRound l2)
          by_cases hsame : kp = kx
          · subst hsame
            have CC : Hid (∀ m w, CallsIn (Fence.wide.inRound l2) m Try.prog 62 #[str kp, str kp] w fun e w' => e = .returned (.int .i64 0) ∧ w' = w) :=
              Lib.hid (fun m w => (callsIn_wide.2 (by have := cmpSVW kp kp w; unfold cmpV at this; rw [hl0] at this; simpa using this)).inRound l2)
            have f4 := hb4.frozen
            have q2 : (1 : Int) ≤ (ra.length : Int) + 1 := by omega
            have q3 : (ra.length : Int) + 1 ≤ (cap : Int) := by omega
            have hl1 : lessV (str kp) (str kp) = false := hl0
            rw [mrg_same hl0 hl1] at hG
            by_cases hcap : cap = 1
            · subst hcap
              obtain rfl : ra = [] := List.eq_nil_of_length_eq_zero (by omega)
              have b4 : Boxed wr w1.heap.size 126 (.slice (some ⟨g, off, none⟩) 1 1) := hb4
              have n0 : AheadVW W.heap.size wr (.slice (some ⟨g, off, none⟩) 0 0) [] := ⟨_, 0, rfl, Nat.le_refl _, by simp [maxLen], fun h => absurd rfl h⟩
              clear c4 f4 hb4 q1 q2 q3 hnext hah hcells
              have c4 := b4.cell
              have f4 := b4.frozen
              obtain ⟨fn, tmps, assign, body, hy, hR⟩ := hY out (str kp, .agg #[str ya, str yb, .bool yc]) (wr.setCell ⟨w1.heap.size, 0, none⟩ (.slice (some ⟨g, off, none⟩) 0 0)) (hJ.set hj (by omega) b4 rfl _) ⟨_, hG⟩ 6
              have hz : ∀ u : Value, (wr.setCell ⟨w1.heap.size, 0, none⟩ u).heap[b]? = some (.cells #[str ya, str yb, .bool yc] 58 (0, 0)) := fun u => (Below.heap_setCell _ _ _ _ hbn).trans bz
              have z0' := cell_of_row _ b 0 _ _ (0, 0) (hz (.slice (some ⟨g, off, none⟩) 0 0))
              have z1' := cell_of_row _ b 1 _ _ (0, 0) (hz (.slice (some ⟨g, off, none⟩) 0 0))
              have z2' := cell_of_row _ b 2 _ _ (0, 0) (hz (.slice (some ⟨g, off, none⟩) 0 0))
              simp only [List.getElem?_toArray, List.getElem?_cons_zero, List.getElem?_cons_succ] at z0' z1' z2'
              have c3' := (hb3.other (show W.heap.size ≠ w1.heap.size by omega) (.slice (some ⟨g, off, none⟩) 0 0)).cell
              gi_wp2_with (first | (gi_at_call 69; refine (CL.out _ _).mono ?_; rintro e w' ⟨rfl, rfl⟩) | (gi_at_call 62; refine (CC.out _ _).mono ?_; rintro e w' ⟨rfl, rfl⟩) | (refine hR.mono ?_; clear hR; rintro e W3 ⟨hk, ⟨rfl, hj3⟩ | ⟨rfl, hx3⟩⟩) | fail)
              · exact ⟨(hkt.trans (KT.of_grown (grownBy_setCell' _ _ _) (fun j e => .inl (by cases e; omega)))).trans (hk.more (by omega)), out ++ [(str kp, .agg #[str ya, str yb, .bool yc])], [], _, hj3, hk.box (b4.set _) (by omega) hw1, (n0.set b4 (by decide) _).kt hk hw2, hk.box (hb3.other (by omega) _) (Nat.le_refl _) hw3, fun p hp => (by cases hp), fun rem e => by
                  obtain rfl := rem_eq HT.out e
                  rw [hG]; simp⟩
              · exact ⟨(hkt.trans (KT.of_grown (grownBy_setCell' _ _ _) (fun j e => .inl (by cases e; omega)))).trans (hk.more (by omega)), rfl, out ++ [(str kp, .agg #[str ya, str yb, .bool yc])], ⟨_, by rw [hG, List.append_assoc]; rfl⟩, hx3⟩
            · rw [if_neg hcap] at hnext
              obtain ⟨fn, tmps, assign, body, hy, hR⟩ := hY out (str kp, .agg #[str ya, str yb, .bool yc]) (wr.setCell ⟨w1.heap.size, 0, none⟩ (.slice (some ⟨g, off + 4, none⟩) ra.length (cap - 1))) (hJ.set hj (by omega) hb4 rfl _) ⟨_, hG⟩ 6
              have hz : ∀ u : Value, (wr.setCell ⟨w1.heap.size, 0, none⟩ u).heap[b]? = some (.cells #[str ya, str yb, .bool yc] 58 (0, 0)) := fun u => (Below.heap_setCell _ _ _ _ hbn).trans bz
              have z0' := cell_of_row _ b 0 _ _ (0, 0) (hz (.slice (some ⟨g, off + 4, none⟩) ra.length (cap - 1)))
              have z1' := cell_of_row _ b 1 _ _ (0, 0) (hz (.slice (some ⟨g, off + 4, none⟩) ra.length (cap - 1)))
              have z2' := cell_of_row _ b 2 _ _ (0, 0) (hz (.slice (some ⟨g, off + 4, none⟩) ra.length (cap - 1)))
              simp only [List.getElem?_toArray, List.getElem?_cons_zero, List.getElem?_cons_succ] at z0' z1' z2'
              have c3' := (hb3.other (show W.heap.size ≠ w1.heap.size by omega) (.slice (some ⟨g, off + 4, none⟩) ra.length (cap - 1))).cell
              gi_wp2_with (first | (gi_at_call 69; refine (CL.out _ _).mono ?_; rintro e w' ⟨rfl, rfl⟩) | (gi_at_call 62; refine (CC.out _ _).mono ?_; rintro e w' ⟨rfl, rfl⟩) | (refine hR.mono ?_; clear hR; rintro e W3 ⟨hk, ⟨rfl, hj3⟩ | ⟨rfl, hx3⟩⟩) | fail)
              · exact ⟨(hkt.trans (KT.of_grown (grownBy_setCell' _ _ _) (fun j e => .inl (by cases e; omega)))).trans (hk.more (by omega)), out ++ [(str kp, .agg #[str ya, str yb, .bool yc])], ra, _, hj3, hk.box (hb4.set _) (by omega) hw1, (hnext.set hb4 (by decide) _).kt hk hw2, hk.box (hb3.other (by omega) _) (Nat.le_refl _) hw3, fun p hp => hra p (by simp [hp]), fun rem e => by
                  obtain rfl := rem_eq HT.out e
                  rw [hG]; simp⟩
              · exact ⟨(hkt.trans (KT.of_grown (grownBy_setCell' _ _ _) (fun j e => .inl (by cases e; omega)))).trans (hk.more (by omega)), rfl, out ++ [(str kp, .agg #[str ya, str yb, .bool yc])], ⟨_, by rw [hG, List.append_assoc]; rfl⟩, hx3⟩
          · have hl1 : lessV (str kx) (str kp) = true := by
              cases h : lessV (str kx) (str kp)
              · exact absurd (bl_tot kp kx hl0 h) hsame
              · rfl
            have CC : Hid (∀ m w, CallsIn (Fence.wide.inRound l2) m Try.prog 62 #[str kp, str kx] w fun e w' => e = .returned (.int .i64 1) ∧ w' = w) :=
              Lib.hid (fun m w => (callsIn_wide.2 (by
                have := cmpSVW kp kx w
                unfold cmpV at this
                rw [hl0, hl1] at this
                simpa using this)).inRound l2)
            have hx1 : ∃ t', mrgL xa xb = out ++ (str kx, .agg #[str ya, str yb, .bool yc]) :: t' := ⟨_, by rw [hG, mrg_more hl0 hl1]⟩
            obtain ⟨fn, tmps, assign, body, hy, hR⟩ := hY out (str kx, .agg #[str ya, str yb, .bool yc]) wr hj hx1 6
            gi_wp2_with (first | (gi_at_call 69; refine (CL.out _ _).mono ?_; rintro e w' ⟨rfl, rfl⟩) | (gi_at_call 62; refine (CC.out _ _).mono ?_; rintro e w' ⟨rfl, rfl⟩) | (refine hR.mono ?_; clear hR; rintro e W3 ⟨hk, ⟨rfl, hj3⟩ | ⟨rfl, hx3⟩⟩) | fail)
            · exact ⟨hkt.trans (hk.more (by omega)), out ++ [(str kx, .agg #[str ya, str yb, .bool yc])], (str kp, .agg #[str pa, str pb, .bool pc]) :: ra, _, hj3, hk.box hb4 (by omega) hw1, hah.kt hk hw2, hk.box hb3 (Nat.le_refl _) hw3, hra, fun rem e => by
                obtain rfl := rem_eq HT.out e
                rw [hG, mrg_more hl0 hl1]; simp⟩
            · exact ⟨hkt.trans (hk.more (by omega)), rfl, out ++ [(str kx, .agg #[str ya, str yb, .bool yc])], ⟨_, by rw [hG, mrg_more hl0 hl1, List.append_assoc]; rfl⟩, hx3⟩
  case done =>
    rintro D W2 hD ⟨out, ra, v, hj, hb4, hah, hb3, hra, hG⟩ hK
    have hG := hG [] (by simp)
    rw [mrg_end] at hG
    have c4 := hb4.cell
    obtain ⟨aa, ac, rfl, ha1, ha2, _⟩ := id hah
    obtain ⟨n, hn⟩ : ∃ n, n = ra.length := ⟨_, rfl⟩
    rw [← hn] at hah c4 hb4 ha1
    have qn : n ≤ 2000000 := by
      have h := mrg_len xa xb
      rw [hG, List.length_append] at h
      omega
    clear ha2
    gi_wp2_with fail
    gi_loopw [59] (fun i wr => ∃ k : Nat, k ≤ n ∧ i = .int .i64 (k : Int) ∧ J (out ++ ra.take k) wr ∧ AheadVW W.heap.size wr (.slice aa n ac) ra ∧ Boxed wr W.heap.size 109 (.func (.yield l) #[] #[]) ∧ wr.heap[D]? = some (.deferred (some []))) (fun i _ => n - (intOf i).toNat)
    case atStart => exact ⟨0, Nat.zero_le _, rfl, by simpa using hj, hah, hb3, hK⟩
    case round =>
      clear hj hah hb3 hK c4 hb4
      obtain ⟨k, hk, rfl, hj, hah, hb3, hK⟩ := hrel
      by_cases hlt : k < n
      · have hkL : k < ra.length := by rw [← hn]; exact hlt
        obtain ⟨a', ac', ea, _, _, h3⟩ := id hah
        simp only [Value.slice.injEq] at ea
        obtain ⟨rfl, _, rfl⟩ := ea
        obtain ⟨g, off, cur, rfl, hg, hc, hcs⟩ := h3 (by intro e; rw [e] at hkL; simp at hkL)
        obtain ⟨p1, p2, p3, p4⟩ := hcs k hkL
        obtain ⟨⟨kp, hkp⟩, ⟨pa, pb, pc, hyp⟩⟩ := hra ra[k] (List.getElem_mem hkL)
        rw [hkp] at p1
        rw [hyp] at p2 p3 p4
        simp only [wA_agg, wB_agg, wC_agg] at p2 p3 p4
        have hpe : ra[k] = (str kp, .agg #[str pa, str pb, .bool pc]) := Prod.ext hkp hyp
        have c5 : wr.cell? ⟨g, off + k * 4, none⟩ = some (str kp) := by rw [cell_of_row wr g _ cur _ (0, 0) hc]; exact p1
        have c6 : wr.cell? ⟨g, off + k * 4 + 1, none⟩ = some (str pa) := by rw [cell_of_row wr g _ cur _ (0, 0) hc]; exact p2
        have c7 : wr.cell? ⟨g, off + k * 4 + 2, none⟩ = some (str pb) := by rw [cell_of_row wr g _ cur _ (0, 0) hc]; exact p3
        have c8 : wr.cell? ⟨g, off + k * 4 + 3, none⟩ = some (.bool pc) := by rw [cell_of_row wr g _ cur _ (0, 0) hc]; exact p4
        have hG' : mrgL xa xb = (out ++ ra.take k) ++ (str kp, .agg #[str pa, str pb, .bool pc]) :: ra.drop (k + 1) := by
          rw [hG, List.append_assoc]
          congr 1
          conv => lhs; rw [← List.take_append_drop k ra, List.drop_eq_getElem_cons hkL, hpe]
        have htk : ra.take (k + 1) = ra.take k ++ [(str kp, .agg #[str pa, str pb, .bool pc])] := by rw [List.take_succ_eq_append_getElem hkL, hpe]
        have q1 : (0 : Int) ≤ (k : Int) := by omega
        have q2 : (k : Int) < (n : Int) := by omega
        have hb3' : Boxed (wr.alloc (.cells #[str kp, str pa, str pb, .bool pc] 129)) W.heap.size 109 (.func (.yield l) #[] #[]) := hb3.alloc _
        have hah' := hah.below (below_alloc wr (.cells #[str kp, str pa, str pb, .bool pc] 129))
        have hK' : (wr.alloc (.cells #[str kp, str pa, str pb, .bool pc] 129)).heap[D]? = some (.deferred (some [])) := by rw [Below.heap_alloc _ _ _ (Array.getElem?_eq_some_iff.1 hK).1]; exact hK
        have c3 := hb3'.cell
        obtain ⟨fn, tmps, assign, body, hy, hR⟩ := hY (out ++ ra.take k) (str kp, .agg #[str pa, str pb, .bool pc]) (wr.alloc (.cells #[str kp, str pa, str pb, .bool pc] 129)) (hJ.plain.alloc _ hj) ⟨_, hG'⟩ 8
        have HH := Lib.hid (And.intro hb3' (And.intro hah' (And.intro hK' (And.intro hG' htk))))
        clear hj hah hb3 hK h3 hcs hc p1 p2 p3 p4 hkp hyp hpe hb3' hah' hK' hG' htk hG hY hn hkL hra
        gi_wp2_with (refine hR.mono ?_; clear hR; rintro e W3 ⟨hk, ⟨rfl, hj3⟩ | ⟨rfl, hx3⟩⟩)
        · obtain ⟨h1, h2, h3, h4, h5⟩ := HH.out
          refine ⟨⟨k + 1, by omega, by go_num, by rw [h5, ← List.append_assoc]; exact hj3, h2.kt hk hw2, hk.box h1 (Nat.le_refl _) hw3, hk.others (by omega) h3 rfl⟩, ?_⟩
          show n - ((k : Int) + 1).toNat < n - (k : Int).toNat
          omega
        · obtain ⟨h1, h2, h3, h4, h5⟩ := HH.out
          have hK3 : W3.heap[D]? = _ := hk.others (by omega) h3 rfl
          refine ⟨by simp, .inl ⟨_, _, rfl, run_takeDeferred hK3, ?_⟩⟩
          exact ⟨_, results_none rfl _ _ _, ⟨_, rfl⟩, .inr ⟨_, ⟨_, by rw [h4]; simp; rfl⟩, hJx.plain.putObj _ hx3 (by omega) hK3 rfl⟩⟩
      · obtain rfl : k = n := by omega
        rw [hn, List.take_length, ← hG] at hj
        gi_wp2_with fail
        refine ⟨by simp, .inl ⟨_, _, rfl, run_takeDeferred hK, ?_⟩⟩
        exact ⟨_, results_none rfl _ _ _, ⟨_, rfl⟩, .inl (hJ.plain.putObj _ hj (by omega) hK rfl)⟩
  case stop =>
    rintro D c pre W2 hD hx ⟨rfl, out, ht, hj⟩ hK
    gi_wp2
    refine ⟨by simp, .inl ⟨_, _, rfl, run_takeDeferred hK, ?_⟩⟩
    exact ⟨_, results_none rfl _ _ _, ⟨_, rfl⟩, .inr ⟨out, ht, hJx.plain.putObj _ hj (by omega) hK rfl⟩⟩
end Go.Proofs.Ytcgjiddiegepkaa
