/- hblref14.PutFeed, PutState, PutEntry: they tell what rows' do. -/
import Derived.Test.YtjnejbeeoepdnaaDoorRjRows0
import Derived.Test.YtjnejbeeoepdnaaDoorRwEnt
import Derived.Deep.RegionHeld
namespace Go.Proofs.YtjnejbeeoepdnaaDoor
open Go.RowKit

set_option maxRecDepth 100000 in
/-- The text of the members, printed. -/
theorem rpPutFeed_pr (t : List UInt8) (n : Int) (ht : t.length ≤ 9223372036854775807) {W1 : World} (ok : Bool) (W : World) (B : Nat) (h : ObjAt W1 #[str [110], .int .i64 4, .int .i64 n, str [], .slice none 0 0, .slice none 0 0, str [116, 105, 116, 108, 101], .int .i64 5, .int .i64 0, str t, .slice none 0 0, .slice none 0 0] B W) : Calls Tryd.prog 21 #[.agg #[.int .i64 7, .int .i64 0, str [], .slice none 0 0, .slice (some ⟨B, 0, none⟩) 2 2], .bool ok] W fun e w' => e = .returned (.tuple #[str (refO (feedMs t n) ok).1, .int .i64 (refO (feedMs t n) ok).2]) ∧ Below W1.heap.size W1 w' := by
  refine (rprinted_any (feedMs t n) ok (feed_st ht) feed_lenM (fun _ => True) W _ (RdJ.mk0 (v := .mk 7 0 [] [] (feedMs t n)) (RdFB.nil _ _ _) (by unfold RdL; trivial) (RdFB.lit6 [[str [110], .int .i64 4, .int .i64 n, str [], .slice none 0 0, .slice none 0 0], [str [116, 105, 116, 108, 101], .int .i64 5, .int .i64 0, str t, .slice none 0 0, .slice none 0 0]] (by simp) h.2 rfl (by simp) trivial) (by
    show RdM W (fun _ => True) (feedMs t n) _
    unfold feedMs RdM
    refine ⟨⟨_, rfl, plainJ _ _ _ _ _⟩, ?_⟩
    unfold RdM
    refine ⟨⟨_, rfl, plainJ _ _ _ _ _⟩, ?_⟩
    unfold RdM
    trivial))).mono ?_
  rintro e w' ⟨rfl, h'⟩
  exact ⟨rfl, h.1.trans (h'.mono h.1.size)⟩
def SBPutFeed (t : List UInt8) (n : Int) (w0 : Nat) (W : World) : Prop := W.cell? ⟨w0, 0, none⟩ = some (str t) ∧ W.cell? ⟨w0, 1, none⟩ = some (.int .i64 n)
set_option maxRecDepth 100000 in
set_option maxHeartbeats 16000000 in
theorem rputPutFeed_0 (t : List UInt8) (n : Int) (w : World) (ht : t.length ≤ 9223372036854775807) (h1 : ¬ 0 ≤ n) : Calls Tryd.prog 6 #[.agg #[str t, .int .i64 n]] w fun e w' => e = .returned (.tuple #[str (refO (feedMs t n) false).1, .int .i64 (refO (feedMs t n) false).2]) ∧ Below w.heap.size w w' := by
  obtain ⟨W1, hW1⟩ : ∃ W1, W1 = w.alloc (.cells #[str t, .int .i64 n] 34) := ⟨_, rfl⟩
  have hb1 : Below w.heap.size w W1 := by rw [hW1]; exact below_alloc _ _
  have hbx : W1.heap[w.heap.size]? = some (.cells #[str t, .int .i64 n] 34 (0, 0)) := by rw [hW1]; exact heap_alloc_new _ _
  have HKS : Hid (∀ W', Below W1.heap.size W1 W' → SBPutFeed t n w.heap.size W') := Lib.hid (fun W' hb => ⟨(hb.cell (p := ⟨w.heap.size, 0, none⟩) (World.block_lt_of_cell? W1 _ (box_cell hbx 0))).trans (box_cell hbx 0), (hb.cell (p := ⟨w.heap.size, 1, none⟩) (World.block_lt_of_cell? W1 _ (box_cell hbx 1))).trans (box_cell hbx 1)⟩)
  have HW := Lib.hid hb1
  have z1 : decide (0 ≤ n) = false := decide_eq_false h1
  have CPX := Lib.hid (fun W B h => rpPutFeed_pr t n ht (W1 := W1) false W B h)
  obtain ⟨R1, hR1⟩ : ∃ R1, R1 = (refO (feedMs t n) false).1 := ⟨_, rfl⟩
  obtain ⟨R2, hR2⟩ : ∃ R2, R2 = (refO (feedMs t n) false).2 := ⟨_, rfl⟩
  rw [← hR1, ← hR2] at CPX
  rw [← hR1, ← hR2]
  clear hR1 hR2 hb1 hbx
  clear h1 ht
  go_enter Tryd.func6, Tryd.ntmps6
  go_upto_region 1 with fail
  rw [← hW1]
  clear hW1
  have B0 := Lib.hid (show Below W1.heap.size W1 W1.drew from Below.drewsN (Below.refl _ _) 1)
  refine wp_region_held_drew (S := SBPutFeed t n w.heap.size) (by kernel_rfl) (HKS.out _ B0.out) (fun hHeld => ?_)
  refine wpAnyH_take (i := 0) (v := ?v1) rfl (by kernel_rfl) (by kernel_rfl) (by kernel_rfl) (fun _ _ _ h => h) (Or.inl ⟨by rfl, ?hy1⟩) (by assumption) ?_
  case hy1 => (intro w hSw; clear hSw; go_simp; try with_reducible rfl)
  go_simp
  refine wpAnyH_take (i := 1) (v := ?v2) rfl (by kernel_rfl) (by kernel_rfl) (by kernel_rfl) (fun _ _ _ h => h) (Or.inl ⟨by rfl, ?hy2⟩) (by assumption) ?_
  case hy2 => (intro w hSw; obtain ⟨hs0, hs1⟩ := hSw; go_simp; try with_reducible rfl)
  go_simp
  refine wpAnyH_take (i := 4) (v := ?v3) rfl (by kernel_rfl) (by kernel_rfl) (by kernel_rfl) (fun _ _ _ h => h) (Or.inl ⟨by rfl, ?hy3⟩) (by assumption) ?_
  case hy3 => (intro w hSw; clear hSw; go_simp; try with_reducible rfl)
  go_simp
  refine wpAnyH_take (i := 5) (v := ?v4) rfl (by kernel_rfl) (by kernel_rfl) (by kernel_rfl) (fun _ _ _ h => h) (Or.inl ⟨by rfl, ?hy4⟩) (by assumption) ?_
  case hy4 => (intro w hSw; obtain ⟨hs0, hs1⟩ := hSw; go_simp; try with_reducible rfl)
  go_simp
  refine wpAnyH_take (i := 10) (v := ?v5) rfl (by kernel_rfl) (by kernel_rfl) (by kernel_rfl) (fun _ _ _ h => h) (Or.inl ⟨by rfl, ?hy5⟩) (by assumption) ?_
  case hy5 => (intro w hSw; clear hSw; go_simp; try with_reducible rfl)
  go_simp
  refine wpAnyH_take (i := 11) (v := ?v6) rfl (by kernel_rfl) (by kernel_rfl) (by kernel_rfl) (fun _ _ _ h => h) (Or.inl ⟨by rfl, ?hy6⟩) (by assumption) ?_
  case hy6 => (intro w hSw; obtain ⟨hs0, hs1⟩ := hSw; go_simp; try with_reducible rfl)
  go_simp
  refine wpAnyH_take (i := 12) (v := ?v7) rfl (by kernel_rfl) (by kernel_rfl) (by kernel_rfl) (fun _ _ _ h => h) (Or.inl ⟨by rfl, ?hy7⟩) (by assumption) ?_
  case hy7 => (intro w hSw; clear hSw; go_simp; try with_reducible rfl)
  go_simp
  refine wpAnyH_ready (rs := [2]) (by kernel_rfl) (by simp) (AllReadyH.cons rfl (fun K hK => ?_) AllReadyH.nil)
  go_simp
  refine (rnum1_any _ _).mono ?_
  rintro e w1 ⟨rfl, hb⟩
  have B1 := Lib.hid (B0.out.trans (hb.mono B0.out.size))
  clear hb
  go_simp
  refine hK.out _ _ (HKS.out _ B1.out) (fun hHeld => ?_)
  clear hK K
  refine wpAnyH_take (i := 3) (v := ?v8) rfl (by kernel_rfl) (by kernel_rfl) (by kernel_rfl) (fun _ _ _ h => h) (Or.inl ⟨by rfl, ?hy8⟩) (by assumption) ?_
  case hy8 => (intro w hSw; clear hSw; go_simp; try with_reducible rfl)
  go_simp
  refine wpAnyH_ready (rs := [6]) (by kernel_rfl) (by simp) (AllReadyH.cons rfl (fun K hK => ?_) AllReadyH.nil)
  go_simp
  refine (rtext1_any _ _).mono ?_
  rintro e w2 ⟨rfl, hb⟩
  have B2 := Lib.hid (B1.out.trans (hb.mono B1.out.size))
  clear hb
  go_simp
  refine hK.out _ _ (HKS.out _ B2.out) (fun hHeld => ?_)
  clear hK K
  refine wpAnyH_take (i := 7) (v := ?v9) rfl (by kernel_rfl) (by kernel_rfl) (by kernel_rfl) (fun _ _ _ h => h) (Or.inl ⟨by rfl, ?hy9⟩) (by assumption) ?_
  case hy9 => (intro w hSw; clear hSw; go_simp; try with_reducible rfl)
  go_simp
  refine wpAnyH_ready (rs := [8]) (by kernel_rfl) (by simp) (AllReadyH.cons rfl (fun K hK => ?_) AllReadyH.nil)
  go_simp
  have HO0 := Lib.hid (show ObjAt W1 #[str [110], .int .i64 4, .int .i64 n, str [], .slice none 0 0, .slice none 0 0, str [116, 105, 116, 108, 101], .int .i64 5, .int .i64 0, str t, .slice none 0 0, .slice none 0 0] w2.heap.size (w2.alloc (.cells #[str [110], .int .i64 4, .int .i64 n, str [], .slice none 0 0, .slice none 0 0, str [116, 105, 116, 108, 101], .int .i64 5, .int .i64 0, str t, .slice none 0 0, .slice none 0 0] 67)) from ⟨B2.out.trans ((below_alloc _ _).mono B2.out.size), heap_alloc_new _ _⟩)
  have B3 := Lib.hid HO0.out.1
  refine hK.out _ _ (HKS.out _ B3.out) (fun hHeld => ?_)
  clear hK K
  refine wpAnyH_ready (rs := [9]) (by kernel_rfl) (by simp) (AllReadyH.cons rfl (fun K hK => ?_) AllReadyH.nil)
  go_simp
  refine (robj_any _ _ _ _).mono ?_
  rintro e w4 ⟨rfl, hb⟩
  have B4 := Lib.hid (B3.out.trans (hb.mono B3.out.size))
  have HO := Lib.hid (show ObjAt W1 #[str [110], .int .i64 4, .int .i64 n, str [], .slice none 0 0, .slice none 0 0, str [116, 105, 116, 108, 101], .int .i64 5, .int .i64 0, str t, .slice none 0 0, .slice none 0 0] _ w4 from ⟨B4.out, box_up HO0.out.2 hb⟩)
  clear hb
  go_simp
  refine hK.out _ _ (HKS.out _ B4.out) (fun hHeld => ?_)
  clear hK K
  refine wpAnyH_take (i := 13) (v := ?v10) rfl (by kernel_rfl) (by kernel_rfl) (by kernel_rfl) (fun _ _ _ h => h) (Or.inl ⟨by rfl, ?hy10⟩) (by assumption) ?_
  case hy10 => (intro w hSw; clear hSw; go_simp; try with_reducible rfl)
  go_simp
  refine wpAnyH_take (i := 14) (v := undef) rfl (by kernel_rfl) (by kernel_rfl) (by kernel_rfl) (fun _ _ _ h => h) (Or.inr ⟨by rfl, rfl⟩) (by assumption) ?_
  go_simp
  refine wpAnyH_take (i := 15) (v := undef) rfl (by kernel_rfl) (by kernel_rfl) (by kernel_rfl) (fun _ _ _ h => h) (Or.inr ⟨by rfl, rfl⟩) (by assumption) ?_
  go_simp
  refine wpAnyH_take (i := 16) (v := undef) rfl (by kernel_rfl) (by kernel_rfl) (by kernel_rfl) (fun _ _ _ h => h) (Or.inr ⟨by rfl, rfl⟩) (by assumption) ?_
  go_simp
  refine wpAnyH_take (i := 17) (v := ?v14) rfl (by kernel_rfl) (by kernel_rfl) (by kernel_rfl) (fun _ _ _ h => h) (Or.inl ⟨by rfl, ?hy14⟩) (by assumption) ?_
  case hy14 => (intro w hSw; clear hSw; go_simp; try with_reducible rfl)
  go_simp
  refine wpAnyH_take (i := 18) (v := ?v15) rfl (by kernel_rfl) (by kernel_rfl) (by kernel_rfl) (fun _ _ _ h => h) (Or.inl ⟨by rfl, ?hy15⟩) (by assumption) ?_
  case hy15 => (intro w hSw; clear hSw; go_simp; try with_reducible rfl)
  go_simp
  refine wpAnyH_take (i := 19) (v := undef) rfl (by kernel_rfl) (by kernel_rfl) (by kernel_rfl) (fun _ _ _ h => h) (Or.inr ⟨by rfl, rfl⟩) (by assumption) ?_
  go_simp
  refine wpAnyH_take (i := 20) (v := undef) rfl (by kernel_rfl) (by kernel_rfl) (by kernel_rfl) (fun _ _ _ h => h) (Or.inr ⟨by rfl, rfl⟩) (by assumption) ?_
  go_simp
  refine wpAnyH_ready (rs := [21]) (by kernel_rfl) (by simp) (AllReadyH.cons rfl (fun K hK => ?_) AllReadyH.nil)
  go_simp
  refine hK.out _ _ (by assumption) (fun _ => ?_)
  clear hK K
  refine wpAnyH_take (i := 22) (v := ?v18) rfl (by kernel_rfl) (by kernel_rfl) (by kernel_rfl) (fun _ _ _ h => h) (Or.inl ⟨by rfl, ?hy18⟩) (by assumption) ?_
  case hy18 => (intro w hSw; clear hSw; go_simp; try with_reducible rfl)
  go_simp
  refine wpAnyH_ready (rs := [23]) (by kernel_rfl) (by simp) (AllReadyH.cons rfl (fun K hK => ?_) AllReadyH.nil)
  go_simp
  refine (CPX.out _ _ HO.out).mono ?_
  rintro e w5 ⟨rfl, hb⟩
  have B5 := Lib.hid hb
  clear hb
  go_simp
  refine hK.out _ _ (HKS.out _ B5.out) (fun hHeld => ?_)
  clear hK K
  refine wpAnyH_take (i := 24) (v := ?v19) rfl (by kernel_rfl) (by kernel_rfl) (by kernel_rfl) (fun _ _ _ h => h) (Or.inl ⟨by rfl, ?hy19⟩) (by assumption) ?_
  case hy19 => (intro w hSw; clear hSw; go_simp; try with_reducible rfl)
  go_simp
  refine wpAnyH_take (i := 25) (v := ?v20) rfl (by kernel_rfl) (by kernel_rfl) (by kernel_rfl) (fun _ _ _ h => h) (Or.inl ⟨by rfl, ?hy20⟩) (by assumption) ?_
  case hy20 => (intro w hSw; clear hSw; go_simp; try with_reducible rfl)
  go_simp
  refine wpAnyH_take (i := 26) (v := ?v21) rfl (by kernel_rfl) (by kernel_rfl) (by kernel_rfl) (fun _ _ _ h => h) (Or.inl ⟨by rfl, ?hy21⟩) (by assumption) ?_
  case hy21 => (intro w hSw; clear hSw; go_simp; try with_reducible rfl)
  go_simp
  refine wpAnyH_take (i := 27) (v := ?v22) rfl (by kernel_rfl) (by kernel_rfl) (by kernel_rfl) (fun _ _ _ h => h) (Or.inl ⟨by rfl, ?hy22⟩) (by assumption) ?_
  case hy22 => (intro w hSw; clear hSw; go_simp; try with_reducible rfl)
  go_simp
  refine wpAnyH_done (by kernel_rfl) ?_ _
  have HX := Lib.hid (HW.out.trans (B5.out.mono HW.out.size))
  clear HKS CPX
  go_wp2_with fail
  go_ret2
  exact ⟨rfl, HX.out⟩
set_option maxRecDepth 100000 in
set_option maxHeartbeats 16000000 in
theorem rputPutFeed_1 (t : List UInt8) (n : Int) (w : World) (ht : t.length ≤ 9223372036854775807) (h1 : 0 ≤ n) (h2 : ¬ n ≤ 1000000) : Calls Tryd.prog 6 #[.agg #[str t, .int .i64 n]] w fun e w' => e = .returned (.tuple #[str (refO (feedMs t n) false).1, .int .i64 (refO (feedMs t n) false).2]) ∧ Below w.heap.size w w' := by
  obtain ⟨W1, hW1⟩ : ∃ W1, W1 = w.alloc (.cells #[str t, .int .i64 n] 34) := ⟨_, rfl⟩
  have hb1 : Below w.heap.size w W1 := by rw [hW1]; exact below_alloc _ _
  have hbx : W1.heap[w.heap.size]? = some (.cells #[str t, .int .i64 n] 34 (0, 0)) := by rw [hW1]; exact heap_alloc_new _ _
  have HKS : Hid (∀ W', Below W1.heap.size W1 W' → SBPutFeed t n w.heap.size W') := Lib.hid (fun W' hb => ⟨(hb.cell (p := ⟨w.heap.size, 0, none⟩) (World.block_lt_of_cell? W1 _ (box_cell hbx 0))).trans (box_cell hbx 0), (hb.cell (p := ⟨w.heap.size, 1, none⟩) (World.block_lt_of_cell? W1 _ (box_cell hbx 1))).trans (box_cell hbx 1)⟩)
  have HW := Lib.hid hb1
  have z1 : decide (0 ≤ n) = true := decide_eq_true h1
  have z2 : decide (n ≤ 1000000) = false := decide_eq_false h2
  have CPX := Lib.hid (fun W B h => rpPutFeed_pr t n ht (W1 := W1) false W B h)
  obtain ⟨R1, hR1⟩ : ∃ R1, R1 = (refO (feedMs t n) false).1 := ⟨_, rfl⟩
  obtain ⟨R2, hR2⟩ : ∃ R2, R2 = (refO (feedMs t n) false).2 := ⟨_, rfl⟩
  rw [← hR1, ← hR2] at CPX
  rw [← hR1, ← hR2]
  clear hR1 hR2 hb1 hbx
  clear h1 h2 ht
  go_enter Tryd.func6, Tryd.ntmps6
  go_upto_region 1 with fail
  rw [← hW1]
  clear hW1
  have B0 := Lib.hid (show Below W1.heap.size W1 W1.drew from Below.drewsN (Below.refl _ _) 1)
  refine wp_region_held_drew (S := SBPutFeed t n w.heap.size) (by kernel_rfl) (HKS.out _ B0.out) (fun hHeld => ?_)
  refine wpAnyH_take (i := 0) (v := ?v23) rfl (by kernel_rfl) (by kernel_rfl) (by kernel_rfl) (fun _ _ _ h => h) (Or.inl ⟨by rfl, ?hy23⟩) (by assumption) ?_
  case hy23 => (intro w hSw; clear hSw; go_simp; try with_reducible rfl)
  go_simp
  refine wpAnyH_take (i := 1) (v := ?v24) rfl (by kernel_rfl) (by kernel_rfl) (by kernel_rfl) (fun _ _ _ h => h) (Or.inl ⟨by rfl, ?hy24⟩) (by assumption) ?_
  case hy24 => (intro w hSw; obtain ⟨hs0, hs1⟩ := hSw; go_simp; try with_reducible rfl)
  go_simp
  refine wpAnyH_take (i := 4) (v := ?v25) rfl (by kernel_rfl) (by kernel_rfl) (by kernel_rfl) (fun _ _ _ h => h) (Or.inl ⟨by rfl, ?hy25⟩) (by assumption) ?_
  case hy25 => (intro w hSw; clear hSw; go_simp; try with_reducible rfl)
  go_simp
  refine wpAnyH_take (i := 5) (v := ?v26) rfl (by kernel_rfl) (by kernel_rfl) (by kernel_rfl) (fun _ _ _ h => h) (Or.inl ⟨by rfl, ?hy26⟩) (by assumption) ?_
  case hy26 => (intro w hSw; obtain ⟨hs0, hs1⟩ := hSw; go_simp; try with_reducible rfl)
  go_simp
  refine wpAnyH_take (i := 10) (v := ?v27) rfl (by kernel_rfl) (by kernel_rfl) (by kernel_rfl) (fun _ _ _ h => h) (Or.inl ⟨by rfl, ?hy27⟩) (by assumption) ?_
  case hy27 => (intro w hSw; clear hSw; go_simp; try with_reducible rfl)
  go_simp
  refine wpAnyH_take (i := 11) (v := ?v28) rfl (by kernel_rfl) (by kernel_rfl) (by kernel_rfl) (fun _ _ _ h => h) (Or.inl ⟨by rfl, ?hy28⟩) (by assumption) ?_
  case hy28 => (intro w hSw; obtain ⟨hs0, hs1⟩ := hSw; go_simp; try with_reducible rfl)
  go_simp
  refine wpAnyH_take (i := 12) (v := ?v29) rfl (by kernel_rfl) (by kernel_rfl) (by kernel_rfl) (fun _ _ _ h => h) (Or.inl ⟨by rfl, ?hy29⟩) (by assumption) ?_
  case hy29 => (intro w hSw; clear hSw; go_simp; try with_reducible rfl)
  go_simp
  refine wpAnyH_ready (rs := [2]) (by kernel_rfl) (by simp) (AllReadyH.cons rfl (fun K hK => ?_) AllReadyH.nil)
  go_simp
  refine (rnum1_any _ _).mono ?_
  rintro e w1 ⟨rfl, hb⟩
  have B1 := Lib.hid (B0.out.trans (hb.mono B0.out.size))
  clear hb
  go_simp
  refine hK.out _ _ (HKS.out _ B1.out) (fun hHeld => ?_)
  clear hK K
  refine wpAnyH_take (i := 3) (v := ?v30) rfl (by kernel_rfl) (by kernel_rfl) (by kernel_rfl) (fun _ _ _ h => h) (Or.inl ⟨by rfl, ?hy30⟩) (by assumption) ?_
  case hy30 => (intro w hSw; clear hSw; go_simp; try with_reducible rfl)
  go_simp
  refine wpAnyH_ready (rs := [6]) (by kernel_rfl) (by simp) (AllReadyH.cons rfl (fun K hK => ?_) AllReadyH.nil)
  go_simp
  refine (rtext1_any _ _).mono ?_
  rintro e w2 ⟨rfl, hb⟩
  have B2 := Lib.hid (B1.out.trans (hb.mono B1.out.size))
  clear hb
  go_simp
  refine hK.out _ _ (HKS.out _ B2.out) (fun hHeld => ?_)
  clear hK K
  refine wpAnyH_take (i := 7) (v := ?v31) rfl (by kernel_rfl) (by kernel_rfl) (by kernel_rfl) (fun _ _ _ h => h) (Or.inl ⟨by rfl, ?hy31⟩) (by assumption) ?_
  case hy31 => (intro w hSw; clear hSw; go_simp; try with_reducible rfl)
  go_simp
  refine wpAnyH_ready (rs := [8]) (by kernel_rfl) (by simp) (AllReadyH.cons rfl (fun K hK => ?_) AllReadyH.nil)
  go_simp
  have HO0 := Lib.hid (show ObjAt W1 #[str [110], .int .i64 4, .int .i64 n, str [], .slice none 0 0, .slice none 0 0, str [116, 105, 116, 108, 101], .int .i64 5, .int .i64 0, str t, .slice none 0 0, .slice none 0 0] w2.heap.size (w2.alloc (.cells #[str [110], .int .i64 4, .int .i64 n, str [], .slice none 0 0, .slice none 0 0, str [116, 105, 116, 108, 101], .int .i64 5, .int .i64 0, str t, .slice none 0 0, .slice none 0 0] 67)) from ⟨B2.out.trans ((below_alloc _ _).mono B2.out.size), heap_alloc_new _ _⟩)
  have B3 := Lib.hid HO0.out.1
  refine hK.out _ _ (HKS.out _ B3.out) (fun hHeld => ?_)
  clear hK K
  refine wpAnyH_ready (rs := [9]) (by kernel_rfl) (by simp) (AllReadyH.cons rfl (fun K hK => ?_) AllReadyH.nil)
  go_simp
  refine (robj_any _ _ _ _).mono ?_
  rintro e w4 ⟨rfl, hb⟩
  have B4 := Lib.hid (B3.out.trans (hb.mono B3.out.size))
  have HO := Lib.hid (show ObjAt W1 #[str [110], .int .i64 4, .int .i64 n, str [], .slice none 0 0, .slice none 0 0, str [116, 105, 116, 108, 101], .int .i64 5, .int .i64 0, str t, .slice none 0 0, .slice none 0 0] _ w4 from ⟨B4.out, box_up HO0.out.2 hb⟩)
  clear hb
  go_simp
  refine hK.out _ _ (HKS.out _ B4.out) (fun hHeld => ?_)
  clear hK K
  refine wpAnyH_take (i := 13) (v := ?v32) rfl (by kernel_rfl) (by kernel_rfl) (by kernel_rfl) (fun _ _ _ h => h) (Or.inl ⟨by rfl, ?hy32⟩) (by assumption) ?_
  case hy32 => (intro w hSw; clear hSw; go_simp; try with_reducible rfl)
  go_simp
  refine wpAnyH_take (i := 14) (v := ?v33) rfl (by kernel_rfl) (by kernel_rfl) (by kernel_rfl) (fun _ _ _ h => h) (Or.inl ⟨by rfl, ?hy33⟩) (by assumption) ?_
  case hy33 => (intro w hSw; clear hSw; go_simp; try with_reducible rfl)
  go_simp
  refine wpAnyH_take (i := 15) (v := ?v34) rfl (by kernel_rfl) (by kernel_rfl) (by kernel_rfl) (fun _ _ _ h => h) (Or.inl ⟨by rfl, ?hy34⟩) (by assumption) ?_
  case hy34 => (intro w hSw; obtain ⟨hs0, hs1⟩ := hSw; go_simp; try with_reducible rfl)
  go_simp
  refine wpAnyH_take (i := 16) (v := ?v35) rfl (by kernel_rfl) (by kernel_rfl) (by kernel_rfl) (fun _ _ _ h => h) (Or.inl ⟨by rfl, ?hy35⟩) (by assumption) ?_
  case hy35 => (intro w hSw; clear hSw; go_simp; try with_reducible rfl)
  go_simp
  refine wpAnyH_take (i := 17) (v := ?v36) rfl (by kernel_rfl) (by kernel_rfl) (by kernel_rfl) (fun _ _ _ h => h) (Or.inl ⟨by rfl, ?hy36⟩) (by assumption) ?_
  case hy36 => (intro w hSw; clear hSw; go_simp; try with_reducible rfl)
  go_simp
  refine wpAnyH_take (i := 18) (v := ?v37) rfl (by kernel_rfl) (by kernel_rfl) (by kernel_rfl) (fun _ _ _ h => h) (Or.inl ⟨by rfl, ?hy37⟩) (by assumption) ?_
  case hy37 => (intro w hSw; clear hSw; go_simp; try with_reducible rfl)
  go_simp
  refine wpAnyH_take (i := 19) (v := undef) rfl (by kernel_rfl) (by kernel_rfl) (by kernel_rfl) (fun _ _ _ h => h) (Or.inr ⟨by rfl, rfl⟩) (by assumption) ?_
  go_simp
  refine wpAnyH_take (i := 20) (v := undef) rfl (by kernel_rfl) (by kernel_rfl) (by kernel_rfl) (fun _ _ _ h => h) (Or.inr ⟨by rfl, rfl⟩) (by assumption) ?_
  go_simp
  refine wpAnyH_ready (rs := [21]) (by kernel_rfl) (by simp) (AllReadyH.cons rfl (fun K hK => ?_) AllReadyH.nil)
  go_simp
  refine hK.out _ _ (by assumption) (fun _ => ?_)
  clear hK K
  refine wpAnyH_take (i := 22) (v := ?v40) rfl (by kernel_rfl) (by kernel_rfl) (by kernel_rfl) (fun _ _ _ h => h) (Or.inl ⟨by rfl, ?hy40⟩) (by assumption) ?_
  case hy40 => (intro w hSw; clear hSw; go_simp; try with_reducible rfl)
  go_simp
  refine wpAnyH_ready (rs := [23]) (by kernel_rfl) (by simp) (AllReadyH.cons rfl (fun K hK => ?_) AllReadyH.nil)
  go_simp
  refine (CPX.out _ _ HO.out).mono ?_
  rintro e w5 ⟨rfl, hb⟩
  have B5 := Lib.hid hb
  clear hb
  go_simp
  refine hK.out _ _ (HKS.out _ B5.out) (fun hHeld => ?_)
  clear hK K
  refine wpAnyH_take (i := 24) (v := ?v41) rfl (by kernel_rfl) (by kernel_rfl) (by kernel_rfl) (fun _ _ _ h => h) (Or.inl ⟨by rfl, ?hy41⟩) (by assumption) ?_
  case hy41 => (intro w hSw; clear hSw; go_simp; try with_reducible rfl)
  go_simp
  refine wpAnyH_take (i := 25) (v := ?v42) rfl (by kernel_rfl) (by kernel_rfl) (by kernel_rfl) (fun _ _ _ h => h) (Or.inl ⟨by rfl, ?hy42⟩) (by assumption) ?_
  case hy42 => (intro w hSw; clear hSw; go_simp; try with_reducible rfl)
  go_simp
  refine wpAnyH_take (i := 26) (v := ?v43) rfl (by kernel_rfl) (by kernel_rfl) (by kernel_rfl) (fun _ _ _ h => h) (Or.inl ⟨by rfl, ?hy43⟩) (by assumption) ?_
  case hy43 => (intro w hSw; clear hSw; go_simp; try with_reducible rfl)
  go_simp
  refine wpAnyH_take (i := 27) (v := ?v44) rfl (by kernel_rfl) (by kernel_rfl) (by kernel_rfl) (fun _ _ _ h => h) (Or.inl ⟨by rfl, ?hy44⟩) (by assumption) ?_
  case hy44 => (intro w hSw; clear hSw; go_simp; try with_reducible rfl)
  go_simp
  refine wpAnyH_done (by kernel_rfl) ?_ _
  have HX := Lib.hid (HW.out.trans (B5.out.mono HW.out.size))
  clear HKS CPX
  go_wp2_with fail
  go_ret2
  exact ⟨rfl, HX.out⟩
set_option maxRecDepth 100000 in
set_option maxHeartbeats 16000000 in
theorem rputPutFeed_2 (t : List UInt8) (n : Int) (w : World) (ht : t.length ≤ 9223372036854775807) (h1 : 0 ≤ n) (h2 : n ≤ 1000000) : Calls Tryd.prog 6 #[.agg #[str t, .int .i64 n]] w fun e w' => e = .returned (.tuple #[str (refO (feedMs t n) (shortB t)).1, .int .i64 (refO (feedMs t n) (shortB t)).2]) ∧ Below w.heap.size w w' := by
  obtain ⟨W1, hW1⟩ : ∃ W1, W1 = w.alloc (.cells #[str t, .int .i64 n] 34) := ⟨_, rfl⟩
  have hb1 : Below w.heap.size w W1 := by rw [hW1]; exact below_alloc _ _
  have hbx : W1.heap[w.heap.size]? = some (.cells #[str t, .int .i64 n] 34 (0, 0)) := by rw [hW1]; exact heap_alloc_new _ _
  have HKS : Hid (∀ W', Below W1.heap.size W1 W' → SBPutFeed t n w.heap.size W') := Lib.hid (fun W' hb => ⟨(hb.cell (p := ⟨w.heap.size, 0, none⟩) (World.block_lt_of_cell? W1 _ (box_cell hbx 0))).trans (box_cell hbx 0), (hb.cell (p := ⟨w.heap.size, 1, none⟩) (World.block_lt_of_cell? W1 _ (box_cell hbx 1))).trans (box_cell hbx 1)⟩)
  have HW := Lib.hid hb1
  have z1 : decide (0 ≤ n) = true := decide_eq_true h1
  have z2 : decide (n ≤ 1000000) = true := decide_eq_true h2
  have CS := Lib.hid (fun W => rshort_any t W ht)
  have CPX := Lib.hid (fun W B h => rpPutFeed_pr t n ht (W1 := W1) (shortB t) W B h)
  obtain ⟨R1, hR1⟩ : ∃ R1, R1 = (refO (feedMs t n) (shortB t)).1 := ⟨_, rfl⟩
  obtain ⟨R2, hR2⟩ : ∃ R2, R2 = (refO (feedMs t n) (shortB t)).2 := ⟨_, rfl⟩
  rw [← hR1, ← hR2] at CPX
  rw [← hR1, ← hR2]
  clear hR1 hR2 hb1 hbx
  clear h1 h2 ht
  go_enter Tryd.func6, Tryd.ntmps6
  go_upto_region 1 with fail
  rw [← hW1]
  clear hW1
  have B0 := Lib.hid (show Below W1.heap.size W1 W1.drew from Below.drewsN (Below.refl _ _) 1)
  refine wp_region_held_drew (S := SBPutFeed t n w.heap.size) (by kernel_rfl) (HKS.out _ B0.out) (fun hHeld => ?_)
  refine wpAnyH_take (i := 0) (v := ?v45) rfl (by kernel_rfl) (by kernel_rfl) (by kernel_rfl) (fun _ _ _ h => h) (Or.inl ⟨by rfl, ?hy45⟩) (by assumption) ?_
  case hy45 => (intro w hSw; clear hSw; go_simp; try with_reducible rfl)
  go_simp
  refine wpAnyH_take (i := 1) (v := ?v46) rfl (by kernel_rfl) (by kernel_rfl) (by kernel_rfl) (fun _ _ _ h => h) (Or.inl ⟨by rfl, ?hy46⟩) (by assumption) ?_
  case hy46 => (intro w hSw; obtain ⟨hs0, hs1⟩ := hSw; go_simp; try with_reducible rfl)
  go_simp
  refine wpAnyH_take (i := 4) (v := ?v47) rfl (by kernel_rfl) (by kernel_rfl) (by kernel_rfl) (fun _ _ _ h => h) (Or.inl ⟨by rfl, ?hy47⟩) (by assumption) ?_
  case hy47 => (intro w hSw; clear hSw; go_simp; try with_reducible rfl)
  go_simp
  refine wpAnyH_take (i := 5) (v := ?v48) rfl (by kernel_rfl) (by kernel_rfl) (by kernel_rfl) (fun _ _ _ h => h) (Or.inl ⟨by rfl, ?hy48⟩) (by assumption) ?_
  case hy48 => (intro w hSw; obtain ⟨hs0, hs1⟩ := hSw; go_simp; try with_reducible rfl)
  go_simp
  refine wpAnyH_take (i := 10) (v := ?v49) rfl (by kernel_rfl) (by kernel_rfl) (by kernel_rfl) (fun _ _ _ h => h) (Or.inl ⟨by rfl, ?hy49⟩) (by assumption) ?_
  case hy49 => (intro w hSw; clear hSw; go_simp; try with_reducible rfl)
  go_simp
  refine wpAnyH_take (i := 11) (v := ?v50) rfl (by kernel_rfl) (by kernel_rfl) (by kernel_rfl) (fun _ _ _ h => h) (Or.inl ⟨by rfl, ?hy50⟩) (by assumption) ?_
  case hy50 => (intro w hSw; obtain ⟨hs0, hs1⟩ := hSw; go_simp; try with_reducible rfl)
  go_simp
  refine wpAnyH_take (i := 12) (v := ?v51) rfl (by kernel_rfl) (by kernel_rfl) (by kernel_rfl) (fun _ _ _ h => h) (Or.inl ⟨by rfl, ?hy51⟩) (by assumption) ?_
  case hy51 => (intro w hSw; clear hSw; go_simp; try with_reducible rfl)
  go_simp
  refine wpAnyH_ready (rs := [2]) (by kernel_rfl) (by simp) (AllReadyH.cons rfl (fun K hK => ?_) AllReadyH.nil)
  go_simp
  refine (rnum1_any _ _).mono ?_
  rintro e w1 ⟨rfl, hb⟩
  have B1 := Lib.hid (B0.out.trans (hb.mono B0.out.size))
  clear hb
  go_simp
  refine hK.out _ _ (HKS.out _ B1.out) (fun hHeld => ?_)
  clear hK K
  refine wpAnyH_take (i := 3) (v := ?v52) rfl (by kernel_rfl) (by kernel_rfl) (by kernel_rfl) (fun _ _ _ h => h) (Or.inl ⟨by rfl, ?hy52⟩) (by assumption) ?_
  case hy52 => (intro w hSw; clear hSw; go_simp; try with_reducible rfl)
  go_simp
  refine wpAnyH_ready (rs := [6]) (by kernel_rfl) (by simp) (AllReadyH.cons rfl (fun K hK => ?_) AllReadyH.nil)
  go_simp
  refine (rtext1_any _ _).mono ?_
  rintro e w2 ⟨rfl, hb⟩
  have B2 := Lib.hid (B1.out.trans (hb.mono B1.out.size))
  clear hb
  go_simp
  refine hK.out _ _ (HKS.out _ B2.out) (fun hHeld => ?_)
  clear hK K
  refine wpAnyH_take (i := 7) (v := ?v53) rfl (by kernel_rfl) (by kernel_rfl) (by kernel_rfl) (fun _ _ _ h => h) (Or.inl ⟨by rfl, ?hy53⟩) (by assumption) ?_
  case hy53 => (intro w hSw; clear hSw; go_simp; try with_reducible rfl)
  go_simp
  refine wpAnyH_ready (rs := [8]) (by kernel_rfl) (by simp) (AllReadyH.cons rfl (fun K hK => ?_) AllReadyH.nil)
  go_simp
  have HO0 := Lib.hid (show ObjAt W1 #[str [110], .int .i64 4, .int .i64 n, str [], .slice none 0 0, .slice none 0 0, str [116, 105, 116, 108, 101], .int .i64 5, .int .i64 0, str t, .slice none 0 0, .slice none 0 0] w2.heap.size (w2.alloc (.cells #[str [110], .int .i64 4, .int .i64 n, str [], .slice none 0 0, .slice none 0 0, str [116, 105, 116, 108, 101], .int .i64 5, .int .i64 0, str t, .slice none 0 0, .slice none 0 0] 67)) from ⟨B2.out.trans ((below_alloc _ _).mono B2.out.size), heap_alloc_new _ _⟩)
  have B3 := Lib.hid HO0.out.1
  refine hK.out _ _ (HKS.out _ B3.out) (fun hHeld => ?_)
  clear hK K
  refine wpAnyH_ready (rs := [9]) (by kernel_rfl) (by simp) (AllReadyH.cons rfl (fun K hK => ?_) AllReadyH.nil)
  go_simp
  refine (robj_any _ _ _ _).mono ?_
  rintro e w4 ⟨rfl, hb⟩
  have B4 := Lib.hid (B3.out.trans (hb.mono B3.out.size))
  have HO := Lib.hid (show ObjAt W1 #[str [110], .int .i64 4, .int .i64 n, str [], .slice none 0 0, .slice none 0 0, str [116, 105, 116, 108, 101], .int .i64 5, .int .i64 0, str t, .slice none 0 0, .slice none 0 0] _ w4 from ⟨B4.out, box_up HO0.out.2 hb⟩)
  clear hb
  go_simp
  refine hK.out _ _ (HKS.out _ B4.out) (fun hHeld => ?_)
  clear hK K
  refine wpAnyH_take (i := 13) (v := ?v54) rfl (by kernel_rfl) (by kernel_rfl) (by kernel_rfl) (fun _ _ _ h => h) (Or.inl ⟨by rfl, ?hy54⟩) (by assumption) ?_
  case hy54 => (intro w hSw; clear hSw; go_simp; try with_reducible rfl)
  go_simp
  refine wpAnyH_take (i := 14) (v := ?v55) rfl (by kernel_rfl) (by kernel_rfl) (by kernel_rfl) (fun _ _ _ h => h) (Or.inl ⟨by rfl, ?hy55⟩) (by assumption) ?_
  case hy55 => (intro w hSw; clear hSw; go_simp; try with_reducible rfl)
  go_simp
  refine wpAnyH_take (i := 15) (v := ?v56) rfl (by kernel_rfl) (by kernel_rfl) (by kernel_rfl) (fun _ _ _ h => h) (Or.inl ⟨by rfl, ?hy56⟩) (by assumption) ?_
  case hy56 => (intro w hSw; obtain ⟨hs0, hs1⟩ := hSw; go_simp; try with_reducible rfl)
  go_simp
  refine wpAnyH_take (i := 16) (v := ?v57) rfl (by kernel_rfl) (by kernel_rfl) (by kernel_rfl) (fun _ _ _ h => h) (Or.inl ⟨by rfl, ?hy57⟩) (by assumption) ?_
  case hy57 => (intro w hSw; clear hSw; go_simp; try with_reducible rfl)
  go_simp
  refine wpAnyH_take (i := 17) (v := ?v58) rfl (by kernel_rfl) (by kernel_rfl) (by kernel_rfl) (fun _ _ _ h => h) (Or.inl ⟨by rfl, ?hy58⟩) (by assumption) ?_
  case hy58 => (intro w hSw; clear hSw; go_simp; try with_reducible rfl)
  go_simp
  refine wpAnyH_take (i := 18) (v := ?v59) rfl (by kernel_rfl) (by kernel_rfl) (by kernel_rfl) (fun _ _ _ h => h) (Or.inl ⟨by rfl, ?hy59⟩) (by assumption) ?_
  case hy59 => (intro w hSw; clear hSw; go_simp; try with_reducible rfl)
  go_simp
  refine wpAnyH_take (i := 19) (v := ?v60) rfl (by kernel_rfl) (by kernel_rfl) (by kernel_rfl) (fun _ _ _ h => h) (Or.inl ⟨by rfl, ?hy60⟩) (by assumption) ?_
  case hy60 => (intro w hSw; clear hSw; go_simp; try with_reducible rfl)
  go_simp
  refine wpAnyH_take (i := 20) (v := ?v61) rfl (by kernel_rfl) (by kernel_rfl) (by kernel_rfl) (fun _ _ _ h => h) (Or.inl ⟨by rfl, ?hy61⟩) (by assumption) ?_
  case hy61 => (intro w hSw; obtain ⟨hs0, hs1⟩ := hSw; go_simp; try with_reducible rfl)
  go_simp
  refine wpAnyH_ready (rs := [21]) (by kernel_rfl) (by simp) (AllReadyH.cons rfl (fun K hK => ?_) AllReadyH.nil)
  go_simp
  refine (CS.out _).mono ?_
  rintro e w5 ⟨rfl, rfl⟩
  have B5 := B4
  go_simp
  refine hK.out _ _ (HKS.out _ B5.out) (fun hHeld => ?_)
  clear hK K
  refine wpAnyH_take (i := 22) (v := ?v62) rfl (by kernel_rfl) (by kernel_rfl) (by kernel_rfl) (fun _ _ _ h => h) (Or.inl ⟨by rfl, ?hy62⟩) (by assumption) ?_
  case hy62 => (intro w hSw; clear hSw; go_simp; try with_reducible rfl)
  go_simp
  refine wpAnyH_ready (rs := [23]) (by kernel_rfl) (by simp) (AllReadyH.cons rfl (fun K hK => ?_) AllReadyH.nil)
  go_simp
  refine (CPX.out _ _ HO.out).mono ?_
  rintro e w6 ⟨rfl, hb⟩
  have B6 := Lib.hid hb
  clear hb
  go_simp
  refine hK.out _ _ (HKS.out _ B6.out) (fun hHeld => ?_)
  clear hK K
  refine wpAnyH_take (i := 24) (v := ?v63) rfl (by kernel_rfl) (by kernel_rfl) (by kernel_rfl) (fun _ _ _ h => h) (Or.inl ⟨by rfl, ?hy63⟩) (by assumption) ?_
  case hy63 => (intro w hSw; clear hSw; go_simp; try with_reducible rfl)
  go_simp
  refine wpAnyH_take (i := 25) (v := ?v64) rfl (by kernel_rfl) (by kernel_rfl) (by kernel_rfl) (fun _ _ _ h => h) (Or.inl ⟨by rfl, ?hy64⟩) (by assumption) ?_
  case hy64 => (intro w hSw; clear hSw; go_simp; try with_reducible rfl)
  go_simp
  refine wpAnyH_take (i := 26) (v := ?v65) rfl (by kernel_rfl) (by kernel_rfl) (by kernel_rfl) (fun _ _ _ h => h) (Or.inl ⟨by rfl, ?hy65⟩) (by assumption) ?_
  case hy65 => (intro w hSw; clear hSw; go_simp; try with_reducible rfl)
  go_simp
  refine wpAnyH_take (i := 27) (v := ?v66) rfl (by kernel_rfl) (by kernel_rfl) (by kernel_rfl) (fun _ _ _ h => h) (Or.inl ⟨by rfl, ?hy66⟩) (by assumption) ?_
  case hy66 => (intro w hSw; clear hSw; go_simp; try with_reducible rfl)
  go_simp
  refine wpAnyH_done (by kernel_rfl) ?_ _
  have HX := Lib.hid (HW.out.trans (B6.out.mono HW.out.size))
  clear HKS CPX
  go_wp2_with fail
  go_ret2
  exact ⟨rfl, HX.out⟩
set_option maxRecDepth 100000 in
/-- The text of the members, printed. -/
theorem rpPutState_pr (a : Int) (b : Int) {W1 : World} (ok : Bool) (W : World) (B : Nat) (h : ObjAt W1 #[str [114, 101, 97, 100], .int .i64 4, .int .i64 a, str [], .slice none 0 0, .slice none 0 0, str [115, 116, 97, 114], .int .i64 4, .int .i64 b, str [], .slice none 0 0, .slice none 0 0] B W) : Calls Tryd.prog 21 #[.agg #[.int .i64 7, .int .i64 0, str [], .slice none 0 0, .slice (some ⟨B, 0, none⟩) 2 2], .bool ok] W fun e w' => e = .returned (.tuple #[str (refO (stateMs a b) ok).1, .int .i64 (refO (stateMs a b) ok).2]) ∧ Below W1.heap.size W1 w' := by
  refine (rprinted_any (stateMs a b) ok state_st state_lenM (fun _ => True) W _ (RdJ.mk0 (v := .mk 7 0 [] [] (stateMs a b)) (RdFB.nil _ _ _) (by unfold RdL; trivial) (RdFB.lit6 [[str [114, 101, 97, 100], .int .i64 4, .int .i64 a, str [], .slice none 0 0, .slice none 0 0], [str [115, 116, 97, 114], .int .i64 4, .int .i64 b, str [], .slice none 0 0, .slice none 0 0]] (by simp) h.2 rfl (by simp) trivial) (by
    show RdM W (fun _ => True) (stateMs a b) _
    unfold stateMs RdM
    refine ⟨⟨_, rfl, plainJ _ _ _ _ _⟩, ?_⟩
    unfold RdM
    refine ⟨⟨_, rfl, plainJ _ _ _ _ _⟩, ?_⟩
    unfold RdM
    trivial))).mono ?_
  rintro e w' ⟨rfl, h'⟩
  exact ⟨rfl, h.1.trans (h'.mono h.1.size)⟩
def SBPutState (a : Int) (b : Int) (w0 : Nat) (W : World) : Prop := W.cell? ⟨w0, 0, none⟩ = some (.int .i64 a) ∧ W.cell? ⟨w0, 1, none⟩ = some (.int .i64 b)
set_option maxRecDepth 100000 in
set_option maxHeartbeats 16000000 in
theorem rputPutState_0 (a : Int) (b : Int) (w : World) (h1 : ¬ 0 ≤ a) : Calls Tryd.prog 12 #[.agg #[.int .i64 a, .int .i64 b]] w fun e w' => e = .returned (.tuple #[str (refO (stateMs a b) false).1, .int .i64 (refO (stateMs a b) false).2]) ∧ Below w.heap.size w w' := by
  obtain ⟨W1, hW1⟩ : ∃ W1, W1 = w.alloc (.cells #[.int .i64 a, .int .i64 b] 39) := ⟨_, rfl⟩
  have hb1 : Below w.heap.size w W1 := by rw [hW1]; exact below_alloc _ _
  have hbx : W1.heap[w.heap.size]? = some (.cells #[.int .i64 a, .int .i64 b] 39 (0, 0)) := by rw [hW1]; exact heap_alloc_new _ _
  have HKS : Hid (∀ W', Below W1.heap.size W1 W' → SBPutState a b w.heap.size W') := Lib.hid (fun W' hb => ⟨(hb.cell (p := ⟨w.heap.size, 0, none⟩) (World.block_lt_of_cell? W1 _ (box_cell hbx 0))).trans (box_cell hbx 0), (hb.cell (p := ⟨w.heap.size, 1, none⟩) (World.block_lt_of_cell? W1 _ (box_cell hbx 1))).trans (box_cell hbx 1)⟩)
  have HW := Lib.hid hb1
  have z1 : decide (0 ≤ a) = false := decide_eq_false h1
  have CPX := Lib.hid (fun W B h => rpPutState_pr a b (W1 := W1) false W B h)
  obtain ⟨R1, hR1⟩ : ∃ R1, R1 = (refO (stateMs a b) false).1 := ⟨_, rfl⟩
  obtain ⟨R2, hR2⟩ : ∃ R2, R2 = (refO (stateMs a b) false).2 := ⟨_, rfl⟩
  rw [← hR1, ← hR2] at CPX
  rw [← hR1, ← hR2]
  clear hR1 hR2 hb1 hbx
  clear h1
  go_enter Tryd.func12, Tryd.ntmps12
  go_upto_region 1 with fail
  rw [← hW1]
  clear hW1
  have B0 := Lib.hid (show Below W1.heap.size W1 W1.drew from Below.drewsN (Below.refl _ _) 1)
  refine wp_region_held_drew (S := SBPutState a b w.heap.size) (by kernel_rfl) (HKS.out _ B0.out) (fun hHeld => ?_)
  refine wpAnyH_take (i := 0) (v := ?v67) rfl (by kernel_rfl) (by kernel_rfl) (by kernel_rfl) (fun _ _ _ h => h) (Or.inl ⟨by rfl, ?hy67⟩) (by assumption) ?_
  case hy67 => (intro w hSw; clear hSw; go_simp; try with_reducible rfl)
  go_simp
  refine wpAnyH_take (i := 1) (v := ?v68) rfl (by kernel_rfl) (by kernel_rfl) (by kernel_rfl) (fun _ _ _ h => h) (Or.inl ⟨by rfl, ?hy68⟩) (by assumption) ?_
  case hy68 => (intro w hSw; obtain ⟨hs0, hs1⟩ := hSw; go_simp; try with_reducible rfl)
  go_simp
  refine wpAnyH_take (i := 4) (v := ?v69) rfl (by kernel_rfl) (by kernel_rfl) (by kernel_rfl) (fun _ _ _ h => h) (Or.inl ⟨by rfl, ?hy69⟩) (by assumption) ?_
  case hy69 => (intro w hSw; clear hSw; go_simp; try with_reducible rfl)
  go_simp
  refine wpAnyH_take (i := 5) (v := ?v70) rfl (by kernel_rfl) (by kernel_rfl) (by kernel_rfl) (fun _ _ _ h => h) (Or.inl ⟨by rfl, ?hy70⟩) (by assumption) ?_
  case hy70 => (intro w hSw; obtain ⟨hs0, hs1⟩ := hSw; go_simp; try with_reducible rfl)
  go_simp
  refine wpAnyH_take (i := 10) (v := ?v71) rfl (by kernel_rfl) (by kernel_rfl) (by kernel_rfl) (fun _ _ _ h => h) (Or.inl ⟨by rfl, ?hy71⟩) (by assumption) ?_
  case hy71 => (intro w hSw; clear hSw; go_simp; try with_reducible rfl)
  go_simp
  refine wpAnyH_take (i := 11) (v := ?v72) rfl (by kernel_rfl) (by kernel_rfl) (by kernel_rfl) (fun _ _ _ h => h) (Or.inl ⟨by rfl, ?hy72⟩) (by assumption) ?_
  case hy72 => (intro w hSw; obtain ⟨hs0, hs1⟩ := hSw; go_simp; try with_reducible rfl)
  go_simp
  refine wpAnyH_take (i := 12) (v := ?v73) rfl (by kernel_rfl) (by kernel_rfl) (by kernel_rfl) (fun _ _ _ h => h) (Or.inl ⟨by rfl, ?hy73⟩) (by assumption) ?_
  case hy73 => (intro w hSw; clear hSw; go_simp; try with_reducible rfl)
  go_simp
  refine wpAnyH_ready (rs := [2]) (by kernel_rfl) (by simp) (AllReadyH.cons rfl (fun K hK => ?_) AllReadyH.nil)
  go_simp
  refine (rnum1_any _ _).mono ?_
  rintro e w1 ⟨rfl, hb⟩
  have B1 := Lib.hid (B0.out.trans (hb.mono B0.out.size))
  clear hb
  go_simp
  refine hK.out _ _ (HKS.out _ B1.out) (fun hHeld => ?_)
  clear hK K
  refine wpAnyH_take (i := 3) (v := ?v74) rfl (by kernel_rfl) (by kernel_rfl) (by kernel_rfl) (fun _ _ _ h => h) (Or.inl ⟨by rfl, ?hy74⟩) (by assumption) ?_
  case hy74 => (intro w hSw; clear hSw; go_simp; try with_reducible rfl)
  go_simp
  refine wpAnyH_ready (rs := [6]) (by kernel_rfl) (by simp) (AllReadyH.cons rfl (fun K hK => ?_) AllReadyH.nil)
  go_simp
  refine (rnum1_any _ _).mono ?_
  rintro e w2 ⟨rfl, hb⟩
  have B2 := Lib.hid (B1.out.trans (hb.mono B1.out.size))
  clear hb
  go_simp
  refine hK.out _ _ (HKS.out _ B2.out) (fun hHeld => ?_)
  clear hK K
  refine wpAnyH_take (i := 7) (v := ?v75) rfl (by kernel_rfl) (by kernel_rfl) (by kernel_rfl) (fun _ _ _ h => h) (Or.inl ⟨by rfl, ?hy75⟩) (by assumption) ?_
  case hy75 => (intro w hSw; clear hSw; go_simp; try with_reducible rfl)
  go_simp
  refine wpAnyH_ready (rs := [8]) (by kernel_rfl) (by simp) (AllReadyH.cons rfl (fun K hK => ?_) AllReadyH.nil)
  go_simp
  have HO0 := Lib.hid (show ObjAt W1 #[str [114, 101, 97, 100], .int .i64 4, .int .i64 a, str [], .slice none 0 0, .slice none 0 0, str [115, 116, 97, 114], .int .i64 4, .int .i64 b, str [], .slice none 0 0, .slice none 0 0] w2.heap.size (w2.alloc (.cells #[str [114, 101, 97, 100], .int .i64 4, .int .i64 a, str [], .slice none 0 0, .slice none 0 0, str [115, 116, 97, 114], .int .i64 4, .int .i64 b, str [], .slice none 0 0, .slice none 0 0] 67)) from ⟨B2.out.trans ((below_alloc _ _).mono B2.out.size), heap_alloc_new _ _⟩)
  have B3 := Lib.hid HO0.out.1
  refine hK.out _ _ (HKS.out _ B3.out) (fun hHeld => ?_)
  clear hK K
  refine wpAnyH_ready (rs := [9]) (by kernel_rfl) (by simp) (AllReadyH.cons rfl (fun K hK => ?_) AllReadyH.nil)
  go_simp
  refine (robj_any _ _ _ _).mono ?_
  rintro e w4 ⟨rfl, hb⟩
  have B4 := Lib.hid (B3.out.trans (hb.mono B3.out.size))
  have HO := Lib.hid (show ObjAt W1 #[str [114, 101, 97, 100], .int .i64 4, .int .i64 a, str [], .slice none 0 0, .slice none 0 0, str [115, 116, 97, 114], .int .i64 4, .int .i64 b, str [], .slice none 0 0, .slice none 0 0] _ w4 from ⟨B4.out, box_up HO0.out.2 hb⟩)
  clear hb
  go_simp
  refine hK.out _ _ (HKS.out _ B4.out) (fun hHeld => ?_)
  clear hK K
  refine wpAnyH_take (i := 13) (v := ?v76) rfl (by kernel_rfl) (by kernel_rfl) (by kernel_rfl) (fun _ _ _ h => h) (Or.inl ⟨by rfl, ?hy76⟩) (by assumption) ?_
  case hy76 => (intro w hSw; clear hSw; go_simp; try with_reducible rfl)
  go_simp
  refine wpAnyH_take (i := 14) (v := undef) rfl (by kernel_rfl) (by kernel_rfl) (by kernel_rfl) (fun _ _ _ h => h) (Or.inr ⟨by rfl, rfl⟩) (by assumption) ?_
  go_simp
  refine wpAnyH_take (i := 15) (v := undef) rfl (by kernel_rfl) (by kernel_rfl) (by kernel_rfl) (fun _ _ _ h => h) (Or.inr ⟨by rfl, rfl⟩) (by assumption) ?_
  go_simp
  refine wpAnyH_take (i := 16) (v := undef) rfl (by kernel_rfl) (by kernel_rfl) (by kernel_rfl) (fun _ _ _ h => h) (Or.inr ⟨by rfl, rfl⟩) (by assumption) ?_
  go_simp
  refine wpAnyH_take (i := 17) (v := ?v80) rfl (by kernel_rfl) (by kernel_rfl) (by kernel_rfl) (fun _ _ _ h => h) (Or.inl ⟨by rfl, ?hy80⟩) (by assumption) ?_
  case hy80 => (intro w hSw; clear hSw; go_simp; try with_reducible rfl)
  go_simp
  refine wpAnyH_take (i := 18) (v := ?v81) rfl (by kernel_rfl) (by kernel_rfl) (by kernel_rfl) (fun _ _ _ h => h) (Or.inl ⟨by rfl, ?hy81⟩) (by assumption) ?_
  case hy81 => (intro w hSw; clear hSw; go_simp; try with_reducible rfl)
  go_simp
  refine wpAnyH_take (i := 19) (v := undef) rfl (by kernel_rfl) (by kernel_rfl) (by kernel_rfl) (fun _ _ _ h => h) (Or.inr ⟨by rfl, rfl⟩) (by assumption) ?_
  go_simp
  refine wpAnyH_take (i := 20) (v := undef) rfl (by kernel_rfl) (by kernel_rfl) (by kernel_rfl) (fun _ _ _ h => h) (Or.inr ⟨by rfl, rfl⟩) (by assumption) ?_
  go_simp
  refine wpAnyH_take (i := 21) (v := undef) rfl (by kernel_rfl) (by kernel_rfl) (by kernel_rfl) (fun _ _ _ h => h) (Or.inr ⟨by rfl, rfl⟩) (by assumption) ?_
  go_simp
  refine wpAnyH_take (i := 22) (v := undef) rfl (by kernel_rfl) (by kernel_rfl) (by kernel_rfl) (fun _ _ _ h => h) (Or.inr ⟨by rfl, rfl⟩) (by assumption) ?_
  go_simp
  refine wpAnyH_take (i := 23) (v := undef) rfl (by kernel_rfl) (by kernel_rfl) (by kernel_rfl) (fun _ _ _ h => h) (Or.inr ⟨by rfl, rfl⟩) (by assumption) ?_
  go_simp
  refine wpAnyH_take (i := 24) (v := undef) rfl (by kernel_rfl) (by kernel_rfl) (by kernel_rfl) (fun _ _ _ h => h) (Or.inr ⟨by rfl, rfl⟩) (by assumption) ?_
  go_simp
  refine wpAnyH_take (i := 25) (v := undef) rfl (by kernel_rfl) (by kernel_rfl) (by kernel_rfl) (fun _ _ _ h => h) (Or.inr ⟨by rfl, rfl⟩) (by assumption) ?_
  go_simp
  refine wpAnyH_take (i := 26) (v := undef) rfl (by kernel_rfl) (by kernel_rfl) (by kernel_rfl) (fun _ _ _ h => h) (Or.inr ⟨by rfl, rfl⟩) (by assumption) ?_
  go_simp
  refine wpAnyH_take (i := 27) (v := ?v90) rfl (by kernel_rfl) (by kernel_rfl) (by kernel_rfl) (fun _ _ _ h => h) (Or.inl ⟨by rfl, ?hy90⟩) (by assumption) ?_
  case hy90 => (intro w hSw; clear hSw; go_simp; try with_reducible rfl)
  go_simp
  refine wpAnyH_take (i := 28) (v := ?v91) rfl (by kernel_rfl) (by kernel_rfl) (by kernel_rfl) (fun _ _ _ h => h) (Or.inl ⟨by rfl, ?hy91⟩) (by assumption) ?_
  case hy91 => (intro w hSw; clear hSw; go_simp; try with_reducible rfl)
  go_simp
  refine wpAnyH_take (i := 29) (v := undef) rfl (by kernel_rfl) (by kernel_rfl) (by kernel_rfl) (fun _ _ _ h => h) (Or.inr ⟨by rfl, rfl⟩) (by assumption) ?_
  go_simp
  refine wpAnyH_take (i := 30) (v := undef) rfl (by kernel_rfl) (by kernel_rfl) (by kernel_rfl) (fun _ _ _ h => h) (Or.inr ⟨by rfl, rfl⟩) (by assumption) ?_
  go_simp
  refine wpAnyH_take (i := 31) (v := undef) rfl (by kernel_rfl) (by kernel_rfl) (by kernel_rfl) (fun _ _ _ h => h) (Or.inr ⟨by rfl, rfl⟩) (by assumption) ?_
  go_simp
  refine wpAnyH_take (i := 32) (v := undef) rfl (by kernel_rfl) (by kernel_rfl) (by kernel_rfl) (fun _ _ _ h => h) (Or.inr ⟨by rfl, rfl⟩) (by assumption) ?_
  go_simp
  refine wpAnyH_take (i := 33) (v := undef) rfl (by kernel_rfl) (by kernel_rfl) (by kernel_rfl) (fun _ _ _ h => h) (Or.inr ⟨by rfl, rfl⟩) (by assumption) ?_
  go_simp
  refine wpAnyH_take (i := 34) (v := undef) rfl (by kernel_rfl) (by kernel_rfl) (by kernel_rfl) (fun _ _ _ h => h) (Or.inr ⟨by rfl, rfl⟩) (by assumption) ?_
  go_simp
  refine wpAnyH_take (i := 35) (v := ?v98) rfl (by kernel_rfl) (by kernel_rfl) (by kernel_rfl) (fun _ _ _ h => h) (Or.inl ⟨by rfl, ?hy98⟩) (by assumption) ?_
  case hy98 => (intro w hSw; clear hSw; go_simp; try with_reducible rfl)
  go_simp
  refine wpAnyH_ready (rs := [36]) (by kernel_rfl) (by simp) (AllReadyH.cons rfl (fun K hK => ?_) AllReadyH.nil)
  go_simp
  refine (CPX.out _ _ HO.out).mono ?_
  rintro e w5 ⟨rfl, hb⟩
  have B5 := Lib.hid hb
  clear hb
  go_simp
  refine hK.out _ _ (HKS.out _ B5.out) (fun hHeld => ?_)
  clear hK K
  refine wpAnyH_take (i := 37) (v := ?v99) rfl (by kernel_rfl) (by kernel_rfl) (by kernel_rfl) (fun _ _ _ h => h) (Or.inl ⟨by rfl, ?hy99⟩) (by assumption) ?_
  case hy99 => (intro w hSw; clear hSw; go_simp; try with_reducible rfl)
  go_simp
  refine wpAnyH_take (i := 38) (v := ?v100) rfl (by kernel_rfl) (by kernel_rfl) (by kernel_rfl) (fun _ _ _ h => h) (Or.inl ⟨by rfl, ?hy100⟩) (by assumption) ?_
  case hy100 => (intro w hSw; clear hSw; go_simp; try with_reducible rfl)
  go_simp
  refine wpAnyH_take (i := 39) (v := ?v101) rfl (by kernel_rfl) (by kernel_rfl) (by kernel_rfl) (fun _ _ _ h => h) (Or.inl ⟨by rfl, ?hy101⟩) (by assumption) ?_
  case hy101 => (intro w hSw; clear hSw; go_simp; try with_reducible rfl)
  go_simp
  refine wpAnyH_take (i := 40) (v := ?v102) rfl (by kernel_rfl) (by kernel_rfl) (by kernel_rfl) (fun _ _ _ h => h) (Or.inl ⟨by rfl, ?hy102⟩) (by assumption) ?_
  case hy102 => (intro w hSw; clear hSw; go_simp; try with_reducible rfl)
  go_simp
  refine wpAnyH_done (by kernel_rfl) ?_ _
  have HX := Lib.hid (HW.out.trans (B5.out.mono HW.out.size))
  clear HKS CPX
  go_wp2_with fail
  go_ret2
  exact ⟨rfl, HX.out⟩
set_option maxRecDepth 100000 in
set_option maxHeartbeats 16000000 in
theorem rputPutState_1 (a : Int) (b : Int) (w : World) (h1 : 0 ≤ a) (h2 : ¬ a ≤ 2) : Calls Tryd.prog 12 #[.agg #[.int .i64 a, .int .i64 b]] w fun e w' => e = .returned (.tuple #[str (refO (stateMs a b) false).1, .int .i64 (refO (stateMs a b) false).2]) ∧ Below w.heap.size w w' := by
  obtain ⟨W1, hW1⟩ : ∃ W1, W1 = w.alloc (.cells #[.int .i64 a, .int .i64 b] 39) := ⟨_, rfl⟩
  have hb1 : Below w.heap.size w W1 := by rw [hW1]; exact below_alloc _ _
  have hbx : W1.heap[w.heap.size]? = some (.cells #[.int .i64 a, .int .i64 b] 39 (0, 0)) := by rw [hW1]; exact heap_alloc_new _ _
  have HKS : Hid (∀ W', Below W1.heap.size W1 W' → SBPutState a b w.heap.size W') := Lib.hid (fun W' hb => ⟨(hb.cell (p := ⟨w.heap.size, 0, none⟩) (World.block_lt_of_cell? W1 _ (box_cell hbx 0))).trans (box_cell hbx 0), (hb.cell (p := ⟨w.heap.size, 1, none⟩) (World.block_lt_of_cell? W1 _ (box_cell hbx 1))).trans (box_cell hbx 1)⟩)
  have HW := Lib.hid hb1
  have z1 : decide (0 ≤ a) = true := decide_eq_true h1
  have z2 : decide (a ≤ 2) = false := decide_eq_false h2
  have CPX := Lib.hid (fun W B h => rpPutState_pr a b (W1 := W1) false W B h)
  obtain ⟨R1, hR1⟩ : ∃ R1, R1 = (refO (stateMs a b) false).1 := ⟨_, rfl⟩
  obtain ⟨R2, hR2⟩ : ∃ R2, R2 = (refO (stateMs a b) false).2 := ⟨_, rfl⟩
  rw [← hR1, ← hR2] at CPX
  rw [← hR1, ← hR2]
  clear hR1 hR2 hb1 hbx
  clear h1 h2
  go_enter Tryd.func12, Tryd.ntmps12
  go_upto_region 1 with fail
  rw [← hW1]
  clear hW1
  have B0 := Lib.hid (show Below W1.heap.size W1 W1.drew from Below.drewsN (Below.refl _ _) 1)
  refine wp_region_held_drew (S := SBPutState a b w.heap.size) (by kernel_rfl) (HKS.out _ B0.out) (fun hHeld => ?_)
  refine wpAnyH_take (i := 0) (v := ?v103) rfl (by kernel_rfl) (by kernel_rfl) (by kernel_rfl) (fun _ _ _ h => h) (Or.inl ⟨by rfl, ?hy103⟩) (by assumption) ?_
  case hy103 => (intro w hSw; clear hSw; go_simp; try with_reducible rfl)
  go_simp
  refine wpAnyH_take (i := 1) (v := ?v104) rfl (by kernel_rfl) (by kernel_rfl) (by kernel_rfl) (fun _ _ _ h => h) (Or.inl ⟨by rfl, ?hy104⟩) (by assumption) ?_
  case hy104 => (intro w hSw; obtain ⟨hs0, hs1⟩ := hSw; go_simp; try with_reducible rfl)
  go_simp
  refine wpAnyH_take (i := 4) (v := ?v105) rfl (by kernel_rfl) (by kernel_rfl) (by kernel_rfl) (fun _ _ _ h => h) (Or.inl ⟨by rfl, ?hy105⟩) (by assumption) ?_
  case hy105 => (intro w hSw; clear hSw; go_simp; try with_reducible rfl)
  go_simp
  refine wpAnyH_take (i := 5) (v := ?v106) rfl (by kernel_rfl) (by kernel_rfl) (by kernel_rfl) (fun _ _ _ h => h) (Or.inl ⟨by rfl, ?hy106⟩) (by assumption) ?_
  case hy106 => (intro w hSw; obtain ⟨hs0, hs1⟩ := hSw; go_simp; try with_reducible rfl)
  go_simp
  refine wpAnyH_take (i := 10) (v := ?v107) rfl (by kernel_rfl) (by kernel_rfl) (by kernel_rfl) (fun _ _ _ h => h) (Or.inl ⟨by rfl, ?hy107⟩) (by assumption) ?_
  case hy107 => (intro w hSw; clear hSw; go_simp; try with_reducible rfl)
  go_simp
  refine wpAnyH_take (i := 11) (v := ?v108) rfl (by kernel_rfl) (by kernel_rfl) (by kernel_rfl) (fun _ _ _ h => h) (Or.inl ⟨by rfl, ?hy108⟩) (by assumption) ?_
  case hy108 => (intro w hSw; obtain ⟨hs0, hs1⟩ := hSw; go_simp; try with_reducible rfl)
  go_simp
  refine wpAnyH_take (i := 12) (v := ?v109) rfl (by kernel_rfl) (by kernel_rfl) (by kernel_rfl) (fun _ _ _ h => h) (Or.inl ⟨by rfl, ?hy109⟩) (by assumption) ?_
  case hy109 => (intro w hSw; clear hSw; go_simp; try with_reducible rfl)
  go_simp
  refine wpAnyH_ready (rs := [2]) (by kernel_rfl) (by simp) (AllReadyH.cons rfl (fun K hK => ?_) AllReadyH.nil)
  go_simp
  refine (rnum1_any _ _).mono ?_
  rintro e w1 ⟨rfl, hb⟩
  have B1 := Lib.hid (B0.out.trans (hb.mono B0.out.size))
  clear hb
  go_simp
  refine hK.out _ _ (HKS.out _ B1.out) (fun hHeld => ?_)
  clear hK K
  refine wpAnyH_take (i := 3) (v := ?v110) rfl (by kernel_rfl) (by kernel_rfl) (by kernel_rfl) (fun _ _ _ h => h) (Or.inl ⟨by rfl, ?hy110⟩) (by assumption) ?_
  case hy110 => (intro w hSw; clear hSw; go_simp; try with_reducible rfl)
  go_simp
  refine wpAnyH_ready (rs := [6]) (by kernel_rfl) (by simp) (AllReadyH.cons rfl (fun K hK => ?_) AllReadyH.nil)
  go_simp
  refine (rnum1_any _ _).mono ?_
  rintro e w2 ⟨rfl, hb⟩
  have B2 := Lib.hid (B1.out.trans (hb.mono B1.out.size))
  clear hb
  go_simp
  refine hK.out _ _ (HKS.out _ B2.out) (fun hHeld => ?_)
  clear hK K
  refine wpAnyH_take (i := 7) (v := ?v111) rfl (by kernel_rfl) (by kernel_rfl) (by kernel_rfl) (fun _ _ _ h => h) (Or.inl ⟨by rfl, ?hy111⟩) (by assumption) ?_
  case hy111 => (intro w hSw; clear hSw; go_simp; try with_reducible rfl)
  go_simp
  refine wpAnyH_ready (rs := [8]) (by kernel_rfl) (by simp) (AllReadyH.cons rfl (fun K hK => ?_) AllReadyH.nil)
  go_simp
  have HO0 := Lib.hid (show ObjAt W1 #[str [114, 101, 97, 100], .int .i64 4, .int .i64 a, str [], .slice none 0 0, .slice none 0 0, str [115, 116, 97, 114], .int .i64 4, .int .i64 b, str [], .slice none 0 0, .slice none 0 0] w2.heap.size (w2.alloc (.cells #[str [114, 101, 97, 100], .int .i64 4, .int .i64 a, str [], .slice none 0 0, .slice none 0 0, str [115, 116, 97, 114], .int .i64 4, .int .i64 b, str [], .slice none 0 0, .slice none 0 0] 67)) from ⟨B2.out.trans ((below_alloc _ _).mono B2.out.size), heap_alloc_new _ _⟩)
  have B3 := Lib.hid HO0.out.1
  refine hK.out _ _ (HKS.out _ B3.out) (fun hHeld => ?_)
  clear hK K
  refine wpAnyH_ready (rs := [9]) (by kernel_rfl) (by simp) (AllReadyH.cons rfl (fun K hK => ?_) AllReadyH.nil)
  go_simp
  refine (robj_any _ _ _ _).mono ?_
  rintro e w4 ⟨rfl, hb⟩
  have B4 := Lib.hid (B3.out.trans (hb.mono B3.out.size))
  have HO := Lib.hid (show ObjAt W1 #[str [114, 101, 97, 100], .int .i64 4, .int .i64 a, str [], .slice none 0 0, .slice none 0 0, str [115, 116, 97, 114], .int .i64 4, .int .i64 b, str [], .slice none 0 0, .slice none 0 0] _ w4 from ⟨B4.out, box_up HO0.out.2 hb⟩)
  clear hb
  go_simp
  refine hK.out _ _ (HKS.out _ B4.out) (fun hHeld => ?_)
  clear hK K
  refine wpAnyH_take (i := 13) (v := ?v112) rfl (by kernel_rfl) (by kernel_rfl) (by kernel_rfl) (fun _ _ _ h => h) (Or.inl ⟨by rfl, ?hy112⟩) (by assumption) ?_
  case hy112 => (intro w hSw; clear hSw; go_simp; try with_reducible rfl)
  go_simp
  refine wpAnyH_take (i := 14) (v := ?v113) rfl (by kernel_rfl) (by kernel_rfl) (by kernel_rfl) (fun _ _ _ h => h) (Or.inl ⟨by rfl, ?hy113⟩) (by assumption) ?_
  case hy113 => (intro w hSw; clear hSw; go_simp; try with_reducible rfl)
  go_simp
  refine wpAnyH_take (i := 15) (v := ?v114) rfl (by kernel_rfl) (by kernel_rfl) (by kernel_rfl) (fun _ _ _ h => h) (Or.inl ⟨by rfl, ?hy114⟩) (by assumption) ?_
  case hy114 => (intro w hSw; obtain ⟨hs0, hs1⟩ := hSw; go_simp; try with_reducible rfl)
  go_simp
  refine wpAnyH_take (i := 16) (v := ?v115) rfl (by kernel_rfl) (by kernel_rfl) (by kernel_rfl) (fun _ _ _ h => h) (Or.inl ⟨by rfl, ?hy115⟩) (by assumption) ?_
  case hy115 => (intro w hSw; clear hSw; go_simp; try with_reducible rfl)
  go_simp
  refine wpAnyH_take (i := 17) (v := ?v116) rfl (by kernel_rfl) (by kernel_rfl) (by kernel_rfl) (fun _ _ _ h => h) (Or.inl ⟨by rfl, ?hy116⟩) (by assumption) ?_
  case hy116 => (intro w hSw; clear hSw; go_simp; try with_reducible rfl)
  go_simp
  refine wpAnyH_take (i := 18) (v := ?v117) rfl (by kernel_rfl) (by kernel_rfl) (by kernel_rfl) (fun _ _ _ h => h) (Or.inl ⟨by rfl, ?hy117⟩) (by assumption) ?_
  case hy117 => (intro w hSw; clear hSw; go_simp; try with_reducible rfl)
  go_simp
  refine wpAnyH_take (i := 19) (v := undef) rfl (by kernel_rfl) (by kernel_rfl) (by kernel_rfl) (fun _ _ _ h => h) (Or.inr ⟨by rfl, rfl⟩) (by assumption) ?_
  go_simp
  refine wpAnyH_take (i := 20) (v := undef) rfl (by kernel_rfl) (by kernel_rfl) (by kernel_rfl) (fun _ _ _ h => h) (Or.inr ⟨by rfl, rfl⟩) (by assumption) ?_
  go_simp
  refine wpAnyH_take (i := 21) (v := undef) rfl (by kernel_rfl) (by kernel_rfl) (by kernel_rfl) (fun _ _ _ h => h) (Or.inr ⟨by rfl, rfl⟩) (by assumption) ?_
  go_simp
  refine wpAnyH_take (i := 22) (v := undef) rfl (by kernel_rfl) (by kernel_rfl) (by kernel_rfl) (fun _ _ _ h => h) (Or.inr ⟨by rfl, rfl⟩) (by assumption) ?_
  go_simp
  refine wpAnyH_take (i := 23) (v := undef) rfl (by kernel_rfl) (by kernel_rfl) (by kernel_rfl) (fun _ _ _ h => h) (Or.inr ⟨by rfl, rfl⟩) (by assumption) ?_
  go_simp
  refine wpAnyH_take (i := 24) (v := undef) rfl (by kernel_rfl) (by kernel_rfl) (by kernel_rfl) (fun _ _ _ h => h) (Or.inr ⟨by rfl, rfl⟩) (by assumption) ?_
  go_simp
  refine wpAnyH_take (i := 25) (v := undef) rfl (by kernel_rfl) (by kernel_rfl) (by kernel_rfl) (fun _ _ _ h => h) (Or.inr ⟨by rfl, rfl⟩) (by assumption) ?_
  go_simp
  refine wpAnyH_take (i := 26) (v := undef) rfl (by kernel_rfl) (by kernel_rfl) (by kernel_rfl) (fun _ _ _ h => h) (Or.inr ⟨by rfl, rfl⟩) (by assumption) ?_
  go_simp
  refine wpAnyH_take (i := 27) (v := ?v126) rfl (by kernel_rfl) (by kernel_rfl) (by kernel_rfl) (fun _ _ _ h => h) (Or.inl ⟨by rfl, ?hy126⟩) (by assumption) ?_
  case hy126 => (intro w hSw; clear hSw; go_simp; try with_reducible rfl)
  go_simp
  refine wpAnyH_take (i := 28) (v := ?v127) rfl (by kernel_rfl) (by kernel_rfl) (by kernel_rfl) (fun _ _ _ h => h) (Or.inl ⟨by rfl, ?hy127⟩) (by assumption) ?_
  case hy127 => (intro w hSw; clear hSw; go_simp; try with_reducible rfl)
  go_simp
  refine wpAnyH_take (i := 29) (v := undef) rfl (by kernel_rfl) (by kernel_rfl) (by kernel_rfl) (fun _ _ _ h => h) (Or.inr ⟨by rfl, rfl⟩) (by assumption) ?_
  go_simp
  refine wpAnyH_take (i := 30) (v := undef) rfl (by kernel_rfl) (by kernel_rfl) (by kernel_rfl) (fun _ _ _ h => h) (Or.inr ⟨by rfl, rfl⟩) (by assumption) ?_
  go_simp
  refine wpAnyH_take (i := 31) (v := undef) rfl (by kernel_rfl) (by kernel_rfl) (by kernel_rfl) (fun _ _ _ h => h) (Or.inr ⟨by rfl, rfl⟩) (by assumption) ?_
  go_simp
  refine wpAnyH_take (i := 32) (v := undef) rfl (by kernel_rfl) (by kernel_rfl) (by kernel_rfl) (fun _ _ _ h => h) (Or.inr ⟨by rfl, rfl⟩) (by assumption) ?_
  go_simp
  refine wpAnyH_take (i := 33) (v := undef) rfl (by kernel_rfl) (by kernel_rfl) (by kernel_rfl) (fun _ _ _ h => h) (Or.inr ⟨by rfl, rfl⟩) (by assumption) ?_
  go_simp
  refine wpAnyH_take (i := 34) (v := undef) rfl (by kernel_rfl) (by kernel_rfl) (by kernel_rfl) (fun _ _ _ h => h) (Or.inr ⟨by rfl, rfl⟩) (by assumption) ?_
  go_simp
  refine wpAnyH_take (i := 35) (v := ?v134) rfl (by kernel_rfl) (by kernel_rfl) (by kernel_rfl) (fun _ _ _ h => h) (Or.inl ⟨by rfl, ?hy134⟩) (by assumption) ?_
  case hy134 => (intro w hSw; clear hSw; go_simp; try with_reducible rfl)
  go_simp
  refine wpAnyH_ready (rs := [36]) (by kernel_rfl) (by simp) (AllReadyH.cons rfl (fun K hK => ?_) AllReadyH.nil)
  go_simp
  refine (CPX.out _ _ HO.out).mono ?_
  rintro e w5 ⟨rfl, hb⟩
  have B5 := Lib.hid hb
  clear hb
  go_simp
  refine hK.out _ _ (HKS.out _ B5.out) (fun hHeld => ?_)
  clear hK K
  refine wpAnyH_take (i := 37) (v := ?v135) rfl (by kernel_rfl) (by kernel_rfl) (by kernel_rfl) (fun _ _ _ h => h) (Or.inl ⟨by rfl, ?hy135⟩) (by assumption) ?_
  case hy135 => (intro w hSw; clear hSw; go_simp; try with_reducible rfl)
  go_simp
  refine wpAnyH_take (i := 38) (v := ?v136) rfl (by kernel_rfl) (by kernel_rfl) (by kernel_rfl) (fun _ _ _ h => h) (Or.inl ⟨by rfl, ?hy136⟩) (by assumption) ?_
  case hy136 => (intro w hSw; clear hSw; go_simp; try with_reducible rfl)
  go_simp
  refine wpAnyH_take (i := 39) (v := ?v137) rfl (by kernel_rfl) (by kernel_rfl) (by kernel_rfl) (fun _ _ _ h => h) (Or.inl ⟨by rfl, ?hy137⟩) (by assumption) ?_
  case hy137 => (intro w hSw; clear hSw; go_simp; try with_reducible rfl)
  go_simp
  refine wpAnyH_take (i := 40) (v := ?v138) rfl (by kernel_rfl) (by kernel_rfl) (by kernel_rfl) (fun _ _ _ h => h) (Or.inl ⟨by rfl, ?hy138⟩) (by assumption) ?_
  case hy138 => (intro w hSw; clear hSw; go_simp; try with_reducible rfl)
  go_simp
  refine wpAnyH_done (by kernel_rfl) ?_ _
  have HX := Lib.hid (HW.out.trans (B5.out.mono HW.out.size))
  clear HKS CPX
  go_wp2_with fail
  go_ret2
  exact ⟨rfl, HX.out⟩
set_option maxRecDepth 100000 in
set_option maxHeartbeats 16000000 in
theorem rputPutState_2 (a : Int) (b : Int) (w : World) (h1 : 0 ≤ a) (h2 : a ≤ 2) (h3 : ¬ b = 0) (h4 : ¬ b = 1) : Calls Tryd.prog 12 #[.agg #[.int .i64 a, .int .i64 b]] w fun e w' => e = .returned (.tuple #[str (refO (stateMs a b) false).1, .int .i64 (refO (stateMs a b) false).2]) ∧ Below w.heap.size w w' := by
  obtain ⟨W1, hW1⟩ : ∃ W1, W1 = w.alloc (.cells #[.int .i64 a, .int .i64 b] 39) := ⟨_, rfl⟩
  have hb1 : Below w.heap.size w W1 := by rw [hW1]; exact below_alloc _ _
  have hbx : W1.heap[w.heap.size]? = some (.cells #[.int .i64 a, .int .i64 b] 39 (0, 0)) := by rw [hW1]; exact heap_alloc_new _ _
  have HKS : Hid (∀ W', Below W1.heap.size W1 W' → SBPutState a b w.heap.size W') := Lib.hid (fun W' hb => ⟨(hb.cell (p := ⟨w.heap.size, 0, none⟩) (World.block_lt_of_cell? W1 _ (box_cell hbx 0))).trans (box_cell hbx 0), (hb.cell (p := ⟨w.heap.size, 1, none⟩) (World.block_lt_of_cell? W1 _ (box_cell hbx 1))).trans (box_cell hbx 1)⟩)
  have HW := Lib.hid hb1
  have z1 : decide (0 ≤ a) = true := decide_eq_true h1
  have z2 : decide (a ≤ 2) = true := decide_eq_true h2
  have z3 : (b == 0) = false := by rw [beq_eq_false_iff_ne]; exact h3
  have z4 : (b == 1) = false := by rw [beq_eq_false_iff_ne]; exact h4
  have CPX := Lib.hid (fun W B h => rpPutState_pr a b (W1 := W1) false W B h)
  obtain ⟨R1, hR1⟩ : ∃ R1, R1 = (refO (stateMs a b) false).1 := ⟨_, rfl⟩
  obtain ⟨R2, hR2⟩ : ∃ R2, R2 = (refO (stateMs a b) false).2 := ⟨_, rfl⟩
  rw [← hR1, ← hR2] at CPX
  rw [← hR1, ← hR2]
  clear hR1 hR2 hb1 hbx
  clear h1 h2 h3 h4
  go_enter Tryd.func12, Tryd.ntmps12
  go_upto_region 1 with fail
  rw [← hW1]
  clear hW1
  have B0 := Lib.hid (show Below W1.heap.size W1 W1.drew from Below.drewsN (Below.refl _ _) 1)
  refine wp_region_held_drew (S := SBPutState a b w.heap.size) (by kernel_rfl) (HKS.out _ B0.out) (fun hHeld => ?_)
  refine wpAnyH_take (i := 0) (v := ?v139) rfl (by kernel_rfl) (by kernel_rfl) (by kernel_rfl) (fun _ _ _ h => h) (Or.inl ⟨by rfl, ?hy139⟩) (by assumption) ?_
  case hy139 => (intro w hSw; clear hSw; go_simp; try with_reducible rfl)
  go_simp
  refine wpAnyH_take (i := 1) (v := ?v140) rfl (by kernel_rfl) (by kernel_rfl) (by kernel_rfl) (fun _ _ _ h => h) (Or.inl ⟨by rfl, ?hy140⟩) (by assumption) ?_
  case hy140 => (intro w hSw; obtain ⟨hs0, hs1⟩ := hSw; go_simp; try with_reducible rfl)
  go_simp
  refine wpAnyH_take (i := 4) (v := ?v141) rfl (by kernel_rfl) (by kernel_rfl) (by kernel_rfl) (fun _ _ _ h => h) (Or.inl ⟨by rfl, ?hy141⟩) (by assumption) ?_
  case hy141 => (intro w hSw; clear hSw; go_simp; try with_reducible rfl)
  go_simp
  refine wpAnyH_take (i := 5) (v := ?v142) rfl (by kernel_rfl) (by kernel_rfl) (by kernel_rfl) (fun _ _ _ h => h) (Or.inl ⟨by rfl, ?hy142⟩) (by assumption) ?_
  case hy142 => (intro w hSw; obtain ⟨hs0, hs1⟩ := hSw; go_simp; try with_reducible rfl)
  go_simp
  refine wpAnyH_take (i := 10) (v := ?v143) rfl (by kernel_rfl) (by kernel_rfl) (by kernel_rfl) (fun _ _ _ h => h) (Or.inl ⟨by rfl, ?hy143⟩) (by assumption) ?_
  case hy143 => (intro w hSw; clear hSw; go_simp; try with_reducible rfl)
  go_simp
  refine wpAnyH_take (i := 11) (v := ?v144) rfl (by kernel_rfl) (by kernel_rfl) (by kernel_rfl) (fun _ _ _ h => h) (Or.inl ⟨by rfl, ?hy144⟩) (by assumption) ?_
  case hy144 => (intro w hSw; obtain ⟨hs0, hs1⟩ := hSw; go_simp; try with_reducible rfl)
  go_simp
  refine wpAnyH_take (i := 12) (v := ?v145) rfl (by kernel_rfl) (by kernel_rfl) (by kernel_rfl) (fun _ _ _ h => h) (Or.inl ⟨by rfl, ?hy145⟩) (by assumption) ?_
  case hy145 => (intro w hSw; clear hSw; go_simp; try with_reducible rfl)
  go_simp
  refine wpAnyH_ready (rs := [2]) (by kernel_rfl) (by simp) (AllReadyH.cons rfl (fun K hK => ?_) AllReadyH.nil)
  go_simp
  refine (rnum1_any _ _).mono ?_
  rintro e w1 ⟨rfl, hb⟩
  have B1 := Lib.hid (B0.out.trans (hb.mono B0.out.size))
  clear hb
  go_simp
  refine hK.out _ _ (HKS.out _ B1.out) (fun hHeld => ?_)
  clear hK K
  refine wpAnyH_take (i := 3) (v := ?v146) rfl (by kernel_rfl) (by kernel_rfl) (by kernel_rfl) (fun _ _ _ h => h) (Or.inl ⟨by rfl, ?hy146⟩) (by assumption) ?_
  case hy146 => (intro w hSw; clear hSw; go_simp; try with_reducible rfl)
  go_simp
  refine wpAnyH_ready (rs := [6]) (by kernel_rfl) (by simp) (AllReadyH.cons rfl (fun K hK => ?_) AllReadyH.nil)
  go_simp
  refine (rnum1_any _ _).mono ?_
  rintro e w2 ⟨rfl, hb⟩
  have B2 := Lib.hid (B1.out.trans (hb.mono B1.out.size))
  clear hb
  go_simp
  refine hK.out _ _ (HKS.out _ B2.out) (fun hHeld => ?_)
  clear hK K
  refine wpAnyH_take (i := 7) (v := ?v147) rfl (by kernel_rfl) (by kernel_rfl) (by kernel_rfl) (fun _ _ _ h => h) (Or.inl ⟨by rfl, ?hy147⟩) (by assumption) ?_
  case hy147 => (intro w hSw; clear hSw; go_simp; try with_reducible rfl)
  go_simp
  refine wpAnyH_ready (rs := [8]) (by kernel_rfl) (by simp) (AllReadyH.cons rfl (fun K hK => ?_) AllReadyH.nil)
  go_simp
  have HO0 := Lib.hid (show ObjAt W1 #[str [114, 101, 97, 100], .int .i64 4, .int .i64 a, str [], .slice none 0 0, .slice none 0 0, str [115, 116, 97, 114], .int .i64 4, .int .i64 b, str [], .slice none 0 0, .slice none 0 0] w2.heap.size (w2.alloc (.cells #[str [114, 101, 97, 100], .int .i64 4, .int .i64 a, str [], .slice none 0 0, .slice none 0 0, str [115, 116, 97, 114], .int .i64 4, .int .i64 b, str [], .slice none 0 0, .slice none 0 0] 67)) from ⟨B2.out.trans ((below_alloc _ _).mono B2.out.size), heap_alloc_new _ _⟩)
  have B3 := Lib.hid HO0.out.1
  refine hK.out _ _ (HKS.out _ B3.out) (fun hHeld => ?_)
  clear hK K
  refine wpAnyH_ready (rs := [9]) (by kernel_rfl) (by simp) (AllReadyH.cons rfl (fun K hK => ?_) AllReadyH.nil)
  go_simp
  refine (robj_any _ _ _ _).mono ?_
  rintro e w4 ⟨rfl, hb⟩
  have B4 := Lib.hid (B3.out.trans (hb.mono B3.out.size))
  have HO := Lib.hid (show ObjAt W1 #[str [114, 101, 97, 100], .int .i64 4, .int .i64 a, str [], .slice none 0 0, .slice none 0 0, str [115, 116, 97, 114], .int .i64 4, .int .i64 b, str [], .slice none 0 0, .slice none 0 0] _ w4 from ⟨B4.out, box_up HO0.out.2 hb⟩)
  clear hb
  go_simp
  refine hK.out _ _ (HKS.out _ B4.out) (fun hHeld => ?_)
  clear hK K
  refine wpAnyH_take (i := 13) (v := ?v148) rfl (by kernel_rfl) (by kernel_rfl) (by kernel_rfl) (fun _ _ _ h => h) (Or.inl ⟨by rfl, ?hy148⟩) (by assumption) ?_
  case hy148 => (intro w hSw; clear hSw; go_simp; try with_reducible rfl)
  go_simp
  refine wpAnyH_take (i := 14) (v := ?v149) rfl (by kernel_rfl) (by kernel_rfl) (by kernel_rfl) (fun _ _ _ h => h) (Or.inl ⟨by rfl, ?hy149⟩) (by assumption) ?_
  case hy149 => (intro w hSw; clear hSw; go_simp; try with_reducible rfl)
  go_simp
  refine wpAnyH_take (i := 15) (v := ?v150) rfl (by kernel_rfl) (by kernel_rfl) (by kernel_rfl) (fun _ _ _ h => h) (Or.inl ⟨by rfl, ?hy150⟩) (by assumption) ?_
  case hy150 => (intro w hSw; obtain ⟨hs0, hs1⟩ := hSw; go_simp; try with_reducible rfl)
  go_simp
  refine wpAnyH_take (i := 16) (v := ?v151) rfl (by kernel_rfl) (by kernel_rfl) (by kernel_rfl) (fun _ _ _ h => h) (Or.inl ⟨by rfl, ?hy151⟩) (by assumption) ?_
  case hy151 => (intro w hSw; clear hSw; go_simp; try with_reducible rfl)
  go_simp
  refine wpAnyH_take (i := 17) (v := ?v152) rfl (by kernel_rfl) (by kernel_rfl) (by kernel_rfl) (fun _ _ _ h => h) (Or.inl ⟨by rfl, ?hy152⟩) (by assumption) ?_
  case hy152 => (intro w hSw; clear hSw; go_simp; try with_reducible rfl)
  go_simp
  refine wpAnyH_take (i := 18) (v := ?v153) rfl (by kernel_rfl) (by kernel_rfl) (by kernel_rfl) (fun _ _ _ h => h) (Or.inl ⟨by rfl, ?hy153⟩) (by assumption) ?_
  case hy153 => (intro w hSw; clear hSw; go_simp; try with_reducible rfl)
  go_simp
  refine wpAnyH_take (i := 19) (v := ?v154) rfl (by kernel_rfl) (by kernel_rfl) (by kernel_rfl) (fun _ _ _ h => h) (Or.inl ⟨by rfl, ?hy154⟩) (by assumption) ?_
  case hy154 => (intro w hSw; clear hSw; go_simp; try with_reducible rfl)
  go_simp
  refine wpAnyH_take (i := 20) (v := ?v155) rfl (by kernel_rfl) (by kernel_rfl) (by kernel_rfl) (fun _ _ _ h => h) (Or.inl ⟨by rfl, ?hy155⟩) (by assumption) ?_
  case hy155 => (intro w hSw; obtain ⟨hs0, hs1⟩ := hSw; go_simp; try with_reducible rfl)
  go_simp
  refine wpAnyH_take (i := 21) (v := ?v156) rfl (by kernel_rfl) (by kernel_rfl) (by kernel_rfl) (fun _ _ _ h => h) (Or.inl ⟨by rfl, ?hy156⟩) (by assumption) ?_
  case hy156 => (intro w hSw; clear hSw; go_simp; try with_reducible rfl)
  go_simp
  refine wpAnyH_take (i := 22) (v := ?v157) rfl (by kernel_rfl) (by kernel_rfl) (by kernel_rfl) (fun _ _ _ h => h) (Or.inl ⟨by rfl, ?hy157⟩) (by assumption) ?_
  case hy157 => (intro w hSw; clear hSw; go_simp; try with_reducible rfl)
  go_simp
  refine wpAnyH_take (i := 23) (v := ?v158) rfl (by kernel_rfl) (by kernel_rfl) (by kernel_rfl) (fun _ _ _ h => h) (Or.inl ⟨by rfl, ?hy158⟩) (by assumption) ?_
  case hy158 => (intro w hSw; clear hSw; go_simp; try with_reducible rfl)
  go_simp
  refine wpAnyH_take (i := 24) (v := ?v159) rfl (by kernel_rfl) (by kernel_rfl) (by kernel_rfl) (fun _ _ _ h => h) (Or.inl ⟨by rfl, ?hy159⟩) (by assumption) ?_
  case hy159 => (intro w hSw; obtain ⟨hs0, hs1⟩ := hSw; go_simp; try with_reducible rfl)
  go_simp
  refine wpAnyH_take (i := 25) (v := ?v160) rfl (by kernel_rfl) (by kernel_rfl) (by kernel_rfl) (fun _ _ _ h => h) (Or.inl ⟨by rfl, ?hy160⟩) (by assumption) ?_
  case hy160 => (intro w hSw; clear hSw; go_simp; try with_reducible rfl)
  go_simp
  refine wpAnyH_take (i := 26) (v := ?v161) rfl (by kernel_rfl) (by kernel_rfl) (by kernel_rfl) (fun _ _ _ h => h) (Or.inl ⟨by rfl, ?hy161⟩) (by assumption) ?_
  case hy161 => (intro w hSw; clear hSw; go_simp; try with_reducible rfl)
  go_simp
  refine wpAnyH_take (i := 27) (v := ?v162) rfl (by kernel_rfl) (by kernel_rfl) (by kernel_rfl) (fun _ _ _ h => h) (Or.inl ⟨by rfl, ?hy162⟩) (by assumption) ?_
  case hy162 => (intro w hSw; clear hSw; go_simp; try with_reducible rfl)
  go_simp
  refine wpAnyH_take (i := 28) (v := ?v163) rfl (by kernel_rfl) (by kernel_rfl) (by kernel_rfl) (fun _ _ _ h => h) (Or.inl ⟨by rfl, ?hy163⟩) (by assumption) ?_
  case hy163 => (intro w hSw; clear hSw; go_simp; try with_reducible rfl)
  go_simp
  refine wpAnyH_take (i := 29) (v := undef) rfl (by kernel_rfl) (by kernel_rfl) (by kernel_rfl) (fun _ _ _ h => h) (Or.inr ⟨by rfl, rfl⟩) (by assumption) ?_
  go_simp
  refine wpAnyH_take (i := 30) (v := undef) rfl (by kernel_rfl) (by kernel_rfl) (by kernel_rfl) (fun _ _ _ h => h) (Or.inr ⟨by rfl, rfl⟩) (by assumption) ?_
  go_simp
  refine wpAnyH_take (i := 31) (v := undef) rfl (by kernel_rfl) (by kernel_rfl) (by kernel_rfl) (fun _ _ _ h => h) (Or.inr ⟨by rfl, rfl⟩) (by assumption) ?_
  go_simp
  refine wpAnyH_take (i := 32) (v := undef) rfl (by kernel_rfl) (by kernel_rfl) (by kernel_rfl) (fun _ _ _ h => h) (Or.inr ⟨by rfl, rfl⟩) (by assumption) ?_
  go_simp
  refine wpAnyH_take (i := 33) (v := undef) rfl (by kernel_rfl) (by kernel_rfl) (by kernel_rfl) (fun _ _ _ h => h) (Or.inr ⟨by rfl, rfl⟩) (by assumption) ?_
  go_simp
  refine wpAnyH_take (i := 34) (v := undef) rfl (by kernel_rfl) (by kernel_rfl) (by kernel_rfl) (fun _ _ _ h => h) (Or.inr ⟨by rfl, rfl⟩) (by assumption) ?_
  go_simp
  refine wpAnyH_take (i := 35) (v := ?v170) rfl (by kernel_rfl) (by kernel_rfl) (by kernel_rfl) (fun _ _ _ h => h) (Or.inl ⟨by rfl, ?hy170⟩) (by assumption) ?_
  case hy170 => (intro w hSw; clear hSw; go_simp; try with_reducible rfl)
  go_simp
  refine wpAnyH_ready (rs := [36]) (by kernel_rfl) (by simp) (AllReadyH.cons rfl (fun K hK => ?_) AllReadyH.nil)
  go_simp
  refine (CPX.out _ _ HO.out).mono ?_
  rintro e w5 ⟨rfl, hb⟩
  have B5 := Lib.hid hb
  clear hb
  go_simp
  refine hK.out _ _ (HKS.out _ B5.out) (fun hHeld => ?_)
  clear hK K
  refine wpAnyH_take (i := 37) (v := ?v171) rfl (by kernel_rfl) (by kernel_rfl) (by kernel_rfl) (fun _ _ _ h => h) (Or.inl ⟨by rfl, ?hy171⟩) (by assumption) ?_
  case hy171 => (intro w hSw; clear hSw; go_simp; try with_reducible rfl)
  go_simp
  refine wpAnyH_take (i := 38) (v := ?v172) rfl (by kernel_rfl) (by kernel_rfl) (by kernel_rfl) (fun _ _ _ h => h) (Or.inl ⟨by rfl, ?hy172⟩) (by assumption) ?_
  case hy172 => (intro w hSw; clear hSw; go_simp; try with_reducible rfl)
  go_simp
  refine wpAnyH_take (i := 39) (v := ?v173) rfl (by kernel_rfl) (by kernel_rfl) (by kernel_rfl) (fun _ _ _ h => h) (Or.inl ⟨by rfl, ?hy173⟩) (by assumption) ?_
  case hy173 => (intro w hSw; clear hSw; go_simp; try with_reducible rfl)
  go_simp
  refine wpAnyH_take (i := 40) (v := ?v174) rfl (by kernel_rfl) (by kernel_rfl) (by kernel_rfl) (fun _ _ _ h => h) (Or.inl ⟨by rfl, ?hy174⟩) (by assumption) ?_
  case hy174 => (intro w hSw; clear hSw; go_simp; try with_reducible rfl)
  go_simp
  refine wpAnyH_done (by kernel_rfl) ?_ _
  have HX := Lib.hid (HW.out.trans (B5.out.mono HW.out.size))
  clear HKS CPX
  go_wp2_with fail
  go_ret2
  exact ⟨rfl, HX.out⟩
set_option maxRecDepth 100000 in
set_option maxHeartbeats 16000000 in
theorem rputPutState_3 (a : Int) (b : Int) (w : World) (h1 : 0 ≤ a) (h2 : a ≤ 2) (h3 : b = 0) : Calls Tryd.prog 12 #[.agg #[.int .i64 a, .int .i64 b]] w fun e w' => e = .returned (.tuple #[str (refO (stateMs a b) (decide (0 < a + b))).1, .int .i64 (refO (stateMs a b) (decide (0 < a + b))).2]) ∧ Below w.heap.size w w' := by
  obtain ⟨W1, hW1⟩ : ∃ W1, W1 = w.alloc (.cells #[.int .i64 a, .int .i64 b] 39) := ⟨_, rfl⟩
  have hb1 : Below w.heap.size w W1 := by rw [hW1]; exact below_alloc _ _
  have hbx : W1.heap[w.heap.size]? = some (.cells #[.int .i64 a, .int .i64 b] 39 (0, 0)) := by rw [hW1]; exact heap_alloc_new _ _
  have HKS : Hid (∀ W', Below W1.heap.size W1 W' → SBPutState a b w.heap.size W') := Lib.hid (fun W' hb => ⟨(hb.cell (p := ⟨w.heap.size, 0, none⟩) (World.block_lt_of_cell? W1 _ (box_cell hbx 0))).trans (box_cell hbx 0), (hb.cell (p := ⟨w.heap.size, 1, none⟩) (World.block_lt_of_cell? W1 _ (box_cell hbx 1))).trans (box_cell hbx 1)⟩)
  have HW := Lib.hid hb1
  have z1 : decide (0 ≤ a) = true := decide_eq_true h1
  have z2 : decide (a ≤ 2) = true := decide_eq_true h2
  have z3 : (b == 0) = true := by rw [h3]; rfl
  have z5 : IntKind.i64.wrap (a + b) = a + b := IntWalk.i64_in _ ⟨by omega, by omega⟩
  have CPX := Lib.hid (fun W B h => rpPutState_pr a b (W1 := W1) (decide (0 < a + b)) W B h)
  obtain ⟨R1, hR1⟩ : ∃ R1, R1 = (refO (stateMs a b) (decide (0 < a + b))).1 := ⟨_, rfl⟩
  obtain ⟨R2, hR2⟩ : ∃ R2, R2 = (refO (stateMs a b) (decide (0 < a + b))).2 := ⟨_, rfl⟩
  rw [← hR1, ← hR2] at CPX
  rw [← hR1, ← hR2]
  clear hR1 hR2 hb1 hbx
  clear h1 h2 h3
  go_enter Tryd.func12, Tryd.ntmps12
  go_upto_region 1 with fail
  rw [← hW1]
  clear hW1
  have B0 := Lib.hid (show Below W1.heap.size W1 W1.drew from Below.drewsN (Below.refl _ _) 1)
  refine wp_region_held_drew (S := SBPutState a b w.heap.size) (by kernel_rfl) (HKS.out _ B0.out) (fun hHeld => ?_)
  refine wpAnyH_take (i := 0) (v := ?v175) rfl (by kernel_rfl) (by kernel_rfl) (by kernel_rfl) (fun _ _ _ h => h) (Or.inl ⟨by rfl, ?hy175⟩) (by assumption) ?_
  case hy175 => (intro w hSw; clear hSw; go_simp; try with_reducible rfl)
  go_simp
  refine wpAnyH_take (i := 1) (v := ?v176) rfl (by kernel_rfl) (by kernel_rfl) (by kernel_rfl) (fun _ _ _ h => h) (Or.inl ⟨by rfl, ?hy176⟩) (by assumption) ?_
  case hy176 => (intro w hSw; obtain ⟨hs0, hs1⟩ := hSw; go_simp; try with_reducible rfl)
  go_simp
  refine wpAnyH_take (i := 4) (v := ?v177) rfl (by kernel_rfl) (by kernel_rfl) (by kernel_rfl) (fun _ _ _ h => h) (Or.inl ⟨by rfl, ?hy177⟩) (by assumption) ?_
  case hy177 => (intro w hSw; clear hSw; go_simp; try with_reducible rfl)
  go_simp
  refine wpAnyH_take (i := 5) (v := ?v178) rfl (by kernel_rfl) (by kernel_rfl) (by kernel_rfl) (fun _ _ _ h => h) (Or.inl ⟨by rfl, ?hy178⟩) (by assumption) ?_
  case hy178 => (intro w hSw; obtain ⟨hs0, hs1⟩ := hSw; go_simp; try with_reducible rfl)
  go_simp
  refine wpAnyH_take (i := 10) (v := ?v179) rfl (by kernel_rfl) (by kernel_rfl) (by kernel_rfl) (fun _ _ _ h => h) (Or.inl ⟨by rfl, ?hy179⟩) (by assumption) ?_
  case hy179 => (intro w hSw; clear hSw; go_simp; try with_reducible rfl)
  go_simp
  refine wpAnyH_take (i := 11) (v := ?v180) rfl (by kernel_rfl) (by kernel_rfl) (by kernel_rfl) (fun _ _ _ h => h) (Or.inl ⟨by rfl, ?hy180⟩) (by assumption) ?_
  case hy180 => (intro w hSw; obtain ⟨hs0, hs1⟩ := hSw; go_simp; try with_reducible rfl)
  go_simp
  refine wpAnyH_take (i := 12) (v := ?v181) rfl (by kernel_rfl) (by kernel_rfl) (by kernel_rfl) (fun _ _ _ h => h) (Or.inl ⟨by rfl, ?hy181⟩) (by assumption) ?_
  case hy181 => (intro w hSw; clear hSw; go_simp; try with_reducible rfl)
  go_simp
  refine wpAnyH_ready (rs := [2]) (by kernel_rfl) (by simp) (AllReadyH.cons rfl (fun K hK => ?_) AllReadyH.nil)
  go_simp
  refine (rnum1_any _ _).mono ?_
  rintro e w1 ⟨rfl, hb⟩
  have B1 := Lib.hid (B0.out.trans (hb.mono B0.out.size))
  clear hb
  go_simp
  refine hK.out _ _ (HKS.out _ B1.out) (fun hHeld => ?_)
  clear hK K
  refine wpAnyH_take (i := 3) (v := ?v182) rfl (by kernel_rfl) (by kernel_rfl) (by kernel_rfl) (fun _ _ _ h => h) (Or.inl ⟨by rfl, ?hy182⟩) (by assumption) ?_
  case hy182 => (intro w hSw; clear hSw; go_simp; try with_reducible rfl)
  go_simp
  refine wpAnyH_ready (rs := [6]) (by kernel_rfl) (by simp) (AllReadyH.cons rfl (fun K hK => ?_) AllReadyH.nil)
  go_simp
  refine (rnum1_any _ _).mono ?_
  rintro e w2 ⟨rfl, hb⟩
  have B2 := Lib.hid (B1.out.trans (hb.mono B1.out.size))
  clear hb
  go_simp
  refine hK.out _ _ (HKS.out _ B2.out) (fun hHeld => ?_)
  clear hK K
  refine wpAnyH_take (i := 7) (v := ?v183) rfl (by kernel_rfl) (by kernel_rfl) (by kernel_rfl) (fun _ _ _ h => h) (Or.inl ⟨by rfl, ?hy183⟩) (by assumption) ?_
  case hy183 => (intro w hSw; clear hSw; go_simp; try with_reducible rfl)
  go_simp
  refine wpAnyH_ready (rs := [8]) (by kernel_rfl) (by simp) (AllReadyH.cons rfl (fun K hK => ?_) AllReadyH.nil)
  go_simp
  have HO0 := Lib.hid (show ObjAt W1 #[str [114, 101, 97, 100], .int .i64 4, .int .i64 a, str [], .slice none 0 0, .slice none 0 0, str [115, 116, 97, 114], .int .i64 4, .int .i64 b, str [], .slice none 0 0, .slice none 0 0] w2.heap.size (w2.alloc (.cells #[str [114, 101, 97, 100], .int .i64 4, .int .i64 a, str [], .slice none 0 0, .slice none 0 0, str [115, 116, 97, 114], .int .i64 4, .int .i64 b, str [], .slice none 0 0, .slice none 0 0] 67)) from ⟨B2.out.trans ((below_alloc _ _).mono B2.out.size), heap_alloc_new _ _⟩)
  have B3 := Lib.hid HO0.out.1
  refine hK.out _ _ (HKS.out _ B3.out) (fun hHeld => ?_)
  clear hK K
  refine wpAnyH_ready (rs := [9]) (by kernel_rfl) (by simp) (AllReadyH.cons rfl (fun K hK => ?_) AllReadyH.nil)
  go_simp
  refine (robj_any _ _ _ _).mono ?_
  rintro e w4 ⟨rfl, hb⟩
  have B4 := Lib.hid (B3.out.trans (hb.mono B3.out.size))
  have HO := Lib.hid (show ObjAt W1 #[str [114, 101, 97, 100], .int .i64 4, .int .i64 a, str [], .slice none 0 0, .slice none 0 0, str [115, 116, 97, 114], .int .i64 4, .int .i64 b, str [], .slice none 0 0, .slice none 0 0] _ w4 from ⟨B4.out, box_up HO0.out.2 hb⟩)
  clear hb
  go_simp
  refine hK.out _ _ (HKS.out _ B4.out) (fun hHeld => ?_)
  clear hK K
  refine wpAnyH_take (i := 13) (v := ?v184) rfl (by kernel_rfl) (by kernel_rfl) (by kernel_rfl) (fun _ _ _ h => h) (Or.inl ⟨by rfl, ?hy184⟩) (by assumption) ?_
  case hy184 => (intro w hSw; clear hSw; go_simp; try with_reducible rfl)
  go_simp
  refine wpAnyH_take (i := 14) (v := ?v185) rfl (by kernel_rfl) (by kernel_rfl) (by kernel_rfl) (fun _ _ _ h => h) (Or.inl ⟨by rfl, ?hy185⟩) (by assumption) ?_
  case hy185 => (intro w hSw; clear hSw; go_simp; try with_reducible rfl)
  go_simp
  refine wpAnyH_take (i := 15) (v := ?v186) rfl (by kernel_rfl) (by kernel_rfl) (by kernel_rfl) (fun _ _ _ h => h) (Or.inl ⟨by rfl, ?hy186⟩) (by assumption) ?_
  case hy186 => (intro w hSw; obtain ⟨hs0, hs1⟩ := hSw; go_simp; try with_reducible rfl)
  go_simp
  refine wpAnyH_take (i := 16) (v := ?v187) rfl (by kernel_rfl) (by kernel_rfl) (by kernel_rfl) (fun _ _ _ h => h) (Or.inl ⟨by rfl, ?hy187⟩) (by assumption) ?_
  case hy187 => (intro w hSw; clear hSw; go_simp; try with_reducible rfl)
  go_simp
  refine wpAnyH_take (i := 17) (v := ?v188) rfl (by kernel_rfl) (by kernel_rfl) (by kernel_rfl) (fun _ _ _ h => h) (Or.inl ⟨by rfl, ?hy188⟩) (by assumption) ?_
  case hy188 => (intro w hSw; clear hSw; go_simp; try with_reducible rfl)
  go_simp
  refine wpAnyH_take (i := 18) (v := ?v189) rfl (by kernel_rfl) (by kernel_rfl) (by kernel_rfl) (fun _ _ _ h => h) (Or.inl ⟨by rfl, ?hy189⟩) (by assumption) ?_
  case hy189 => (intro w hSw; clear hSw; go_simp; try with_reducible rfl)
  go_simp
  refine wpAnyH_take (i := 19) (v := ?v190) rfl (by kernel_rfl) (by kernel_rfl) (by kernel_rfl) (fun _ _ _ h => h) (Or.inl ⟨by rfl, ?hy190⟩) (by assumption) ?_
  case hy190 => (intro w hSw; clear hSw; go_simp; try with_reducible rfl)
  go_simp
  refine wpAnyH_take (i := 20) (v := ?v191) rfl (by kernel_rfl) (by kernel_rfl) (by kernel_rfl) (fun _ _ _ h => h) (Or.inl ⟨by rfl, ?hy191⟩) (by assumption) ?_
  case hy191 => (intro w hSw; obtain ⟨hs0, hs1⟩ := hSw; go_simp; try with_reducible rfl)
  go_simp
  refine wpAnyH_take (i := 21) (v := ?v192) rfl (by kernel_rfl) (by kernel_rfl) (by kernel_rfl) (fun _ _ _ h => h) (Or.inl ⟨by rfl, ?hy192⟩) (by assumption) ?_
  case hy192 => (intro w hSw; clear hSw; go_simp; try with_reducible rfl)
  go_simp
  refine wpAnyH_take (i := 22) (v := ?v193) rfl (by kernel_rfl) (by kernel_rfl) (by kernel_rfl) (fun _ _ _ h => h) (Or.inl ⟨by rfl, ?hy193⟩) (by assumption) ?_
  case hy193 => (intro w hSw; clear hSw; go_simp; try with_reducible rfl)
  go_simp
  refine wpAnyH_take (i := 23) (v := undef) rfl (by kernel_rfl) (by kernel_rfl) (by kernel_rfl) (fun _ _ _ h => h) (Or.inr ⟨by rfl, rfl⟩) (by assumption) ?_
  go_simp
  refine wpAnyH_take (i := 24) (v := undef) rfl (by kernel_rfl) (by kernel_rfl) (by kernel_rfl) (fun _ _ _ h => h) (Or.inr ⟨by rfl, rfl⟩) (by assumption) ?_
  go_simp
  refine wpAnyH_take (i := 25) (v := undef) rfl (by kernel_rfl) (by kernel_rfl) (by kernel_rfl) (fun _ _ _ h => h) (Or.inr ⟨by rfl, rfl⟩) (by assumption) ?_
  go_simp
  refine wpAnyH_take (i := 26) (v := ?v197) rfl (by kernel_rfl) (by kernel_rfl) (by kernel_rfl) (fun _ _ _ h => h) (Or.inl ⟨by rfl, ?hy197⟩) (by assumption) ?_
  case hy197 => (intro w hSw; clear hSw; go_simp; try with_reducible rfl)
  go_simp
  refine wpAnyH_take (i := 27) (v := ?v198) rfl (by kernel_rfl) (by kernel_rfl) (by kernel_rfl) (fun _ _ _ h => h) (Or.inl ⟨by rfl, ?hy198⟩) (by assumption) ?_
  case hy198 => (intro w hSw; clear hSw; go_simp; try with_reducible rfl)
  go_simp
  refine wpAnyH_take (i := 28) (v := ?v199) rfl (by kernel_rfl) (by kernel_rfl) (by kernel_rfl) (fun _ _ _ h => h) (Or.inl ⟨by rfl, ?hy199⟩) (by assumption) ?_
  case hy199 => (intro w hSw; clear hSw; go_simp; try with_reducible rfl)
  go_simp
  refine wpAnyH_take (i := 29) (v := ?v200) rfl (by kernel_rfl) (by kernel_rfl) (by kernel_rfl) (fun _ _ _ h => h) (Or.inl ⟨by rfl, ?hy200⟩) (by assumption) ?_
  case hy200 => (intro w hSw; clear hSw; go_simp; try with_reducible rfl)
  go_simp
  refine wpAnyH_take (i := 30) (v := ?v201) rfl (by kernel_rfl) (by kernel_rfl) (by kernel_rfl) (fun _ _ _ h => h) (Or.inl ⟨by rfl, ?hy201⟩) (by assumption) ?_
  case hy201 => (intro w hSw; obtain ⟨hs0, hs1⟩ := hSw; go_simp; try with_reducible rfl)
  go_simp
  refine wpAnyH_take (i := 31) (v := ?v202) rfl (by kernel_rfl) (by kernel_rfl) (by kernel_rfl) (fun _ _ _ h => h) (Or.inl ⟨by rfl, ?hy202⟩) (by assumption) ?_
  case hy202 => (intro w hSw; clear hSw; go_simp; try with_reducible rfl)
  go_simp
  refine wpAnyH_take (i := 32) (v := ?v203) rfl (by kernel_rfl) (by kernel_rfl) (by kernel_rfl) (fun _ _ _ h => h) (Or.inl ⟨by rfl, ?hy203⟩) (by assumption) ?_
  case hy203 => (intro w hSw; obtain ⟨hs0, hs1⟩ := hSw; go_simp; try with_reducible rfl)
  go_simp
  refine wpAnyH_take (i := 33) (v := ?v204) rfl (by kernel_rfl) (by kernel_rfl) (by kernel_rfl) (fun _ _ _ h => h) (Or.inl ⟨by rfl, ?hy204⟩) (by assumption) ?_
  case hy204 => (intro w hSw; clear hSw; go_simp; try with_reducible rfl)
  go_simp
  refine wpAnyH_take (i := 34) (v := ?v205) rfl (by kernel_rfl) (by kernel_rfl) (by kernel_rfl) (fun _ _ _ h => h) (Or.inl ⟨by rfl, ?hy205⟩) (by assumption) ?_
  case hy205 => (intro w hSw; clear hSw; go_simp; try with_reducible rfl)
  go_simp
  refine wpAnyH_take (i := 35) (v := ?v206) rfl (by kernel_rfl) (by kernel_rfl) (by kernel_rfl) (fun _ _ _ h => h) (Or.inl ⟨by rfl, ?hy206⟩) (by assumption) ?_
  case hy206 => (intro w hSw; clear hSw; go_simp; try with_reducible rfl)
  go_simp
  refine wpAnyH_ready (rs := [36]) (by kernel_rfl) (by simp) (AllReadyH.cons rfl (fun K hK => ?_) AllReadyH.nil)
  go_simp
  refine (CPX.out _ _ HO.out).mono ?_
  rintro e w5 ⟨rfl, hb⟩
  have B5 := Lib.hid hb
  clear hb
  go_simp
  refine hK.out _ _ (HKS.out _ B5.out) (fun hHeld => ?_)
  clear hK K
  refine wpAnyH_take (i := 37) (v := ?v207) rfl (by kernel_rfl) (by kernel_rfl) (by kernel_rfl) (fun _ _ _ h => h) (Or.inl ⟨by rfl, ?hy207⟩) (by assumption) ?_
  case hy207 => (intro w hSw; clear hSw; go_simp; try with_reducible rfl)
  go_simp
  refine wpAnyH_take (i := 38) (v := ?v208) rfl (by kernel_rfl) (by kernel_rfl) (by kernel_rfl) (fun _ _ _ h => h) (Or.inl ⟨by rfl, ?hy208⟩) (by assumption) ?_
  case hy208 => (intro w hSw; clear hSw; go_simp; try with_reducible rfl)
  go_simp
  refine wpAnyH_take (i := 39) (v := ?v209) rfl (by kernel_rfl) (by kernel_rfl) (by kernel_rfl) (fun _ _ _ h => h) (Or.inl ⟨by rfl, ?hy209⟩) (by assumption) ?_
  case hy209 => (intro w hSw; clear hSw; go_simp; try with_reducible rfl)
  go_simp
  refine wpAnyH_take (i := 40) (v := ?v210) rfl (by kernel_rfl) (by kernel_rfl) (by kernel_rfl) (fun _ _ _ h => h) (Or.inl ⟨by rfl, ?hy210⟩) (by assumption) ?_
  case hy210 => (intro w hSw; clear hSw; go_simp; try with_reducible rfl)
  go_simp
  refine wpAnyH_done (by kernel_rfl) ?_ _
  have HX := Lib.hid (HW.out.trans (B5.out.mono HW.out.size))
  clear HKS CPX
  go_wp2_with fail
  go_ret2
  exact ⟨rfl, HX.out⟩
set_option maxRecDepth 100000 in
set_option maxHeartbeats 16000000 in
theorem rputPutState_4 (a : Int) (b : Int) (w : World) (h1 : 0 ≤ a) (h2 : a ≤ 2) (h3 : b = 1) : Calls Tryd.prog 12 #[.agg #[.int .i64 a, .int .i64 b]] w fun e w' => e = .returned (.tuple #[str (refO (stateMs a b) (decide (0 < a + b))).1, .int .i64 (refO (stateMs a b) (decide (0 < a + b))).2]) ∧ Below w.heap.size w w' := by
  obtain ⟨W1, hW1⟩ : ∃ W1, W1 = w.alloc (.cells #[.int .i64 a, .int .i64 b] 39) := ⟨_, rfl⟩
  have hb1 : Below w.heap.size w W1 := by rw [hW1]; exact below_alloc _ _
  have hbx : W1.heap[w.heap.size]? = some (.cells #[.int .i64 a, .int .i64 b] 39 (0, 0)) := by rw [hW1]; exact heap_alloc_new _ _
  have HKS : Hid (∀ W', Below W1.heap.size W1 W' → SBPutState a b w.heap.size W') := Lib.hid (fun W' hb => ⟨(hb.cell (p := ⟨w.heap.size, 0, none⟩) (World.block_lt_of_cell? W1 _ (box_cell hbx 0))).trans (box_cell hbx 0), (hb.cell (p := ⟨w.heap.size, 1, none⟩) (World.block_lt_of_cell? W1 _ (box_cell hbx 1))).trans (box_cell hbx 1)⟩)
  have HW := Lib.hid hb1
  have z1 : decide (0 ≤ a) = true := decide_eq_true h1
  have z2 : decide (a ≤ 2) = true := decide_eq_true h2
  have z3 : (b == 0) = false := by rw [h3]; rfl
  have z4 : (b == 1) = true := by rw [h3]; rfl
  have z5 : IntKind.i64.wrap (a + b) = a + b := IntWalk.i64_in _ ⟨by omega, by omega⟩
  have CPX := Lib.hid (fun W B h => rpPutState_pr a b (W1 := W1) (decide (0 < a + b)) W B h)
  obtain ⟨R1, hR1⟩ : ∃ R1, R1 = (refO (stateMs a b) (decide (0 < a + b))).1 := ⟨_, rfl⟩
  obtain ⟨R2, hR2⟩ : ∃ R2, R2 = (refO (stateMs a b) (decide (0 < a + b))).2 := ⟨_, rfl⟩
  rw [← hR1, ← hR2] at CPX
  rw [← hR1, ← hR2]
  clear hR1 hR2 hb1 hbx
  clear h1 h2 h3
  go_enter Tryd.func12, Tryd.ntmps12
  go_upto_region 1 with fail
  rw [← hW1]
  clear hW1
  have B0 := Lib.hid (show Below W1.heap.size W1 W1.drew from Below.drewsN (Below.refl _ _) 1)
  refine wp_region_held_drew (S := SBPutState a b w.heap.size) (by kernel_rfl) (HKS.out _ B0.out) (fun hHeld => ?_)
  refine wpAnyH_take (i := 0) (v := ?v211) rfl (by kernel_rfl) (by kernel_rfl) (by kernel_rfl) (fun _ _ _ h => h) (Or.inl ⟨by rfl, ?hy211⟩) (by assumption) ?_
  case hy211 => (intro w hSw; clear hSw; go_simp; try with_reducible rfl)
  go_simp
  refine wpAnyH_take (i := 1) (v := ?v212) rfl (by kernel_rfl) (by kernel_rfl) (by kernel_rfl) (fun _ _ _ h => h) (Or.inl ⟨by rfl, ?hy212⟩) (by assumption) ?_
  case hy212 => (intro w hSw; obtain ⟨hs0, hs1⟩ := hSw; go_simp; try with_reducible rfl)
  go_simp
  refine wpAnyH_take (i := 4) (v := ?v213) rfl (by kernel_rfl) (by kernel_rfl) (by kernel_rfl) (fun _ _ _ h => h) (Or.inl ⟨by rfl, ?hy213⟩) (by assumption) ?_
  case hy213 => (intro w hSw; clear hSw; go_simp; try with_reducible rfl)
  go_simp
  refine wpAnyH_take (i := 5) (v := ?v214) rfl (by kernel_rfl) (by kernel_rfl) (by kernel_rfl) (fun _ _ _ h => h) (Or.inl ⟨by rfl, ?hy214⟩) (by assumption) ?_
  case hy214 => (intro w hSw; obtain ⟨hs0, hs1⟩ := hSw; go_simp; try with_reducible rfl)
  go_simp
  refine wpAnyH_take (i := 10) (v := ?v215) rfl (by kernel_rfl) (by kernel_rfl) (by kernel_rfl) (fun _ _ _ h => h) (Or.inl ⟨by rfl, ?hy215⟩) (by assumption) ?_
  case hy215 => (intro w hSw; clear hSw; go_simp; try with_reducible rfl)
  go_simp
  refine wpAnyH_take (i := 11) (v := ?v216) rfl (by kernel_rfl) (by kernel_rfl) (by kernel_rfl) (fun _ _ _ h => h) (Or.inl ⟨by rfl, ?hy216⟩) (by assumption) ?_
  case hy216 => (intro w hSw; obtain ⟨hs0, hs1⟩ := hSw; go_simp; try with_reducible rfl)
  go_simp
  refine wpAnyH_take (i := 12) (v := ?v217) rfl (by kernel_rfl) (by kernel_rfl) (by kernel_rfl) (fun _ _ _ h => h) (Or.inl ⟨by rfl, ?hy217⟩) (by assumption) ?_
  case hy217 => (intro w hSw; clear hSw; go_simp; try with_reducible rfl)
  go_simp
  refine wpAnyH_ready (rs := [2]) (by kernel_rfl) (by simp) (AllReadyH.cons rfl (fun K hK => ?_) AllReadyH.nil)
  go_simp
  refine (rnum1_any _ _).mono ?_
  rintro e w1 ⟨rfl, hb⟩
  have B1 := Lib.hid (B0.out.trans (hb.mono B0.out.size))
  clear hb
  go_simp
  refine hK.out _ _ (HKS.out _ B1.out) (fun hHeld => ?_)
  clear hK K
  refine wpAnyH_take (i := 3) (v := ?v218) rfl (by kernel_rfl) (by kernel_rfl) (by kernel_rfl) (fun _ _ _ h => h) (Or.inl ⟨by rfl, ?hy218⟩) (by assumption) ?_
  case hy218 => (intro w hSw; clear hSw; go_simp; try with_reducible rfl)
  go_simp
  refine wpAnyH_ready (rs := [6]) (by kernel_rfl) (by simp) (AllReadyH.cons rfl (fun K hK => ?_) AllReadyH.nil)
  go_simp
  refine (rnum1_any _ _).mono ?_
  rintro e w2 ⟨rfl, hb⟩
  have B2 := Lib.hid (B1.out.trans (hb.mono B1.out.size))
  clear hb
  go_simp
  refine hK.out _ _ (HKS.out _ B2.out) (fun hHeld => ?_)
  clear hK K
  refine wpAnyH_take (i := 7) (v := ?v219) rfl (by kernel_rfl) (by kernel_rfl) (by kernel_rfl) (fun _ _ _ h => h) (Or.inl ⟨by rfl, ?hy219⟩) (by assumption) ?_
  case hy219 => (intro w hSw; clear hSw; go_simp; try with_reducible rfl)
  go_simp
  refine wpAnyH_ready (rs := [8]) (by kernel_rfl) (by simp) (AllReadyH.cons rfl (fun K hK => ?_) AllReadyH.nil)
  go_simp
  have HO0 := Lib.hid (show ObjAt W1 #[str [114, 101, 97, 100], .int .i64 4, .int .i64 a, str [], .slice none 0 0, .slice none 0 0, str [115, 116, 97, 114], .int .i64 4, .int .i64 b, str [], .slice none 0 0, .slice none 0 0] w2.heap.size (w2.alloc (.cells #[str [114, 101, 97, 100], .int .i64 4, .int .i64 a, str [], .slice none 0 0, .slice none 0 0, str [115, 116, 97, 114], .int .i64 4, .int .i64 b, str [], .slice none 0 0, .slice none 0 0] 67)) from ⟨B2.out.trans ((below_alloc _ _).mono B2.out.size), heap_alloc_new _ _⟩)
  have B3 := Lib.hid HO0.out.1
  refine hK.out _ _ (HKS.out _ B3.out) (fun hHeld => ?_)
  clear hK K
  refine wpAnyH_ready (rs := [9]) (by kernel_rfl) (by simp) (AllReadyH.cons rfl (fun K hK => ?_) AllReadyH.nil)
  go_simp
  refine (robj_any _ _ _ _).mono ?_
  rintro e w4 ⟨rfl, hb⟩
  have B4 := Lib.hid (B3.out.trans (hb.mono B3.out.size))
  have HO := Lib.hid (show ObjAt W1 #[str [114, 101, 97, 100], .int .i64 4, .int .i64 a, str [], .slice none 0 0, .slice none 0 0, str [115, 116, 97, 114], .int .i64 4, .int .i64 b, str [], .slice none 0 0, .slice none 0 0] _ w4 from ⟨B4.out, box_up HO0.out.2 hb⟩)
  clear hb
  go_simp
  refine hK.out _ _ (HKS.out _ B4.out) (fun hHeld => ?_)
  clear hK K
  refine wpAnyH_take (i := 13) (v := ?v220) rfl (by kernel_rfl) (by kernel_rfl) (by kernel_rfl) (fun _ _ _ h => h) (Or.inl ⟨by rfl, ?hy220⟩) (by assumption) ?_
  case hy220 => (intro w hSw; clear hSw; go_simp; try with_reducible rfl)
  go_simp
  refine wpAnyH_take (i := 14) (v := ?v221) rfl (by kernel_rfl) (by kernel_rfl) (by kernel_rfl) (fun _ _ _ h => h) (Or.inl ⟨by rfl, ?hy221⟩) (by assumption) ?_
  case hy221 => (intro w hSw; clear hSw; go_simp; try with_reducible rfl)
  go_simp
  refine wpAnyH_take (i := 15) (v := ?v222) rfl (by kernel_rfl) (by kernel_rfl) (by kernel_rfl) (fun _ _ _ h => h) (Or.inl ⟨by rfl, ?hy222⟩) (by assumption) ?_
  case hy222 => (intro w hSw; obtain ⟨hs0, hs1⟩ := hSw; go_simp; try with_reducible rfl)
  go_simp
  refine wpAnyH_take (i := 16) (v := ?v223) rfl (by kernel_rfl) (by kernel_rfl) (by kernel_rfl) (fun _ _ _ h => h) (Or.inl ⟨by rfl, ?hy223⟩) (by assumption) ?_
  case hy223 => (intro w hSw; clear hSw; go_simp; try with_reducible rfl)
  go_simp
  refine wpAnyH_take (i := 17) (v := ?v224) rfl (by kernel_rfl) (by kernel_rfl) (by kernel_rfl) (fun _ _ _ h => h) (Or.inl ⟨by rfl, ?hy224⟩) (by assumption) ?_
  case hy224 => (intro w hSw; clear hSw; go_simp; try with_reducible rfl)
  go_simp
  refine wpAnyH_take (i := 18) (v := ?v225) rfl (by kernel_rfl) (by kernel_rfl) (by kernel_rfl) (fun _ _ _ h => h) (Or.inl ⟨by rfl, ?hy225⟩) (by assumption) ?_
  case hy225 => (intro w hSw; clear hSw; go_simp; try with_reducible rfl)
  go_simp
  refine wpAnyH_take (i := 19) (v := ?v226) rfl (by kernel_rfl) (by kernel_rfl) (by kernel_rfl) (fun _ _ _ h => h) (Or.inl ⟨by rfl, ?hy226⟩) (by assumption) ?_
  case hy226 => (intro w hSw; clear hSw; go_simp; try with_reducible rfl)
  go_simp
  refine wpAnyH_take (i := 20) (v := ?v227) rfl (by kernel_rfl) (by kernel_rfl) (by kernel_rfl) (fun _ _ _ h => h) (Or.inl ⟨by rfl, ?hy227⟩) (by assumption) ?_
  case hy227 => (intro w hSw; obtain ⟨hs0, hs1⟩ := hSw; go_simp; try with_reducible rfl)
  go_simp
  refine wpAnyH_take (i := 21) (v := ?v228) rfl (by kernel_rfl) (by kernel_rfl) (by kernel_rfl) (fun _ _ _ h => h) (Or.inl ⟨by rfl, ?hy228⟩) (by assumption) ?_
  case hy228 => (intro w hSw; clear hSw; go_simp; try with_reducible rfl)
  go_simp
  refine wpAnyH_take (i := 22) (v := ?v229) rfl (by kernel_rfl) (by kernel_rfl) (by kernel_rfl) (fun _ _ _ h => h) (Or.inl ⟨by rfl, ?hy229⟩) (by assumption) ?_
  case hy229 => (intro w hSw; clear hSw; go_simp; try with_reducible rfl)
  go_simp
  refine wpAnyH_take (i := 23) (v := ?v230) rfl (by kernel_rfl) (by kernel_rfl) (by kernel_rfl) (fun _ _ _ h => h) (Or.inl ⟨by rfl, ?hy230⟩) (by assumption) ?_
  case hy230 => (intro w hSw; clear hSw; go_simp; try with_reducible rfl)
  go_simp
  refine wpAnyH_take (i := 24) (v := ?v231) rfl (by kernel_rfl) (by kernel_rfl) (by kernel_rfl) (fun _ _ _ h => h) (Or.inl ⟨by rfl, ?hy231⟩) (by assumption) ?_
  case hy231 => (intro w hSw; obtain ⟨hs0, hs1⟩ := hSw; go_simp; try with_reducible rfl)
  go_simp
  refine wpAnyH_take (i := 25) (v := ?v232) rfl (by kernel_rfl) (by kernel_rfl) (by kernel_rfl) (fun _ _ _ h => h) (Or.inl ⟨by rfl, ?hy232⟩) (by assumption) ?_
  case hy232 => (intro w hSw; clear hSw; go_simp; try with_reducible rfl)
  go_simp
  refine wpAnyH_take (i := 26) (v := ?v233) rfl (by kernel_rfl) (by kernel_rfl) (by kernel_rfl) (fun _ _ _ h => h) (Or.inl ⟨by rfl, ?hy233⟩) (by assumption) ?_
  case hy233 => (intro w hSw; clear hSw; go_simp; try with_reducible rfl)
  go_simp
  refine wpAnyH_take (i := 27) (v := ?v234) rfl (by kernel_rfl) (by kernel_rfl) (by kernel_rfl) (fun _ _ _ h => h) (Or.inl ⟨by rfl, ?hy234⟩) (by assumption) ?_
  case hy234 => (intro w hSw; clear hSw; go_simp; try with_reducible rfl)
  go_simp
  refine wpAnyH_take (i := 28) (v := ?v235) rfl (by kernel_rfl) (by kernel_rfl) (by kernel_rfl) (fun _ _ _ h => h) (Or.inl ⟨by rfl, ?hy235⟩) (by assumption) ?_
  case hy235 => (intro w hSw; clear hSw; go_simp; try with_reducible rfl)
  go_simp
  refine wpAnyH_take (i := 29) (v := ?v236) rfl (by kernel_rfl) (by kernel_rfl) (by kernel_rfl) (fun _ _ _ h => h) (Or.inl ⟨by rfl, ?hy236⟩) (by assumption) ?_
  case hy236 => (intro w hSw; clear hSw; go_simp; try with_reducible rfl)
  go_simp
  refine wpAnyH_take (i := 30) (v := ?v237) rfl (by kernel_rfl) (by kernel_rfl) (by kernel_rfl) (fun _ _ _ h => h) (Or.inl ⟨by rfl, ?hy237⟩) (by assumption) ?_
  case hy237 => (intro w hSw; obtain ⟨hs0, hs1⟩ := hSw; go_simp; try with_reducible rfl)
  go_simp
  refine wpAnyH_take (i := 31) (v := ?v238) rfl (by kernel_rfl) (by kernel_rfl) (by kernel_rfl) (fun _ _ _ h => h) (Or.inl ⟨by rfl, ?hy238⟩) (by assumption) ?_
  case hy238 => (intro w hSw; clear hSw; go_simp; try with_reducible rfl)
  go_simp
  refine wpAnyH_take (i := 32) (v := ?v239) rfl (by kernel_rfl) (by kernel_rfl) (by kernel_rfl) (fun _ _ _ h => h) (Or.inl ⟨by rfl, ?hy239⟩) (by assumption) ?_
  case hy239 => (intro w hSw; obtain ⟨hs0, hs1⟩ := hSw; go_simp; try with_reducible rfl)
  go_simp
  refine wpAnyH_take (i := 33) (v := ?v240) rfl (by kernel_rfl) (by kernel_rfl) (by kernel_rfl) (fun _ _ _ h => h) (Or.inl ⟨by rfl, ?hy240⟩) (by assumption) ?_
  case hy240 => (intro w hSw; clear hSw; go_simp; try with_reducible rfl)
  go_simp
  refine wpAnyH_take (i := 34) (v := ?v241) rfl (by kernel_rfl) (by kernel_rfl) (by kernel_rfl) (fun _ _ _ h => h) (Or.inl ⟨by rfl, ?hy241⟩) (by assumption) ?_
  case hy241 => (intro w hSw; clear hSw; go_simp; try with_reducible rfl)
  go_simp
  refine wpAnyH_take (i := 35) (v := ?v242) rfl (by kernel_rfl) (by kernel_rfl) (by kernel_rfl) (fun _ _ _ h => h) (Or.inl ⟨by rfl, ?hy242⟩) (by assumption) ?_
  case hy242 => (intro w hSw; clear hSw; go_simp; try with_reducible rfl)
  go_simp
  refine wpAnyH_ready (rs := [36]) (by kernel_rfl) (by simp) (AllReadyH.cons rfl (fun K hK => ?_) AllReadyH.nil)
  go_simp
  refine (CPX.out _ _ HO.out).mono ?_
  rintro e w5 ⟨rfl, hb⟩
  have B5 := Lib.hid hb
  clear hb
  go_simp
  refine hK.out _ _ (HKS.out _ B5.out) (fun hHeld => ?_)
  clear hK K
  refine wpAnyH_take (i := 37) (v := ?v243) rfl (by kernel_rfl) (by kernel_rfl) (by kernel_rfl) (fun _ _ _ h => h) (Or.inl ⟨by rfl, ?hy243⟩) (by assumption) ?_
  case hy243 => (intro w hSw; clear hSw; go_simp; try with_reducible rfl)
  go_simp
  refine wpAnyH_take (i := 38) (v := ?v244) rfl (by kernel_rfl) (by kernel_rfl) (by kernel_rfl) (fun _ _ _ h => h) (Or.inl ⟨by rfl, ?hy244⟩) (by assumption) ?_
  case hy244 => (intro w hSw; clear hSw; go_simp; try with_reducible rfl)
  go_simp
  refine wpAnyH_take (i := 39) (v := ?v245) rfl (by kernel_rfl) (by kernel_rfl) (by kernel_rfl) (fun _ _ _ h => h) (Or.inl ⟨by rfl, ?hy245⟩) (by assumption) ?_
  case hy245 => (intro w hSw; clear hSw; go_simp; try with_reducible rfl)
  go_simp
  refine wpAnyH_take (i := 40) (v := ?v246) rfl (by kernel_rfl) (by kernel_rfl) (by kernel_rfl) (fun _ _ _ h => h) (Or.inl ⟨by rfl, ?hy246⟩) (by assumption) ?_
  case hy246 => (intro w hSw; clear hSw; go_simp; try with_reducible rfl)
  go_simp
  refine wpAnyH_done (by kernel_rfl) ?_ _
  have HX := Lib.hid (HW.out.trans (B5.out.mono HW.out.size))
  clear HKS CPX
  go_wp2_with fail
  go_ret2
  exact ⟨rfl, HX.out⟩
end Go.Proofs.YtjnejbeeoepdnaaDoor
