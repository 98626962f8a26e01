/- hblref14.PutEntry: they tell what rows' do. -/
import Derived.Test.YtjnejbeeoepdnaaDoorRjRows0
import Derived.Test.YtjnejbeeoepdnaaDoorRwEnt
import Derived.Deep.RegionHeld
namespace Go.Proofs.YtjnejbeeoepdnaaDoor
open Go.RowKit

theorem ent_st {g l t : List UInt8} {n : Int} (hg : g.length ≤ 9223372036854775807) (hl : l.length ≤ 9223372036854775807) (ht : t.length ≤ 9223372036854775807) : stM (entMs g l t n) := by
  unfold entMs
  simp [stM, stV, stL, guidN, linkN, titleN, whenN, hg, hl, ht]
theorem ent_lenM {g l t : List UInt8} {n : Int} (h : mayV (.mk 7 0 [] [] (entMs g l t n)) 64 = true) : (prV (.mk 7 0 [] [] (entMs g l t n))).length ≤ 1000000 := by
  have hm := mayM_mem (may_parts h).2.2.2.2
  have hx : txF g = true := (may_parts (hm (guidN, .mk 5 0 g [] []) (by show _ ∈ entMs g l t n; simp [entMs])).2).2.2.1
  have hy : txF l = true := (may_parts (hm (linkN, .mk 5 0 l [] []) (by show _ ∈ entMs g l t n; simp [entMs])).2).2.2.1
  have hz : txF t = true := (may_parts (hm (titleN, .mk 5 0 t [] []) (by show _ ∈ entMs g l t n; simp [entMs])).2).2.2.1
  have hn : -9007199254740991 ≤ n ∧ n ≤ 9007199254740991 := (may_parts (hm (whenN, .mk 4 n [] [] []) (by show _ ∈ entMs g l t n; simp [entMs])).2).2.1
  have h1 := quo_len g hx
  have h1b := quo_len l hy
  have h1c := quo_len t hz
  have q1 : (quo guidN).length = 6 := by decide
  have q2 : (quo linkN).length = 6 := by decide
  have q3 : (quo titleN).length = 7 := by decide
  have q4 : (quo whenN).length = 6 := by decide
  have h4 := itoa_len (n := n) (by omega)
  have e1 : prV (.mk 5 0 g [] []) = quo g := rfl
  have e2 : prV (.mk 5 0 l [] []) = quo l := rfl
  have e3 : prV (.mk 5 0 t [] []) = quo t := rfl
  have e4 : prV (.mk 4 n [] [] []) = Lib.itoa n := rfl
  have e : prV (.mk 7 0 [] [] (entMs g l t n)) = 123 :: ((prU (entMs g l t n)).drop 1 ++ [125]) := rfl
  rw [e]
  simp [entMs, prU, e1, e2, e3, e4, q1, q2, q3, q4]
  omega
set_option maxRecDepth 100000 in
/-- The text of the members, printed. -/
theorem rpPutEntry_pr (g : List UInt8) (t : List UInt8) (l : List UInt8) (n : Int) (hg : g.length ≤ 9223372036854775807) (hl : l.length ≤ 9223372036854775807) (ht : t.length ≤ 9223372036854775807) {W1 : World} (ok : Bool) (W : World) (B : Nat) (h : ObjAt W1 #[str [103, 117, 105, 100], .int .i64 5, .int .i64 0, str g, .slice none 0 0, .slice none 0 0, str [108, 105, 110, 107], .int .i64 5, .int .i64 0, str l, .slice none 0 0, .slice none 0 0, str [116, 105, 116, 108, 101], .int .i64 5, .int .i64 0, str t, .slice none 0 0, .slice none 0 0, str [119, 104, 101, 110], .int .i64 4, .int .i64 n, str [], .slice none 0 0, .slice none 0 0] B W) : Calls Tryd.prog 21 #[.agg #[.int .i64 7, .int .i64 0, str [], .slice none 0 0, .slice (some ⟨B, 0, none⟩) 4 4], .bool ok] W fun e w' => e = .returned (.tuple #[str (refO (entMs g l t n) ok).1, .int .i64 (refO (entMs g l t n) ok).2]) ∧ Below W1.heap.size W1 w' := by
  refine (rprinted_any (entMs g l t n) ok (ent_st hg hl ht) ent_lenM (fun _ => True) W _ (RdJ.mk0 (v := .mk 7 0 [] [] (entMs g l t n)) (RdFB.nil _ _ _) (by unfold RdL; trivial) (RdFB.lit6 [[str [103, 117, 105, 100], .int .i64 5, .int .i64 0, str g, .slice none 0 0, .slice none 0 0], [str [108, 105, 110, 107], .int .i64 5, .int .i64 0, str l, .slice none 0 0, .slice none 0 0], [str [116, 105, 116, 108, 101], .int .i64 5, .int .i64 0, str t, .slice none 0 0, .slice none 0 0], [str [119, 104, 101, 110], .int .i64 4, .int .i64 n, str [], .slice none 0 0, .slice none 0 0]] (by simp) h.2 rfl (by simp) trivial) (by
    show RdM W (fun _ => True) (entMs g l t n) _
    unfold entMs RdM
    refine ⟨⟨_, rfl, plainJ _ _ _ _ _⟩, ?_⟩
    unfold RdM
    refine ⟨⟨_, rfl, plainJ _ _ _ _ _⟩, ?_⟩
    unfold RdM
    refine ⟨⟨_, rfl, plainJ _ _ _ _ _⟩, ?_⟩
    unfold RdM
    refine ⟨⟨_, rfl, plainJ _ _ _ _ _⟩, ?_⟩
    unfold RdM
    trivial))).mono ?_
  rintro e w' ⟨rfl, h'⟩
  exact ⟨rfl, h.1.trans (h'.mono h.1.size)⟩
def SBPutEntry (m : Int) (g : List UInt8) (t : List UInt8) (l : List UInt8) (n : Int) (w0 : Nat) (W : World) : Prop := W.cell? ⟨w0, 0, none⟩ = some (.int .i64 m) ∧ W.cell? ⟨w0, 1, none⟩ = some (str g) ∧ W.cell? ⟨w0, 2, none⟩ = some (str t) ∧ W.cell? ⟨w0, 3, none⟩ = some (str l) ∧ W.cell? ⟨w0, 4, none⟩ = some (.int .i64 n)
set_option maxRecDepth 100000 in
set_option maxHeartbeats 16000000 in
theorem rputPutEntry_0 (m : Int) (g : List UInt8) (t : List UInt8) (l : List UInt8) (n : Int) (w : World) (hg : g.length ≤ 9223372036854775807) (hl : l.length ≤ 9223372036854775807) (ht : t.length ≤ 9223372036854775807) (h0 : (g == []) = true) : Calls Tryd.prog 8 #[.agg #[.int .i64 m, str g, str t, str l, .int .i64 n]] w fun e w' => e = .returned (.tuple #[str (refO (entMs g l t n) false).1, .int .i64 (refO (entMs g l t n) false).2]) ∧ Below w.heap.size w w' := by
  obtain ⟨W1, hW1⟩ : ∃ W1, W1 = w.alloc (.cells #[.int .i64 m, str g, str t, str l, .int .i64 n] 25) := ⟨_, rfl⟩
  have hb1 : Below w.heap.size w W1 := by rw [hW1]; exact below_alloc _ _
  have hbx : W1.heap[w.heap.size]? = some (.cells #[.int .i64 m, str g, str t, str l, .int .i64 n] 25 (0, 0)) := by rw [hW1]; exact heap_alloc_new _ _
  have HKS : Hid (∀ W', Below W1.heap.size W1 W' → SBPutEntry m g t l n w.heap.size W') := Lib.hid (fun W' hb => ⟨(hb.cell (p := ⟨w.heap.size, 0, none⟩) (World.block_lt_of_cell? W1 _ (box_cell hbx 0))).trans (box_cell hbx 0), (hb.cell (p := ⟨w.heap.size, 1, none⟩) (World.block_lt_of_cell? W1 _ (box_cell hbx 1))).trans (box_cell hbx 1), (hb.cell (p := ⟨w.heap.size, 2, none⟩) (World.block_lt_of_cell? W1 _ (box_cell hbx 2))).trans (box_cell hbx 2), (hb.cell (p := ⟨w.heap.size, 3, none⟩) (World.block_lt_of_cell? W1 _ (box_cell hbx 3))).trans (box_cell hbx 3), (hb.cell (p := ⟨w.heap.size, 4, none⟩) (World.block_lt_of_cell? W1 _ (box_cell hbx 4))).trans (box_cell hbx 4)⟩)
  have HW := Lib.hid hb1
  have CPX := Lib.hid (fun W B h => rpPutEntry_pr g t l n hg hl ht (W1 := W1) false W B h)
  obtain ⟨R1, hR1⟩ : ∃ R1, R1 = (refO (entMs g l t n) false).1 := ⟨_, rfl⟩
  obtain ⟨R2, hR2⟩ : ∃ R2, R2 = (refO (entMs g l t n) false).2 := ⟨_, rfl⟩
  rw [← hR1, ← hR2] at CPX
  rw [← hR1, ← hR2]
  clear hR1 hR2 hb1 hbx
  clear hg hl ht
  go_enter Tryd.func8, Tryd.ntmps8
  go_upto_region 1 with fail
  rw [← hW1]
  clear hW1
  have B0 := Lib.hid (show Below W1.heap.size W1 W1.drew from Below.drewsN (Below.refl _ _) 1)
  refine wp_region_held_drew (S := SBPutEntry m g t l n w.heap.size) (by kernel_rfl) (HKS.out _ B0.out) (fun hHeld => ?_)
  refine wpAnyH_take (i := 0) (v := ?v247) rfl (by kernel_rfl) (by kernel_rfl) (by kernel_rfl) (fun _ _ _ h => h) (Or.inl ⟨by rfl, ?hy247⟩) (by assumption) ?_
  case hy247 => (intro w hSw; clear hSw; go_simp; try with_reducible rfl)
  go_simp
  refine wpAnyH_take (i := 1) (v := ?v248) rfl (by kernel_rfl) (by kernel_rfl) (by kernel_rfl) (fun _ _ _ h => h) (Or.inl ⟨by rfl, ?hy248⟩) (by assumption) ?_
  case hy248 => (intro w hSw; obtain ⟨hs0, hs1, hs2, hs3, hs4⟩ := hSw; go_simp; try with_reducible rfl)
  go_simp
  refine wpAnyH_take (i := 4) (v := ?v249) rfl (by kernel_rfl) (by kernel_rfl) (by kernel_rfl) (fun _ _ _ h => h) (Or.inl ⟨by rfl, ?hy249⟩) (by assumption) ?_
  case hy249 => (intro w hSw; clear hSw; go_simp; try with_reducible rfl)
  go_simp
  refine wpAnyH_take (i := 5) (v := ?v250) rfl (by kernel_rfl) (by kernel_rfl) (by kernel_rfl) (fun _ _ _ h => h) (Or.inl ⟨by rfl, ?hy250⟩) (by assumption) ?_
  case hy250 => (intro w hSw; obtain ⟨hs0, hs1, hs2, hs3, hs4⟩ := hSw; go_simp; try with_reducible rfl)
  go_simp
  refine wpAnyH_take (i := 8) (v := ?v251) rfl (by kernel_rfl) (by kernel_rfl) (by kernel_rfl) (fun _ _ _ h => h) (Or.inl ⟨by rfl, ?hy251⟩) (by assumption) ?_
  case hy251 => (intro w hSw; clear hSw; go_simp; try with_reducible rfl)
  go_simp
  refine wpAnyH_take (i := 9) (v := ?v252) rfl (by kernel_rfl) (by kernel_rfl) (by kernel_rfl) (fun _ _ _ h => h) (Or.inl ⟨by rfl, ?hy252⟩) (by assumption) ?_
  case hy252 => (intro w hSw; obtain ⟨hs0, hs1, hs2, hs3, hs4⟩ := hSw; go_simp; try with_reducible rfl)
  go_simp
  refine wpAnyH_take (i := 12) (v := ?v253) rfl (by kernel_rfl) (by kernel_rfl) (by kernel_rfl) (fun _ _ _ h => h) (Or.inl ⟨by rfl, ?hy253⟩) (by assumption) ?_
  case hy253 => (intro w hSw; clear hSw; go_simp; try with_reducible rfl)
  go_simp
  refine wpAnyH_take (i := 13) (v := ?v254) rfl (by kernel_rfl) (by kernel_rfl) (by kernel_rfl) (fun _ _ _ h => h) (Or.inl ⟨by rfl, ?hy254⟩) (by assumption) ?_
  case hy254 => (intro w hSw; obtain ⟨hs0, hs1, hs2, hs3, hs4⟩ := hSw; go_simp; try with_reducible rfl)
  go_simp
  refine wpAnyH_take (i := 18) (v := ?v255) rfl (by kernel_rfl) (by kernel_rfl) (by kernel_rfl) (fun _ _ _ h => h) (Or.inl ⟨by rfl, ?hy255⟩) (by assumption) ?_
  case hy255 => (intro w hSw; clear hSw; go_simp; try with_reducible rfl)
  go_simp
  refine wpAnyH_take (i := 19) (v := ?v256) rfl (by kernel_rfl) (by kernel_rfl) (by kernel_rfl) (fun _ _ _ h => h) (Or.inl ⟨by rfl, ?hy256⟩) (by assumption) ?_
  case hy256 => (intro w hSw; obtain ⟨hs0, hs1, hs2, hs3, hs4⟩ := hSw; go_simp; try with_reducible rfl)
  go_simp
  refine wpAnyH_take (i := 20) (v := ?v257) rfl (by kernel_rfl) (by kernel_rfl) (by kernel_rfl) (fun _ _ _ h => h) (Or.inl ⟨by rfl, ?hy257⟩) (by assumption) ?_
  case hy257 => (intro w hSw; clear hSw; go_simp; try with_reducible rfl)
  go_simp
  refine wpAnyH_ready (rs := [2]) (by kernel_rfl) (by simp) (AllReadyH.cons rfl (fun K hK => ?_) AllReadyH.nil)
  go_simp
  refine (rtext1_any _ _).mono ?_
  rintro e w1 ⟨rfl, hb⟩
  have B1 := Lib.hid (B0.out.trans (hb.mono B0.out.size))
  clear hb
  go_simp
  refine hK.out _ _ (HKS.out _ B1.out) (fun hHeld => ?_)
  clear hK K
  refine wpAnyH_take (i := 3) (v := ?v258) rfl (by kernel_rfl) (by kernel_rfl) (by kernel_rfl) (fun _ _ _ h => h) (Or.inl ⟨by rfl, ?hy258⟩) (by assumption) ?_
  case hy258 => (intro w hSw; clear hSw; go_simp; try with_reducible rfl)
  go_simp
  refine wpAnyH_ready (rs := [6]) (by kernel_rfl) (by simp) (AllReadyH.cons rfl (fun K hK => ?_) AllReadyH.nil)
  go_simp
  refine (rtext1_any _ _).mono ?_
  rintro e w2 ⟨rfl, hb⟩
  have B2 := Lib.hid (B1.out.trans (hb.mono B1.out.size))
  clear hb
  go_simp
  refine hK.out _ _ (HKS.out _ B2.out) (fun hHeld => ?_)
  clear hK K
  refine wpAnyH_take (i := 7) (v := ?v259) rfl (by kernel_rfl) (by kernel_rfl) (by kernel_rfl) (fun _ _ _ h => h) (Or.inl ⟨by rfl, ?hy259⟩) (by assumption) ?_
  case hy259 => (intro w hSw; clear hSw; go_simp; try with_reducible rfl)
  go_simp
  refine wpAnyH_ready (rs := [10]) (by kernel_rfl) (by simp) (AllReadyH.cons rfl (fun K hK => ?_) AllReadyH.nil)
  go_simp
  refine (rtext1_any _ _).mono ?_
  rintro e w3 ⟨rfl, hb⟩
  have B3 := Lib.hid (B2.out.trans (hb.mono B2.out.size))
  clear hb
  go_simp
  refine hK.out _ _ (HKS.out _ B3.out) (fun hHeld => ?_)
  clear hK K
  refine wpAnyH_take (i := 11) (v := ?v260) rfl (by kernel_rfl) (by kernel_rfl) (by kernel_rfl) (fun _ _ _ h => h) (Or.inl ⟨by rfl, ?hy260⟩) (by assumption) ?_
  case hy260 => (intro w hSw; clear hSw; go_simp; try with_reducible rfl)
  go_simp
  refine wpAnyH_ready (rs := [14]) (by kernel_rfl) (by simp) (AllReadyH.cons rfl (fun K hK => ?_) AllReadyH.nil)
  go_simp
  refine (rnum1_any _ _).mono ?_
  rintro e w4 ⟨rfl, hb⟩
  have B4 := Lib.hid (B3.out.trans (hb.mono B3.out.size))
  clear hb
  go_simp
  refine hK.out _ _ (HKS.out _ B4.out) (fun hHeld => ?_)
  clear hK K
  refine wpAnyH_take (i := 15) (v := ?v261) rfl (by kernel_rfl) (by kernel_rfl) (by kernel_rfl) (fun _ _ _ h => h) (Or.inl ⟨by rfl, ?hy261⟩) (by assumption) ?_
  case hy261 => (intro w hSw; clear hSw; go_simp; try with_reducible rfl)
  go_simp
  refine wpAnyH_ready (rs := [16]) (by kernel_rfl) (by simp) (AllReadyH.cons rfl (fun K hK => ?_) AllReadyH.nil)
  go_simp
  have HO0 := Lib.hid (show ObjAt W1 #[str [103, 117, 105, 100], .int .i64 5, .int .i64 0, str g, .slice none 0 0, .slice none 0 0, str [108, 105, 110, 107], .int .i64 5, .int .i64 0, str l, .slice none 0 0, .slice none 0 0, str [116, 105, 116, 108, 101], .int .i64 5, .int .i64 0, str t, .slice none 0 0, .slice none 0 0, str [119, 104, 101, 110], .int .i64 4, .int .i64 n, str [], .slice none 0 0, .slice none 0 0] w4.heap.size (w4.alloc (.cells #[str [103, 117, 105, 100], .int .i64 5, .int .i64 0, str g, .slice none 0 0, .slice none 0 0, str [108, 105, 110, 107], .int .i64 5, .int .i64 0, str l, .slice none 0 0, .slice none 0 0, str [116, 105, 116, 108, 101], .int .i64 5, .int .i64 0, str t, .slice none 0 0, .slice none 0 0, str [119, 104, 101, 110], .int .i64 4, .int .i64 n, str [], .slice none 0 0, .slice none 0 0] 67)) from ⟨B4.out.trans ((below_alloc _ _).mono B4.out.size), heap_alloc_new _ _⟩)
  have B5 := Lib.hid HO0.out.1
  refine hK.out _ _ (HKS.out _ B5.out) (fun hHeld => ?_)
  clear hK K
  refine wpAnyH_ready (rs := [17]) (by kernel_rfl) (by simp) (AllReadyH.cons rfl (fun K hK => ?_) AllReadyH.nil)
  go_simp
  refine (robj_any _ _ _ _).mono ?_
  rintro e w6 ⟨rfl, hb⟩
  have B6 := Lib.hid (B5.out.trans (hb.mono B5.out.size))
  have HO := Lib.hid (show ObjAt W1 #[str [103, 117, 105, 100], .int .i64 5, .int .i64 0, str g, .slice none 0 0, .slice none 0 0, str [108, 105, 110, 107], .int .i64 5, .int .i64 0, str l, .slice none 0 0, .slice none 0 0, str [116, 105, 116, 108, 101], .int .i64 5, .int .i64 0, str t, .slice none 0 0, .slice none 0 0, str [119, 104, 101, 110], .int .i64 4, .int .i64 n, str [], .slice none 0 0, .slice none 0 0] _ w6 from ⟨B6.out, box_up HO0.out.2 hb⟩)
  clear hb
  go_simp
  refine hK.out _ _ (HKS.out _ B6.out) (fun hHeld => ?_)
  clear hK K
  refine wpAnyH_take (i := 21) (v := ?v262) rfl (by kernel_rfl) (by kernel_rfl) (by kernel_rfl) (fun _ _ _ h => h) (Or.inl ⟨by rfl, ?hy262⟩) (by assumption) ?_
  case hy262 => (intro w hSw; clear hSw; go_simp; try with_reducible rfl)
  go_simp
  refine wpAnyH_take (i := 22) (v := undef) rfl (by kernel_rfl) (by kernel_rfl) (by kernel_rfl) (fun _ _ _ h => h) (Or.inr ⟨by rfl, rfl⟩) (by assumption) ?_
  go_simp
  refine wpAnyH_take (i := 23) (v := undef) rfl (by kernel_rfl) (by kernel_rfl) (by kernel_rfl) (fun _ _ _ h => h) (Or.inr ⟨by rfl, rfl⟩) (by assumption) ?_
  go_simp
  refine wpAnyH_ready (rs := [24]) (by kernel_rfl) (by simp) (AllReadyH.cons rfl (fun K hK => ?_) AllReadyH.nil)
  go_simp
  refine hK.out _ _ (by assumption) (fun _ => ?_)
  clear hK K
  refine wpAnyH_take (i := 25) (v := ?v265) rfl (by kernel_rfl) (by kernel_rfl) (by kernel_rfl) (fun _ _ _ h => h) (Or.inl ⟨by rfl, ?hy265⟩) (by assumption) ?_
  case hy265 => (intro w hSw; clear hSw; go_simp; try with_reducible rfl)
  go_simp
  refine wpAnyH_take (i := 26) (v := ?v266) rfl (by kernel_rfl) (by kernel_rfl) (by kernel_rfl) (fun _ _ _ h => h) (Or.inl ⟨by rfl, ?hy266⟩) (by assumption) ?_
  case hy266 => (intro w hSw; clear hSw; go_simp; try with_reducible rfl)
  go_simp
  refine wpAnyH_take (i := 27) (v := undef) rfl (by kernel_rfl) (by kernel_rfl) (by kernel_rfl) (fun _ _ _ h => h) (Or.inr ⟨by rfl, rfl⟩) (by assumption) ?_
  go_simp
  refine wpAnyH_take (i := 28) (v := undef) rfl (by kernel_rfl) (by kernel_rfl) (by kernel_rfl) (fun _ _ _ h => h) (Or.inr ⟨by rfl, rfl⟩) (by assumption) ?_
  go_simp
  refine wpAnyH_ready (rs := [29]) (by kernel_rfl) (by simp) (AllReadyH.cons rfl (fun K hK => ?_) AllReadyH.nil)
  go_simp
  refine hK.out _ _ (by assumption) (fun _ => ?_)
  clear hK K
  refine wpAnyH_take (i := 30) (v := ?v269) rfl (by kernel_rfl) (by kernel_rfl) (by kernel_rfl) (fun _ _ _ h => h) (Or.inl ⟨by rfl, ?hy269⟩) (by assumption) ?_
  case hy269 => (intro w hSw; clear hSw; go_simp; try with_reducible rfl)
  go_simp
  refine wpAnyH_take (i := 31) (v := ?v270) rfl (by kernel_rfl) (by kernel_rfl) (by kernel_rfl) (fun _ _ _ h => h) (Or.inl ⟨by rfl, ?hy270⟩) (by assumption) ?_
  case hy270 => (intro w hSw; clear hSw; go_simp; try with_reducible rfl)
  go_simp
  refine wpAnyH_take (i := 32) (v := undef) rfl (by kernel_rfl) (by kernel_rfl) (by kernel_rfl) (fun _ _ _ h => h) (Or.inr ⟨by rfl, rfl⟩) (by assumption) ?_
  go_simp
  refine wpAnyH_take (i := 33) (v := undef) rfl (by kernel_rfl) (by kernel_rfl) (by kernel_rfl) (fun _ _ _ h => h) (Or.inr ⟨by rfl, rfl⟩) (by assumption) ?_
  go_simp
  refine wpAnyH_ready (rs := [34]) (by kernel_rfl) (by simp) (AllReadyH.cons rfl (fun K hK => ?_) AllReadyH.nil)
  go_simp
  refine hK.out _ _ (by assumption) (fun _ => ?_)
  clear hK K
  refine wpAnyH_take (i := 35) (v := ?v273) rfl (by kernel_rfl) (by kernel_rfl) (by kernel_rfl) (fun _ _ _ h => h) (Or.inl ⟨by rfl, ?hy273⟩) (by assumption) ?_
  case hy273 => (intro w hSw; clear hSw; go_simp; try with_reducible rfl)
  go_simp
  refine wpAnyH_take (i := 36) (v := ?v274) rfl (by kernel_rfl) (by kernel_rfl) (by kernel_rfl) (fun _ _ _ h => h) (Or.inl ⟨by rfl, ?hy274⟩) (by assumption) ?_
  case hy274 => (intro w hSw; clear hSw; go_simp; try with_reducible rfl)
  go_simp
  refine wpAnyH_take (i := 37) (v := undef) rfl (by kernel_rfl) (by kernel_rfl) (by kernel_rfl) (fun _ _ _ h => h) (Or.inr ⟨by rfl, rfl⟩) (by assumption) ?_
  go_simp
  refine wpAnyH_take (i := 38) (v := undef) rfl (by kernel_rfl) (by kernel_rfl) (by kernel_rfl) (fun _ _ _ h => h) (Or.inr ⟨by rfl, rfl⟩) (by assumption) ?_
  go_simp
  refine wpAnyH_take (i := 39) (v := undef) rfl (by kernel_rfl) (by kernel_rfl) (by kernel_rfl) (fun _ _ _ h => h) (Or.inr ⟨by rfl, rfl⟩) (by assumption) ?_
  go_simp
  refine wpAnyH_take (i := 40) (v := ?v278) rfl (by kernel_rfl) (by kernel_rfl) (by kernel_rfl) (fun _ _ _ h => h) (Or.inl ⟨by rfl, ?hy278⟩) (by assumption) ?_
  case hy278 => (intro w hSw; clear hSw; go_simp; try with_reducible rfl)
  go_simp
  refine wpAnyH_take (i := 41) (v := ?v279) rfl (by kernel_rfl) (by kernel_rfl) (by kernel_rfl) (fun _ _ _ h => h) (Or.inl ⟨by rfl, ?hy279⟩) (by assumption) ?_
  case hy279 => (intro w hSw; clear hSw; go_simp; try with_reducible rfl)
  go_simp
  refine wpAnyH_take (i := 42) (v := undef) rfl (by kernel_rfl) (by kernel_rfl) (by kernel_rfl) (fun _ _ _ h => h) (Or.inr ⟨by rfl, rfl⟩) (by assumption) ?_
  go_simp
  refine wpAnyH_take (i := 43) (v := undef) rfl (by kernel_rfl) (by kernel_rfl) (by kernel_rfl) (fun _ _ _ h => h) (Or.inr ⟨by rfl, rfl⟩) (by assumption) ?_
  go_simp
  refine wpAnyH_take (i := 44) (v := undef) rfl (by kernel_rfl) (by kernel_rfl) (by kernel_rfl) (fun _ _ _ h => h) (Or.inr ⟨by rfl, rfl⟩) (by assumption) ?_
  go_simp
  refine wpAnyH_take (i := 45) (v := ?v283) rfl (by kernel_rfl) (by kernel_rfl) (by kernel_rfl) (fun _ _ _ h => h) (Or.inl ⟨by rfl, ?hy283⟩) (by assumption) ?_
  case hy283 => (intro w hSw; clear hSw; go_simp; try with_reducible rfl)
  go_simp
  refine wpAnyH_ready (rs := [46]) (by kernel_rfl) (by simp) (AllReadyH.cons rfl (fun K hK => ?_) AllReadyH.nil)
  go_simp
  refine (CPX.out _ _ HO.out).mono ?_
  rintro e w7 ⟨rfl, hb⟩
  have B7 := Lib.hid hb
  clear hb
  go_simp
  refine hK.out _ _ (HKS.out _ B7.out) (fun hHeld => ?_)
  clear hK K
  refine wpAnyH_take (i := 47) (v := ?v284) rfl (by kernel_rfl) (by kernel_rfl) (by kernel_rfl) (fun _ _ _ h => h) (Or.inl ⟨by rfl, ?hy284⟩) (by assumption) ?_
  case hy284 => (intro w hSw; clear hSw; go_simp; try with_reducible rfl)
  go_simp
  refine wpAnyH_take (i := 48) (v := ?v285) rfl (by kernel_rfl) (by kernel_rfl) (by kernel_rfl) (fun _ _ _ h => h) (Or.inl ⟨by rfl, ?hy285⟩) (by assumption) ?_
  case hy285 => (intro w hSw; clear hSw; go_simp; try with_reducible rfl)
  go_simp
  refine wpAnyH_take (i := 49) (v := ?v286) rfl (by kernel_rfl) (by kernel_rfl) (by kernel_rfl) (fun _ _ _ h => h) (Or.inl ⟨by rfl, ?hy286⟩) (by assumption) ?_
  case hy286 => (intro w hSw; clear hSw; go_simp; try with_reducible rfl)
  go_simp
  refine wpAnyH_take (i := 50) (v := ?v287) rfl (by kernel_rfl) (by kernel_rfl) (by kernel_rfl) (fun _ _ _ h => h) (Or.inl ⟨by rfl, ?hy287⟩) (by assumption) ?_
  case hy287 => (intro w hSw; clear hSw; go_simp; try with_reducible rfl)
  go_simp
  refine wpAnyH_done (by kernel_rfl) ?_ _
  have HX := Lib.hid (HW.out.trans (B7.out.mono HW.out.size))
  clear HKS CPX
  go_wp2_with fail
  go_ret2
  exact ⟨rfl, HX.out⟩
set_option maxRecDepth 100000 in
set_option maxHeartbeats 16000000 in
theorem rputPutEntry_1 (m : Int) (g : List UInt8) (t : List UInt8) (l : List UInt8) (n : Int) (w : World) (hg : g.length ≤ 9223372036854775807) (hl : l.length ≤ 9223372036854775807) (ht : t.length ≤ 9223372036854775807) (h0 : (g == []) = false) (s1 : shortB g = false) : Calls Tryd.prog 8 #[.agg #[.int .i64 m, str g, str t, str l, .int .i64 n]] w fun e w' => e = .returned (.tuple #[str (refO (entMs g l t n) false).1, .int .i64 (refO (entMs g l t n) false).2]) ∧ Below w.heap.size w w' := by
  obtain ⟨W1, hW1⟩ : ∃ W1, W1 = w.alloc (.cells #[.int .i64 m, str g, str t, str l, .int .i64 n] 25) := ⟨_, rfl⟩
  have hb1 : Below w.heap.size w W1 := by rw [hW1]; exact below_alloc _ _
  have hbx : W1.heap[w.heap.size]? = some (.cells #[.int .i64 m, str g, str t, str l, .int .i64 n] 25 (0, 0)) := by rw [hW1]; exact heap_alloc_new _ _
  have HKS : Hid (∀ W', Below W1.heap.size W1 W' → SBPutEntry m g t l n w.heap.size W') := Lib.hid (fun W' hb => ⟨(hb.cell (p := ⟨w.heap.size, 0, none⟩) (World.block_lt_of_cell? W1 _ (box_cell hbx 0))).trans (box_cell hbx 0), (hb.cell (p := ⟨w.heap.size, 1, none⟩) (World.block_lt_of_cell? W1 _ (box_cell hbx 1))).trans (box_cell hbx 1), (hb.cell (p := ⟨w.heap.size, 2, none⟩) (World.block_lt_of_cell? W1 _ (box_cell hbx 2))).trans (box_cell hbx 2), (hb.cell (p := ⟨w.heap.size, 3, none⟩) (World.block_lt_of_cell? W1 _ (box_cell hbx 3))).trans (box_cell hbx 3), (hb.cell (p := ⟨w.heap.size, 4, none⟩) (World.block_lt_of_cell? W1 _ (box_cell hbx 4))).trans (box_cell hbx 4)⟩)
  have HW := Lib.hid hb1
  have CS1 := Lib.hid (fun W => by have h0 := rshort_any g W hg; rw [show shortB g = false from s1] at h0; exact h0)
  have CPX := Lib.hid (fun W B h => rpPutEntry_pr g t l n hg hl ht (W1 := W1) false W B h)
  obtain ⟨R1, hR1⟩ : ∃ R1, R1 = (refO (entMs g l t n) false).1 := ⟨_, rfl⟩
  obtain ⟨R2, hR2⟩ : ∃ R2, R2 = (refO (entMs g l t n) false).2 := ⟨_, rfl⟩
  rw [← hR1, ← hR2] at CPX
  rw [← hR1, ← hR2]
  clear hR1 hR2 hb1 hbx
  clear hg hl ht s1
  go_enter Tryd.func8, Tryd.ntmps8
  go_upto_region 1 with fail
  rw [← hW1]
  clear hW1
  have B0 := Lib.hid (show Below W1.heap.size W1 W1.drew from Below.drewsN (Below.refl _ _) 1)
  refine wp_region_held_drew (S := SBPutEntry m g t l n w.heap.size) (by kernel_rfl) (HKS.out _ B0.out) (fun hHeld => ?_)
  refine wpAnyH_take (i := 0) (v := ?v288) rfl (by kernel_rfl) (by kernel_rfl) (by kernel_rfl) (fun _ _ _ h => h) (Or.inl ⟨by rfl, ?hy288⟩) (by assumption) ?_
  case hy288 => (intro w hSw; clear hSw; go_simp; try with_reducible rfl)
  go_simp
  refine wpAnyH_take (i := 1) (v := ?v289) rfl (by kernel_rfl) (by kernel_rfl) (by kernel_rfl) (fun _ _ _ h => h) (Or.inl ⟨by rfl, ?hy289⟩) (by assumption) ?_
  case hy289 => (intro w hSw; obtain ⟨hs0, hs1, hs2, hs3, hs4⟩ := hSw; go_simp; try with_reducible rfl)
  go_simp
  refine wpAnyH_take (i := 4) (v := ?v290) rfl (by kernel_rfl) (by kernel_rfl) (by kernel_rfl) (fun _ _ _ h => h) (Or.inl ⟨by rfl, ?hy290⟩) (by assumption) ?_
  case hy290 => (intro w hSw; clear hSw; go_simp; try with_reducible rfl)
  go_simp
  refine wpAnyH_take (i := 5) (v := ?v291) rfl (by kernel_rfl) (by kernel_rfl) (by kernel_rfl) (fun _ _ _ h => h) (Or.inl ⟨by rfl, ?hy291⟩) (by assumption) ?_
  case hy291 => (intro w hSw; obtain ⟨hs0, hs1, hs2, hs3, hs4⟩ := hSw; go_simp; try with_reducible rfl)
  go_simp
  refine wpAnyH_take (i := 8) (v := ?v292) rfl (by kernel_rfl) (by kernel_rfl) (by kernel_rfl) (fun _ _ _ h => h) (Or.inl ⟨by rfl, ?hy292⟩) (by assumption) ?_
  case hy292 => (intro w hSw; clear hSw; go_simp; try with_reducible rfl)
  go_simp
  refine wpAnyH_take (i := 9) (v := ?v293) rfl (by kernel_rfl) (by kernel_rfl) (by kernel_rfl) (fun _ _ _ h => h) (Or.inl ⟨by rfl, ?hy293⟩) (by assumption) ?_
  case hy293 => (intro w hSw; obtain ⟨hs0, hs1, hs2, hs3, hs4⟩ := hSw; go_simp; try with_reducible rfl)
  go_simp
  refine wpAnyH_take (i := 12) (v := ?v294) rfl (by kernel_rfl) (by kernel_rfl) (by kernel_rfl) (fun _ _ _ h => h) (Or.inl ⟨by rfl, ?hy294⟩) (by assumption) ?_
  case hy294 => (intro w hSw; clear hSw; go_simp; try with_reducible rfl)
  go_simp
  refine wpAnyH_take (i := 13) (v := ?v295) rfl (by kernel_rfl) (by kernel_rfl) (by kernel_rfl) (fun _ _ _ h => h) (Or.inl ⟨by rfl, ?hy295⟩) (by assumption) ?_
  case hy295 => (intro w hSw; obtain ⟨hs0, hs1, hs2, hs3, hs4⟩ := hSw; go_simp; try with_reducible rfl)
  go_simp
  refine wpAnyH_take (i := 18) (v := ?v296) rfl (by kernel_rfl) (by kernel_rfl) (by kernel_rfl) (fun _ _ _ h => h) (Or.inl ⟨by rfl, ?hy296⟩) (by assumption) ?_
  case hy296 => (intro w hSw; clear hSw; go_simp; try with_reducible rfl)
  go_simp
  refine wpAnyH_take (i := 19) (v := ?v297) rfl (by kernel_rfl) (by kernel_rfl) (by kernel_rfl) (fun _ _ _ h => h) (Or.inl ⟨by rfl, ?hy297⟩) (by assumption) ?_
  case hy297 => (intro w hSw; obtain ⟨hs0, hs1, hs2, hs3, hs4⟩ := hSw; go_simp; try with_reducible rfl)
  go_simp
  refine wpAnyH_take (i := 20) (v := ?v298) rfl (by kernel_rfl) (by kernel_rfl) (by kernel_rfl) (fun _ _ _ h => h) (Or.inl ⟨by rfl, ?hy298⟩) (by assumption) ?_
  case hy298 => (intro w hSw; clear hSw; go_simp; try with_reducible rfl)
  go_simp
  refine wpAnyH_ready (rs := [2]) (by kernel_rfl) (by simp) (AllReadyH.cons rfl (fun K hK => ?_) AllReadyH.nil)
  go_simp
  refine (rtext1_any _ _).mono ?_
  rintro e w1 ⟨rfl, hb⟩
  have B1 := Lib.hid (B0.out.trans (hb.mono B0.out.size))
  clear hb
  go_simp
  refine hK.out _ _ (HKS.out _ B1.out) (fun hHeld => ?_)
  clear hK K
  refine wpAnyH_take (i := 3) (v := ?v299) rfl (by kernel_rfl) (by kernel_rfl) (by kernel_rfl) (fun _ _ _ h => h) (Or.inl ⟨by rfl, ?hy299⟩) (by assumption) ?_
  case hy299 => (intro w hSw; clear hSw; go_simp; try with_reducible rfl)
  go_simp
  refine wpAnyH_ready (rs := [6]) (by kernel_rfl) (by simp) (AllReadyH.cons rfl (fun K hK => ?_) AllReadyH.nil)
  go_simp
  refine (rtext1_any _ _).mono ?_
  rintro e w2 ⟨rfl, hb⟩
  have B2 := Lib.hid (B1.out.trans (hb.mono B1.out.size))
  clear hb
  go_simp
  refine hK.out _ _ (HKS.out _ B2.out) (fun hHeld => ?_)
  clear hK K
  refine wpAnyH_take (i := 7) (v := ?v300) rfl (by kernel_rfl) (by kernel_rfl) (by kernel_rfl) (fun _ _ _ h => h) (Or.inl ⟨by rfl, ?hy300⟩) (by assumption) ?_
  case hy300 => (intro w hSw; clear hSw; go_simp; try with_reducible rfl)
  go_simp
  refine wpAnyH_ready (rs := [10]) (by kernel_rfl) (by simp) (AllReadyH.cons rfl (fun K hK => ?_) AllReadyH.nil)
  go_simp
  refine (rtext1_any _ _).mono ?_
  rintro e w3 ⟨rfl, hb⟩
  have B3 := Lib.hid (B2.out.trans (hb.mono B2.out.size))
  clear hb
  go_simp
  refine hK.out _ _ (HKS.out _ B3.out) (fun hHeld => ?_)
  clear hK K
  refine wpAnyH_take (i := 11) (v := ?v301) rfl (by kernel_rfl) (by kernel_rfl) (by kernel_rfl) (fun _ _ _ h => h) (Or.inl ⟨by rfl, ?hy301⟩) (by assumption) ?_
  case hy301 => (intro w hSw; clear hSw; go_simp; try with_reducible rfl)
  go_simp
  refine wpAnyH_ready (rs := [14]) (by kernel_rfl) (by simp) (AllReadyH.cons rfl (fun K hK => ?_) AllReadyH.nil)
  go_simp
  refine (rnum1_any _ _).mono ?_
  rintro e w4 ⟨rfl, hb⟩
  have B4 := Lib.hid (B3.out.trans (hb.mono B3.out.size))
  clear hb
  go_simp
  refine hK.out _ _ (HKS.out _ B4.out) (fun hHeld => ?_)
  clear hK K
  refine wpAnyH_take (i := 15) (v := ?v302) rfl (by kernel_rfl) (by kernel_rfl) (by kernel_rfl) (fun _ _ _ h => h) (Or.inl ⟨by rfl, ?hy302⟩) (by assumption) ?_
  case hy302 => (intro w hSw; clear hSw; go_simp; try with_reducible rfl)
  go_simp
  refine wpAnyH_ready (rs := [16]) (by kernel_rfl) (by simp) (AllReadyH.cons rfl (fun K hK => ?_) AllReadyH.nil)
  go_simp
  have HO0 := Lib.hid (show ObjAt W1 #[str [103, 117, 105, 100], .int .i64 5, .int .i64 0, str g, .slice none 0 0, .slice none 0 0, str [108, 105, 110, 107], .int .i64 5, .int .i64 0, str l, .slice none 0 0, .slice none 0 0, str [116, 105, 116, 108, 101], .int .i64 5, .int .i64 0, str t, .slice none 0 0, .slice none 0 0, str [119, 104, 101, 110], .int .i64 4, .int .i64 n, str [], .slice none 0 0, .slice none 0 0] w4.heap.size (w4.alloc (.cells #[str [103, 117, 105, 100], .int .i64 5, .int .i64 0, str g, .slice none 0 0, .slice none 0 0, str [108, 105, 110, 107], .int .i64 5, .int .i64 0, str l, .slice none 0 0, .slice none 0 0, str [116, 105, 116, 108, 101], .int .i64 5, .int .i64 0, str t, .slice none 0 0, .slice none 0 0, str [119, 104, 101, 110], .int .i64 4, .int .i64 n, str [], .slice none 0 0, .slice none 0 0] 67)) from ⟨B4.out.trans ((below_alloc _ _).mono B4.out.size), heap_alloc_new _ _⟩)
  have B5 := Lib.hid HO0.out.1
  refine hK.out _ _ (HKS.out _ B5.out) (fun hHeld => ?_)
  clear hK K
  refine wpAnyH_ready (rs := [17]) (by kernel_rfl) (by simp) (AllReadyH.cons rfl (fun K hK => ?_) AllReadyH.nil)
  go_simp
  refine (robj_any _ _ _ _).mono ?_
  rintro e w6 ⟨rfl, hb⟩
  have B6 := Lib.hid (B5.out.trans (hb.mono B5.out.size))
  have HO := Lib.hid (show ObjAt W1 #[str [103, 117, 105, 100], .int .i64 5, .int .i64 0, str g, .slice none 0 0, .slice none 0 0, str [108, 105, 110, 107], .int .i64 5, .int .i64 0, str l, .slice none 0 0, .slice none 0 0, str [116, 105, 116, 108, 101], .int .i64 5, .int .i64 0, str t, .slice none 0 0, .slice none 0 0, str [119, 104, 101, 110], .int .i64 4, .int .i64 n, str [], .slice none 0 0, .slice none 0 0] _ w6 from ⟨B6.out, box_up HO0.out.2 hb⟩)
  clear hb
  go_simp
  refine hK.out _ _ (HKS.out _ B6.out) (fun hHeld => ?_)
  clear hK K
  refine wpAnyH_take (i := 21) (v := ?v303) rfl (by kernel_rfl) (by kernel_rfl) (by kernel_rfl) (fun _ _ _ h => h) (Or.inl ⟨by rfl, ?hy303⟩) (by assumption) ?_
  case hy303 => (intro w hSw; clear hSw; go_simp; try with_reducible rfl)
  go_simp
  refine wpAnyH_take (i := 22) (v := ?v304) rfl (by kernel_rfl) (by kernel_rfl) (by kernel_rfl) (fun _ _ _ h => h) (Or.inl ⟨by rfl, ?hy304⟩) (by assumption) ?_
  case hy304 => (intro w hSw; clear hSw; go_simp; try with_reducible rfl)
  go_simp
  refine wpAnyH_take (i := 23) (v := ?v305) rfl (by kernel_rfl) (by kernel_rfl) (by kernel_rfl) (fun _ _ _ h => h) (Or.inl ⟨by rfl, ?hy305⟩) (by assumption) ?_
  case hy305 => (intro w hSw; obtain ⟨hs0, hs1, hs2, hs3, hs4⟩ := hSw; go_simp; try with_reducible rfl)
  go_simp
  refine wpAnyH_ready (rs := [24]) (by kernel_rfl) (by simp) (AllReadyH.cons rfl (fun K hK => ?_) AllReadyH.nil)
  go_simp
  refine (CS1.out _).mono ?_
  rintro e w7 ⟨rfl, rfl⟩
  have B7 := B6
  go_simp
  refine hK.out _ _ (HKS.out _ B7.out) (fun hHeld => ?_)
  clear hK K
  refine wpAnyH_take (i := 25) (v := ?v306) rfl (by kernel_rfl) (by kernel_rfl) (by kernel_rfl) (fun _ _ _ h => h) (Or.inl ⟨by rfl, ?hy306⟩) (by assumption) ?_
  case hy306 => (intro w hSw; clear hSw; go_simp; try with_reducible rfl)
  go_simp
  refine wpAnyH_take (i := 26) (v := ?v307) rfl (by kernel_rfl) (by kernel_rfl) (by kernel_rfl) (fun _ _ _ h => h) (Or.inl ⟨by rfl, ?hy307⟩) (by assumption) ?_
  case hy307 => (intro w hSw; clear hSw; go_simp; try with_reducible rfl)
  go_simp
  refine wpAnyH_take (i := 27) (v := undef) rfl (by kernel_rfl) (by kernel_rfl) (by kernel_rfl) (fun _ _ _ h => h) (Or.inr ⟨by rfl, rfl⟩) (by assumption) ?_
  go_simp
  refine wpAnyH_take (i := 28) (v := undef) rfl (by kernel_rfl) (by kernel_rfl) (by kernel_rfl) (fun _ _ _ h => h) (Or.inr ⟨by rfl, rfl⟩) (by assumption) ?_
  go_simp
  refine wpAnyH_ready (rs := [29]) (by kernel_rfl) (by simp) (AllReadyH.cons rfl (fun K hK => ?_) AllReadyH.nil)
  go_simp
  refine hK.out _ _ (by assumption) (fun _ => ?_)
  clear hK K
  refine wpAnyH_take (i := 30) (v := ?v310) rfl (by kernel_rfl) (by kernel_rfl) (by kernel_rfl) (fun _ _ _ h => h) (Or.inl ⟨by rfl, ?hy310⟩) (by assumption) ?_
  case hy310 => (intro w hSw; clear hSw; go_simp; try with_reducible rfl)
  go_simp
  refine wpAnyH_take (i := 31) (v := ?v311) rfl (by kernel_rfl) (by kernel_rfl) (by kernel_rfl) (fun _ _ _ h => h) (Or.inl ⟨by rfl, ?hy311⟩) (by assumption) ?_
  case hy311 => (intro w hSw; clear hSw; go_simp; try with_reducible rfl)
  go_simp
  refine wpAnyH_take (i := 32) (v := undef) rfl (by kernel_rfl) (by kernel_rfl) (by kernel_rfl) (fun _ _ _ h => h) (Or.inr ⟨by rfl, rfl⟩) (by assumption) ?_
  go_simp
  refine wpAnyH_take (i := 33) (v := undef) rfl (by kernel_rfl) (by kernel_rfl) (by kernel_rfl) (fun _ _ _ h => h) (Or.inr ⟨by rfl, rfl⟩) (by assumption) ?_
  go_simp
  refine wpAnyH_ready (rs := [34]) (by kernel_rfl) (by simp) (AllReadyH.cons rfl (fun K hK => ?_) AllReadyH.nil)
  go_simp
  refine hK.out _ _ (by assumption) (fun _ => ?_)
  clear hK K
  refine wpAnyH_take (i := 35) (v := ?v314) rfl (by kernel_rfl) (by kernel_rfl) (by kernel_rfl) (fun _ _ _ h => h) (Or.inl ⟨by rfl, ?hy314⟩) (by assumption) ?_
  case hy314 => (intro w hSw; clear hSw; go_simp; try with_reducible rfl)
  go_simp
  refine wpAnyH_take (i := 36) (v := ?v315) rfl (by kernel_rfl) (by kernel_rfl) (by kernel_rfl) (fun _ _ _ h => h) (Or.inl ⟨by rfl, ?hy315⟩) (by assumption) ?_
  case hy315 => (intro w hSw; clear hSw; go_simp; try with_reducible rfl)
  go_simp
  refine wpAnyH_take (i := 37) (v := undef) rfl (by kernel_rfl) (by kernel_rfl) (by kernel_rfl) (fun _ _ _ h => h) (Or.inr ⟨by rfl, rfl⟩) (by assumption) ?_
  go_simp
  refine wpAnyH_take (i := 38) (v := undef) rfl (by kernel_rfl) (by kernel_rfl) (by kernel_rfl) (fun _ _ _ h => h) (Or.inr ⟨by rfl, rfl⟩) (by assumption) ?_
  go_simp
  refine wpAnyH_take (i := 39) (v := undef) rfl (by kernel_rfl) (by kernel_rfl) (by kernel_rfl) (fun _ _ _ h => h) (Or.inr ⟨by rfl, rfl⟩) (by assumption) ?_
  go_simp
  refine wpAnyH_take (i := 40) (v := ?v319) rfl (by kernel_rfl) (by kernel_rfl) (by kernel_rfl) (fun _ _ _ h => h) (Or.inl ⟨by rfl, ?hy319⟩) (by assumption) ?_
  case hy319 => (intro w hSw; clear hSw; go_simp; try with_reducible rfl)
  go_simp
  refine wpAnyH_take (i := 41) (v := ?v320) rfl (by kernel_rfl) (by kernel_rfl) (by kernel_rfl) (fun _ _ _ h => h) (Or.inl ⟨by rfl, ?hy320⟩) (by assumption) ?_
  case hy320 => (intro w hSw; clear hSw; go_simp; try with_reducible rfl)
  go_simp
  refine wpAnyH_take (i := 42) (v := undef) rfl (by kernel_rfl) (by kernel_rfl) (by kernel_rfl) (fun _ _ _ h => h) (Or.inr ⟨by rfl, rfl⟩) (by assumption) ?_
  go_simp
  refine wpAnyH_take (i := 43) (v := undef) rfl (by kernel_rfl) (by kernel_rfl) (by kernel_rfl) (fun _ _ _ h => h) (Or.inr ⟨by rfl, rfl⟩) (by assumption) ?_
  go_simp
  refine wpAnyH_take (i := 44) (v := undef) rfl (by kernel_rfl) (by kernel_rfl) (by kernel_rfl) (fun _ _ _ h => h) (Or.inr ⟨by rfl, rfl⟩) (by assumption) ?_
  go_simp
  refine wpAnyH_take (i := 45) (v := ?v324) rfl (by kernel_rfl) (by kernel_rfl) (by kernel_rfl) (fun _ _ _ h => h) (Or.inl ⟨by rfl, ?hy324⟩) (by assumption) ?_
  case hy324 => (intro w hSw; clear hSw; go_simp; try with_reducible rfl)
  go_simp
  refine wpAnyH_ready (rs := [46]) (by kernel_rfl) (by simp) (AllReadyH.cons rfl (fun K hK => ?_) AllReadyH.nil)
  go_simp
  refine (CPX.out _ _ HO.out).mono ?_
  rintro e w8 ⟨rfl, hb⟩
  have B8 := Lib.hid hb
  clear hb
  go_simp
  refine hK.out _ _ (HKS.out _ B8.out) (fun hHeld => ?_)
  clear hK K
  refine wpAnyH_take (i := 47) (v := ?v325) rfl (by kernel_rfl) (by kernel_rfl) (by kernel_rfl) (fun _ _ _ h => h) (Or.inl ⟨by rfl, ?hy325⟩) (by assumption) ?_
  case hy325 => (intro w hSw; clear hSw; go_simp; try with_reducible rfl)
  go_simp
  refine wpAnyH_take (i := 48) (v := ?v326) rfl (by kernel_rfl) (by kernel_rfl) (by kernel_rfl) (fun _ _ _ h => h) (Or.inl ⟨by rfl, ?hy326⟩) (by assumption) ?_
  case hy326 => (intro w hSw; clear hSw; go_simp; try with_reducible rfl)
  go_simp
  refine wpAnyH_take (i := 49) (v := ?v327) rfl (by kernel_rfl) (by kernel_rfl) (by kernel_rfl) (fun _ _ _ h => h) (Or.inl ⟨by rfl, ?hy327⟩) (by assumption) ?_
  case hy327 => (intro w hSw; clear hSw; go_simp; try with_reducible rfl)
  go_simp
  refine wpAnyH_take (i := 50) (v := ?v328) rfl (by kernel_rfl) (by kernel_rfl) (by kernel_rfl) (fun _ _ _ h => h) (Or.inl ⟨by rfl, ?hy328⟩) (by assumption) ?_
  case hy328 => (intro w hSw; clear hSw; go_simp; try with_reducible rfl)
  go_simp
  refine wpAnyH_done (by kernel_rfl) ?_ _
  have HX := Lib.hid (HW.out.trans (B8.out.mono HW.out.size))
  clear HKS CPX
  go_wp2_with fail
  go_ret2
  exact ⟨rfl, HX.out⟩
set_option maxRecDepth 100000 in
set_option maxHeartbeats 16000000 in
theorem rputPutEntry_2 (m : Int) (g : List UInt8) (t : List UInt8) (l : List UInt8) (n : Int) (w : World) (hg : g.length ≤ 9223372036854775807) (hl : l.length ≤ 9223372036854775807) (ht : t.length ≤ 9223372036854775807) (h0 : (g == []) = false) (s1 : shortB g = true) (s2 : shortB l = false) : Calls Tryd.prog 8 #[.agg #[.int .i64 m, str g, str t, str l, .int .i64 n]] w fun e w' => e = .returned (.tuple #[str (refO (entMs g l t n) false).1, .int .i64 (refO (entMs g l t n) false).2]) ∧ Below w.heap.size w w' := by
  obtain ⟨W1, hW1⟩ : ∃ W1, W1 = w.alloc (.cells #[.int .i64 m, str g, str t, str l, .int .i64 n] 25) := ⟨_, rfl⟩
  have hb1 : Below w.heap.size w W1 := by rw [hW1]; exact below_alloc _ _
  have hbx : W1.heap[w.heap.size]? = some (.cells #[.int .i64 m, str g, str t, str l, .int .i64 n] 25 (0, 0)) := by rw [hW1]; exact heap_alloc_new _ _
  have HKS : Hid (∀ W', Below W1.heap.size W1 W' → SBPutEntry m g t l n w.heap.size W') := Lib.hid (fun W' hb => ⟨(hb.cell (p := ⟨w.heap.size, 0, none⟩) (World.block_lt_of_cell? W1 _ (box_cell hbx 0))).trans (box_cell hbx 0), (hb.cell (p := ⟨w.heap.size, 1, none⟩) (World.block_lt_of_cell? W1 _ (box_cell hbx 1))).trans (box_cell hbx 1), (hb.cell (p := ⟨w.heap.size, 2, none⟩) (World.block_lt_of_cell? W1 _ (box_cell hbx 2))).trans (box_cell hbx 2), (hb.cell (p := ⟨w.heap.size, 3, none⟩) (World.block_lt_of_cell? W1 _ (box_cell hbx 3))).trans (box_cell hbx 3), (hb.cell (p := ⟨w.heap.size, 4, none⟩) (World.block_lt_of_cell? W1 _ (box_cell hbx 4))).trans (box_cell hbx 4)⟩)
  have HW := Lib.hid hb1
  have CS1 := Lib.hid (fun W => by have h0 := rshort_any g W hg; rw [show shortB g = true from s1] at h0; exact h0)
  have CS2 := Lib.hid (fun W => by have h0 := rshort_any l W hl; rw [show shortB l = false from s2] at h0; exact h0)
  have CPX := Lib.hid (fun W B h => rpPutEntry_pr g t l n hg hl ht (W1 := W1) false W B h)
  obtain ⟨R1, hR1⟩ : ∃ R1, R1 = (refO (entMs g l t n) false).1 := ⟨_, rfl⟩
  obtain ⟨R2, hR2⟩ : ∃ R2, R2 = (refO (entMs g l t n) false).2 := ⟨_, rfl⟩
  rw [← hR1, ← hR2] at CPX
  rw [← hR1, ← hR2]
  clear hR1 hR2 hb1 hbx
  clear hg hl ht s1 s2
  go_enter Tryd.func8, Tryd.ntmps8
  go_upto_region 1 with fail
  rw [← hW1]
  clear hW1
  have B0 := Lib.hid (show Below W1.heap.size W1 W1.drew from Below.drewsN (Below.refl _ _) 1)
  refine wp_region_held_drew (S := SBPutEntry m g t l n w.heap.size) (by kernel_rfl) (HKS.out _ B0.out) (fun hHeld => ?_)
  refine wpAnyH_take (i := 0) (v := ?v329) rfl (by kernel_rfl) (by kernel_rfl) (by kernel_rfl) (fun _ _ _ h => h) (Or.inl ⟨by rfl, ?hy329⟩) (by assumption) ?_
  case hy329 => (intro w hSw; clear hSw; go_simp; try with_reducible rfl)
  go_simp
  refine wpAnyH_take (i := 1) (v := ?v330) rfl (by kernel_rfl) (by kernel_rfl) (by kernel_rfl) (fun _ _ _ h => h) (Or.inl ⟨by rfl, ?hy330⟩) (by assumption) ?_
  case hy330 => (intro w hSw; obtain ⟨hs0, hs1, hs2, hs3, hs4⟩ := hSw; go_simp; try with_reducible rfl)
  go_simp
  refine wpAnyH_take (i := 4) (v := ?v331) rfl (by kernel_rfl) (by kernel_rfl) (by kernel_rfl) (fun _ _ _ h => h) (Or.inl ⟨by rfl, ?hy331⟩) (by assumption) ?_
  case hy331 => (intro w hSw; clear hSw; go_simp; try with_reducible rfl)
  go_simp
  refine wpAnyH_take (i := 5) (v := ?v332) rfl (by kernel_rfl) (by kernel_rfl) (by kernel_rfl) (fun _ _ _ h => h) (Or.inl ⟨by rfl, ?hy332⟩) (by assumption) ?_
  case hy332 => (intro w hSw; obtain ⟨hs0, hs1, hs2, hs3, hs4⟩ := hSw; go_simp; try with_reducible rfl)
  go_simp
  refine wpAnyH_take (i := 8) (v := ?v333) rfl (by kernel_rfl) (by kernel_rfl) (by kernel_rfl) (fun _ _ _ h => h) (Or.inl ⟨by rfl, ?hy333⟩) (by assumption) ?_
  case hy333 => (intro w hSw; clear hSw; go_simp; try with_reducible rfl)
  go_simp
  refine wpAnyH_take (i := 9) (v := ?v334) rfl (by kernel_rfl) (by kernel_rfl) (by kernel_rfl) (fun _ _ _ h => h) (Or.inl ⟨by rfl, ?hy334⟩) (by assumption) ?_
  case hy334 => (intro w hSw; obtain ⟨hs0, hs1, hs2, hs3, hs4⟩ := hSw; go_simp; try with_reducible rfl)
  go_simp
  refine wpAnyH_take (i := 12) (v := ?v335) rfl (by kernel_rfl) (by kernel_rfl) (by kernel_rfl) (fun _ _ _ h => h) (Or.inl ⟨by rfl, ?hy335⟩) (by assumption) ?_
  case hy335 => (intro w hSw; clear hSw; go_simp; try with_reducible rfl)
  go_simp
  refine wpAnyH_take (i := 13) (v := ?v336) rfl (by kernel_rfl) (by kernel_rfl) (by kernel_rfl) (fun _ _ _ h => h) (Or.inl ⟨by rfl, ?hy336⟩) (by assumption) ?_
  case hy336 => (intro w hSw; obtain ⟨hs0, hs1, hs2, hs3, hs4⟩ := hSw; go_simp; try with_reducible rfl)
  go_simp
  refine wpAnyH_take (i := 18) (v := ?v337) rfl (by kernel_rfl) (by kernel_rfl) (by kernel_rfl) (fun _ _ _ h => h) (Or.inl ⟨by rfl, ?hy337⟩) (by assumption) ?_
  case hy337 => (intro w hSw; clear hSw; go_simp; try with_reducible rfl)
  go_simp
  refine wpAnyH_take (i := 19) (v := ?v338) rfl (by kernel_rfl) (by kernel_rfl) (by kernel_rfl) (fun _ _ _ h => h) (Or.inl ⟨by rfl, ?hy338⟩) (by assumption) ?_
  case hy338 => (intro w hSw; obtain ⟨hs0, hs1, hs2, hs3, hs4⟩ := hSw; go_simp; try with_reducible rfl)
  go_simp
  refine wpAnyH_take (i := 20) (v := ?v339) rfl (by kernel_rfl) (by kernel_rfl) (by kernel_rfl) (fun _ _ _ h => h) (Or.inl ⟨by rfl, ?hy339⟩) (by assumption) ?_
  case hy339 => (intro w hSw; clear hSw; go_simp; try with_reducible rfl)
  go_simp
  refine wpAnyH_ready (rs := [2]) (by kernel_rfl) (by simp) (AllReadyH.cons rfl (fun K hK => ?_) AllReadyH.nil)
  go_simp
  refine (rtext1_any _ _).mono ?_
  rintro e w1 ⟨rfl, hb⟩
  have B1 := Lib.hid (B0.out.trans (hb.mono B0.out.size))
  clear hb
  go_simp
  refine hK.out _ _ (HKS.out _ B1.out) (fun hHeld => ?_)
  clear hK K
  refine wpAnyH_take (i := 3) (v := ?v340) rfl (by kernel_rfl) (by kernel_rfl) (by kernel_rfl) (fun _ _ _ h => h) (Or.inl ⟨by rfl, ?hy340⟩) (by assumption) ?_
  case hy340 => (intro w hSw; clear hSw; go_simp; try with_reducible rfl)
  go_simp
  refine wpAnyH_ready (rs := [6]) (by kernel_rfl) (by simp) (AllReadyH.cons rfl (fun K hK => ?_) AllReadyH.nil)
  go_simp
  refine (rtext1_any _ _).mono ?_
  rintro e w2 ⟨rfl, hb⟩
  have B2 := Lib.hid (B1.out.trans (hb.mono B1.out.size))
  clear hb
  go_simp
  refine hK.out _ _ (HKS.out _ B2.out) (fun hHeld => ?_)
  clear hK K
  refine wpAnyH_take (i := 7) (v := ?v341) rfl (by kernel_rfl) (by kernel_rfl) (by kernel_rfl) (fun _ _ _ h => h) (Or.inl ⟨by rfl, ?hy341⟩) (by assumption) ?_
  case hy341 => (intro w hSw; clear hSw; go_simp; try with_reducible rfl)
  go_simp
  refine wpAnyH_ready (rs := [10]) (by kernel_rfl) (by simp) (AllReadyH.cons rfl (fun K hK => ?_) AllReadyH.nil)
  go_simp
  refine (rtext1_any _ _).mono ?_
  rintro e w3 ⟨rfl, hb⟩
  have B3 := Lib.hid (B2.out.trans (hb.mono B2.out.size))
  clear hb
  go_simp
  refine hK.out _ _ (HKS.out _ B3.out) (fun hHeld => ?_)
  clear hK K
  refine wpAnyH_take (i := 11) (v := ?v342) rfl (by kernel_rfl) (by kernel_rfl) (by kernel_rfl) (fun _ _ _ h => h) (Or.inl ⟨by rfl, ?hy342⟩) (by assumption) ?_
  case hy342 => (intro w hSw; clear hSw; go_simp; try with_reducible rfl)
  go_simp
  refine wpAnyH_ready (rs := [14]) (by kernel_rfl) (by simp) (AllReadyH.cons rfl (fun K hK => ?_) AllReadyH.nil)
  go_simp
  refine (rnum1_any _ _).mono ?_
  rintro e w4 ⟨rfl, hb⟩
  have B4 := Lib.hid (B3.out.trans (hb.mono B3.out.size))
  clear hb
  go_simp
  refine hK.out _ _ (HKS.out _ B4.out) (fun hHeld => ?_)
  clear hK K
  refine wpAnyH_take (i := 15) (v := ?v343) rfl (by kernel_rfl) (by kernel_rfl) (by kernel_rfl) (fun _ _ _ h => h) (Or.inl ⟨by rfl, ?hy343⟩) (by assumption) ?_
  case hy343 => (intro w hSw; clear hSw; go_simp; try with_reducible rfl)
  go_simp
  refine wpAnyH_ready (rs := [16]) (by kernel_rfl) (by simp) (AllReadyH.cons rfl (fun K hK => ?_) AllReadyH.nil)
  go_simp
  have HO0 := Lib.hid (show ObjAt W1 #[str [103, 117, 105, 100], .int .i64 5, .int .i64 0, str g, .slice none 0 0, .slice none 0 0, str [108, 105, 110, 107], .int .i64 5, .int .i64 0, str l, .slice none 0 0, .slice none 0 0, str [116, 105, 116, 108, 101], .int .i64 5, .int .i64 0, str t, .slice none 0 0, .slice none 0 0, str [119, 104, 101, 110], .int .i64 4, .int .i64 n, str [], .slice none 0 0, .slice none 0 0] w4.heap.size (w4.alloc (.cells #[str [103, 117, 105, 100], .int .i64 5, .int .i64 0, str g, .slice none 0 0, .slice none 0 0, str [108, 105, 110, 107], .int .i64 5, .int .i64 0, str l, .slice none 0 0, .slice none 0 0, str [116, 105, 116, 108, 101], .int .i64 5, .int .i64 0, str t, .slice none 0 0, .slice none 0 0, str [119, 104, 101, 110], .int .i64 4, .int .i64 n, str [], .slice none 0 0, .slice none 0 0] 67)) from ⟨B4.out.trans ((below_alloc _ _).mono B4.out.size), heap_alloc_new _ _⟩)
  have B5 := Lib.hid HO0.out.1
  refine hK.out _ _ (HKS.out _ B5.out) (fun hHeld => ?_)
  clear hK K
  refine wpAnyH_ready (rs := [17]) (by kernel_rfl) (by simp) (AllReadyH.cons rfl (fun K hK => ?_) AllReadyH.nil)
  go_simp
  refine (robj_any _ _ _ _).mono ?_
  rintro e w6 ⟨rfl, hb⟩
  have B6 := Lib.hid (B5.out.trans (hb.mono B5.out.size))
  have HO := Lib.hid (show ObjAt W1 #[str [103, 117, 105, 100], .int .i64 5, .int .i64 0, str g, .slice none 0 0, .slice none 0 0, str [108, 105, 110, 107], .int .i64 5, .int .i64 0, str l, .slice none 0 0, .slice none 0 0, str [116, 105, 116, 108, 101], .int .i64 5, .int .i64 0, str t, .slice none 0 0, .slice none 0 0, str [119, 104, 101, 110], .int .i64 4, .int .i64 n, str [], .slice none 0 0, .slice none 0 0] _ w6 from ⟨B6.out, box_up HO0.out.2 hb⟩)
  clear hb
  go_simp
  refine hK.out _ _ (HKS.out _ B6.out) (fun hHeld => ?_)
  clear hK K
  refine wpAnyH_take (i := 21) (v := ?v344) rfl (by kernel_rfl) (by kernel_rfl) (by kernel_rfl) (fun _ _ _ h => h) (Or.inl ⟨by rfl, ?hy344⟩) (by assumption) ?_
  case hy344 => (intro w hSw; clear hSw; go_simp; try with_reducible rfl)
  go_simp
  refine wpAnyH_take (i := 22) (v := ?v345) rfl (by kernel_rfl) (by kernel_rfl) (by kernel_rfl) (fun _ _ _ h => h) (Or.inl ⟨by rfl, ?hy345⟩) (by assumption) ?_
  case hy345 => (intro w hSw; clear hSw; go_simp; try with_reducible rfl)
  go_simp
  refine wpAnyH_take (i := 23) (v := ?v346) rfl (by kernel_rfl) (by kernel_rfl) (by kernel_rfl) (fun _ _ _ h => h) (Or.inl ⟨by rfl, ?hy346⟩) (by assumption) ?_
  case hy346 => (intro w hSw; obtain ⟨hs0, hs1, hs2, hs3, hs4⟩ := hSw; go_simp; try with_reducible rfl)
  go_simp
  refine wpAnyH_ready (rs := [24]) (by kernel_rfl) (by simp) (AllReadyH.cons rfl (fun K hK => ?_) AllReadyH.nil)
  go_simp
  refine (CS1.out _).mono ?_
  rintro e w7 ⟨rfl, rfl⟩
  have B7 := B6
  go_simp
  refine hK.out _ _ (HKS.out _ B7.out) (fun hHeld => ?_)
  clear hK K
  refine wpAnyH_take (i := 25) (v := ?v347) rfl (by kernel_rfl) (by kernel_rfl) (by kernel_rfl) (fun _ _ _ h => h) (Or.inl ⟨by rfl, ?hy347⟩) (by assumption) ?_
  case hy347 => (intro w hSw; clear hSw; go_simp; try with_reducible rfl)
  go_simp
  refine wpAnyH_take (i := 26) (v := ?v348) rfl (by kernel_rfl) (by kernel_rfl) (by kernel_rfl) (fun _ _ _ h => h) (Or.inl ⟨by rfl, ?hy348⟩) (by assumption) ?_
  case hy348 => (intro w hSw; clear hSw; go_simp; try with_reducible rfl)
  go_simp
  refine wpAnyH_take (i := 27) (v := ?v349) rfl (by kernel_rfl) (by kernel_rfl) (by kernel_rfl) (fun _ _ _ h => h) (Or.inl ⟨by rfl, ?hy349⟩) (by assumption) ?_
  case hy349 => (intro w hSw; clear hSw; go_simp; try with_reducible rfl)
  go_simp
  refine wpAnyH_take (i := 28) (v := ?v350) rfl (by kernel_rfl) (by kernel_rfl) (by kernel_rfl) (fun _ _ _ h => h) (Or.inl ⟨by rfl, ?hy350⟩) (by assumption) ?_
  case hy350 => (intro w hSw; obtain ⟨hs0, hs1, hs2, hs3, hs4⟩ := hSw; go_simp; try with_reducible rfl)
  go_simp
  refine wpAnyH_ready (rs := [29]) (by kernel_rfl) (by simp) (AllReadyH.cons rfl (fun K hK => ?_) AllReadyH.nil)
  go_simp
  refine (CS2.out _).mono ?_
  rintro e w8 ⟨rfl, rfl⟩
  have B8 := B7
  go_simp
  refine hK.out _ _ (HKS.out _ B8.out) (fun hHeld => ?_)
  clear hK K
  refine wpAnyH_take (i := 30) (v := ?v351) rfl (by kernel_rfl) (by kernel_rfl) (by kernel_rfl) (fun _ _ _ h => h) (Or.inl ⟨by rfl, ?hy351⟩) (by assumption) ?_
  case hy351 => (intro w hSw; clear hSw; go_simp; try with_reducible rfl)
  go_simp
  refine wpAnyH_take (i := 31) (v := ?v352) rfl (by kernel_rfl) (by kernel_rfl) (by kernel_rfl) (fun _ _ _ h => h) (Or.inl ⟨by rfl, ?hy352⟩) (by assumption) ?_
  case hy352 => (intro w hSw; clear hSw; go_simp; try with_reducible rfl)
  go_simp
  refine wpAnyH_take (i := 32) (v := undef) rfl (by kernel_rfl) (by kernel_rfl) (by kernel_rfl) (fun _ _ _ h => h) (Or.inr ⟨by rfl, rfl⟩) (by assumption) ?_
  go_simp
  refine wpAnyH_take (i := 33) (v := undef) rfl (by kernel_rfl) (by kernel_rfl) (by kernel_rfl) (fun _ _ _ h => h) (Or.inr ⟨by rfl, rfl⟩) (by assumption) ?_
  go_simp
  refine wpAnyH_ready (rs := [34]) (by kernel_rfl) (by simp) (AllReadyH.cons rfl (fun K hK => ?_) AllReadyH.nil)
  go_simp
  refine hK.out _ _ (by assumption) (fun _ => ?_)
  clear hK K
  refine wpAnyH_take (i := 35) (v := ?v355) rfl (by kernel_rfl) (by kernel_rfl) (by kernel_rfl) (fun _ _ _ h => h) (Or.inl ⟨by rfl, ?hy355⟩) (by assumption) ?_
  case hy355 => (intro w hSw; clear hSw; go_simp; try with_reducible rfl)
  go_simp
  refine wpAnyH_take (i := 36) (v := ?v356) rfl (by kernel_rfl) (by kernel_rfl) (by kernel_rfl) (fun _ _ _ h => h) (Or.inl ⟨by rfl, ?hy356⟩) (by assumption) ?_
  case hy356 => (intro w hSw; clear hSw; go_simp; try with_reducible rfl)
  go_simp
  refine wpAnyH_take (i := 37) (v := undef) rfl (by kernel_rfl) (by kernel_rfl) (by kernel_rfl) (fun _ _ _ h => h) (Or.inr ⟨by rfl, rfl⟩) (by assumption) ?_
  go_simp
  refine wpAnyH_take (i := 38) (v := undef) rfl (by kernel_rfl) (by kernel_rfl) (by kernel_rfl) (fun _ _ _ h => h) (Or.inr ⟨by rfl, rfl⟩) (by assumption) ?_
  go_simp
  refine wpAnyH_take (i := 39) (v := undef) rfl (by kernel_rfl) (by kernel_rfl) (by kernel_rfl) (fun _ _ _ h => h) (Or.inr ⟨by rfl, rfl⟩) (by assumption) ?_
  go_simp
  refine wpAnyH_take (i := 40) (v := ?v360) rfl (by kernel_rfl) (by kernel_rfl) (by kernel_rfl) (fun _ _ _ h => h) (Or.inl ⟨by rfl, ?hy360⟩) (by assumption) ?_
  case hy360 => (intro w hSw; clear hSw; go_simp; try with_reducible rfl)
  go_simp
  refine wpAnyH_take (i := 41) (v := ?v361) rfl (by kernel_rfl) (by kernel_rfl) (by kernel_rfl) (fun _ _ _ h => h) (Or.inl ⟨by rfl, ?hy361⟩) (by assumption) ?_
  case hy361 => (intro w hSw; clear hSw; go_simp; try with_reducible rfl)
  go_simp
  refine wpAnyH_take (i := 42) (v := undef) rfl (by kernel_rfl) (by kernel_rfl) (by kernel_rfl) (fun _ _ _ h => h) (Or.inr ⟨by rfl, rfl⟩) (by assumption) ?_
  go_simp
  refine wpAnyH_take (i := 43) (v := undef) rfl (by kernel_rfl) (by kernel_rfl) (by kernel_rfl) (fun _ _ _ h => h) (Or.inr ⟨by rfl, rfl⟩) (by assumption) ?_
  go_simp
  refine wpAnyH_take (i := 44) (v := undef) rfl (by kernel_rfl) (by kernel_rfl) (by kernel_rfl) (fun _ _ _ h => h) (Or.inr ⟨by rfl, rfl⟩) (by assumption) ?_
  go_simp
  refine wpAnyH_take (i := 45) (v := ?v365) rfl (by kernel_rfl) (by kernel_rfl) (by kernel_rfl) (fun _ _ _ h => h) (Or.inl ⟨by rfl, ?hy365⟩) (by assumption) ?_
  case hy365 => (intro w hSw; clear hSw; go_simp; try with_reducible rfl)
  go_simp
  refine wpAnyH_ready (rs := [46]) (by kernel_rfl) (by simp) (AllReadyH.cons rfl (fun K hK => ?_) AllReadyH.nil)
  go_simp
  refine (CPX.out _ _ HO.out).mono ?_
  rintro e w9 ⟨rfl, hb⟩
  have B9 := Lib.hid hb
  clear hb
  go_simp
  refine hK.out _ _ (HKS.out _ B9.out) (fun hHeld => ?_)
  clear hK K
  refine wpAnyH_take (i := 47) (v := ?v366) rfl (by kernel_rfl) (by kernel_rfl) (by kernel_rfl) (fun _ _ _ h => h) (Or.inl ⟨by rfl, ?hy366⟩) (by assumption) ?_
  case hy366 => (intro w hSw; clear hSw; go_simp; try with_reducible rfl)
  go_simp
  refine wpAnyH_take (i := 48) (v := ?v367) rfl (by kernel_rfl) (by kernel_rfl) (by kernel_rfl) (fun _ _ _ h => h) (Or.inl ⟨by rfl, ?hy367⟩) (by assumption) ?_
  case hy367 => (intro w hSw; clear hSw; go_simp; try with_reducible rfl)
  go_simp
  refine wpAnyH_take (i := 49) (v := ?v368) rfl (by kernel_rfl) (by kernel_rfl) (by kernel_rfl) (fun _ _ _ h => h) (Or.inl ⟨by rfl, ?hy368⟩) (by assumption) ?_
  case hy368 => (intro w hSw; clear hSw; go_simp; try with_reducible rfl)
  go_simp
  refine wpAnyH_take (i := 50) (v := ?v369) rfl (by kernel_rfl) (by kernel_rfl) (by kernel_rfl) (fun _ _ _ h => h) (Or.inl ⟨by rfl, ?hy369⟩) (by assumption) ?_
  case hy369 => (intro w hSw; clear hSw; go_simp; try with_reducible rfl)
  go_simp
  refine wpAnyH_done (by kernel_rfl) ?_ _
  have HX := Lib.hid (HW.out.trans (B9.out.mono HW.out.size))
  clear HKS CPX
  go_wp2_with fail
  go_ret2
  exact ⟨rfl, HX.out⟩
set_option maxRecDepth 100000 in
set_option maxHeartbeats 16000000 in
theorem rputPutEntry_3 (m : Int) (g : List UInt8) (t : List UInt8) (l : List UInt8) (n : Int) (w : World) (hg : g.length ≤ 9223372036854775807) (hl : l.length ≤ 9223372036854775807) (ht : t.length ≤ 9223372036854775807) (h0 : (g == []) = false) (s1 : shortB g = true) (s2 : shortB l = true) (s3 : shortB t = false) : Calls Tryd.prog 8 #[.agg #[.int .i64 m, str g, str t, str l, .int .i64 n]] w fun e w' => e = .returned (.tuple #[str (refO (entMs g l t n) false).1, .int .i64 (refO (entMs g l t n) false).2]) ∧ Below w.heap.size w w' := by
  obtain ⟨W1, hW1⟩ : ∃ W1, W1 = w.alloc (.cells #[.int .i64 m, str g, str t, str l, .int .i64 n] 25) := ⟨_, rfl⟩
  have hb1 : Below w.heap.size w W1 := by rw [hW1]; exact below_alloc _ _
  have hbx : W1.heap[w.heap.size]? = some (.cells #[.int .i64 m, str g, str t, str l, .int .i64 n] 25 (0, 0)) := by rw [hW1]; exact heap_alloc_new _ _
  have HKS : Hid (∀ W', Below W1.heap.size W1 W' → SBPutEntry m g t l n w.heap.size W') := Lib.hid (fun W' hb => ⟨(hb.cell (p := ⟨w.heap.size, 0, none⟩) (World.block_lt_of_cell? W1 _ (box_cell hbx 0))).trans (box_cell hbx 0), (hb.cell (p := ⟨w.heap.size, 1, none⟩) (World.block_lt_of_cell? W1 _ (box_cell hbx 1))).trans (box_cell hbx 1), (hb.cell (p := ⟨w.heap.size, 2, none⟩) (World.block_lt_of_cell? W1 _ (box_cell hbx 2))).trans (box_cell hbx 2), (hb.cell (p := ⟨w.heap.size, 3, none⟩) (World.block_lt_of_cell? W1 _ (box_cell hbx 3))).trans (box_cell hbx 3), (hb.cell (p := ⟨w.heap.size, 4, none⟩) (World.block_lt_of_cell? W1 _ (box_cell hbx 4))).trans (box_cell hbx 4)⟩)
  have HW := Lib.hid hb1
  have CS1 := Lib.hid (fun W => by have h0 := rshort_any g W hg; rw [show shortB g = true from s1] at h0; exact h0)
  have CS2 := Lib.hid (fun W => by have h0 := rshort_any l W hl; rw [show shortB l = true from s2] at h0; exact h0)
  have CS3 := Lib.hid (fun W => by have h0 := rshort_any t W ht; rw [show shortB t = false from s3] at h0; exact h0)
  have CPX := Lib.hid (fun W B h => rpPutEntry_pr g t l n hg hl ht (W1 := W1) false W B h)
  obtain ⟨R1, hR1⟩ : ∃ R1, R1 = (refO (entMs g l t n) false).1 := ⟨_, rfl⟩
  obtain ⟨R2, hR2⟩ : ∃ R2, R2 = (refO (entMs g l t n) false).2 := ⟨_, rfl⟩
  rw [← hR1, ← hR2] at CPX
  rw [← hR1, ← hR2]
  clear hR1 hR2 hb1 hbx
  clear hg hl ht s1 s2 s3
  go_enter Tryd.func8, Tryd.ntmps8
  go_upto_region 1 with fail
  rw [← hW1]
  clear hW1
  have B0 := Lib.hid (show Below W1.heap.size W1 W1.drew from Below.drewsN (Below.refl _ _) 1)
  refine wp_region_held_drew (S := SBPutEntry m g t l n w.heap.size) (by kernel_rfl) (HKS.out _ B0.out) (fun hHeld => ?_)
  refine wpAnyH_take (i := 0) (v := ?v370) rfl (by kernel_rfl) (by kernel_rfl) (by kernel_rfl) (fun _ _ _ h => h) (Or.inl ⟨by rfl, ?hy370⟩) (by assumption) ?_
  case hy370 => (intro w hSw; clear hSw; go_simp; try with_reducible rfl)
  go_simp
  refine wpAnyH_take (i := 1) (v := ?v371) rfl (by kernel_rfl) (by kernel_rfl) (by kernel_rfl) (fun _ _ _ h => h) (Or.inl ⟨by rfl, ?hy371⟩) (by assumption) ?_
  case hy371 => (intro w hSw; obtain ⟨hs0, hs1, hs2, hs3, hs4⟩ := hSw; go_simp; try with_reducible rfl)
  go_simp
  refine wpAnyH_take (i := 4) (v := ?v372) rfl (by kernel_rfl) (by kernel_rfl) (by kernel_rfl) (fun _ _ _ h => h) (Or.inl ⟨by rfl, ?hy372⟩) (by assumption) ?_
  case hy372 => (intro w hSw; clear hSw; go_simp; try with_reducible rfl)
  go_simp
  refine wpAnyH_take (i := 5) (v := ?v373) rfl (by kernel_rfl) (by kernel_rfl) (by kernel_rfl) (fun _ _ _ h => h) (Or.inl ⟨by rfl, ?hy373⟩) (by assumption) ?_
  case hy373 => (intro w hSw; obtain ⟨hs0, hs1, hs2, hs3, hs4⟩ := hSw; go_simp; try with_reducible rfl)
  go_simp
  refine wpAnyH_take (i := 8) (v := ?v374) rfl (by kernel_rfl) (by kernel_rfl) (by kernel_rfl) (fun _ _ _ h => h) (Or.inl ⟨by rfl, ?hy374⟩) (by assumption) ?_
  case hy374 => (intro w hSw; clear hSw; go_simp; try with_reducible rfl)
  go_simp
  refine wpAnyH_take (i := 9) (v := ?v375) rfl (by kernel_rfl) (by kernel_rfl) (by kernel_rfl) (fun _ _ _ h => h) (Or.inl ⟨by rfl, ?hy375⟩) (by assumption) ?_
  case hy375 => (intro w hSw; obtain ⟨hs0, hs1, hs2, hs3, hs4⟩ := hSw; go_simp; try with_reducible rfl)
  go_simp
  refine wpAnyH_take (i := 12) (v := ?v376) rfl (by kernel_rfl) (by kernel_rfl) (by kernel_rfl) (fun _ _ _ h => h) (Or.inl ⟨by rfl, ?hy376⟩) (by assumption) ?_
  case hy376 => (intro w hSw; clear hSw; go_simp; try with_reducible rfl)
  go_simp
  refine wpAnyH_take (i := 13) (v := ?v377) rfl (by kernel_rfl) (by kernel_rfl) (by kernel_rfl) (fun _ _ _ h => h) (Or.inl ⟨by rfl, ?hy377⟩) (by assumption) ?_
  case hy377 => (intro w hSw; obtain ⟨hs0, hs1, hs2, hs3, hs4⟩ := hSw; go_simp; try with_reducible rfl)
  go_simp
  refine wpAnyH_take (i := 18) (v := ?v378) rfl (by kernel_rfl) (by kernel_rfl) (by kernel_rfl) (fun _ _ _ h => h) (Or.inl ⟨by rfl, ?hy378⟩) (by assumption) ?_
  case hy378 => (intro w hSw; clear hSw; go_simp; try with_reducible rfl)
  go_simp
  refine wpAnyH_take (i := 19) (v := ?v379) rfl (by kernel_rfl) (by kernel_rfl) (by kernel_rfl) (fun _ _ _ h => h) (Or.inl ⟨by rfl, ?hy379⟩) (by assumption) ?_
  case hy379 => (intro w hSw; obtain ⟨hs0, hs1, hs2, hs3, hs4⟩ := hSw; go_simp; try with_reducible rfl)
  go_simp
  refine wpAnyH_take (i := 20) (v := ?v380) rfl (by kernel_rfl) (by kernel_rfl) (by kernel_rfl) (fun _ _ _ h => h) (Or.inl ⟨by rfl, ?hy380⟩) (by assumption) ?_
  case hy380 => (intro w hSw; clear hSw; go_simp; try with_reducible rfl)
  go_simp
  refine wpAnyH_ready (rs := [2]) (by kernel_rfl) (by simp) (AllReadyH.cons rfl (fun K hK => ?_) AllReadyH.nil)
  go_simp
  refine (rtext1_any _ _).mono ?_
  rintro e w1 ⟨rfl, hb⟩
  have B1 := Lib.hid (B0.out.trans (hb.mono B0.out.size))
  clear hb
  go_simp
  refine hK.out _ _ (HKS.out _ B1.out) (fun hHeld => ?_)
  clear hK K
  refine wpAnyH_take (i := 3) (v := ?v381) rfl (by kernel_rfl) (by kernel_rfl) (by kernel_rfl) (fun _ _ _ h => h) (Or.inl ⟨by rfl, ?hy381⟩) (by assumption) ?_
  case hy381 => (intro w hSw; clear hSw; go_simp; try with_reducible rfl)
  go_simp
  refine wpAnyH_ready (rs := [6]) (by kernel_rfl) (by simp) (AllReadyH.cons rfl (fun K hK => ?_) AllReadyH.nil)
  go_simp
  refine (rtext1_any _ _).mono ?_
  rintro e w2 ⟨rfl, hb⟩
  have B2 := Lib.hid (B1.out.trans (hb.mono B1.out.size))
  clear hb
  go_simp
  refine hK.out _ _ (HKS.out _ B2.out) (fun hHeld => ?_)
  clear hK K
  refine wpAnyH_take (i := 7) (v := ?v382) rfl (by kernel_rfl) (by kernel_rfl) (by kernel_rfl) (fun _ _ _ h => h) (Or.inl ⟨by rfl, ?hy382⟩) (by assumption) ?_
  case hy382 => (intro w hSw; clear hSw; go_simp; try with_reducible rfl)
  go_simp
  refine wpAnyH_ready (rs := [10]) (by kernel_rfl) (by simp) (AllReadyH.cons rfl (fun K hK => ?_) AllReadyH.nil)
  go_simp
  refine (rtext1_any _ _).mono ?_
  rintro e w3 ⟨rfl, hb⟩
  have B3 := Lib.hid (B2.out.trans (hb.mono B2.out.size))
  clear hb
  go_simp
  refine hK.out _ _ (HKS.out _ B3.out) (fun hHeld => ?_)
  clear hK K
  refine wpAnyH_take (i := 11) (v := ?v383) rfl (by kernel_rfl) (by kernel_rfl) (by kernel_rfl) (fun _ _ _ h => h) (Or.inl ⟨by rfl, ?hy383⟩) (by assumption) ?_
  case hy383 => (intro w hSw; clear hSw; go_simp; try with_reducible rfl)
  go_simp
  refine wpAnyH_ready (rs := [14]) (by kernel_rfl) (by simp) (AllReadyH.cons rfl (fun K hK => ?_) AllReadyH.nil)
  go_simp
  refine (rnum1_any _ _).mono ?_
  rintro e w4 ⟨rfl, hb⟩
  have B4 := Lib.hid (B3.out.trans (hb.mono B3.out.size))
  clear hb
  go_simp
  refine hK.out _ _ (HKS.out _ B4.out) (fun hHeld => ?_)
  clear hK K
  refine wpAnyH_take (i := 15) (v := ?v384) rfl (by kernel_rfl) (by kernel_rfl) (by kernel_rfl) (fun _ _ _ h => h) (Or.inl ⟨by rfl, ?hy384⟩) (by assumption) ?_
  case hy384 => (intro w hSw; clear hSw; go_simp; try with_reducible rfl)
  go_simp
  refine wpAnyH_ready (rs := [16]) (by kernel_rfl) (by simp) (AllReadyH.cons rfl (fun K hK => ?_) AllReadyH.nil)
  go_simp
  have HO0 := Lib.hid (show ObjAt W1 #[str [103, 117, 105, 100], .int .i64 5, .int .i64 0, str g, .slice none 0 0, .slice none 0 0, str [108, 105, 110, 107], .int .i64 5, .int .i64 0, str l, .slice none 0 0, .slice none 0 0, str [116, 105, 116, 108, 101], .int .i64 5, .int .i64 0, str t, .slice none 0 0, .slice none 0 0, str [119, 104, 101, 110], .int .i64 4, .int .i64 n, str [], .slice none 0 0, .slice none 0 0] w4.heap.size (w4.alloc (.cells #[str [103, 117, 105, 100], .int .i64 5, .int .i64 0, str g, .slice none 0 0, .slice none 0 0, str [108, 105, 110, 107], .int .i64 5, .int .i64 0, str l, .slice none 0 0, .slice none 0 0, str [116, 105, 116, 108, 101], .int .i64 5, .int .i64 0, str t, .slice none 0 0, .slice none 0 0, str [119, 104, 101, 110], .int .i64 4, .int .i64 n, str [], .slice none 0 0, .slice none 0 0] 67)) from ⟨B4.out.trans ((below_alloc _ _).mono B4.out.size), heap_alloc_new _ _⟩)
  have B5 := Lib.hid HO0.out.1
  refine hK.out _ _ (HKS.out _ B5.out) (fun hHeld => ?_)
  clear hK K
  refine wpAnyH_ready (rs := [17]) (by kernel_rfl) (by simp) (AllReadyH.cons rfl (fun K hK => ?_) AllReadyH.nil)
  go_simp
  refine (robj_any _ _ _ _).mono ?_
  rintro e w6 ⟨rfl, hb⟩
  have B6 := Lib.hid (B5.out.trans (hb.mono B5.out.size))
  have HO := Lib.hid (show ObjAt W1 #[str [103, 117, 105, 100], .int .i64 5, .int .i64 0, str g, .slice none 0 0, .slice none 0 0, str [108, 105, 110, 107], .int .i64 5, .int .i64 0, str l, .slice none 0 0, .slice none 0 0, str [116, 105, 116, 108, 101], .int .i64 5, .int .i64 0, str t, .slice none 0 0, .slice none 0 0, str [119, 104, 101, 110], .int .i64 4, .int .i64 n, str [], .slice none 0 0, .slice none 0 0] _ w6 from ⟨B6.out, box_up HO0.out.2 hb⟩)
  clear hb
  go_simp
  refine hK.out _ _ (HKS.out _ B6.out) (fun hHeld => ?_)
  clear hK K
  refine wpAnyH_take (i := 21) (v := ?v385) rfl (by kernel_rfl) (by kernel_rfl) (by kernel_rfl) (fun _ _ _ h => h) (Or.inl ⟨by rfl, ?hy385⟩) (by assumption) ?_
  case hy385 => (intro w hSw; clear hSw; go_simp; try with_reducible rfl)
  go_simp
  refine wpAnyH_take (i := 22) (v := ?v386) rfl (by kernel_rfl) (by kernel_rfl) (by kernel_rfl) (fun _ _ _ h => h) (Or.inl ⟨by rfl, ?hy386⟩) (by assumption) ?_
  case hy386 => (intro w hSw; clear hSw; go_simp; try with_reducible rfl)
  go_simp
  refine wpAnyH_take (i := 23) (v := ?v387) rfl (by kernel_rfl) (by kernel_rfl) (by kernel_rfl) (fun _ _ _ h => h) (Or.inl ⟨by rfl, ?hy387⟩) (by assumption) ?_
  case hy387 => (intro w hSw; obtain ⟨hs0, hs1, hs2, hs3, hs4⟩ := hSw; go_simp; try with_reducible rfl)
  go_simp
  refine wpAnyH_ready (rs := [24]) (by kernel_rfl) (by simp) (AllReadyH.cons rfl (fun K hK => ?_) AllReadyH.nil)
  go_simp
  refine (CS1.out _).mono ?_
  rintro e w7 ⟨rfl, rfl⟩
  have B7 := B6
  go_simp
  refine hK.out _ _ (HKS.out _ B7.out) (fun hHeld => ?_)
  clear hK K
  refine wpAnyH_take (i := 25) (v := ?v388) rfl (by kernel_rfl) (by kernel_rfl) (by kernel_rfl) (fun _ _ _ h => h) (Or.inl ⟨by rfl, ?hy388⟩) (by assumption) ?_
  case hy388 => (intro w hSw; clear hSw; go_simp; try with_reducible rfl)
  go_simp
  refine wpAnyH_take (i := 26) (v := ?v389) rfl (by kernel_rfl) (by kernel_rfl) (by kernel_rfl) (fun _ _ _ h => h) (Or.inl ⟨by rfl, ?hy389⟩) (by assumption) ?_
  case hy389 => (intro w hSw; clear hSw; go_simp; try with_reducible rfl)
  go_simp
  refine wpAnyH_take (i := 27) (v := ?v390) rfl (by kernel_rfl) (by kernel_rfl) (by kernel_rfl) (fun _ _ _ h => h) (Or.inl ⟨by rfl, ?hy390⟩) (by assumption) ?_
  case hy390 => (intro w hSw; clear hSw; go_simp; try with_reducible rfl)
  go_simp
  refine wpAnyH_take (i := 28) (v := ?v391) rfl (by kernel_rfl) (by kernel_rfl) (by kernel_rfl) (fun _ _ _ h => h) (Or.inl ⟨by rfl, ?hy391⟩) (by assumption) ?_
  case hy391 => (intro w hSw; obtain ⟨hs0, hs1, hs2, hs3, hs4⟩ := hSw; go_simp; try with_reducible rfl)
  go_simp
  refine wpAnyH_ready (rs := [29]) (by kernel_rfl) (by simp) (AllReadyH.cons rfl (fun K hK => ?_) AllReadyH.nil)
  go_simp
  refine (CS2.out _).mono ?_
  rintro e w8 ⟨rfl, rfl⟩
  have B8 := B7
  go_simp
  refine hK.out _ _ (HKS.out _ B8.out) (fun hHeld => ?_)
  clear hK K
  refine wpAnyH_take (i := 30) (v := ?v392) rfl (by kernel_rfl) (by kernel_rfl) (by kernel_rfl) (fun _ _ _ h => h) (Or.inl ⟨by rfl, ?hy392⟩) (by assumption) ?_
  case hy392 => (intro w hSw; clear hSw; go_simp; try with_reducible rfl)
  go_simp
  refine wpAnyH_take (i := 31) (v := ?v393) rfl (by kernel_rfl) (by kernel_rfl) (by kernel_rfl) (fun _ _ _ h => h) (Or.inl ⟨by rfl, ?hy393⟩) (by assumption) ?_
  case hy393 => (intro w hSw; clear hSw; go_simp; try with_reducible rfl)
  go_simp
  refine wpAnyH_take (i := 32) (v := ?v394) rfl (by kernel_rfl) (by kernel_rfl) (by kernel_rfl) (fun _ _ _ h => h) (Or.inl ⟨by rfl, ?hy394⟩) (by assumption) ?_
  case hy394 => (intro w hSw; clear hSw; go_simp; try with_reducible rfl)
  go_simp
  refine wpAnyH_take (i := 33) (v := ?v395) rfl (by kernel_rfl) (by kernel_rfl) (by kernel_rfl) (fun _ _ _ h => h) (Or.inl ⟨by rfl, ?hy395⟩) (by assumption) ?_
  case hy395 => (intro w hSw; obtain ⟨hs0, hs1, hs2, hs3, hs4⟩ := hSw; go_simp; try with_reducible rfl)
  go_simp
  refine wpAnyH_ready (rs := [34]) (by kernel_rfl) (by simp) (AllReadyH.cons rfl (fun K hK => ?_) AllReadyH.nil)
  go_simp
  refine (CS3.out _).mono ?_
  rintro e w9 ⟨rfl, rfl⟩
  have B9 := B8
  go_simp
  refine hK.out _ _ (HKS.out _ B9.out) (fun hHeld => ?_)
  clear hK K
  refine wpAnyH_take (i := 35) (v := ?v396) rfl (by kernel_rfl) (by kernel_rfl) (by kernel_rfl) (fun _ _ _ h => h) (Or.inl ⟨by rfl, ?hy396⟩) (by assumption) ?_
  case hy396 => (intro w hSw; clear hSw; go_simp; try with_reducible rfl)
  go_simp
  refine wpAnyH_take (i := 36) (v := ?v397) rfl (by kernel_rfl) (by kernel_rfl) (by kernel_rfl) (fun _ _ _ h => h) (Or.inl ⟨by rfl, ?hy397⟩) (by assumption) ?_
  case hy397 => (intro w hSw; clear hSw; go_simp; try with_reducible rfl)
  go_simp
  refine wpAnyH_take (i := 37) (v := undef) rfl (by kernel_rfl) (by kernel_rfl) (by kernel_rfl) (fun _ _ _ h => h) (Or.inr ⟨by rfl, rfl⟩) (by assumption) ?_
  go_simp
  refine wpAnyH_take (i := 38) (v := undef) rfl (by kernel_rfl) (by kernel_rfl) (by kernel_rfl) (fun _ _ _ h => h) (Or.inr ⟨by rfl, rfl⟩) (by assumption) ?_
  go_simp
  refine wpAnyH_take (i := 39) (v := undef) rfl (by kernel_rfl) (by kernel_rfl) (by kernel_rfl) (fun _ _ _ h => h) (Or.inr ⟨by rfl, rfl⟩) (by assumption) ?_
  go_simp
  refine wpAnyH_take (i := 40) (v := ?v401) rfl (by kernel_rfl) (by kernel_rfl) (by kernel_rfl) (fun _ _ _ h => h) (Or.inl ⟨by rfl, ?hy401⟩) (by assumption) ?_
  case hy401 => (intro w hSw; clear hSw; go_simp; try with_reducible rfl)
  go_simp
  refine wpAnyH_take (i := 41) (v := ?v402) rfl (by kernel_rfl) (by kernel_rfl) (by kernel_rfl) (fun _ _ _ h => h) (Or.inl ⟨by rfl, ?hy402⟩) (by assumption) ?_
  case hy402 => (intro w hSw; clear hSw; go_simp; try with_reducible rfl)
  go_simp
  refine wpAnyH_take (i := 42) (v := undef) rfl (by kernel_rfl) (by kernel_rfl) (by kernel_rfl) (fun _ _ _ h => h) (Or.inr ⟨by rfl, rfl⟩) (by assumption) ?_
  go_simp
  refine wpAnyH_take (i := 43) (v := undef) rfl (by kernel_rfl) (by kernel_rfl) (by kernel_rfl) (fun _ _ _ h => h) (Or.inr ⟨by rfl, rfl⟩) (by assumption) ?_
  go_simp
  refine wpAnyH_take (i := 44) (v := undef) rfl (by kernel_rfl) (by kernel_rfl) (by kernel_rfl) (fun _ _ _ h => h) (Or.inr ⟨by rfl, rfl⟩) (by assumption) ?_
  go_simp
  refine wpAnyH_take (i := 45) (v := ?v406) rfl (by kernel_rfl) (by kernel_rfl) (by kernel_rfl) (fun _ _ _ h => h) (Or.inl ⟨by rfl, ?hy406⟩) (by assumption) ?_
  case hy406 => (intro w hSw; clear hSw; go_simp; try with_reducible rfl)
  go_simp
  refine wpAnyH_ready (rs := [46]) (by kernel_rfl) (by simp) (AllReadyH.cons rfl (fun K hK => ?_) AllReadyH.nil)
  go_simp
  refine (CPX.out _ _ HO.out).mono ?_
  rintro e w10 ⟨rfl, hb⟩
  have B10 := Lib.hid hb
  clear hb
  go_simp
  refine hK.out _ _ (HKS.out _ B10.out) (fun hHeld => ?_)
  clear hK K
  refine wpAnyH_take (i := 47) (v := ?v407) rfl (by kernel_rfl) (by kernel_rfl) (by kernel_rfl) (fun _ _ _ h => h) (Or.inl ⟨by rfl, ?hy407⟩) (by assumption) ?_
  case hy407 => (intro w hSw; clear hSw; go_simp; try with_reducible rfl)
  go_simp
  refine wpAnyH_take (i := 48) (v := ?v408) rfl (by kernel_rfl) (by kernel_rfl) (by kernel_rfl) (fun _ _ _ h => h) (Or.inl ⟨by rfl, ?hy408⟩) (by assumption) ?_
  case hy408 => (intro w hSw; clear hSw; go_simp; try with_reducible rfl)
  go_simp
  refine wpAnyH_take (i := 49) (v := ?v409) rfl (by kernel_rfl) (by kernel_rfl) (by kernel_rfl) (fun _ _ _ h => h) (Or.inl ⟨by rfl, ?hy409⟩) (by assumption) ?_
  case hy409 => (intro w hSw; clear hSw; go_simp; try with_reducible rfl)
  go_simp
  refine wpAnyH_take (i := 50) (v := ?v410) rfl (by kernel_rfl) (by kernel_rfl) (by kernel_rfl) (fun _ _ _ h => h) (Or.inl ⟨by rfl, ?hy410⟩) (by assumption) ?_
  case hy410 => (intro w hSw; clear hSw; go_simp; try with_reducible rfl)
  go_simp
  refine wpAnyH_done (by kernel_rfl) ?_ _
  have HX := Lib.hid (HW.out.trans (B10.out.mono HW.out.size))
  clear HKS CPX
  go_wp2_with fail
  go_ret2
  exact ⟨rfl, HX.out⟩
set_option maxRecDepth 100000 in
set_option maxHeartbeats 16000000 in
theorem rputPutEntry_4 (m : Int) (g : List UInt8) (t : List UInt8) (l : List UInt8) (n : Int) (w : World) (hg : g.length ≤ 9223372036854775807) (hl : l.length ≤ 9223372036854775807) (ht : t.length ≤ 9223372036854775807) (h0 : (g == []) = false) (s1 : shortB g = true) (s2 : shortB l = true) (s3 : shortB t = true) (h1 : ¬ 0 ≤ n) : Calls Tryd.prog 8 #[.agg #[.int .i64 m, str g, str t, str l, .int .i64 n]] w fun e w' => e = .returned (.tuple #[str (refO (entMs g l t n) false).1, .int .i64 (refO (entMs g l t n) false).2]) ∧ Below w.heap.size w w' := by
  obtain ⟨W1, hW1⟩ : ∃ W1, W1 = w.alloc (.cells #[.int .i64 m, str g, str t, str l, .int .i64 n] 25) := ⟨_, rfl⟩
  have hb1 : Below w.heap.size w W1 := by rw [hW1]; exact below_alloc _ _
  have hbx : W1.heap[w.heap.size]? = some (.cells #[.int .i64 m, str g, str t, str l, .int .i64 n] 25 (0, 0)) := by rw [hW1]; exact heap_alloc_new _ _
  have HKS : Hid (∀ W', Below W1.heap.size W1 W' → SBPutEntry m g t l n w.heap.size W') := Lib.hid (fun W' hb => ⟨(hb.cell (p := ⟨w.heap.size, 0, none⟩) (World.block_lt_of_cell? W1 _ (box_cell hbx 0))).trans (box_cell hbx 0), (hb.cell (p := ⟨w.heap.size, 1, none⟩) (World.block_lt_of_cell? W1 _ (box_cell hbx 1))).trans (box_cell hbx 1), (hb.cell (p := ⟨w.heap.size, 2, none⟩) (World.block_lt_of_cell? W1 _ (box_cell hbx 2))).trans (box_cell hbx 2), (hb.cell (p := ⟨w.heap.size, 3, none⟩) (World.block_lt_of_cell? W1 _ (box_cell hbx 3))).trans (box_cell hbx 3), (hb.cell (p := ⟨w.heap.size, 4, none⟩) (World.block_lt_of_cell? W1 _ (box_cell hbx 4))).trans (box_cell hbx 4)⟩)
  have HW := Lib.hid hb1
  have CS1 := Lib.hid (fun W => by have h0 := rshort_any g W hg; rw [show shortB g = true from s1] at h0; exact h0)
  have CS2 := Lib.hid (fun W => by have h0 := rshort_any l W hl; rw [show shortB l = true from s2] at h0; exact h0)
  have CS3 := Lib.hid (fun W => by have h0 := rshort_any t W ht; rw [show shortB t = true from s3] at h0; exact h0)
  have z1 : decide (0 ≤ n) = false := decide_eq_false h1
  have CPX := Lib.hid (fun W B h => rpPutEntry_pr g t l n hg hl ht (W1 := W1) false W B h)
  obtain ⟨R1, hR1⟩ : ∃ R1, R1 = (refO (entMs g l t n) false).1 := ⟨_, rfl⟩
  obtain ⟨R2, hR2⟩ : ∃ R2, R2 = (refO (entMs g l t n) false).2 := ⟨_, rfl⟩
  rw [← hR1, ← hR2] at CPX
  rw [← hR1, ← hR2]
  clear hR1 hR2 hb1 hbx
  clear hg hl ht s1 s2 s3 h1
  go_enter Tryd.func8, Tryd.ntmps8
  go_upto_region 1 with fail
  rw [← hW1]
  clear hW1
  have B0 := Lib.hid (show Below W1.heap.size W1 W1.drew from Below.drewsN (Below.refl _ _) 1)
  refine wp_region_held_drew (S := SBPutEntry m g t l n w.heap.size) (by kernel_rfl) (HKS.out _ B0.out) (fun hHeld => ?_)
  refine wpAnyH_take (i := 0) (v := ?v411) rfl (by kernel_rfl) (by kernel_rfl) (by kernel_rfl) (fun _ _ _ h => h) (Or.inl ⟨by rfl, ?hy411⟩) (by assumption) ?_
  case hy411 => (intro w hSw; clear hSw; go_simp; try with_reducible rfl)
  go_simp
  refine wpAnyH_take (i := 1) (v := ?v412) rfl (by kernel_rfl) (by kernel_rfl) (by kernel_rfl) (fun _ _ _ h => h) (Or.inl ⟨by rfl, ?hy412⟩) (by assumption) ?_
  case hy412 => (intro w hSw; obtain ⟨hs0, hs1, hs2, hs3, hs4⟩ := hSw; go_simp; try with_reducible rfl)
  go_simp
  refine wpAnyH_take (i := 4) (v := ?v413) rfl (by kernel_rfl) (by kernel_rfl) (by kernel_rfl) (fun _ _ _ h => h) (Or.inl ⟨by rfl, ?hy413⟩) (by assumption) ?_
  case hy413 => (intro w hSw; clear hSw; go_simp; try with_reducible rfl)
  go_simp
  refine wpAnyH_take (i := 5) (v := ?v414) rfl (by kernel_rfl) (by kernel_rfl) (by kernel_rfl) (fun _ _ _ h => h) (Or.inl ⟨by rfl, ?hy414⟩) (by assumption) ?_
  case hy414 => (intro w hSw; obtain ⟨hs0, hs1, hs2, hs3, hs4⟩ := hSw; go_simp; try with_reducible rfl)
  go_simp
  refine wpAnyH_take (i := 8) (v := ?v415) rfl (by kernel_rfl) (by kernel_rfl) (by kernel_rfl) (fun _ _ _ h => h) (Or.inl ⟨by rfl, ?hy415⟩) (by assumption) ?_
  case hy415 => (intro w hSw; clear hSw; go_simp; try with_reducible rfl)
  go_simp
  refine wpAnyH_take (i := 9) (v := ?v416) rfl (by kernel_rfl) (by kernel_rfl) (by kernel_rfl) (fun _ _ _ h => h) (Or.inl ⟨by rfl, ?hy416⟩) (by assumption) ?_
  case hy416 => (intro w hSw; obtain ⟨hs0, hs1, hs2, hs3, hs4⟩ := hSw; go_simp; try with_reducible rfl)
  go_simp
  refine wpAnyH_take (i := 12) (v := ?v417) rfl (by kernel_rfl) (by kernel_rfl) (by kernel_rfl) (fun _ _ _ h => h) (Or.inl ⟨by rfl, ?hy417⟩) (by assumption) ?_
  case hy417 => (intro w hSw; clear hSw; go_simp; try with_reducible rfl)
  go_simp
  refine wpAnyH_take (i := 13) (v := ?v418) rfl (by kernel_rfl) (by kernel_rfl) (by kernel_rfl) (fun _ _ _ h => h) (Or.inl ⟨by rfl, ?hy418⟩) (by assumption) ?_
  case hy418 => (intro w hSw; obtain ⟨hs0, hs1, hs2, hs3, hs4⟩ := hSw; go_simp; try with_reducible rfl)
  go_simp
  refine wpAnyH_take (i := 18) (v := ?v419) rfl (by kernel_rfl) (by kernel_rfl) (by kernel_rfl) (fun _ _ _ h => h) (Or.inl ⟨by rfl, ?hy419⟩) (by assumption) ?_
  case hy419 => (intro w hSw; clear hSw; go_simp; try with_reducible rfl)
  go_simp
  refine wpAnyH_take (i := 19) (v := ?v420) rfl (by kernel_rfl) (by kernel_rfl) (by kernel_rfl) (fun _ _ _ h => h) (Or.inl ⟨by rfl, ?hy420⟩) (by assumption) ?_
  case hy420 => (intro w hSw; obtain ⟨hs0, hs1, hs2, hs3, hs4⟩ := hSw; go_simp; try with_reducible rfl)
  go_simp
  refine wpAnyH_take (i := 20) (v := ?v421) rfl (by kernel_rfl) (by kernel_rfl) (by kernel_rfl) (fun _ _ _ h => h) (Or.inl ⟨by rfl, ?hy421⟩) (by assumption) ?_
  case hy421 => (intro w hSw; clear hSw; go_simp; try with_reducible rfl)
  go_simp
  refine wpAnyH_ready (rs := [2]) (by kernel_rfl) (by simp) (AllReadyH.cons rfl (fun K hK => ?_) AllReadyH.nil)
  go_simp
  refine (rtext1_any _ _).mono ?_
  rintro e w1 ⟨rfl, hb⟩
  have B1 := Lib.hid (B0.out.trans (hb.mono B0.out.size))
  clear hb
  go_simp
  refine hK.out _ _ (HKS.out _ B1.out) (fun hHeld => ?_)
  clear hK K
  refine wpAnyH_take (i := 3) (v := ?v422) rfl (by kernel_rfl) (by kernel_rfl) (by kernel_rfl) (fun _ _ _ h => h) (Or.inl ⟨by rfl, ?hy422⟩) (by assumption) ?_
  case hy422 => (intro w hSw; clear hSw; go_simp; try with_reducible rfl)
  go_simp
  refine wpAnyH_ready (rs := [6]) (by kernel_rfl) (by simp) (AllReadyH.cons rfl (fun K hK => ?_) AllReadyH.nil)
  go_simp
  refine (rtext1_any _ _).mono ?_
  rintro e w2 ⟨rfl, hb⟩
  have B2 := Lib.hid (B1.out.trans (hb.mono B1.out.size))
  clear hb
  go_simp
  refine hK.out _ _ (HKS.out _ B2.out) (fun hHeld => ?_)
  clear hK K
  refine wpAnyH_take (i := 7) (v := ?v423) rfl (by kernel_rfl) (by kernel_rfl) (by kernel_rfl) (fun _ _ _ h => h) (Or.inl ⟨by rfl, ?hy423⟩) (by assumption) ?_
  case hy423 => (intro w hSw; clear hSw; go_simp; try with_reducible rfl)
  go_simp
  refine wpAnyH_ready (rs := [10]) (by kernel_rfl) (by simp) (AllReadyH.cons rfl (fun K hK => ?_) AllReadyH.nil)
  go_simp
  refine (rtext1_any _ _).mono ?_
  rintro e w3 ⟨rfl, hb⟩
  have B3 := Lib.hid (B2.out.trans (hb.mono B2.out.size))
  clear hb
  go_simp
  refine hK.out _ _ (HKS.out _ B3.out) (fun hHeld => ?_)
  clear hK K
  refine wpAnyH_take (i := 11) (v := ?v424) rfl (by kernel_rfl) (by kernel_rfl) (by kernel_rfl) (fun _ _ _ h => h) (Or.inl ⟨by rfl, ?hy424⟩) (by assumption) ?_
  case hy424 => (intro w hSw; clear hSw; go_simp; try with_reducible rfl)
  go_simp
  refine wpAnyH_ready (rs := [14]) (by kernel_rfl) (by simp) (AllReadyH.cons rfl (fun K hK => ?_) AllReadyH.nil)
  go_simp
  refine (rnum1_any _ _).mono ?_
  rintro e w4 ⟨rfl, hb⟩
  have B4 := Lib.hid (B3.out.trans (hb.mono B3.out.size))
  clear hb
  go_simp
  refine hK.out _ _ (HKS.out _ B4.out) (fun hHeld => ?_)
  clear hK K
  refine wpAnyH_take (i := 15) (v := ?v425) rfl (by kernel_rfl) (by kernel_rfl) (by kernel_rfl) (fun _ _ _ h => h) (Or.inl ⟨by rfl, ?hy425⟩) (by assumption) ?_
  case hy425 => (intro w hSw; clear hSw; go_simp; try with_reducible rfl)
  go_simp
  refine wpAnyH_ready (rs := [16]) (by kernel_rfl) (by simp) (AllReadyH.cons rfl (fun K hK => ?_) AllReadyH.nil)
  go_simp
  have HO0 := Lib.hid (show ObjAt W1 #[str [103, 117, 105, 100], .int .i64 5, .int .i64 0, str g, .slice none 0 0, .slice none 0 0, str [108, 105, 110, 107], .int .i64 5, .int .i64 0, str l, .slice none 0 0, .slice none 0 0, str [116, 105, 116, 108, 101], .int .i64 5, .int .i64 0, str t, .slice none 0 0, .slice none 0 0, str [119, 104, 101, 110], .int .i64 4, .int .i64 n, str [], .slice none 0 0, .slice none 0 0] w4.heap.size (w4.alloc (.cells #[str [103, 117, 105, 100], .int .i64 5, .int .i64 0, str g, .slice none 0 0, .slice none 0 0, str [108, 105, 110, 107], .int .i64 5, .int .i64 0, str l, .slice none 0 0, .slice none 0 0, str [116, 105, 116, 108, 101], .int .i64 5, .int .i64 0, str t, .slice none 0 0, .slice none 0 0, str [119, 104, 101, 110], .int .i64 4, .int .i64 n, str [], .slice none 0 0, .slice none 0 0] 67)) from ⟨B4.out.trans ((below_alloc _ _).mono B4.out.size), heap_alloc_new _ _⟩)
  have B5 := Lib.hid HO0.out.1
  refine hK.out _ _ (HKS.out _ B5.out) (fun hHeld => ?_)
  clear hK K
  refine wpAnyH_ready (rs := [17]) (by kernel_rfl) (by simp) (AllReadyH.cons rfl (fun K hK => ?_) AllReadyH.nil)
  go_simp
  refine (robj_any _ _ _ _).mono ?_
  rintro e w6 ⟨rfl, hb⟩
  have B6 := Lib.hid (B5.out.trans (hb.mono B5.out.size))
  have HO := Lib.hid (show ObjAt W1 #[str [103, 117, 105, 100], .int .i64 5, .int .i64 0, str g, .slice none 0 0, .slice none 0 0, str [108, 105, 110, 107], .int .i64 5, .int .i64 0, str l, .slice none 0 0, .slice none 0 0, str [116, 105, 116, 108, 101], .int .i64 5, .int .i64 0, str t, .slice none 0 0, .slice none 0 0, str [119, 104, 101, 110], .int .i64 4, .int .i64 n, str [], .slice none 0 0, .slice none 0 0] _ w6 from ⟨B6.out, box_up HO0.out.2 hb⟩)
  clear hb
  go_simp
  refine hK.out _ _ (HKS.out _ B6.out) (fun hHeld => ?_)
  clear hK K
  refine wpAnyH_take (i := 21) (v := ?v426) rfl (by kernel_rfl) (by kernel_rfl) (by kernel_rfl) (fun _ _ _ h => h) (Or.inl ⟨by rfl, ?hy426⟩) (by assumption) ?_
  case hy426 => (intro w hSw; clear hSw; go_simp; try with_reducible rfl)
  go_simp
  refine wpAnyH_take (i := 22) (v := ?v427) rfl (by kernel_rfl) (by kernel_rfl) (by kernel_rfl) (fun _ _ _ h => h) (Or.inl ⟨by rfl, ?hy427⟩) (by assumption) ?_
  case hy427 => (intro w hSw; clear hSw; go_simp; try with_reducible rfl)
  go_simp
  refine wpAnyH_take (i := 23) (v := ?v428) rfl (by kernel_rfl) (by kernel_rfl) (by kernel_rfl) (fun _ _ _ h => h) (Or.inl ⟨by rfl, ?hy428⟩) (by assumption) ?_
  case hy428 => (intro w hSw; obtain ⟨hs0, hs1, hs2, hs3, hs4⟩ := hSw; go_simp; try with_reducible rfl)
  go_simp
  refine wpAnyH_ready (rs := [24]) (by kernel_rfl) (by simp) (AllReadyH.cons rfl (fun K hK => ?_) AllReadyH.nil)
  go_simp
  refine (CS1.out _).mono ?_
  rintro e w7 ⟨rfl, rfl⟩
  have B7 := B6
  go_simp
  refine hK.out _ _ (HKS.out _ B7.out) (fun hHeld => ?_)
  clear hK K
  refine wpAnyH_take (i := 25) (v := ?v429) rfl (by kernel_rfl) (by kernel_rfl) (by kernel_rfl) (fun _ _ _ h => h) (Or.inl ⟨by rfl, ?hy429⟩) (by assumption) ?_
  case hy429 => (intro w hSw; clear hSw; go_simp; try with_reducible rfl)
  go_simp
  refine wpAnyH_take (i := 26) (v := ?v430) rfl (by kernel_rfl) (by kernel_rfl) (by kernel_rfl) (fun _ _ _ h => h) (Or.inl ⟨by rfl, ?hy430⟩) (by assumption) ?_
  case hy430 => (intro w hSw; clear hSw; go_simp; try with_reducible rfl)
  go_simp
  refine wpAnyH_take (i := 27) (v := ?v431) rfl (by kernel_rfl) (by kernel_rfl) (by kernel_rfl) (fun _ _ _ h => h) (Or.inl ⟨by rfl, ?hy431⟩) (by assumption) ?_
  case hy431 => (intro w hSw; clear hSw; go_simp; try with_reducible rfl)
  go_simp
  refine wpAnyH_take (i := 28) (v := ?v432) rfl (by kernel_rfl) (by kernel_rfl) (by kernel_rfl) (fun _ _ _ h => h) (Or.inl ⟨by rfl, ?hy432⟩) (by assumption) ?_
  case hy432 => (intro w hSw; obtain ⟨hs0, hs1, hs2, hs3, hs4⟩ := hSw; go_simp; try with_reducible rfl)
  go_simp
  refine wpAnyH_ready (rs := [29]) (by kernel_rfl) (by simp) (AllReadyH.cons rfl (fun K hK => ?_) AllReadyH.nil)
  go_simp
  refine (CS2.out _).mono ?_
  rintro e w8 ⟨rfl, rfl⟩
  have B8 := B7
  go_simp
  refine hK.out _ _ (HKS.out _ B8.out) (fun hHeld => ?_)
  clear hK K
  refine wpAnyH_take (i := 30) (v := ?v433) rfl (by kernel_rfl) (by kernel_rfl) (by kernel_rfl) (fun _ _ _ h => h) (Or.inl ⟨by rfl, ?hy433⟩) (by assumption) ?_
  case hy433 => (intro w hSw; clear hSw; go_simp; try with_reducible rfl)
  go_simp
  refine wpAnyH_take (i := 31) (v := ?v434) rfl (by kernel_rfl) (by kernel_rfl) (by kernel_rfl) (fun _ _ _ h => h) (Or.inl ⟨by rfl, ?hy434⟩) (by assumption) ?_
  case hy434 => (intro w hSw; clear hSw; go_simp; try with_reducible rfl)
  go_simp
  refine wpAnyH_take (i := 32) (v := ?v435) rfl (by kernel_rfl) (by kernel_rfl) (by kernel_rfl) (fun _ _ _ h => h) (Or.inl ⟨by rfl, ?hy435⟩) (by assumption) ?_
  case hy435 => (intro w hSw; clear hSw; go_simp; try with_reducible rfl)
  go_simp
  refine wpAnyH_take (i := 33) (v := ?v436) rfl (by kernel_rfl) (by kernel_rfl) (by kernel_rfl) (fun _ _ _ h => h) (Or.inl ⟨by rfl, ?hy436⟩) (by assumption) ?_
  case hy436 => (intro w hSw; obtain ⟨hs0, hs1, hs2, hs3, hs4⟩ := hSw; go_simp; try with_reducible rfl)
  go_simp
  refine wpAnyH_ready (rs := [34]) (by kernel_rfl) (by simp) (AllReadyH.cons rfl (fun K hK => ?_) AllReadyH.nil)
  go_simp
  refine (CS3.out _).mono ?_
  rintro e w9 ⟨rfl, rfl⟩
  have B9 := B8
  go_simp
  refine hK.out _ _ (HKS.out _ B9.out) (fun hHeld => ?_)
  clear hK K
  refine wpAnyH_take (i := 35) (v := ?v437) rfl (by kernel_rfl) (by kernel_rfl) (by kernel_rfl) (fun _ _ _ h => h) (Or.inl ⟨by rfl, ?hy437⟩) (by assumption) ?_
  case hy437 => (intro w hSw; clear hSw; go_simp; try with_reducible rfl)
  go_simp
  refine wpAnyH_take (i := 36) (v := ?v438) rfl (by kernel_rfl) (by kernel_rfl) (by kernel_rfl) (fun _ _ _ h => h) (Or.inl ⟨by rfl, ?hy438⟩) (by assumption) ?_
  case hy438 => (intro w hSw; clear hSw; go_simp; try with_reducible rfl)
  go_simp
  refine wpAnyH_take (i := 37) (v := ?v439) rfl (by kernel_rfl) (by kernel_rfl) (by kernel_rfl) (fun _ _ _ h => h) (Or.inl ⟨by rfl, ?hy439⟩) (by assumption) ?_
  case hy439 => (intro w hSw; clear hSw; go_simp; try with_reducible rfl)
  go_simp
  refine wpAnyH_take (i := 38) (v := ?v440) rfl (by kernel_rfl) (by kernel_rfl) (by kernel_rfl) (fun _ _ _ h => h) (Or.inl ⟨by rfl, ?hy440⟩) (by assumption) ?_
  case hy440 => (intro w hSw; obtain ⟨hs0, hs1, hs2, hs3, hs4⟩ := hSw; go_simp; try with_reducible rfl)
  go_simp
  refine wpAnyH_take (i := 39) (v := ?v441) rfl (by kernel_rfl) (by kernel_rfl) (by kernel_rfl) (fun _ _ _ h => h) (Or.inl ⟨by rfl, ?hy441⟩) (by assumption) ?_
  case hy441 => (intro w hSw; clear hSw; go_simp; try with_reducible rfl)
  go_simp
  refine wpAnyH_take (i := 40) (v := ?v442) rfl (by kernel_rfl) (by kernel_rfl) (by kernel_rfl) (fun _ _ _ h => h) (Or.inl ⟨by rfl, ?hy442⟩) (by assumption) ?_
  case hy442 => (intro w hSw; clear hSw; go_simp; try with_reducible rfl)
  go_simp
  refine wpAnyH_take (i := 41) (v := ?v443) rfl (by kernel_rfl) (by kernel_rfl) (by kernel_rfl) (fun _ _ _ h => h) (Or.inl ⟨by rfl, ?hy443⟩) (by assumption) ?_
  case hy443 => (intro w hSw; clear hSw; go_simp; try with_reducible rfl)
  go_simp
  refine wpAnyH_take (i := 42) (v := undef) rfl (by kernel_rfl) (by kernel_rfl) (by kernel_rfl) (fun _ _ _ h => h) (Or.inr ⟨by rfl, rfl⟩) (by assumption) ?_
  go_simp
  refine wpAnyH_take (i := 43) (v := undef) rfl (by kernel_rfl) (by kernel_rfl) (by kernel_rfl) (fun _ _ _ h => h) (Or.inr ⟨by rfl, rfl⟩) (by assumption) ?_
  go_simp
  refine wpAnyH_take (i := 44) (v := undef) rfl (by kernel_rfl) (by kernel_rfl) (by kernel_rfl) (fun _ _ _ h => h) (Or.inr ⟨by rfl, rfl⟩) (by assumption) ?_
  go_simp
  refine wpAnyH_take (i := 45) (v := ?v447) rfl (by kernel_rfl) (by kernel_rfl) (by kernel_rfl) (fun _ _ _ h => h) (Or.inl ⟨by rfl, ?hy447⟩) (by assumption) ?_
  case hy447 => (intro w hSw; clear hSw; go_simp; try with_reducible rfl)
  go_simp
  refine wpAnyH_ready (rs := [46]) (by kernel_rfl) (by simp) (AllReadyH.cons rfl (fun K hK => ?_) AllReadyH.nil)
  go_simp
  refine (CPX.out _ _ HO.out).mono ?_
  rintro e w10 ⟨rfl, hb⟩
  have B10 := Lib.hid hb
  clear hb
  go_simp
  refine hK.out _ _ (HKS.out _ B10.out) (fun hHeld => ?_)
  clear hK K
  refine wpAnyH_take (i := 47) (v := ?v448) rfl (by kernel_rfl) (by kernel_rfl) (by kernel_rfl) (fun _ _ _ h => h) (Or.inl ⟨by rfl, ?hy448⟩) (by assumption) ?_
  case hy448 => (intro w hSw; clear hSw; go_simp; try with_reducible rfl)
  go_simp
  refine wpAnyH_take (i := 48) (v := ?v449) rfl (by kernel_rfl) (by kernel_rfl) (by kernel_rfl) (fun _ _ _ h => h) (Or.inl ⟨by rfl, ?hy449⟩) (by assumption) ?_
  case hy449 => (intro w hSw; clear hSw; go_simp; try with_reducible rfl)
  go_simp
  refine wpAnyH_take (i := 49) (v := ?v450) rfl (by kernel_rfl) (by kernel_rfl) (by kernel_rfl) (fun _ _ _ h => h) (Or.inl ⟨by rfl, ?hy450⟩) (by assumption) ?_
  case hy450 => (intro w hSw; clear hSw; go_simp; try with_reducible rfl)
  go_simp
  refine wpAnyH_take (i := 50) (v := ?v451) rfl (by kernel_rfl) (by kernel_rfl) (by kernel_rfl) (fun _ _ _ h => h) (Or.inl ⟨by rfl, ?hy451⟩) (by assumption) ?_
  case hy451 => (intro w hSw; clear hSw; go_simp; try with_reducible rfl)
  go_simp
  refine wpAnyH_done (by kernel_rfl) ?_ _
  have HX := Lib.hid (HW.out.trans (B10.out.mono HW.out.size))
  clear HKS CPX
  go_wp2_with fail
  go_ret2
  exact ⟨rfl, HX.out⟩
set_option maxRecDepth 100000 in
set_option maxHeartbeats 16000000 in
theorem rputPutEntry_5 (m : Int) (g : List UInt8) (t : List UInt8) (l : List UInt8) (n : Int) (w : World) (hg : g.length ≤ 9223372036854775807) (hl : l.length ≤ 9223372036854775807) (ht : t.length ≤ 9223372036854775807) (h0 : (g == []) = false) (s1 : shortB g = true) (s2 : shortB l = true) (s3 : shortB t = true) (h1 : 0 ≤ n) : Calls Tryd.prog 8 #[.agg #[.int .i64 m, str g, str t, str l, .int .i64 n]] w fun e w' => e = .returned (.tuple #[str (refO (entMs g l t n) (decide (n ≤ 1099511627776))).1, .int .i64 (refO (entMs g l t n) (decide (n ≤ 1099511627776))).2]) ∧ Below w.heap.size w w' := by
  obtain ⟨W1, hW1⟩ : ∃ W1, W1 = w.alloc (.cells #[.int .i64 m, str g, str t, str l, .int .i64 n] 25) := ⟨_, rfl⟩
  have hb1 : Below w.heap.size w W1 := by rw [hW1]; exact below_alloc _ _
  have hbx : W1.heap[w.heap.size]? = some (.cells #[.int .i64 m, str g, str t, str l, .int .i64 n] 25 (0, 0)) := by rw [hW1]; exact heap_alloc_new _ _
  have HKS : Hid (∀ W', Below W1.heap.size W1 W' → SBPutEntry m g t l n w.heap.size W') := Lib.hid (fun W' hb => ⟨(hb.cell (p := ⟨w.heap.size, 0, none⟩) (World.block_lt_of_cell? W1 _ (box_cell hbx 0))).trans (box_cell hbx 0), (hb.cell (p := ⟨w.heap.size, 1, none⟩) (World.block_lt_of_cell? W1 _ (box_cell hbx 1))).trans (box_cell hbx 1), (hb.cell (p := ⟨w.heap.size, 2, none⟩) (World.block_lt_of_cell? W1 _ (box_cell hbx 2))).trans (box_cell hbx 2), (hb.cell (p := ⟨w.heap.size, 3, none⟩) (World.block_lt_of_cell? W1 _ (box_cell hbx 3))).trans (box_cell hbx 3), (hb.cell (p := ⟨w.heap.size, 4, none⟩) (World.block_lt_of_cell? W1 _ (box_cell hbx 4))).trans (box_cell hbx 4)⟩)
  have HW := Lib.hid hb1
  have CS1 := Lib.hid (fun W => by have h0 := rshort_any g W hg; rw [show shortB g = true from s1] at h0; exact h0)
  have CS2 := Lib.hid (fun W => by have h0 := rshort_any l W hl; rw [show shortB l = true from s2] at h0; exact h0)
  have CS3 := Lib.hid (fun W => by have h0 := rshort_any t W ht; rw [show shortB t = true from s3] at h0; exact h0)
  have z1 : decide (0 ≤ n) = true := decide_eq_true h1
  have CPX := Lib.hid (fun W B h => rpPutEntry_pr g t l n hg hl ht (W1 := W1) (decide (n ≤ 1099511627776)) W B h)
  obtain ⟨R1, hR1⟩ : ∃ R1, R1 = (refO (entMs g l t n) (decide (n ≤ 1099511627776))).1 := ⟨_, rfl⟩
  obtain ⟨R2, hR2⟩ : ∃ R2, R2 = (refO (entMs g l t n) (decide (n ≤ 1099511627776))).2 := ⟨_, rfl⟩
  rw [← hR1, ← hR2] at CPX
  rw [← hR1, ← hR2]
  clear hR1 hR2 hb1 hbx
  clear hg hl ht s1 s2 s3 h1
  go_enter Tryd.func8, Tryd.ntmps8
  go_upto_region 1 with fail
  rw [← hW1]
  clear hW1
  have B0 := Lib.hid (show Below W1.heap.size W1 W1.drew from Below.drewsN (Below.refl _ _) 1)
  refine wp_region_held_drew (S := SBPutEntry m g t l n w.heap.size) (by kernel_rfl) (HKS.out _ B0.out) (fun hHeld => ?_)
  refine wpAnyH_take (i := 0) (v := ?v452) rfl (by kernel_rfl) (by kernel_rfl) (by kernel_rfl) (fun _ _ _ h => h) (Or.inl ⟨by rfl, ?hy452⟩) (by assumption) ?_
  case hy452 => (intro w hSw; clear hSw; go_simp; try with_reducible rfl)
  go_simp
  refine wpAnyH_take (i := 1) (v := ?v453) rfl (by kernel_rfl) (by kernel_rfl) (by kernel_rfl) (fun _ _ _ h => h) (Or.inl ⟨by rfl, ?hy453⟩) (by assumption) ?_
  case hy453 => (intro w hSw; obtain ⟨hs0, hs1, hs2, hs3, hs4⟩ := hSw; go_simp; try with_reducible rfl)
  go_simp
  refine wpAnyH_take (i := 4) (v := ?v454) rfl (by kernel_rfl) (by kernel_rfl) (by kernel_rfl) (fun _ _ _ h => h) (Or.inl ⟨by rfl, ?hy454⟩) (by assumption) ?_
  case hy454 => (intro w hSw; clear hSw; go_simp; try with_reducible rfl)
  go_simp
  refine wpAnyH_take (i := 5) (v := ?v455) rfl (by kernel_rfl) (by kernel_rfl) (by kernel_rfl) (fun _ _ _ h => h) (Or.inl ⟨by rfl, ?hy455⟩) (by assumption) ?_
  case hy455 => (intro w hSw; obtain ⟨hs0, hs1, hs2, hs3, hs4⟩ := hSw; go_simp; try with_reducible rfl)
  go_simp
  refine wpAnyH_take (i := 8) (v := ?v456) rfl (by kernel_rfl) (by kernel_rfl) (by kernel_rfl) (fun _ _ _ h => h) (Or.inl ⟨by rfl, ?hy456⟩) (by assumption) ?_
  case hy456 => (intro w hSw; clear hSw; go_simp; try with_reducible rfl)
  go_simp
  refine wpAnyH_take (i := 9) (v := ?v457) rfl (by kernel_rfl) (by kernel_rfl) (by kernel_rfl) (fun _ _ _ h => h) (Or.inl ⟨by rfl, ?hy457⟩) (by assumption) ?_
  case hy457 => (intro w hSw; obtain ⟨hs0, hs1, hs2, hs3, hs4⟩ := hSw; go_simp; try with_reducible rfl)
  go_simp
  refine wpAnyH_take (i := 12) (v := ?v458) rfl (by kernel_rfl) (by kernel_rfl) (by kernel_rfl) (fun _ _ _ h => h) (Or.inl ⟨by rfl, ?hy458⟩) (by assumption) ?_
  case hy458 => (intro w hSw; clear hSw; go_simp; try with_reducible rfl)
  go_simp
  refine wpAnyH_take (i := 13) (v := ?v459) rfl (by kernel_rfl) (by kernel_rfl) (by kernel_rfl) (fun _ _ _ h => h) (Or.inl ⟨by rfl, ?hy459⟩) (by assumption) ?_
  case hy459 => (intro w hSw; obtain ⟨hs0, hs1, hs2, hs3, hs4⟩ := hSw; go_simp; try with_reducible rfl)
  go_simp
  refine wpAnyH_take (i := 18) (v := ?v460) rfl (by kernel_rfl) (by kernel_rfl) (by kernel_rfl) (fun _ _ _ h => h) (Or.inl ⟨by rfl, ?hy460⟩) (by assumption) ?_
  case hy460 => (intro w hSw; clear hSw; go_simp; try with_reducible rfl)
  go_simp
  refine wpAnyH_take (i := 19) (v := ?v461) rfl (by kernel_rfl) (by kernel_rfl) (by kernel_rfl) (fun _ _ _ h => h) (Or.inl ⟨by rfl, ?hy461⟩) (by assumption) ?_
  case hy461 => (intro w hSw; obtain ⟨hs0, hs1, hs2, hs3, hs4⟩ := hSw; go_simp; try with_reducible rfl)
  go_simp
  refine wpAnyH_take (i := 20) (v := ?v462) rfl (by kernel_rfl) (by kernel_rfl) (by kernel_rfl) (fun _ _ _ h => h) (Or.inl ⟨by rfl, ?hy462⟩) (by assumption) ?_
  case hy462 => (intro w hSw; clear hSw; go_simp; try with_reducible rfl)
  go_simp
  refine wpAnyH_ready (rs := [2]) (by kernel_rfl) (by simp) (AllReadyH.cons rfl (fun K hK => ?_) AllReadyH.nil)
  go_simp
  refine (rtext1_any _ _).mono ?_
  rintro e w1 ⟨rfl, hb⟩
  have B1 := Lib.hid (B0.out.trans (hb.mono B0.out.size))
  clear hb
  go_simp
  refine hK.out _ _ (HKS.out _ B1.out) (fun hHeld => ?_)
  clear hK K
  refine wpAnyH_take (i := 3) (v := ?v463) rfl (by kernel_rfl) (by kernel_rfl) (by kernel_rfl) (fun _ _ _ h => h) (Or.inl ⟨by rfl, ?hy463⟩) (by assumption) ?_
  case hy463 => (intro w hSw; clear hSw; go_simp; try with_reducible rfl)
  go_simp
  refine wpAnyH_ready (rs := [6]) (by kernel_rfl) (by simp) (AllReadyH.cons rfl (fun K hK => ?_) AllReadyH.nil)
  go_simp
  refine (rtext1_any _ _).mono ?_
  rintro e w2 ⟨rfl, hb⟩
  have B2 := Lib.hid (B1.out.trans (hb.mono B1.out.size))
  clear hb
  go_simp
  refine hK.out _ _ (HKS.out _ B2.out) (fun hHeld => ?_)
  clear hK K
  refine wpAnyH_take (i := 7) (v := ?v464) rfl (by kernel_rfl) (by kernel_rfl) (by kernel_rfl) (fun _ _ _ h => h) (Or.inl ⟨by rfl, ?hy464⟩) (by assumption) ?_
  case hy464 => (intro w hSw; clear hSw; go_simp; try with_reducible rfl)
  go_simp
  refine wpAnyH_ready (rs := [10]) (by kernel_rfl) (by simp) (AllReadyH.cons rfl (fun K hK => ?_) AllReadyH.nil)
  go_simp
  refine (rtext1_any _ _).mono ?_
  rintro e w3 ⟨rfl, hb⟩
  have B3 := Lib.hid (B2.out.trans (hb.mono B2.out.size))
  clear hb
  go_simp
  refine hK.out _ _ (HKS.out _ B3.out) (fun hHeld => ?_)
  clear hK K
  refine wpAnyH_take (i := 11) (v := ?v465) rfl (by kernel_rfl) (by kernel_rfl) (by kernel_rfl) (fun _ _ _ h => h) (Or.inl ⟨by rfl, ?hy465⟩) (by assumption) ?_
  case hy465 => (intro w hSw; clear hSw; go_simp; try with_reducible rfl)
  go_simp
  refine wpAnyH_ready (rs := [14]) (by kernel_rfl) (by simp) (AllReadyH.cons rfl (fun K hK => ?_) AllReadyH.nil)
  go_simp
  refine (rnum1_any _ _).mono ?_
  rintro e w4 ⟨rfl, hb⟩
  have B4 := Lib.hid (B3.out.trans (hb.mono B3.out.size))
  clear hb
  go_simp
  refine hK.out _ _ (HKS.out _ B4.out) (fun hHeld => ?_)
  clear hK K
  refine wpAnyH_take (i := 15) (v := ?v466) rfl (by kernel_rfl) (by kernel_rfl) (by kernel_rfl) (fun _ _ _ h => h) (Or.inl ⟨by rfl, ?hy466⟩) (by assumption) ?_
  case hy466 => (intro w hSw; clear hSw; go_simp; try with_reducible rfl)
  go_simp
  refine wpAnyH_ready (rs := [16]) (by kernel_rfl) (by simp) (AllReadyH.cons rfl (fun K hK => ?_) AllReadyH.nil)
  go_simp
  have HO0 := Lib.hid (show ObjAt W1 #[str [103, 117, 105, 100], .int .i64 5, .int .i64 0, str g, .slice none 0 0, .slice none 0 0, str [108, 105, 110, 107], .int .i64 5, .int .i64 0, str l, .slice none 0 0, .slice none 0 0, str [116, 105, 116, 108, 101], .int .i64 5, .int .i64 0, str t, .slice none 0 0, .slice none 0 0, str [119, 104, 101, 110], .int .i64 4, .int .i64 n, str [], .slice none 0 0, .slice none 0 0] w4.heap.size (w4.alloc (.cells #[str [103, 117, 105, 100], .int .i64 5, .int .i64 0, str g, .slice none 0 0, .slice none 0 0, str [108, 105, 110, 107], .int .i64 5, .int .i64 0, str l, .slice none 0 0, .slice none 0 0, str [116, 105, 116, 108, 101], .int .i64 5, .int .i64 0, str t, .slice none 0 0, .slice none 0 0, str [119, 104, 101, 110], .int .i64 4, .int .i64 n, str [], .slice none 0 0, .slice none 0 0] 67)) from ⟨B4.out.trans ((below_alloc _ _).mono B4.out.size), heap_alloc_new _ _⟩)
  have B5 := Lib.hid HO0.out.1
  refine hK.out _ _ (HKS.out _ B5.out) (fun hHeld => ?_)
  clear hK K
  refine wpAnyH_ready (rs := [17]) (by kernel_rfl) (by simp) (AllReadyH.cons rfl (fun K hK => ?_) AllReadyH.nil)
  go_simp
  refine (robj_any _ _ _ _).mono ?_
  rintro e w6 ⟨rfl, hb⟩
  have B6 := Lib.hid (B5.out.trans (hb.mono B5.out.size))
  have HO := Lib.hid (show ObjAt W1 #[str [103, 117, 105, 100], .int .i64 5, .int .i64 0, str g, .slice none 0 0, .slice none 0 0, str [108, 105, 110, 107], .int .i64 5, .int .i64 0, str l, .slice none 0 0, .slice none 0 0, str [116, 105, 116, 108, 101], .int .i64 5, .int .i64 0, str t, .slice none 0 0, .slice none 0 0, str [119, 104, 101, 110], .int .i64 4, .int .i64 n, str [], .slice none 0 0, .slice none 0 0] _ w6 from ⟨B6.out, box_up HO0.out.2 hb⟩)
  clear hb
  go_simp
  refine hK.out _ _ (HKS.out _ B6.out) (fun hHeld => ?_)
  clear hK K
  refine wpAnyH_take (i := 21) (v := ?v467) rfl (by kernel_rfl) (by kernel_rfl) (by kernel_rfl) (fun _ _ _ h => h) (Or.inl ⟨by rfl, ?hy467⟩) (by assumption) ?_
  case hy467 => (intro w hSw; clear hSw; go_simp; try with_reducible rfl)
  go_simp
  refine wpAnyH_take (i := 22) (v := ?v468) rfl (by kernel_rfl) (by kernel_rfl) (by kernel_rfl) (fun _ _ _ h => h) (Or.inl ⟨by rfl, ?hy468⟩) (by assumption) ?_
  case hy468 => (intro w hSw; clear hSw; go_simp; try with_reducible rfl)
  go_simp
  refine wpAnyH_take (i := 23) (v := ?v469) rfl (by kernel_rfl) (by kernel_rfl) (by kernel_rfl) (fun _ _ _ h => h) (Or.inl ⟨by rfl, ?hy469⟩) (by assumption) ?_
  case hy469 => (intro w hSw; obtain ⟨hs0, hs1, hs2, hs3, hs4⟩ := hSw; go_simp; try with_reducible rfl)
  go_simp
  refine wpAnyH_ready (rs := [24]) (by kernel_rfl) (by simp) (AllReadyH.cons rfl (fun K hK => ?_) AllReadyH.nil)
  go_simp
  refine (CS1.out _).mono ?_
  rintro e w7 ⟨rfl, rfl⟩
  have B7 := B6
  go_simp
  refine hK.out _ _ (HKS.out _ B7.out) (fun hHeld => ?_)
  clear hK K
  refine wpAnyH_take (i := 25) (v := ?v470) rfl (by kernel_rfl) (by kernel_rfl) (by kernel_rfl) (fun _ _ _ h => h) (Or.inl ⟨by rfl, ?hy470⟩) (by assumption) ?_
  case hy470 => (intro w hSw; clear hSw; go_simp; try with_reducible rfl)
  go_simp
  refine wpAnyH_take (i := 26) (v := ?v471) rfl (by kernel_rfl) (by kernel_rfl) (by kernel_rfl) (fun _ _ _ h => h) (Or.inl ⟨by rfl, ?hy471⟩) (by assumption) ?_
  case hy471 => (intro w hSw; clear hSw; go_simp; try with_reducible rfl)
  go_simp
  refine wpAnyH_take (i := 27) (v := ?v472) rfl (by kernel_rfl) (by kernel_rfl) (by kernel_rfl) (fun _ _ _ h => h) (Or.inl ⟨by rfl, ?hy472⟩) (by assumption) ?_
  case hy472 => (intro w hSw; clear hSw; go_simp; try with_reducible rfl)
  go_simp
  refine wpAnyH_take (i := 28) (v := ?v473) rfl (by kernel_rfl) (by kernel_rfl) (by kernel_rfl) (fun _ _ _ h => h) (Or.inl ⟨by rfl, ?hy473⟩) (by assumption) ?_
  case hy473 => (intro w hSw; obtain ⟨hs0, hs1, hs2, hs3, hs4⟩ := hSw; go_simp; try with_reducible rfl)
  go_simp
  refine wpAnyH_ready (rs := [29]) (by kernel_rfl) (by simp) (AllReadyH.cons rfl (fun K hK => ?_) AllReadyH.nil)
  go_simp
  refine (CS2.out _).mono ?_
  rintro e w8 ⟨rfl, rfl⟩
  have B8 := B7
  go_simp
  refine hK.out _ _ (HKS.out _ B8.out) (fun hHeld => ?_)
  clear hK K
  refine wpAnyH_take (i := 30) (v := ?v474) rfl (by kernel_rfl) (by kernel_rfl) (by kernel_rfl) (fun _ _ _ h => h) (Or.inl ⟨by rfl, ?hy474⟩) (by assumption) ?_
  case hy474 => (intro w hSw; clear hSw; go_simp; try with_reducible rfl)
  go_simp
  refine wpAnyH_take (i := 31) (v := ?v475) rfl (by kernel_rfl) (by kernel_rfl) (by kernel_rfl) (fun _ _ _ h => h) (Or.inl ⟨by rfl, ?hy475⟩) (by assumption) ?_
  case hy475 => (intro w hSw; clear hSw; go_simp; try with_reducible rfl)
  go_simp
  refine wpAnyH_take (i := 32) (v := ?v476) rfl (by kernel_rfl) (by kernel_rfl) (by kernel_rfl) (fun _ _ _ h => h) (Or.inl ⟨by rfl, ?hy476⟩) (by assumption) ?_
  case hy476 => (intro w hSw; clear hSw; go_simp; try with_reducible rfl)
  go_simp
  refine wpAnyH_take (i := 33) (v := ?v477) rfl (by kernel_rfl) (by kernel_rfl) (by kernel_rfl) (fun _ _ _ h => h) (Or.inl ⟨by rfl, ?hy477⟩) (by assumption) ?_
  case hy477 => (intro w hSw; obtain ⟨hs0, hs1, hs2, hs3, hs4⟩ := hSw; go_simp; try with_reducible rfl)
  go_simp
  refine wpAnyH_ready (rs := [34]) (by kernel_rfl) (by simp) (AllReadyH.cons rfl (fun K hK => ?_) AllReadyH.nil)
  go_simp
  refine (CS3.out _).mono ?_
  rintro e w9 ⟨rfl, rfl⟩
  have B9 := B8
  go_simp
  refine hK.out _ _ (HKS.out _ B9.out) (fun hHeld => ?_)
  clear hK K
  refine wpAnyH_take (i := 35) (v := ?v478) rfl (by kernel_rfl) (by kernel_rfl) (by kernel_rfl) (fun _ _ _ h => h) (Or.inl ⟨by rfl, ?hy478⟩) (by assumption) ?_
  case hy478 => (intro w hSw; clear hSw; go_simp; try with_reducible rfl)
  go_simp
  refine wpAnyH_take (i := 36) (v := ?v479) rfl (by kernel_rfl) (by kernel_rfl) (by kernel_rfl) (fun _ _ _ h => h) (Or.inl ⟨by rfl, ?hy479⟩) (by assumption) ?_
  case hy479 => (intro w hSw; clear hSw; go_simp; try with_reducible rfl)
  go_simp
  refine wpAnyH_take (i := 37) (v := ?v480) rfl (by kernel_rfl) (by kernel_rfl) (by kernel_rfl) (fun _ _ _ h => h) (Or.inl ⟨by rfl, ?hy480⟩) (by assumption) ?_
  case hy480 => (intro w hSw; clear hSw; go_simp; try with_reducible rfl)
  go_simp
  refine wpAnyH_take (i := 38) (v := ?v481) rfl (by kernel_rfl) (by kernel_rfl) (by kernel_rfl) (fun _ _ _ h => h) (Or.inl ⟨by rfl, ?hy481⟩) (by assumption) ?_
  case hy481 => (intro w hSw; obtain ⟨hs0, hs1, hs2, hs3, hs4⟩ := hSw; go_simp; try with_reducible rfl)
  go_simp
  refine wpAnyH_take (i := 39) (v := ?v482) rfl (by kernel_rfl) (by kernel_rfl) (by kernel_rfl) (fun _ _ _ h => h) (Or.inl ⟨by rfl, ?hy482⟩) (by assumption) ?_
  case hy482 => (intro w hSw; clear hSw; go_simp; try with_reducible rfl)
  go_simp
  refine wpAnyH_take (i := 40) (v := ?v483) rfl (by kernel_rfl) (by kernel_rfl) (by kernel_rfl) (fun _ _ _ h => h) (Or.inl ⟨by rfl, ?hy483⟩) (by assumption) ?_
  case hy483 => (intro w hSw; clear hSw; go_simp; try with_reducible rfl)
  go_simp
  refine wpAnyH_take (i := 41) (v := ?v484) rfl (by kernel_rfl) (by kernel_rfl) (by kernel_rfl) (fun _ _ _ h => h) (Or.inl ⟨by rfl, ?hy484⟩) (by assumption) ?_
  case hy484 => (intro w hSw; clear hSw; go_simp; try with_reducible rfl)
  go_simp
  refine wpAnyH_take (i := 42) (v := ?v485) rfl (by kernel_rfl) (by kernel_rfl) (by kernel_rfl) (fun _ _ _ h => h) (Or.inl ⟨by rfl, ?hy485⟩) (by assumption) ?_
  case hy485 => (intro w hSw; clear hSw; go_simp; try with_reducible rfl)
  go_simp
  refine wpAnyH_take (i := 43) (v := ?v486) rfl (by kernel_rfl) (by kernel_rfl) (by kernel_rfl) (fun _ _ _ h => h) (Or.inl ⟨by rfl, ?hy486⟩) (by assumption) ?_
  case hy486 => (intro w hSw; obtain ⟨hs0, hs1, hs2, hs3, hs4⟩ := hSw; go_simp; try with_reducible rfl)
  go_simp
  refine wpAnyH_take (i := 44) (v := ?v487) rfl (by kernel_rfl) (by kernel_rfl) (by kernel_rfl) (fun _ _ _ h => h) (Or.inl ⟨by rfl, ?hy487⟩) (by assumption) ?_
  case hy487 => (intro w hSw; clear hSw; go_simp; try with_reducible rfl)
  go_simp
  refine wpAnyH_take (i := 45) (v := ?v488) rfl (by kernel_rfl) (by kernel_rfl) (by kernel_rfl) (fun _ _ _ h => h) (Or.inl ⟨by rfl, ?hy488⟩) (by assumption) ?_
  case hy488 => (intro w hSw; clear hSw; go_simp; try with_reducible rfl)
  go_simp
  refine wpAnyH_ready (rs := [46]) (by kernel_rfl) (by simp) (AllReadyH.cons rfl (fun K hK => ?_) AllReadyH.nil)
  go_simp
  refine (CPX.out _ _ HO.out).mono ?_
  rintro e w10 ⟨rfl, hb⟩
  have B10 := Lib.hid hb
  clear hb
  go_simp
  refine hK.out _ _ (HKS.out _ B10.out) (fun hHeld => ?_)
  clear hK K
  refine wpAnyH_take (i := 47) (v := ?v489) rfl (by kernel_rfl) (by kernel_rfl) (by kernel_rfl) (fun _ _ _ h => h) (Or.inl ⟨by rfl, ?hy489⟩) (by assumption) ?_
  case hy489 => (intro w hSw; clear hSw; go_simp; try with_reducible rfl)
  go_simp
  refine wpAnyH_take (i := 48) (v := ?v490) rfl (by kernel_rfl) (by kernel_rfl) (by kernel_rfl) (fun _ _ _ h => h) (Or.inl ⟨by rfl, ?hy490⟩) (by assumption) ?_
  case hy490 => (intro w hSw; clear hSw; go_simp; try with_reducible rfl)
  go_simp
  refine wpAnyH_take (i := 49) (v := ?v491) rfl (by kernel_rfl) (by kernel_rfl) (by kernel_rfl) (fun _ _ _ h => h) (Or.inl ⟨by rfl, ?hy491⟩) (by assumption) ?_
  case hy491 => (intro w hSw; clear hSw; go_simp; try with_reducible rfl)
  go_simp
  refine wpAnyH_take (i := 50) (v := ?v492) rfl (by kernel_rfl) (by kernel_rfl) (by kernel_rfl) (fun _ _ _ h => h) (Or.inl ⟨by rfl, ?hy492⟩) (by assumption) ?_
  case hy492 => (intro w hSw; clear hSw; go_simp; try with_reducible rfl)
  go_simp
  refine wpAnyH_done (by kernel_rfl) ?_ _
  have HX := Lib.hid (HW.out.trans (B10.out.mono HW.out.size))
  clear HKS CPX
  go_wp2_with fail
  go_ret2
  exact ⟨rfl, HX.out⟩
end Go.Proofs.YtjnejbeeoepdnaaDoor
