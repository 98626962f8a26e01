/- hblref14.Add. -/
import Derived.Test.YtilkodnblekllaaMkAdd
namespace Go.Proofs.Ytilkodnblekllaa
open Go.RowKit

/-- What has been laid: m too, once a smaller one has come. -/
def stR (m : MarkT) (L : List MarkT) : List MarkT := if hasLess m L = true then insM m L else L
theorem stR_len (m : MarkT) (L : List MarkT) : (stR m L).length ≤ L.length + 1 := by unfold stR; split <;> simp [insM_len]
theorem stR_app {m x : MarkT} {L : List MarkT} (h : hasLess m L = true) : stR m (L ++ [x]) = stR m L ++ [x] ∧ hasLess m (L ++ [x]) = true := by
  have h2 : hasLess m (L ++ [x]) = true := by rw [hasLess_snoc, h]; rfl
  unfold stR
  rw [if_pos h2, if_pos h, insM_app x h]
  exact ⟨rfl, h2⟩
theorem stR_less {m x : MarkT} {L : List MarkT} (h : hasLess m L = false) (hx : x.1 < m.1) : stR m (L ++ [x]) = stR m L ++ [m] ++ [x] ∧ hasLess m (L ++ [x]) = true := by
  have h2 : hasLess m (L ++ [x]) = true := by rw [hasLess_snoc, h, decide_eq_true hx]; rfl
  have h1 : stR m L = L := by unfold stR; rw [h]; rfl
  rw [h1]
  unfold stR
  rw [if_pos h2, insM_less h hx]
  exact ⟨rfl, h2⟩
theorem stR_more {m x : MarkT} {L : List MarkT} (h : hasLess m L = false) (hx : ¬ x.1 < m.1) : stR m (L ++ [x]) = stR m L ++ [x] ∧ hasLess m (L ++ [x]) = false := by
  have h2 : hasLess m (L ++ [x]) = false := by rw [hasLess_snoc, h, decide_eq_false hx]; rfl
  have h1 : stR m L = L := by unfold stR; rw [h]; rfl
  rw [h1]
  unfold stR
  rw [h2]
  exact ⟨rfl, rfl⟩
theorem stR_yes {m : MarkT} {L : List MarkT} (h : hasLess m L = true) : stR m L = insM m L := by unfold stR; rw [if_pos h]
theorem stR_no {m : MarkT} {L : List MarkT} (h : hasLess m L = false) : stR m L ++ [m] = insM m L := by unfold stR; rw [h, insM_none h]; rfl
theorem any_snoc {l : List MarkT} {p : MarkT → Bool} {k : Nat} (h : k < l.length) (h1 : (l.take k).any p = false) (h2 : p l[k] = false) : (l.take (k + 1)).any p = false := by
  rw [List.take_succ_eq_append_getElem h, List.any_append, h1]; simp [h2]
theorem any_hit {l : List MarkT} {p : MarkT → Bool} {k : Nat} (h : k < l.length) (h2 : p l[k] = true) : l.any p = true := by
  rw [List.any_eq_true]; exact ⟨_, List.getElem_mem h, h2⟩
theorem BoxAt.drewN {w W : World} {m : MarkT} (h : BoxAt w W m) (q : Nat) : BoxAt w (W.drewN q) m := ⟨Below.drewsN h.hb q, h.c0, h.c1, h.sz⟩
theorem owns_drewN {w : World} {base size n : Nat} {e : TypeId} {v : Value} {xs : List Value} (h : w.ownsRow base e size v n xs) (q : Nat) : (w.drewN q).ownsRow base e size v n xs := h
/-- Under way: the marks L have been laid. -/
structure RAddAt (w W : World) (v : Value) (l : List MarkT) (m : MarkT) (k : Nat) (r : Bool) (L : List MarkT) : Prop where
  own : W.ownsRow (w.heap.size + 1) 35 2 v L.length (L.map cellsM).flatten
  box : BoxAt w W m
  st : L = stR m (leftM m (l.take k))
  ls : r = hasLess m (leftM m (l.take k))
  no : (l.take k).any (fun x => domB x m) = false
theorem rown_nil (w : World) (base : Nat) : w.ownsRow base 35 2 (.slice none 0 0) ([] : List MarkT).length (([] : List MarkT).map cellsM).flatten := World.ownsRow_nil w _ _ 2
theorem row_snoc {w : World} {base : Nat} {e : TypeId} {v : Value} {L : List MarkT} {m : MarkT} {N n2 : Nat} {us : List (List Value)} (h : w.ownsRow base e 2 v (N + n2) ((L.map cellsM).flatten ++ us.flatten)) (hN : N = L.length) (hu : us = [cellsM m]) (h2 : n2 = us.length) : w.ownsRow base e 2 v (L ++ [m]).length ((L ++ [m]).map cellsM).flatten := by
  subst hu h2 hN
  simpa using h
set_option maxRecDepth 100000 in
set_option maxHeartbeats 8000000 in
theorem radd_any (v : Value) (l : List MarkT) (m : MarkT) (w : World) (hv : RdM w v l) (hl : l.length ≤ 1000000) :
    Calls Try.prog 8 #[v, encM m] w (AddE w (addL l m)) := by
  obtain ⟨i0, hi, hz0, hz1, hz2⟩ := info_parts infoR
  have HB0 := Lib.hid (BoxAt.new w m 35)
  have C1 := Lib.hid (rmay_any v l _ (hv.up HB0.out.hb))
  have HV := Lib.hid hv
  obtain ⟨R, hR⟩ : ∃ R, R = addL l m := ⟨_, rfl⟩
  rw [← hR]
  have HR := Lib.hid hR
  have CM := Lib.hid (fun W v (h : RdM W v [m]) => rmay_any v [m] W h)
  have CD := Lib.hid (fun W x => rdom_any m x W)
  have CE := Lib.hid (fun W x => rdom_any x m W)
  have HLT := Lib.hid (fun k (h : k < l.length) => leftM_snoc (m := m) h)
  have HLL := Lib.hid (fun k => Nat.le_trans (stR_len m (leftM m (l.take k))) (Nat.succ_le_succ (left_len m l k)))
  have HST := Lib.hid (fun L x (h : hasLess m L = true) => stR_app (x := x) h)
  have HSL := Lib.hid (fun L x (h : hasLess m L = false) h2 => stR_less (x := x) h h2)
  have HSM := Lib.hid (fun L x (h : hasLess m L = false) h2 => stR_more (x := x) h h2)
  rw [mayL_one] at CM
  obtain ⟨a, b⟩ := m
  obtain ⟨r1, hr1⟩ : ∃ r, r = mayL l := ⟨_, rfl⟩
  obtain ⟨r2, hr2⟩ : ∃ r, r = mayB (a, b) := ⟨_, rfl⟩
  rw [← hr1] at C1
  rw [← hr2] at CM
  have HR1 := Lib.hid hr1
  have HR2 := Lib.hid hr2
  clear hv hR hr1 hr2
  go_enter Try.func8, Try.ntmps8
  go_wp2_with fail
  refine C1.out.mono ?_
  rintro e w1 ⟨rfl, hb1⟩
  have H1 := Lib.hid (HB0.out.up hb1)
  clear hb1 C1
  cases r1 with
  | false =>
    as_aux_lemma =>
      go_wp2_with fail
      go_ret2
      exact ⟨_, by rw [HR.out, addL_bad (.inl HR1.out.symm)]; rfl, by rw [HR.out, addL_bad (.inl HR1.out.symm)]; exact rdm_nil _, (fun c h => by cases h; rfl), fresh_nil _ _ _, H1.out.hb⟩
  | true =>
  have d0 := H1.out.c0
  have d1 := H1.out.c1
  dsimp only at d0 d1
  have CN := Lib.hid (CM.out (w1.alloc (.cells #[.int .i64 a, .int .i64 b] 35)) (.slice (some ⟨w1.heap.size, 0, none⟩) 1 1) (RdF.lit [cellsM (a, b)] (by simp [cellsM]) (heap_alloc_new _ _) rfl (by simp)))
  go_wp2_with fail
  refine CN.out.mono ?_
  rintro e w2 ⟨rfl, hb2⟩
  have H2 := Lib.hid ((H1.out.alloc _).up hb2)
  clear hb2 d0 d1 H1 CN CM
  cases r2 with
  | false =>
    as_aux_lemma =>
      go_wp2_with fail
      go_ret2
      exact ⟨_, by rw [HR.out, addL_bad (.inr HR2.out.symm)]; rfl, by rw [HR.out, addL_bad (.inr HR2.out.symm)]; exact rdm_nil _, (fun c h => by cases h; rfl), fresh_nil _ _ _, H2.out.hb⟩
  | true =>
  have h8 : l.length ≤ 8 := (mayL_of HR1.out.symm).2
  obtain ⟨av, cv, rfl, _⟩ := HV.out.form
  have HS0 : Hid (∃ L, RAddAt w w2 (.slice none 0 0) l (a, b) 0 false L) := Lib.hid ⟨[], rown_nil _ _, H2.out, by simp [leftM, stR, hasLess], by simp [leftM, hasLess], by simp⟩
  clear H2
  go_wp2_with fail
  go_loopw [6, 7, 8] (fun o g i wr => ∃ (k : Nat) (r : Bool), k ≤ l.length ∧ i = .int .i64 (k : Int) ∧ g = .bool r ∧ Hid (∃ L, RAddAt w wr o l (a, b) k r L)) (fun _ _ i _ => l.length - (intOf i).toNat)
  case atStart => exact ⟨0, false, Nat.zero_le _, rfl, rfl, HS0⟩
  case round =>
    clear HS0
    obtain ⟨k, r, hk, rfl, rfl, HW0⟩ := hrel
    obtain ⟨L, hL⟩ := HW0.out
    have HW := Lib.hid hL
    clear hL HW0
    obtain ⟨vo, hvo⟩ : ∃ v, v = u6 := ⟨_, rfl⟩
    subst hvo
    by_cases hlt : k < l.length
    · as_aux_lemma =>
        have g3 : (k : Int) < (l.length : Int) := by omega
        have g4 : (0 : Int) ≤ (k : Int) := by omega
        obtain ⟨bA, oA, rfl, c0, c1⟩ := HV.out.get hlt
        have HSN := Lib.hid (HLT.out k hlt)
        have HAS := Lib.hid (any_snoc (p := fun x => domB x (a, b)) hlt HW.out.no)
        have HAH := Lib.hid (any_hit (p := fun x => domB x (a, b)) hlt)
        obtain ⟨x, hx⟩ : ∃ x, x = l[k] := ⟨_, rfl⟩
        rw [← hx] at c0 c1 HSN HAS HAH
        obtain ⟨c, d⟩ := x
        dsimp only at c0 c1 HAS HAH
        have hlA := World.block_lt_of_cell? w _ c0
        have HC : Hid (∀ W, Below w.heap.size w W → W.cell? ⟨bA, oA + k * 2, none⟩ = some (.int .i64 c) ∧ W.cell? ⟨bA, oA + k * 2 + 1, none⟩ = some (.int .i64 d)) := Lib.hid (fun W h => ⟨(h.cell (p := ⟨bA, oA + k * 2, none⟩) hlA).trans c0, (h.cell (p := ⟨bA, oA + k * 2 + 1, none⟩) hlA).trans c1⟩)
        obtain ⟨rd1, hrd1⟩ : ∃ r, r = domB (c, d) (a, b) := ⟨_, rfl⟩
        obtain ⟨rd2, hrd2⟩ : ∃ r, r = domB (a, b) (c, d) := ⟨_, rfl⟩
        rw [← hrd1] at HAS HAH
        rw [← hrd2] at HSN
        have CE1 := Lib.hid (fun W => CE.out W (c, d))
        have CD1 := Lib.hid (fun W => CD.out W (c, d))
        rw [← hrd1] at CE1
        rw [← hrd2] at CD1
        have z0 := Lib.hid (fun p : BelowBy wr => BelowBy.cell (HC.out wr HW.out.box.hb).1 p)
        have z1 := Lib.hid (fun p : BelowBy wr => BelowBy.cell (HC.out wr HW.out.box.hb).2 p)
        have y0 := Lib.hid (fun p : BelowBy wr => BelowBy.cell HW.out.box.c0 p)
        have y1 := Lib.hid (fun p : BelowBy wr => BelowBy.cell HW.out.box.c1 p)
        clear c0 c1 hx hlA hrd1 hrd2 CE CD HLT
        go_wp2_with fail
        refine wp_region_quiet_below (by kernel_rfl) (by kernel_rfl) ?_
        repeat (first | go_big_quiet_skip | (go_big_quiet_want; go_big_quiet_op; first | go_big_quiet_on | (simp only [z0.out, z1.out, y0.out, y1.out, Result.andThen, true_and, forall_const, exists_eq_left']; go_big_quiet_on) | go_big_quiet_call ((go_at_call 22; exact Calls.below_of (CE1.out _)))) | fail)
        refine wpQuiet_nil ?_
        rintro w3 ⟨⟨_, hb3⟩, rfl⟩
        have H3 := Lib.hid (HW.out.box.up hb3)
        have HO := Lib.hid (owns_below HW.out.own hb3 (Nat.le_refl _))
        have HLs := Lib.hid HW.out.ls
        have HSt := Lib.hid HW.out.st
        clear hb3 z0 z1 y0 y1 CE1 HW
        cases rd1 with
        | true =>
          as_aux_lemma =>
          have HAT := Lib.hid (HAH.out rfl)
          clear HSN HAS HAH CD1 HO HST HSL HSM HLL HLs HSt
          go_wp2_with (at_builtin; refine hold ?_)
          intro _
          refine wpList_appendF (by rfl) _ _ 31 (by rfl) w3.heap.size 35 i0 _ 2 16 Try.underlying31 hi hz0 hz1 hz2 rfl (by decide) _ 0 [] (by rfl) (World.ownsRow_made w3 #[] 0 (Nat.le_refl _) (by decide) rfl) _ (l.map cellsM) (cellsM_len l) rdm_ones (by rfl) (RdF.below (HV.out.up H3.out.hb) (below_alloc w3 _) (Nat.le_refl _)) (fun c h => by cases h) (by simp [maxLen]; omega) (by simp; omega) (by simp) ?_
          intro v' w' ho hg
          have HN : Hid (w'.ownsRow w3.heap.size 35 2 v' l.length (l.map cellsM).flatten ∧ Below w.heap.size w w') := Lib.hid ⟨rdm_own0 ho (by simp), H3.out.hb.trans (((below_alloc w3 _).grown hg (by simp) (fun k hk => by simp [Value.ownBlock] at hk; omega)).mono H3.out.hb.size)⟩
          clear ho hg
          go_wp2_with fail
          go_ret2
          refine ⟨_, by rw [HR.out, addL_dom HR1.out.symm HR2.out.symm HAT.out]; rfl, by rw [HR.out, addL_dom HR1.out.symm HR2.out.symm HAT.out]; exact rdm_row HN.out.1, ?_, (fresh_row HN.out.1).mono H3.out.hb.size, HN.out.2⟩
          intro c hc
          rcases Joins.ownsRow_forms HN.out.1 with ⟨h1, _⟩ | ⟨g, cap, h1⟩
          · rw [h1] at hc; cases hc; rfl
          · rw [h1] at hc; cases hc
        | false =>
        have HNo := Lib.hid (HAS.out rfl)
        have z0 := Lib.hid (fun p : BelowBy w3 => BelowBy.cell (HC.out w3 H3.out.hb).1 p)
        have z1 := Lib.hid (fun p : BelowBy w3 => BelowBy.cell (HC.out w3 H3.out.hb).2 p)
        have y0 := Lib.hid (fun p : BelowBy w3 => BelowBy.cell H3.out.c0 p)
        have y1 := Lib.hid (fun p : BelowBy w3 => BelowBy.cell H3.out.c1 p)
        clear HAS HAH
        go_wp2_with fail
        refine wp_region_quiet_below (by kernel_rfl) (by kernel_rfl) ?_
        repeat (first | go_big_quiet_skip | (go_big_quiet_want; go_big_quiet_op; first | go_big_quiet_on | (simp only [z0.out, z1.out, y0.out, y1.out, Result.andThen, true_and, forall_const, exists_eq_left']; go_big_quiet_on) | go_big_quiet_call ((go_at_call 22; exact Calls.below_of (CD1.out _)))) | fail)
        refine wpQuiet_nil ?_
        rintro w4 ⟨⟨_, hb4⟩, rfl⟩
        have H4 := Lib.hid (H3.out.up hb4)
        have HO4 := Lib.hid (owns_below HO.out hb4 (Nat.le_refl _))
        clear hb4 z0 z1 y0 y1 CD1 H3 HO
        cases rd2 with
        | true =>
          as_aux_lemma =>
          have HN : Hid (∃ L, RAddAt w w4 vo l (a, b) (k + 1) r L) := Lib.hid ⟨L, HO4.out, H4.out, by rw [HSN.out, if_pos rfl, List.append_nil]; exact HSt.out, by rw [HSN.out, if_pos rfl, List.append_nil]; exact HLs.out, HNo.out⟩
          clear HSN HO4 HST HSL HSM HLL HLs HSt HNo H4
          go_wp2_with fail
          go_roundw
          case rel => exact ⟨k + 1, r, by omega, by go_num, rfl, HN⟩
          case measure => simp [intOf]; omega
        | false =>
        have HSN2 : Hid (leftM (a, b) (l.take (k + 1)) = leftM (a, b) (l.take k) ++ [(c, d)]) := Lib.hid (by rw [HSN.out]; rfl)
        have hN9 : L.length ≤ 9 := by
          have := HLL.out k
          rw [HSt.out]; omega
        clear HSN HLL
        cases r with
        | true =>
          as_aux_lemma =>
          have HSR := Lib.hid (HST.out _ (c, d) HLs.out.symm)
          obtain ⟨e0, e1⟩ := HC.out w4 H4.out.hb
          obtain ⟨N, hN⟩ : ∃ N, N = L.length := ⟨_, rfl⟩
          have HN := Lib.hid hN
          rw [← hN] at hN9
          clear hN HST HSL HSM
          go_wp2_with fail
          go_quiet (fail)
          have H5 := Lib.hid (H4.out.drewN nq)
          have HO5 := Lib.hid (owns_drewN HO4.out nq)
          clear e0 e1 H4 HO4
          generalize w4.drewN nq = w5 at *
          obtain ⟨e0, e1⟩ := HC.out w5 H5.out.hb
          go_wp2_with (at_builtin; refine hold ?_)
          intro _
          refine wpList_appendF (by rfl) _ _ 31 (by rfl) (w.heap.size + 1) 35 i0 _ 2 16 Try.underlying31 hi hz0 hz1 hz2 rfl (by decide) vo N _ (by rfl) (by rw [HN.out]; exact World.ownsRow.alloc HO5.out _) _ [cellsM (c, d)] (by simp [cellsM]) (by simp [cellsM, Value.oneCell']) (by rfl) (RdF.lit [cellsM (c, d)] (by simp [cellsM]) (heap_alloc_new _ _) rfl (by simp)) (fun c h => by cases h) (by simp [maxLen]; omega) (by simp; omega) (by have := H5.out.sz; simp; omega) ?_
          intro v6 w6 ho hg
          have HO6 : Hid (w6.ownsRow (w.heap.size + 1) 35 2 v6 (L ++ [(c, d)]).length (((L ++ [(c, d)]).map cellsM).flatten)) := Lib.hid (row_snoc ho HN.out rfl rfl)
          have H6 := Lib.hid ((H5.out.alloc (.cells (cellsM (c, d)).toArray 35)).grown hg (fun j ej => (World.ownsRow.lt HO5.out j ej).1))
          clear ho hg
          have HE : Hid (∃ L, RAddAt w w6 v6 l (a, b) (k + 1) true L) := Lib.hid ⟨_, HO6.out, H6.out, by rw [HSN2.out, HSR.out.1, ← HSt.out], by rw [HSN2.out, HSR.out.2], HNo.out⟩
          clear HSR HSN2 HSt HLs HNo HO6 H6 e0 e1
          go_wp2_with fail
          go_roundw
          case rel => exact ⟨k + 1, true, by omega, by go_num, rfl, HE⟩
          case measure => simp [intOf]; omega
        | false =>
        by_cases hx : c < a
        · as_aux_lemma =>
            have HSR := Lib.hid (HSL.out _ (c, d) HLs.out.symm hx)
            obtain ⟨e0, e1⟩ := HC.out w4 H4.out.hb
            have d0 := H4.out.c0
            have d1 := H4.out.c1
            dsimp only at d0 d1
            obtain ⟨N, hN⟩ : ∃ N, N = L.length := ⟨_, rfl⟩
            have HN := Lib.hid hN
            rw [← hN] at hN9
            clear hN HST HSL HSM
            go_wp2_with fail
            go_quiet (fail)
            have H5 := Lib.hid (H4.out.drewN nq)
            have HO5 := Lib.hid (owns_drewN HO4.out nq)
            clear e0 e1 d0 d1 H4 HO4
            generalize w4.drewN nq = w5 at *
            obtain ⟨e0, e1⟩ := HC.out w5 H5.out.hb
            have d0 := H5.out.c0
            have d1 := H5.out.c1
            dsimp only at d0 d1
            clear e0 e1
            go_wp2_with (at_builtin; refine hold ?_)
            intro _
            refine wpList_appendF (by rfl) _ _ 31 (by rfl) (w.heap.size + 1) 35 i0 _ 2 16 Try.underlying31 hi hz0 hz1 hz2 rfl (by decide) vo N _ (by rfl) (by rw [HN.out]; exact World.ownsRow.alloc HO5.out _) _ [cellsM (a, b)] (by simp [cellsM]) (by simp [cellsM, Value.oneCell']) (by rfl) (RdF.lit [cellsM (a, b)] (by simp [cellsM]) (heap_alloc_new _ _) rfl (by simp)) (fun c h => by cases h) (by simp [maxLen]; omega) (by simp; omega) (by have := H5.out.sz; simp; omega) ?_
            intro v6 w6 ho hg
            have HO6 : Hid (w6.ownsRow (w.heap.size + 1) 35 2 v6 (L ++ [(a, b)]).length (((L ++ [(a, b)]).map cellsM).flatten)) := Lib.hid (row_snoc ho HN.out rfl rfl)
            have H6 := Lib.hid ((H5.out.alloc (.cells (cellsM (a, b)).toArray 35)).grown hg (fun j ej => (World.ownsRow.lt HO5.out j ej).1))
            clear ho hg
            obtain ⟨e0, e1⟩ := HC.out w6 H6.out.hb
            obtain ⟨M, hM⟩ : ∃ M, M = (L ++ [(a, b)]).length := ⟨_, rfl⟩
            have hM9 : M ≤ 10 := by rw [hM, List.length_append, ← HN.out]; simp; omega
            have HM := Lib.hid hM
            clear hM d0 d1 HO5 H5
            go_wp2_with (at_builtin; refine hold ?_)
            intro _
            refine wpList_appendF (by rfl) _ _ 31 (by rfl) (w.heap.size + 1) 35 i0 _ 2 16 Try.underlying31 hi hz0 hz1 hz2 rfl (by decide) v6 M _ (by rfl) (by rw [HM.out]; exact World.ownsRow.alloc HO6.out _) _ [cellsM (c, d)] (by simp [cellsM]) (by simp [cellsM, Value.oneCell']) (by rfl) (RdF.lit [cellsM (c, d)] (by simp [cellsM]) (heap_alloc_new _ _) rfl (by simp)) (fun c h => by cases h) (by simp [maxLen]; omega) (by simp; omega) (by have := H6.out.sz; simp; omega) ?_
            intro v7 w7 ho hg
            have HO7 : Hid (w7.ownsRow (w.heap.size + 1) 35 2 v7 ((L ++ [(a, b)]) ++ [(c, d)]).length ((((L ++ [(a, b)]) ++ [(c, d)]).map cellsM).flatten)) := Lib.hid (row_snoc ho HM.out rfl rfl)
            have H7 := Lib.hid ((H6.out.alloc (.cells (cellsM (c, d)).toArray 35)).grown hg (fun j ej => (World.ownsRow.lt HO6.out j ej).1))
            clear ho hg
            have HE : Hid (∃ L, RAddAt w w7 v7 l (a, b) (k + 1) true L) := Lib.hid ⟨_, HO7.out, H7.out, by rw [HSN2.out, HSR.out.1, ← HSt.out], by rw [HSN2.out, HSR.out.2], HNo.out⟩
            clear HSR HSN2 HSt HLs HNo HO7 H7 e0 e1
            go_wp2_with fail
            go_roundw
            case rel => exact ⟨k + 1, true, by omega, by go_num, rfl, HE⟩
            case measure => simp [intOf]; omega
        · as_aux_lemma =>
            have HSR := Lib.hid (HSM.out _ (c, d) HLs.out.symm (by show a ≤ c; omega))
            obtain ⟨e0, e1⟩ := HC.out w4 H4.out.hb
            have d0 := H4.out.c0
            have d1 := H4.out.c1
            dsimp only at d0 d1
            obtain ⟨N, hN⟩ : ∃ N, N = L.length := ⟨_, rfl⟩
            have HN := Lib.hid hN
            rw [← hN] at hN9
            clear hN HST HSL HSM
            go_wp2_with fail
            go_quiet (fail)
            have H5 := Lib.hid (H4.out.drewN nq)
            have HO5 := Lib.hid (owns_drewN HO4.out nq)
            clear e0 e1 d0 d1 H4 HO4
            generalize w4.drewN nq = w5 at *
            obtain ⟨e0, e1⟩ := HC.out w5 H5.out.hb
            go_wp2_with (at_builtin; refine hold ?_)
            intro _
            refine wpList_appendF (by rfl) _ _ 31 (by rfl) (w.heap.size + 1) 35 i0 _ 2 16 Try.underlying31 hi hz0 hz1 hz2 rfl (by decide) vo N _ (by rfl) (by rw [HN.out]; exact World.ownsRow.alloc HO5.out _) _ [cellsM (c, d)] (by simp [cellsM]) (by simp [cellsM, Value.oneCell']) (by rfl) (RdF.lit [cellsM (c, d)] (by simp [cellsM]) (heap_alloc_new _ _) rfl (by simp)) (fun c h => by cases h) (by simp [maxLen]; omega) (by simp; omega) (by have := H5.out.sz; simp; omega) ?_
            intro v6 w6 ho hg
            have HO6 : Hid (w6.ownsRow (w.heap.size + 1) 35 2 v6 (L ++ [(c, d)]).length (((L ++ [(c, d)]).map cellsM).flatten)) := Lib.hid (row_snoc ho HN.out rfl rfl)
            have H6 := Lib.hid ((H5.out.alloc (.cells (cellsM (c, d)).toArray 35)).grown hg (fun j ej => (World.ownsRow.lt HO5.out j ej).1))
            clear ho hg
            have HE : Hid (∃ L, RAddAt w w6 v6 l (a, b) (k + 1) false L) := Lib.hid ⟨_, HO6.out, H6.out, by rw [HSN2.out, HSR.out.1, ← HSt.out], by rw [HSN2.out, HSR.out.2], HNo.out⟩
            clear HSR HSN2 HSt HLs HNo HO6 H6 e0 e1
            go_wp2_with fail
            go_roundw
            case rel => exact ⟨k + 1, false, by omega, by go_num, rfl, HE⟩
            case measure => simp [intOf]; omega
    · as_aux_lemma =>
        obtain rfl : k = l.length := by omega
        have g3 : ¬ (l.length : Int) < (l.length : Int) := by omega
        have ho := HW.out.own
        have H5 := Lib.hid HW.out.box
        have hst := HW.out.st
        have hls := HW.out.ls
        have hdm := HW.out.no
        rw [List.take_length] at hst hls hdm
        have hll := stR_len (a, b) (leftM (a, b) l)
        have hl2 := leftM_len (a, b) l
        have hN9 : L.length ≤ 9 := by rw [hst]; omega
        cases r with
        | true =>
          as_aux_lemma =>
          have hLe : L = insM (a, b) (leftM (a, b) l) := by rw [hst, stR_yes hls.symm]
          have hLn : (L).length = (leftM (a, b) l).length + 1 := by rw [hLe, insM_len]
          obtain ⟨N2, hN2⟩ : ∃ N, N = (L).length := ⟨_, rfl⟩
          have h92 : N2 ≤ 9 := by rw [hN2, hLn]; have := leftM_len (a, b) l; omega
          rw [hLe] at ho
          have hN3 : N2 = (insM (a, b) (leftM (a, b) l)).length := by rw [hN2, hLe]
          have hN4 : N2 = (leftM (a, b) l).length + 1 := by rw [hN2, hLn]
          rw [← hN3] at ho
          rcases Joins.ownsRow_forms ho with ⟨_, h0⟩ | ⟨g, cap, hvo⟩
          · omega
          · have HO9 : Hid (RdM wr vo (insM (a, b) (leftM (a, b) l)) ∧ FreshV w.heap.size vo) := Lib.hid ⟨rdm_row (by rw [← hN3]; exact ho), (fresh_row ho).mono (Nat.le_succ _)⟩
            have HN3 := Lib.hid hN3
            by_cases h9 : 8 < N2
            · have HE := Lib.hid (addL_many HR1.out.symm HR2.out.symm hdm (by omega))
              clear ho hN2 hN3 hN4 hLn hLe hdm hst hls hll hl2 HST HSL HSM HW
              subst hvo
              have g9 : (8 : Int) < (N2 : Int) := by omega
              go_wp2_with fail
              go_ret2
              exact ⟨_, by rw [HR.out, HE.out]; rfl, by rw [HR.out, HE.out]; exact rdm_nil _, (fun c h => by cases h; rfl), fresh_nil _ _ _, H5.out.hb⟩
            · have HE := Lib.hid (addL_new HR1.out.symm HR2.out.symm hdm (by omega))
              clear ho hN2 hN3 hN4 hLn hLe hdm hst hls hll hl2 HST HSL HSM HW
              subst hvo
              have g9 : ¬ (8 : Int) < (N2 : Int) := by omega
              go_wp2_with fail
              go_ret2
              exact ⟨_, by rw [HR.out, HE.out]; rfl, by rw [HR.out, HE.out]; exact HO9.out.1, (fun c h => by cases h), HO9.out.2, H5.out.hb⟩
        | false =>
          as_aux_lemma =>
          have hLe : L ++ [(a, b)] = insM (a, b) (leftM (a, b) l) := by rw [hst, stR_no hls.symm]
          have HLe := Lib.hid hLe
          have HDm := Lib.hid hdm
          have HO5 := Lib.hid ho
          obtain ⟨N, hN⟩ : ∃ N, N = L.length := ⟨_, rfl⟩
          have HN := Lib.hid hN
          rw [← hN] at hN9
          have d0 := H5.out.c0
          have d1 := H5.out.c1
          dsimp only at d0 d1
          clear hN hst hls hll hl2 hLe ho hdm HST HSL HSM HW
          go_wp2_with (at_builtin; refine hold ?_)
          intro _
          refine wpList_appendF (by rfl) _ _ 31 (by rfl) (w.heap.size + 1) 35 i0 _ 2 16 Try.underlying31 hi hz0 hz1 hz2 rfl (by decide) vo N _ (by rfl) (by rw [HN.out]; exact World.ownsRow.alloc HO5.out _) _ [cellsM (a, b)] (by simp [cellsM]) (by simp [cellsM, Value.oneCell']) (by rfl) (RdF.lit [cellsM (a, b)] (by simp [cellsM]) (heap_alloc_new _ _) rfl (by simp)) (fun c h => by cases h) (by simp [maxLen]; omega) (by simp; omega) (by have := H5.out.sz; simp; omega) ?_
          intro v6 w6 ho hg
          have HO6 : Hid (w6.ownsRow (w.heap.size + 1) 35 2 v6 (L ++ [(a, b)]).length (((L ++ [(a, b)]).map cellsM).flatten)) := Lib.hid (row_snoc ho HN.out rfl rfl)
          have HQ5 := Lib.hid ((H5.out.alloc (.cells (cellsM (a, b)).toArray 35)).grown hg (fun j ej => (World.ownsRow.lt HO5.out j ej).1))
          clear ho hg
          have ho := HO6.out
          have hLe := HLe.out
          have hdm := HDm.out
          clear H5 HO5 d0 d1 HO6 HLe HDm HN
          have hLn : (L ++ [(a, b)]).length = (leftM (a, b) l).length + 1 := by rw [hLe, insM_len]
          obtain ⟨N2, hN2⟩ : ∃ N, N = (L ++ [(a, b)]).length := ⟨_, rfl⟩
          have h92 : N2 ≤ 9 := by rw [hN2, hLn]; have := leftM_len (a, b) l; omega
          rw [hLe] at ho
          have hN3 : N2 = (insM (a, b) (leftM (a, b) l)).length := by rw [hN2, hLe]
          have hN4 : N2 = (leftM (a, b) l).length + 1 := by rw [hN2, hLn]
          rw [← hN3] at ho
          rcases Joins.ownsRow_forms ho with ⟨_, h0⟩ | ⟨g, cap, hvo⟩
          · omega
          · have HO9 : Hid (RdM w6 v6 (insM (a, b) (leftM (a, b) l)) ∧ FreshV w.heap.size v6) := Lib.hid ⟨rdm_row (by rw [← hN3]; exact ho), (fresh_row ho).mono (Nat.le_succ _)⟩
            have HN3 := Lib.hid hN3
            by_cases h9 : 8 < N2
            · have HE := Lib.hid (addL_many HR1.out.symm HR2.out.symm hdm (by omega))
              clear ho hN2 hN3 hN4 hLn hLe hdm
              subst hvo
              have g9 : (8 : Int) < (N2 : Int) := by omega
              go_wp2_with fail
              go_ret2
              exact ⟨_, by rw [HR.out, HE.out]; rfl, by rw [HR.out, HE.out]; exact rdm_nil _, (fun c h => by cases h; rfl), fresh_nil _ _ _, HQ5.out.hb⟩
            · have HE := Lib.hid (addL_new HR1.out.symm HR2.out.symm hdm (by omega))
              clear ho hN2 hN3 hN4 hLn hLe hdm
              subst hvo
              have g9 : ¬ (8 : Int) < (N2 : Int) := by omega
              go_wp2_with fail
              go_ret2
              exact ⟨_, by rw [HR.out, HE.out]; rfl, by rw [HR.out, HE.out]; exact HO9.out.1, (fun c h => by cases h), HO9.out.2, HQ5.out.hb⟩
end Go.Proofs.Ytilkodnblekllaa
