/- hbllaw15.first; RowsMarks. -/
import Derived.Test.YtilkodnblekllaaMkRAdd
import Derived.Test.YtilkodnblekllaaMkLawM
namespace Go.Proofs.Ytilkodnblekllaa
open Go.RowKit

theorem add_ex1 : addL [(100, 5)] (50, 10) = ([(100, 5), (50, 10)], 0) := by decide
theorem add_ex2 : addL [(50, 5)] (100, 10) = ([(100, 10)], 0) := by decide
set_option maxRecDepth 100000 in
set_option maxHeartbeats 2000000 in
theorem mkfirst_any (w : World) : Calls Try.prog 5 #[] w fun e w' => e = .returned (.bool true) ∧ Below w.heap.size w w' := by
  have C1 := Lib.hid (padd_any (.slice (some ⟨w.heap.size, 0, none⟩) 1 1) [(100, 5)] (50, 10) (w.alloc (.cells #[.int .i64 100, .int .i64 5] 28)) (RdF.lit [cellsM (100, 5)] (by simp [cellsM]) (heap_alloc_new _ _) rfl (by simp)) (fun c h => by cases h))
  have C2 := Lib.hid (fun W : World => padd_any (.slice (some ⟨W.heap.size, 0, none⟩) 1 1) [(50, 5)] (100, 10) (W.alloc (.cells #[.int .i64 50, .int .i64 5] 28)) (RdF.lit [cellsM (50, 5)] (by simp [cellsM]) (heap_alloc_new _ _) rfl (by simp)) (fun c h => by cases h))
  rw [add_ex1] at C1
  rw [add_ex2] at C2
  have H0 := Lib.hid (below_alloc w (.cells #[.int .i64 100, .int .i64 5] 28))
  go_enter Try.func5, Try.ntmps5
  go_wp2_with fail
  refine C1.out.mono ?_
  rintro e w1 ⟨u1, rfl, hr1, _, _, hb1⟩
  have H1 := Lib.hid (And.intro hr1 (H0.out.trans (hb1.mono H0.out.size)))
  clear hr1 hb1 C1 H0
  go_wp2_with fail
  refine (C2.out w1).mono ?_
  rintro e w2 ⟨u2, rfl, hr2, _, _, hb2⟩
  have hb3 := (below_alloc w1 (.cells #[.int .i64 50, .int .i64 5] 28)).trans (hb2.mono (by simp))
  obtain ⟨a1, c1, rfl, _⟩ := H1.out.1.form
  obtain ⟨a2, c2, rfl, _⟩ := hr2.form
  obtain ⟨b1, o1, rfl, x0, _⟩ := RdM.get (H1.out.1.up hb3) (i := 0) (by simp)
  obtain ⟨b2, o2, rfl, _, y1⟩ := RdM.get hr2 (i := 0) (by simp)
  have HX := Lib.hid (H1.out.2.trans (hb3.mono H1.out.2.size))
  simp at x0 y1
  clear hb2 hb3 hr2 C2 H1
  go_wp2_with fail
  go_ret
  exact ⟨rfl, HX.out⟩
/-- What lies on through RowsMarks. -/
structure RmS (w W : World) (m : MarkT) (v vi va : Value) (l r : List MarkT) : Prop where
  box : BoxAt w W m
  rv : RdM W v l
  ri : RdM W vi l
  ra : RdM W va r
theorem RmS.up {w W W' : World} {m : MarkT} {v vi va : Value} {l r : List MarkT} (h : RmS w W m v vi va l r) (hb : Below W.heap.size W W') : RmS w W' m v vi va l r := ⟨h.box.up hb, h.rv.up hb, h.ri.up hb, h.ra.up hb⟩
theorem forms_any {w : World} {base : Nat} {e : TypeId} {v : Value} {n : Nat} {xs : List Value} (h : w.ownsRow base e 2 v n xs) : ∀ c, v = .slice none 0 c → c = 0 := by
  intro c hc
  rcases Joins.ownsRow_forms h with ⟨h1, _⟩ | ⟨g, cap, h1⟩
  · rw [h1] at hc; cases hc; rfl
  · rw [h1] at hc; cases hc
set_option maxRecDepth 100000 in
set_option maxHeartbeats 4000000 in
theorem rmarks_walk (v : Value) (l : List MarkT) (m : MarkT) (num time : Int) (w : World) (hv : RdM w v l) (hn : ∀ c, v = .slice none 0 c → c = 0) :
    Calls Try.prog 4 #[v, encM m, .int .i64 num, .int .i64 time] w fun e w' => e = .returned (.bool true) ∧ Below w.heap.size w w' := by
  obtain ⟨i0, hi, hz0, hz1, hz2⟩ := info_parts infoM
  obtain ⟨av, cv, rfl, hmx⟩ := hv.form
  have HB0 := Lib.hid (BoxAt.new w m 28)
  have HV := Lib.hid hv
  have HN := Lib.hid hn
  have CF := Lib.hid mkfirst_any
  obtain ⟨a, b⟩ := m
  clear hv hn
  go_enter Try.func4, Try.ntmps4
  go_wp2_with fail
  refine (CF.out _).mono ?_
  rintro e w1 ⟨rfl, hb1⟩
  have H1 := Lib.hid (HB0.out.up hb1)
  clear hb1 HB0
  by_cases h50 : 50 < l.length
  · as_aux_lemma =>
      have g5 : (50 : Int) < (l.length : Int) := by omega
      go_wp2_with fail
      refine (CF.out _).mono ?_
      rintro e w2 ⟨rfl, hb2⟩
      have HX := Lib.hid (H1.out.up hb2).hb
      clear hb2
      go_wp2_with fail
      go_ret
      exact ⟨rfl, HX.out⟩
  have g5 : ¬ (50 : Int) < (l.length : Int) := by omega
  go_wp2_with (at_builtin; refine hold ?_)
  intro _
  refine wpList_appendF (by rfl) _ _ 22 (by rfl) w1.heap.size 28 i0 _ 2 16 Try.underlying22 hi hz0 hz1 hz2 rfl (by decide) _ 0 [] (by rfl) (World.ownsRow_made w1 #[] 0 (Nat.le_refl _) (by decide) rfl) _ (l.map cellsM) (cellsM_len l) rdm_ones (by rfl) (RdF.below (HV.out.up H1.out.hb) (below_alloc w1 _) (Nat.le_refl _)) (fun c h => HN.out c h) (by simp [maxLen]; omega) (by simp; omega) (by simp) ?_
  intro vi w2 ho hg
  have H2 : Hid (BoxAt w w2 (a, b) ∧ RdM w2 vi l ∧ ∀ c, vi = .slice none 0 c → c = 0) := Lib.hid ⟨H1.out.up ((below_alloc w1 _).grown hg (by simp) (fun k hk => by simp [Value.ownBlock] at hk; omega)), rdm_row (rdm_own0 ho (by simp)), forms_any ho⟩
  clear ho hg
  have d0 := H2.out.1.c0
  have d1 := H2.out.1.c1
  dsimp only at d0 d1
  have CP := Lib.hid (padd_any vi l (a, b) w2 H2.out.2.1 H2.out.2.2)
  have CA := Lib.hid (fun W v (h : RdM W v l) => radd_any v l (a, b) W h (by omega))
  have CMk := Lib.hid (fun W v (h : RdM W v l) => marks_any v l W h (by omega))
  have hll : (addL l (a, b)).1.length ≤ 1000000 := by
    rcases addL_cases l (a, b) with h | h | ⟨_, _, ⟨_, h⟩ | ⟨_, _, h⟩⟩ <;> rw [h]
    · simp
    · simp
    · show l.length ≤ 1000000; omega
    · rw [insM_len]; omega
  obtain ⟨⟨r, E⟩, hR⟩ : ∃ R, R = addL l (a, b) := ⟨_, rfl⟩
  rw [← hR] at CP CA hll
  have CS := Lib.hid (fun W v v' (h : RdM W v r) (h' : RdM W v' r) => same_any v v' r W h h' hll)
  have CS2 := Lib.hid (fun W v v' (h : RdM W v l) (h' : RdM W v' l) => same_any v v' l W h h' (by omega))
  have CC := Lib.hid (fun W v (h : RdM W v l) => pcov_any v l num time W h)
  have CD := Lib.hid (fun W v (h : RdM W v l) => rcov_any v l num time W h)
  obtain ⟨C, hC⟩ : ∃ C, C = covL l num time := ⟨_, rfl⟩
  rw [← hC] at CC CD
  clear hR hll hC
  go_wp2_with fail
  refine CP.out.mono ?_
  rintro e w3 ⟨va, rfl, hra, _, _, hb3⟩
  have H3 : Hid (RmS w w3 (a, b) (.slice av l.length cv) vi va l r) := Lib.hid ⟨H2.out.1.up hb3, HV.out.up (H2.out.1.up hb3).hb, H2.out.2.1.up hb3, hra⟩
  clear hra hb3 d0 d1 H2 H1 CP HV
  have HB1 : Hid (RmS w w3.drew (a, b) (.slice av l.length cv) vi va l r) := Lib.hid (H3.out.up (Below.drewsN (Below.refl _ _) 1))
  have d0 := HB1.out.box.c0
  have d1 := HB1.out.box.c1
  dsimp only at d0 d1
  have HD := Lib.hid (And.intro d0 d1)
  have CM1 : Hid (∀ W, Hid (RmS w W (a, b) (.slice av l.length cv) vi va l r) → Calls Try.prog 9 #[.slice av l.length cv] W fun e W' => ∃ u, e = .returned u ∧ Hid (RmS w W' (a, b) (.slice av l.length cv) vi va l r ∧ RdM W' u l)) :=
    Lib.hid (fun W H => (CMk.out W _ H.out.rv).mono (by rintro e W' ⟨u, rfl, h1, h2⟩; exact ⟨u, rfl, Lib.hid ⟨H.out.up h2, h1⟩⟩))
  have CA1 : Hid (∀ W u, Hid (RmS w W (a, b) (.slice av l.length cv) vi va l r ∧ RdM W u l) → Calls Try.prog 8 #[u, encM (a, b)] W fun e W' => ∃ t, e = .returned (.tuple #[t, .int .i64 E]) ∧ Hid (RmS w W' (a, b) (.slice av l.length cv) vi va l r ∧ RdM W' t r)) :=
    Lib.hid (fun W u H => (CA.out W u H.out.2).mono (by rintro e W' ⟨t, rfl, h1, _, _, h2⟩; exact ⟨t, rfl, Lib.hid ⟨H.out.1.up h2, h1⟩⟩))
  go_wp2_with fail
  go_region_held3 (fun W => W.cell? ⟨w.heap.size, 0, none⟩ = some (.int .i64 a) ∧ W.cell? ⟨w.heap.size, 1, none⟩ = some (.int .i64 b))
    (first
      | (exact HD.out)
      | (exact ⟨HB3.out.1.box.c0, HB3.out.1.box.c1⟩)
      | (exact ⟨HB2.out.1.box.c0, HB2.out.1.box.c1⟩)
      | go_keep)
    ((first
      | (go_at_call 9; refine (CM1.out _ HB1).mono ?_; rintro e w5 ⟨u5, rfl, HB2⟩)
      | (go_at_call 8; refine (CA1.out _ _ HB2).mono ?_; rintro e w6 ⟨vt, rfl, HB3⟩)
      | fail))
  all_goals
    clear d0 d1 HD CM1 CA1 HB1
    go_wp2_with fail
    refine (CF.out _).mono ?_
    rintro e w7 ⟨rfl, hb7⟩
    have H7 := Lib.hid (And.intro (HB3.out.1.up hb7) (HB3.out.2.up hb7))
    clear hb7 HB3 HB2
    go_wp2_with fail
    refine (CS.out _ _ _ H7.out.1.ra H7.out.2).mono ?_
    rintro e w8 ⟨rfl, hb8⟩
    have H8 := Lib.hid (H7.out.1.up hb8)
    clear hb8 H7
    go_wp2_with fail
    refine (CC.out _ _ H8.out.ri).mono ?_
    rintro e w9 ⟨rfl, hb9⟩
    have H9 := Lib.hid (H8.out.up hb9)
    clear hb9 H8
    go_wp2_with fail
    refine (CMk.out _ _ H9.out.rv).mono ?_
    rintro e w10 ⟨u10, rfl, hu10, hb10⟩
    have H10 := Lib.hid (And.intro (H9.out.up hb10) hu10)
    clear hb10 H9 hu10
    go_wp2_with fail
    refine (CD.out _ _ H10.out.2).mono ?_
    rintro e w11 ⟨rfl, hb11⟩
    have H11 := Lib.hid (H10.out.1.up hb11)
    clear hb11 H10
    go_wp2_with fail
    refine (CMk.out _ _ H11.out.rv).mono ?_
    rintro e w12 ⟨u12, rfl, hu12, hb12⟩
    have H12 := Lib.hid (And.intro (H11.out.up hb12) hu12)
    clear hb12 H11 hu12
    go_wp2_with fail
    refine (CS2.out _ _ _ H12.out.1.ri H12.out.2).mono ?_
    rintro e w13 ⟨rfl, hb13⟩
    have HX := Lib.hid (H12.out.1.up hb13).box.hb
    clear hb13 H12
    go_wp2_with fail
    go_ret
    exact ⟨rfl, HX.out⟩
theorem rmarks_main (v : Value) (l : List MarkT) (m : MarkT) (num time : Int) (w : World) (hv : RdM w v l) (hn : ∀ c, v = .slice none 0 c → c = 0) (_ : ∀ x ∈ l, (-9223372036854775808 ≤ x.1 ∧ x.1 ≤ 9223372036854775807) ∧ (-9223372036854775808 ≤ x.2 ∧ x.2 ≤ 9223372036854775807))
    (_ : -9223372036854775808 ≤ m.1 ∧ m.1 ≤ 9223372036854775807) (_ : -9223372036854775808 ≤ m.2 ∧ m.2 ≤ 9223372036854775807) (_ : -9223372036854775808 ≤ num ∧ num ≤ 9223372036854775807) (_ : -9223372036854775808 ≤ time ∧ time ≤ 9223372036854775807) :
    Calls Try.prog 4 #[v, encM m, .int .i64 num, .int .i64 time] w fun e w' => e = .returned (.bool true) ∧ Below w.heap.size w w' := rmarks_walk v l m num time w hv hn
end Go.Proofs.Ytilkodnblekllaa
