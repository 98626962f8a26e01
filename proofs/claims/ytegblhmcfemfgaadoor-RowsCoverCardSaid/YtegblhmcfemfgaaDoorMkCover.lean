/- RowsCover: the walk. -/
import Derived.Test.YtegblhmcfemfgaaDoorMkPut
import Derived.Test.YtegblhmcfemfgaaDoorMkF0
import Derived.Test.YtegblhmcfemfgaaDoorMkCovM
import Derived.Test.YtegblhmcfemfgaaDoorBx
import Derived.Deep.CutRange
namespace Go.Proofs.YtegblhmcfemfgaaDoor
open Go.RowKit

/-- What lies on through RowsCover. -/
structure CvS (w W : World) (m o : MarkT) (v : Value) (l : List MarkT) : Prop where
  hb : Below w.heap.size w W
  b6 : W.heap[w.heap.size]? = some (.cells #[.int .i64 m.1, .int .i64 m.2] 24 (0, 0))
  b7 : W.heap[w.heap.size + 1]? = some (.cells #[.int .i64 o.1, .int .i64 o.2] 24 (0, 0))
  rv : RdMk W v l
theorem CvS.up {w W W' : World} {m o : MarkT} {v : Value} {l : List MarkT} (h : CvS w W m o v l) (hb : Below W.heap.size W W') : CvS w W' m o v l :=
  ⟨h.hb.trans (hb.mono h.hb.size), box_up h.b6 hb, box_up h.b7 hb, h.rv.up hb⟩
theorem rdk_len {W : World} {u : Value} (h : RdMk W u []) : ∃ a c, u = .slice a 0 c := by
  obtain ⟨a, c, e, _⟩ := h.form
  exact ⟨a, c, e⟩
theorem cov_way {A L X Y : Bool} (h : A = (L || (X && Y))) : (L = true ∧ A = true) ∨ (L = false ∧ X = false ∧ A = false) ∨ (L = false ∧ X = true ∧ Y = false ∧ A = false) ∨ (L = false ∧ X = true ∧ Y = true ∧ A = true) := by
  cases L <;> cases X <;> cases Y <;> simp_all
set_option maxRecDepth 100000 in
set_option maxHeartbeats 8000000 in
theorem cover_walk (v : Value) (l : List MarkT) (m o : MarkT) (num time : Int) (w : World) (hv : RdMk w v l) (hn : ∀ c, v = .slice none 0 c → c = 0) (ht : TabJ w.heap.size w) :
    Calls Tryd.prog 3 #[v, encM m, encM o, .int .i64 num, .int .i64 time] w fun e w' => e = .returned (.bool true) ∧ Below w.heap.size w w' := by
  obtain ⟨Wa, hWa⟩ : ∃ Wa, Wa = (w.alloc (.cells #[.int .i64 m.1, .int .i64 m.2] 24)).alloc (.cells #[.int .i64 o.1, .int .i64 o.2] 24) := ⟨_, rfl⟩
  have HA : Hid (CvS w Wa m o v l) := Lib.hid (by
    have hb : Below w.heap.size w Wa := by rw [hWa]; exact below_two _ _ _
    refine ⟨hb, ?_, ?_, hv.up hb⟩
    · rw [hWa]; exact box_up (heap_alloc_new w _) (below_alloc _ _)
    · rw [hWa]
      have := heap_alloc_new (w.alloc (.cells #[.int .i64 m.1, .int .i64 m.2] 24)) (.cells #[.int .i64 o.1, .int .i64 o.2] 24)
      simpa using this)
  have FST : Hid (∀ W, Below w.heap.size w W → Calls Tryd.prog 5 #[] W fun e w' => e = .returned (.bool true) ∧ Below W.heap.size W w') := Lib.hid (fun W _ => mkfirst_any W)
  have C1 := Lib.hid (FST.out Wa HA.out.hb)
  have HN := Lib.hid hn
  have HT := Lib.hid ht
  have TB : Hid (∀ W, Below w.heap.size w W → TabJ W.heap.size W) := Lib.hid (fun W hb w' h' => HT.out w' (hb.trans (h'.mono hb.size)))
  obtain ⟨av, cv, rfl, hlen⟩ := hv.form
  clear hv hn ht
  by_cases h50 : 50 < l.length
  · have t1 : decide ((50 : Int) < (l.length : Int)) = true := decide_eq_true (by omega)
    have t1p : (50 : Int) < (l.length : Int) := by omega
    clear h50
    go_enter Tryd.func3, Tryd.ntmps3
    go_wp2_with fail
    rw [← hWa]
    refine C1.out.mono ?_
    rintro e w1 ⟨rfl, hb1⟩
    have H1 := Lib.hid (HA.out.up hb1)
    clear hb1 C1 hWa HA
    have CF := Lib.hid (FST.out _ H1.out.hb)
    go_wp2_with fail
    refine CF.out.mono ?_
    rintro e w99 ⟨rfl, hb99⟩
    have HX := Lib.hid (H1.out.hb.trans (hb99.mono H1.out.hb.size))
    clear hb99 CF
    go_wp2_with fail
    go_ret
    exact ⟨rfl, HX.out⟩
  · have t1 : decide ((50 : Int) < (l.length : Int)) = false := decide_eq_false (by omega)
    have t1p : ¬ (50 : Int) < (l.length : Int) := by omega
    have hl50 : l.length ≤ 50 := by omega
    clear h50
    obtain ⟨m1, m2⟩ := m
    obtain ⟨o1, o2⟩ := o
    dsimp only [encM]
    cases hadd : addL l (m1, m2) with
    | mk a z =>
      have hz : z = 0 ∨ (z ≠ 0 ∧ a = []) := by
        rcases addL_cases l (m1, m2) with h | h | ⟨_, _, ⟨_, h⟩ | ⟨_, _, h⟩⟩ <;> (rw [hadd] at h; cases h; simp)
      rcases hz with rfl | ⟨hz, rfl⟩
      · have HAD := Lib.hid hadd
        obtain ⟨_, _, hma, hca⟩ := addL_ok hadd
        have HMA := Lib.hid hma
        have HCA := Lib.hid (hca num time)
        have ha8 := hma.2
        clear hadd hma hca
        go_enter Tryd.func3, Tryd.ntmps3
        go_wp2_with fail
        rw [← hWa]
        refine C1.out.mono ?_
        rintro e w1 ⟨rfl, hb1⟩
        have H1 := Lib.hid (HA.out.up hb1)
        clear hb1 C1 hWa HA
        have CA := padd_any (.slice av l.length cv) l (m1, m2) w1 H1.out.rv HN.out
        rw [HAD.out] at CA
        have CA := Lib.hid CA
        have p0 := box_cell H1.out.b6 0
        have p1 := box_cell H1.out.b6 1
        have r0 := box_cell H1.out.b7 0
        have r1 := box_cell H1.out.b7 1
        go_wp2_with fail
        refine CA.out.mono ?_
        rintro e w2 ⟨u, rfl, hr2, hn2, _, hb2⟩
        obtain ⟨au, cu, rfl, _⟩ := hr2.form
        have H2 := Lib.hid (H1.out.up hb2)
        have HU := Lib.hid (And.intro hr2 hn2)
        have CP := Lib.hid (putMarks_yes _ a w2 hr2 HMA.out (TB.out _ H2.out.hb))
        clear hr2 hn2 hb2 CA H1
        clear p0 p1 r0 r1
        go_wp2_with fail
        refine CP.out.mono ?_
        rintro e w3 ⟨rfl, hb3⟩
        have H3 := Lib.hid (H2.out.up hb3)
        have HU3 := Lib.hid (HU.out.1.up hb3)
        clear hb3 CP H2
        have CV1 := Lib.hid (pcov_any _ a num time w3 HU3.out)
        have CV2 : Hid (∀ W, Below w3.heap.size w3 W → Calls Tryd.prog 8 #[.slice av l.length cv, .int .i64 num, .int .i64 time] W fun e w' => e = .returned (.bool (covL l num time)) ∧ Below W.heap.size W w') := Lib.hid (fun W hb => pcov_any _ l num time W (H3.out.rv.up hb))
        go_upto_region 9 with fail
        go_cut [72] from 48 to 72 (fun v72 wc => v72 = .bool false ∧ Hid (Below w3.heap.size w3 wc))
        case first =>
          have hway := cov_way (A := covL a num time) (L := covL l num time) (X := decide (num < m2)) (Y := decide (time ≤ m1)) (by
            rw [HCA.out]
            congr 1
            rw [Bool.eq_iff_iff]
            simp only [decide_eq_true_eq, Bool.and_eq_true]
            exact And.comm)
          generalize covL a num time = A at CV1 hway
          generalize covL l num time = L at CV2 hway
          rcases hway with ⟨rfl, rfl⟩ | ⟨rfl, hx, rfl⟩ | ⟨rfl, hx, hy, rfl⟩ | ⟨rfl, hx, hy, rfl⟩
          all_goals
            go_wp2_with fail
            refine CV1.out.mono ?_
            rintro e w4 ⟨rfl, hb4⟩
            have HB4 := Lib.hid hb4
            have CV := Lib.hid (CV2.out w4 hb4)
            clear hb4
            go_wp2_with fail
            refine CV.out.mono ?_
            rintro e w5 ⟨rfl, hb5⟩
            have HB5 := Lib.hid (HB4.out.trans (hb5.mono HB4.out.size))
            have p0 := box_cell (H3.out.up HB5.out).b6 0
            have p1 := box_cell (H3.out.up HB5.out).b6 1
            clear hb5 CV
            go_wp2_with fail
            go_meet
            case rel => exact ⟨rfl, HB5⟩
        case rest =>
        obtain ⟨rfl, HBC⟩ := hcut
        have H5 := Lib.hid (H3.out.up HBC.out)
        have HU5 := Lib.hid (HU3.out.up HBC.out)
        clear H3 HU3 HBC CV1 CV2
        have CA := padd_any _ a (m1, m2) wc HU5.out HU.out.2
        rw [add_twice HAD.out] at CA
        have CA := Lib.hid CA
        have p0 := box_cell H5.out.b6 0
        have p1 := box_cell H5.out.b6 1
        have r0 := box_cell H5.out.b7 0
        have r1 := box_cell H5.out.b7 1
        go_wp2_with fail
        refine CA.out.mono ?_
        rintro e w6 ⟨u6, rfl, hr6, _, _, hb6⟩
        obtain ⟨a6, c6, rfl, _⟩ := hr6.form
        have H6 := Lib.hid (H5.out.up hb6)
        have HU6 := Lib.hid (And.intro (HU5.out.up hb6) hr6)
        clear hr6 hb6 CA H5 HU5
        clear p0 p1 r0 r1
        have CM := Lib.hid (marks_any _ a w6 HU6.out.1 (by omega))
        go_wp2_with fail
        refine CM.out.mono ?_
        rintro e w7 ⟨u7, rfl, hr7, hb7⟩
        obtain ⟨a7, c7, rfl, _⟩ := hr7.form
        have H7 := Lib.hid (H6.out.up hb7)
        have HU7 := Lib.hid (HU6.out.1.up hb7)
        have CS := Lib.hid (samek_any _ _ a w7 (HU6.out.2.up hb7) hr7 (by omega))
        clear hr7 hb7 CM H6 HU6
        go_wp2_with fail
        refine CS.out.mono ?_
        rintro e w8 ⟨rfl, hb8⟩
        have H8 := Lib.hid (H7.out.up hb8)
        have HU8 := Lib.hid (HU7.out.up hb8)
        clear hb8 CS H7 HU7
        cases hac : addL a (o1, o2) with
        | mk c z1 =>
          cases hld : addL l (o1, o2) with
          | mk d z2 =>
            have CA := padd_any _ a (o1, o2) w8 HU8.out HU.out.2
            rw [hac] at CA
            have CA := Lib.hid CA
            have p0 := box_cell H8.out.b6 0
            have p1 := box_cell H8.out.b6 1
            have r0 := box_cell H8.out.b7 0
            have r1 := box_cell H8.out.b7 1
            have HAC := Lib.hid hac
            have HLD := Lib.hid hld
            clear hac hld
            go_wp2_with fail
            refine CA.out.mono ?_
            rintro e w9 ⟨u9, rfl, hr9, _, _, hb9⟩
            obtain ⟨a9, c9, rfl, _⟩ := hr9.form
            have H9 := Lib.hid (H8.out.up hb9)
            have HU9 := Lib.hid hr9
            clear hr9 hb9 CA H8 HU8
            clear p0 p1 r0 r1
            have CA := padd_any _ l (o1, o2) w9 H9.out.rv HN.out
            rw [HLD.out] at CA
            have CA := Lib.hid CA
            have p0 := box_cell H9.out.b6 0
            have p1 := box_cell H9.out.b6 1
            have r0 := box_cell H9.out.b7 0
            have r1 := box_cell H9.out.b7 1
            go_wp2_with fail
            refine CA.out.mono ?_
            rintro e w10 ⟨u10, rfl, hr10, hn10, _, hb10⟩
            obtain ⟨a10, c10, rfl, _⟩ := hr10.form
            have H10 := Lib.hid (H9.out.up hb10)
            have HU10 := Lib.hid (And.intro (HU9.out.up hb10) (And.intro hr10 hn10))
            clear hr10 hn10 hb10 CA H9 HU9
            clear p0 p1 r0 r1
            by_cases hz1 : z1 = 0
            · by_cases hz2 : z2 = 0
              · subst hz1 hz2
                have hc8 : c.length ≤ 8 := (addL_ok HAC.out).2.2.1.2
                have CA := padd_any _ d (m1, m2) w10 HU10.out.2.1 HU10.out.2.2
                rw [add_swap HAD.out HAC.out HLD.out] at CA
                have CA := Lib.hid CA
                have p0 := box_cell H10.out.b6 0
                have p1 := box_cell H10.out.b6 1
                have r0 := box_cell H10.out.b7 0
                have r1 := box_cell H10.out.b7 1
                go_wp2_with fail
                refine CA.out.mono ?_
                rintro e w11 ⟨u11, rfl, hr11, _, _, hb11⟩
                obtain ⟨a11, c11, rfl, _⟩ := hr11.form
                have H11 := Lib.hid (H10.out.up hb11)
                have HU11 := Lib.hid (And.intro (HU10.out.1.up hb11) hr11)
                clear hr11 hb11 CA H10 HU10
                clear p0 p1 r0 r1
                have CF := Lib.hid (FST.out w11 H11.out.hb)
                go_wp2_with fail
                refine CF.out.mono ?_
                rintro e w12 ⟨rfl, hb12⟩
                have H12 := Lib.hid (H11.out.up hb12)
                have HU12 := Lib.hid (And.intro (HU11.out.1.up hb12) (HU11.out.2.up hb12))
                clear hb12 CF H11 HU11
                have CM := Lib.hid (marks_any _ c w12 HU12.out.1 (by omega))
                go_wp2_with fail
                refine CM.out.mono ?_
                rintro e w13 ⟨u13, rfl, hr13, hb13⟩
                obtain ⟨a13, c13, rfl, _⟩ := hr13.form
                have H13 := Lib.hid (H12.out.up hb13)
                have CS := Lib.hid (samek_any _ _ c w13 (HU12.out.2.up hb13) hr13 (by omega))
                clear hr13 hb13 CM H12 HU12
                go_wp2_with fail
                refine CS.out.mono ?_
                rintro e w14 ⟨rfl, hb14⟩
                have HX := Lib.hid (H13.out.hb.trans (hb14.mono H13.out.hb.size))
                clear hb14 CS
                go_wp2_with fail
                go_ret
                exact ⟨rfl, HX.out⟩
              · subst hz1
                have e2 : (z2 != 0) = true := by rw [bne_iff_ne]; exact hz2
                clear hz2
                have CF := Lib.hid (FST.out _ H10.out.hb)
                go_wp2_with fail
                refine CF.out.mono ?_
                rintro e w99 ⟨rfl, hb99⟩
                have HX := Lib.hid (H10.out.hb.trans (hb99.mono H10.out.hb.size))
                clear hb99 CF
                go_wp2_with fail
                go_ret
                exact ⟨rfl, HX.out⟩
            · have e1 : (z1 != 0) = true := by rw [bne_iff_ne]; exact hz1
              clear hz1
              have CF := Lib.hid (FST.out _ H10.out.hb)
              go_wp2_with fail
              refine CF.out.mono ?_
              rintro e w99 ⟨rfl, hb99⟩
              have HX := Lib.hid (H10.out.hb.trans (hb99.mono H10.out.hb.size))
              clear hb99 CF
              go_wp2_with fail
              go_ret
              exact ⟨rfl, HX.out⟩
      · have HAD := Lib.hid hadd
        have hz1 : (z != 0) = true := by rw [bne_iff_ne]; exact hz
        clear hadd hz
        go_enter Tryd.func3, Tryd.ntmps3
        go_wp2_with fail
        rw [← hWa]
        refine C1.out.mono ?_
        rintro e w1 ⟨rfl, hb1⟩
        have H1 := Lib.hid (HA.out.up hb1)
        clear hb1 C1 hWa HA
        have CA := padd_any (.slice av l.length cv) l (m1, m2) w1 H1.out.rv HN.out
        rw [HAD.out] at CA
        have CA := Lib.hid CA
        have p0 := box_cell H1.out.b6 0
        have p1 := box_cell H1.out.b6 1
        have r0 := box_cell H1.out.b7 0
        have r1 := box_cell H1.out.b7 1
        go_wp2_with fail
        refine CA.out.mono ?_
        rintro e w2 ⟨u, rfl, hr2, _, _, hb2⟩
        obtain ⟨au, cu, rfl⟩ := rdk_len hr2
        have H2 := Lib.hid (H1.out.up hb2)
        clear hr2 hb2 CA H1
        clear p0 p1 r0 r1
        have CF := Lib.hid (FST.out _ H2.out.hb)
        go_wp2_with fail
        refine CF.out.mono ?_
        rintro e w99 ⟨rfl, hb99⟩
        have HX := Lib.hid (H2.out.hb.trans (hb99.mono H2.out.hb.size))
        clear hb99 CF
        go_wp2_with fail
        go_ret
        exact ⟨rfl, HX.out⟩
theorem cover_main (v : Value) (l : List MarkT) (m o : MarkT) (num time : Int) (w : World) (hv : RdMk w v l) (hn : ∀ c, v = .slice none 0 c → c = 0) (_ : ∀ x ∈ l, (-9223372036854775808 ≤ x.1 ∧ x.1 ≤ 9223372036854775807) ∧ (-9223372036854775808 ≤ x.2 ∧ x.2 ≤ 9223372036854775807))
    (_ : -9223372036854775808 ≤ m.1 ∧ m.1 ≤ 9223372036854775807) (_ : -9223372036854775808 ≤ m.2 ∧ m.2 ≤ 9223372036854775807) (_ : -9223372036854775808 ≤ o.1 ∧ o.1 ≤ 9223372036854775807) (_ : -9223372036854775808 ≤ o.2 ∧ o.2 ≤ 9223372036854775807) (_ : -9223372036854775808 ≤ num ∧ num ≤ 9223372036854775807) (_ : -9223372036854775808 ≤ time ∧ time ≤ 9223372036854775807) (ht : TabJ w.heap.size w) :
    Calls Tryd.prog 3 #[v, encM m, encM o, .int .i64 num, .int .i64 time] w fun e w' => e = .returned (.bool true) ∧ Below w.heap.size w w' := cover_walk v l m o num time w hv hn ht
end Go.Proofs.YtegblhmcfemfgaaDoor
