/- JsonWords: the walk. -/
import Derived.Test.YtidlhajibjnkeaaDoorJFirst
import Derived.Test.YtidlhajibjnkeaaDoorJCut
import Derived.Test.YtidlhajibjnkeaaDoorJFew
import Derived.Deep.CutRange
namespace Go.Proofs.YtidlhajibjnkeaaDoor
open Go.RowKit

theorem cpb_any (x : Value) (l : List UInt8) (w : World) (hx : Rd w x l) (hl : l.length ≤ 140737488355328) :
    Calls Tryd.prog 17 #[x] w fun e w' => ∃ v, e = .returned v ∧ Own 5 w' w.heap.size v l ∧ Below w.heap.size w w' := by
  go_enter Tryd.func17, Tryd.ntmps17
  go_wp2_with (at_builtin; refine hold ?_)
  intro _
  refine bt.appendS rfl _ _ rfl w.heap.size _ x [] l (Own.made0 5 w) (hx.alloc _) rfl rfl (by simpa using hl) (by simp) ?_
  intro v' w2 hown2 hg2
  have hb2 := (Own.made0 5 w).grows hg2 (Nat.le_refl _) (by simp)
  go_wp2_with fail
  go_ret
  exact ⟨v', rfl, hown2, (below_alloc w _).trans hb2⟩
theorem bl_tests (d : UInt8) : (isBl d = true → ((d.toNat : Int) == 32) = true ∨ (((d.toNat : Int) == 32) = false ∧ ((d.toNat : Int) == 9) = true) ∨ (((d.toNat : Int) == 32) = false ∧ ((d.toNat : Int) == 9) = false ∧ ((d.toNat : Int) == 10) = true) ∨ (((d.toNat : Int) == 32) = false ∧ ((d.toNat : Int) == 9) = false ∧ ((d.toNat : Int) == 10) = false ∧ ((d.toNat : Int) == 13) = true)) ∧ (isBl d = false → ((d.toNat : Int) == 32) = false ∧ ((d.toNat : Int) == 9) = false ∧ ((d.toNat : Int) == 10) = false ∧ ((d.toNat : Int) == 13) = false) := by
  have h : ∀ k : UInt8, ((d.toNat : Int) == (k.toNat : Int)) = (d == k) := by
    intro k
    rw [Bool.eq_iff_iff, beq_iff_eq, beq_iff_eq]
    exact ⟨fun h => UInt8.toNat_inj.1 (by omega), fun h => by rw [h]⟩
  have h32 := h 32
  have h9 := h 9
  have h10 := h 10
  have h13 := h 13
  have e32 : ((32 : UInt8).toNat : Int) = 32 := rfl
  have e9 : ((9 : UInt8).toNat : Int) = 9 := rfl
  have e10 : ((10 : UInt8).toNat : Int) = 10 := rfl
  have e13 : ((13 : UInt8).toNat : Int) = 13 := rfl
  rw [e32] at h32
  rw [e9] at h9
  rw [e10] at h10
  rw [e13] at h13
  rw [h32, h9, h10, h13]
  unfold isBl
  cases (d == 32) <;> cases (d == 9) <;> cases (d == 10) <;> cases (d == 13) <;> simp
set_option maxRecDepth 100000 in
set_option maxHeartbeats 16000000 in
theorem words_walk (v : JV) (cs : List Value) (c cut : Int) (w : World) (h : RdJ w (fun _ => True) v cs) (hc : 0 ≤ c ∧ c < 256) (hcut : -9223372036854775808 ≤ cut ∧ cut ≤ 9223372036854775807) (ht : TabJ w.heap.size w) :
    Calls Tryd.prog 7 #[.agg cs.toArray, .int .u8 c, .int .i64 cut] w fun e w' => e = .returned (.bool true) ∧ Below w.heap.size w w' := by
  obtain ⟨al, ll, cl, am, lm, cm, rfl, _, _⟩ := h.open
  obtain ⟨d, rfl⟩ : ∃ d : UInt8, c = (d.toNat : Int) := ⟨UInt8.ofNat c.toNat, by rw [UInt8.toNat_ofNat']; omega⟩
  obtain ⟨Wa, hWa⟩ : ∃ Wa, Wa = w.alloc (.cells #[.int .i64 v.kind, .int .i64 v.n, str v.s, .slice al ll cl, .slice am lm cm] 25) := ⟨_, rfl⟩
  have hba : Below w.heap.size w Wa := by rw [hWa]; exact below_alloc _ _
  have HA : Hid (Below w.heap.size w Wa ∧ Wa.heap[w.heap.size]? = some (.cells #[.int .i64 v.kind, .int .i64 v.n, str v.s, .slice al ll cl, .slice am lm cm] 25 (0, 0))) := Lib.hid ⟨hba, by rw [hWa]; exact heap_alloc_new _ _⟩
  have C1 := Lib.hid (jfirst_any Wa (ht.up hba hba.size))
  have HT := Lib.hid ht
  have HV := Lib.hid h
  clear ht hba h hc
  cases hf : fewB v with
  | false =>
    have HF := Lib.hid hf
    clear hf hcut
    go_enter Tryd.func7, Tryd.ntmps7
    go_wp2_with fail
    rw [← hWa]
    refine C1.out.mono ?_
    rintro e w1 ⟨rfl, hb1⟩
    have HB1 : Hid (Below w.heap.size w w1 ∧ w1.heap[w.heap.size]? = some (.cells #[.int .i64 v.kind, .int .i64 v.n, str v.s, .slice al ll cl, .slice am lm cm] 25 (0, 0))) := Lib.hid ⟨HA.out.1.trans (hb1.mono HA.out.1.size), box_up HA.out.2 hb1⟩
    have CW := Lib.hid (few_any (HV.out.up HB1.out.1))
    rw [HF.out] at CW
    have q0 := box_cell HB1.out.2 0
    have q1 := box_cell HB1.out.2 1
    have q2 := box_cell HB1.out.2 2
    have q3 := box_cell HB1.out.2 3
    have q4 := box_cell HB1.out.2 4
    clear hb1 C1 hWa HA
    go_wp2_with fail
    refine CW.out.mono ?_
    rintro e w2 ⟨rfl, hb2⟩
    have HB2 : Hid (Below w.heap.size w w2 ∧ w2.heap[w.heap.size]? = some (.cells #[.int .i64 v.kind, .int .i64 v.n, str v.s, .slice al ll cl, .slice am lm cm] 25 (0, 0))) := Lib.hid ⟨HB1.out.1.trans (hb2.mono HB1.out.1.size), box_up HB1.out.2 hb2⟩
    clear hb2 CW HB1 q0 q1 q2 q3 q4
    have CF := Lib.hid (jfirst_any w2 (HT.out.up HB2.out.1 HB2.out.1.size))
    go_wp2_with fail
    refine CF.out.mono ?_
    rintro e w99 ⟨rfl, hb99⟩
    have HX := Lib.hid (HB2.out.1.trans (hb99.mono HB2.out.1.size))
    clear hb99 CF
    go_wp2_with fail
    go_ret
    exact ⟨rfl, HX.out⟩
  | true =>
    have HF := Lib.hid hf
    have hsz := few_sz hf
    clear hf
    by_cases hneg : cut < 0
    · have t1 : decide (cut < 0) = true := decide_eq_true hneg
      clear hneg hcut
      go_enter Tryd.func7, Tryd.ntmps7
      go_wp2_with fail
      rw [← hWa]
      refine C1.out.mono ?_
      rintro e w1 ⟨rfl, hb1⟩
      have HB1 : Hid (Below w.heap.size w w1 ∧ w1.heap[w.heap.size]? = some (.cells #[.int .i64 v.kind, .int .i64 v.n, str v.s, .slice al ll cl, .slice am lm cm] 25 (0, 0))) := Lib.hid ⟨HA.out.1.trans (hb1.mono HA.out.1.size), box_up HA.out.2 hb1⟩
      have CW := Lib.hid (few_any (HV.out.up HB1.out.1))
      rw [HF.out] at CW
      have q0 := box_cell HB1.out.2 0
      have q1 := box_cell HB1.out.2 1
      have q2 := box_cell HB1.out.2 2
      have q3 := box_cell HB1.out.2 3
      have q4 := box_cell HB1.out.2 4
      clear hb1 C1 hWa HA
      go_wp2_with fail
      refine CW.out.mono ?_
      rintro e w2 ⟨rfl, hb2⟩
      have HB2 : Hid (Below w.heap.size w w2 ∧ w2.heap[w.heap.size]? = some (.cells #[.int .i64 v.kind, .int .i64 v.n, str v.s, .slice al ll cl, .slice am lm cm] 25 (0, 0))) := Lib.hid ⟨HB1.out.1.trans (hb2.mono HB1.out.1.size), box_up HB1.out.2 hb2⟩
      clear hb2 CW HB1 q0 q1 q2 q3 q4
      have CF := Lib.hid (jfirst_any w2 (HT.out.up HB2.out.1 HB2.out.1.size))
      go_wp2_with fail
      refine CF.out.mono ?_
      rintro e w99 ⟨rfl, hb99⟩
      have HX := Lib.hid (HB2.out.1.trans (hb99.mono HB2.out.1.size))
      clear hb99 CF
      go_wp2_with fail
      go_ret
      exact ⟨rfl, HX.out⟩
    · obtain ⟨C, rfl⟩ : ∃ C : Nat, cut = (C : Int) := ⟨cut.toNat, by omega⟩
      have t1 : decide ((C : Int) < 0) = false := decide_eq_false hneg
      have hCb : C ≤ 9223372036854775807 := by omega
      clear hneg hcut
      cases hm : mayV v 64 with
      | false =>
        have HM := Lib.hid hm
        clear hm
        go_enter Tryd.func7, Tryd.ntmps7
        go_wp2_with fail
        rw [← hWa]
        refine C1.out.mono ?_
        rintro e w1 ⟨rfl, hb1⟩
        have HB1 : Hid (Below w.heap.size w w1 ∧ w1.heap[w.heap.size]? = some (.cells #[.int .i64 v.kind, .int .i64 v.n, str v.s, .slice al ll cl, .slice am lm cm] 25 (0, 0))) := Lib.hid ⟨HA.out.1.trans (hb1.mono HA.out.1.size), box_up HA.out.2 hb1⟩
        have CW := Lib.hid (few_any (HV.out.up HB1.out.1))
        rw [HF.out] at CW
        have q0 := box_cell HB1.out.2 0
        have q1 := box_cell HB1.out.2 1
        have q2 := box_cell HB1.out.2 2
        have q3 := box_cell HB1.out.2 3
        have q4 := box_cell HB1.out.2 4
        clear hb1 C1 hWa HA
        go_wp2_with fail
        refine CW.out.mono ?_
        rintro e w2 ⟨rfl, hb2⟩
        have HB2 : Hid (Below w.heap.size w w2 ∧ w2.heap[w.heap.size]? = some (.cells #[.int .i64 v.kind, .int .i64 v.n, str v.s, .slice al ll cl, .slice am lm cm] 25 (0, 0))) := Lib.hid ⟨HB1.out.1.trans (hb2.mono HB1.out.1.size), box_up HB1.out.2 hb2⟩
        clear hb2 CW HB1 q0 q1 q2 q3 q4
        have q0 := box_cell HB2.out.2 0
        have q1 := box_cell HB2.out.2 1
        have q2 := box_cell HB2.out.2 2
        have q3 := box_cell HB2.out.2 3
        have q4 := box_cell HB2.out.2 4
        have CP := Lib.hid (print_no (HV.out.up HB2.out.1) HM.out)
        go_wp2_with fail
        refine CP.out.mono ?_
        rintro e w3 ⟨rfl, hb3⟩
        have HB3 := Lib.hid (HB2.out.1.trans (hb3.mono HB2.out.1.size))
        clear hb3 CP HB2 q0 q1 q2 q3 q4
        have CF := Lib.hid (jfirst_any w3 (HT.out.up HB3.out HB3.out.size))
        go_wp2_with fail
        refine CF.out.mono ?_
        rintro e w99 ⟨rfl, hb99⟩
        have HX := Lib.hid (HB3.out.trans (hb99.mono HB3.out.size))
        clear hb99 CF
        go_wp2_with fail
        go_ret
        exact ⟨rfl, HX.out⟩
      | true =>
        have hpl := prV_len v 64 hm
        have HM := Lib.hid hm
        have hpos : 0 < (prV v).length := by
          obtain ⟨c0, r0, e0, _⟩ := prV_head hm
          rw [e0]; simp
        obtain ⟨B, hBv⟩ : ∃ B, B = prV v := ⟨_, rfl⟩
        rw [← hBv] at hpl hpos
        have HBv := Lib.hid hBv
        have PY : Hid (∀ W : World, Below w.heap.size w W → Calls Tryd.prog 10 #[.agg #[.int .i64 v.kind, .int .i64 v.n, str v.s, .slice al ll cl, .slice am lm cm]] W fun e w' => ∃ v', e = .returned (.tuple #[v', .int .i64 0]) ∧ Own 5 w' W.heap.size v' B ∧ Below W.heap.size W w') := Lib.hid (fun W hb => by
          rw [hBv]
          exact print_yes (HV.out.up hb) hm (by rw [← hBv]; omega) (HT.out.up hb hb.size))
        have tl2 : decide ((B.length : Int) < 1) = false := decide_eq_false (by omega)
        clear hm hBv
        by_cases hbig : 15000 < B.length
        · have tl1 : decide ((15000 : Int) < (B.length : Int)) = true := decide_eq_true (by omega)
          clear hbig
          go_enter Tryd.func7, Tryd.ntmps7
          go_wp2_with fail
          rw [← hWa]
          refine C1.out.mono ?_
          rintro e w1 ⟨rfl, hb1⟩
          have HB1 : Hid (Below w.heap.size w w1 ∧ w1.heap[w.heap.size]? = some (.cells #[.int .i64 v.kind, .int .i64 v.n, str v.s, .slice al ll cl, .slice am lm cm] 25 (0, 0))) := Lib.hid ⟨HA.out.1.trans (hb1.mono HA.out.1.size), box_up HA.out.2 hb1⟩
          have CW := Lib.hid (few_any (HV.out.up HB1.out.1))
          rw [HF.out] at CW
          have q0 := box_cell HB1.out.2 0
          have q1 := box_cell HB1.out.2 1
          have q2 := box_cell HB1.out.2 2
          have q3 := box_cell HB1.out.2 3
          have q4 := box_cell HB1.out.2 4
          clear hb1 C1 hWa HA
          go_wp2_with fail
          refine CW.out.mono ?_
          rintro e w2 ⟨rfl, hb2⟩
          have HB2 : Hid (Below w.heap.size w w2 ∧ w2.heap[w.heap.size]? = some (.cells #[.int .i64 v.kind, .int .i64 v.n, str v.s, .slice al ll cl, .slice am lm cm] 25 (0, 0))) := Lib.hid ⟨HB1.out.1.trans (hb2.mono HB1.out.1.size), box_up HB1.out.2 hb2⟩
          clear hb2 CW HB1 q0 q1 q2 q3 q4
          have q0 := box_cell HB2.out.2 0
          have q1 := box_cell HB2.out.2 1
          have q2 := box_cell HB2.out.2 2
          have q3 := box_cell HB2.out.2 3
          have q4 := box_cell HB2.out.2 4
          have CP := Lib.hid (PY.out _ HB2.out.1)
          go_wp2_with fail
          refine CP.out.mono ?_
          rintro e w3 ⟨v3, rfl, hown3, hb3⟩
          obtain ⟨g, cp, rfl, _, _⟩ := World.ownsRow.form hown3 hpos
          have hcap : B.length ≤ cp ∧ cp ≤ 9223372036854775807 := by
            obtain ⟨a9, c9, e9, h91, h92, _⟩ := hown3.rd
            cases e9
            unfold maxLen at h92
            exact ⟨h91, h92⟩
          have HO3 : Hid (Below w.heap.size w w3 ∧ w3.heap[w.heap.size]? = some (.cells #[.int .i64 v.kind, .int .i64 v.n, str v.s, .slice al ll cl, .slice am lm cm] 25 (0, 0)) ∧ Own 5 w3 w2.heap.size (.slice (some ⟨g, 0, none⟩) B.length cp) B ∧ w2.heap.size ≤ w3.heap.size) := Lib.hid ⟨HB2.out.1.trans (hb3.mono HB2.out.1.size), box_up HB2.out.2 hb3, hown3, hb3.size⟩
          clear hb3 CP q0 q1 q2 q3 q4 hown3
          have p0 := box_cell HO3.out.2.1 0
          have CF := Lib.hid (jfirst_any w3 (HT.out.up HO3.out.1 HO3.out.1.size))
          go_wp2_with fail
          refine CF.out.mono ?_
          rintro e w99 ⟨rfl, hb99⟩
          have HX := Lib.hid (HO3.out.1.trans (hb99.mono HO3.out.1.size))
          clear hb99 CF
          go_wp2_with fail
          go_ret
          exact ⟨rfl, HX.out⟩
        · have tl1 : decide ((15000 : Int) < (B.length : Int)) = false := decide_eq_false (by omega)
          have hbl : B.length ≤ 15000 := by omega
          by_cases h4 : v.kind = 4
          · have tk : (v.kind == 4) = true := by rw [beq_iff_eq]; exact h4
            clear h4 hbig
            go_enter Tryd.func7, Tryd.ntmps7
            go_wp2_with fail
            rw [← hWa]
            refine C1.out.mono ?_
            rintro e w1 ⟨rfl, hb1⟩
            have HB1 : Hid (Below w.heap.size w w1 ∧ w1.heap[w.heap.size]? = some (.cells #[.int .i64 v.kind, .int .i64 v.n, str v.s, .slice al ll cl, .slice am lm cm] 25 (0, 0))) := Lib.hid ⟨HA.out.1.trans (hb1.mono HA.out.1.size), box_up HA.out.2 hb1⟩
            have CW := Lib.hid (few_any (HV.out.up HB1.out.1))
            rw [HF.out] at CW
            have q0 := box_cell HB1.out.2 0
            have q1 := box_cell HB1.out.2 1
            have q2 := box_cell HB1.out.2 2
            have q3 := box_cell HB1.out.2 3
            have q4 := box_cell HB1.out.2 4
            clear hb1 C1 hWa HA
            go_wp2_with fail
            refine CW.out.mono ?_
            rintro e w2 ⟨rfl, hb2⟩
            have HB2 : Hid (Below w.heap.size w w2 ∧ w2.heap[w.heap.size]? = some (.cells #[.int .i64 v.kind, .int .i64 v.n, str v.s, .slice al ll cl, .slice am lm cm] 25 (0, 0))) := Lib.hid ⟨HB1.out.1.trans (hb2.mono HB1.out.1.size), box_up HB1.out.2 hb2⟩
            clear hb2 CW HB1 q0 q1 q2 q3 q4
            have q0 := box_cell HB2.out.2 0
            have q1 := box_cell HB2.out.2 1
            have q2 := box_cell HB2.out.2 2
            have q3 := box_cell HB2.out.2 3
            have q4 := box_cell HB2.out.2 4
            have CP := Lib.hid (PY.out _ HB2.out.1)
            go_wp2_with fail
            refine CP.out.mono ?_
            rintro e w3 ⟨v3, rfl, hown3, hb3⟩
            obtain ⟨g, cp, rfl, _, _⟩ := World.ownsRow.form hown3 hpos
            have hcap : B.length ≤ cp ∧ cp ≤ 9223372036854775807 := by
              obtain ⟨a9, c9, e9, h91, h92, _⟩ := hown3.rd
              cases e9
              unfold maxLen at h92
              exact ⟨h91, h92⟩
            have HO3 : Hid (Below w.heap.size w w3 ∧ w3.heap[w.heap.size]? = some (.cells #[.int .i64 v.kind, .int .i64 v.n, str v.s, .slice al ll cl, .slice am lm cm] 25 (0, 0)) ∧ Own 5 w3 w2.heap.size (.slice (some ⟨g, 0, none⟩) B.length cp) B ∧ w2.heap.size ≤ w3.heap.size) := Lib.hid ⟨HB2.out.1.trans (hb3.mono HB2.out.1.size), box_up HB2.out.2 hb3, hown3, hb3.size⟩
            clear hb3 CP q0 q1 q2 q3 q4 hown3
            have p0 := box_cell HO3.out.2.1 0
            have CF := Lib.hid (jfirst_any w3 (HT.out.up HO3.out.1 HO3.out.1.size))
            go_wp2_with fail
            refine CF.out.mono ?_
            rintro e w99 ⟨rfl, hb99⟩
            have HX := Lib.hid (HO3.out.1.trans (hb99.mono HO3.out.1.size))
            clear hb99 CF
            go_wp2_with fail
            go_ret
            exact ⟨rfl, HX.out⟩
          · have tk : (v.kind == 4) = false := by rw [beq_eq_false_iff_ne]; exact h4
            have HK4 := Lib.hid h4
            have HKr : Hid (1 ≤ v.kind ∧ v.kind ≤ 7) := Lib.hid (by
              have := HM.out
              rw [mayV_mk] at this
              simp only [Bool.and_eq_true, decide_eq_true_eq] at this
              exact ⟨this.1.1.1.1.2, this.1.1.1.2⟩)
            clear h4 hbig
            go_enter Tryd.func7, Tryd.ntmps7
            go_wp2_with fail
            rw [← hWa]
            refine C1.out.mono ?_
            rintro e w1 ⟨rfl, hb1⟩
            have HB1 : Hid (Below w.heap.size w w1 ∧ w1.heap[w.heap.size]? = some (.cells #[.int .i64 v.kind, .int .i64 v.n, str v.s, .slice al ll cl, .slice am lm cm] 25 (0, 0))) := Lib.hid ⟨HA.out.1.trans (hb1.mono HA.out.1.size), box_up HA.out.2 hb1⟩
            have CW := Lib.hid (few_any (HV.out.up HB1.out.1))
            rw [HF.out] at CW
            have q0 := box_cell HB1.out.2 0
            have q1 := box_cell HB1.out.2 1
            have q2 := box_cell HB1.out.2 2
            have q3 := box_cell HB1.out.2 3
            have q4 := box_cell HB1.out.2 4
            clear hb1 C1 hWa HA
            go_wp2_with fail
            refine CW.out.mono ?_
            rintro e w2 ⟨rfl, hb2⟩
            have HB2 : Hid (Below w.heap.size w w2 ∧ w2.heap[w.heap.size]? = some (.cells #[.int .i64 v.kind, .int .i64 v.n, str v.s, .slice al ll cl, .slice am lm cm] 25 (0, 0))) := Lib.hid ⟨HB1.out.1.trans (hb2.mono HB1.out.1.size), box_up HB1.out.2 hb2⟩
            clear hb2 CW HB1 q0 q1 q2 q3 q4
            have q0 := box_cell HB2.out.2 0
            have q1 := box_cell HB2.out.2 1
            have q2 := box_cell HB2.out.2 2
            have q3 := box_cell HB2.out.2 3
            have q4 := box_cell HB2.out.2 4
            have CP := Lib.hid (PY.out _ HB2.out.1)
            go_wp2_with fail
            refine CP.out.mono ?_
            rintro e w3 ⟨v3, rfl, hown3, hb3⟩
            obtain ⟨g, cp, rfl, _, _⟩ := World.ownsRow.form hown3 hpos
            have hcap : B.length ≤ cp ∧ cp ≤ 9223372036854775807 := by
              obtain ⟨a9, c9, e9, h91, h92, _⟩ := hown3.rd
              cases e9
              unfold maxLen at h92
              exact ⟨h91, h92⟩
            have HO3 : Hid (Below w.heap.size w w3 ∧ w3.heap[w.heap.size]? = some (.cells #[.int .i64 v.kind, .int .i64 v.n, str v.s, .slice al ll cl, .slice am lm cm] 25 (0, 0)) ∧ Own 5 w3 w2.heap.size (.slice (some ⟨g, 0, none⟩) B.length cp) B ∧ w2.heap.size ≤ w3.heap.size) := Lib.hid ⟨HB2.out.1.trans (hb3.mono HB2.out.1.size), box_up HB2.out.2 hb3, hown3, hb3.size⟩
            clear hb3 CP q0 q1 q2 q3 q4 hown3
            have p0 := box_cell HO3.out.2.1 0
            have HBD : Hid ((isBl d = true → ((d.toNat : Int) == 32) = true ∨ (((d.toNat : Int) == 32) = false ∧ ((d.toNat : Int) == 9) = true) ∨ (((d.toNat : Int) == 32) = false ∧ ((d.toNat : Int) == 9) = false ∧ ((d.toNat : Int) == 10) = true) ∨ (((d.toNat : Int) == 32) = false ∧ ((d.toNat : Int) == 9) = false ∧ ((d.toNat : Int) == 10) = false ∧ ((d.toNat : Int) == 13) = true)) ∧ (isBl d = false → ((d.toNat : Int) == 32) = false ∧ ((d.toNat : Int) == 9) = false ∧ ((d.toNat : Int) == 10) = false ∧ ((d.toNat : Int) == 13) = false)) := Lib.hid (bl_tests d)
            have HC5 : Hid (Below w.heap.size w w3 ∧ w3.heap[w.heap.size]? = some (.cells #[.int .i64 v.kind, .int .i64 v.n, str v.s, .slice al ll cl, .slice am lm cm] 25 (0, 0)) ∧ Own 5 w3 w2.heap.size (.slice (some ⟨g, 0, none⟩) B.length cp) B ∧ w2.heap.size ≤ w3.heap.size) := HO3
            obtain ⟨K, hK⟩ : ∃ K, K = C % B.length := ⟨_, rfl⟩
            have hKL : K < B.length := by rw [hK]; exact Nat.mod_lt _ (by omega)
            have m1 : (C : Int) % (B.length : Int) = (K : Int) := by rw [hK]; omega
            have m2 : Int.tmod (C : Int) (B.length : Int) = (K : Int) := by rw [Int.tmod_eq_emod_of_nonneg (by omega)]; exact m1
            have k1 : (K : Int) ≤ (cp : Int) := by omega
            have k2 : (0 : Int) ≤ (K : Int) := by omega
            have k3 : (0 : Int) < (B.length : Int) := by omega
            have k4 : ((B.length : Int) == 0) = false := by rw [beq_eq_false_iff_ne]; omega
            have hrd := HC5.out.2.2.1.rd
            have CT := parse_any (hrd.take K (by omega)) (by simp; omega)
            obtain ⟨e1, he1⟩ := par_cut HM.out HK4.out (k := K) (by rw [← HBv.out]; exact hKL)
            have HE1 : Hid (v.kind ≤ 3 → e1 = 2) := Lib.hid (fun h => by
              have := word_cut HM.out h (k := K) (by rw [← HBv.out]; exact hKL)
              rw [he1] at this
              cases this
              rfl)
            rw [← HBv.out] at he1
            rw [he1] at CT
            have CT := Lib.hid CT
            clear hK he1 hrd
            go_wp2_with fail
            refine CT.out.mono ?_
            rintro e w4 ⟨rfl, hz1, hb4⟩
            obtain ⟨w5, hw5⟩ : ∃ w5, w5 = w4.alloc (.cells #[.int .i64 0, .int .i64 0, str [], .slice none 0 0, .slice none 0 0] 25) := ⟨_, rfl⟩
            have hs5 : Below w3.heap.size w3 w5 := by rw [hw5]; exact hb4.trans ((below_alloc _ _).mono hb4.size)
            have HB5 : Hid (Below w.heap.size w w5 ∧ w5.heap[w.heap.size]? = some (.cells #[.int .i64 v.kind, .int .i64 v.n, str v.s, .slice al ll cl, .slice am lm cm] 25 (0, 0)) ∧ Rd w5 (.slice (some ⟨g, 0, none⟩) B.length cp) B) := Lib.hid ⟨HC5.out.1.trans (hs5.mono HC5.out.1.size), box_up HC5.out.2.1 hs5, HC5.out.2.2.1.rd.below hs5 (Nat.le_refl _)⟩
            have HZ1 := Lib.hid hz1
            have HB5z : Hid (w.heap.size < w5.heap.size) := Lib.hid (Nat.lt_of_lt_of_le (Array.getElem?_eq_some_iff.1 HC5.out.2.1).1 hs5.size)
            clear hb4 hs5 CT HC5 HO3 m1 m2 k1 k2 k3 k4
            have CC := Lib.hid (cpb_any _ B w5 HB5.out.2.2 (by omega))
            go_upto_region 10 with fail
            rw [← hw5]
            clear hw5
            go_wp2_with fail
            refine CC.out.mono ?_
            rintro e w6 ⟨v6, rfl, hown6, hb6⟩
            obtain ⟨a6, n6, c6, rfl⟩ := hown6.form
            have HB6 : Hid (Below w.heap.size w w6 ∧ w6.heap[w.heap.size]? = some (.cells #[.int .i64 v.kind, .int .i64 v.n, str v.s, .slice al ll cl, .slice am lm cm] 25 (0, 0)) ∧ Own 5 w6 w5.heap.size (.slice a6 n6 c6) B ∧ w5.heap.size ≤ w6.heap.size) := Lib.hid ⟨HB5.out.1.trans (hb6.mono HB5.out.1.size), box_up HB5.out.2.1 hb6, hown6, hb6.size⟩
            clear hown6 hb6 CC HB5
            go_wp2_with (at_builtin; refine hold ?_)
            intro _
            refine bt.append1 rfl _ _ rfl w5.heap.size _ B d _ rfl HB6.out.2.2.1 rfl rfl (by omega) HB6.out.2.2.2 ?_
            intro v7 w7 hown7 hg7
            obtain ⟨a7, n7, c7, rfl⟩ := hown7.form
            have hb7 : Below w5.heap.size w6 w7 := HB6.out.2.2.1.grows hg7 (Nat.le_refl _) HB6.out.2.2.2
            have HB7 : Hid (Below w.heap.size w w7 ∧ w7.heap[w.heap.size]? = some (.cells #[.int .i64 v.kind, .int .i64 v.n, str v.s, .slice al ll cl, .slice am lm cm] 25 (0, 0))) := Lib.hid ⟨HB6.out.1.trans (hb7.mono (by have := HB5z.out; omega)), by
              rw [hg7.block w.heap.size (by have := (Array.getElem?_eq_some_iff.1 HB6.out.2.1).1; exact this) (fun e => by have := HB6.out.2.2.1.base _ e.symm; have := HB5z.out; omega)]; exact HB6.out.2.1⟩
            have CM := parse_any hown7.rd (by simp; omega)
            rw [HBv.out, par_more HM.out HK4.out (by rw [← HBv.out]; omega) d] at CM
            clear hown7 hg7 hb7 HB6
            cases hbl2 : isBl d with
            | true =>
              rw [hbl2, if_pos rfl] at CM
              have CM := Lib.hid CM
              have key := HBD.out.1 hbl2
              clear hbl2
              go_wp2_with fail
              refine CM.out.mono ?_
              rintro e w8 ⟨cs8, rfl, hv8, hb8⟩
              obtain ⟨a18, l18, c18, a28, l28, c28, rfl, _, _⟩ := hv8.open
              go_upto_region 11 with fail
              refine wp_any_world (fun X => Below w.heap.size w X ∧ X.heap[w.heap.size]? = some (.cells #[.int .i64 v.kind, .int .i64 v.n, str v.s, .slice al ll cl, .slice am lm cm] 25 (0, 0))) ⟨HB7.out.1.trans ((hb8.trans ((below_alloc _ _).mono hb8.size)).mono HB7.out.1.size), box_up HB7.out.2 (hb8.trans ((below_alloc _ _).mono hb8.size))⟩ ?_
              rintro w9 ⟨hw9, hx9⟩
              have HB9 := Lib.hid (And.intro hw9 hx9)
              clear hw9 hx9 hb8 hv8 CM HB7
              go_cut [14] from 68 to 81 (fun v14 wc => v14 = .bool true ∧ w9 = wc)
              case first =>
                rcases key with ⟨k1⟩ | ⟨k1, k2⟩ | ⟨k1, k2, k3⟩ | ⟨k1, k2, k3, k4⟩
                all_goals
                  go_wp2_with fail
                  go_meet
                  case rel => exact ⟨rfl, rfl⟩
              case rest =>
              obtain ⟨rfl, rfl⟩ := hcut
              clear key
              have CF := Lib.hid (jfirst_any w9 (HT.out.up HB9.out.1 HB9.out.1.size))
              go_wp2_with fail
              refine CF.out.mono ?_
              rintro e w10 ⟨rfl, hb10⟩
              have HX := Lib.hid (HB9.out.1.trans (hb10.mono HB9.out.1.size))
              have p9 := box_cell (box_up HB9.out.2 hb10) 0
              have ez : ((e1 : Int) != 0) = true := by rw [bne_iff_ne]; have := HZ1.out; omega
              obtain ⟨hk1, hk7⟩ := HKr.out
              have h4 := HK4.out
              clear hb10 CF HB9
              by_cases h5 : 5 < v.kind
              · have y1 : decide (5 < v.kind) = true := decide_eq_true h5
                clear hk1 hk7 h4 h5
                go_wp2_with fail
                go_ret
                exact ⟨rfl, HX.out⟩
              · have y1 : decide (5 < v.kind) = false := decide_eq_false h5
                by_cases h3 : v.kind ≤ 3
                · have y2 : decide (v.kind ≤ 3) = true := decide_eq_true h3
                  have HEE := HE1.out h3
                  have ez2 : ((e1 : Int) == 2) = true := by rw [HEE]; rfl
                  clear hk1 hk7 h4 h5 h3 HEE
                  go_wp2_with fail
                  go_ret
                  exact ⟨rfl, HX.out⟩
                · have y2 : decide (v.kind ≤ 3) = false := decide_eq_false h3
                  have y3 : (v.kind == 5) = true := by rw [beq_iff_eq]; omega
                  clear hk1 hk7 h4 h5 h3
                  go_wp2_with fail
                  go_ret
                  exact ⟨rfl, HX.out⟩
            | false =>
              rw [hbl2, if_neg (by simp)] at CM
              have CM := Lib.hid CM
              obtain ⟨k1, k2, k3, k4⟩ := HBD.out.2 hbl2
              clear hbl2
              go_wp2_with fail
              refine CM.out.mono ?_
              rintro e w8 ⟨rfl, _, hb8⟩
              go_upto_region 11 with fail
              refine wp_any_world (fun X => Below w.heap.size w X ∧ X.heap[w.heap.size]? = some (.cells #[.int .i64 v.kind, .int .i64 v.n, str v.s, .slice al ll cl, .slice am lm cm] 25 (0, 0))) ⟨HB7.out.1.trans ((hb8.trans ((below_alloc _ _).mono hb8.size)).mono HB7.out.1.size), box_up HB7.out.2 (hb8.trans ((below_alloc _ _).mono hb8.size))⟩ ?_
              rintro w9 ⟨hw9, hx9⟩
              have HB9 := Lib.hid (And.intro hw9 hx9)
              clear hw9 hx9 hb8 CM HB7
              have CF := Lib.hid (jfirst_any w9 (HT.out.up HB9.out.1 HB9.out.1.size))
              go_wp2_with fail
              refine CF.out.mono ?_
              rintro e w10 ⟨rfl, hb10⟩
              have HX := Lib.hid (HB9.out.1.trans (hb10.mono HB9.out.1.size))
              have p9 := box_cell (box_up HB9.out.2 hb10) 0
              have ez : ((e1 : Int) != 0) = true := by rw [bne_iff_ne]; have := HZ1.out; omega
              obtain ⟨hk1, hk7⟩ := HKr.out
              have h4 := HK4.out
              clear hb10 CF HB9
              by_cases h5 : 5 < v.kind
              · have y1 : decide (5 < v.kind) = true := decide_eq_true h5
                clear hk1 hk7 h4 h5
                go_wp2_with fail
                go_ret
                exact ⟨rfl, HX.out⟩
              · have y1 : decide (5 < v.kind) = false := decide_eq_false h5
                by_cases h3 : v.kind ≤ 3
                · have y2 : decide (v.kind ≤ 3) = true := decide_eq_true h3
                  have HEE := HE1.out h3
                  have ez2 : ((e1 : Int) == 2) = true := by rw [HEE]; rfl
                  clear hk1 hk7 h4 h5 h3 HEE
                  go_wp2_with fail
                  go_ret
                  exact ⟨rfl, HX.out⟩
                · have y2 : decide (v.kind ≤ 3) = false := decide_eq_false h3
                  have y3 : (v.kind == 5) = true := by rw [beq_iff_eq]; omega
                  clear hk1 hk7 h4 h5 h3
                  go_wp2_with fail
                  go_ret
                  exact ⟨rfl, HX.out⟩
end Go.Proofs.YtidlhajibjnkeaaDoor
