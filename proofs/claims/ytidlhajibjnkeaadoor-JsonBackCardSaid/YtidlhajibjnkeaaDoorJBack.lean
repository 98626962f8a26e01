/- JsonBack: the walk. -/
import Derived.Test.YtidlhajibjnkeaaDoorJFirst
import Derived.Test.YtidlhajibjnkeaaDoorJCut
import Derived.Test.YtidlhajibjnkeaaDoorJFew
import Derived.Test.YtidlhajibjnkeaaDoorJSame
import Derived.Laws.IdiomStrings
import Derived.Deep.CutRange
namespace Go.Proofs.YtidlhajibjnkeaaDoor
open Go.RowKit

theorem szL_app : ∀ (l : List JV) (v : JV), szL (l ++ [v]) = szL l + szV v
  | [], v => by simp [szL]
  | x :: t, v => by rw [List.cons_append, szL, szL, szL_app t v]; omega
theorem szM_app : ∀ (l : List MemT) (m : MemT), szM (l ++ [m]) = szM l + (m.1.length + szV m.2)
  | [], (a, v) => by simp [szM]
  | (b, x) :: t, m => by rw [List.cons_append, szM, szM, szM_app t m]; omega
theorem szM_perm {l l' : List MemT} (h : l.Perm l') : szM l = szM l' := by
  induction h with
  | nil => rfl
  | cons x _ ih => obtain ⟨a, v⟩ := x; rw [szM, szM, ih]
  | swap x y t => obtain ⟨a, v⟩ := x; obtain ⟨b, u⟩ := y; rw [szM, szM, szM, szM]; omega
  | trans _ _ h1 h2 => exact h1.trans h2
/-- What is read is bounded by what is passed. -/
def BdV (f : Nat → JR JV) : Prop := ∀ p v q, f p = .ok v q → szV v + 16000 * p ≤ 16000 * q
theorem its_sz {f : Nat → JR JV} {t : List UInt8} (hf : BdV f) : ∀ (n p : Nat) (acc l : List JV) (q : Nat), itsP f t n p acc = .ok l q → szL l + 16000 * p ≤ szL acc + 16000 * q
  | 0, p, acc, l, q, h => by simp [itsP] at h
  | n + 1, p, acc, l, q, h => by
    rw [itsP] at h
    split at h
    · cases h
    · next v q1 h1 =>
      have g1 := hf _ _ _ h1
      split at h
      · cases h
      · next r h2 =>
        have := behP_lt h2
        cases h
        rw [szL_app]; omega
      · next r h2 =>
        have := behP_lt h2
        have g2 := its_sz hf n r _ l q h
        rw [szL_app] at g2; omega
theorem mem_sz {f : Nat → JR JV} {t : List UInt8} (hf : BdV f) {ns : List (List UInt8)} {p q : Nat} {m : MemT} (h : memP f t ns p = .ok m q) : m.1.length + szV m.2 + 16000 * p ≤ 16000 * q := by
  unfold memP at h
  split at h
  · cases h
  · split at h
    · cases h
    · next name q0 hx =>
      have g1 := txtP_ge hx
      have g2 : name.length ≤ 8000 := by
        have := (txtP_le hx).2
        unfold txF at this
        simp only [Bool.and_eq_true, decide_eq_true_eq] at this
        exact this.1
      have g3 := skp_ge t p
      have g4 := skp_ge t q0
      split at h
      · cases h
      · split at h
        · cases h
        · split at h
          · cases h
          · split at h
            · cases h
            · next hv =>
              cases h
              have := hf _ _ _ hv
              dsimp only
              omega
theorem mes_sz {f : Nat → JR JV} {t : List UInt8} (hf : BdV f) : ∀ (n p : Nat) (acc l : List MemT) (q : Nat), mesP f t n p acc = .ok l q → szM l + 16000 * p ≤ szM acc + 16000 * q
  | 0, p, acc, l, q, h => by simp [mesP] at h
  | n + 1, p, acc, l, q, h => by
    rw [mesP] at h
    split at h
    · cases h
    · next m q1 h1 =>
      have g1 := mem_sz hf h1
      split at h
      · cases h
      · next r h2 =>
        have := behP_lt h2
        cases h
        rw [szM_app]; omega
      · next r h2 =>
        have := behP_lt h2
        have g2 := mes_sz hf n r _ l q h
        rw [szM_app] at g2; omega
theorem valP_sz (t : List UInt8) : ∀ (d : Nat), BdV (valP t d)
  | 0, p, v, q, h => by
    rw [valP] at h
    split at h
    · cases h
    · split at h <;> cases h
  | d + 1, p, v, q, h => by
    have ih := valP_sz t d
    have hs := skp_ge t p
    have hg : skp t p < q := by
      rw [valP] at h
      split at h
      · cases h
      · exact casP_ge (fun l q h => lstP_ge (valP_ge t d) h) (fun l q h => objP_ge (valP_ge t d) h) h
    rw [valP] at h
    split at h
    · cases h
    · next c hx =>
      unfold casP at h
      split at h
      · cases hl : lstP (valP t d) t (skp t p) with
        | err z => rw [hl] at h; cases h
        | ok l r =>
          rw [hl] at h
          cases h
          unfold lstP at hl
          rw [szV, szM]
          split at hl
          · cases hl
          · next h1 => have := entP_ge h1; cases hl; simp [szL]; omega
          · next h1 =>
            have := entP_ge h1
            have := its_sz ih _ _ _ _ _ hl
            simp only [szL, List.length_nil] at this ⊢
            omega
      · split at h
        · cases hl : objP (valP t d) t (skp t p) with
          | err z => rw [hl] at h; cases h
          | ok l r =>
            rw [hl] at h
            cases h
            unfold objP at hl
            rw [szV, szL]
            split at hl
            · cases hl
            · next h1 => have := entP_ge h1; cases hl; simp [szM]; omega
            · next h1 =>
              have := entP_ge h1
              split at hl
              · cases hl
              · next h2 =>
                have := mes_sz ih _ _ _ _ _ h2
                cases hl
                rw [show szM (srtM _) = szM _ from szM_perm (List.mergeSort_perm _ _)]
                simp only [szM, List.length_nil] at this ⊢
                omega
        · split at h
          · cases hl : txtP t (skp t p) with
            | err z => rw [hl] at h; cases h
            | ok l r =>
              rw [hl] at h
              cases h
              have g2 : l.length ≤ 8000 := by
                have := (txtP_le hl).2
                unfold txF at this
                simp only [Bool.and_eq_true, decide_eq_true_eq] at this
                exact this.1
              simp only [szV, szL, szM]
              omega
          · split at h
            · cases hl : numP t (skp t p) with
              | err z => rw [hl] at h; cases h
              | ok l r =>
                rw [hl] at h
                cases h
                simp only [szV, szL, szM, List.length_nil]
                omega
            · split at h
              · split at h
                · cases h; simp only [szV, szL, szM, List.length_nil]; omega
                · cases h
              · split at h
                · split at h
                  · cases h; simp only [szV, szL, szM, List.length_nil]; omega
                  · cases h
                · split at h
                  · split at h
                    · cases h; simp only [szV, szL, szM, List.length_nil]; omega
                    · cases h
                  · cases h
theorem valP_le (t : List UInt8) {d p : Nat} {v : JV} {q : Nat} (h : valP t d p = .ok v q) : q ≤ t.length := by
  have ihx := valP_app t [] d
  rw [List.append_nil] at ihx
  exact (ihx _ _ _ h).1
/-- What is read is short when it is printed. -/
theorem parP_len {t : List UInt8} {v : JV} {q : Nat} (h : parP t = .ok v q) : (prV v).length ≤ 70368744177664 := by
  have hm := parP_may h
  have hp := prV_len v 64 hm
  unfold parP at h
  split at h
  · cases h
  · split at h
    · cases h
    · next hv =>
      split at h
      · cases h
      · cases h
        have h1 := valP_sz t 64 _ _ _ hv
        have h2 := valP_le t hv
        omega


/-- '[]byte(s)'. -/
theorem bytes_run (l : List UInt8) (W : World) (hl : l.length ≤ 1000000) : ∃ cap w', (convert 9 26 (str l)).run Tryd.prog W = .ok (.slice (some ⟨W.heap.size, 0, none⟩) l.length cap) w' ∧ Rd w' (.slice (some ⟨W.heap.size, 0, none⟩) l.length cap) l ∧ Below W.heap.size W w' := by
  have := run_bytes_of_string (P := Tryd.prog) W 9 26 5 ⟨l.toArray⟩ Tryd.underlying9 Tryd.underlying26 Tryd.underlying5
  have hs : (ByteArray.mk l.toArray).size = l.length := by simp [ByteArray.size]
  rw [hs] at this
  refine ⟨_, _, this, ?_, ?_⟩
  · refine ⟨_, _, rfl, grownCap_ge _ _ _ _, grownCap_le_maxLen _ _ _ _ (by simp only [maxLen]; omega), (fun e => by cases e), fun _ => ⟨W.heap.size, 0, rfl, fun i hi => ?_⟩⟩
    rw [Nat.zero_add, cell_of_row _ W.heap.size i _ 5 _ (heap_alloc_new W.drew _)]
    unfold bytesRow
    rw [Array.getElem?_append_left (by simpa using hi)]
    simp [bv, hi]
  · exact Below.alloc (Below.drewsN (Below.refl _ _) 1) (Nat.le_refl _) _

attribute [local go_sem] str_cat
set_option maxRecDepth 100000 in
set_option maxHeartbeats 16000000 in
theorem back_walk (v : JV) (cs : List Value) (vb : Value) (lb : List UInt8) (cut : Int) (w : World) (h : RdJ w (fun _ => True) v cs) (hb : Rd w vb lb) (hcut0 : -9223372036854775808 ≤ cut ∧ cut ≤ 9223372036854775807) (ht : TabJ w.heap.size w) :
    Calls Tryd.prog 3 #[.agg cs.toArray, vb, .int .i64 cut] w fun e w' => e = .returned (.bool true) ∧ Below w.heap.size w w' := by
  obtain ⟨al, ll, cl, am, lm, cm, rfl, _, _⟩ := h.open
  obtain ⟨ab, capb, rfl, _⟩ := id hb
  have HRB := Lib.hid hb
  obtain ⟨Wa, hWa⟩ : ∃ Wa, Wa = w.alloc (.cells #[.int .i64 v.kind, .int .i64 v.n, str v.s, .slice al ll cl, .slice am lm cm] 25) := ⟨_, rfl⟩
  have hba : Below w.heap.size w Wa := by rw [hWa]; exact below_alloc _ _
  have HA : Hid (Below w.heap.size w Wa ∧ Wa.heap[w.heap.size]? = some (.cells #[.int .i64 v.kind, .int .i64 v.n, str v.s, .slice al ll cl, .slice am lm cm] 25 (0, 0))) := Lib.hid ⟨hba, by rw [hWa]; exact heap_alloc_new _ _⟩
  have C1 := Lib.hid (jfirst_any Wa (ht.up hba hba.size))
  have HT := Lib.hid ht
  have HV := Lib.hid h
  clear ht hba h hb
  cases hf : fewB v with
  | false =>
    have HF := Lib.hid hf
    clear hf hcut0
    go_enter Tryd.func3, Tryd.ntmps3
    go_wp2_with fail
    rw [← hWa]
    refine C1.out.mono ?_
    rintro e w1 ⟨rfl, hb1⟩
    have HB1 : Hid (Below w.heap.size w w1 ∧ w1.heap[w.heap.size]? = some (.cells #[.int .i64 v.kind, .int .i64 v.n, str v.s, .slice al ll cl, .slice am lm cm] 25 (0, 0))) := Lib.hid ⟨HA.out.1.trans (hb1.mono HA.out.1.size), box_up HA.out.2 hb1⟩
    have CW := Lib.hid (few_any (HV.out.up HB1.out.1))
    rw [HF.out] at CW
    have q0 := box_cell HB1.out.2 0
    have q1 := box_cell HB1.out.2 1
    have q2 := box_cell HB1.out.2 2
    have q3 := box_cell HB1.out.2 3
    have q4 := box_cell HB1.out.2 4
    clear hb1 C1 hWa HA
    go_wp2_with fail
    refine CW.out.mono ?_
    rintro e w2 ⟨rfl, hb2⟩
    have HB2 : Hid (Below w.heap.size w w2 ∧ w2.heap[w.heap.size]? = some (.cells #[.int .i64 v.kind, .int .i64 v.n, str v.s, .slice al ll cl, .slice am lm cm] 25 (0, 0))) := Lib.hid ⟨HB1.out.1.trans (hb2.mono HB1.out.1.size), box_up HB1.out.2 hb2⟩
    clear hb2 CW HB1 q0 q1 q2 q3 q4
    have CF := Lib.hid (jfirst_any w2 (HT.out.up HB2.out.1 HB2.out.1.size))
    go_wp2_with fail
    refine CF.out.mono ?_
    rintro e w99 ⟨rfl, hb99⟩
    have HX := Lib.hid (HB2.out.1.trans (hb99.mono HB2.out.1.size))
    clear hb99 CF
    go_wp2_with fail
    go_ret
    exact ⟨rfl, HX.out⟩
  | true =>
    have HF := Lib.hid hf
    have hsz := few_sz hf
    clear hf
    by_cases hlb : 21000 < lb.length
    · have t0 : decide ((21000 : Int) < (lb.length : Int)) = true := decide_eq_true (by omega)
      clear hlb hcut0
      go_enter Tryd.func3, Tryd.ntmps3
      go_wp2_with fail
      rw [← hWa]
      refine C1.out.mono ?_
      rintro e w1 ⟨rfl, hb1⟩
      have HB1 : Hid (Below w.heap.size w w1 ∧ w1.heap[w.heap.size]? = some (.cells #[.int .i64 v.kind, .int .i64 v.n, str v.s, .slice al ll cl, .slice am lm cm] 25 (0, 0))) := Lib.hid ⟨HA.out.1.trans (hb1.mono HA.out.1.size), box_up HA.out.2 hb1⟩
      have CW := Lib.hid (few_any (HV.out.up HB1.out.1))
      rw [HF.out] at CW
      have q0 := box_cell HB1.out.2 0
      have q1 := box_cell HB1.out.2 1
      have q2 := box_cell HB1.out.2 2
      have q3 := box_cell HB1.out.2 3
      have q4 := box_cell HB1.out.2 4
      clear hb1 C1 hWa HA
      go_wp2_with fail
      refine CW.out.mono ?_
      rintro e w2 ⟨rfl, hb2⟩
      have HB2 : Hid (Below w.heap.size w w2 ∧ w2.heap[w.heap.size]? = some (.cells #[.int .i64 v.kind, .int .i64 v.n, str v.s, .slice al ll cl, .slice am lm cm] 25 (0, 0))) := Lib.hid ⟨HB1.out.1.trans (hb2.mono HB1.out.1.size), box_up HB1.out.2 hb2⟩
      clear hb2 CW HB1 q0 q1 q2 q3 q4
      have CF := Lib.hid (jfirst_any w2 (HT.out.up HB2.out.1 HB2.out.1.size))
      go_wp2_with fail
      refine CF.out.mono ?_
      rintro e w99 ⟨rfl, hb99⟩
      have HX := Lib.hid (HB2.out.1.trans (hb99.mono HB2.out.1.size))
      clear hb99 CF
      go_wp2_with fail
      go_ret
      exact ⟨rfl, HX.out⟩
    · have t0 : decide ((21000 : Int) < (lb.length : Int)) = false := decide_eq_false (by omega)
      have hlb2 : lb.length ≤ 21000 := by omega
      clear hlb
      by_cases hneg : cut < 0
      · have t1 : decide (cut < 0) = true := decide_eq_true hneg
        clear hneg hcut0
        go_enter Tryd.func3, Tryd.ntmps3
        go_wp2_with fail
        rw [← hWa]
        refine C1.out.mono ?_
        rintro e w1 ⟨rfl, hb1⟩
        have HB1 : Hid (Below w.heap.size w w1 ∧ w1.heap[w.heap.size]? = some (.cells #[.int .i64 v.kind, .int .i64 v.n, str v.s, .slice al ll cl, .slice am lm cm] 25 (0, 0))) := Lib.hid ⟨HA.out.1.trans (hb1.mono HA.out.1.size), box_up HA.out.2 hb1⟩
        have CW := Lib.hid (few_any (HV.out.up HB1.out.1))
        rw [HF.out] at CW
        have q0 := box_cell HB1.out.2 0
        have q1 := box_cell HB1.out.2 1
        have q2 := box_cell HB1.out.2 2
        have q3 := box_cell HB1.out.2 3
        have q4 := box_cell HB1.out.2 4
        clear hb1 C1 hWa HA
        go_wp2_with fail
        refine CW.out.mono ?_
        rintro e w2 ⟨rfl, hb2⟩
        have HB2 : Hid (Below w.heap.size w w2 ∧ w2.heap[w.heap.size]? = some (.cells #[.int .i64 v.kind, .int .i64 v.n, str v.s, .slice al ll cl, .slice am lm cm] 25 (0, 0))) := Lib.hid ⟨HB1.out.1.trans (hb2.mono HB1.out.1.size), box_up HB1.out.2 hb2⟩
        clear hb2 CW HB1 q0 q1 q2 q3 q4
        have CF := Lib.hid (jfirst_any w2 (HT.out.up HB2.out.1 HB2.out.1.size))
        go_wp2_with fail
        refine CF.out.mono ?_
        rintro e w99 ⟨rfl, hb99⟩
        have HX := Lib.hid (HB2.out.1.trans (hb99.mono HB2.out.1.size))
        clear hb99 CF
        go_wp2_with fail
        go_ret
        exact ⟨rfl, HX.out⟩
      · obtain ⟨C, rfl⟩ : ∃ C : Nat, cut = (C : Int) := ⟨cut.toNat, by omega⟩
        have t1 : decide ((C : Int) < 0) = false := decide_eq_false hneg
        have hCb : C ≤ 9223372036854775807 := by omega
        clear hneg hcut0
        cases hm : mayV v 64 with
        | false =>
          have HM := Lib.hid hm
          clear hm
          go_enter Tryd.func3, Tryd.ntmps3
          go_wp2_with fail
          rw [← hWa]
          refine C1.out.mono ?_
          rintro e w1 ⟨rfl, hb1⟩
          have HB1 : Hid (Below w.heap.size w w1 ∧ w1.heap[w.heap.size]? = some (.cells #[.int .i64 v.kind, .int .i64 v.n, str v.s, .slice al ll cl, .slice am lm cm] 25 (0, 0))) := Lib.hid ⟨HA.out.1.trans (hb1.mono HA.out.1.size), box_up HA.out.2 hb1⟩
          have CW := Lib.hid (few_any (HV.out.up HB1.out.1))
          rw [HF.out] at CW
          have q0 := box_cell HB1.out.2 0
          have q1 := box_cell HB1.out.2 1
          have q2 := box_cell HB1.out.2 2
          have q3 := box_cell HB1.out.2 3
          have q4 := box_cell HB1.out.2 4
          clear hb1 C1 hWa HA
          go_wp2_with fail
          refine CW.out.mono ?_
          rintro e w2 ⟨rfl, hb2⟩
          have HB2 : Hid (Below w.heap.size w w2 ∧ w2.heap[w.heap.size]? = some (.cells #[.int .i64 v.kind, .int .i64 v.n, str v.s, .slice al ll cl, .slice am lm cm] 25 (0, 0))) := Lib.hid ⟨HB1.out.1.trans (hb2.mono HB1.out.1.size), box_up HB1.out.2 hb2⟩
          clear hb2 CW HB1 q0 q1 q2 q3 q4
          have q0 := box_cell HB2.out.2 0
          have q1 := box_cell HB2.out.2 1
          have q2 := box_cell HB2.out.2 2
          have q3 := box_cell HB2.out.2 3
          have q4 := box_cell HB2.out.2 4
          have CP := Lib.hid (print_no (HV.out.up HB2.out.1) HM.out)
          go_wp2_with fail
          refine CP.out.mono ?_
          rintro e w3 ⟨rfl, hb3⟩
          have HB3 : Hid (Below w.heap.size w w3 ∧ w3.heap[w.heap.size]? = some (.cells #[.int .i64 v.kind, .int .i64 v.n, str v.s, .slice al ll cl, .slice am lm cm] 25 (0, 0))) := Lib.hid ⟨HB2.out.1.trans (hb3.mono HB2.out.1.size), box_up HB2.out.2 hb3⟩
          clear hb3 CP HB2 q0 q1 q2 q3 q4
          have q0 := box_cell HB3.out.2 0
          have q1 := box_cell HB3.out.2 1
          have q2 := box_cell HB3.out.2 2
          have q3 := box_cell HB3.out.2 3
          have q4 := box_cell HB3.out.2 4
          have CM := jmay_any (HV.out.up HB3.out.1)
          rw [HM.out] at CM
          have CM := Lib.hid CM
          go_wp2_with fail
          refine CM.out.mono ?_
          rintro e w4 ⟨rfl, hb4⟩
          have HB4 := Lib.hid (HB3.out.1.trans (hb4.mono HB3.out.1.size))
          clear hb4 CM HB3 q0 q1 q2 q3 q4
          have HBT := Lib.hid HB4.out
          have CB := parse_any (HRB.out.below HBT.out (Nat.le_refl _)) (by omega)
          cases hp : parP lb with
          | err c =>
            rw [hp] at CB
            have CB := Lib.hid CB
            clear hp
            go_wp2_with fail
            refine CB.out.mono ?_
            rintro e w20 ⟨rfl, hz20, hb20⟩
            have ez : ((c : Int) != 0) = true := by rw [bne_iff_ne]; omega
            go_upto_region 17 with fail
            refine wp_any_world (fun X => Below w.heap.size w X ∧ X.heap[w20.heap.size]? = some (.cells #[.int .i64 0, .int .i64 0, str [], .slice none 0 0, .slice none 0 0] 25 (0, 0))) ⟨HBT.out.trans ((hb20.trans ((below_alloc _ _).mono hb20.size)).mono HBT.out.size), heap_alloc_new _ _⟩ ?_
            rintro w21 ⟨hw21, hx21⟩
            have HB21 := Lib.hid (And.intro hw21 hx21)
            clear hw21 hx21 hb20 CB hz20 HBT
            have CF := Lib.hid (jfirst_any w21 (HT.out.up HB21.out.1 HB21.out.1.size))
            go_wp2_with fail
            refine CF.out.mono ?_
            rintro e w22 ⟨rfl, hb22⟩
            have HX := Lib.hid (HB21.out.1.trans (hb22.mono HB21.out.1.size))
            have p0 := box_cell (box_up HB21.out.2 hb22) 0
            clear hb22 CF HB21
            go_wp2_with fail
            go_ret
            exact ⟨rfl, HX.out⟩
          | ok v2 z2 =>
            rw [hp] at CB
            have CB := Lib.hid CB
            have HM2 := Lib.hid (parP_may hp)
            have HL2 := Lib.hid (parP_len hp)
            clear hp
            go_wp2_with fail
            refine CB.out.mono ?_
            rintro e w20 ⟨cs2, rfl, hv20, hb20⟩
            obtain ⟨al2, ll2, cl2, am2, lm2, cm2, rfl, _, _⟩ := hv20.open
            go_upto_region 17 with fail
            refine wp_any_world (fun X => Below w.heap.size w X ∧ X.heap[w20.heap.size]? = some (.cells #[.int .i64 v2.kind, .int .i64 v2.n, str v2.s, .slice al2 ll2 cl2, .slice am2 lm2 cm2] 25 (0, 0)) ∧ RdJ X (fun i => w4.heap.size ≤ i) v2 [.int .i64 v2.kind, .int .i64 v2.n, str v2.s, .slice al2 ll2 cl2, .slice am2 lm2 cm2]) ⟨HBT.out.trans ((hb20.trans ((below_alloc _ _).mono hb20.size)).mono HBT.out.size), heap_alloc_new _ _, hv20.up (below_alloc _ _)⟩ ?_
            rintro w21 ⟨hw21, hx21, hv21⟩
            have HB21 := Lib.hid (And.intro hw21 (And.intro hx21 hv21))
            clear hw21 hx21 hb20 CB hv20 HBT hv21
            have CP := Lib.hid (print_yes HB21.out.2.2 HM2.out HL2.out (HT.out.up HB21.out.1 HB21.out.1.size))
            have p0 := box_cell HB21.out.2.1 0
            have p1 := box_cell HB21.out.2.1 1
            have p2 := box_cell HB21.out.2.1 2
            have p3 := box_cell HB21.out.2.1 3
            have p4 := box_cell HB21.out.2.1 4
            have hpos2 : 0 < (prV v2).length := by
              obtain ⟨c0, r0, e0, _⟩ := prV_head HM2.out
              rw [e0]; simp
            obtain ⟨B2, hB2⟩ : ∃ B2, B2 = prV v2 := ⟨_, rfl⟩
            rw [← hB2] at CP hpos2
            have hB2l : B2.length ≤ 70368744177664 := by rw [hB2]; exact HL2.out
            have HB2v := Lib.hid hB2
            clear hB2
            go_wp2_with fail
            refine CP.out.mono ?_
            rintro e w22 ⟨v22, rfl, hown22, hb22⟩
            obtain ⟨g2, cp2, rfl, _, _⟩ := World.ownsRow.form hown22 hpos2
            have HB22 := Lib.hid (And.intro (HB21.out.1.trans (hb22.mono HB21.out.1.size)) (And.intro (box_up HB21.out.2.1 hb22) (HB21.out.2.2.up hb22)))
            have CX := parse_any hown22.rd (by omega)
            clear hb22 CP HB21 hown22 p0 p1 p2 p3 p4
            by_cases hlong : 20000 < B2.length
            · have g1 : decide ((20000 : Int) < (B2.length : Int)) = true := decide_eq_true (by omega)
              have hlE : parP B2 = .err 3 := by unfold parP; rw [if_pos hlong]
              rw [hlE] at CX
              have CX := Lib.hid CX
              clear hlE hlong
              go_wp2_with fail
              refine CX.out.mono ?_
              rintro e w23 ⟨rfl, _, hb23⟩
              go_upto_region 21 with fail
              refine wp_any_world (fun X => Below w.heap.size w X ∧ X.heap[w20.heap.size]? = some (.cells #[.int .i64 v2.kind, .int .i64 v2.n, str v2.s, .slice al2 ll2 cl2, .slice am2 lm2 cm2] 25 (0, 0)) ∧ RdJ X (fun i => w4.heap.size ≤ i) v2 [.int .i64 v2.kind, .int .i64 v2.n, str v2.s, .slice al2 ll2 cl2, .slice am2 lm2 cm2]) ⟨HB22.out.1.trans ((hb23.trans ((below_alloc _ _).mono hb23.size)).mono HB22.out.1.size), box_up HB22.out.2.1 (hb23.trans ((below_alloc _ _).mono hb23.size)), HB22.out.2.2.up (hb23.trans ((below_alloc _ _).mono hb23.size))⟩ ?_
              rintro w24 ⟨hw24, hx24, hv24⟩
              have HB24 := Lib.hid (And.intro hw24 (And.intro hx24 hv24))
              clear hw24 hx24 hv24 hb23 CX HB22
              have CF := Lib.hid (jfirst_any w24 (HT.out.up HB24.out.1 HB24.out.1.size))
              go_wp2_with fail
              refine CF.out.mono ?_
              rintro e w25 ⟨rfl, hb25⟩
              have HB25 := Lib.hid (And.intro (HB24.out.1.trans (hb25.mono HB24.out.1.size)) (And.intro (box_up HB24.out.2.1 hb25) (HB24.out.2.2.up hb25)))
              clear hb25 CF HB24
              have p0 := box_cell HB25.out.2.1 0
              have p1 := box_cell HB25.out.2.1 1
              have p2 := box_cell HB25.out.2.1 2
              have p3 := box_cell HB25.out.2.1 3
              have p4 := box_cell HB25.out.2.1 4
              have CM := jmay_any HB25.out.2.2
              rw [HM2.out] at CM
              have CM := Lib.hid CM
              go_wp2_with fail
              refine CM.out.mono ?_
              rintro e w26 ⟨rfl, hb26⟩
              have HX := Lib.hid (HB25.out.1.trans (hb26.mono HB25.out.1.size))
              clear hb26 CM HB25 p0 p1 p2 p3 p4
              go_wp2_with fail
              go_ret
              exact ⟨rfl, HX.out⟩
            · have g1 : decide ((20000 : Int) < (B2.length : Int)) = false := decide_eq_false (by omega)
              have hlE : parP B2 = .ok v2 B2.length := by rw [HB2v.out]; exact par_pr HM2.out (by rw [← HB2v.out]; omega)
              rw [hlE] at CX
              have CX := Lib.hid CX
              clear hlE hlong
              go_wp2_with fail
              refine CX.out.mono ?_
              rintro e w23 ⟨cs3, rfl, hv23, hb23⟩
              obtain ⟨al3, ll3, cl3, am3, lm3, cm3, rfl, _, _⟩ := hv23.open
              go_upto_region 21 with fail
              refine wp_any_world (fun X => Below w.heap.size w X ∧ X.heap[w20.heap.size]? = some (.cells #[.int .i64 v2.kind, .int .i64 v2.n, str v2.s, .slice al2 ll2 cl2, .slice am2 lm2 cm2] 25 (0, 0)) ∧ RdJ X (fun i => w4.heap.size ≤ i) v2 [.int .i64 v2.kind, .int .i64 v2.n, str v2.s, .slice al2 ll2 cl2, .slice am2 lm2 cm2] ∧ X.heap[w23.heap.size]? = some (.cells #[.int .i64 v2.kind, .int .i64 v2.n, str v2.s, .slice al3 ll3 cl3, .slice am3 lm3 cm3] 25 (0, 0)) ∧ RdJ X (fun i => w22.heap.size ≤ i) v2 [.int .i64 v2.kind, .int .i64 v2.n, str v2.s, .slice al3 ll3 cl3, .slice am3 lm3 cm3]) ⟨HB22.out.1.trans ((hb23.trans ((below_alloc _ _).mono hb23.size)).mono HB22.out.1.size), box_up HB22.out.2.1 (hb23.trans ((below_alloc _ _).mono hb23.size)), HB22.out.2.2.up (hb23.trans ((below_alloc _ _).mono hb23.size)), heap_alloc_new _ _, hv23.up (below_alloc _ _)⟩ ?_
              rintro w24 ⟨hw24, hx24, hv24, hy24, hu24⟩
              have HB24 := Lib.hid (And.intro hw24 (And.intro hx24 (And.intro hv24 (And.intro hy24 hu24))))
              clear hw24 hx24 hv24 hb23 CX HB22 hy24 hu24 hv23
              have CF := Lib.hid (jfirst_any w24 (HT.out.up HB24.out.1 HB24.out.1.size))
              go_wp2_with fail
              refine CF.out.mono ?_
              rintro e w25 ⟨rfl, hb25⟩
              have HB25 := Lib.hid (And.intro (HB24.out.1.trans (hb25.mono HB24.out.1.size)) (And.intro (box_up HB24.out.2.1 hb25) (And.intro (HB24.out.2.2.1.up hb25) (And.intro (box_up HB24.out.2.2.2.1 hb25) (HB24.out.2.2.2.2.up hb25)))))
              clear hb25 CF HB24
              have p0 := box_cell HB25.out.2.1 0
              have p1 := box_cell HB25.out.2.1 1
              have p2 := box_cell HB25.out.2.1 2
              have p3 := box_cell HB25.out.2.1 3
              have p4 := box_cell HB25.out.2.1 4
              have CM := jmay_any HB25.out.2.2.1
              rw [HM2.out] at CM
              have CM := Lib.hid CM
              go_wp2_with fail
              refine CM.out.mono ?_
              rintro e w26 ⟨rfl, hb26⟩
              have HB26 := Lib.hid (And.intro (HB25.out.1.trans (hb26.mono HB25.out.1.size)) (And.intro (box_up HB25.out.2.1 hb26) (And.intro (HB25.out.2.2.1.up hb26) (And.intro (box_up HB25.out.2.2.2.1 hb26) (HB25.out.2.2.2.2.up hb26)))))
              clear hb26 CM HB25 p0 p1 p2 p3 p4
              have p0 := box_cell HB26.out.2.1 0
              have p1 := box_cell HB26.out.2.1 1
              have p2 := box_cell HB26.out.2.1 2
              have p3 := box_cell HB26.out.2.1 3
              have p4 := box_cell HB26.out.2.1 4
              have r0 := box_cell HB26.out.2.2.2.1 0
              have r1 := box_cell HB26.out.2.2.2.1 1
              have r2 := box_cell HB26.out.2.2.2.1 2
              have r3 := box_cell HB26.out.2.2.2.1 3
              have r4 := box_cell HB26.out.2.2.2.1 4
              have CS := same_any v2 v2 _ _ _ _ _ HB26.out.2.2.2.2 HB26.out.2.2.1
              rw [samV_self] at CS
              have CS := Lib.hid CS
              go_wp2_with fail
              refine CS.out.mono ?_
              rintro e w27 ⟨rfl, hb27⟩
              have HX := Lib.hid (HB26.out.1.trans (hb27.mono HB26.out.1.size))
              clear hb27 CS HB26 p0 p1 p2 p3 p4 r0 r1 r2 r3 r4
              go_wp2_with fail
              go_ret
              exact ⟨rfl, HX.out⟩
        | true =>
          have hpl := prV_len v 64 hm
          have HM := Lib.hid hm
          have hpos : 0 < (prV v).length := by
            obtain ⟨c0, r0, e0, _⟩ := prV_head hm
            rw [e0]; simp
          obtain ⟨B, hBv⟩ : ∃ B, B = prV v := ⟨_, rfl⟩
          rw [← hBv] at hpl hpos
          have HBv := Lib.hid hBv
          have PY : Hid (∀ W : World, Below w.heap.size w W → Calls Tryd.prog 10 #[.agg #[.int .i64 v.kind, .int .i64 v.n, str v.s, .slice al ll cl, .slice am lm cm]] W fun e w' => ∃ v', e = .returned (.tuple #[v', .int .i64 0]) ∧ Own 5 w' W.heap.size v' B ∧ Below W.heap.size W w') := Lib.hid (fun W hb => by
            rw [hBv]
            exact print_yes (HV.out.up hb) hm (by rw [← hBv]; omega) (HT.out.up hb hb.size))
          clear hm hBv
          by_cases hsm : B.length ≤ 19996
          · have ts : decide ((B.length : Int) ≤ 19996) = true := decide_eq_true (by omega)
            go_enter Tryd.func3, Tryd.ntmps3
            go_wp2_with fail
            rw [← hWa]
            refine C1.out.mono ?_
            rintro e w1 ⟨rfl, hb1⟩
            have HB1 : Hid (Below w.heap.size w w1 ∧ w1.heap[w.heap.size]? = some (.cells #[.int .i64 v.kind, .int .i64 v.n, str v.s, .slice al ll cl, .slice am lm cm] 25 (0, 0))) := Lib.hid ⟨HA.out.1.trans (hb1.mono HA.out.1.size), box_up HA.out.2 hb1⟩
            have CW := Lib.hid (few_any (HV.out.up HB1.out.1))
            rw [HF.out] at CW
            have q0 := box_cell HB1.out.2 0
            have q1 := box_cell HB1.out.2 1
            have q2 := box_cell HB1.out.2 2
            have q3 := box_cell HB1.out.2 3
            have q4 := box_cell HB1.out.2 4
            clear hb1 C1 hWa HA
            go_wp2_with fail
            refine CW.out.mono ?_
            rintro e w2 ⟨rfl, hb2⟩
            have HB2 : Hid (Below w.heap.size w w2 ∧ w2.heap[w.heap.size]? = some (.cells #[.int .i64 v.kind, .int .i64 v.n, str v.s, .slice al ll cl, .slice am lm cm] 25 (0, 0))) := Lib.hid ⟨HB1.out.1.trans (hb2.mono HB1.out.1.size), box_up HB1.out.2 hb2⟩
            clear hb2 CW HB1 q0 q1 q2 q3 q4
            have q0 := box_cell HB2.out.2 0
            have q1 := box_cell HB2.out.2 1
            have q2 := box_cell HB2.out.2 2
            have q3 := box_cell HB2.out.2 3
            have q4 := box_cell HB2.out.2 4
            have CP := Lib.hid (PY.out _ HB2.out.1)
            go_wp2_with fail
            refine CP.out.mono ?_
            rintro e w3 ⟨v3, rfl, hown3, hb3⟩
            obtain ⟨g, cp, rfl, _, _⟩ := World.ownsRow.form hown3 hpos
            have hcap : B.length ≤ cp ∧ cp ≤ 9223372036854775807 := by
              obtain ⟨a9, c9, e9, h91, h92, _⟩ := hown3.rd
              cases e9
              unfold maxLen at h92
              exact ⟨h91, h92⟩
            have HO3 : Hid (Below w.heap.size w w3 ∧ w3.heap[w.heap.size]? = some (.cells #[.int .i64 v.kind, .int .i64 v.n, str v.s, .slice al ll cl, .slice am lm cm] 25 (0, 0)) ∧ Rd w3 (.slice (some ⟨g, 0, none⟩) B.length cp) B) := Lib.hid ⟨HB2.out.1.trans (hb3.mono HB2.out.1.size), box_up HB2.out.2 hb3, hown3.rd⟩
            clear hb3 CP q0 q1 q2 q3 q4 hown3 HB2
            have q0 := box_cell HO3.out.2.1 0
            have q1 := box_cell HO3.out.2.1 1
            have q2 := box_cell HO3.out.2.1 2
            have q3 := box_cell HO3.out.2.1 3
            have q4 := box_cell HO3.out.2.1 4
            have CM := jmay_any (HV.out.up HO3.out.1)
            rw [HM.out] at CM
            have CM := Lib.hid CM
            go_wp2_with fail
            refine CM.out.mono ?_
            rintro e w4 ⟨rfl, hb4⟩
            have HO4 : Hid (Below w.heap.size w w4 ∧ w4.heap[w.heap.size]? = some (.cells #[.int .i64 v.kind, .int .i64 v.n, str v.s, .slice al ll cl, .slice am lm cm] 25 (0, 0)) ∧ Rd w4 (.slice (some ⟨g, 0, none⟩) B.length cp) B) := Lib.hid ⟨HO3.out.1.trans (hb4.mono HO3.out.1.size), box_up HO3.out.2.1 hb4, HO3.out.2.2.below hb4 (Nat.le_refl _)⟩
            clear hb4 CM HO3 q0 q1 q2 q3 q4
            go_upto_if 52 with fail
            go_cut [] from 41 to 106 (fun wc => Hid (Below w.heap.size w wc))
            case first =>
              have hR0 : parP B = .ok v B.length := by rw [HBv.out]; exact par_pr HM.out (by rw [← HBv.out]; omega)
              have hR1 : parP (32 :: 10 :: (B ++ [9, 13])) = .ok v (B.length + 4) := by
                have e2 : (32 :: 10 :: (B ++ [9, 13])) = [32, 10] ++ (prV v ++ [9, 13]) := by rw [HBv.out]; rfl
                have e3 : B.length + 4 = ([32, 10] ++ (prV v ++ [9, 13])).length := by rw [← HBv.out]; simp
                rw [e2, e3]
                exact par_any HM.out (by decide) (by decide) (by rw [← HBv.out]; simp; omega)
              have CT := parse_any HO4.out.2.2 (by omega)
              rw [hR0] at CT
              have CT := Lib.hid CT
              have HR1 := Lib.hid hR1
              clear hR0 hR1
              go_wp2_with fail
              refine CT.out.mono ?_
              rintro e w5 ⟨cs5, rfl, hv5, hb5⟩
              obtain ⟨al5, ll5, cl5, am5, lm5, cm5, rfl, _, _⟩ := hv5.open
              go_upto_region 10 with fail
              refine wp_any_world (fun X => Below w.heap.size w X ∧ X.heap[w.heap.size]? = some (.cells #[.int .i64 v.kind, .int .i64 v.n, str v.s, .slice al ll cl, .slice am lm cm] 25 (0, 0)) ∧ Rd X (.slice (some ⟨g, 0, none⟩) B.length cp) B ∧ X.heap[w5.heap.size]? = some (.cells #[.int .i64 v.kind, .int .i64 v.n, str v.s, .slice al5 ll5 cl5, .slice am5 lm5 cm5] 25 (0, 0)) ∧ RdJ X (fun i => w4.heap.size ≤ i) v [.int .i64 v.kind, .int .i64 v.n, str v.s, .slice al5 ll5 cl5, .slice am5 lm5 cm5]) ⟨HO4.out.1.trans ((hb5.trans ((below_alloc _ _).mono hb5.size)).mono HO4.out.1.size), box_up HO4.out.2.1 (hb5.trans ((below_alloc _ _).mono hb5.size)), HO4.out.2.2.below (hb5.trans ((below_alloc _ _).mono hb5.size)) (Nat.le_refl _), heap_alloc_new _ _, hv5.up (below_alloc _ _)⟩ ?_
              rintro w6 ⟨hw6, hx6, hr6, hy6, hv6⟩
              have HB6 := Lib.hid (And.intro hw6 (And.intro hx6 (And.intro hr6 (And.intro hy6 hv6))))
              clear hw6 hx6 hr6 hy6 hv6 hv5 hb5 CT HO4
              have hconv := bt.toString Tryd.underlying9 HB6.out.2.2.1
              obtain ⟨cap7, x7, hconv7, hrd7, hx7⟩ := bytes_run (32 :: 10 :: (B ++ [9, 13])) w6 (by simp; omega)
              have CU := parse_any hrd7 (by simp; omega)
              rw [HR1.out] at CU
              have CU := Lib.hid CU
              have HX7 := Lib.hid hx7
              have e1 : (32 :: 10 :: (B ++ [9, 13])).length = B.length + 4 := by simp
              rw [e1] at hconv7 CU
              clear hrd7 hx7 e1
              go_wp2_with fail
              refine CU.out.mono ?_
              rintro e w8 ⟨cs8, rfl, hv8, hb8⟩
              obtain ⟨al8, ll8, cl8, am8, lm8, cm8, rfl, _, _⟩ := hv8.open
              go_upto_region 11 with fail
              refine wp_any_world (fun X => Below w.heap.size w X ∧ X.heap[w.heap.size]? = some (.cells #[.int .i64 v.kind, .int .i64 v.n, str v.s, .slice al ll cl, .slice am lm cm] 25 (0, 0)) ∧ Rd X (.slice (some ⟨g, 0, none⟩) B.length cp) B ∧ X.heap[w5.heap.size]? = some (.cells #[.int .i64 v.kind, .int .i64 v.n, str v.s, .slice al5 ll5 cl5, .slice am5 lm5 cm5] 25 (0, 0)) ∧ RdJ X (fun i => w4.heap.size ≤ i) v [.int .i64 v.kind, .int .i64 v.n, str v.s, .slice al5 ll5 cl5, .slice am5 lm5 cm5] ∧ X.heap[w8.heap.size]? = some (.cells #[.int .i64 v.kind, .int .i64 v.n, str v.s, .slice al8 ll8 cl8, .slice am8 lm8 cm8] 25 (0, 0)) ∧ RdJ X (fun _ => True) v [.int .i64 v.kind, .int .i64 v.n, str v.s, .slice al8 ll8 cl8, .slice am8 lm8 cm8]) (by
                have hs := HX7.out.trans ((hb8.trans ((below_alloc _ (.cells #[.int .i64 v.kind, .int .i64 v.n, str v.s, .slice al8 ll8 cl8, .slice am8 lm8 cm8] 25)).mono hb8.size)).mono HX7.out.size)
                exact ⟨HB6.out.1.trans (hs.mono HB6.out.1.size), box_up HB6.out.2.1 hs, HB6.out.2.2.1.below hs (Nat.le_refl _), box_up HB6.out.2.2.2.1 hs, HB6.out.2.2.2.2.up hs, heap_alloc_new _ _, (hv8.up (below_alloc _ _)).mono (fun _ _ _ => trivial)⟩) ?_
              rintro w9 ⟨hw9, hx9, hr9, hy9, hv9, hz9, hu9⟩
              have HB9 := Lib.hid (And.intro hw9 (And.intro hx9 (And.intro hr9 (And.intro hy9 (And.intro hv9 (And.intro hz9 hu9))))))
              clear hw9 hx9 hr9 hy9 hv9 hz9 hu9 hv8 hb8 CU HB6 hconv hconv7 HX7
              have p0 := box_cell HB9.out.2.1 0
              have p1 := box_cell HB9.out.2.1 1
              have p2 := box_cell HB9.out.2.1 2
              have p3 := box_cell HB9.out.2.1 3
              have p4 := box_cell HB9.out.2.1 4
              have r0 := box_cell HB9.out.2.2.2.1 0
              have r1 := box_cell HB9.out.2.2.2.1 1
              have r2 := box_cell HB9.out.2.2.2.1 2
              have r3 := box_cell HB9.out.2.2.2.1 3
              have r4 := box_cell HB9.out.2.2.2.1 4
              have CS := same_any v v _ _ _ _ _ HB9.out.2.2.2.2.1 (HV.out.up HB9.out.1)
              rw [samV_self] at CS
              have CS := Lib.hid CS
              go_wp2_with fail
              refine CS.out.mono ?_
              rintro e w10 ⟨rfl, hb10⟩
              have HB10 := Lib.hid (And.intro (HB9.out.1.trans (hb10.mono HB9.out.1.size)) (And.intro (box_up HB9.out.2.1 hb10) (And.intro (HB9.out.2.2.1.below hb10 (Nat.le_refl _)) (And.intro (box_up HB9.out.2.2.2.2.2.1 hb10) (HB9.out.2.2.2.2.2.2.up hb10)))))
              clear hb10 CS HB9 p0 p1 p2 p3 p4 r0 r1 r2 r3 r4
              have p0 := box_cell HB10.out.2.1 0
              have p1 := box_cell HB10.out.2.1 1
              have p2 := box_cell HB10.out.2.1 2
              have p3 := box_cell HB10.out.2.1 3
              have p4 := box_cell HB10.out.2.1 4
              have r0 := box_cell HB10.out.2.2.2.1 0
              have r1 := box_cell HB10.out.2.2.2.1 1
              have r2 := box_cell HB10.out.2.2.2.1 2
              have r3 := box_cell HB10.out.2.2.2.1 3
              have r4 := box_cell HB10.out.2.2.2.1 4
              have CS := same_any v v _ _ _ _ _ HB10.out.2.2.2.2 (HV.out.up HB10.out.1)
              rw [samV_self] at CS
              have CS := Lib.hid CS
              go_wp2_with fail
              refine CS.out.mono ?_
              rintro e w11 ⟨rfl, hb11⟩
              have HB11 := Lib.hid (And.intro (HB10.out.1.trans (hb11.mono HB10.out.1.size)) (And.intro (box_up HB10.out.2.1 hb11) (HB10.out.2.2.1.below hb11 (Nat.le_refl _))))
              clear hb11 CS HB10 p0 p1 p2 p3 p4 r0 r1 r2 r3 r4
              have tl2 : decide ((B.length : Int) < 1) = false := decide_eq_false (by omega)
              obtain ⟨K, hK⟩ : ∃ K, K = C % B.length := ⟨_, rfl⟩
              have hKL : K < B.length := by rw [hK]; exact Nat.mod_lt _ (by omega)
              have m1 : (C : Int) % (B.length : Int) = (K : Int) := by rw [hK]; omega
              have m2 : Int.tmod (C : Int) (B.length : Int) = (K : Int) := by rw [Int.tmod_eq_emod_of_nonneg (by omega)]; exact m1
              have k1 : (K : Int) ≤ (cp : Int) := by omega
              have k2 : (0 : Int) ≤ (K : Int) := by omega
              have k3 : (0 : Int) < (B.length : Int) := by omega
              have k4 : ((B.length : Int) == 0) = false := by rw [beq_eq_false_iff_ne]; omega
              have CT := parse_any (HB11.out.2.2.take K (by omega)) (by simp; omega)
              clear hK
              by_cases h4 : v.kind = 4
              · have tk : (v.kind != 4) = false := by rw [h4]; rfl
                clear h4
                cases hp : parP (B.take K) with
                | err c =>
                  rw [hp] at CT
                  have CT := Lib.hid CT
                  clear hp
                  go_wp2_with fail
                  refine CT.out.mono ?_
                  rintro e w12 ⟨rfl, hz, hb12⟩
                  have ez : ((c : Int) == 0) = false := by rw [beq_eq_false_iff_ne]; omega
                  clear hz
                  go_upto_region 14 with fail
                  refine wp_any_world (fun X => Below w.heap.size w X ∧ X.heap[w.heap.size]? = some (.cells #[.int .i64 v.kind, .int .i64 v.n, str v.s, .slice al ll cl, .slice am lm cm] 25 (0, 0))) ⟨HB11.out.1.trans ((hb12.trans ((below_alloc _ _).mono hb12.size)).mono HB11.out.1.size), box_up HB11.out.2.1 (hb12.trans ((below_alloc _ _).mono hb12.size))⟩ ?_
                  rintro w13 ⟨hw13, hx13⟩
                  have HB13 := Lib.hid hw13
                  have p0 := box_cell hx13 0
                  clear hw13 hx13 hb12 CT HB11 m1 m2 k1 k2 k3 k4
                  go_wp2_with fail
                  go_meet
                  case rel => exact HB13
                | ok v1 z1 =>
                  rw [hp] at CT
                  have CT := Lib.hid CT
                  clear hp
                  go_wp2_with fail
                  refine CT.out.mono ?_
                  rintro e w12 ⟨cs12, rfl, hv12, hb12⟩
                  obtain ⟨al1, ll1, cl1, am1, lm1, cm1, rfl, _, _⟩ := hv12.open
                  go_upto_region 14 with fail
                  refine wp_any_world (fun X => Below w.heap.size w X ∧ X.heap[w.heap.size]? = some (.cells #[.int .i64 v.kind, .int .i64 v.n, str v.s, .slice al ll cl, .slice am lm cm] 25 (0, 0))) ⟨HB11.out.1.trans ((hb12.trans ((below_alloc _ _).mono hb12.size)).mono HB11.out.1.size), box_up HB11.out.2.1 (hb12.trans ((below_alloc _ _).mono hb12.size))⟩ ?_
                  rintro w13 ⟨hw13, hx13⟩
                  have HB13 := Lib.hid hw13
                  have p0 := box_cell hx13 0
                  clear hw13 hx13 hb12 hv12 CT HB11 m1 m2 k1 k2 k3 k4
                  go_wp2_with fail
                  go_meet
                  case rel => exact HB13
              · have tk : (v.kind != 4) = true := by rw [bne_iff_ne]; exact h4
                obtain ⟨c, hp⟩ := par_cut HM.out h4 (k := K) (by rw [← HBv.out]; exact hKL)
                rw [← HBv.out] at hp
                rw [hp] at CT
                have CT := Lib.hid CT
                clear hp h4
                go_wp2_with fail
                refine CT.out.mono ?_
                rintro e w12 ⟨rfl, hz, hb12⟩
                have ez : ((c : Int) == 0) = false := by rw [beq_eq_false_iff_ne]; omega
                clear hz
                go_upto_region 14 with fail
                refine wp_any_world (fun X => Below w.heap.size w X ∧ X.heap[w.heap.size]? = some (.cells #[.int .i64 v.kind, .int .i64 v.n, str v.s, .slice al ll cl, .slice am lm cm] 25 (0, 0))) ⟨HB11.out.1.trans ((hb12.trans ((below_alloc _ _).mono hb12.size)).mono HB11.out.1.size), box_up HB11.out.2.1 (hb12.trans ((below_alloc _ _).mono hb12.size))⟩ ?_
                rintro w13 ⟨hw13, hx13⟩
                have HB13 := Lib.hid hw13
                have p0 := box_cell hx13 0
                clear hw13 hx13 hb12 CT HB11 m1 m2 k1 k2 k3 k4
                go_wp2_with fail
                go_meet
                case rel => exact HB13
            case rest =>
            have HB4 := hcut
            clear hcut HO4
            have HBT := Lib.hid HB4.out
            have CB := parse_any (HRB.out.below HBT.out (Nat.le_refl _)) (by omega)
            cases hp : parP lb with
            | err c =>
              rw [hp] at CB
              have CB := Lib.hid CB
              clear hp
              go_wp2_with fail
              refine CB.out.mono ?_
              rintro e w20 ⟨rfl, hz20, hb20⟩
              have ez : ((c : Int) != 0) = true := by rw [bne_iff_ne]; omega
              go_upto_region 17 with fail
              refine wp_any_world (fun X => Below w.heap.size w X ∧ X.heap[w20.heap.size]? = some (.cells #[.int .i64 0, .int .i64 0, str [], .slice none 0 0, .slice none 0 0] 25 (0, 0))) ⟨HBT.out.trans ((hb20.trans ((below_alloc _ _).mono hb20.size)).mono HBT.out.size), heap_alloc_new _ _⟩ ?_
              rintro w21 ⟨hw21, hx21⟩
              have HB21 := Lib.hid (And.intro hw21 hx21)
              clear hw21 hx21 hb20 CB hz20 HBT
              have CF := Lib.hid (jfirst_any w21 (HT.out.up HB21.out.1 HB21.out.1.size))
              go_wp2_with fail
              refine CF.out.mono ?_
              rintro e w22 ⟨rfl, hb22⟩
              have HX := Lib.hid (HB21.out.1.trans (hb22.mono HB21.out.1.size))
              have p0 := box_cell (box_up HB21.out.2 hb22) 0
              clear hb22 CF HB21
              go_wp2_with fail
              go_ret
              exact ⟨rfl, HX.out⟩
            | ok v2 z2 =>
              rw [hp] at CB
              have CB := Lib.hid CB
              have HM2 := Lib.hid (parP_may hp)
              have HL2 := Lib.hid (parP_len hp)
              clear hp
              go_wp2_with fail
              refine CB.out.mono ?_
              rintro e w20 ⟨cs2, rfl, hv20, hb20⟩
              obtain ⟨al2, ll2, cl2, am2, lm2, cm2, rfl, _, _⟩ := hv20.open
              go_upto_region 17 with fail
              refine wp_any_world (fun X => Below w.heap.size w X ∧ X.heap[w20.heap.size]? = some (.cells #[.int .i64 v2.kind, .int .i64 v2.n, str v2.s, .slice al2 ll2 cl2, .slice am2 lm2 cm2] 25 (0, 0)) ∧ RdJ X (fun i => wc.heap.size ≤ i) v2 [.int .i64 v2.kind, .int .i64 v2.n, str v2.s, .slice al2 ll2 cl2, .slice am2 lm2 cm2]) ⟨HBT.out.trans ((hb20.trans ((below_alloc _ _).mono hb20.size)).mono HBT.out.size), heap_alloc_new _ _, hv20.up (below_alloc _ _)⟩ ?_
              rintro w21 ⟨hw21, hx21, hv21⟩
              have HB21 := Lib.hid (And.intro hw21 (And.intro hx21 hv21))
              clear hw21 hx21 hb20 CB hv20 HBT hv21
              have CP := Lib.hid (print_yes HB21.out.2.2 HM2.out HL2.out (HT.out.up HB21.out.1 HB21.out.1.size))
              have p0 := box_cell HB21.out.2.1 0
              have p1 := box_cell HB21.out.2.1 1
              have p2 := box_cell HB21.out.2.1 2
              have p3 := box_cell HB21.out.2.1 3
              have p4 := box_cell HB21.out.2.1 4
              have hpos2 : 0 < (prV v2).length := by
                obtain ⟨c0, r0, e0, _⟩ := prV_head HM2.out
                rw [e0]; simp
              obtain ⟨B2, hB2⟩ : ∃ B2, B2 = prV v2 := ⟨_, rfl⟩
              rw [← hB2] at CP hpos2
              have hB2l : B2.length ≤ 70368744177664 := by rw [hB2]; exact HL2.out
              have HB2v := Lib.hid hB2
              clear hB2
              go_wp2_with fail
              refine CP.out.mono ?_
              rintro e w22 ⟨v22, rfl, hown22, hb22⟩
              obtain ⟨g2, cp2, rfl, _, _⟩ := World.ownsRow.form hown22 hpos2
              have HB22 := Lib.hid (And.intro (HB21.out.1.trans (hb22.mono HB21.out.1.size)) (And.intro (box_up HB21.out.2.1 hb22) (HB21.out.2.2.up hb22)))
              have CX := parse_any hown22.rd (by omega)
              clear hb22 CP HB21 hown22 p0 p1 p2 p3 p4
              by_cases hlong : 20000 < B2.length
              · have g1 : decide ((20000 : Int) < (B2.length : Int)) = true := decide_eq_true (by omega)
                have hlE : parP B2 = .err 3 := by unfold parP; rw [if_pos hlong]
                rw [hlE] at CX
                have CX := Lib.hid CX
                clear hlE hlong
                go_wp2_with fail
                refine CX.out.mono ?_
                rintro e w23 ⟨rfl, _, hb23⟩
                go_upto_region 21 with fail
                refine wp_any_world (fun X => Below w.heap.size w X ∧ X.heap[w20.heap.size]? = some (.cells #[.int .i64 v2.kind, .int .i64 v2.n, str v2.s, .slice al2 ll2 cl2, .slice am2 lm2 cm2] 25 (0, 0)) ∧ RdJ X (fun i => wc.heap.size ≤ i) v2 [.int .i64 v2.kind, .int .i64 v2.n, str v2.s, .slice al2 ll2 cl2, .slice am2 lm2 cm2]) ⟨HB22.out.1.trans ((hb23.trans ((below_alloc _ _).mono hb23.size)).mono HB22.out.1.size), box_up HB22.out.2.1 (hb23.trans ((below_alloc _ _).mono hb23.size)), HB22.out.2.2.up (hb23.trans ((below_alloc _ _).mono hb23.size))⟩ ?_
                rintro w24 ⟨hw24, hx24, hv24⟩
                have HB24 := Lib.hid (And.intro hw24 (And.intro hx24 hv24))
                clear hw24 hx24 hv24 hb23 CX HB22
                have CF := Lib.hid (jfirst_any w24 (HT.out.up HB24.out.1 HB24.out.1.size))
                go_wp2_with fail
                refine CF.out.mono ?_
                rintro e w25 ⟨rfl, hb25⟩
                have HB25 := Lib.hid (And.intro (HB24.out.1.trans (hb25.mono HB24.out.1.size)) (And.intro (box_up HB24.out.2.1 hb25) (HB24.out.2.2.up hb25)))
                clear hb25 CF HB24
                have p0 := box_cell HB25.out.2.1 0
                have p1 := box_cell HB25.out.2.1 1
                have p2 := box_cell HB25.out.2.1 2
                have p3 := box_cell HB25.out.2.1 3
                have p4 := box_cell HB25.out.2.1 4
                have CM := jmay_any HB25.out.2.2
                rw [HM2.out] at CM
                have CM := Lib.hid CM
                go_wp2_with fail
                refine CM.out.mono ?_
                rintro e w26 ⟨rfl, hb26⟩
                have HX := Lib.hid (HB25.out.1.trans (hb26.mono HB25.out.1.size))
                clear hb26 CM HB25 p0 p1 p2 p3 p4
                go_wp2_with fail
                go_ret
                exact ⟨rfl, HX.out⟩
              · have g1 : decide ((20000 : Int) < (B2.length : Int)) = false := decide_eq_false (by omega)
                have hlE : parP B2 = .ok v2 B2.length := by rw [HB2v.out]; exact par_pr HM2.out (by rw [← HB2v.out]; omega)
                rw [hlE] at CX
                have CX := Lib.hid CX
                clear hlE hlong
                go_wp2_with fail
                refine CX.out.mono ?_
                rintro e w23 ⟨cs3, rfl, hv23, hb23⟩
                obtain ⟨al3, ll3, cl3, am3, lm3, cm3, rfl, _, _⟩ := hv23.open
                go_upto_region 21 with fail
                refine wp_any_world (fun X => Below w.heap.size w X ∧ X.heap[w20.heap.size]? = some (.cells #[.int .i64 v2.kind, .int .i64 v2.n, str v2.s, .slice al2 ll2 cl2, .slice am2 lm2 cm2] 25 (0, 0)) ∧ RdJ X (fun i => wc.heap.size ≤ i) v2 [.int .i64 v2.kind, .int .i64 v2.n, str v2.s, .slice al2 ll2 cl2, .slice am2 lm2 cm2] ∧ X.heap[w23.heap.size]? = some (.cells #[.int .i64 v2.kind, .int .i64 v2.n, str v2.s, .slice al3 ll3 cl3, .slice am3 lm3 cm3] 25 (0, 0)) ∧ RdJ X (fun i => w22.heap.size ≤ i) v2 [.int .i64 v2.kind, .int .i64 v2.n, str v2.s, .slice al3 ll3 cl3, .slice am3 lm3 cm3]) ⟨HB22.out.1.trans ((hb23.trans ((below_alloc _ _).mono hb23.size)).mono HB22.out.1.size), box_up HB22.out.2.1 (hb23.trans ((below_alloc _ _).mono hb23.size)), HB22.out.2.2.up (hb23.trans ((below_alloc _ _).mono hb23.size)), heap_alloc_new _ _, hv23.up (below_alloc _ _)⟩ ?_
                rintro w24 ⟨hw24, hx24, hv24, hy24, hu24⟩
                have HB24 := Lib.hid (And.intro hw24 (And.intro hx24 (And.intro hv24 (And.intro hy24 hu24))))
                clear hw24 hx24 hv24 hb23 CX HB22 hy24 hu24 hv23
                have CF := Lib.hid (jfirst_any w24 (HT.out.up HB24.out.1 HB24.out.1.size))
                go_wp2_with fail
                refine CF.out.mono ?_
                rintro e w25 ⟨rfl, hb25⟩
                have HB25 := Lib.hid (And.intro (HB24.out.1.trans (hb25.mono HB24.out.1.size)) (And.intro (box_up HB24.out.2.1 hb25) (And.intro (HB24.out.2.2.1.up hb25) (And.intro (box_up HB24.out.2.2.2.1 hb25) (HB24.out.2.2.2.2.up hb25)))))
                clear hb25 CF HB24
                have p0 := box_cell HB25.out.2.1 0
                have p1 := box_cell HB25.out.2.1 1
                have p2 := box_cell HB25.out.2.1 2
                have p3 := box_cell HB25.out.2.1 3
                have p4 := box_cell HB25.out.2.1 4
                have CM := jmay_any HB25.out.2.2.1
                rw [HM2.out] at CM
                have CM := Lib.hid CM
                go_wp2_with fail
                refine CM.out.mono ?_
                rintro e w26 ⟨rfl, hb26⟩
                have HB26 := Lib.hid (And.intro (HB25.out.1.trans (hb26.mono HB25.out.1.size)) (And.intro (box_up HB25.out.2.1 hb26) (And.intro (HB25.out.2.2.1.up hb26) (And.intro (box_up HB25.out.2.2.2.1 hb26) (HB25.out.2.2.2.2.up hb26)))))
                clear hb26 CM HB25 p0 p1 p2 p3 p4
                have p0 := box_cell HB26.out.2.1 0
                have p1 := box_cell HB26.out.2.1 1
                have p2 := box_cell HB26.out.2.1 2
                have p3 := box_cell HB26.out.2.1 3
                have p4 := box_cell HB26.out.2.1 4
                have r0 := box_cell HB26.out.2.2.2.1 0
                have r1 := box_cell HB26.out.2.2.2.1 1
                have r2 := box_cell HB26.out.2.2.2.1 2
                have r3 := box_cell HB26.out.2.2.2.1 3
                have r4 := box_cell HB26.out.2.2.2.1 4
                have CS := same_any v2 v2 _ _ _ _ _ HB26.out.2.2.2.2 HB26.out.2.2.1
                rw [samV_self] at CS
                have CS := Lib.hid CS
                go_wp2_with fail
                refine CS.out.mono ?_
                rintro e w27 ⟨rfl, hb27⟩
                have HX := Lib.hid (HB26.out.1.trans (hb27.mono HB26.out.1.size))
                clear hb27 CS HB26 p0 p1 p2 p3 p4 r0 r1 r2 r3 r4
                go_wp2_with fail
                go_ret
                exact ⟨rfl, HX.out⟩
          · have ts : decide ((B.length : Int) ≤ 19996) = false := decide_eq_false (by omega)
            clear hsm
            go_enter Tryd.func3, Tryd.ntmps3
            go_wp2_with fail
            rw [← hWa]
            refine C1.out.mono ?_
            rintro e w1 ⟨rfl, hb1⟩
            have HB1 : Hid (Below w.heap.size w w1 ∧ w1.heap[w.heap.size]? = some (.cells #[.int .i64 v.kind, .int .i64 v.n, str v.s, .slice al ll cl, .slice am lm cm] 25 (0, 0))) := Lib.hid ⟨HA.out.1.trans (hb1.mono HA.out.1.size), box_up HA.out.2 hb1⟩
            have CW := Lib.hid (few_any (HV.out.up HB1.out.1))
            rw [HF.out] at CW
            have q0 := box_cell HB1.out.2 0
            have q1 := box_cell HB1.out.2 1
            have q2 := box_cell HB1.out.2 2
            have q3 := box_cell HB1.out.2 3
            have q4 := box_cell HB1.out.2 4
            clear hb1 C1 hWa HA
            go_wp2_with fail
            refine CW.out.mono ?_
            rintro e w2 ⟨rfl, hb2⟩
            have HB2 : Hid (Below w.heap.size w w2 ∧ w2.heap[w.heap.size]? = some (.cells #[.int .i64 v.kind, .int .i64 v.n, str v.s, .slice al ll cl, .slice am lm cm] 25 (0, 0))) := Lib.hid ⟨HB1.out.1.trans (hb2.mono HB1.out.1.size), box_up HB1.out.2 hb2⟩
            clear hb2 CW HB1 q0 q1 q2 q3 q4
            have q0 := box_cell HB2.out.2 0
            have q1 := box_cell HB2.out.2 1
            have q2 := box_cell HB2.out.2 2
            have q3 := box_cell HB2.out.2 3
            have q4 := box_cell HB2.out.2 4
            have CP := Lib.hid (PY.out _ HB2.out.1)
            go_wp2_with fail
            refine CP.out.mono ?_
            rintro e w3 ⟨v3, rfl, hown3, hb3⟩
            obtain ⟨g, cp, rfl, _, _⟩ := World.ownsRow.form hown3 hpos
            have hcap : B.length ≤ cp ∧ cp ≤ 9223372036854775807 := by
              obtain ⟨a9, c9, e9, h91, h92, _⟩ := hown3.rd
              cases e9
              unfold maxLen at h92
              exact ⟨h91, h92⟩
            have HO3 : Hid (Below w.heap.size w w3 ∧ w3.heap[w.heap.size]? = some (.cells #[.int .i64 v.kind, .int .i64 v.n, str v.s, .slice al ll cl, .slice am lm cm] 25 (0, 0)) ∧ Rd w3 (.slice (some ⟨g, 0, none⟩) B.length cp) B) := Lib.hid ⟨HB2.out.1.trans (hb3.mono HB2.out.1.size), box_up HB2.out.2 hb3, hown3.rd⟩
            clear hb3 CP q0 q1 q2 q3 q4 hown3 HB2
            have q0 := box_cell HO3.out.2.1 0
            have q1 := box_cell HO3.out.2.1 1
            have q2 := box_cell HO3.out.2.1 2
            have q3 := box_cell HO3.out.2.1 3
            have q4 := box_cell HO3.out.2.1 4
            have CM := jmay_any (HV.out.up HO3.out.1)
            rw [HM.out] at CM
            have CM := Lib.hid CM
            go_wp2_with fail
            refine CM.out.mono ?_
            rintro e w4 ⟨rfl, hb4⟩
            have HO4 : Hid (Below w.heap.size w w4 ∧ w4.heap[w.heap.size]? = some (.cells #[.int .i64 v.kind, .int .i64 v.n, str v.s, .slice al ll cl, .slice am lm cm] 25 (0, 0)) ∧ Rd w4 (.slice (some ⟨g, 0, none⟩) B.length cp) B) := Lib.hid ⟨HO3.out.1.trans (hb4.mono HO3.out.1.size), box_up HO3.out.2.1 hb4, HO3.out.2.2.below hb4 (Nat.le_refl _)⟩
            clear hb4 CM HO3 q0 q1 q2 q3 q4
            have HB4 := Lib.hid HO4.out.1
            clear HO4
            have HBT := Lib.hid HB4.out
            have CB := parse_any (HRB.out.below HBT.out (Nat.le_refl _)) (by omega)
            cases hp : parP lb with
            | err c =>
              rw [hp] at CB
              have CB := Lib.hid CB
              clear hp
              go_wp2_with fail
              refine CB.out.mono ?_
              rintro e w20 ⟨rfl, hz20, hb20⟩
              have ez : ((c : Int) != 0) = true := by rw [bne_iff_ne]; omega
              go_upto_region 17 with fail
              refine wp_any_world (fun X => Below w.heap.size w X ∧ X.heap[w20.heap.size]? = some (.cells #[.int .i64 0, .int .i64 0, str [], .slice none 0 0, .slice none 0 0] 25 (0, 0))) ⟨HBT.out.trans ((hb20.trans ((below_alloc _ _).mono hb20.size)).mono HBT.out.size), heap_alloc_new _ _⟩ ?_
              rintro w21 ⟨hw21, hx21⟩
              have HB21 := Lib.hid (And.intro hw21 hx21)
              clear hw21 hx21 hb20 CB hz20 HBT
              have CF := Lib.hid (jfirst_any w21 (HT.out.up HB21.out.1 HB21.out.1.size))
              go_wp2_with fail
              refine CF.out.mono ?_
              rintro e w22 ⟨rfl, hb22⟩
              have HX := Lib.hid (HB21.out.1.trans (hb22.mono HB21.out.1.size))
              have p0 := box_cell (box_up HB21.out.2 hb22) 0
              clear hb22 CF HB21
              go_wp2_with fail
              go_ret
              exact ⟨rfl, HX.out⟩
            | ok v2 z2 =>
              rw [hp] at CB
              have CB := Lib.hid CB
              have HM2 := Lib.hid (parP_may hp)
              have HL2 := Lib.hid (parP_len hp)
              clear hp
              go_wp2_with fail
              refine CB.out.mono ?_
              rintro e w20 ⟨cs2, rfl, hv20, hb20⟩
              obtain ⟨al2, ll2, cl2, am2, lm2, cm2, rfl, _, _⟩ := hv20.open
              go_upto_region 17 with fail
              refine wp_any_world (fun X => Below w.heap.size w X ∧ X.heap[w20.heap.size]? = some (.cells #[.int .i64 v2.kind, .int .i64 v2.n, str v2.s, .slice al2 ll2 cl2, .slice am2 lm2 cm2] 25 (0, 0)) ∧ RdJ X (fun i => w4.heap.size ≤ i) v2 [.int .i64 v2.kind, .int .i64 v2.n, str v2.s, .slice al2 ll2 cl2, .slice am2 lm2 cm2]) ⟨HBT.out.trans ((hb20.trans ((below_alloc _ _).mono hb20.size)).mono HBT.out.size), heap_alloc_new _ _, hv20.up (below_alloc _ _)⟩ ?_
              rintro w21 ⟨hw21, hx21, hv21⟩
              have HB21 := Lib.hid (And.intro hw21 (And.intro hx21 hv21))
              clear hw21 hx21 hb20 CB hv20 HBT hv21
              have CP := Lib.hid (print_yes HB21.out.2.2 HM2.out HL2.out (HT.out.up HB21.out.1 HB21.out.1.size))
              have p0 := box_cell HB21.out.2.1 0
              have p1 := box_cell HB21.out.2.1 1
              have p2 := box_cell HB21.out.2.1 2
              have p3 := box_cell HB21.out.2.1 3
              have p4 := box_cell HB21.out.2.1 4
              have hpos2 : 0 < (prV v2).length := by
                obtain ⟨c0, r0, e0, _⟩ := prV_head HM2.out
                rw [e0]; simp
              obtain ⟨B2, hB2⟩ : ∃ B2, B2 = prV v2 := ⟨_, rfl⟩
              rw [← hB2] at CP hpos2
              have hB2l : B2.length ≤ 70368744177664 := by rw [hB2]; exact HL2.out
              have HB2v := Lib.hid hB2
              clear hB2
              go_wp2_with fail
              refine CP.out.mono ?_
              rintro e w22 ⟨v22, rfl, hown22, hb22⟩
              obtain ⟨g2, cp2, rfl, _, _⟩ := World.ownsRow.form hown22 hpos2
              have HB22 := Lib.hid (And.intro (HB21.out.1.trans (hb22.mono HB21.out.1.size)) (And.intro (box_up HB21.out.2.1 hb22) (HB21.out.2.2.up hb22)))
              have CX := parse_any hown22.rd (by omega)
              clear hb22 CP HB21 hown22 p0 p1 p2 p3 p4
              by_cases hlong : 20000 < B2.length
              · have g1 : decide ((20000 : Int) < (B2.length : Int)) = true := decide_eq_true (by omega)
                have hlE : parP B2 = .err 3 := by unfold parP; rw [if_pos hlong]
                rw [hlE] at CX
                have CX := Lib.hid CX
                clear hlE hlong
                go_wp2_with fail
                refine CX.out.mono ?_
                rintro e w23 ⟨rfl, _, hb23⟩
                go_upto_region 21 with fail
                refine wp_any_world (fun X => Below w.heap.size w X ∧ X.heap[w20.heap.size]? = some (.cells #[.int .i64 v2.kind, .int .i64 v2.n, str v2.s, .slice al2 ll2 cl2, .slice am2 lm2 cm2] 25 (0, 0)) ∧ RdJ X (fun i => w4.heap.size ≤ i) v2 [.int .i64 v2.kind, .int .i64 v2.n, str v2.s, .slice al2 ll2 cl2, .slice am2 lm2 cm2]) ⟨HB22.out.1.trans ((hb23.trans ((below_alloc _ _).mono hb23.size)).mono HB22.out.1.size), box_up HB22.out.2.1 (hb23.trans ((below_alloc _ _).mono hb23.size)), HB22.out.2.2.up (hb23.trans ((below_alloc _ _).mono hb23.size))⟩ ?_
                rintro w24 ⟨hw24, hx24, hv24⟩
                have HB24 := Lib.hid (And.intro hw24 (And.intro hx24 hv24))
                clear hw24 hx24 hv24 hb23 CX HB22
                have CF := Lib.hid (jfirst_any w24 (HT.out.up HB24.out.1 HB24.out.1.size))
                go_wp2_with fail
                refine CF.out.mono ?_
                rintro e w25 ⟨rfl, hb25⟩
                have HB25 := Lib.hid (And.intro (HB24.out.1.trans (hb25.mono HB24.out.1.size)) (And.intro (box_up HB24.out.2.1 hb25) (HB24.out.2.2.up hb25)))
                clear hb25 CF HB24
                have p0 := box_cell HB25.out.2.1 0
                have p1 := box_cell HB25.out.2.1 1
                have p2 := box_cell HB25.out.2.1 2
                have p3 := box_cell HB25.out.2.1 3
                have p4 := box_cell HB25.out.2.1 4
                have CM := jmay_any HB25.out.2.2
                rw [HM2.out] at CM
                have CM := Lib.hid CM
                go_wp2_with fail
                refine CM.out.mono ?_
                rintro e w26 ⟨rfl, hb26⟩
                have HX := Lib.hid (HB25.out.1.trans (hb26.mono HB25.out.1.size))
                clear hb26 CM HB25 p0 p1 p2 p3 p4
                go_wp2_with fail
                go_ret
                exact ⟨rfl, HX.out⟩
              · have g1 : decide ((20000 : Int) < (B2.length : Int)) = false := decide_eq_false (by omega)
                have hlE : parP B2 = .ok v2 B2.length := by rw [HB2v.out]; exact par_pr HM2.out (by rw [← HB2v.out]; omega)
                rw [hlE] at CX
                have CX := Lib.hid CX
                clear hlE hlong
                go_wp2_with fail
                refine CX.out.mono ?_
                rintro e w23 ⟨cs3, rfl, hv23, hb23⟩
                obtain ⟨al3, ll3, cl3, am3, lm3, cm3, rfl, _, _⟩ := hv23.open
                go_upto_region 21 with fail
                refine wp_any_world (fun X => Below w.heap.size w X ∧ X.heap[w20.heap.size]? = some (.cells #[.int .i64 v2.kind, .int .i64 v2.n, str v2.s, .slice al2 ll2 cl2, .slice am2 lm2 cm2] 25 (0, 0)) ∧ RdJ X (fun i => w4.heap.size ≤ i) v2 [.int .i64 v2.kind, .int .i64 v2.n, str v2.s, .slice al2 ll2 cl2, .slice am2 lm2 cm2] ∧ X.heap[w23.heap.size]? = some (.cells #[.int .i64 v2.kind, .int .i64 v2.n, str v2.s, .slice al3 ll3 cl3, .slice am3 lm3 cm3] 25 (0, 0)) ∧ RdJ X (fun i => w22.heap.size ≤ i) v2 [.int .i64 v2.kind, .int .i64 v2.n, str v2.s, .slice al3 ll3 cl3, .slice am3 lm3 cm3]) ⟨HB22.out.1.trans ((hb23.trans ((below_alloc _ _).mono hb23.size)).mono HB22.out.1.size), box_up HB22.out.2.1 (hb23.trans ((below_alloc _ _).mono hb23.size)), HB22.out.2.2.up (hb23.trans ((below_alloc _ _).mono hb23.size)), heap_alloc_new _ _, hv23.up (below_alloc _ _)⟩ ?_
                rintro w24 ⟨hw24, hx24, hv24, hy24, hu24⟩
                have HB24 := Lib.hid (And.intro hw24 (And.intro hx24 (And.intro hv24 (And.intro hy24 hu24))))
                clear hw24 hx24 hv24 hb23 CX HB22 hy24 hu24 hv23
                have CF := Lib.hid (jfirst_any w24 (HT.out.up HB24.out.1 HB24.out.1.size))
                go_wp2_with fail
                refine CF.out.mono ?_
                rintro e w25 ⟨rfl, hb25⟩
                have HB25 := Lib.hid (And.intro (HB24.out.1.trans (hb25.mono HB24.out.1.size)) (And.intro (box_up HB24.out.2.1 hb25) (And.intro (HB24.out.2.2.1.up hb25) (And.intro (box_up HB24.out.2.2.2.1 hb25) (HB24.out.2.2.2.2.up hb25)))))
                clear hb25 CF HB24
                have p0 := box_cell HB25.out.2.1 0
                have p1 := box_cell HB25.out.2.1 1
                have p2 := box_cell HB25.out.2.1 2
                have p3 := box_cell HB25.out.2.1 3
                have p4 := box_cell HB25.out.2.1 4
                have CM := jmay_any HB25.out.2.2.1
                rw [HM2.out] at CM
                have CM := Lib.hid CM
                go_wp2_with fail
                refine CM.out.mono ?_
                rintro e w26 ⟨rfl, hb26⟩
                have HB26 := Lib.hid (And.intro (HB25.out.1.trans (hb26.mono HB25.out.1.size)) (And.intro (box_up HB25.out.2.1 hb26) (And.intro (HB25.out.2.2.1.up hb26) (And.intro (box_up HB25.out.2.2.2.1 hb26) (HB25.out.2.2.2.2.up hb26)))))
                clear hb26 CM HB25 p0 p1 p2 p3 p4
                have p0 := box_cell HB26.out.2.1 0
                have p1 := box_cell HB26.out.2.1 1
                have p2 := box_cell HB26.out.2.1 2
                have p3 := box_cell HB26.out.2.1 3
                have p4 := box_cell HB26.out.2.1 4
                have r0 := box_cell HB26.out.2.2.2.1 0
                have r1 := box_cell HB26.out.2.2.2.1 1
                have r2 := box_cell HB26.out.2.2.2.1 2
                have r3 := box_cell HB26.out.2.2.2.1 3
                have r4 := box_cell HB26.out.2.2.2.1 4
                have CS := same_any v2 v2 _ _ _ _ _ HB26.out.2.2.2.2 HB26.out.2.2.1
                rw [samV_self] at CS
                have CS := Lib.hid CS
                go_wp2_with fail
                refine CS.out.mono ?_
                rintro e w27 ⟨rfl, hb27⟩
                have HX := Lib.hid (HB26.out.1.trans (hb27.mono HB26.out.1.size))
                clear hb27 CS HB26 p0 p1 p2 p3 p4 r0 r1 r2 r3 r4
                go_wp2_with fail
                go_ret
                exact ⟨rfl, HX.out⟩
end Go.Proofs.YtidlhajibjnkeaaDoor
