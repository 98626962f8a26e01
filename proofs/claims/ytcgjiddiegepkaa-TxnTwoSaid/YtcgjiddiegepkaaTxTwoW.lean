import Derived.Test.YtcgjiddiegepkaaTxTwoF
import Derived.Laws.Cover1
import Derived.Deep.RegionHeld3
import Derived.Deep.CutRange
import Derived.Deep.CutBlock
/- TxnTwo: the walk. -/
namespace Go.Proofs.Ytcgjiddiegepkaa
open Go.RowKit
/-- In the first loop. -/
def TwI (X : World) (s mb : Nat) (C : ChC) (tb wb ub vb : Nat) (at1 : Int) (nb : Nat) (vw : Value) (L0 : List PairT) (W : World) (L : OwnL) (k : Nat) : Prop :=
  T2 X W s mb C 0 300 tb wb L k ub vb [] 0 at1 ∧ W.ownsRow nb 63 2 vw L0.length (L0.map cellsP).flatten ∧ wb < nb ∧ Pts L
variable {X W : World} {s mb : Nat} {C : ChC} {tb wb ub vb : Nat} {at1 : Int} {nb : Nat} {vw : Value} {L0 : List PairT} {L : OwnL} {k : Nat}
theorem TwI.below {W' : World} (h : TwI X s mb C tb wb ub vb at1 nb vw L0 W L k) (hb : Below W.heap.size W W') : TwI X s mb C tb wb ub vb at1 nb vw L0 W' L k :=
  ⟨h.1.below hb, owns_frm h.2.1 (Frm.of_below (F := fun _ => False) hb) (fun _ _ h => h), h.2.2⟩
theorem twPut (h : TwI X s mb C tb wb ub vb at1 nb vw L0 W L k) (hk : k ≤ 100000) (x y : List UInt8) (hx : x.length ≤ 9223372036854775807) (hy : y.length ≤ 9223372036854775807) :
    Calls Try.prog 14 #[.pointer (some ⟨tb, 0, none⟩), str x, str y] W fun e W' => ∃ z, e = .returned (.int .i64 z) ∧ Hid (TwI X s mb C tb wb ub vb at1 nb vw L0 W' (wrL L (x, y, false)) (k + 1)) := by
  refine (t2Put h.1 hk x y hx hy).mono ?_
  rintro e W' ⟨rfl, h1, h2⟩
  exact ⟨_, rfl, Lib.hid ⟨h1, owns_frm h.2.1 h2 (fun i hi e => by have := (h.2.1.lt i hi).1; have := h.2.2.1; omega), h.2.2.1, pts_put h.1.t.rs h.2.2.2 x y⟩⟩
theorem rdp_own {W : World} {base : Nat} {v : Value} {l : List PairT} (h : W.ownsRow base 63 2 v l.length (l.map cellsP).flatten) : RdP W v l :=
  RdF.of_row (fun r hr => by obtain ⟨y, _, rfl⟩ := List.mem_map.1 hr; rfl) (by simpa using h)
theorem rd_wr_get {W : World} {a : Option Addr} {n c : Nat} {l : List WrT} (h : RdF 3 W (.slice a n c) (l.map cellsWr)) {i : Nat} (hi : i < l.length) : ∃ b off, a = some ⟨b, off, none⟩ ∧ W.cell? ⟨b, off + i * 3, none⟩ = some (str l[i].1) ∧ W.cell? ⟨b, off + i * 3 + 1, none⟩ = some (str l[i].2.1) := by
  obtain ⟨a', c', he, _, _, _, h4⟩ := h
  simp only [Value.slice.injEq] at he
  obtain ⟨rfl, _, rfl⟩ := he
  obtain ⟨b, off, ha, hc⟩ := h4 (by intro e; rw [List.map_eq_nil_iff] at e; rw [e] at hi; simp at hi)
  have hi' : i < (l.map cellsWr).length := by simpa using hi
  exact ⟨b, off, ha, hc i hi' 0 _ (by simp [cellsWr]), hc i hi' 1 _ (by simp [cellsWr])⟩
theorem any_take (f : List UInt8 × WrT → Bool) (L : OwnL) {q : Nat} (hq : q < L.length) : (L.take (q + 1)).any f = ((L.take q).any f || f L[q]) := by
  rw [List.take_succ_eq_append_getElem hq, List.any_append]; simp
theorem sgLast {K : Nat → Prop} {low : Int} {n : Nat} (h : SG X K W s mb C low n) (hn : n ≤ 10000) (key : List UInt8) : Calls Try.prog 24 #[.pointer (some ⟨s, 0, none⟩), str key] W fun e w' => e = .returned (.int .i64 (lastTVS (verC key C))) ∧ W = w' := by
  obtain ⟨t, S, h1, h2, _⟩ := h
  have := lastVS_any h1 (by omega) key
  rw [ver_chs, h2] at this
  exact this
theorem txAt {tb wb : Nat} (h : TxS W tb s wb at1 L k) : Calls Try.prog 13 #[.pointer (some ⟨tb, 0, none⟩)] W fun e w' => e = .returned (.int .i64 at1) ∧ w' = W := by
  obtain ⟨_, c1, _⟩ := h.box.cells
  clear h
  go_enter Try.func13, Try.ntmps13
  go_wp2_with fail
  go_ret
  exact ⟨rfl, rfl⟩
/-- In the third loop. -/
def TwW (X : World) (s mb : Nat) (C : ChC) (tb wb ub vb : Nat) (at1 : Int) (M : OwnL) (j nb : Nat) (vw : Value) (W : World) (L : OwnL) (k : Nat) : Prop :=
  T2 X W s mb C 0 300 tb wb L k ub vb M j at1 ∧ W.ownsRow nb 58 3 vw L.length ((L.map Prod.snd).map cellsWr).flatten ∧ Pts L
theorem TwW.below {M : OwnL} {j : Nat} {W' : World} (h : TwW X s mb C tb wb ub vb at1 M j nb vw W L k) (hb : Below W.heap.size W W') : TwW X s mb C tb wb ub vb at1 M j nb vw W' L k :=
  ⟨h.1.below hb, owns_frm h.2.1 (Frm.of_below (F := fun _ => False) hb) (fun _ _ h => h), h.2.2⟩
set_option maxRecDepth 100000 in
set_option maxHeartbeats 8000000 in
theorem two12_walk (vv : Value) (l : List Op11) (at1 : Int) (va : Value) (A : List Op12) (vb : Value) (B : List Op12) (key : List UInt8) (w : World) (hv : Rd11 w vv l) (hsv : ∀ o ∈ l, o.ok) (ha : Rd12 w va A) (hsa : ∀ o ∈ A, o.ok) (hb : Rd12 w vb B) (hsb : ∀ o ∈ B, o.ok) (hat : -9223372036854775808 ≤ at1 ∧ at1 ≤ 9223372036854775807) (_ : key.length ≤ 9223372036854775807) :
    Calls Try.prog 7 #[vv, .int .i64 at1, va, vb, str key] w fun e w' => e = .returned (.bool true) ∧ Below w.heap.size w w' := by
  have CF := Lib.hid v12first_any
  have CST : Hid (∀ W, Below w.heap.size w W → Calls Try.prog 9 #[vv] W fun e W' => ∃ s mb b, e = .returned (.tuple #[.pointer (some ⟨s, 0, none⟩), .pointer (some ⟨b, 0, none⟩)]) ∧ Hid (JS W b W' s mb b (storesC l) 0 (storesC l) 0 300)) :=
    Lib.hid (fun W h => (stores_any vv l W (hv.up h) hsv).mono (by rintro e W' ⟨s, mb, b, rfl, h1, _⟩; exact ⟨s, mb, b, rfl, Lib.hid h1⟩))
  have CA : Hid (∀ W, Below w.heap.size w W → Calls Try.prog 10 #[va] W (FewP12 A W)) := Lib.hid (fun W h => few12_any va A W (ha.up h) hsa)
  have CB : Hid (∀ W, Below w.heap.size w W → Calls Try.prog 10 #[vb] W (FewP12 B W)) := Lib.hid (fun W h => few12_any vb B W (hb.up h) hsb)
  have HRA := Lib.hid ha
  have HRB := Lib.hid hb
  obtain ⟨aa, ca, rfl, hla0⟩ := ha.form
  obtain ⟨ab, cb, rfl, hlb0⟩ := hb.form
  obtain ⟨av, cv, rfl, _⟩ := hv.form
  clear ha hb hv hsv
  go_enter Try.func7, Try.ntmps7
  go_wp2_with fail
  refine (CF.out _).mono ?_
  rintro e w1 ⟨rfl, hb1⟩
  have H1 := Lib.hid hb1
  clear hb1
  go_wp2_with fail
  refine (CST.out _ H1.out).mono ?_
  rintro e w2 ⟨s, mb, b, rfl, H2⟩
  have HB2 : Hid (Below w.heap.size w w2) := Lib.hid (H1.out.trans (H2.out.bel.mono H1.out.size))
  clear CST
  go_wp2_with fail
  refine (CA.out _ HB2.out).mono ?_
  rintro e w3 ⟨fa, rfl, hfa, hb3⟩
  have H3 := Lib.hid (H2.out.below hb3)
  have HB3 : Hid (Below w.heap.size w w3) := Lib.hid (HB2.out.trans (hb3.mono HB2.out.size))
  clear CA H2 HB2 hb3
  cases fa
  case false =>
    go_wp2_with fail
    refine (CF.out _).mono ?_
    rintro e wE ⟨rfl, hbE⟩
    have HX := Lib.hid (HB3.out.trans (hbE.mono HB3.out.size))
    clear hbE
    go_wp2_with fail
    go_ret
    exact ⟨rfl, HX.out⟩
  go_wp2_with fail
  refine (CB.out _ HB3.out).mono ?_
  rintro e w4 ⟨fb, rfl, hfb, hb4⟩
  have H4 : Hid (SG w1 (fun _ => False) w4 s mb (storesC l) 0 300) := Lib.hid (by
    obtain ⟨vo, R, h1, _⟩ := H3.out.below hb4
    exact h1.weak (fun i hi => hi.elim))
  have HB4 : Hid (Below w.heap.size w w4) := Lib.hid (HB3.out.trans (hb4.mono HB3.out.size))
  clear CB H3 HB3 hb4 hfa hfb
  cases fb
  case false =>
    go_wp2_with fail
    refine (CF.out _).mono ?_
    rintro e wE ⟨rfl, hbE⟩
    have HX := Lib.hid (HB4.out.trans (hbE.mono HB4.out.size))
    clear hbE
    go_wp2_with fail
    go_ret
    exact ⟨rfl, HX.out⟩
  by_cases d0 : (200 : Int) < (A.length : Int)
  · have e0 : decide ((200 : Int) < (A.length : Int)) = true := decide_eq_true d0
    go_wp2_with fail
    refine (CF.out _).mono ?_
    rintro e wE ⟨rfl, hbE⟩
    have HX := Lib.hid (HB4.out.trans (hbE.mono HB4.out.size))
    clear hbE
    go_wp2_with fail
    go_ret
    exact ⟨rfl, HX.out⟩
  have e0 : decide ((200 : Int) < (A.length : Int)) = false := decide_eq_false d0
  by_cases d1 : (200 : Int) < (B.length : Int)
  · have e1 : decide ((200 : Int) < (B.length : Int)) = true := decide_eq_true d1
    go_wp2_with fail
    refine (CF.out _).mono ?_
    rintro e wE ⟨rfl, hbE⟩
    have HX := Lib.hid (HB4.out.trans (hbE.mono HB4.out.size))
    clear hbE
    go_wp2_with fail
    go_ret
    exact ⟨rfl, HX.out⟩
  have e1 : decide ((200 : Int) < (B.length : Int)) = false := decide_eq_false d1
  by_cases d2 : (key.length : Int) < 1
  · have e2 : decide ((key.length : Int) < 1) = true := decide_eq_true d2
    go_wp2_with fail
    refine (CF.out _).mono ?_
    rintro e wE ⟨rfl, hbE⟩
    have HX := Lib.hid (HB4.out.trans (hbE.mono HB4.out.size))
    clear hbE
    go_wp2_with fail
    go_ret
    exact ⟨rfl, HX.out⟩
  have e2 : decide ((key.length : Int) < 1) = false := decide_eq_false d2
  by_cases d3 : (1000 : Int) < (key.length : Int)
  · have e3 : decide ((1000 : Int) < (key.length : Int)) = true := decide_eq_true d3
    go_wp2_with fail
    refine (CF.out _).mono ?_
    rintro e wE ⟨rfl, hbE⟩
    have HX := Lib.hid (HB4.out.trans (hbE.mono HB4.out.size))
    clear hbE
    go_wp2_with fail
    go_ret
    exact ⟨rfl, HX.out⟩
  have e3 : decide ((1000 : Int) < (key.length : Int)) = false := decide_eq_false d3
  by_cases d4 : at1 < 0
  · have e4 : decide (at1 < 0) = true := decide_eq_true d4
    go_wp2_with fail
    refine (CF.out _).mono ?_
    rintro e wE ⟨rfl, hbE⟩
    have HX := Lib.hid (HB4.out.trans (hbE.mono HB4.out.size))
    clear hbE
    go_wp2_with fail
    go_ret
    exact ⟨rfl, HX.out⟩
  have e4 : decide (at1 < 0) = false := decide_eq_false d4
  by_cases d5 : (274877906944 : Int) < at1
  · have e5 : decide ((274877906944 : Int) < at1) = true := decide_eq_true d5
    go_wp2_with fail
    refine (CF.out _).mono ?_
    rintro e wE ⟨rfl, hbE⟩
    have HX := Lib.hid (HB4.out.trans (hbE.mono HB4.out.size))
    clear hbE
    go_wp2_with fail
    go_ret
    exact ⟨rfl, HX.out⟩
  have e5 : decide ((274877906944 : Int) < at1) = false := decide_eq_false d5
  obtain ⟨C, hC⟩ : ∃ C, C = storesC l := ⟨_, rfl⟩
  rw [← hC] at H4
  clear hC
  go_wp2_with fail
  refine (ttBegin H4.out at1).mono ?_
  rintro e w5 ⟨tb, wb, rfl, h5⟩
  have H5 := Lib.hid h5
  have HB5 : Hid (Below w.heap.size w w5) := Lib.hid (H1.out.trans (h5.sg.bel.mono H1.out.size))
  clear h5 H4 HB4
  go_wp2_with fail
  refine (t2Begin H5.out).mono ?_
  rintro e w6 ⟨ub, vb, rfl, h6⟩
  have H6 := Lib.hid h6
  clear h6 H5 HB5
  go_wp2_with fail
  refine (ttScan H6.out.ut).mono ?_
  rintro e w7 ⟨b7, rfl, hL7, hb7⟩
  have H7 := Lib.hid (H6.out.below hb7)
  have CP7 := Lib.hid (ttPairs H7.out.ut (by decide) (by decide) hL7 1048576 (by decide))
  clear hL7 hb7 H6
  obtain ⟨L0, hL0⟩ : ∃ L0, L0 = (sawT at1 C []).take (1048576 : Int).toNat := ⟨_, rfl⟩
  rw [← hL0] at CP7
  have HL0 := Lib.hid hL0
  clear hL0
  go_wp2_with fail
  refine CP7.out.mono ?_
  rintro e w8 ⟨vw, rfl, hr8, hb8⟩
  have H8 : Hid (TwI w1 s mb C tb wb ub vb at1 w7.heap.size vw L0 w8 [] 0) := Lib.hid ⟨H7.out.below hb8, hr8, H7.out.t.lt.2, fun _ h => by cases h⟩
  clear CP7 hr8 hb8 H7
  obtain ⟨nb, hnb⟩ : ∃ nb, nb = w7.heap.size := ⟨_, rfl⟩
  rw [← hnb] at H8
  clear hnb
  go_wp2_with fail
  go_loopw [16] (fun i wr => ∃ (k : Nat) (L : OwnL), k ≤ A.length ∧ i = .int .i64 (k : Int) ∧ Hid (TwI w1 s mb C tb wb ub vb at1 nb vw L0 wr L k)) (fun i _ => A.length - (intOf i).toNat)
  case atStart => exact ⟨0, [], Nat.zero_le _, rfl, H8⟩
  case round =>
    clear H8
    obtain ⟨k, L, hk, rfl, HG⟩ := hrel
    by_cases hlt : k < A.length
    · have g3 : decide ((k : Int) < (A.length : Int)) = true := decide_eq_true (by omega)
      have g3' : (k : Int) < (A.length : Int) := by omega
      have g4 : (0 : Int) ≤ (k : Int) := by omega
      have HW : Hid (∀ W L' k', Hid (TwI w1 s mb C tb wb ub vb at1 nb vw L0 W L' k') → Below w.heap.size w W) := Lib.hid (fun W L' k' h => H1.out.trans (h.out.1.sg.bel.mono H1.out.size))
      obtain ⟨bA, oA, rfl, _, c2, c3, _⟩ := (HRA.out.up (HW.out _ _ _ HG)).get hlt
      have HCC : Hid (∀ W L' k', Hid (TwI w1 s mb C tb wb ub vb at1 nb vw L0 W L' k') → W.cell? ⟨bA, oA + k * 4 + 1, none⟩ = some (str A[k].key) ∧ W.cell? ⟨bA, oA + k * 4 + 2, none⟩ = some (str A[k].v)) := Lib.hid (fun W L' k' h => by
        obtain ⟨b', o', he, _, q2, q3, _⟩ := (HRA.out.up (HW.out _ _ _ h)).get hlt
        simp only [Option.some.injEq, Addr.mk.injEq] at he
        obtain ⟨rfl, rfl, _⟩ := he
        exact ⟨q2, q3⟩)
      obtain ⟨_, z2, z3, _⟩ := hsa _ (List.getElem_mem hlt)
      obtain ⟨ky, hky⟩ : ∃ ky, ky = A[k].key := ⟨_, rfl⟩
      obtain ⟨y, hy⟩ : ∃ y, y = A[k].v := ⟨_, rfl⟩
      rw [← hky] at c2 z2 HCC
      rw [← hy] at c3 z3 HCC
      clear hky hy
      have HG1 : Hid (TwI w1 s mb C tb wb ub vb at1 nb vw L0 wr.drew L k) := Lib.hid (HG.out.below (Below.drewsN (Below.refl _ _) 1))
      have CP := Lib.hid (twPut HG1.out (by omega) ky y z2 z3)
      clear z2 z3 HG HG1
      go_wp2_with fail
      go_region_held3 (fun W' => W'.cell? ⟨bA, oA + k * 4 + 1, none⟩ = some (str ky) ∧ W'.cell? ⟨bA, oA + k * 4 + 2, none⟩ = some (str y))
        (first
          | (exact ⟨c2, c3⟩)
          | (exact HCC.out _ _ _ hg9)
          | go_keep)
        ((first
          | (go_at_call 14; refine CP.out.mono ?_; rintro e w9 ⟨z9, rfl, hg9⟩)
          | fail))
      all_goals
        go_wp2_with fail
        go_roundw
        case rel => exact ⟨k + 1, _, by omega, by go_num, hg9⟩
        case measure => simp [intOf]; omega
    · obtain rfl : k = A.length := by omega
      have g3 : decide ((A.length : Int) < (A.length : Int)) = false := decide_eq_false (by omega)
      have g3' : ¬ (A.length : Int) < (A.length : Int) := by omega
      have HPT : Hid (Pts L) := Lib.hid HG.out.2.2.2
      go_wp2_with fail
      refine (ttScan HG.out.1.ut).mono ?_
      rintro e wA ⟨bA, rfl, hLA, hbA⟩
      have HGA := Lib.hid (HG.out.below hbA)
      have CPA := Lib.hid (ttPairs HGA.out.1.ut (by decide) (by decide) hLA 1048576 (by decide))
      rw [← HL0.out] at CPA
      clear hLA hbA HG
      go_wp2_with fail
      refine CPA.out.mono ?_
      rintro e wB ⟨vx, rfl, hrx, hbx⟩
      have HGB := Lib.hid (HGA.out.below hbx)
      have CAL := Lib.hid (alikePairs_any vx vw L0 wB (rdp_own hrx) (rdp_own HGB.out.2.1))
      clear CPA HGA hrx hbx
      go_wp2_with fail
      refine CAL.out.mono ?_
      rintro e wC ⟨rfl, hbc⟩
      have HGC : Hid (T2 w1 wC s mb C 0 300 tb wb L A.length ub vb [] 0 at1) := Lib.hid (HGB.out.1.below hbc)
      clear CAL HGB hbc
      go_wp2_with fail
      go_loopw [17] (fun i wr2 => ∃ (j : Nat) (M : OwnL), j ≤ B.length ∧ i = .int .i64 (j : Int) ∧ Hid (T2 w1 wr2 s mb C 0 300 tb wb L A.length ub vb M j at1)) (fun i _ => B.length - (intOf i).toNat)
      case atStart => exact ⟨0, [], Nat.zero_le _, rfl, HGC⟩
      case round =>
        clear HGC
        obtain ⟨j, M, hj, rfl, HG⟩ := hrel
        by_cases hlt : j < B.length
        · have g3 : decide ((j : Int) < (B.length : Int)) = true := decide_eq_true (by omega)
          have g3' : (j : Int) < (B.length : Int) := by omega
          have g4 : (0 : Int) ≤ (j : Int) := by omega
          have HW := Lib.hid (H1.out.trans (HG.out.sg.bel.mono H1.out.size))
          obtain ⟨bA, oA, rfl, _, c2, _, _⟩ := (HRB.out.up HW.out).get hlt
          obtain ⟨_, z2, _, _⟩ := hsb _ (List.getElem_mem hlt)
          obtain ⟨ky, hky⟩ : ∃ ky, ky = B[j].key := ⟨_, rfl⟩
          rw [← hky] at c2 z2
          clear hky
          have CD := Lib.hid (t2Delete HG.out (by omega) ky z2)
          clear HG z2 HW
          go_wp2_with fail
          refine CD.out.mono ?_
          rintro e w9 ⟨rfl, h9⟩
          have H9 := Lib.hid h9
          clear h9 CD
          go_wp2_with fail
          go_roundw
          case rel => exact ⟨j + 1, _, by omega, by go_num, H9⟩
          case measure => simp [intOf]; omega
        · obtain rfl : j = B.length := by omega
          have g3 : decide ((B.length : Int) < (B.length : Int)) = false := decide_eq_false (by omega)
          have g3' : ¬ (B.length : Int) < (B.length : Int) := by omega
          have CW := Lib.hid (txWrites HG.out.t (by omega))
          go_wp2_with fail
          refine CW.out.mono ?_
          rintro e wD ⟨vws, rfl, hrw, hbd⟩
          rw [List.length_map] at hrw
          obtain ⟨nw, hnw⟩ : ∃ nw, nw = wr.heap.size := ⟨_, rfl⟩
          rw [← hnw] at hrw
          have HGD : Hid (TwW w1 s mb C tb wb ub vb at1 M B.length nw vws wD L A.length) := Lib.hid ⟨HG.out.below hbd, hrw, HPT.out⟩
          clear CW HG hrw hbd hnw
          obtain ⟨O, hO⟩ : ∃ O, O = L.any (fun z => decide (at1 < lastTVS (verC z.1 C))) := ⟨_, rfl⟩
          have CC := Lib.hid (ttClash HGD.out.1.tt (by decide))
          unfold ClR at CC
          rw [← hO] at CC
          have HO := Lib.hid hO
          clear hO
          go_wp2_with fail
          refine CC.out.mono ?_
          rintro e wE ⟨rfl, hbe⟩
          have HGE := Lib.hid (HGD.out.below hbe)
          clear CC HGD hbe
          obtain ⟨a3, c3, rfl, hl3⟩ : ∃ a c, vws = .slice a L.length c ∧ L.length ≤ 9223372036854775807 := by
            obtain ⟨a, c, h1, h2, _⟩ := rd_wr (l := L.map Prod.snd) (by rw [List.length_map]; exact HGE.out.2.1)
            rw [List.length_map, List.length_map] at h1 h2
            exact ⟨a, c, h1, h2⟩
          go_wp2_with fail
          go_loopw [18, 21] (fun m i wr => ∃ (q : Nat) (mn : Bool), q ≤ L.length ∧ m = .bool mn ∧ i = .int .i64 (q : Int) ∧ Hid (mn = (L.take q).any (fun z => z.1 == key)) ∧ Hid (TwW w1 s mb C tb wb ub vb at1 M B.length nw (.slice a3 L.length c3) wr L A.length)) (fun _ i _ => L.length - (intOf i).toNat)
          case atStart => exact ⟨0, false, Nat.zero_le _, rfl, rfl, Lib.hid rfl, HGE⟩
          case round =>
            clear HGE
            obtain ⟨q, mn, hq, rfl, rfl, HM, HG⟩ := hrel
            by_cases hlt : q < L.length
            · have g3 : decide ((q : Int) < (L.length : Int)) = true := decide_eq_true (by omega)
              have g3' : (q : Int) < (L.length : Int) := by omega
              have g4 : (0 : Int) ≤ (q : Int) := by omega
              have hrd := rd_wr (l := L.map Prod.snd) (by rw [List.length_map]; exact HG.out.2.1)
              obtain ⟨bA, oA, rfl, c0, c1⟩ := rd_wr_get hrd (i := q) (by rw [List.length_map]; exact hlt)
              simp only [List.getElem_map] at c0 c1
              obtain ⟨x, hx⟩ : ∃ x, x = L[q] := ⟨_, rfl⟩
              have hxm : x ∈ L := by rw [hx]; exact List.getElem_mem hlt
              rw [← hx] at c0 c1
              rw [HG.out.1.t.kk x hxm] at c0
              have CG := Lib.hid (ttGet HG.out.1.tt (by decide) x.1)
              rw [txG_own HG.out.1.t.rs HG.out.2.2 hxm] at CG
              have HAT := Lib.hid (any_take (fun z => z.1 == key) L hlt)
              rw [← hx] at HAT
              obtain ⟨zk, hzk⟩ : ∃ zk, zk = x.1 := ⟨_, rfl⟩
              obtain ⟨zv, hzv⟩ : ∃ zv, zv = x.2.2.1 := ⟨_, rfl⟩
              rw [← hzk] at c0 CG HAT
              rw [← hzv] at c1 CG
              have hlt1 := World.block_lt_of_cell? wr _ c1
              have e9 : (zv == zv) = true := beq_self_eq_true zv
              clear hrd hx hxm hzk hzv
              obtain ⟨kb, hkb⟩ : ∃ kb, kb = (zk == key) := ⟨_, rfl⟩
              rw [← hkb] at HAT
              have hkb2 := hkb.symm
              clear hkb
              cases mn
              all_goals
                cases kb
                all_goals
                  go_wp2_with (go_at_call 18; refine CG.out.mono ?_; rintro e w9 ⟨rfl, hb9⟩; refine keepF ((hb9.cell (p := ⟨bA, oA + q * 3 + 1, none⟩) hlt1).trans c1) ?_; rintro c1; have HB9 := Lib.hid (HG.out.below hb9); clear hb9)
                  go_roundw
                  case rel => exact ⟨q + 1, _, by omega, rfl, by go_num, Lib.hid (by rw [HAT.out, ← HM.out]; rfl), HB9⟩
                  case measure => simp [intOf]; omega
            · obtain rfl : q = L.length := by omega
              have g3 : decide ((L.length : Int) < (L.length : Int)) = false := decide_eq_false (by omega)
              have g3' : ¬ (L.length : Int) < (L.length : Int) := by omega
              obtain ⟨la, hla⟩ : ∃ la, la = lastTVS (verC key C) := ⟨_, rfl⟩
              have HLA := Lib.hid hla
              clear hla
              have CL := Lib.hid (sgLast HG.out.1.sg (by decide) key)
              rw [← HLA.out] at CL
              have CPT : Hid (∀ tm, Calls Try.prog 25 #[.pointer (some ⟨s, 0, none⟩), .int .i64 tm, str key, str [120]] wr fun e W' => ∃ z, e = .returned (.int .i64 z) ∧ Hid (tm = tmT la at1 → T2 w1 W' s mb (putC C 0 key (tmT la at1, [120], false)) 0 301 tb wb L A.length ub vb M B.length at1)) := Lib.hid (fun tm => (t2Store HG.out.1 (by decide) key tm [120]).mono (by
                rintro e W' ⟨rfl, h⟩
                exact ⟨_, rfl, Lib.hid (fun e => by subst e; exact h)⟩))
              clear HG
              go_wp2_with (first | (go_at_call 24; refine CL.out.mono ?_; rintro e w9 ⟨rfl, rfl⟩) | (go_at_call 25; refine (CPT.out _).mono ?_; rintro e w10 ⟨z10, rfl, H10⟩))
              all_goals
                have H11 : Hid (T2 w1 w10 s mb (putC C 0 key (tmT la at1, [120], false)) 0 301 tb wb L A.length ub vb M B.length at1) := Lib.hid (H10.out (by unfold tmT; ((repeat' split) <;> omega)))
                clear H10
                have CL2 := Lib.hid (sgLast H11.out.sg (by decide) key)
                have HPL : Hid (at1 < lastTVS (verC key (putC C 0 key (tmT la at1, [120], false)))) := Lib.hid (by rw [HLA.out]; exact put_last (by omega) (by omega))
                obtain ⟨lb, hlb⟩ : ∃ lb, lb = lastTVS (verC key (putC C 0 key (tmT la at1, [120], false))) := ⟨_, rfl⟩
                rw [← hlb] at CL2 HPL
                have g7 : decide (at1 < lb) = true := decide_eq_true HPL.out
                have g7' : at1 < lb := HPL.out
                clear hlb
                go_wp2_with (go_at_call 24; refine CL2.out.mono ?_; rintro e w11 ⟨rfl, rfl⟩)
                refine (CF.out _).mono ?_
                rintro e w12 ⟨rfl, hb12⟩
                have H12 := Lib.hid (H11.out.below hb12)
                clear hb12 H11 CL2
                have CC2 := Lib.hid (ttClash H12.out.tt (by decide))
                unfold ClR at CC2
                have HCE : Hid (L.any (fun x => decide (at1 < lastTVS (verC x.1 (putC C 0 key (tmT la at1, [120], false))))) = (O || mn)) := Lib.hid (by
                  have := clash_put (C := C) (key := key) (x := [120]) (at1 := at1) (by omega) (by omega) L
                  rw [← HLA.out] at this
                  rw [this, HO.out, HM.out, List.take_length])
                rw [HCE.out] at CC2
                cases O
                all_goals
                  cases mn
                  all_goals
                    go_wp2_with fail
                    refine CC2.out.mono ?_
                    rintro e w13 ⟨rfl, hb13⟩
                    have H13 := Lib.hid (H12.out.below hb13)
                    clear hb13
                    have CT := Lib.hid (txAt H13.out.t)
                    have CU := Lib.hid (txAt H13.out.u)
                    go_wp2_with (first | (go_at_call 13; refine CT.out.mono ?_; rintro e w14 ⟨rfl, rfl⟩) | (go_at_call 13; refine CU.out.mono ?_; rintro e w14 ⟨rfl, rfl⟩))
                    go_ret
                    exact ⟨rfl, H1.out.trans (H13.out.sg.bel.mono H1.out.size)⟩
end Go.Proofs.Ytcgjiddiegepkaa

/- TxnTwo in the claim's order. -/
namespace Go.Proofs.Ytcgjiddiegepkaa
open Go.RowKit
theorem two12_main (vv : Value) (l : List Op11) (at1 : Int) (va : Value) (A : List Op12) (vb : Value) (B : List Op12) (key : ByteArray) (w : World) (hv : Rd11 w vv l) (hsv : ∀ o ∈ l, o.ok) (hat : -9223372036854775808 ≤ at1 ∧ at1 ≤ 9223372036854775807) (ha : Rd12 w va A) (hsa : ∀ o ∈ A, o.ok) (hb : Rd12 w vb B) (hsb : ∀ o ∈ B, o.ok) (hkey : key.size ≤ maxLen) :
    Calls Try.prog 7 #[vv, .int .i64 at1, va, vb, .string key] w fun e w' => e = .returned (.bool true) ∧ Below w.heap.size w w' := by
  have h := two12_walk vv l at1 va A vb B key.data.toList w hv hsv ha hsa hb hsb hat (by rw [Array.length_toList]; simp only [maxLen] at hkey; exact hkey)
  exact h
end Go.Proofs.Ytcgjiddiegepkaa
