/- TxnLast: the walk. -/
import Derived.Test.YtcgjiddiegepkaaTxLastS
import Derived.Laws.Cover1
import Derived.Deep.RegionHeld3
import Derived.Deep.CutRange
import Derived.Deep.CutBlock
import Derived.Deep.QuietTactic
import Derived.BigQuiet
namespace Go.Proofs.Ytcgjiddiegepkaa
open Go.RowKit
variable {X W : World} {s mb : Nat} {C : ChC} {tb wb ub vb : Nat} {at1 : Int} {nb : Nat} {vw : Value} {R : List WrT} {L : OwnL} {k : Nat}
theorem LI.start (h : T2 X W s mb C 0 300 tb wb [] 0 ub vb [] 0 at1) : LI X W s mb C tb wb ub vb at1 W.heap.size (.slice none 0 0) (([] : OwnL).map Prod.snd) [] 0 :=
  ⟨h.sg.weak (fun i hi => by rcases hi with hi | hi; exact hi; cases hi), h.t, h.u, World.ownsRow_nil _ _ _ _, ⟨h.lo.1, h.lo.2.1, h.lo.2.2.1, h.lo.2.2.2, h.sg.bel.size⟩, ⟨h.ne.1, h.ne.2.1⟩, ⟨h.t.lt.1, h.t.lt.2, h.u.lt.1, h.u.lt.2⟩, Nat.le_refl _⟩
/-- There is room where a write is taken. -/
theorem wr_room {w : WrT} {p : Nat} (hz : wrC L w = 0) (hr : RisB L) (hp : PlaceB w.1 L p) (hno : ¬ ∃ h : p < L.length, L[p].1 = w.1) (hL : L.length ≤ 1000) : L.length + 1 ≤ 1000 := by
  unfold wrC at hz
  split at hz
  · cases hz
  · split at hz
    · cases hz
    · next h =>
      have hg : getB w.1 L = none := by
        rw [getB_at w.1 hr hp]
        split
        · next h1 =>
          split
          · next h2 => exact absurd ⟨h1, h2⟩ hno
          · rfl
        · rfl
      rw [hg] at h
      simp at h
      omega
theorem wrL_no {w : WrT} (h : wrC L w ≠ 0) : wrL L w = L := if_neg h
theorem wrL_yes {w : WrT} (h : wrC L w = 0) : wrL L w = insB w.1 w L := if_pos h
/-- Keys ahead of one that is not below are, keys behind it are not below. -/
theorem place_at {key : List UInt8} (hr : RisB L) {p : Nat} (hp : p ≤ L.length) (h1 : ∀ j (h : j < L.length), j < p → Op.bytesLess L[j].1 key = true) (h2 : ∀ h : p < L.length, Op.bytesLess L[p].1 key = false) : PlaceB key L p := by
  refine ⟨hp, h1, fun j h hj => ?_⟩
  have hp' : p < L.length := by omega
  by_cases e : j = p
  · subst e; exact h2 hp'
  · cases h3 : Op.bytesLess L[j].1 key with
    | false => rfl
    | true =>
      have := bl_tr _ _ _ ((List.pairwise_iff_getElem.1 hr) p j hp' h (by omega)) h3
      rw [h2 hp'] at this; cases this
theorem rdw_li (h : LI X W s mb C tb wb ub vb at1 nb vw R L k) : RdW W vw R := RdF.of_row (cellsWr_len R) (by simpa using h.row)
/-- The row of writes lies in a block of its own, from its start. -/
theorem li_row (h : LI X W s mb C tb wb ub vb at1 nb vw R L k) {p : Nat} (hp : p < R.length) : ∃ g cap, vw = .slice (some ⟨g, 0, none⟩) R.length cap ∧ R.length ≤ cap ∧ W.cell? ⟨g, p * 3, none⟩ = some (str R[p].1) ∧ W.cell? ⟨g, p * 3 + 1, none⟩ = some (str R[p].2.1) ∧ W.cell? ⟨g, p * 3 + 2, none⟩ = some (.bool R[p].2.2) ∧ W.frozen? ⟨g, p * 3, none⟩ = false ∧ W.frozen? ⟨g, p * 3 + 1, none⟩ = false ∧ W.frozen? ⟨g, p * 3 + 2, none⟩ = false := by
  have hrow := h.row
  rcases h.row.2 with ⟨_, h0⟩ | ⟨g, cap, cur, rfl, _, _, hcap, _⟩
  · omega
  · obtain ⟨b, off, hb, c0, c1, c2⟩ := rdW_get (rdw_li h) hp
    simp only [Option.some.injEq, Addr.mk.injEq, and_true] at hb
    obtain ⟨rfl, rfl⟩ := hb
    rw [Nat.zero_add] at c0 c1 c2
    exact ⟨_, cap, rfl, hcap, c0, c1, c2, row_free hrow _, row_free hrow _, row_free hrow _⟩
/-- What a write taken leaves. -/
theorem fin_set {W' : World} {p : Nat} {y : List UInt8} {gn : Bool} {ky : List UInt8} (hp : PlaceB ky L p) (hq : p < L.length) (hk : L[p].1 = ky) (hL : L.length ≤ 1000) (h : LI X W' s mb C tb wb ub vb at1 nb vw ((L.map Prod.snd).set p (ky, y, gn)) (insB ky (ky, y, gn) L) k) : LI X W' s mb C tb wb ub vb at1 nb vw ((insB ky (ky, y, gn) L).map Prod.snd) (insB ky (ky, y, gn) L) k ∧ (insB ky (ky, y, gn) L).length ≤ 1000 := by
  have e := want_put (w := (ky, y, gn)) hp
  rw [if_pos ⟨hq, hk⟩] at e
  have e2 : (L.map Prod.snd).set p (ky, y, gn) = (insB ky (ky, y, gn) L).map Prod.snd := by rw [e, List.set_eq_take_append_cons_drop, if_pos (by simpa using hq)]
  rw [e2] at h
  refine ⟨h, ?_⟩
  have := congrArg List.length e2
  simp only [List.length_set, List.length_map] at this
  omega
theorem fin_ins {W' : World} {p : Nat} {y : List UInt8} {gn : Bool} {ky : List UInt8} (hp : PlaceB ky L p) (hno : ¬ ∃ h : p < L.length, L[p].1 = ky) (hL : L.length + 1 ≤ 1000) (h : LI X W' s mb C tb wb ub vb at1 nb vw ((L.map Prod.snd).take p ++ (ky, y, gn) :: (L.map Prod.snd).drop p) (insB ky (ky, y, gn) L) k) : LI X W' s mb C tb wb ub vb at1 nb vw ((insB ky (ky, y, gn) L).map Prod.snd) (insB ky (ky, y, gn) L) k ∧ (insB ky (ky, y, gn) L).length ≤ 1000 := by
  have e := want_put (w := (ky, y, gn)) hp
  rw [if_neg hno] at e
  rw [← e] at h
  refine ⟨h, ?_⟩
  have := congrArg List.length e
  simp only [List.length_append, List.length_cons, List.length_take, List.length_drop, List.length_map] at this
  omega
theorem ne_set {w : World} {b c : Nat} (hne : c ≠ b) (j : Nat) (v : Value) : (w.setCell ⟨c, j, none⟩ v).heap[b]? = w.heap[b]? := heap_setCell_other w ⟨c, j, none⟩ b v (fun e => hne e.symm)
set_option maxRecDepth 100000 in
set_option maxHeartbeats 8000000 in
theorem last12_walk (vv : Value) (l : List Op11) (at1 : Int) (va : Value) (A : List Op12) (w : World) (hv : Rd11 w vv l) (hsv : ∀ o ∈ l, o.ok) (ha : Rd12 w va A) (hsa : ∀ o ∈ A, o.ok) (_ : -9223372036854775808 ≤ at1 ∧ at1 ≤ 9223372036854775807) :
    Calls Try.prog 6 #[vv, .int .i64 at1, va] w fun e w' => e = .returned (.bool true) ∧ Below w.heap.size w w' := by
  have CF := Lib.hid v12first_any
  have CST : Hid (∀ W, Below w.heap.size w W → Calls Try.prog 9 #[vv] W fun e W' => ∃ s mb b, e = .returned (.tuple #[.pointer (some ⟨s, 0, none⟩), .pointer (some ⟨b, 0, none⟩)]) ∧ Hid (JS W b W' s mb b (storesC l) 0 (storesC l) 0 300)) :=
    Lib.hid (fun W h => (stores_any vv l W (hv.up h) hsv).mono (by rintro e W' ⟨s, mb, b, rfl, h1, _⟩; exact ⟨s, mb, b, rfl, Lib.hid h1⟩))
  have CA : Hid (∀ W, Below w.heap.size w W → Calls Try.prog 10 #[va] W (FewP12 A W)) := Lib.hid (fun W h => few12_any va A W (ha.up h) hsa)
  have HRA := Lib.hid ha
  obtain ⟨aa, ca, rfl, hla0⟩ := ha.form
  obtain ⟨av, cv, rfl, _⟩ := hv.form
  clear ha hv hsv
  go_enter Try.func6, Try.ntmps6
  go_wp2_with fail
  refine (CF.out _).mono ?_
  rintro e w1 ⟨rfl, hb1⟩
  have H1 := Lib.hid hb1
  clear hb1
  go_wp2_with fail
  refine (CST.out _ H1.out).mono ?_
  rintro e w2 ⟨s, mb, b, rfl, H2⟩
  have HB2 : Hid (Below w.heap.size w w2) := Lib.hid (H1.out.trans (H2.out.bel.mono H1.out.size))
  clear CST
  go_wp2_with fail
  refine (CA.out _ HB2.out).mono ?_
  rintro e w3 ⟨fa, rfl, hfa, hb3⟩
  have H3 := Lib.hid (H2.out.below hb3)
  have HB3 : Hid (Below w.heap.size w w3) := Lib.hid (HB2.out.trans (hb3.mono HB2.out.size))
  clear CA H2 HB2 hb3 hfa
  cases fa
  case false =>
    go_wp2_with fail
    refine (CF.out _).mono ?_
    rintro e wE ⟨rfl, hbE⟩
    have HX := Lib.hid (HB3.out.trans (hbE.mono HB3.out.size))
    clear hbE
    go_wp2_with fail
    go_ret
    exact ⟨rfl, HX.out⟩
  have H4 : Hid (SG w1 (fun _ => False) w3 s mb (storesC l) 0 300) := Lib.hid (by
    obtain ⟨vo, R, h1, _⟩ := H3.out
    exact h1.weak (fun i hi => hi.elim))
  clear H3
  by_cases d0 : (500 : Int) < (A.length : Int)
  · have e0 : decide ((500 : Int) < (A.length : Int)) = true := decide_eq_true d0
    go_wp2_with fail
    refine (CF.out _).mono ?_
    rintro e wE ⟨rfl, hbE⟩
    have HX := Lib.hid (HB3.out.trans (hbE.mono HB3.out.size))
    clear hbE
    go_wp2_with fail
    go_ret
    exact ⟨rfl, HX.out⟩
  have e0 : decide ((500 : Int) < (A.length : Int)) = false := decide_eq_false d0
  obtain ⟨C, hC⟩ : ∃ C, C = storesC l := ⟨_, rfl⟩
  rw [← hC] at H4
  clear hC
  go_wp2_with fail
  refine (ttBegin H4.out at1).mono ?_
  rintro e w5 ⟨tb, wb, rfl, h5⟩
  have H5 := Lib.hid h5
  clear h5 H4 HB3
  go_wp2_with fail
  refine (t2Begin H5.out).mono ?_
  rintro e w6 ⟨ub, vb, rfl, h6⟩
  have H6 := Lib.hid (LI.start h6)
  clear h6 H5
  obtain ⟨nb, hnb⟩ : ∃ nb, nb = w6.heap.size := ⟨_, rfl⟩
  rw [← hnb] at H6
  clear hnb
  go_wp2_with fail
  go_loopw [11, 12] (fun vw i wr => ∃ (k : Nat) (L : OwnL), k ≤ A.length ∧ i = .int .i64 (k : Int) ∧ Hid (LI w1 wr s mb C tb wb ub vb at1 nb vw (L.map Prod.snd) L k ∧ L.length ≤ 1000)) (fun _ i _ => A.length - (intOf i).toNat)
  case atStart => exact ⟨0, [], Nat.zero_le _, rfl, Lib.hid ⟨H6.out, by simp⟩⟩
  case round =>
    clear H6
    obtain ⟨k, L, hk, rfl, HG⟩ := hrel
    obtain ⟨a3, c3, rfl, hl3⟩ := rdW_form (rdw_li HG.out.1)
    rw [List.length_map] at hl3
    have HLN := Lib.hid HG.out.2
    by_cases hlt : k < A.length
    · have g3 : decide ((k : Int) < (A.length : Int)) = true := decide_eq_true (by omega)
      have g3' : (k : Int) < (A.length : Int) := by omega
      have g4 : (0 : Int) ≤ (k : Int) := by omega
      have HW := Lib.hid (H1.out.trans (HG.out.1.sg.bel.mono H1.out.size))
      obtain ⟨bA, oA, rfl, c0, c1, c2, c3'⟩ := (HRA.out.up HW.out).get hlt
      obtain ⟨_, z2, z3, _⟩ := hsa _ (List.getElem_mem hlt)
      obtain ⟨o, ho⟩ : ∃ o, o = A[k] := ⟨_, rfl⟩
      rw [← ho] at c0 c1 c2 c3' z2 z3
      obtain ⟨kd, ky, yv, hi⟩ := o
      dsimp only at c0 c1 c2 c3' z2 z3
      clear ho HW
      obtain ⟨R, hR⟩ : ∃ R, R = L.map Prod.snd := ⟨_, rfl⟩
      have HRL := Lib.hid hR
      have HRl : Hid (R.length = L.length) := Lib.hid (by rw [hR, List.length_map])
      rw [← hR] at HG
      rw [← hR]
      clear hR
      have HRK : Hid (RisB L ∧ ∀ x ∈ L, x.2.1 = x.1) := Lib.hid ⟨HG.out.1.t.rs, HG.out.1.t.kk⟩
      go_upto_block 2 with fail
      obtain ⟨ob, hob⟩ : ∃ ob, ob = wr.heap.size := ⟨_, rfl⟩
      obtain ⟨w0, hw0⟩ : ∃ w0, w0 = wr.alloc (.cells #[.int .i64 kd, str ky, str yv, str hi] 36) := ⟨_, rfl⟩
      obtain ⟨w4, hw4⟩ : ∃ w4, w4 = w0.alloc (.cells #[str ky, str yv, .bool false] 58) := ⟨_, rfl⟩
      obtain ⟨wx, hwx⟩ : ∃ wx, wx = ob + 1 := ⟨_, rfl⟩
      have hwz : w0.heap.size = wx := by rw [hw0, hwx, hob]; simp
      have HB0 : Below wr.heap.size wr w0 := by rw [hw0]; exact below_alloc _ _
      have HX4 : Hid (LX w1 w4 s mb C tb wb ub vb at1 nb (.slice a3 R.length c3) R L k wx (ky, yv, false)) := Lib.hid (by have := LX.new (w := (ky, yv, false)) HG.out.1 HB0 hw4; rw [hwz] at this; exact this)
      have HO4 : Hid (w4.heap[ob]? = some (.cells #[.int .i64 kd, str ky, str yv, str hi] 36 (0, 0))) := Lib.hid (by
        have e0 : w0.heap[ob]? = some (.cells #[.int .i64 kd, str ky, str yv, str hi] 36 (0, 0)) := by rw [hw0, hob]; exact heap_alloc_new _ _
        exact box_upR e0 (by rw [hw4]; exact below_alloc _ _))
      rw [← hw0, ← hw4, ← hob, ← hwx]
      have HNE : Hid (wx ≠ ob) := Lib.hid (by omega)
      clear HG c0 c1 c2 c3' HB0 hw0 hw4 hob hwz hwx
      have z1 : (ky.length : Int) ≤ 9223372036854775807 := by omega
      go_cut [15] from 53 to 142 (fun ve wc => ∃ (y : List UInt8) (gn : Bool), ve = .int .i64 (wrC L (ky, y, gn)) ∧ Hid (LX w1 wc s mb C tb wb ub vb at1 nb (.slice a3 R.length c3) R (wrL L (ky, y, gn)) (k + 1) wx (ky, y, gn)))
      case first =>
        have HOC : Hid (∀ W : World, W.heap[ob]? = some (.cells #[.int .i64 kd, str ky, str yv, str hi] 36 (0, 0)) → W.cell? ⟨ob, 0, none⟩ = some (.int .i64 kd) ∧ W.cell? ⟨ob, 1, none⟩ = some (str ky) ∧ W.cell? ⟨ob, 2, none⟩ = some (str yv)) := Lib.hid (fun W h => ⟨by simp [World.cell?, h], by simp [World.cell?, h], by simp [World.cell?, h]⟩)
        obtain ⟨q0, q1, q2⟩ := HOC.out _ HO4.out
        by_cases h0 : kd = 0
        · subst h0
          have CP := Lib.hid (lxPut HX4.out (by omega) ky yv z2 z3)
          clear z2 z3
          go_wp2_with fail
          refine CP.out.mono ?_
          rintro e w5 ⟨rfl, h5⟩
          have H5 := Lib.hid h5
          clear h5 CP HX4 HO4 HOC q0 q1 q2
          go_wp2_with fail
          go_meet
          case rel => exact ⟨yv, false, rfl, H5⟩
        have k0 : (kd == 0) = false := beq_eq_false_iff_ne.2 h0
        by_cases h1 : kd = 1
        · subst h1
          have CP : Hid (∀ W, Hid (LX w1 W s mb C tb wb ub vb at1 nb (.slice a3 R.length c3) R L k wx (ky, [], true)) → Calls Try.prog 16 #[.pointer (some ⟨tb, 0, none⟩), str ky] W fun e W' => e = .returned (.int .i64 (wrC L (ky, [], true))) ∧ Hid (LX w1 W' s mb C tb wb ub vb at1 nb (.slice a3 R.length c3) R (wrL L (ky, [], true)) (k + 1) wx (ky, [], true))) := Lib.hid (fun W h => (lxDelete h.out (by omega) ky z2).mono (fun e W' h => ⟨h.1, Lib.hid h.2⟩))
          obtain ⟨x0, x1, x2⟩ := HX4.out.three
          have f0 := frozen_of_row w4 wx 0 _ _ HX4.out.bx
          have f1 := frozen_of_row w4 wx 1 _ _ HX4.out.bx
          have f2 := frozen_of_row w4 wx 2 _ _ HX4.out.bx
          go_upto_region 21 with fail
          obtain ⟨w5, hw5⟩ : ∃ w5, w5 = ((w4.setCell ⟨wx, 0, none⟩ (str ky)).setCell ⟨wx, 1, none⟩ (str [])).setCell ⟨wx, 2, none⟩ (.bool true) := ⟨_, rfl⟩
          rw [← hw5]
          have HX5 := Lib.hid (HX4.out.set (w' := (ky, [], true)) hw5)
          have p1 := (HOC.out w5 (by rw [hw5, ne_set HNE.out, ne_set HNE.out, ne_set HNE.out]; exact HO4.out)).2.1
          clear hw5 HX4 HO4 HOC q0 q1 q2 x0 x1 x2 f0 f1 f2 z2 z3
          have CP2 := Lib.hid (CP.out w5 HX5)
          clear CP HX5
          go_wp2_with fail
          refine CP2.out.mono ?_
          rintro e w6' ⟨rfl, H6⟩
          clear CP2
          go_wp2_with fail
          go_meet
          case rel => exact ⟨[], true, rfl, H6⟩
        have k1 : (kd == 1) = false := beq_eq_false_iff_ne.2 h1
        by_cases h2 : kd = 2
        · subst h2
          have CT := Lib.hid (ttGet' HX4.out.li.tt (by decide) ky)
          clear z2 z3
          go_wp2_with fail
          refine CT.out.mono ?_
          rintro e w5 ⟨⟨x5, y5, rfl⟩, hb5⟩
          have HX5 := Lib.hid (HX4.out.li.below hb5)
          have p1 := (HOC.out w5 (box_upR HO4.out hb5)).2.1
          have CU := Lib.hid (ttGet' HX5.out.ut (by decide) ky)
          clear hb5 CT HX4 HO4 HOC q0 q1 q2
          go_wp2_with fail
          refine CU.out.mono ?_
          rintro e w6' ⟨⟨x6, y6, rfl⟩, hb6⟩
          have HX6 := Lib.hid ((HX5.out.below hb6).wide (Nat.le_succ k))
          clear hb6 CU HX5
          go_wp2_with fail
          rw [HRL.out] at HX6 ⊢
          go_roundw
          case rel => exact ⟨k + 1, L, by omega, by go_num, Lib.hid ⟨HX6.out, HLN.out⟩⟩
          case measure => simp [intOf]; omega
        have k2 : (kd == 2) = false := beq_eq_false_iff_ne.2 h2
        have HX6 := Lib.hid (HX4.out.li.wide (Nat.le_succ k))
        clear HX4 HO4 HOC z2 z3 h0 h1 h2
        go_wp2_with fail
        rw [HRL.out] at HX6 ⊢
        go_roundw
        case rel => exact ⟨k + 1, L, by omega, by go_num, Lib.hid ⟨HX6.out, HLN.out⟩⟩
        case measure => simp [intOf]; omega
      case rest =>
        obtain ⟨y, gn, rfl, HX⟩ := hcut
        clear HX4 HO4 z2 z3
        obtain ⟨Z, hZ⟩ : ∃ Z, Z = wrC L (ky, y, gn) := ⟨_, rfl⟩
        have HZ := Lib.hid hZ
        rw [← hZ]
        clear hZ
        by_cases hz : Z = 0
        rotate_left
        · have z9 : (Z != 0) = true := bne_iff_ne.2 hz
          have HX6 : Hid (LI w1 wc s mb C tb wb ub vb at1 nb (.slice a3 R.length c3) R L (k + 1)) := Lib.hid (by have := HX.out.li; rwa [wrL_no (by rw [← HZ.out]; exact hz)] at this)
          clear HX
          go_wp2_with fail
          rw [HRL.out] at HX6 ⊢
          go_roundw
          case rel => exact ⟨k + 1, L, by omega, by go_num, Lib.hid ⟨HX6.out, HLN.out⟩⟩
          case measure => simp [intOf]; omega
        subst hz
        have z9 : ((0 : Int) != 0) = false := rfl
        have HX : Hid (LX w1 wc s mb C tb wb ub vb at1 nb (.slice a3 R.length c3) R (insB ky (ky, y, gn) L) (k + 1) wx (ky, y, gn)) := Lib.hid (by have := HX.out; rwa [wrL_yes HZ.out.symm] at this)
        have HRI : Hid (RisB L ∧ ∀ x ∈ L, x.2.1 = x.1) := Lib.hid HRK.out
        have HKY : Hid (∀ j (h : j < R.length) (h' : j < L.length), R[j].1 = L[j].1) := Lib.hid (fun j h h' => by
          have e := want_key HRI.out.2 h'
          simp only [HRL.out]
          exact e)
        go_wp2_with fail
        go_loopw [16] (fun v wr2 => ∃ (p q : Nat), p ≤ R.length ∧ v = .int .i64 (p : Int) ∧ Hid (∀ j (h : j < L.length), j < p → Op.bytesLess L[j].1 ky = true) ∧ wr2 = wc.drewN q) (fun v _ => R.length - (intOf v).toNat)
        case atStart => exact ⟨0, 0, Nat.zero_le _, rfl, Lib.hid (fun _ _ h => absurd h (by omega)), rfl⟩
        case round =>
          obtain ⟨p, q, hp, rfl, HLO, rfl⟩ := hrel
          obtain ⟨x0, _, _⟩ := HX.out.three
          have hpl : p ≤ R.length := hp
          have hRn : R.length ≤ 1000 := by have := HRl.out; have := HLN.out; omega
          by_cases hlt2 : p < R.length
          · have g5 : decide ((p : Int) < (R.length : Int)) = true := decide_eq_true (by omega)
            have g5' : (p : Int) < (R.length : Int) := by omega
            have g6 : (0 : Int) ≤ (p : Int) := by omega
            obtain ⟨g, cap, he, hpc0, d0, -⟩ := li_row HX.out.li hlt2
            simp only [Value.slice.injEq, true_and] at he
            obtain ⟨rfl, rfl⟩ := he
            obtain ⟨yk, hyk⟩ : ∃ yk, yk = R[p].1 := ⟨_, rfl⟩
            have HYK : Hid (∀ h : p < L.length, L[p].1 = yk) := Lib.hid (fun h => by rw [hyk]; exact (HKY.out p hlt2 h).symm)
            rw [← hyk] at d0
            clear hyk
            have hpc : p ≤ c3 := by omega
            cases hl : Op.bytesLess yk ky with
            | true =>
              have HN : Hid (∀ j (h : j < L.length), j < p + 1 → Op.bytesLess L[j].1 ky = true) := Lib.hid (fun j h hj => by
                by_cases e : j = p
                · subst e; rw [HYK.out h]; exact hl
                · exact HLO.out j h (by omega))
              clear HLO HYK
              go_wp2_with fail
              go_quiet (fail)
              go_wp2_with fail
              go_roundw
              case rel => exact ⟨p + 1, _, by omega, by go_num, HN, rfl⟩
              case measure => simp [intOf]; omega
            | false =>
              have HP : Hid (PlaceB ky L p) := Lib.hid (place_at HRI.out.1 (by have := HRl.out; omega) HLO.out (fun h => by rw [HYK.out h]; exact hl))
              clear HLO
              obtain ⟨z, hzk⟩ : ∃ z, z = (yk == ky) := ⟨_, rfl⟩
              have hzk2 := hzk.symm
              have HZK := Lib.hid hzk
              clear hzk
              cases z
              rotate_left
              · have HFI : Hid (∀ W' vw', LI w1 W' s mb C tb wb ub vb at1 nb vw' (R.set p (ky, y, gn)) (insB ky (ky, y, gn) L) (k + 1) → Hid (LI w1 W' s mb C tb wb ub vb at1 nb vw' ((insB ky (ky, y, gn) L).map Prod.snd) (insB ky (ky, y, gn) L) (k + 1) ∧ (insB ky (ky, y, gn) L).length ≤ 1000)) := Lib.hid (fun W' vw' h => by
                  have hq : p < L.length := by have := HRl.out; omega
                  have ek : L[p].1 = ky := by rw [HYK.out hq]; exact beq_iff_eq.1 hzk2
                  rw [HRL.out] at h
                  exact Lib.hid (fin_set HP.out hq ek HLN.out h))
                go_wp2_with fail
                go_quiet (fail)
                go_upto_region 29 with fail
                go_quiet (fail)
                go_upto_region 30 with fail
                generalize hW3 : ((wc.drewN q).drewN _).drewN _ = W3
                have HX3 := Lib.hid (HX.out.below (show Below wc.heap.size wc W3 by rw [← hW3]; exact Below.drewsN (Below.drewsN (Below.drewsN (Below.refl _ _) _) _) _))
                obtain ⟨x0, x1, x2⟩ := HX3.out.three
                obtain ⟨g', cap', he, _, v0, v1, v2, f0, f1, f2⟩ := li_row HX3.out.li hlt2
                simp only [Value.slice.injEq, Option.some.injEq, Addr.mk.injEq, and_true, true_and] at he
                obtain ⟨rfl, rfl⟩ := he
                have HS3 := Lib.hid (HX3.out.li.setw hlt2 (w := (ky, y, gn)) rfl)
                have HFX := Lib.hid (HFI.out _ _ HS3.out)
                clear hW3 HX HX3 HFI HS3
                go_wp2_with fail
                go_roundw
                case rel => exact ⟨k + 1, _, by omega, by go_num, HFX.out⟩
                case measure => simp [intOf]; omega
              have HNO : Hid (¬ ∃ h : p < L.length, L[p].1 = ky) := Lib.hid (fun ⟨h, e⟩ => by
                rw [HYK.out h] at e
                rw [e, beq_self_eq_true] at hzk2
                cases hzk2)
              have HFI : Hid (∀ W' vw', LI w1 W' s mb C tb wb ub vb at1 nb vw' (R.take p ++ (ky, y, gn) :: R.drop p) (insB ky (ky, y, gn) L) (k + 1) → Hid (LI w1 W' s mb C tb wb ub vb at1 nb vw' ((insB ky (ky, y, gn) L).map Prod.snd) (insB ky (ky, y, gn) L) (k + 1) ∧ (insB ky (ky, y, gn) L).length ≤ 1000)) := Lib.hid (fun W' vw' h => by
                rw [HRL.out] at h
                exact Lib.hid (fin_ins HP.out HNO.out (wr_room HZ.out.symm HRI.out.1 HP.out HNO.out HLN.out) h))
              go_wp2_with fail
              go_quiet (fail)
              go_upto_region 29 with fail
              go_quiet (fail)
              go_upto_region 31 with fail
              generalize hW3 : ((wc.drewN q).drewN _).drewN _ = W3
              have HX3 := Lib.hid (HX.out.below (show Below wc.heap.size wc W3 by rw [← hW3]; exact Below.drewsN (Below.drewsN (Below.drewsN (Below.refl _ _) _) _) _))
              clear hW3 HX
              have HX := HX3
              clear HX3
              clear HLN HRL HRl HKY HRI HNO HP HZ
              obtain ⟨i1, hj, hy0, hy1, hy2⟩ := info_parts infoWr
              refine wp_region_held_drew (S := fun _ => True) (by kernel_rfl) trivial (fun hHeld => ?_)
              obtain ⟨wc, hwc⟩ : ∃ x, x = W3.drew := ⟨_, rfl⟩
              have HB := Lib.hid (show Below W3.heap.size W3 wc by rw [hwc]; exact Below.drewsN (Below.refl _ _) 1)
              rw [← hwc]
              clear hwc hHeld
              have hHeld : True := trivial
              refine wpAnyH_take (i := 0) (v := ?v1) rfl (by kernel_rfl) (by kernel_rfl) (by kernel_rfl) (fun _ _ _ h => h) (Or.inl ⟨by rfl, ?hy1⟩) (by assumption) ?_
              case hy1 => (intro w hSw; clear hSw; go_simp; try with_reducible rfl)
              go_simp
              refine wpAnyH_take (i := 1) (v := ?v2) rfl (by kernel_rfl) (by kernel_rfl) (by kernel_rfl) (fun _ _ _ h => h) (Or.inl ⟨by rfl, ?hy2⟩) (by assumption) ?_
              case hy2 => (intro w hSw; clear hSw; go_simp; try with_reducible rfl)
              go_simp
              refine wpAnyH_take (i := 2) (v := ?v3) rfl (by kernel_rfl) (by kernel_rfl) (by kernel_rfl) (fun _ _ _ h => h) (Or.inl ⟨by rfl, ?hy3⟩) (by assumption) ?_
              case hy3 => (intro w hSw; clear hSw; go_simp; try with_reducible rfl)
              go_simp
              refine wpAnyH_take (i := 5) (v := ?v4) rfl (by kernel_rfl) (by kernel_rfl) (by kernel_rfl) (fun _ _ _ h => h) (Or.inl ⟨by rfl, ?hy4⟩) (by assumption) ?_
              case hy4 => (intro w hSw; clear hSw; go_simp; try with_reducible rfl)
              go_simp
              refine wpAnyH_take (i := 6) (v := ?v5) rfl (by kernel_rfl) (by kernel_rfl) (by kernel_rfl) (fun _ _ _ h => h) (Or.inl ⟨by rfl, ?hy5⟩) (by assumption) ?_
              case hy5 => (intro w hSw; clear hSw; go_simp; try with_reducible rfl)
              go_simp
              refine wpAnyH_take (i := 7) (v := ?v6) rfl (by kernel_rfl) (by kernel_rfl) (by kernel_rfl) (fun _ _ _ h => h) (Or.inl ⟨by rfl, ?hy6⟩) (by assumption) ?_
              case hy6 => (intro w hSw; clear hSw; go_simp; try with_reducible rfl)
              go_simp
              refine wpAnyH_ready (rs := [3]) (by kernel_rfl) (by simp) (AllReadyH.cons rfl (fun K hK => ?_) AllReadyH.nil)
              have cq := (HX.out.below HB.out).three
              obtain ⟨cq0, cq1, cq2⟩ := cq
              go_simp
              clear cq0 cq1 cq2
              refine hK.out _ _ (trivial) (fun hHeld => ?_)
              clear hK K
              refine wpAnyH_ready (rs := [4]) (by kernel_rfl) (by simp) (AllReadyH.cons rfl (fun K hK => ?_) AllReadyH.nil)
              go_simp
              obtain ⟨k4, hk4⟩ : ∃ k, k = wc.heap.size := ⟨_, rfl⟩
              obtain ⟨wd, hwd⟩ : ∃ W, W = wc.alloc (.cells #[str ky, str y, .bool gn] 58) := ⟨_, rfl⟩
              have hbs : Below wc.heap.size wc wd := by rw [hwd]; exact below_alloc _ _
              have HL4 := Lib.hid (show wd.ownsRow W3.heap.size 58 3 (.slice (some ⟨k4, 0, none⟩) 1 1) 1 (cellsWr (ky, y, gn)) by rw [hwd, hk4]; exact World.ownsRow_lit (e := 58) (size := 3) wc #[str ky, str y, .bool gn] 1 HB.out.size (by decide) rfl)
              have HB := Lib.hid (HB.out.trans (hbs.mono HB.out.size))
              rw [← hwd, ← hk4]
              clear hwd hk4 hbs
              rename World => wc
              refine hK.out _ _ (trivial) (fun hHeld => ?_)
              clear hK K
              refine wpAnyH_ready (rs := [8]) (by kernel_rfl) (by simp) (AllReadyH.cons rfl (fun K hK => ?_) AllReadyH.nil)
              refine step_appendG (by rfl) _ _ 54 (by rfl) W3.heap.size 58 i1 _ 3 40 Try.underlying54 hj hy0 hy1 hy2 rfl (by decide) k4 1 1 _ (by rfl) HL4.out _ ((R.drop p).map cellsWr) (cellsWr_len _) (one_cellsWr _) (by rfl) ((HX.out.li.below HB.out).behind hpl) (fun c h => by first | exact ite_noneW h | cases h) ?_ ?_ HB.out.size ?_
              · simp [maxLen]; omega
              · simp; omega
              intro g8 c8 wd r8 gr8
              have HB := Lib.hid (HB.out.grown gr8 HB.out.size (fun k e => by cases e; exact (HL4.out.lt k4 rfl).1))
              have HR8 := Lib.hid (ins_rowW (R := R) (p := p) r8)
              clear r8 gr8
              rename World => wc
              go_simp
              refine hK.out _ _ (trivial) (fun hHeld => ?_)
              clear hK K
              refine wpAnyH_ready (rs := [9]) (by kernel_rfl) (by simp) (AllReadyH.cons rfl (fun K hK => ?_) AllReadyH.nil)
              refine step_appendH (by rfl) _ _ 54 (by rfl) nb 58 i1 _ 3 40 Try.underlying54 hj hy0 hy1 hy2 rfl (by decide) (.slice (some ⟨g, 0, none⟩) p c3) p _ (by rfl) ((HX.out.li.below HB.out).ahead hpl) _ (((ky, y, gn) :: R.drop p).map cellsWr) (cellsWr_len _) (one_cellsWr _) (by rfl) (HR8.out _ (by first | omega | simp)) (by simp) ?_ ?_ (Nat.le_trans HX.out.li.nz HB.out.size) ?_
              · simp [maxLen]; omega
              · simp; omega
              intro g9 c9 wd r9 gr9 lo9
              have HI := Lib.hid ((HX.out.li.below HB.out).turn (vw' := .slice (some ⟨g9, 0, none⟩) (R.length + 1) c9) (R' := R.take p ++ (ky, y, gn) :: R.drop p) (Frm.of_grown gr9 (fun k e => e)) (ins_wr (R := R) hpl r9) (fun i hi => by simp only [Value.ownBlock, Option.some.injEq] at hi; subst hi; exact lo9.imp id (fun e => by rw [e]; exact Nat.le_refl _)))
              clear r9 gr9 lo9
              rename World => wc
              rw [show p + (((ky, y, gn) :: R.drop p).map cellsWr).length = R.length + 1 by simp; omega]
              go_simp
              refine hK.out _ _ (trivial) (fun hHeld => ?_)
              clear hK K
              refine wpAnyH_take (i := 10) (v := ?v7) rfl (by kernel_rfl) (by kernel_rfl) (by kernel_rfl) (fun _ _ _ h => h) (Or.inl ⟨by rfl, ?hy7⟩) (by assumption) ?_
              case hy7 => (intro w hSw; clear hSw; go_simp; try with_reducible rfl)
              go_simp
              refine wpAnyH_done (by kernel_rfl) ?_ _
              have HI2 := Lib.hid (HFI.out _ _ HI.out)
              clear HI
              go_wp2_with fail
              go_roundw
              case rel => exact ⟨k + 1, _, by omega, by go_num, HI2⟩
              case measure => simp [intOf]; omega
          · have hpe : p = R.length := by omega
            have g5 : decide ((p : Int) < (R.length : Int)) = false := decide_eq_false (by omega)
            have g5' : ¬ (p : Int) < (R.length : Int) := by omega
            have HPE := Lib.hid hpe
            have HP : Hid (PlaceB ky L p) := Lib.hid (place_at HRI.out.1 (by have := HRl.out; omega) HLO.out (fun h => by have := HRl.out; omega))
            have HNO : Hid (¬ ∃ h : p < L.length, L[p].1 = ky) := Lib.hid (fun ⟨h, _⟩ => by have := HRl.out; omega)
            clear HLO hpe
            have HFI : Hid (∀ W' vw', LI w1 W' s mb C tb wb ub vb at1 nb vw' (R.take p ++ (ky, y, gn) :: R.drop p) (insB ky (ky, y, gn) L) (k + 1) → Hid (LI w1 W' s mb C tb wb ub vb at1 nb vw' ((insB ky (ky, y, gn) L).map Prod.snd) (insB ky (ky, y, gn) L) (k + 1) ∧ (insB ky (ky, y, gn) L).length ≤ 1000)) := Lib.hid (fun W' vw' h => by
              rw [HRL.out] at h
              exact Lib.hid (fin_ins HP.out HNO.out (wr_room HZ.out.symm HRI.out.1 HP.out HNO.out HLN.out) h))
            go_wp2_with fail
            go_quiet (fail)
            go_upto_region 29 with fail
            go_quiet (fail)
            go_upto_region 31 with fail
            generalize hW3 : ((wc.drewN q).drewN _).drewN _ = W3
            have HX3 := Lib.hid (HX.out.below (show Below wc.heap.size wc W3 by rw [← hW3]; exact Below.drewsN (Below.drewsN (Below.drewsN (Below.refl _ _) _) _) _))
            clear hW3 HX
            have HX := HX3
            clear HX3
            clear HLN HRL HRl HKY HRI HNO HP HZ
            rcases HX.out.li.row.2 with ⟨hv, h0⟩ | ⟨g, cap, cur, hv, -, -, hcap, -⟩
            · obtain rfl := List.eq_nil_of_length_eq_zero h0
              simp only [Value.slice.injEq] at hv
              obtain ⟨rfl, -, rfl⟩ := hv
              obtain rfl : p = 0 := by simpa using hpl
              clear h0
              obtain ⟨i1, hj, hy0, hy1, hy2⟩ := info_parts infoWr
              refine wp_region_held_drew (S := fun _ => True) (by kernel_rfl) trivial (fun hHeld => ?_)
              obtain ⟨wc, hwc⟩ : ∃ x, x = W3.drew := ⟨_, rfl⟩
              have HB := Lib.hid (show Below W3.heap.size W3 wc by rw [hwc]; exact Below.drewsN (Below.refl _ _) 1)
              rw [← hwc]
              clear hwc hHeld
              have hHeld : True := trivial
              refine wpAnyH_take (i := 0) (v := ?v8) rfl (by kernel_rfl) (by kernel_rfl) (by kernel_rfl) (fun _ _ _ h => h) (Or.inl ⟨by rfl, ?hy8⟩) (by assumption) ?_
              case hy8 => (intro w hSw; clear hSw; go_simp; try with_reducible rfl)
              go_simp
              refine wpAnyH_take (i := 1) (v := ?v9) rfl (by kernel_rfl) (by kernel_rfl) (by kernel_rfl) (fun _ _ _ h => h) (Or.inl ⟨by rfl, ?hy9⟩) (by assumption) ?_
              case hy9 => (intro w hSw; clear hSw; go_simp; try with_reducible rfl)
              go_simp
              refine wpAnyH_take (i := 2) (v := ?v10) rfl (by kernel_rfl) (by kernel_rfl) (by kernel_rfl) (fun _ _ _ h => h) (Or.inl ⟨by rfl, ?hy10⟩) (by assumption) ?_
              case hy10 => (intro w hSw; clear hSw; go_simp; try with_reducible rfl)
              go_simp
              refine wpAnyH_take (i := 5) (v := ?v11) rfl (by kernel_rfl) (by kernel_rfl) (by kernel_rfl) (fun _ _ _ h => h) (Or.inl ⟨by rfl, ?hy11⟩) (by assumption) ?_
              case hy11 => (intro w hSw; clear hSw; go_simp; try with_reducible rfl)
              go_simp
              refine wpAnyH_take (i := 6) (v := ?v12) rfl (by kernel_rfl) (by kernel_rfl) (by kernel_rfl) (fun _ _ _ h => h) (Or.inl ⟨by rfl, ?hy12⟩) (by assumption) ?_
              case hy12 => (intro w hSw; clear hSw; go_simp; try with_reducible rfl)
              go_simp
              refine wpAnyH_take (i := 7) (v := ?v13) rfl (by kernel_rfl) (by kernel_rfl) (by kernel_rfl) (fun _ _ _ h => h) (Or.inl ⟨by rfl, ?hy13⟩) (by assumption) ?_
              case hy13 => (intro w hSw; clear hSw; go_simp; try with_reducible rfl)
              go_simp
              refine wpAnyH_ready (rs := [3]) (by kernel_rfl) (by simp) (AllReadyH.cons rfl (fun K hK => ?_) AllReadyH.nil)
              have cq := (HX.out.below HB.out).three
              obtain ⟨cq0, cq1, cq2⟩ := cq
              go_simp
              clear cq0 cq1 cq2
              refine hK.out _ _ (trivial) (fun hHeld => ?_)
              clear hK K
              refine wpAnyH_ready (rs := [4]) (by kernel_rfl) (by simp) (AllReadyH.cons rfl (fun K hK => ?_) AllReadyH.nil)
              go_simp
              obtain ⟨k4, hk4⟩ : ∃ k, k = wc.heap.size := ⟨_, rfl⟩
              obtain ⟨wd, hwd⟩ : ∃ W, W = wc.alloc (.cells #[str ky, str y, .bool gn] 58) := ⟨_, rfl⟩
              have hbs : Below wc.heap.size wc wd := by rw [hwd]; exact below_alloc _ _
              have HL4 := Lib.hid (show wd.ownsRow W3.heap.size 58 3 (.slice (some ⟨k4, 0, none⟩) 1 1) 1 (cellsWr (ky, y, gn)) by rw [hwd, hk4]; exact World.ownsRow_lit (e := 58) (size := 3) wc #[str ky, str y, .bool gn] 1 HB.out.size (by decide) rfl)
              have HB := Lib.hid (HB.out.trans (hbs.mono HB.out.size))
              rw [← hwd, ← hk4]
              clear hwd hk4 hbs
              rename World => wc
              refine hK.out _ _ (trivial) (fun hHeld => ?_)
              clear hK K
              refine wpAnyH_ready (rs := [8]) (by kernel_rfl) (by simp) (AllReadyH.cons rfl (fun K hK => ?_) AllReadyH.nil)
              refine step_appendG (by rfl) _ _ 54 (by rfl) W3.heap.size 58 i1 _ 3 40 Try.underlying54 hj hy0 hy1 hy2 rfl (by decide) k4 1 1 _ (by rfl) HL4.out _ (List.map cellsWr []) (cellsWr_len _) (one_cellsWr _) (by rfl) ((show RdF 3 wc (.slice none 0 0) (List.map cellsWr []) from ⟨none, 0, rfl, by simp, by simp, by simp, fun h => absurd rfl h⟩)) (fun c h => by cases h; rfl) ?_ ?_ HB.out.size ?_
              · simp [maxLen]
              · simp
              intro g8 c8 wd r8 gr8
              have HB := Lib.hid (HB.out.grown gr8 HB.out.size (fun k e => by cases e; exact (HL4.out.lt k4 rfl).1))
              have HR8 := Lib.hid (ins_rowW (R := []) (p := 0) r8)
              clear r8 gr8
              rename World => wc
              go_simp
              refine hK.out _ _ (trivial) (fun hHeld => ?_)
              clear hK K
              refine wpAnyH_ready (rs := [9]) (by kernel_rfl) (by simp) (AllReadyH.cons rfl (fun K hK => ?_) AllReadyH.nil)
              refine step_appendH (by rfl) _ _ 54 (by rfl) nb 58 i1 _ 3 40 Try.underlying54 hj hy0 hy1 hy2 rfl (by decide) (.slice none 0 0) 0 [] (by rfl) (World.ownsRow_nil _ _ _ _) _ (((ky, y, gn) :: List.drop 0 []).map cellsWr) (cellsWr_len _) (one_cellsWr _) (by rfl) (HR8.out _ (by first | omega | simp)) (by simp) ?_ ?_ (Nat.le_trans HX.out.li.nz HB.out.size) ?_
              · simp [maxLen]
              · simp
              intro g9 c9 wd r9 gr9 lo9
              have HI := Lib.hid ((HX.out.li.below HB.out).turn (vw' := .slice (some ⟨g9, 0, none⟩) (0 + ([(ky, y, gn)] : List WrT).length) c9) (R' := [(ky, y, gn)]) (Frm.of_grown gr9 (fun k e => e)) (by simpa using r9) (fun i hi => by simp only [Value.ownBlock, Option.some.injEq] at hi; subst hi; exact lo9.imp id (fun e => by rw [e]; exact Nat.le_refl _)))
              clear r9 gr9 lo9
              rename World => wc
              go_simp
              refine hK.out _ _ (trivial) (fun hHeld => ?_)
              clear hK K
              refine wpAnyH_take (i := 10) (v := ?v14) rfl (by kernel_rfl) (by kernel_rfl) (by kernel_rfl) (fun _ _ _ h => h) (Or.inl ⟨by rfl, ?hy14⟩) (by assumption) ?_
              case hy14 => (intro w hSw; clear hSw; go_simp; try with_reducible rfl)
              go_simp
              refine wpAnyH_done (by kernel_rfl) ?_ _
              have HI2 := Lib.hid (HFI.out _ _ (by simpa using HI.out))
              clear HI
              go_wp2_with fail
              go_roundw
              case rel => exact ⟨k + 1, _, by omega, by go_num, HI2⟩
              case measure => simp [intOf]; omega
            · simp only [Value.slice.injEq, true_and] at hv
              obtain ⟨rfl, rfl⟩ := hv
              have hpc : p ≤ c3 := Nat.le_trans hpl hcap
              clear hcap cur
              obtain ⟨i1, hj, hy0, hy1, hy2⟩ := info_parts infoWr
              refine wp_region_held_drew (S := fun _ => True) (by kernel_rfl) trivial (fun hHeld => ?_)
              obtain ⟨wc, hwc⟩ : ∃ x, x = W3.drew := ⟨_, rfl⟩
              have HB := Lib.hid (show Below W3.heap.size W3 wc by rw [hwc]; exact Below.drewsN (Below.refl _ _) 1)
              rw [← hwc]
              clear hwc hHeld
              have hHeld : True := trivial
              refine wpAnyH_take (i := 0) (v := ?v15) rfl (by kernel_rfl) (by kernel_rfl) (by kernel_rfl) (fun _ _ _ h => h) (Or.inl ⟨by rfl, ?hy15⟩) (by assumption) ?_
              case hy15 => (intro w hSw; clear hSw; go_simp; try with_reducible rfl)
              go_simp
              refine wpAnyH_take (i := 1) (v := ?v16) rfl (by kernel_rfl) (by kernel_rfl) (by kernel_rfl) (fun _ _ _ h => h) (Or.inl ⟨by rfl, ?hy16⟩) (by assumption) ?_
              case hy16 => (intro w hSw; clear hSw; go_simp; try with_reducible rfl)
              go_simp
              refine wpAnyH_take (i := 2) (v := ?v17) rfl (by kernel_rfl) (by kernel_rfl) (by kernel_rfl) (fun _ _ _ h => h) (Or.inl ⟨by rfl, ?hy17⟩) (by assumption) ?_
              case hy17 => (intro w hSw; clear hSw; go_simp; try with_reducible rfl)
              go_simp
              refine wpAnyH_take (i := 5) (v := ?v18) rfl (by kernel_rfl) (by kernel_rfl) (by kernel_rfl) (fun _ _ _ h => h) (Or.inl ⟨by rfl, ?hy18⟩) (by assumption) ?_
              case hy18 => (intro w hSw; clear hSw; go_simp; try with_reducible rfl)
              go_simp
              refine wpAnyH_take (i := 6) (v := ?v19) rfl (by kernel_rfl) (by kernel_rfl) (by kernel_rfl) (fun _ _ _ h => h) (Or.inl ⟨by rfl, ?hy19⟩) (by assumption) ?_
              case hy19 => (intro w hSw; clear hSw; go_simp; try with_reducible rfl)
              go_simp
              refine wpAnyH_take (i := 7) (v := ?v20) rfl (by kernel_rfl) (by kernel_rfl) (by kernel_rfl) (fun _ _ _ h => h) (Or.inl ⟨by rfl, ?hy20⟩) (by assumption) ?_
              case hy20 => (intro w hSw; clear hSw; go_simp; try with_reducible rfl)
              go_simp
              refine wpAnyH_ready (rs := [3]) (by kernel_rfl) (by simp) (AllReadyH.cons rfl (fun K hK => ?_) AllReadyH.nil)
              have cq := (HX.out.below HB.out).three
              obtain ⟨cq0, cq1, cq2⟩ := cq
              go_simp
              clear cq0 cq1 cq2
              refine hK.out _ _ (trivial) (fun hHeld => ?_)
              clear hK K
              refine wpAnyH_ready (rs := [4]) (by kernel_rfl) (by simp) (AllReadyH.cons rfl (fun K hK => ?_) AllReadyH.nil)
              go_simp
              obtain ⟨k4, hk4⟩ : ∃ k, k = wc.heap.size := ⟨_, rfl⟩
              obtain ⟨wd, hwd⟩ : ∃ W, W = wc.alloc (.cells #[str ky, str y, .bool gn] 58) := ⟨_, rfl⟩
              have hbs : Below wc.heap.size wc wd := by rw [hwd]; exact below_alloc _ _
              have HL4 := Lib.hid (show wd.ownsRow W3.heap.size 58 3 (.slice (some ⟨k4, 0, none⟩) 1 1) 1 (cellsWr (ky, y, gn)) by rw [hwd, hk4]; exact World.ownsRow_lit (e := 58) (size := 3) wc #[str ky, str y, .bool gn] 1 HB.out.size (by decide) rfl)
              have HB := Lib.hid (HB.out.trans (hbs.mono HB.out.size))
              rw [← hwd, ← hk4]
              clear hwd hk4 hbs
              rename World => wc
              refine hK.out _ _ (trivial) (fun hHeld => ?_)
              clear hK K
              refine wpAnyH_ready (rs := [8]) (by kernel_rfl) (by simp) (AllReadyH.cons rfl (fun K hK => ?_) AllReadyH.nil)
              refine step_appendG (by rfl) _ _ 54 (by rfl) W3.heap.size 58 i1 _ 3 40 Try.underlying54 hj hy0 hy1 hy2 rfl (by decide) k4 1 1 _ (by rfl) HL4.out _ ((R.drop p).map cellsWr) (cellsWr_len _) (one_cellsWr _) (by rfl) ((HX.out.li.below HB.out).behind hpl) (fun c h => by first | exact ite_noneW h | cases h) ?_ ?_ HB.out.size ?_
              · simp [maxLen]; omega
              · simp; omega
              intro g8 c8 wd r8 gr8
              have HB := Lib.hid (HB.out.grown gr8 HB.out.size (fun k e => by cases e; exact (HL4.out.lt k4 rfl).1))
              have HR8 := Lib.hid (ins_rowW (R := R) (p := p) r8)
              clear r8 gr8
              rename World => wc
              go_simp
              refine hK.out _ _ (trivial) (fun hHeld => ?_)
              clear hK K
              refine wpAnyH_ready (rs := [9]) (by kernel_rfl) (by simp) (AllReadyH.cons rfl (fun K hK => ?_) AllReadyH.nil)
              refine step_appendH (by rfl) _ _ 54 (by rfl) nb 58 i1 _ 3 40 Try.underlying54 hj hy0 hy1 hy2 rfl (by decide) (.slice (some ⟨g, 0, none⟩) p c3) p _ (by rfl) ((HX.out.li.below HB.out).ahead hpl) _ (((ky, y, gn) :: R.drop p).map cellsWr) (cellsWr_len _) (one_cellsWr _) (by rfl) (HR8.out _ (by first | omega | simp)) (by simp) ?_ ?_ (Nat.le_trans HX.out.li.nz HB.out.size) ?_
              · simp [maxLen]; omega
              · simp; omega
              intro g9 c9 wd r9 gr9 lo9
              have HI := Lib.hid ((HX.out.li.below HB.out).turn (vw' := .slice (some ⟨g9, 0, none⟩) (R.length + 1) c9) (R' := R.take p ++ (ky, y, gn) :: R.drop p) (Frm.of_grown gr9 (fun k e => e)) (ins_wr (R := R) hpl r9) (fun i hi => by simp only [Value.ownBlock, Option.some.injEq] at hi; subst hi; exact lo9.imp id (fun e => by rw [e]; exact Nat.le_refl _)))
              clear r9 gr9 lo9
              rename World => wc
              rw [show p + (((ky, y, gn) :: R.drop p).map cellsWr).length = R.length + 1 by simp; omega]
              go_simp
              refine hK.out _ _ (trivial) (fun hHeld => ?_)
              clear hK K
              refine wpAnyH_take (i := 10) (v := ?v21) rfl (by kernel_rfl) (by kernel_rfl) (by kernel_rfl) (fun _ _ _ h => h) (Or.inl ⟨by rfl, ?hy21⟩) (by assumption) ?_
              case hy21 => (intro w hSw; clear hSw; go_simp; try with_reducible rfl)
              go_simp
              refine wpAnyH_done (by kernel_rfl) ?_ _
              have HI2 := Lib.hid (HFI.out _ _ HI.out)
              clear HI
              go_wp2_with fail
              go_roundw
              case rel => exact ⟨k + 1, _, by omega, by go_num, HI2⟩
              case measure => simp [intOf]; omega
    · obtain rfl : k = A.length := by omega
      have g3 : decide ((A.length : Int) < (A.length : Int)) = false := decide_eq_false (by omega)
      have g3' : ¬ (A.length : Int) < (A.length : Int) := by omega
      obtain ⟨R, hR⟩ : ∃ R, R = L.map Prod.snd := ⟨_, rfl⟩
      have HRL := Lib.hid hR
      have g9 : ((R.length : Int) ≤ 1000) := by rw [hR, List.length_map]; have := HLN.out; omega
      have g8 : decide ((R.length : Int) ≤ 1000) = true := decide_eq_true g9
      rw [← hR] at HG
      rw [← hR]
      clear hR
      go_wp2_with fail
      refine (CF.out _).mono ?_
      rintro e wA ⟨rfl, hbA⟩
      have HA := Lib.hid (HG.out.1.below hbA)
      clear hbA HG
      have CW := Lib.hid (txWrites HA.out.t (by omega))
      rw [← HRL.out] at CW
      go_wp2_with fail
      refine CW.out.mono ?_
      rintro e wB ⟨vws, rfl, hrw, hbB⟩
      have HBw := Lib.hid (HA.out.below hbB)
      have CAL := Lib.hid (alikeWrites_any vws (.slice a3 R.length c3) R wB (RdF.of_row (cellsWr_len _) (by simpa using hrw)) (rdw_li HBw.out))
      clear CW hrw hbB HA
      go_wp2_with fail
      refine CAL.out.mono ?_
      rintro e wC ⟨rfl, hbC⟩
      have HC := Lib.hid (HBw.out.below hbC)
      clear CAL hbC HBw
      have CC := Lib.hid (ttClash HC.out.ut (by decide))
      unfold ClR at CC
      rw [List.any_nil] at CC
      go_wp2_with fail
      refine CC.out.mono ?_
      rintro e wD ⟨rfl, hbD⟩
      have HD := Lib.hid (HC.out.below hbD)
      clear CC hbD HC
      have CI := Lib.hid (txWrites HD.out.u (by omega))
      go_wp2_with fail
      refine CI.out.mono ?_
      rintro e wE ⟨vwi, rfl, hri, hbE⟩
      have HE := Lib.hid (H1.out.trans ((HD.out.below hbE).sg.bel.mono H1.out.size))
      obtain ⟨ai, ci, rfl, -⟩ := rdW_form (l := (([] : OwnL).map Prod.snd)) (RdF.of_row (cellsWr_len _) (by simpa using hri))
      clear CI hri hbE HD
      go_wp2_with fail
      go_ret
      exact ⟨rfl, HE.out⟩
end Go.Proofs.Ytcgjiddiegepkaa
