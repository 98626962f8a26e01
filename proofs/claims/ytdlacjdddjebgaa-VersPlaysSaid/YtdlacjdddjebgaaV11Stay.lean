/- VersStays: the walk. -/
import Derived.Test.YtdlacjdddjebgaaV11StayN
import Derived.Laws.Cover1
import Derived.Deep.RegionHeld3
import Derived.Deep.CutRange
namespace Go.Proofs.Ytdlacjdddjebgaa
open Go.RowKit

/-- Behind the first list. -/
def SA (w1 wr : World) (s mb : Nat) (k : Nat) : Prop := ∃ C, SG w1 (fun _ => False) wr s mb C 0 k
/-- Under way in the second one. -/
def SB (w1 w3 wr : World) (K : Nat → Prop) (s mb : Nat) (at1 : Int) (L : List PairT) (k : Nat) : Prop := ∃ C low, SG w1 K wr s mb C low k ∧ Kp K w3 wr ∧ scanC at1 C = L
/-- At the end: the store, what is seen. -/
def StP (w1 : World) (K : Nat → Prop) (s mb : Nat) (C : ChC) (low : Int) (n : Nat) (v : Value) (L : List PairT) (W : World) : Prop := SG w1 K W s mb C low n ∧ RdP W v L
theorem StP.up {w1 : World} {K : Nat → Prop} {s mb : Nat} {C : ChC} {low : Int} {n : Nat} {v : Value} {L : List PairT} {W W' : World} (h : StP w1 K s mb C low n v L W) (hb : Below W.heap.size W W') : StP w1 K s mb C low n v L W' := ⟨h.1.below hb, RdF.below h.2 hb (Nat.le_refl _)⟩
set_option maxRecDepth 100000 in
set_option maxHeartbeats 8000000 in
theorem stays_main (va : Value) (la : List Op11) (vb : Value) (lb : List Op11) (at1 : Int) (w : World) (ha : Rd11 w va la) (hsa : ∀ o ∈ la, o.ok) (hb : Rd11 w vb lb) (hsb : ∀ o ∈ lb, o.ok) (_ : -9223372036854775808 ≤ at1 ∧ at1 ≤ 9223372036854775807) :
    Calls Try.prog 4 #[va, vb, .int .i64 at1] w fun e w' => e = .returned (.bool true) ∧ Below w.heap.size w w' := by
  have CF := Lib.hid v11first_any
  have CN := Lib.hid newG
  have CA : Hid (∀ W, Below w.heap.size w W → Calls Try.prog 10 #[va] W (FewP11 la W)) := Lib.hid (fun W h => few11_any va la W (ha.up h) hsa)
  have CB : Hid (∀ W, Below w.heap.size w W → Calls Try.prog 10 #[vb] W (FewP11 lb W)) := Lib.hid (fun W h => few11_any vb lb W (hb.up h) hsb)
  have HRA := Lib.hid ha
  have HRB := Lib.hid hb
  clear ha hb hsa hsb
  go_enter Try.func4, Try.ntmps4
  go_wp2_with fail
  refine (CF.out _).mono ?_
  rintro e w1 ⟨rfl, hb1⟩
  have H1 := Lib.hid hb1
  clear hb1
  go_wp2_with fail
  refine (CN.out _).mono ?_
  rintro e w2 ⟨s, mb, rfl, h2⟩
  have H2 := Lib.hid h2
  have HB2 : Hid (Below w.heap.size w w2) := Lib.hid (H1.out.trans (H2.out.bel.mono H1.out.size))
  clear h2 CN
  go_wp2_with fail
  refine (CA.out _ HB2.out).mono ?_
  rintro e w' ⟨ba, rfl, hla, rfl⟩
  have HLA := Lib.hid hla
  clear hla CA
  cases ba
  case false =>
    go_wp2_with fail
    refine (CF.out _).mono ?_
    rintro e w3 ⟨rfl, hb3⟩
    have HX := Lib.hid (HB2.out.trans (hb3.mono HB2.out.size))
    clear hb3
    go_wp2_with fail
    go_ret
    exact ⟨rfl, HX.out⟩
  go_wp2_with fail
  refine (CB.out _ HB2.out).mono ?_
  rintro e w' ⟨bb, rfl, hlb, rfl⟩
  have HLB := Lib.hid hlb
  clear hlb CB
  cases bb
  case false =>
    go_wp2_with fail
    refine (CF.out _).mono ?_
    rintro e w3 ⟨rfl, hb3⟩
    have HX := Lib.hid (HB2.out.trans (hb3.mono HB2.out.size))
    clear hb3
    go_wp2_with fail
    go_ret
    exact ⟨rfl, HX.out⟩
  by_cases h0 : at1 < 0
  · have g0 : decide (at1 < 0) = true := decide_eq_true h0
    go_wp2_with fail
    refine (CF.out _).mono ?_
    rintro e w3 ⟨rfl, hb3⟩
    have HX := Lib.hid (HB2.out.trans (hb3.mono HB2.out.size))
    clear hb3
    go_wp2_with fail
    go_ret
    exact ⟨rfl, HX.out⟩
  have g0 : decide (at1 < 0) = false := decide_eq_false h0
  have hla : la.length ≤ 300 := HLA.out trivial
  have hlb : lb.length ≤ 300 := HLB.out rfl
  clear HLA HLB
  obtain ⟨aa, ca, rfl, _⟩ := HRA.out.form
  obtain ⟨ab, cb, rfl, _⟩ := HRB.out.form
  go_wp2_with fail
  go_loopw [8] (fun i wr => ∃ k : Nat, k ≤ la.length ∧ i = .int .i64 (k : Int) ∧ Hid (SA w1 wr s mb k)) (fun i _ => la.length - (intOf i).toNat)
  case atStart => exact ⟨0, Nat.zero_le _, rfl, Lib.hid ⟨_, H2.out⟩⟩
  case round =>
    obtain ⟨k, hk, rfl, HS⟩ := hrel
    by_cases hlt : k < la.length
    · have g3 : decide ((k : Int) < (la.length : Int)) = true := decide_eq_true (by omega)
      have g3' : (k : Int) < (la.length : Int) := by omega
      have g4 : (0 : Int) ≤ (k : Int) := by omega
      obtain ⟨C, hC⟩ := HS.out
      have hW : Below w.heap.size w wr := H1.out.trans (hC.bel.mono H1.out.size)
      obtain ⟨bA, oA, rfl, c0, c1, c2, c3, c4⟩ := (HRA.out.up hW).get hlt
      have CP := Lib.hid (putO hC (by omega) la[k])
      obtain ⟨o, ho⟩ : ∃ o, o = la[k] := ⟨_, rfl⟩
      rw [← ho] at c0 c1 c2 c3 c4 CP
      obtain ⟨kd, oa, ky, y, hi⟩ := o
      dsimp only at c0 c1 c2 c3 c4
      unfold enc11 at CP
      dsimp only at CP
      clear ho hC hW HS H2
      go_wp2_with fail
      refine CP.out.mono ?_
      rintro e w4 ⟨rfl, h4, _⟩
      have H4 := Lib.hid h4
      clear h4 CP c0 c1 c2 c3 c4
      go_wp2_with fail
      go_roundw
      case rel => exact ⟨k + 1, by omega, by go_num, Lib.hid ⟨_, H4.out⟩⟩
      case measure => simp [intOf]; omega
    · obtain rfl : k = la.length := by omega
      have g3 : decide ((la.length : Int) < (la.length : Int)) = false := decide_eq_false (by omega)
      go_wp2_with fail
      obtain ⟨C, hC⟩ := HS.out
      have HC := Lib.hid hC
      have CL := Lib.hid (lowG hC)
      have CS := Lib.hid (scan_any wr s [] [] at1)
      have CQ := Lib.hid (scannedG hC (by omega) at1 1048576 (by decide))
      clear hC HS H2
      refine CL.out.mono ?_
      rintro e w' ⟨rfl, rfl⟩
      go_wp2_with fail
      refine CS.out.mono ?_
      rintro e w' ⟨rfl, rfl⟩
      go_wp2_with fail
      refine CQ.out.mono ?_
      intro e w3 h3
      obtain ⟨vw, rfl, ho, hr, hb3⟩ := scanP_read h3
      have et : (scanC at1 C).take (1048576 : Int).toNat = scanC at1 C := List.take_of_length_le (by have := scan_len at1 C; have := HC.out.ris.2.2; show _ ≤ 1048576; omega)
      rw [et] at ho hr
      obtain ⟨L, hL⟩ : ∃ L, L = scanC at1 C := ⟨_, rfl⟩
      have hLn : L.length ≤ 300 := by rw [hL]; have := scan_len at1 C; have := HC.out.ris.2.2; omega
      rw [← hL] at ho hr
      obtain ⟨K, hK⟩ : ∃ K : Nat → Prop, K = fun i => wr.heap.size ≤ i ∧ i < w3.heap.size := ⟨_, rfl⟩
      have HS : Hid (SB w1 w3 w3 K s mb at1 L la.length) := Lib.hid ⟨C, 0, by rw [hK]; exact HC.out.keep hb3, Frm.refl _ _, hL.symm⟩
      have HO : Hid (∀ W, Kp K w3 W → RdP W vw L) := Lib.hid (fun W h => by
        have hn : ∀ k, vw.ownBlock = some k → ¬ ¬ K k := fun k e he => he (by rw [hK]; exact World.ownsRow.lt ho k e)
        exact RdF.of_row (fun r hr => by obtain ⟨p, _, rfl⟩ := List.mem_map.1 hr; rfl) (by simpa using owns_frm ho h hn))
      obtain ⟨aw, cw, rfl, _⟩ := hr.form
      clear hK ho hr h3 et hL CQ CS CL HC hb3
      go_wp2_with fail
      go_loopw [10, 11] (fun i b wr' => ∃ k : Nat, k ≤ lb.length ∧ i = .int .i64 (k : Int) ∧ Hid (SB w1 w3 wr' K s mb at1 L (la.length + k))) (fun i _ _ => lb.length - (intOf i).toNat)
      case atStart => exact ⟨0, Nat.zero_le _, rfl, HS⟩
      case round =>
        obtain ⟨k, hk, rfl, HS⟩ := hrel
        by_cases hlt : k < lb.length
        · have g3 : decide ((k : Int) < (lb.length : Int)) = true := decide_eq_true (by omega)
          have g3' : (k : Int) < (lb.length : Int) := by omega
          have g4 : (0 : Int) ≤ (k : Int) := by omega
          obtain ⟨C, low, hC, hKp, hL⟩ := HS.out
          have hW : Below w.heap.size w wr := H1.out.trans (hC.bel.mono H1.out.size)
          obtain ⟨bA, oA, rfl, c0, c1, c2, c3, c4⟩ := (HRB.out.up hW).get hlt
          obtain ⟨o, ho⟩ : ∃ o, o = lb[k] := ⟨_, rfl⟩
          rw [← ho] at c0 c1 c2 c3 c4
          have hbl := below_alloc wr (.cells #[.int .i64 o.kind, .int .i64 o.at1, str o.key, str o.v, str o.hi] 32)
          have HC := Lib.hid (And.intro (hC.below hbl) (And.intro (hKp.tr (Kp.of hbl)) hL))
          have CU := Lib.hid (pruneG HC.out.1 (by omega) o.at1)
          have CP := Lib.hid (putO HC.out.1 (by omega) o)
          have HSO : Hid (at1 < o.at1 → scanC at1 (opC o C low) = L) := Lib.hid (fun h => (scan_opC o C low at1 h).trans hL)
          have HSU : Hid (o.at1 ≤ at1 → scanC at1 (pruG o.at1 low C) = L) := Lib.hid (fun h => (scan_pruG o.at1 low C at1 h hC.ris.1).trans hL)
          obtain ⟨kd, oa, ky, y, hi⟩ := o
          dsimp only at c0 c1 c2 c3 c4 HC CU CP HSU HSO
          unfold enc11 at CP
          dsimp only at CP
          clear ho hC hW HS hbl hKp hL
          by_cases k2 : kd = 2
          · subst k2
            by_cases hat1 : oa ≤ at1
            · have d1 : decide (oa ≤ at1) = true := decide_eq_true hat1
              go_wp2_with fail
              refine CU.out.mono ?_
              rintro e w5 ⟨rfl, h5, h6⟩
              have HX : Hid (SB w1 w3 w5 K s mb at1 L (la.length + k)) := Lib.hid ⟨_, _, h5, HC.out.2.1.tr h6, HSU.out hat1⟩
              clear h5 h6 CU CP HC HSO HSU c0 c1 c2 c3 c4
              go_wp2_with fail
              go_roundw
              case rel => exact ⟨k + 1, by omega, by go_num, Lib.hid (by obtain ⟨C', l', h1, h2, h3⟩ := HX.out; exact ⟨C', l', h1.wide (by omega), h2, h3⟩)⟩
              case measure => simp [intOf]; omega
            · have d1 : decide (oa ≤ at1) = false := decide_eq_false hat1
              have HX : Hid (SB w1 w3 _ K s mb at1 L (la.length + k)) := Lib.hid ⟨_, _, HC.out.1, HC.out.2.1, HC.out.2.2⟩
              clear CU CP HC HSO HSU
              go_wp2_with fail
              go_roundw
              case rel => exact ⟨k + 1, by omega, by go_num, Lib.hid (by obtain ⟨C', l', h1, h2, h3⟩ := HX.out; exact ⟨C', l', h1.wide (by omega), h2, h3⟩)⟩
              case measure => simp [intOf]; omega
          have e2 : (kd == 2) = false := beq_eq_false_iff_ne.2 k2
          by_cases hp : kd < 2 ∧ at1 < oa
          · have d1 : decide (kd < 2) = true := decide_eq_true hp.1
            have d2 : decide (at1 < oa) = true := decide_eq_true hp.2
            go_wp2_with fail
            refine CP.out.mono ?_
            rintro e w5 ⟨rfl, h5, h6⟩
            have HX : Hid (SB w1 w3 w5 K s mb at1 L (la.length + k + 1)) := Lib.hid ⟨_, _, h5, HC.out.2.1.tr h6, HSO.out hp.2⟩
            clear h5 h6 CU CP HC HSO HSU c0 c1 c2 c3 c4
            go_wp2_with fail
            go_roundw
            case rel => exact ⟨k + 1, by omega, by go_num, HX⟩
            case measure => simp [intOf]; omega
          · have HX : Hid (SB w1 w3 _ K s mb at1 L (la.length + k)) := Lib.hid ⟨_, _, HC.out.1, HC.out.2.1, HC.out.2.2⟩
            clear CU CP HC HSO HSU
            by_cases hp1 : kd < 2
            · have d1 : decide (kd < 2) = true := decide_eq_true hp1
              have d2 : decide (at1 < oa) = false := decide_eq_false (fun h => hp ⟨hp1, h⟩)
              go_wp2_with fail
              go_roundw
              case rel => exact ⟨k + 1, by omega, by go_num, Lib.hid (by obtain ⟨C', l', h1, h2, h3⟩ := HX.out; exact ⟨C', l', h1.wide (by omega), h2, h3⟩)⟩
              case measure => simp [intOf]; omega
            · have d1 : decide (kd < 2) = false := decide_eq_false hp1
              go_wp2_with fail
              go_roundw
              case rel => exact ⟨k + 1, by omega, by go_num, Lib.hid (by obtain ⟨C', l', h1, h2, h3⟩ := HX.out; exact ⟨C', l', h1.wide (by omega), h2, h3⟩)⟩
              case measure => simp [intOf]; omega
        · obtain rfl : k = lb.length := by omega
          have g3 : decide ((lb.length : Int) < (lb.length : Int)) = false := decide_eq_false (by omega)
          go_wp2_with fail
          obtain ⟨C', low, hC, hKp, hL⟩ := HS.out
          obtain ⟨n, hn⟩ : ∃ n, n = la.length + lb.length := ⟨_, rfl⟩
          rw [← hn] at hC
          have hn6 : n ≤ 600 := by omega
          have HC := Lib.hid hC
          have HKp := Lib.hid hKp
          have CS := Lib.hid (scan_any wr s [] [] at1)
          have CQ := Lib.hid (scannedG hC (by omega) at1 1048576 (by decide))
          rw [hL, List.take_of_length_le (show L.length ≤ (1048576 : Int).toNat by show _ ≤ 1048576; omega)] at CQ
          have HL := Lib.hid (And.intro hL (And.intro (fun p hp => scan_at (at1 := at1) hC.ris.2.1 (p := p) hp) (scan_ris (at1 := at1) hC.ris.2.1)))
          have HL0 := Lib.hid hL
          rw [hL] at HL
          clear hC HS hKp hn hL
          refine CS.out.mono ?_
          rintro e w' ⟨rfl, rfl⟩
          go_wp2_with fail
          refine CQ.out.mono ?_
          intro e w6 h6
          obtain ⟨vn, rfl, _, hr, hb6⟩ := scanP_read h6
          have HR6 := Lib.hid hr
          have HO6 := Lib.hid (HO.out w6 (HKp.out.tr (Kp.of hb6)))
          have HC6 := Lib.hid (HC.out.below hb6)
          obtain ⟨an, cn, rfl, _⟩ := hr.form
          clear hr h6 hb6 CQ CS HC HKp HO
          have CA := Lib.hid (alikePairs_any _ _ L w6 HR6.out HO6.out)
          go_wp2_with fail
          refine CA.out.mono ?_
          rintro e w7 ⟨rfl, hb7⟩
          have HC7 := Lib.hid (HC6.out.below hb7)
          have HR7 : Hid (RdP w7 (.slice an L.length cn) L) := Lib.hid (RdF.below HR6.out hb7 (Nat.le_refl _))
          clear hb7 CA HR6 HO6 HC6
          go_wp2_with fail
          go_loopw [13, 14, 15] (fun i a b wr' => ∃ k : Nat, k ≤ L.length ∧ i = .int .i64 (k : Int) ∧ Hid (SG w1 K wr' s mb C' low n ∧ RdP wr' (.slice an L.length cn) L)) (fun i _ _ _ => L.length - (intOf i).toNat)
          case atStart => exact ⟨0, Nat.zero_le _, rfl, Lib.hid ⟨HC7.out, HR7.out⟩⟩
          case round =>
            obtain ⟨k, hk, rfl, HS⟩ := hrel
            by_cases hlt : k < L.length
            · have g3 : decide ((k : Int) < (L.length : Int)) = true := decide_eq_true (by omega)
              have g3' : (k : Int) < (L.length : Int) := by omega
              have g4 : (0 : Int) ≤ (k : Int) := by omega
              obtain ⟨bA, oA, rfl, c0, c1⟩ := HS.out.2.get hlt
              obtain ⟨p, hp⟩ : ∃ p, p = L[k] := ⟨_, rfl⟩
              have hs := HL.out.2.1 _ (List.getElem_mem hlt)
              rw [← hp] at c0 c1 hs
              have CG := Lib.hid (getG HS.out.1 (by omega) p.1 at1)
              rw [hs] at CG
              unfold seenEVS at CG
              have HP : Hid (k ≠ 0 → ∃ q, Hid (∃ (h : k - 1 < L.length), q = L[k - 1]) ∧ Op.bytesLess q.1 p.1 = true) := Lib.hid (fun h0 => ⟨L[k - 1], Lib.hid ⟨by omega, rfl⟩, by rw [hp]; exact List.pairwise_iff_getElem.1 HL.out.2.2 (k - 1) k (by omega) hlt (by omega)⟩)
              obtain ⟨pk, pv⟩ := p
              dsimp only [Option.getD_some, Option.isSome_some] at c0 c1 CG HP
              clear hp hs
              go_wp2_with fail
              refine CG.out.mono ?_
              rintro e w8 ⟨rfl, hb8⟩
              have HS8 : Hid (SG w1 K w8 s mb C' low n ∧ RdP w8 (.slice (some ⟨bA, oA, none⟩) L.length cn) L) := Lib.hid ⟨HS.out.1.below hb8, RdF.below HS.out.2 hb8 (Nat.le_refl _)⟩
              have d0 : w8.cell? ⟨bA, oA + k * 2, none⟩ = some (str pk) := (hb8.cell (p := ⟨bA, oA + k * 2, none⟩) (World.block_lt_of_cell? wr _ c0)).trans c0
              have d1 : w8.cell? ⟨bA, oA + k * 2 + 1, none⟩ = some (str pv) := (hb8.cell (p := ⟨bA, oA + k * 2 + 1, none⟩) (World.block_lt_of_cell? wr _ c1)).trans c1
              have n1 : (pv != pv) = false := bne_self_eq_false _
              clear c0 c1 hb8 HS CG
              go_wp2_with fail
              by_cases h0 : k = 0
              · subst h0
                go_quiet (fail)
                go_wp2_with fail
                go_roundw
                case rel => exact ⟨0 + 1, by omega, by go_num, Lib.hid ⟨HS8.out.1.below (Below.drewsN (Below.refl _ _) _), RdF.below HS8.out.2 (Below.drewsN (Below.refl _ _) _) (Nat.le_refl _)⟩⟩
                case measure => simp [intOf]; omega
              · obtain ⟨q, hq, hlq⟩ := HP.out h0
                obtain ⟨j, hj⟩ : ∃ j, j = k - 1 := ⟨_, rfl⟩
                have hjl : j < L.length := by omega
                obtain ⟨_, _, hh, e0, e1⟩ := HS8.out.2.get hjl
                cases hh
                obtain ⟨hq1, hq2⟩ := hq.out
                have hq3 : q = L[j] := by rw [hq2]; simp only [hj]
                rw [← hq3] at e0
                have hw : IntKind.i64.wrap ((k : Int) - 1) = (j : Int) := by rw [IntWalk.i64_in _ (by omega)]; omega
                have j1 : (j : Int) < (L.length : Int) := by omega
                have j2 : (0 : Int) ≤ (j : Int) := by omega
                have k0 : decide ((0 : Int) < (k : Int)) = true := decide_eq_true (by omega)
                have k1 : 0 < k := by omega
                have hlq2 : Op.bytesLess pk q.1 = false := by
                  cases e : Op.bytesLess pk q.1 with
                  | false => rfl
                  | true => have := bl_tr _ _ _ e hlq; rw [bl_irr] at this; cases this
                obtain ⟨qk, qv⟩ := q
                dsimp only at e0 hlq hlq2
                have hne : (pk == qk) = false := by
                  cases e : (pk == qk) with
                  | false => rfl
                  | true => rw [eq_of_beq e, bl_irr] at hlq; cases hlq
                clear e1 hq hq1 hq2 hq3 hj hjl HP
                go_quiet (fail)
                go_wp2_with fail
                go_roundw
                case rel => exact ⟨k + 1, by omega, by go_num, Lib.hid ⟨HS8.out.1.below (Below.drewsN (Below.refl _ _) _), RdF.below HS8.out.2 (Below.drewsN (Below.refl _ _) _) (Nat.le_refl _)⟩⟩
                case measure => simp [intOf]; omega
            · obtain rfl : k = L.length := by omega
              have g3 : decide ((L.length : Int) < (L.length : Int)) = false := decide_eq_false (by omega)
              obtain ⟨M, hM⟩ : ∃ M : Nat, M = min 3 L.length := ⟨_, rfl⟩
              have hMi : min (3 : Int) (L.length : Int) = (M : Int) := by omega
              have hMl : M ≤ L.length := by omega
              have HM : Hid (L.take 3 = L.take M ∧ (L.take M).length = M) := Lib.hid ⟨by rw [hM, take_min], by rw [List.length_take]; omega⟩
              have q1 : (0 : Int) ≤ (M : Int) := by omega
              have q2 : (M : Int) ≤ (cn : Int) := by have := HS.out.2; obtain ⟨_, _, he, _, h2, _⟩ := this; simp only [Value.slice.injEq] at he; rw [List.length_map] at h2; omega
              go_upto_region 30 with fail
              go_cut [16] from 153 to 155 (fun kv wc => kv = .int .i64 (M : Int) ∧ wr = wc)
              case first =>
                go_wp2_with fail
                all_goals
                  go_meet
                  case rel => exact ⟨congrArg (Value.int .i64) (by omega), rfl⟩
              case rest =>
              obtain ⟨rfl, rfl⟩ := hcut
              clear hM hMi
              have HB : Hid (StP w1 K s mb C' low n (.slice an L.length cn) L wr.drew) := Lib.hid ⟨HS.out.1.below (Below.drewsN (Below.refl _ _) 1), RdF.below HS.out.2 (Below.drewsN (Below.refl _ _) 1) (Nat.le_refl _)⟩
              have C1 : Hid (∀ W, Hid (StP w1 K s mb C' low n (.slice an L.length cn) L W) → Calls Try.prog 8 #[] W fun e W' => e = .returned (.bool true) ∧ Hid (StP w1 K s mb C' low n (.slice an L.length cn) L W')) := Lib.hid (fun W H => (CF.out W).mono (by
                rintro e W' ⟨rfl, hb⟩
                exact ⟨rfl, Lib.hid (H.out.up hb)⟩))
              have C2 : Hid (∀ W, Hid (StP w1 K s mb C' low n (.slice an L.length cn) L W) → Calls Try.prog 31 #[.pointer (some ⟨s, 0, none⟩), str [], str [], .int .i64 at1] W fun e W' => ∃ b, e = .returned (.func (.func 52) #[] #[.pointer (some ⟨b, 0, none⟩), .pointer (some ⟨b + 1, 0, none⟩), .pointer (some ⟨b + 2, 0, none⟩), .pointer (some ⟨b + 3, 0, none⟩)]) ∧ Hid (StP w1 K s mb C' low n (.slice an L.length cn) L W' ∧ ScB W' b (b + 1) (b + 2) (b + 3) s [] [] at1)) := Lib.hid (fun W H => (scan_any W s [] [] at1).mono (by
                rintro e W' ⟨rfl, rfl⟩
                have h := scanW_box W s [] [] at1
                exact ⟨_, rfl, Lib.hid ⟨H.out.up h.2, h.1⟩⟩))
              have C3 : Hid (∀ W b, Hid (StP w1 K s mb C' low n (.slice an L.length cn) L W ∧ ScB W b (b + 1) (b + 2) (b + 3) s [] [] at1) → Calls Try.prog 30 #[.func (.func 52) #[] #[.pointer (some ⟨b, 0, none⟩), .pointer (some ⟨b + 1, 0, none⟩), .pointer (some ⟨b + 2, 0, none⟩), .pointer (some ⟨b + 3, 0, none⟩)], .int .i64 3] W fun e W' => ∃ a c, e = .returned (.slice a M c) ∧ Hid (StP w1 K s mb C' low n (.slice an L.length cn) L W' ∧ RdP W' (.slice a M c) (L.take M))) := Lib.hid (fun W b H => (scannedB H.out.1.1 (by omega) at1 3 (by decide) H.out.2).mono (by
                intro e W' h
                rw [HL0.out, show (3 : Int).toNat = 3 from rfl, HM.out.1] at h
                obtain ⟨a, c, rfl, h1, h2⟩ := prs_read h
                rw [HM.out.2] at h1
                exact ⟨a, c, by rw [HM.out.2], Lib.hid ⟨H.out.1.up h2, h1⟩⟩))
              have C4 : Hid (∀ W a c, Hid (StP w1 K s mb C' low n (.slice an L.length cn) L W ∧ RdP W (.slice a M c) (L.take M)) → Calls Try.prog 29 #[.slice a M c, .slice an M cn] W fun e W' => e = .returned (.bool true) ∧ Hid (StP w1 K s mb C' low n (.slice an L.length cn) L W')) := Lib.hid (fun W a c H => (alikePairs_any _ _ (L.take M) W H.out.2 (H.out.1.2.take M hMl)).mono (by
                rintro e W' ⟨rfl, hb⟩
                exact ⟨rfl, Lib.hid (H.out.1.up hb)⟩))
              clear HS HC7 HR7
              go_wp2_with fail
              go_region_held3 (fun _ => True) (first | trivial | go_keep)
                ((first
                  | (go_at_call 8; refine (C1.out _ HB).mono ?_; rintro e w9 ⟨rfl, HB⟩)
                  | (go_at_call 31; refine (C2.out _ HB).mono ?_; rintro e w9 ⟨b, rfl, HB⟩)
                  | (go_at_call 30; refine (C3.out _ _ HB).mono ?_; rintro e w9 ⟨a, c, rfl, HB⟩)
                  | (go_at_call 29; refine (C4.out _ _ _ HB).mono ?_; rintro e w9 ⟨rfl, HB⟩)
                  | fail))
              all_goals
                go_wp2_with fail
                go_ret
                exact ⟨rfl, H1.out.trans (HB.out.1.bel.mono H1.out.size)⟩
end Go.Proofs.Ytdlacjdddjebgaa
