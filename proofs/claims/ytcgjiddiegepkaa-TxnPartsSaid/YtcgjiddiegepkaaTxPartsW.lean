import Derived.Test.YtcgjiddiegepkaaTxPartsM
import Derived.Test.YtcgjiddiegepkaaTxStores
import Derived.Laws.Cover1
import Derived.Deep.RegionHeld3
import Derived.Deep.RegionHeld
import Derived.Deep.CutRange
import Derived.Deep.CutBlock
/- TxnParts: the walk. -/
namespace Go.Proofs.Ytcgjiddiegepkaa
open Go.RowKit
set_option maxRecDepth 100000 in
set_option maxHeartbeats 16000000 in
theorem parts12_walk (vv : Value) (l : List Op11) (at1 : Int) (va : Value) (A : List Op12) (cut : List UInt8) (n : Int) (w : World) (hv : Rd11 w vv l) (hsv : ∀ o ∈ l, o.ok) (ha : Rd12 w va A) (hsa : ∀ o ∈ A, o.ok) (_ : -9223372036854775808 ≤ at1 ∧ at1 ≤ 9223372036854775807) (hcut : cut.length ≤ 9223372036854775807) (hn : -9223372036854775808 ≤ n ∧ n ≤ 9223372036854775807) :
    Calls Try.prog 5 #[vv, .int .i64 at1, va, str cut, .int .i64 n] w fun e w' => e = .returned (.bool true) ∧ Below w.heap.size w w' := by
  have CF := Lib.hid v12first_any
  have CST : Hid (∀ W, Below w.heap.size w W → Calls Try.prog 9 #[vv] W fun e W' => ∃ s mb b, e = .returned (.tuple #[.pointer (some ⟨s, 0, none⟩), .pointer (some ⟨b, 0, none⟩)]) ∧ Hid (JS W b W' s mb b (storesC l) 0 (storesC l) 0 300)) :=
    Lib.hid (fun W h => (stores_any vv l W (hv.up h) hsv).mono (by rintro e W' ⟨s, mb, b, rfl, h1, _⟩; exact ⟨s, mb, b, rfl, Lib.hid h1⟩))
  have CA : Hid (∀ W, Below w.heap.size w W → Calls Try.prog 10 #[va] W (FewP12 A W)) := Lib.hid (fun W h => few12_any va A W (ha.up h) hsa)
  have HRA := Lib.hid ha
  obtain ⟨aa, ca, rfl, hla0⟩ := ha.form
  obtain ⟨av, cv, rfl, _⟩ := hv.form
  have HN := Lib.hid hn
  clear ha hv hsv hn
  go_enter Try.func5, Try.ntmps5
  go_wp2_with fail
  refine (CF.out _).mono ?_
  rintro e w1 ⟨rfl, hb1⟩
  have H1 := Lib.hid hb1
  clear hb1
  go_wp2_with fail
  refine (CST.out _ H1.out).mono ?_
  rintro e w2 ⟨s, mb, b, rfl, H2⟩
  have HB2 : Hid (Below w.heap.size w w2) := Lib.hid (H1.out.trans (H2.out.bel.mono H1.out.size))
  clear CST
  go_wp2_with fail
  refine (CA.out _ HB2.out).mono ?_
  rintro e w3 ⟨fa, rfl, hfa, hb3⟩
  have H3 := Lib.hid (H2.out.below hb3)
  have HB3 : Hid (Below w.heap.size w w3) := Lib.hid (HB2.out.trans (hb3.mono HB2.out.size))
  clear CA H2 HB2 hb3 hfa
  cases fa
  case false =>
    go_wp2_with fail
    refine (CF.out _).mono ?_
    rintro e wE ⟨rfl, hbE⟩
    have HX := Lib.hid (HB3.out.trans (hbE.mono HB3.out.size))
    clear hbE
    go_wp2_with fail
    go_ret
    exact ⟨rfl, HX.out⟩
  have H4 : Hid (SG w1 (fun _ => False) w3 s mb (storesC l) 0 300) := Lib.hid (by
    obtain ⟨vo, R, h1, _⟩ := H3.out
    exact h1.weak (fun i hi => hi.elim))
  clear H3
  by_cases d0 : (200 : Int) < (A.length : Int)
  · have e0 : decide ((200 : Int) < (A.length : Int)) = true := decide_eq_true d0
    go_wp2_with fail
    refine (CF.out _).mono ?_
    rintro e wE ⟨rfl, hbE⟩
    have HX := Lib.hid (HB3.out.trans (hbE.mono HB3.out.size))
    clear hbE
    go_wp2_with fail
    go_ret
    exact ⟨rfl, HX.out⟩
  have e0 : decide ((200 : Int) < (A.length : Int)) = false := decide_eq_false d0
  by_cases d1 : (1000 : Int) < (cut.length : Int)
  · have e1 : decide ((1000 : Int) < (cut.length : Int)) = true := decide_eq_true d1
    go_wp2_with fail
    refine (CF.out _).mono ?_
    rintro e wE ⟨rfl, hbE⟩
    have HX := Lib.hid (HB3.out.trans (hbE.mono HB3.out.size))
    clear hbE
    go_wp2_with fail
    go_ret
    exact ⟨rfl, HX.out⟩
  have e1 : decide ((1000 : Int) < (cut.length : Int)) = false := decide_eq_false d1
  obtain ⟨C, hC⟩ : ∃ C, C = storesC l := ⟨_, rfl⟩
  rw [← hC] at H4
  clear hC HB3
  go_wp2_with fail
  refine (ttBegin H4.out at1).mono ?_
  rintro e w5 ⟨tb, wb, rfl, h5⟩
  have H5 := Lib.hid h5
  clear h5 H4
  go_wp2_with fail
  go_loopw [14] (fun i wr => ∃ (k : Nat) (L : OwnL), k ≤ A.length ∧ i = .int .i64 (k : Int) ∧ Hid (TT w1 wr s mb C 0 300 tb wb at1 L k)) (fun i _ => A.length - (intOf i).toNat)
  case atStart => exact ⟨0, [], Nat.zero_le _, rfl, H5⟩
  case round =>
    clear H5
    obtain ⟨k, L, hk, rfl, HG⟩ := hrel
    by_cases hlt : k < A.length
    · have g3 : decide ((k : Int) < (A.length : Int)) = true := decide_eq_true (by omega)
      have g3' : (k : Int) < (A.length : Int) := by omega
      have g4 : (0 : Int) ≤ (k : Int) := by omega
      have HW : Hid (∀ W L' k', Hid (TT w1 W s mb C 0 300 tb wb at1 L' k') → Below w.heap.size w W) := Lib.hid (fun W L' k' h => H1.out.trans (h.out.sg.bel.mono H1.out.size))
      obtain ⟨bA, oA, rfl, q0, q1, q2, _⟩ := (HRA.out.up (HW.out _ _ _ HG)).get hlt
      have HCC : Hid (∀ W L' k', Hid (TT w1 W s mb C 0 300 tb wb at1 L' k') → W.cell? ⟨bA, oA + k * 4 + 1, none⟩ = some (str A[k].key) ∧ W.cell? ⟨bA, oA + k * 4 + 2, none⟩ = some (str A[k].v)) := Lib.hid (fun W L' k' h => by
        obtain ⟨b', o', he, _, q2, q3, _⟩ := (HRA.out.up (HW.out _ _ _ h)).get hlt
        simp only [Option.some.injEq, Addr.mk.injEq] at he
        obtain ⟨rfl, rfl, _⟩ := he
        exact ⟨q2, q3⟩)
      obtain ⟨_, z2, z3, _⟩ := hsa _ (List.getElem_mem hlt)
      obtain ⟨kd, hkd⟩ : ∃ kd, kd = A[k].kind := ⟨_, rfl⟩
      obtain ⟨ky, hky⟩ : ∃ ky, ky = A[k].key := ⟨_, rfl⟩
      obtain ⟨y, hy⟩ : ∃ y, y = A[k].v := ⟨_, rfl⟩
      rw [← hkd] at q0
      rw [← hky] at q1 z2 HCC
      rw [← hy] at q2 z3 HCC
      clear hkd hky hy HW
      by_cases h1 : kd = 1
      · subst h1
        have CD := Lib.hid (ttDelete HG.out (by omega) ky z2)
        clear HG z2 z3 HCC
        go_wp2_with fail
        refine CD.out.mono ?_
        rintro e w9 ⟨rfl, h9⟩
        have H9 := Lib.hid h9
        clear h9 CD
        go_wp2_with fail
        go_roundw
        case rel => exact ⟨k + 1, _, by omega, by go_num, H9⟩
        case measure => simp [intOf]; omega
      · have k1 : (kd == 1) = false := beq_eq_false_iff_ne.2 h1
        have HG1 : Hid (TT w1 wr.drew s mb C 0 300 tb wb at1 L k) := Lib.hid (HG.out.below (Below.drewsN (Below.refl _ _) 1))
        have CP : Hid (Calls Try.prog 14 #[.pointer (some ⟨tb, 0, none⟩), str ky, str y] wr.drew fun e W' => ∃ z, e = .returned (.int .i64 z) ∧ Hid (TT w1 W' s mb C 0 300 tb wb at1 (wrL L (ky, y, false)) (k + 1))) := Lib.hid ((ttPut HG1.out (by omega) ky y z2 z3).mono (fun e W' h => ⟨_, h.1, Lib.hid h.2⟩))
        clear z2 z3 HG HG1 h1
        go_wp2_with fail
        go_region_held3 (fun W' => W'.cell? ⟨bA, oA + k * 4 + 1, none⟩ = some (str ky) ∧ W'.cell? ⟨bA, oA + k * 4 + 2, none⟩ = some (str y))
          (first
            | (exact ⟨q1, q2⟩)
            | (exact HCC.out _ _ _ hg9)
            | go_keep)
          ((first
            | (go_at_call 14; refine CP.out.mono ?_; rintro e w9 ⟨z9, rfl, hg9⟩)
            | fail))
        all_goals
          go_wp2_with fail
          go_roundw
          case rel => exact ⟨k + 1, _, by omega, by go_num, hg9⟩
          case measure => simp [intOf]; omega
    · obtain rfl : k = A.length := by omega
      have g3 : decide ((A.length : Int) < (A.length : Int)) = false := decide_eq_false (by omega)
      have g3' : ¬ (A.length : Int) < (A.length : Int) := by omega
      obtain ⟨P, hP⟩ : ∃ P, P = sawP (scanC at1 C) L := ⟨_, rfl⟩
      have HSW : Hid (∀ lo hi, sawR lo hi at1 C L = P.filter (fun z => inR lo hi z.1)) := Lib.hid (fun lo hi => by rw [hP]; rfl)
      have HRP : Hid (RisB P ∧ P.length ≤ 1000) := Lib.hid ⟨by rw [hP]; exact ris_saw _ _ (scan_ris HG.out.sg.ris.2.1) HG.out.tx.rs, by
        have := saw_len at1 C L
        rw [sawT_eq, ← hP] at this
        have h1 := HG.out.sg.ris.2.2
        have h2 := HG.out.tx.hk
        omega⟩
      clear hP
      have CSA := Lib.hid (ttScanR HG.out [] [])
      go_wp2_with fail
      refine CSA.out.mono ?_
      rintro e w6 ⟨b6, rfl, hL6, hb6⟩
      have H6 := Lib.hid (HG.out.below hb6)
      have CP6 : Hid (Calls Try.prog 21 #[.func (.func 49) #[] #[.pointer (some ⟨b6, 0, none⟩), .pointer (some ⟨b6 + 1, 0, none⟩), .pointer (some ⟨b6 + 2, 0, none⟩)], .int .i64 1048576] w6 (PrsP w6 P)) := Lib.hid (by
        have := ttScanned H6.out (by decide) (by omega) hL6 1048576 (by decide)
        rwa [HSW.out, inR_all, List.take_of_length_le (by have := HRP.out.2; show _ ≤ 1048576; omega)] at this)
      clear CSA hL6 hb6 HG
      go_wp2_with fail
      refine CP6.out.mono ?_
      rintro e w7 ⟨vl, rfl, hr7, hb7⟩
      have H7 : Hid (TT w1 w7 s mb C 0 300 tb wb at1 L A.length ∧ RdP w7 vl P) := Lib.hid ⟨H6.out.below hb7, rdp_ownP hr7⟩
      clear CP6 hr7 hb7 H6
      obtain ⟨al, cl, rfl, -⟩ := H7.out.2.form
      have hP0 : P.length ≤ 1000 := HRP.out.2
      go_wp2_with fail
      go_loopw [16, 17] (fun vq i wr => ∃ (j : Nat), j ≤ P.length ∧ i = .int .i64 (j : Int) ∧ Hid (wr.ownsRow w7.heap.size 63 2 vq ((P.take j).filter (begP cut)).length (((P.take j).filter (begP cut)).map cellsP).flatten ∧ Below w7.heap.size w7 wr)) (fun _ i _ => P.length - (intOf i).toNat)
      case atStart => exact ⟨0, Nat.zero_le _, rfl, Lib.hid ⟨World.ownsRow_nil _ _ _ _, Below.refl _ _⟩⟩
      case round =>
        obtain ⟨j, hj, rfl, HQ⟩ := hrel
        by_cases hlt2 : j < P.length
        · have g5 : decide ((j : Int) < (P.length : Int)) = true := decide_eq_true (by omega)
          have g5' : (j : Int) < (P.length : Int) := by omega
          have g6 : (0 : Int) ≤ (j : Int) := by omega
          obtain ⟨bP, oP, rfl, c0, c1⟩ := RdP.get (RdF.below H7.out.2 HQ.out.2 (Nat.le_refl _)) hlt2
          have HTK := Lib.hid (List.take_succ_eq_append_getElem hlt2)
          obtain ⟨z, hz⟩ : ∃ z, z = P[j] := ⟨_, rfl⟩
          rw [← hz] at c0 c1 HTK
          clear hz
          obtain ⟨zk, zv⟩ := z
          dsimp only at c0 c1
          obtain ⟨Q, hQ⟩ : ∃ Q, Q = (P.take j).filter (begP cut) := ⟨_, rfl⟩
          rw [← hQ] at HQ
          have HF : Hid ((P.take (j + 1)).filter (begP cut) = Q ++ if begP cut (zk, zv) = true then [(zk, zv)] else []) := Lib.hid (by
            rw [HTK.out, List.filter_append, ← hQ]
            congr 1
            cases e : begP cut (zk, zv) with
            | true => rw [List.filter_cons_of_pos (by simpa using e)]; rfl
            | false => rw [List.filter_cons_of_neg (by simp [e])]; rfl)
          have hQl : Q.length ≤ 1000 := by
            rw [hQ]
            have h1 := List.length_filter_le (begP cut) (P.take j)
            rw [List.length_take] at h1
            omega
          clear hQ HTK
          by_cases hge : cut.length ≤ zk.length
          · have g7 : decide ((cut.length : Int) ≤ (zk.length : Int)) = true := decide_eq_true (by omega)
            have g7' : (cut.length : Int) ≤ (zk.length : Int) := by omega
            have c2 := str_cut zk 0 cut.length
            rw [Nat.sub_zero, List.drop_zero] at c2
            obtain ⟨kb, hkb⟩ : ∃ kb, kb = (zk.take cut.length == cut) := ⟨_, rfl⟩
            have hkb2 := hkb.symm
            have HKB : Hid (begP cut (zk, zv) = kb) := Lib.hid hkb2
            clear hkb
            cases kb
            · have HN : Hid (wr.ownsRow w7.heap.size 63 2 u16 ((P.take (j + 1)).filter (begP cut)).length (((P.take (j + 1)).filter (begP cut)).map cellsP).flatten ∧ Below w7.heap.size w7 wr) := Lib.hid (by rw [HF.out, HKB.out]; simpa using HQ.out)
              clear HF HKB HQ
              go_wp2_with fail
              go_roundw
              case rel => exact ⟨j + 1, by omega, by go_num, HN⟩
              case measure => simp [intOf]; omega
            · obtain ⟨i0, hi, hz0, hz1, hz2⟩ := info_parts infoPair
              go_wp2_with (at_builtin; refine hold ?_)
              intro _
              refine wpList_appendF (by rfl) _ _ 43 (by rfl) w7.heap.size 63 i0 _ 2 32 Try.underlying43 hi hz0 hz1 hz2 rfl (by decide) u16 Q.length _ (by rfl) (World.ownsRow.alloc HQ.out.1 _) (.slice (some ⟨wr.heap.size, 0, none⟩) 1 1) [cellsP (zk, zv)] (by simp [cellsP]) (by simp [cellsP, Value.oneCell']) (by rfl) (RdF.lit [cellsP (zk, zv)] (by simp [cellsP]) (heap_alloc_new _ _) rfl (by simp)) (fun c h => by cases h) ?_ ?_ ?_ ?_
              · simp [maxLen]; omega
              · simp; omega
              · have := HQ.out.2.size; simp; omega
              intro v9 w9 r9 gr9
              have HN : Hid (w9.ownsRow w7.heap.size 63 2 v9 ((P.take (j + 1)).filter (begP cut)).length (((P.take (j + 1)).filter (begP cut)).map cellsP).flatten ∧ Below w7.heap.size w7 w9) := Lib.hid (by
                rw [HF.out, HKB.out, if_pos rfl]
                refine ⟨by simpa using r9, (HQ.out.2.alloc HQ.out.2.size _).grown gr9 (by have := HQ.out.2.size; simp; omega) (fun k e => (HQ.out.1.lt k e).1)⟩)
              clear r9 gr9 HF HKB HQ
              go_wp2_with fail
              go_roundw
              case rel => exact ⟨j + 1, by omega, by go_num, HN⟩
              case measure => simp [intOf]; omega
          · have g7 : decide ((cut.length : Int) ≤ (zk.length : Int)) = false := decide_eq_false (by omega)
            have g7' : ¬ (cut.length : Int) ≤ (zk.length : Int) := by omega
            have HKB : Hid (begP cut (zk, zv) = false) := Lib.hid (by
              unfold begP
              rw [beq_eq_false_iff_ne]
              intro e
              have := congrArg List.length e
              rw [List.length_take] at this
              dsimp only at this
              omega)
            have HN : Hid (wr.ownsRow w7.heap.size 63 2 u16 ((P.take (j + 1)).filter (begP cut)).length (((P.take (j + 1)).filter (begP cut)).map cellsP).flatten ∧ Below w7.heap.size w7 wr) := Lib.hid (by rw [HF.out, HKB.out]; simpa using HQ.out)
            clear HF HKB HQ hge
            go_wp2_with fail
            go_roundw
            case rel => exact ⟨j + 1, by omega, by go_num, HN⟩
            case measure => simp [intOf]; omega
        · obtain rfl : j = P.length := by omega
          have g5 : decide ((P.length : Int) < (P.length : Int)) = false := decide_eq_false (by omega)
          have g5' : ¬ (P.length : Int) < (P.length : Int) := by omega
          obtain ⟨W8, hW8⟩ : ∃ W8, W8 = wr := ⟨_, rfl⟩
          have H8 : Hid (TT w1 W8 s mb C 0 300 tb wb at1 L A.length ∧ RdP W8 (.slice al P.length cl) P ∧ RdP W8 u16 (P.filter (begP cut))) := Lib.hid (by
            rw [hW8]
            have h1 := HQ.out.1
            rw [List.take_length] at h1
            exact ⟨H7.out.1.below HQ.out.2, RdF.below H7.out.2 HQ.out.2 (Nat.le_refl _), rdp_ownP h1⟩)
          rw [← hW8]
          clear hW8 HQ H7
          have hAl : A.length ≤ 100000 := by omega
          obtain ⟨Kn, M1, hM1, hM2, hKm⟩ := min_max n P.length
          have hKl : Kn ≤ P.length := by rw [hKm]; exact Nat.min_le_right _ _
          have HKM := Lib.hid hKm
          clear hKm
          go_upto_region 23 with fail
          clear hM1 hM2 g3 g3' g5 g5' hlt hlt2 hj hk d0 d1 e0 e1
          have CPR : Hid (∀ W b1 lo hi, Below W8.heap.size W8 W → TxL W b1 (b1 + 1) (b1 + 2) tb lo hi → Calls Try.prog 21 #[.func (.func 49) #[] #[.pointer (some ⟨b1, 0, none⟩), .pointer (some ⟨b1 + 1, 0, none⟩), .pointer (some ⟨b1 + 2, 0, none⟩)], .int .i64 1048576] W (PrsP W (P.filter (fun z => inR lo hi z.1)))) := Lib.hid (fun W b1 lo hi hb hL => by
            have := ttScanned (H8.out.1.below hb) (by decide) (by omega) hL 1048576 (by decide)
            rwa [HSW.out, List.take_of_length_le (by have := List.length_filter_le (fun z : PairT => inR lo hi z.1) P; have := HRP.out.2; show _ ≤ 1048576; omega)] at this)
          have CPN : Hid (∀ W b1, Below W8.heap.size W8 W → TxL W b1 (b1 + 1) (b1 + 2) tb [] [] → Calls Try.prog 21 #[.func (.func 49) #[] #[.pointer (some ⟨b1, 0, none⟩), .pointer (some ⟨b1 + 1, 0, none⟩), .pointer (some ⟨b1 + 2, 0, none⟩)], .int .i64 n] W (PrsP W (P.take Kn))) := Lib.hid (fun W b1 hb hL => by
            rw [HKM.out, take_min]
            by_cases h1 : 1 ≤ n
            · have := ttScanned (H8.out.1.below hb) (by decide) (by omega) hL n h1
              rwa [HSW.out, inR_all] at this
            · have e : n.toNat = 0 := by omega
              rw [e, List.take_zero]
              exact v11pairs_zero n (by omega))
          have HT8 : Hid (∀ W, Below W8.heap.size W8 W → TT w1 W s mb C 0 300 tb wb at1 L A.length) := Lib.hid (fun W h => H8.out.1.below h)
          have HRA8 : Hid (∀ W, Below W8.heap.size W8 W → RdP W (.slice al P.length cl) P) := Lib.hid (fun W h => RdF.below H8.out.2.1 h (Nat.le_refl _))
          have HRQ8 : Hid (∀ W, Below W8.heap.size W8 W → RdP W u16 (P.filter (begP cut))) := Lib.hid (fun W h => RdF.below H8.out.2.2 h (Nat.le_refl _))
          have hKc : Kn ≤ cl := by
            obtain ⟨_, _, he, _, h2, _⟩ := H8.out.2.1
            simp only [Value.slice.injEq] at he
            rw [List.length_map] at h2
            obtain ⟨_, _, rfl⟩ := he
            omega
          have HP := Lib.hid (And.intro HRP.out.1 (And.intro (inR_pre P cut) (And.intro (inR_tail P cut) (inR_all P))))
          have HSP := Lib.hid (ris_split cut HRP.out.1)
          have HB8 : Hid (W8.heap.size ≤ W8.heap.size) := Lib.hid (Nat.le_refl _)
          have HX8 : Hid (Below w.heap.size w W8) := Lib.hid (H1.out.trans (H8.out.1.sg.bel.mono H1.out.size))
          clear H8 HSW HKM
          have CS9 := Lib.hid (ttScanR (HT8.out _ (Below.refl _ _)) [] cut)
          go_wp2_with fail
          refine CS9.out.mono ?_
          rintro e w9 ⟨b9, rfl, hL9, hb9⟩
          have CP9 := Lib.hid (CPR.out w9 b9 [] cut hb9 hL9)
          have HB9 := Lib.hid hb9
          clear hL9 hb9 CS9
          go_wp2_with fail
          refine CP9.out.mono ?_
          rintro e w10 ⟨vh, rfl, hr10, hb10⟩
          have HB := Lib.hid (HB9.out.trans (hb10.mono HB9.out.size))
          have HRH : Hid (w10.ownsRow W8.heap.size 63 2 vh (P.filter (fun z => inR [] cut z.1)).length ((P.filter (fun z => inR [] cut z.1)).map cellsP).flatten) := Lib.hid (row_mono hr10 HB9.out.size)
          clear CP9 HB9 hr10 hb10
          obtain ⟨i0, hi, hz0, hz1, hz2⟩ := info_parts infoPair
          cases hcb : (cut == ([] : List UInt8)) with
          | true =>
            have HR : Hid (w10.ownsRow W8.heap.size 63 2 (.slice none 0 0) ([] : List PairT).length (([] : List PairT).map cellsP).flatten) := Lib.hid (World.ownsRow_nil _ _ _ _)
            have HE : Hid (([] : List PairT) ++ P.filter (fun z => inR cut [] z.1) = P) := Lib.hid (by
              have hc : cut = [] := beq_iff_eq.1 hcb
              rw [hc, inR_all, List.nil_append])
            clear HRH
            go_upto_region 26 with fail
            refine wp_region_held_drew (S := fun _ => True) (by kernel_rfl) trivial (fun hHeld => ?_)
            obtain ⟨wc, hwc⟩ : ∃ x, x = w10.drew := ⟨_, rfl⟩
            have hb := show Below w10.heap.size w10 wc by rw [hwc]; exact Below.drewsN (Below.refl _ _) 1
            have HR := Lib.hid (owns_below HR.out hb (Nat.le_refl _))
            have HB := Lib.hid (HB.out.trans (hb.mono HB.out.size))
            rw [← hwc]
            clear hwc hb hHeld
            have hHeld : True := trivial
            refine wpAnyH_ready (rs := [0]) (by kernel_rfl) (by simp) (AllReadyH.cons rfl (fun K hK => ?_) AllReadyH.nil)
            go_simp
            refine (CF.out _).mono ?_
            rintro e wd ⟨rfl, hb⟩
            have HR := Lib.hid (owns_below HR.out hb (Nat.le_refl _))
            have HB := Lib.hid (HB.out.trans (hb.mono HB.out.size))
            clear hb
            rename World => wc
            go_simp
            refine hK.out _ _ (trivial) (fun hHeld => ?_)
            clear hK K
            refine wpAnyH_take (i := 1) (v := ?v1) rfl (by kernel_rfl) (by kernel_rfl) (by kernel_rfl) (fun _ _ _ h => h) (Or.inl ⟨by rfl, ?hy1⟩) (by assumption) ?_
            case hy1 => (intro w hSw; clear hSw; go_simp; try with_reducible rfl)
            go_simp
            refine wpAnyH_take (i := 2) (v := ?v2) rfl (by kernel_rfl) (by kernel_rfl) (by kernel_rfl) (fun _ _ _ h => h) (Or.inl ⟨by rfl, ?hy2⟩) (by assumption) ?_
            case hy2 => (intro w hSw; clear hSw; go_simp; try with_reducible rfl)
            go_simp
            refine wpAnyH_take (i := 3) (v := ?v3) rfl (by kernel_rfl) (by kernel_rfl) (by kernel_rfl) (fun _ _ _ h => h) (Or.inl ⟨by rfl, ?hy3⟩) (by assumption) ?_
            case hy3 => (intro w hSw; clear hSw; go_simp; try with_reducible rfl)
            go_simp
            refine wpAnyH_take (i := 4) (v := ?v4) rfl (by kernel_rfl) (by kernel_rfl) (by kernel_rfl) (fun _ _ _ h => h) (Or.inl ⟨by rfl, ?hy4⟩) (by assumption) ?_
            case hy4 => (intro w hSw; clear hSw; go_simp; try with_reducible rfl)
            go_simp
            refine wpAnyH_take (i := 8) (v := ?v5) rfl (by kernel_rfl) (by kernel_rfl) (by kernel_rfl) (fun _ _ _ h => h) (Or.inl ⟨by rfl, ?hy5⟩) (by assumption) ?_
            case hy5 => (intro w hSw; clear hSw; go_simp; try with_reducible rfl)
            go_simp
            refine wpAnyH_ready (rs := [5]) (by kernel_rfl) (by simp) (AllReadyH.cons rfl (fun K hK => ?_) AllReadyH.nil)
            go_simp
            refine (ttScanR (HT8.out _ HB.out) cut []).mono ?_
            rintro e wd ⟨b5, rfl, hL, hb⟩
            have HL := Lib.hid hL
            clear hL
            have HR := Lib.hid (owns_below HR.out hb (Nat.le_refl _))
            have HB := Lib.hid (HB.out.trans (hb.mono HB.out.size))
            clear hb
            rename World => wc
            go_simp
            refine hK.out _ _ (trivial) (fun hHeld => ?_)
            clear hK K
            refine wpAnyH_ready (rs := [6]) (by kernel_rfl) (by simp) (AllReadyH.cons rfl (fun K hK => ?_) AllReadyH.nil)
            go_simp
            refine (CPR.out _ _ _ _ HB.out HL.out).mono ?_
            rintro e wd ⟨v6, rfl, hr, hb⟩
            have H6 := Lib.hid (And.intro (rdp_ownP hr) (own_nil hr))
            clear hr HL
            have HR := Lib.hid (owns_below HR.out hb (Nat.le_refl _))
            have HB := Lib.hid (HB.out.trans (hb.mono HB.out.size))
            clear hb
            rename World => wc
            go_simp
            refine hK.out _ _ (trivial) (fun hHeld => ?_)
            clear hK K
            refine wpAnyH_ready (rs := [7]) (by kernel_rfl) (by simp) (AllReadyH.cons rfl (fun K hK => ?_) AllReadyH.nil)
            refine step_appendW (by rfl) _ _ 43 (by rfl) W8.heap.size 63 i0 _ 2 32 Try.underlying43 hi hz0 hz1 hz2 rfl (by decide) (.slice none 0 0) ([] : List PairT).length _ (by rfl) HR.out v6 ((P.filter (fun z : PairT => inR cut [] z.1)).map cellsP) (cellsP_len _) (one_cellsPr _) (by rfl) H6.out.1 H6.out.2 ?_ ?_ HB.out.size ?_
            · have := List.length_filter_le (fun z : PairT => inR cut [] z.1) P; rw [List.length_map]; simp [maxLen]; omega
            · have := List.length_filter_le (fun z : PairT => inR cut [] z.1) P; rw [List.length_map]; simp; omega
            intro v7 wd r7 gr7
            have HB := Lib.hid (HB.out.grown gr7 HB.out.size (fun k e => (HR.out.lt k e).1))
            have H7 := Lib.hid (rd_both r7 HE.out)
            clear r7 gr7 HR H6
            rename World => wc
            go_simp
            refine hK.out _ _ (trivial) (fun hHeld => ?_)
            clear hK K
            refine wpAnyH_ready (rs := [9]) (by kernel_rfl) (by simp) (AllReadyH.cons rfl (fun K hK => ?_) AllReadyH.nil)
            go_simp
            refine (alikePairs_any v7 (.slice al P.length cl) P wc H7.out (HRA8.out _ HB.out)).mono ?_
            rintro e wd ⟨rfl, hb⟩
            clear H7
            have HB := Lib.hid (HB.out.trans (hb.mono HB.out.size))
            clear hb
            rename World => wc
            go_simp
            refine hK.out _ _ (trivial) (fun hHeld => ?_)
            clear hK K
            refine wpAnyH_take (i := 10) (v := ?v6) rfl (by kernel_rfl) (by kernel_rfl) (by kernel_rfl) (fun _ _ _ h => h) (Or.inl ⟨by rfl, ?hy6⟩) (by assumption) ?_
            case hy6 => (intro w hSw; clear hSw; go_simp; try with_reducible rfl)
            go_simp
            refine wpAnyH_take (i := 11) (v := ?v7) rfl (by kernel_rfl) (by kernel_rfl) (by kernel_rfl) (fun _ _ _ h => h) (Or.inl ⟨by rfl, ?hy7⟩) (by assumption) ?_
            case hy7 => (intro w hSw; clear hSw; go_simp; try with_reducible rfl)
            go_simp
            refine wpAnyH_take (i := 12) (v := ?v8) rfl (by kernel_rfl) (by kernel_rfl) (by kernel_rfl) (fun _ _ _ h => h) (Or.inl ⟨by rfl, ?hy8⟩) (by assumption) ?_
            case hy8 => (intro w hSw; clear hSw; go_simp; try with_reducible rfl)
            go_simp
            refine wpAnyH_take (i := 13) (v := ?v9) rfl (by kernel_rfl) (by kernel_rfl) (by kernel_rfl) (fun _ _ _ h => h) (Or.inl ⟨by rfl, ?hy9⟩) (by assumption) ?_
            case hy9 => (intro w hSw; clear hSw; go_simp; try with_reducible rfl)
            go_simp
            refine wpAnyH_take (i := 16) (v := ?v10) rfl (by kernel_rfl) (by kernel_rfl) (by kernel_rfl) (fun _ _ _ h => h) (Or.inl ⟨by rfl, ?hy10⟩) (by assumption) ?_
            case hy10 => (intro w hSw; clear hSw; go_simp; try with_reducible rfl)
            go_simp
            refine wpAnyH_ready (rs := [14]) (by kernel_rfl) (by simp) (AllReadyH.cons rfl (fun K hK => ?_) AllReadyH.nil)
            go_simp
            refine (ttPrefix (HT8.out _ HB.out) cut hcut).mono ?_
            rintro e wd ⟨b14, rfl, hL, hb⟩
            have HL := Lib.hid hL
            clear hL
            have HB := Lib.hid (HB.out.trans (hb.mono HB.out.size))
            clear hb
            rename World => wc
            go_simp
            refine hK.out _ _ (trivial) (fun hHeld => ?_)
            clear hK K
            refine wpAnyH_ready (rs := [15]) (by kernel_rfl) (by simp) (AllReadyH.cons rfl (fun K hK => ?_) AllReadyH.nil)
            go_simp
            refine (CPR.out _ _ _ _ HB.out HL.out).mono ?_
            rintro e wd ⟨v15, rfl, hr, hb⟩
            have H15 := Lib.hid (rdp_ownP hr)
            rw [HP.out.2.1] at H15
            clear hr HL
            have HB := Lib.hid (HB.out.trans (hb.mono HB.out.size))
            clear hb
            rename World => wc
            go_simp
            refine hK.out _ _ (trivial) (fun hHeld => ?_)
            clear hK K
            refine wpAnyH_ready (rs := [17]) (by kernel_rfl) (by simp) (AllReadyH.cons rfl (fun K hK => ?_) AllReadyH.nil)
            go_simp
            refine (alikePairs_any v15 u16 _ wc H15.out (HRQ8.out _ HB.out)).mono ?_
            rintro e wd ⟨rfl, hb⟩
            clear H15
            have HB := Lib.hid (HB.out.trans (hb.mono HB.out.size))
            clear hb
            rename World => wc
            go_simp
            refine hK.out _ _ (trivial) (fun hHeld => ?_)
            clear hK K
            refine wpAnyH_take (i := 18) (v := ?v11) rfl (by kernel_rfl) (by kernel_rfl) (by kernel_rfl) (fun _ _ _ h => h) (Or.inl ⟨by rfl, ?hy11⟩) (by assumption) ?_
            case hy11 => (intro w hSw; clear hSw; go_simp; try with_reducible rfl)
            go_simp
            refine wpAnyH_take (i := 19) (v := ?v12) rfl (by kernel_rfl) (by kernel_rfl) (by kernel_rfl) (fun _ _ _ h => h) (Or.inl ⟨by rfl, ?hy12⟩) (by assumption) ?_
            case hy12 => (intro w hSw; clear hSw; go_simp; try with_reducible rfl)
            go_simp
            refine wpAnyH_take (i := 20) (v := ?v13) rfl (by kernel_rfl) (by kernel_rfl) (by kernel_rfl) (fun _ _ _ h => h) (Or.inl ⟨by rfl, ?hy13⟩) (by assumption) ?_
            case hy13 => (intro w hSw; clear hSw; go_simp; try with_reducible rfl)
            go_simp
            refine wpAnyH_take (i := 22) (v := ?v14) rfl (by kernel_rfl) (by kernel_rfl) (by kernel_rfl) (fun _ _ _ h => h) (Or.inl ⟨by rfl, ?hy14⟩) (by assumption) ?_
            case hy14 => (intro w hSw; clear hSw; go_simp; try with_reducible rfl)
            go_simp
            refine wpAnyH_take (i := 24) (v := ?v15) rfl (by kernel_rfl) (by kernel_rfl) (by kernel_rfl) (fun _ _ _ h => h) (Or.inl ⟨by rfl, ?hy15⟩) (by assumption) ?_
            case hy15 => (intro w hSw; clear hSw; go_simp; try with_reducible rfl)
            go_simp
            refine wpAnyH_take (i := 25) (v := ?v16) rfl (by kernel_rfl) (by kernel_rfl) (by kernel_rfl) (fun _ _ _ h => h) (Or.inl ⟨by rfl, ?hy16⟩) (by assumption) ?_
            case hy16 => (intro w hSw; clear hSw; go_simp; try with_reducible rfl)
            go_simp
            refine wpAnyH_take (i := 26) (v := ?v17) rfl (by kernel_rfl) (by kernel_rfl) (by kernel_rfl) (fun _ _ _ h => h) (Or.inl ⟨by rfl, ?hy17⟩) (by assumption) ?_
            case hy17 => (intro w hSw; clear hSw; go_simp; try with_reducible rfl)
            go_simp
            refine wpAnyH_ready (rs := [21]) (by kernel_rfl) (by simp) (AllReadyH.cons rfl (fun K hK => ?_) AllReadyH.nil)
            go_simp
            refine (ttScanR (HT8.out _ HB.out) [] []).mono ?_
            rintro e wd ⟨b21, rfl, hL, hb⟩
            have HL := Lib.hid hL
            clear hL
            have HB := Lib.hid (HB.out.trans (hb.mono HB.out.size))
            clear hb
            rename World => wc
            go_simp
            refine hK.out _ _ (trivial) (fun hHeld => ?_)
            clear hK K
            refine wpAnyH_ready (rs := [23]) (by kernel_rfl) (by simp) (AllReadyH.cons rfl (fun K hK => ?_) AllReadyH.nil)
            go_simp
            refine (CPN.out _ _ HB.out HL.out).mono ?_
            rintro e wd ⟨v23, rfl, hr, hb⟩
            have H23 := Lib.hid (rdp_ownP hr)
            clear hr HL
            have HB := Lib.hid (HB.out.trans (hb.mono HB.out.size))
            clear hb
            rename World => wc
            go_simp
            refine hK.out _ _ (trivial) (fun hHeld => ?_)
            clear hK K
            refine wpAnyH_ready (rs := [27]) (by kernel_rfl) (by simp) (AllReadyH.cons rfl (fun K hK => ?_) AllReadyH.nil)
            go_simp
            refine (alikePairs_any v23 (.slice al Kn cl) (P.take Kn) wc H23.out (RdP.take (HRA8.out _ HB.out) Kn hKl)).mono ?_
            rintro e wd ⟨rfl, hb⟩
            clear H23
            have HB := Lib.hid (HB.out.trans (hb.mono HB.out.size))
            clear hb
            rename World => wc
            go_simp
            refine hK.out _ _ (trivial) (fun hHeld => ?_)
            clear hK K
            refine wpAnyH_take (i := 28) (v := ?v18) rfl (by kernel_rfl) (by kernel_rfl) (by kernel_rfl) (fun _ _ _ h => h) (Or.inl ⟨by rfl, ?hy18⟩) (by assumption) ?_
            case hy18 => (intro w hSw; clear hSw; go_simp; try with_reducible rfl)
            go_simp
            refine wpAnyH_take (i := 29) (v := ?v19) rfl (by kernel_rfl) (by kernel_rfl) (by kernel_rfl) (fun _ _ _ h => h) (Or.inl ⟨by rfl, ?hy19⟩) (by assumption) ?_
            case hy19 => (intro w hSw; clear hSw; go_simp; try with_reducible rfl)
            go_simp
            refine wpAnyH_done (by kernel_rfl) ?_ _
            have HX := Lib.hid (HX8.out.trans (HB.out.mono HX8.out.size))
            clear HB
            go_wp2_with fail
            go_ret
            exact ⟨rfl, HX.out⟩
          | false =>
            obtain ⟨H, hH⟩ : ∃ H, H = P.filter (fun z => inR [] cut z.1) := ⟨_, rfl⟩
            have HR := HRH
            rw [← hH] at HR
            have HE : Hid (H ++ P.filter (fun z => inR cut [] z.1) = P) := Lib.hid (by
              have hc : cut ≠ [] := by intro e; rw [e] at hcb; cases hcb
              rw [hH, inR_head hc, inR_tail]
              exact HSP.out)
            have hHl : H.length ≤ 1000 := by
              rw [hH]
              have := List.length_filter_le (fun z : PairT => inR [] cut z.1) P
              omega
            clear hH HRH
            go_upto_region 26 with fail
            refine wp_region_held_drew (S := fun _ => True) (by kernel_rfl) trivial (fun hHeld => ?_)
            obtain ⟨wc, hwc⟩ : ∃ x, x = w10.drew := ⟨_, rfl⟩
            have hb := show Below w10.heap.size w10 wc by rw [hwc]; exact Below.drewsN (Below.refl _ _) 1
            have HR := Lib.hid (owns_below HR.out hb (Nat.le_refl _))
            have HB := Lib.hid (HB.out.trans (hb.mono HB.out.size))
            rw [← hwc]
            clear hwc hb hHeld
            have hHeld : True := trivial
            refine wpAnyH_ready (rs := [0]) (by kernel_rfl) (by simp) (AllReadyH.cons rfl (fun K hK => ?_) AllReadyH.nil)
            go_simp
            refine (CF.out _).mono ?_
            rintro e wd ⟨rfl, hb⟩
            have HR := Lib.hid (owns_below HR.out hb (Nat.le_refl _))
            have HB := Lib.hid (HB.out.trans (hb.mono HB.out.size))
            clear hb
            rename World => wc
            go_simp
            refine hK.out _ _ (trivial) (fun hHeld => ?_)
            clear hK K
            refine wpAnyH_take (i := 1) (v := ?v20) rfl (by kernel_rfl) (by kernel_rfl) (by kernel_rfl) (fun _ _ _ h => h) (Or.inl ⟨by rfl, ?hy20⟩) (by assumption) ?_
            case hy20 => (intro w hSw; clear hSw; go_simp; try with_reducible rfl)
            go_simp
            refine wpAnyH_take (i := 2) (v := ?v21) rfl (by kernel_rfl) (by kernel_rfl) (by kernel_rfl) (fun _ _ _ h => h) (Or.inl ⟨by rfl, ?hy21⟩) (by assumption) ?_
            case hy21 => (intro w hSw; clear hSw; go_simp; try with_reducible rfl)
            go_simp
            refine wpAnyH_take (i := 3) (v := ?v22) rfl (by kernel_rfl) (by kernel_rfl) (by kernel_rfl) (fun _ _ _ h => h) (Or.inl ⟨by rfl, ?hy22⟩) (by assumption) ?_
            case hy22 => (intro w hSw; clear hSw; go_simp; try with_reducible rfl)
            go_simp
            refine wpAnyH_take (i := 4) (v := ?v23) rfl (by kernel_rfl) (by kernel_rfl) (by kernel_rfl) (fun _ _ _ h => h) (Or.inl ⟨by rfl, ?hy23⟩) (by assumption) ?_
            case hy23 => (intro w hSw; clear hSw; go_simp; try with_reducible rfl)
            go_simp
            refine wpAnyH_take (i := 8) (v := ?v24) rfl (by kernel_rfl) (by kernel_rfl) (by kernel_rfl) (fun _ _ _ h => h) (Or.inl ⟨by rfl, ?hy24⟩) (by assumption) ?_
            case hy24 => (intro w hSw; clear hSw; go_simp; try with_reducible rfl)
            go_simp
            refine wpAnyH_ready (rs := [5]) (by kernel_rfl) (by simp) (AllReadyH.cons rfl (fun K hK => ?_) AllReadyH.nil)
            go_simp
            refine (ttScanR (HT8.out _ HB.out) cut []).mono ?_
            rintro e wd ⟨b5, rfl, hL, hb⟩
            have HL := Lib.hid hL
            clear hL
            have HR := Lib.hid (owns_below HR.out hb (Nat.le_refl _))
            have HB := Lib.hid (HB.out.trans (hb.mono HB.out.size))
            clear hb
            rename World => wc
            go_simp
            refine hK.out _ _ (trivial) (fun hHeld => ?_)
            clear hK K
            refine wpAnyH_ready (rs := [6]) (by kernel_rfl) (by simp) (AllReadyH.cons rfl (fun K hK => ?_) AllReadyH.nil)
            go_simp
            refine (CPR.out _ _ _ _ HB.out HL.out).mono ?_
            rintro e wd ⟨v6, rfl, hr, hb⟩
            have H6 := Lib.hid (And.intro (rdp_ownP hr) (own_nil hr))
            clear hr HL
            have HR := Lib.hid (owns_below HR.out hb (Nat.le_refl _))
            have HB := Lib.hid (HB.out.trans (hb.mono HB.out.size))
            clear hb
            rename World => wc
            go_simp
            refine hK.out _ _ (trivial) (fun hHeld => ?_)
            clear hK K
            refine wpAnyH_ready (rs := [7]) (by kernel_rfl) (by simp) (AllReadyH.cons rfl (fun K hK => ?_) AllReadyH.nil)
            refine step_appendW (by rfl) _ _ 43 (by rfl) W8.heap.size 63 i0 _ 2 32 Try.underlying43 hi hz0 hz1 hz2 rfl (by decide) vh H.length _ (by rfl) HR.out v6 ((P.filter (fun z : PairT => inR cut [] z.1)).map cellsP) (cellsP_len _) (one_cellsPr _) (by rfl) H6.out.1 H6.out.2 ?_ ?_ HB.out.size ?_
            · have := List.length_filter_le (fun z : PairT => inR cut [] z.1) P; rw [List.length_map]; simp [maxLen]; omega
            · have := List.length_filter_le (fun z : PairT => inR cut [] z.1) P; rw [List.length_map]; simp; omega
            intro v7 wd r7 gr7
            have HB := Lib.hid (HB.out.grown gr7 HB.out.size (fun k e => (HR.out.lt k e).1))
            have H7 := Lib.hid (rd_both r7 HE.out)
            clear r7 gr7 HR H6
            rename World => wc
            go_simp
            refine hK.out _ _ (trivial) (fun hHeld => ?_)
            clear hK K
            refine wpAnyH_ready (rs := [9]) (by kernel_rfl) (by simp) (AllReadyH.cons rfl (fun K hK => ?_) AllReadyH.nil)
            go_simp
            refine (alikePairs_any v7 (.slice al P.length cl) P wc H7.out (HRA8.out _ HB.out)).mono ?_
            rintro e wd ⟨rfl, hb⟩
            clear H7
            have HB := Lib.hid (HB.out.trans (hb.mono HB.out.size))
            clear hb
            rename World => wc
            go_simp
            refine hK.out _ _ (trivial) (fun hHeld => ?_)
            clear hK K
            refine wpAnyH_take (i := 10) (v := ?v25) rfl (by kernel_rfl) (by kernel_rfl) (by kernel_rfl) (fun _ _ _ h => h) (Or.inl ⟨by rfl, ?hy25⟩) (by assumption) ?_
            case hy25 => (intro w hSw; clear hSw; go_simp; try with_reducible rfl)
            go_simp
            refine wpAnyH_take (i := 11) (v := ?v26) rfl (by kernel_rfl) (by kernel_rfl) (by kernel_rfl) (fun _ _ _ h => h) (Or.inl ⟨by rfl, ?hy26⟩) (by assumption) ?_
            case hy26 => (intro w hSw; clear hSw; go_simp; try with_reducible rfl)
            go_simp
            refine wpAnyH_take (i := 12) (v := ?v27) rfl (by kernel_rfl) (by kernel_rfl) (by kernel_rfl) (fun _ _ _ h => h) (Or.inl ⟨by rfl, ?hy27⟩) (by assumption) ?_
            case hy27 => (intro w hSw; clear hSw; go_simp; try with_reducible rfl)
            go_simp
            refine wpAnyH_take (i := 13) (v := ?v28) rfl (by kernel_rfl) (by kernel_rfl) (by kernel_rfl) (fun _ _ _ h => h) (Or.inl ⟨by rfl, ?hy28⟩) (by assumption) ?_
            case hy28 => (intro w hSw; clear hSw; go_simp; try with_reducible rfl)
            go_simp
            refine wpAnyH_take (i := 16) (v := ?v29) rfl (by kernel_rfl) (by kernel_rfl) (by kernel_rfl) (fun _ _ _ h => h) (Or.inl ⟨by rfl, ?hy29⟩) (by assumption) ?_
            case hy29 => (intro w hSw; clear hSw; go_simp; try with_reducible rfl)
            go_simp
            refine wpAnyH_ready (rs := [14]) (by kernel_rfl) (by simp) (AllReadyH.cons rfl (fun K hK => ?_) AllReadyH.nil)
            go_simp
            refine (ttPrefix (HT8.out _ HB.out) cut hcut).mono ?_
            rintro e wd ⟨b14, rfl, hL, hb⟩
            have HL := Lib.hid hL
            clear hL
            have HB := Lib.hid (HB.out.trans (hb.mono HB.out.size))
            clear hb
            rename World => wc
            go_simp
            refine hK.out _ _ (trivial) (fun hHeld => ?_)
            clear hK K
            refine wpAnyH_ready (rs := [15]) (by kernel_rfl) (by simp) (AllReadyH.cons rfl (fun K hK => ?_) AllReadyH.nil)
            go_simp
            refine (CPR.out _ _ _ _ HB.out HL.out).mono ?_
            rintro e wd ⟨v15, rfl, hr, hb⟩
            have H15 := Lib.hid (rdp_ownP hr)
            rw [HP.out.2.1] at H15
            clear hr HL
            have HB := Lib.hid (HB.out.trans (hb.mono HB.out.size))
            clear hb
            rename World => wc
            go_simp
            refine hK.out _ _ (trivial) (fun hHeld => ?_)
            clear hK K
            refine wpAnyH_ready (rs := [17]) (by kernel_rfl) (by simp) (AllReadyH.cons rfl (fun K hK => ?_) AllReadyH.nil)
            go_simp
            refine (alikePairs_any v15 u16 _ wc H15.out (HRQ8.out _ HB.out)).mono ?_
            rintro e wd ⟨rfl, hb⟩
            clear H15
            have HB := Lib.hid (HB.out.trans (hb.mono HB.out.size))
            clear hb
            rename World => wc
            go_simp
            refine hK.out _ _ (trivial) (fun hHeld => ?_)
            clear hK K
            refine wpAnyH_take (i := 18) (v := ?v30) rfl (by kernel_rfl) (by kernel_rfl) (by kernel_rfl) (fun _ _ _ h => h) (Or.inl ⟨by rfl, ?hy30⟩) (by assumption) ?_
            case hy30 => (intro w hSw; clear hSw; go_simp; try with_reducible rfl)
            go_simp
            refine wpAnyH_take (i := 19) (v := ?v31) rfl (by kernel_rfl) (by kernel_rfl) (by kernel_rfl) (fun _ _ _ h => h) (Or.inl ⟨by rfl, ?hy31⟩) (by assumption) ?_
            case hy31 => (intro w hSw; clear hSw; go_simp; try with_reducible rfl)
            go_simp
            refine wpAnyH_take (i := 20) (v := ?v32) rfl (by kernel_rfl) (by kernel_rfl) (by kernel_rfl) (fun _ _ _ h => h) (Or.inl ⟨by rfl, ?hy32⟩) (by assumption) ?_
            case hy32 => (intro w hSw; clear hSw; go_simp; try with_reducible rfl)
            go_simp
            refine wpAnyH_take (i := 22) (v := ?v33) rfl (by kernel_rfl) (by kernel_rfl) (by kernel_rfl) (fun _ _ _ h => h) (Or.inl ⟨by rfl, ?hy33⟩) (by assumption) ?_
            case hy33 => (intro w hSw; clear hSw; go_simp; try with_reducible rfl)
            go_simp
            refine wpAnyH_take (i := 24) (v := ?v34) rfl (by kernel_rfl) (by kernel_rfl) (by kernel_rfl) (fun _ _ _ h => h) (Or.inl ⟨by rfl, ?hy34⟩) (by assumption) ?_
            case hy34 => (intro w hSw; clear hSw; go_simp; try with_reducible rfl)
            go_simp
            refine wpAnyH_take (i := 25) (v := ?v35) rfl (by kernel_rfl) (by kernel_rfl) (by kernel_rfl) (fun _ _ _ h => h) (Or.inl ⟨by rfl, ?hy35⟩) (by assumption) ?_
            case hy35 => (intro w hSw; clear hSw; go_simp; try with_reducible rfl)
            go_simp
            refine wpAnyH_take (i := 26) (v := ?v36) rfl (by kernel_rfl) (by kernel_rfl) (by kernel_rfl) (fun _ _ _ h => h) (Or.inl ⟨by rfl, ?hy36⟩) (by assumption) ?_
            case hy36 => (intro w hSw; clear hSw; go_simp; try with_reducible rfl)
            go_simp
            refine wpAnyH_ready (rs := [21]) (by kernel_rfl) (by simp) (AllReadyH.cons rfl (fun K hK => ?_) AllReadyH.nil)
            go_simp
            refine (ttScanR (HT8.out _ HB.out) [] []).mono ?_
            rintro e wd ⟨b21, rfl, hL, hb⟩
            have HL := Lib.hid hL
            clear hL
            have HB := Lib.hid (HB.out.trans (hb.mono HB.out.size))
            clear hb
            rename World => wc
            go_simp
            refine hK.out _ _ (trivial) (fun hHeld => ?_)
            clear hK K
            refine wpAnyH_ready (rs := [23]) (by kernel_rfl) (by simp) (AllReadyH.cons rfl (fun K hK => ?_) AllReadyH.nil)
            go_simp
            refine (CPN.out _ _ HB.out HL.out).mono ?_
            rintro e wd ⟨v23, rfl, hr, hb⟩
            have H23 := Lib.hid (rdp_ownP hr)
            clear hr HL
            have HB := Lib.hid (HB.out.trans (hb.mono HB.out.size))
            clear hb
            rename World => wc
            go_simp
            refine hK.out _ _ (trivial) (fun hHeld => ?_)
            clear hK K
            refine wpAnyH_ready (rs := [27]) (by kernel_rfl) (by simp) (AllReadyH.cons rfl (fun K hK => ?_) AllReadyH.nil)
            go_simp
            refine (alikePairs_any v23 (.slice al Kn cl) (P.take Kn) wc H23.out (RdP.take (HRA8.out _ HB.out) Kn hKl)).mono ?_
            rintro e wd ⟨rfl, hb⟩
            clear H23
            have HB := Lib.hid (HB.out.trans (hb.mono HB.out.size))
            clear hb
            rename World => wc
            go_simp
            refine hK.out _ _ (trivial) (fun hHeld => ?_)
            clear hK K
            refine wpAnyH_take (i := 28) (v := ?v37) rfl (by kernel_rfl) (by kernel_rfl) (by kernel_rfl) (fun _ _ _ h => h) (Or.inl ⟨by rfl, ?hy37⟩) (by assumption) ?_
            case hy37 => (intro w hSw; clear hSw; go_simp; try with_reducible rfl)
            go_simp
            refine wpAnyH_take (i := 29) (v := ?v38) rfl (by kernel_rfl) (by kernel_rfl) (by kernel_rfl) (fun _ _ _ h => h) (Or.inl ⟨by rfl, ?hy38⟩) (by assumption) ?_
            case hy38 => (intro w hSw; clear hSw; go_simp; try with_reducible rfl)
            go_simp
            refine wpAnyH_done (by kernel_rfl) ?_ _
            have HX := Lib.hid (HX8.out.trans (HB.out.mono HX8.out.size))
            clear HB
            go_wp2_with fail
            go_ret
            exact ⟨rfl, HX.out⟩
end Go.Proofs.Ytcgjiddiegepkaa

/- TxnParts in the claim's order. -/
namespace Go.Proofs.Ytcgjiddiegepkaa
open Go.RowKit
theorem parts12_main (vv : Value) (l : List Op11) (at1 : Int) (va : Value) (A : List Op12) (cut : ByteArray) (n : Int) (w : World) (hv : Rd11 w vv l) (hsv : ∀ o ∈ l, o.ok) (hat : -9223372036854775808 ≤ at1 ∧ at1 ≤ 9223372036854775807) (ha : Rd12 w va A) (hsa : ∀ o ∈ A, o.ok) (hcut : cut.size ≤ maxLen) (hn : -9223372036854775808 ≤ n ∧ n ≤ 9223372036854775807) :
    Calls Try.prog 5 #[vv, .int .i64 at1, va, .string cut, .int .i64 n] w fun e w' => e = .returned (.bool true) ∧ Below w.heap.size w w' := by
  have h := parts12_walk vv l at1 va A cut.data.toList n w hv hsv ha hsa hat (by rw [Array.length_toList]; simp only [maxLen] at hcut; exact hcut) hn
  exact h
end Go.Proofs.Ytcgjiddiegepkaa
