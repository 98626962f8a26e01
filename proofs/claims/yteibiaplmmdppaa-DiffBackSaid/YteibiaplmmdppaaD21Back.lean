/- DiffBack: the walk. -/
import Derived.Test.YteibiaplmmdppaaD21Takes
import Derived.Test.YteibiaplmmdppaaD21BackM
namespace Go.Proofs.Yteibiaplmmdppaa
open Go.RowKit

theorem TISS.wider {W : World} {b k k' : Nat} {t : Tr} (h : TISS W b k t) (hk : k ≤ k') : TISS W b k' t := ⟨h.mp, h.ws, h.rs, by have := h.ht; omega, by have := h.len; omega⟩
/-- Some of the changes behind a key. -/
theorem some_after {w : World} {ba bb b1 b2 : Nat} {ta tb : Tr} {L R : List ChgT} {key : List UInt8} (h : OfPSS w b1 b2 ta tb) (ca : w.cell? ⟨ba, 0, none⟩ = some (.pointer (some ⟨b1, 0, none⟩))) (cb : w.cell? ⟨bb, 0, none⟩ = some (.pointer (some ⟨b2, 0, none⟩)))
    (hL : chgLSS ta tb = L.map encC) (hkey : L.filter (fun c => gtB c.1 key) = R) (hR : R.length ≤ 1000000) {W1 W2 : World} (hW : Below w.heap.size w W1) (e2 : W2 = (W1.alloc (.cells #[.func (.func 33) #[] #[.pointer (some ⟨ba, 0, none⟩), .pointer (some ⟨bb, 0, none⟩)]] 33)).alloc (.cells #[str key] 9)) (n : Int) :
    Calls Try.prog 15 #[.func (.func 39) #[] #[.pointer (some ⟨W1.heap.size, 0, none⟩), .pointer (some ⟨W1.heap.size + 1, 0, none⟩)], .int .i64 n] W2 (SomeP W2 R n) := by
  have l1 : Below W1.heap.size W1 W2 := by rw [e2]; exact ((Below.refl _ W1).alloc (Nat.le_refl _) _).alloc (by simp) _
  have c0 : W2.cell? ⟨W1.heap.size, 0, none⟩ = some (.func (.func 33) #[] #[.pointer (some ⟨ba, 0, none⟩), .pointer (some ⟨bb, 0, none⟩)]) := by rw [e2]; exact ((Boxed.new W1 _ _).alloc _).cell
  have c1 : W2.cell? ⟨W1.heap.size + 1, 0, none⟩ = some (str key) := by
    have := (Boxed.new (W1.alloc (.cells #[.func (.func 33) #[] #[.pointer (some ⟨ba, 0, none⟩), .pointer (some ⟨bb, 0, none⟩)]] 33)) 9 (str key)).cell
    rw [World.size_alloc] at this
    rw [e2]; exact this
  have hW2 := hW.trans (l1.mono hW.size)
  have hf : (L.map encC).filter (gtV key) = R.map encC := by rw [filter_enc, hkey]
  exact some_any (Ok := fun X => Below w.heap.size w X ∧ X.cell? ⟨W1.heap.size + 1, 0, none⟩ = some (str key)) n hR (enters_of Try.func39 (by kernel_rfl) rfl)
    (w := W2) (lb := #[.pointer (some ⟨W1.heap.size, 0, none⟩), .pointer (some ⟨W1.heap.size + 1, 0, none⟩)])
    (fun X hX => ⟨hW2.trans (hX.mono hW2.size), (hX.cell (p := ⟨W1.heap.size + 1, 0, none⟩) (World.block_lt_of_cell? W2 _ c1)).trans c1⟩) (fun W' hW' => by
      rw [← hf]
      refine after_seqs (gf := 33) (lb := #[.pointer (some ⟨ba, 0, none⟩), .pointer (some ⟨bb, 0, none⟩)]) (Ok := fun X => Below w.heap.size w X) (enters_of Try.func33 (by kernel_rfl) rfl) (fun W'' hW'' => ?_)
        ((hW'.cell (p := ⟨W1.heap.size, 0, none⟩) (World.block_lt_of_cell? W2 _ c0)).trans c0) (by decide)
      rw [← hL]
      have h3 := hW2.trans (hW'.mono hW2.size)
      exact of1SS_seqs h ca cb (h3.trans (hW''.mono h3.size)) (by decide) (by decide) (by decide) (by decide) (by decide))
/-- What lies on: two maps, what is wanted. -/
structure BkT (w W : World) (b1 b2 : Nat) (ta tb : Tr) (v9 : Value) (lp : List PairT) : Prop where
  hb : Below w.heap.size w W
  t1 : TISS W b1 200 ta
  t2 : TISS W b2 200 tb
  r9 : RdP W v9 lp
theorem BkT.up {w W W' : World} {b1 b2 : Nat} {ta tb : Tr} {v9 : Value} {lp : List PairT} (h : BkT w W b1 b2 ta tb v9 lp) (hb : Below W.heap.size W W') : BkT w W' b1 b2 ta tb v9 lp :=
  ⟨h.hb.trans (hb.mono h.hb.size), h.t1.below hb, h.t2.below hb, RdF.below h.r9 hb (Nat.le_refl _)⟩
/-- Of a map and a map, or none. -/
theorem of_pair {w W : World} {b1 b2 : Nat} {ta tb : Tr} {v9 : Value} {lp : List PairT} (h : BkT w W b1 b2 ta tb v9 lp) : Calls Try.prog 13 #[.pointer (some ⟨b1, 0, none⟩), .pointer (some ⟨b2, 0, none⟩)] W (OfESS W ta tb) :=
  ofSS_any _ _ ta tb W (.inl ⟨b1, rfl, h.t1.mp⟩) (.inl ⟨b2, rfl, h.t2.mp⟩)
/-- Under way in the loop: so many changes are done. -/
def BackAt (w W : World) (b1 b2 : Nat) (ta tb : Tr) (v9 : Value) (lp : List PairT) (L : List ChgT) (bp i j : Nat) (kk : List UInt8) : Prop :=
  BkT w W b1 b2 ta tb v9 lp ∧ (∃ tp, TISS W bp (200 + j) tp ∧ prs tp = foldV (prs ta) (L.take j)) ∧ i ≤ j ∧ (i = 0 → j = 0) ∧ (0 < i → ∃ h : j - 1 < L.length, 0 < j ∧ j < L.length ∧ kk = L[j - 1].1)
set_option maxRecDepth 100000 in
set_option maxHeartbeats 8000000 in
theorem back_yes (va vb : Value) (la lb : List PairT) (N : Nat) (w : World) (ha : RdP w va la) (hb : RdP w vb lb) (hsa : ∀ p ∈ la, p.1.length ≤ 9223372036854775807 ∧ p.2.length ≤ 9223372036854775807) (hsb : ∀ p ∈ lb, p.1.length ≤ 9223372036854775807 ∧ p.2.length ≤ 9223372036854775807)
    (hN1 : 1 ≤ N) (hN2 : N ≤ 100) : Calls Try.prog 4 #[va, vb, .int .i64 (N : Int)] w fun e w' => e = .returned (.bool true) ∧ Below w.heap.size w w' := by
  have HA := Lib.hid ha
  have HB := Lib.hid hb
  have F1 := Lib.hid (fun W (h : Below w.heap.size w W) => few_any va la W (RdF.below ha h (Nat.le_refl _)) hsa)
  have F2 := Lib.hid (fun W (h : Below w.heap.size w W) => few_any vb lb W (RdF.below hb h (Nat.le_refl _)) hsb)
  have n1 : ¬ (N : Int) < 1 := by omega
  have n2 : ¬ (100 : Int) < (N : Int) := by omega
  clear ha hb hsa hsb
  go_enter Try.func4, Try.ntmps4
  go_wp2_with fail
  refine (d21first_any w).mono ?_
  rintro e w1 ⟨rfl, hb1⟩
  have H1 := Lib.hid hb1
  clear hb1
  go_wp2_with fail
  refine (F1.out _ H1.out).mono ?_
  rintro e w2 ⟨bA, rfl, hA, hb2⟩
  have HL1 := Lib.hid hA
  have H2 := Lib.hid (H1.out.trans (hb2.mono H1.out.size))
  clear hb2 hA H1 F1
  cases bA with
  | false =>
    as_aux_lemma =>
      go_wp2_with fail
      refine (d21first_any _).mono ?_
      rintro e w3 ⟨rfl, hb3⟩
      go_wp2_with fail
      go_ret
      exact ⟨rfl, H2.out.trans (hb3.mono H2.out.size)⟩
  | true =>
  go_wp2_with fail
  refine (F2.out _ H2.out).mono ?_
  rintro e w3 ⟨bB, rfl, hB, hb3⟩
  have HL2 := Lib.hid hB
  have H3 := Lib.hid (H2.out.trans (hb3.mono H2.out.size))
  clear hb3 hB H2 F2
  cases bB with
  | false =>
    as_aux_lemma =>
      go_wp2_with fail
      refine (d21first_any _).mono ?_
      rintro e w4 ⟨rfl, hb4⟩
      go_wp2_with fail
      go_ret
      exact ⟨rfl, H3.out.trans (hb4.mono H3.out.size)⟩
  | true =>
  have l1 := HL1.out (by trivial)
  have l2 := HL2.out (by trivial)
  have M1 := Lib.hid (fun W (h : Below w.heap.size w W) => map_any va la W (RdF.below HA.out h (Nat.le_refl _)) (by omega))
  have M2 := Lib.hid (fun W (h : Below w.heap.size w W) => map_any vb lb W (RdF.below HB.out h (Nat.le_refl _)) (by omega))
  clear HA HB HL1 HL2
  go_wp2_with fail
  refine (M1.out _ H3.out).mono ?_
  rintro e w4 ⟨b1, rfl, _, hm1, hb4⟩
  have H4 := Lib.hid (And.intro hm1 (H3.out.trans (hb4.mono H3.out.size)))
  clear hm1 hb4 H3 M1
  go_wp2_with fail
  refine (M2.out _ H4.out.2).mono ?_
  rintro e w5 ⟨b2, rfl, _, hm2, hb5⟩
  obtain ⟨ta, hta, hpa⟩ := H4.out.1.below hb5
  obtain ⟨tb, htb, hpb⟩ := hm2
  obtain ⟨lp, hlp⟩ := prs_plain htb.ws
  have CP := Lib.hid (pairs21_any htb (by omega) hlp)
  have H5 := Lib.hid (And.intro (hta.wider l1) (And.intro (htb.wider l2) (And.intro hlp (H4.out.2.trans (hb5.mono H4.out.2.size)))))
  clear hta hpa htb hpb hb5 hlp H4 M2
  go_wp2_with fail
  refine CP.out.mono ?_
  rintro e w6 ⟨v9, rfl, hr9, hb6⟩
  have B6 := Lib.hid (show BkT w w6 b1 b2 ta tb v9 lp from ⟨H5.out.2.2.2.trans (hb6.mono H5.out.2.2.2.size), H5.out.1.below hb6, H5.out.2.1.below hb6, hr9⟩)
  have HLP := Lib.hid H5.out.2.2.1
  obtain ⟨L, hL⟩ := chgL_forms B6.out.t1.ws B6.out.t2.ws
  have hlen : L.length ≤ 400 := by
    have h1 := chgL_len ta tb
    rw [hL, List.length_map] at h1
    have := B6.out.t1.len
    have := B6.out.t2.len
    omega
  have HLL := Lib.hid hL
  have HF := Lib.hid (fold_chg B6.out.t1.ws B6.out.t2.ws B6.out.t1.rs B6.out.t2.rs hL)
  have HRI := Lib.hid (chgL_ris B6.out.t1.ws B6.out.t2.ws B6.out.t1.rs B6.out.t2.rs hL)
  have eT := Lib.hid (show L.take (1048576 : Int).toNat = L from List.take_of_length_le (by have : (1048576 : Int).toNat = 1048576 := rfl; omega))
  clear hr9 hb6 hL H5 CP
  go_wp2_with fail
  refine (of_pair B6.out).mono ?_
  rintro e w7 ⟨ba, bb, c1, c2, rfl, g1, g2, g3, g4, hb7⟩
  have B7 := Lib.hid (B6.out.up hb7)
  have CR := Lib.hid (by have := ranged_of (ofP_of g1 g2 B6.out.t1 B6.out.t2 (by omega) (by omega)) g3 g4 HLL.out (by omega) 1048576 (by decide) w7 (Below.refl _ _); rw [eT.out] at this; exact this)
  clear g1 g2 g3 g4 hb7 B6
  go_wp2_with fail
  refine CR.out.mono ?_
  intro e w8 h8
  obtain ⟨v8, rfl, hr8, hb8⟩ := rangedP_rd h8
  have B8 := Lib.hid (B7.out.up hb8)
  have CF := Lib.hid (fold_any (.pointer (some ⟨b1, 0, none⟩)) v8 L 200 ta w8 (.inl ⟨b1, rfl, B8.out.t1.mp⟩) B8.out.t1.ws B8.out.t1.rs B8.out.t1.ht B8.out.t1.len (by omega) hr8 (by omega))
  clear h8 hr8 hb8 B7 CR
  go_wp2_with fail
  refine CF.out.mono ?_
  rintro e wA ⟨bm, tm, rfl, _, htm, hpm, hbA⟩
  have BA := Lib.hid (B8.out.up hbA)
  have CPm := Lib.hid (pairs21_any htm (by omega) (by rw [hpm, HF.out]; exact HLP.out))
  clear htm hpm hbA B8 CF
  go_wp2_with fail
  refine CPm.out.mono ?_
  rintro e wB ⟨vB, rfl, hrB, hbB⟩
  have BB := Lib.hid (BA.out.up hbB)
  have CS := Lib.hid (samepairs_any vB v9 lp wB hrB BB.out.r9)
  clear hrB hbB BA CPm
  go_wp2_with fail
  refine CS.out.mono ?_
  rintro e wC ⟨rfl, hbC⟩
  have BC := Lib.hid (BB.out.up hbC)
  have K1 := Lib.hid (by
    have := countSS_any (.pointer (some ⟨b1, 0, none⟩)) (.pointer (some ⟨b1, 0, none⟩)) ta ta wC (.inl ⟨b1, rfl, BC.out.t1.mp⟩) (.inl ⟨b1, rfl, BC.out.t1.mp⟩) BC.out.t1.ws BC.out.t1.ws (by have := BC.out.t1.len; omega) (by have := BC.out.t1.len; omega)
    rw [chg_self BC.out.t1.ws BC.out.t1.rs] at this
    exact this)
  clear hbC BB CS
  go_wp2_with fail
  refine K1.out.mono ?_
  rintro e wD ⟨rfl, hbD⟩
  have BD := Lib.hid (BC.out.up hbD)
  have K2 := Lib.hid (by
    have := countSS_any (.pointer (some ⟨b2, 0, none⟩)) (.pointer (some ⟨b2, 0, none⟩)) tb tb wD (.inl ⟨b2, rfl, BD.out.t2.mp⟩) (.inl ⟨b2, rfl, BD.out.t2.mp⟩) BD.out.t2.ws BD.out.t2.ws (by have := BD.out.t2.len; omega) (by have := BD.out.t2.len; omega)
    rw [chg_self BD.out.t2.ws BD.out.t2.rs] at this
    exact this)
  clear hbD BC K1
  go_wp2_with fail
  refine K2.out.mono ?_
  rintro e wE ⟨rfl, hbE⟩
  have BE := Lib.hid (BD.out.up hbE)
  clear hbE BD K2
  go_wp2_with fail
  have S0 : Hid (BackAt w wE b1 b2 ta tb v9 lp L b1 0 0 []) := Lib.hid ⟨BE.out, ⟨ta, BE.out.t1, by rw [List.take_zero]; rfl⟩, Nat.le_refl _, fun _ => rfl, fun h => absurd h (by omega)⟩
  go_loopw [11, 12, 13] (fun p key i wr => ∃ (bp i' j : Nat) (kk : List UInt8), p = .pointer (some ⟨bp, 0, none⟩) ∧ key = str kk ∧ i = .int .i64 (i' : Int) ∧ i' ≤ 500 ∧ Hid (BackAt w wr b1 b2 ta tb v9 lp L bp i' j kk)) (fun _ _ i _ => 500 - (intOf i).toNat)
  case atStart => exact ⟨b1, 0, 0, [], rfl, rfl, rfl, by omega, S0⟩
  case round =>
    obtain ⟨bp, i, j, kk, rfl, rfl, rfl, hi5, HR⟩ := hrel
    clear S0 BE
    obtain ⟨hB, ⟨tp, htp, hpp⟩, hij, hi0, hi1⟩ := HR.out
    have hi : i < 500 := by
      by_cases h : 0 < i
      · obtain ⟨_, _, h2, _⟩ := hi1 h
        omega
      · omega
    -- ROUND
    have g5 : (i : Int) < 500 := by omega
    have HTP := Lib.hid (And.intro htp.len hpp)
    have hj4 : j ≤ 400 := by
      by_cases h : 0 < i
      · obtain ⟨_, _, h2, _⟩ := hi1 h
        omega
      · have := hi0 (by omega)
        omega
    have BF := Lib.hid (And.intro hB htp)
    by_cases h0 : 0 < i
    · have t0 : (0 : Int) < (i : Int) := by omega
      obtain ⟨hj1, hj2, hj3, hkk⟩ := hi1 h0
      obtain ⟨R, hR⟩ : ∃ R, R = L.drop j := ⟨_, rfl⟩
      have hfil : L.filter (fun c => gtB c.1 kk) = R := by
        rw [hkk, after_rest HRI.out hj1, hR, show j - 1 + 1 = j by omega]
      have hRl : R.length ≤ 400 := by rw [hR, List.length_drop]; omega
      have HFI := Lib.hid hfil
      have HRD := Lib.hid hR
      clear hB htp hpp hi0 hi1 hi hj1 hj2 hj3 hkk h0 HR hfil hR
      go_wp2_with fail
      refine (of_pair BF.out.1).mono ?_
      rintro e wF ⟨ba2, bb2, d1, d2, rfl, y1, y2, y3, y4, hbF⟩
      have HY := Lib.hid (And.intro (ofP_of y1 y2 BF.out.1.t1 BF.out.1.t2 (by omega) (by omega)) (And.intro y3 y4))
      have BF2 := Lib.hid (And.intro (BF.out.1.up hbF) (BF.out.2.below hbF))
      clear y1 y2 y3 y4 hbF BF
      go_wp2_with fail
      refine (after_any _ _ _ _).mono ?_
      rintro e wG ⟨rfl, hwG⟩
      have CSo := Lib.hid (some_after HY.out.1 HY.out.2.1 HY.out.2.2 HLL.out HFI.out (by omega) (Below.refl _ _) hwG (N : Int))
      have hlg : Below wF.heap.size wF wG := by
        rw [hwG]
        have h1 := below_alloc wF (.cells #[.func (.func 33) #[] #[.pointer (some ⟨ba2, 0, none⟩), .pointer (some ⟨bb2, 0, none⟩)]] 33)
        exact h1.alloc h1.size _
      have BG := Lib.hid (And.intro (BF2.out.1.up hlg) (BF2.out.2.below hlg))
      clear hwG hlg BF2 HY HFI
      go_wp2_with fail
      refine CSo.out.mono ?_
      rintro e wH ⟨vS, rfl, hrS, hbH⟩
      have BH := Lib.hid (And.intro (BG.out.1.up hbH) (BG.out.2.below hbH))
      have hrd : RdC wH vS (R.take N) := RdF.of_row (cellsC_len _) (by simpa using hrS)
      have CFo := Lib.hid (fold_any (.pointer (some ⟨bp, 0, none⟩)) vS (R.take N) (200 + j) tp wH (.inl ⟨bp, rfl, BH.out.2.mp⟩) BH.out.2.ws BH.out.2.rs BH.out.2.ht BH.out.2.len (by omega) hrd (by rw [List.length_take]; omega))
      have HR2 := Lib.hid hrd
      clear hrS hbH BG CSo hrd
      by_cases hmore : N < R.length
      · have em : decide (max (N : Int) 0 < (R.length : Int)) = true := by rw [decide_eq_true_eq]; omega
        rw [em]
        have elen : (R.take N).length = N := by rw [List.length_take]; omega
        obtain ⟨aS, cS, rfl⟩ : ∃ a c, vS = .slice a N c := by obtain ⟨a, c, h, _⟩ := HR2.out.form; exact ⟨a, c, by rw [h, elen]⟩
        obtain ⟨m, hm⟩ : ∃ m, m + 1 = N := ⟨N - 1, by omega⟩
        have tN : (N : Int) - 1 = (m : Int) := by omega
        have gm : (m : Int) < (N : Int) := by omega
        have gm0 : (0 : Int) ≤ (m : Int) := by omega
        have hml : m < (R.take N).length := by omega
        have hjl : j + m < L.length := by have := congrArg List.length HRD.out; rw [List.length_drop] at this; omega
        have hkey : (R.take N)[m].1 = L[j + m].1 := by simp [HRD.out]
        obtain ⟨bS, oS, rfl, -⟩ := HR2.out.get hml
        have HC0 := Lib.hid (fun W (h : Below wH.heap.size wH W) => by
          obtain ⟨bL', oL', e, k0, _⟩ := RdC.get (RdF.below HR2.out h (Nat.le_refl _) : RdC W _ (R.take N)) hml
          cases e
          rw [hkey] at k0
          exact k0)
        have HH := Lib.hid (And.intro hmore (And.intro elen (And.intro hm (And.intro hjl (And.intro hij HRD.out)))))
        obtain ⟨kz, hkz⟩ : ∃ k, k = L[j + m].1 := ⟨_, rfl⟩
        rw [← hkz] at HC0
        have HKZ := Lib.hid hkz
        clear hmore elen hm hml hkey hkz em HR2 hij
        go_wp2_with fail
        refine CFo.out.mono ?_
        rintro e wI ⟨bq, tq, rfl, _, htq, hpq, hbI⟩
        have k0 := HC0.out _ hbI
        have HN : Hid (BackAt w wI b1 b2 ta tb v9 lp L bq (i + 1) (j + N) kz) := Lib.hid (by
          obtain ⟨q1, q2, q3, q4, q5, q6⟩ := HH.out
          refine ⟨BH.out.1.up hbI, ⟨tq, by rw [q2] at htq; exact htq.wider (by omega), by rw [hpq, HTP.out.2, q6, fold_part]⟩, by omega, fun h => absurd h (by omega), fun _ => ⟨by omega, by omega, by rw [q6, List.length_drop] at q1; omega, ?_⟩⟩
          rw [HKZ.out]
          congr 2
          omega)
        clear htq hpq hbI HC0 CFo
        go_wp2_with fail
        go_roundw
        case rel => exact ⟨bq, i + 1, j + N, kz, rfl, rfl, by go_num, by omega, HN⟩
        case measure => simp [intOf]; omega
      · have em : decide (max (N : Int) 0 < (R.length : Int)) = false := by rw [decide_eq_false_iff_not]; omega
        rw [em]
        have hjN : L.length ≤ j + N := by have := congrArg List.length HRD.out; rw [List.length_drop] at this; omega
        clear em hmore
        go_wp2_with fail
        refine CFo.out.mono ?_
        rintro e wI ⟨bq, tq, rfl, _, htq, hpq, hbI⟩
        have BI := Lib.hid (show BkT w wI b1 b2 ta tb v9 lp from BH.out.1.up hbI)
        have TQ := Lib.hid (And.intro htq (show prs tq = prs tb by rw [hpq, HTP.out.2, HRD.out, fold_part, List.take_of_length_le (by omega)]; exact HF.out))
        have CO2 := Lib.hid (ofSS_any (.pointer none) (.pointer (some ⟨b2, 0, none⟩)) .nil tb wI (.inr ⟨rfl, rfl⟩) (.inl ⟨b2, rfl, BI.out.t2.mp⟩))
        clear htq hpq hbI CFo BH HTP HRI HR2
        go_wp2_with fail
        refine CO2.out.mono ?_
        rintro e wJ ⟨ba3, bb3, e1, e2, rfl, y1, y2, y3, y4, hbJ⟩
        have BJ := Lib.hid (BI.out.up hbJ)
        have TJ := Lib.hid (And.intro (TQ.out.1.below hbJ) TQ.out.2)
        obtain ⟨LN, hLN⟩ := chgL_forms (ta := .nil) (tb := tb) trivial BJ.out.t2.ws
        have hlN : LN.length ≤ 200 := by
          have h1 := chgL_len .nil tb
          rw [hLN, List.length_map] at h1
          have := BJ.out.t2.len
          simp [prs] at h1
          omega
        have eN := Lib.hid (show LN.take (1048576 : Int).toNat = LN from List.take_of_length_le (by have : (1048576 : Int).toNat = 1048576 := rfl; omega))
        have HFN := Lib.hid (fold_chg (ta := .nil) trivial BJ.out.t2.ws trivial BJ.out.t2.rs hLN)
        have CR2 := Lib.hid (by have := ranged_of (⟨y1, y2, trivial, BJ.out.t2.ws, by simp [prs], by have := BJ.out.t2.len; omega⟩ : OfPSS wJ e1 e2 .nil tb) y3 y4 hLN (by omega) 1048576 (by decide) wJ (Below.refl _ _); rw [eN.out] at this; exact this)
        clear y1 y2 y3 y4 hbJ hLN BI TQ CO2
        go_wp2_with fail
        refine CR2.out.mono ?_
        intro e wK hK0
        obtain ⟨vK, rfl, hrK, hbK⟩ := rangedP_rd hK0
        have BK := Lib.hid (BJ.out.up hbK)
        have TK2 := Lib.hid (And.intro (TJ.out.1.below hbK) TJ.out.2)
        have CF2 := Lib.hid (fold_any (.pointer none) vK LN 0 .nil wK (.inr ⟨rfl, rfl⟩) trivial trivial (by simp [ht]) (by simp [prs]) (by omega) hrK (by omega))
        clear hK0 hrK hbK BJ TJ CR2
        go_wp2_with fail
        refine CF2.out.mono ?_
        rintro e wL ⟨bz, tz, rfl, _, htz, hpz, hbL⟩
        have BL := Lib.hid (BK.out.up hbL)
        have TL := Lib.hid (And.intro (TK2.out.1.below hbL) (And.intro TK2.out.2 (And.intro htz (show prs tz = prs tb by rw [hpz]; exact HFN.out))))
        clear htz hpz hbL BK TK2 CF2 HFN
        go_wp2_with fail
        refine (d21first_any _).mono ?_
        rintro e wM ⟨rfl, hbM⟩
        have BM := Lib.hid (BL.out.up hbM)
        have TM := Lib.hid (And.intro (TL.out.1.below hbM) (And.intro TL.out.2.1 (And.intro (TL.out.2.2.1.below hbM) TL.out.2.2.2)))
        have Q1 := Lib.hid (pairs21_any TM.out.1 (by rw [List.length_take]; omega) (by rw [TM.out.2.1]; exact HLP.out))
        clear hbM BL TL
        go_wp2_with fail
        refine Q1.out.mono ?_
        rintro e wN ⟨vN, rfl, hrN, hbN⟩
        have BN := Lib.hid (BM.out.up hbN)
        have TN := Lib.hid (And.intro (TM.out.2.2.1.below hbN) TM.out.2.2.2)
        have Q2 := Lib.hid (samepairs_any vN v9 lp wN hrN BN.out.r9)
        clear hrN hbN BM TM Q1
        go_wp2_with fail
        refine Q2.out.mono ?_
        rintro e wP ⟨rfl, hbP⟩
        have BP := Lib.hid (BN.out.up hbP)
        have Q3 := Lib.hid (pairs21_any (TN.out.1.below hbP) (by omega) (by rw [TN.out.2]; exact HLP.out))
        clear hbP BN TN Q2
        go_wp2_with fail
        refine Q3.out.mono ?_
        rintro e wQ ⟨vQ, rfl, hrQ, hbQ⟩
        have BQ := Lib.hid (BP.out.up hbQ)
        have Q4 := Lib.hid (samepairs_any vQ v9 lp wQ hrQ BQ.out.r9)
        clear hrQ hbQ BP Q3
        go_wp2_with fail
        refine Q4.out.mono ?_
        rintro e wR ⟨rfl, hbR⟩
        have BR := Lib.hid (BQ.out.up hbR)
        obtain ⟨lpa, hlpa⟩ := prs_plain BR.out.t1.ws
        have Q5 := Lib.hid (by
          have := countSS_any (.pointer (some ⟨b1, 0, none⟩)) (.pointer none) ta .nil wR (.inl ⟨b1, rfl, BR.out.t1.mp⟩) (.inr ⟨rfl, rfl⟩) BR.out.t1.ws trivial (by have := BR.out.t1.len; omega) (by simp [prs])
          rw [chg_gone, hlpa, List.length_map] at this
          exact this)
        have HPA := Lib.hid hlpa
        clear hbR hlpa BQ Q4
        go_wp2_with fail
        refine Q5.out.mono ?_
        rintro e wS ⟨rfl, hbS⟩
        have BS := Lib.hid (BR.out.up hbS)
        have Q6 := Lib.hid (pairs21_any BS.out.t1 (by omega) HPA.out)
        clear hbS BR Q5
        go_wp2_with fail
        refine Q6.out.mono ?_
        rintro e wT ⟨vT, rfl, hrT, hbT⟩
        obtain ⟨aT, qT, rfl, _⟩ := hrT.form
        have BT2 := Lib.hid (BS.out.up hbT)
        clear hrT hbT BS Q6
        go_wp2_with fail
        go_ret
        exact ⟨rfl, BT2.out.hb⟩
    · have t0 : ¬ (0 : Int) < (i : Int) := by omega
      have hj0 := hi0 (by omega)
      obtain ⟨R, hR⟩ : ∃ R, R = L.drop j := ⟨_, rfl⟩
      have hRL : R = L := by rw [hR, hj0, List.drop_zero]
      have hRl : R.length ≤ 400 := by rw [hRL]; omega
      have HRL := Lib.hid hRL
      have HRD := Lib.hid hR
      clear hB htp hpp hi0 hi1 hi hj0 h0 HR hRL hR
      go_wp2_with fail
      refine (of_pair BF.out.1).mono ?_
      rintro e wF ⟨ba2, bb2, d1, d2, rfl, y1, y2, y3, y4, hbF⟩
      have BG := Lib.hid (And.intro (BF.out.1.up hbF) (BF.out.2.below hbF))
      have CSo := Lib.hid (by have := some_of (ofP_of y1 y2 BF.out.1.t1 BF.out.1.t2 (by omega) (by omega)) y3 y4 HLL.out (by omega) (N : Int) wF (Below.refl _ _); rw [← HRL.out] at this; exact this)
      clear y1 y2 y3 y4 hbF BF HRL
      go_wp2_with fail
      refine CSo.out.mono ?_
      rintro e wH ⟨vS, rfl, hrS, hbH⟩
      have BH := Lib.hid (And.intro (BG.out.1.up hbH) (BG.out.2.below hbH))
      have hrd : RdC wH vS (R.take N) := RdF.of_row (cellsC_len _) (by simpa using hrS)
      have CFo := Lib.hid (fold_any (.pointer (some ⟨bp, 0, none⟩)) vS (R.take N) (200 + j) tp wH (.inl ⟨bp, rfl, BH.out.2.mp⟩) BH.out.2.ws BH.out.2.rs BH.out.2.ht BH.out.2.len (by omega) hrd (by rw [List.length_take]; omega))
      have HR2 := Lib.hid hrd
      clear hrS hbH BG CSo hrd
      by_cases hmore : N < R.length
      · have em : decide (max (N : Int) 0 < (R.length : Int)) = true := by rw [decide_eq_true_eq]; omega
        rw [em]
        have elen : (R.take N).length = N := by rw [List.length_take]; omega
        obtain ⟨aS, cS, rfl⟩ : ∃ a c, vS = .slice a N c := by obtain ⟨a, c, h, _⟩ := HR2.out.form; exact ⟨a, c, by rw [h, elen]⟩
        obtain ⟨m, hm⟩ : ∃ m, m + 1 = N := ⟨N - 1, by omega⟩
        have tN : (N : Int) - 1 = (m : Int) := by omega
        have gm : (m : Int) < (N : Int) := by omega
        have gm0 : (0 : Int) ≤ (m : Int) := by omega
        have hml : m < (R.take N).length := by omega
        have hjl : j + m < L.length := by have := congrArg List.length HRD.out; rw [List.length_drop] at this; omega
        have hkey : (R.take N)[m].1 = L[j + m].1 := by simp [HRD.out]
        obtain ⟨bS, oS, rfl, -⟩ := HR2.out.get hml
        have HC0 := Lib.hid (fun W (h : Below wH.heap.size wH W) => by
          obtain ⟨bL', oL', e, k0, _⟩ := RdC.get (RdF.below HR2.out h (Nat.le_refl _) : RdC W _ (R.take N)) hml
          cases e
          rw [hkey] at k0
          exact k0)
        have HH := Lib.hid (And.intro hmore (And.intro elen (And.intro hm (And.intro hjl (And.intro hij HRD.out)))))
        obtain ⟨kz, hkz⟩ : ∃ k, k = L[j + m].1 := ⟨_, rfl⟩
        rw [← hkz] at HC0
        have HKZ := Lib.hid hkz
        clear hmore elen hm hml hkey hkz em HR2 hij
        go_wp2_with fail
        refine CFo.out.mono ?_
        rintro e wI ⟨bq, tq, rfl, _, htq, hpq, hbI⟩
        have k0 := HC0.out _ hbI
        have HN : Hid (BackAt w wI b1 b2 ta tb v9 lp L bq (i + 1) (j + N) kz) := Lib.hid (by
          obtain ⟨q1, q2, q3, q4, q5, q6⟩ := HH.out
          refine ⟨BH.out.1.up hbI, ⟨tq, by rw [q2] at htq; exact htq.wider (by omega), by rw [hpq, HTP.out.2, q6, fold_part]⟩, by omega, fun h => absurd h (by omega), fun _ => ⟨by omega, by omega, by rw [q6, List.length_drop] at q1; omega, ?_⟩⟩
          rw [HKZ.out]
          congr 2
          omega)
        clear htq hpq hbI HC0 CFo
        go_wp2_with fail
        go_roundw
        case rel => exact ⟨bq, i + 1, j + N, kz, rfl, rfl, by go_num, by omega, HN⟩
        case measure => simp [intOf]; omega
      · have em : decide (max (N : Int) 0 < (R.length : Int)) = false := by rw [decide_eq_false_iff_not]; omega
        rw [em]
        have hjN : L.length ≤ j + N := by have := congrArg List.length HRD.out; rw [List.length_drop] at this; omega
        clear em hmore
        go_wp2_with fail
        refine CFo.out.mono ?_
        rintro e wI ⟨bq, tq, rfl, _, htq, hpq, hbI⟩
        have BI := Lib.hid (show BkT w wI b1 b2 ta tb v9 lp from BH.out.1.up hbI)
        have TQ := Lib.hid (And.intro htq (show prs tq = prs tb by rw [hpq, HTP.out.2, HRD.out, fold_part, List.take_of_length_le (by omega)]; exact HF.out))
        have CO2 := Lib.hid (ofSS_any (.pointer none) (.pointer (some ⟨b2, 0, none⟩)) .nil tb wI (.inr ⟨rfl, rfl⟩) (.inl ⟨b2, rfl, BI.out.t2.mp⟩))
        clear htq hpq hbI CFo BH HTP HRI HR2
        go_wp2_with fail
        refine CO2.out.mono ?_
        rintro e wJ ⟨ba3, bb3, e1, e2, rfl, y1, y2, y3, y4, hbJ⟩
        have BJ := Lib.hid (BI.out.up hbJ)
        have TJ := Lib.hid (And.intro (TQ.out.1.below hbJ) TQ.out.2)
        obtain ⟨LN, hLN⟩ := chgL_forms (ta := .nil) (tb := tb) trivial BJ.out.t2.ws
        have hlN : LN.length ≤ 200 := by
          have h1 := chgL_len .nil tb
          rw [hLN, List.length_map] at h1
          have := BJ.out.t2.len
          simp [prs] at h1
          omega
        have eN := Lib.hid (show LN.take (1048576 : Int).toNat = LN from List.take_of_length_le (by have : (1048576 : Int).toNat = 1048576 := rfl; omega))
        have HFN := Lib.hid (fold_chg (ta := .nil) trivial BJ.out.t2.ws trivial BJ.out.t2.rs hLN)
        have CR2 := Lib.hid (by have := ranged_of (⟨y1, y2, trivial, BJ.out.t2.ws, by simp [prs], by have := BJ.out.t2.len; omega⟩ : OfPSS wJ e1 e2 .nil tb) y3 y4 hLN (by omega) 1048576 (by decide) wJ (Below.refl _ _); rw [eN.out] at this; exact this)
        clear y1 y2 y3 y4 hbJ hLN BI TQ CO2
        go_wp2_with fail
        refine CR2.out.mono ?_
        intro e wK hK0
        obtain ⟨vK, rfl, hrK, hbK⟩ := rangedP_rd hK0
        have BK := Lib.hid (BJ.out.up hbK)
        have TK2 := Lib.hid (And.intro (TJ.out.1.below hbK) TJ.out.2)
        have CF2 := Lib.hid (fold_any (.pointer none) vK LN 0 .nil wK (.inr ⟨rfl, rfl⟩) trivial trivial (by simp [ht]) (by simp [prs]) (by omega) hrK (by omega))
        clear hK0 hrK hbK BJ TJ CR2
        go_wp2_with fail
        refine CF2.out.mono ?_
        rintro e wL ⟨bz, tz, rfl, _, htz, hpz, hbL⟩
        have BL := Lib.hid (BK.out.up hbL)
        have TL := Lib.hid (And.intro (TK2.out.1.below hbL) (And.intro TK2.out.2 (And.intro htz (show prs tz = prs tb by rw [hpz]; exact HFN.out))))
        clear htz hpz hbL BK TK2 CF2 HFN
        go_wp2_with fail
        refine (d21first_any _).mono ?_
        rintro e wM ⟨rfl, hbM⟩
        have BM := Lib.hid (BL.out.up hbM)
        have TM := Lib.hid (And.intro (TL.out.1.below hbM) (And.intro TL.out.2.1 (And.intro (TL.out.2.2.1.below hbM) TL.out.2.2.2)))
        have Q1 := Lib.hid (pairs21_any TM.out.1 (by rw [List.length_take]; omega) (by rw [TM.out.2.1]; exact HLP.out))
        clear hbM BL TL
        go_wp2_with fail
        refine Q1.out.mono ?_
        rintro e wN ⟨vN, rfl, hrN, hbN⟩
        have BN := Lib.hid (BM.out.up hbN)
        have TN := Lib.hid (And.intro (TM.out.2.2.1.below hbN) TM.out.2.2.2)
        have Q2 := Lib.hid (samepairs_any vN v9 lp wN hrN BN.out.r9)
        clear hrN hbN BM TM Q1
        go_wp2_with fail
        refine Q2.out.mono ?_
        rintro e wP ⟨rfl, hbP⟩
        have BP := Lib.hid (BN.out.up hbP)
        have Q3 := Lib.hid (pairs21_any (TN.out.1.below hbP) (by omega) (by rw [TN.out.2]; exact HLP.out))
        clear hbP BN TN Q2
        go_wp2_with fail
        refine Q3.out.mono ?_
        rintro e wQ ⟨vQ, rfl, hrQ, hbQ⟩
        have BQ := Lib.hid (BP.out.up hbQ)
        have Q4 := Lib.hid (samepairs_any vQ v9 lp wQ hrQ BQ.out.r9)
        clear hrQ hbQ BP Q3
        go_wp2_with fail
        refine Q4.out.mono ?_
        rintro e wR ⟨rfl, hbR⟩
        have BR := Lib.hid (BQ.out.up hbR)
        obtain ⟨lpa, hlpa⟩ := prs_plain BR.out.t1.ws
        have Q5 := Lib.hid (by
          have := countSS_any (.pointer (some ⟨b1, 0, none⟩)) (.pointer none) ta .nil wR (.inl ⟨b1, rfl, BR.out.t1.mp⟩) (.inr ⟨rfl, rfl⟩) BR.out.t1.ws trivial (by have := BR.out.t1.len; omega) (by simp [prs])
          rw [chg_gone, hlpa, List.length_map] at this
          exact this)
        have HPA := Lib.hid hlpa
        clear hbR hlpa BQ Q4
        go_wp2_with fail
        refine Q5.out.mono ?_
        rintro e wS ⟨rfl, hbS⟩
        have BS := Lib.hid (BR.out.up hbS)
        have Q6 := Lib.hid (pairs21_any BS.out.t1 (by omega) HPA.out)
        clear hbS BR Q5
        go_wp2_with fail
        refine Q6.out.mono ?_
        rintro e wT ⟨vT, rfl, hrT, hbT⟩
        obtain ⟨aT, qT, rfl, _⟩ := hrT.form
        have BT2 := Lib.hid (BS.out.up hbT)
        clear hrT hbT BS Q6
        go_wp2_with fail
        go_ret
        exact ⟨rfl, BT2.out.hb⟩
end Go.Proofs.Yteibiaplmmdppaa
