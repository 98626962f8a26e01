/- DiffTakes: the walk. -/
import Derived.Test.YteibiaplmmdppaaD21First
import Derived.Test.YteibiaplmmdppaaD21Few
import Derived.Test.YteibiaplmmdppaaD21Some
import Derived.Test.YteibiaplmmdppaaD21Pairs
import Derived.Test.YteibiaplmmdppaaD21Math2
import Derived.Test.YteibiaplmmdppaaCountSS
import Derived.Deep.RegionWith
namespace Go.Proofs.Yteibiaplmmdppaa
open Go.RowKit

theorem some_of {w : World} {ba bb b1 b2 : Nat} {ta tb : Tr} {L : List ChgT} (h : OfPSS w b1 b2 ta tb) (ca : w.cell? ⟨ba, 0, none⟩ = some (.pointer (some ⟨b1, 0, none⟩))) (cb : w.cell? ⟨bb, 0, none⟩ = some (.pointer (some ⟨b2, 0, none⟩)))
    (hL : chgLSS ta tb = L.map encC) (hlen : L.length ≤ 1000000) (n : Int) : ∀ W, Below w.heap.size w W → Calls Try.prog 15 #[.func (.func 33) #[] #[.pointer (some ⟨ba, 0, none⟩), .pointer (some ⟨bb, 0, none⟩)], .int .i64 n] W (SomeP W L n) := by
  intro W hW
  refine some_any (Ok := fun X => Below w.heap.size w X) n hlen (enters_of Try.func33 (by kernel_rfl) rfl) (fun X hX => hW.trans (hX.mono hW.size)) (fun W' hW' => ?_)
  rw [← hL]
  exact of1SS_seqs h ca cb (hW.trans (hW'.mono hW.size)) (by decide) (by decide) (by decide) (by decide) (by decide)
/-- Behind the last key. -/
theorem ranged_after {w : World} {ba bb b1 b2 : Nat} {ta tb : Tr} {L : List ChgT} {key : List UInt8} (h : OfPSS w b1 b2 ta tb) (ca : w.cell? ⟨ba, 0, none⟩ = some (.pointer (some ⟨b1, 0, none⟩))) (cb : w.cell? ⟨bb, 0, none⟩ = some (.pointer (some ⟨b2, 0, none⟩)))
    (hL : chgLSS ta tb = L.map encC) (hkey : ∀ c ∈ L, gtB c.1 key = false) {W1 W2 : World} (hW : Below w.heap.size w W1) (e2 : W2 = (W1.alloc (.cells #[.func (.func 33) #[] #[.pointer (some ⟨ba, 0, none⟩), .pointer (some ⟨bb, 0, none⟩)]] 33)).alloc (.cells #[str key] 9)) :
    Calls Try.prog 14 #[.func (.func 39) #[] #[.pointer (some ⟨W1.heap.size, 0, none⟩), .pointer (some ⟨W1.heap.size + 1, 0, none⟩)], .int .i64 9] W2 (RangedP W2 []) := by
  have l1 : Below W1.heap.size W1 W2 := by rw [e2]; exact ((Below.refl _ W1).alloc (Nat.le_refl _) _).alloc (by simp) _
  have c0 : W2.cell? ⟨W1.heap.size, 0, none⟩ = some (.func (.func 33) #[] #[.pointer (some ⟨ba, 0, none⟩), .pointer (some ⟨bb, 0, none⟩)]) := by rw [e2]; exact ((Boxed.new W1 _ _).alloc _).cell
  have c1 : W2.cell? ⟨W1.heap.size + 1, 0, none⟩ = some (str key) := by
    have := (Boxed.new (W1.alloc (.cells #[.func (.func 33) #[] #[.pointer (some ⟨ba, 0, none⟩), .pointer (some ⟨bb, 0, none⟩)]] 33)) 9 (str key)).cell
    rw [World.size_alloc] at this
    rw [e2]; exact this
  have hW2 := hW.trans (l1.mono hW.size)
  have hf : (L.map encC).filter (gtV key) = ([] : List ChgT).map encC := by
    rw [List.map_nil, List.filter_eq_nil_iff]
    intro x hx
    obtain ⟨c, hc, rfl⟩ := List.mem_map.1 hx
    rw [gtV_enc, hkey c hc]
    simp
  have := ranged_any (L := []) (Ok := fun X => Below w.heap.size w X ∧ X.cell? ⟨W1.heap.size + 1, 0, none⟩ = some (str key)) 9 (by decide) (by simp) (enters_of Try.func39 (by kernel_rfl) rfl)
    (w := W2) (lb := #[.pointer (some ⟨W1.heap.size, 0, none⟩), .pointer (some ⟨W1.heap.size + 1, 0, none⟩)])
    (fun X hX => ⟨hW2.trans (hX.mono hW2.size), (hX.cell (p := ⟨W1.heap.size + 1, 0, none⟩) (World.block_lt_of_cell? W2 _ c1)).trans c1⟩) (fun W' hW' => by
      rw [← hf]
      refine after_seqs (gf := 33) (lb := #[.pointer (some ⟨ba, 0, none⟩), .pointer (some ⟨bb, 0, none⟩)]) (Ok := fun X => Below w.heap.size w X) (enters_of Try.func33 (by kernel_rfl) rfl) (fun W'' hW'' => ?_)
        ((hW'.cell (p := ⟨W1.heap.size, 0, none⟩) (World.block_lt_of_cell? W2 _ c0)).trans c0) (by decide)
      rw [← hL]
      have h3 := hW2.trans (hW'.mono hW2.size)
      exact of1SS_seqs h ca cb (h3.trans (hW''.mono h3.size)) (by decide) (by decide) (by decide) (by decide) (by decide))
  exact this
/-- What lies on. -/
structure DT (w wo W : World) (b1 b2 ba bb c1 c2 n m : Nat) (ta tb : Tr) : Prop where
  hb : Below w.heap.size w W
  t1 : TISS W b1 n ta
  t2 : TISS W b2 m tb
  p : OfPSS wo c1 c2 ta tb
  ca : wo.cell? ⟨ba, 0, none⟩ = some (.pointer (some ⟨c1, 0, none⟩))
  cb : wo.cell? ⟨bb, 0, none⟩ = some (.pointer (some ⟨c2, 0, none⟩))
  ho : Below wo.heap.size wo W
theorem DT.up {w wo W W' : World} {b1 b2 ba bb c1 c2 n m : Nat} {ta tb : Tr} (h : DT w wo W b1 b2 ba bb c1 c2 n m ta tb) (hb : Below W.heap.size W W') : DT w wo W' b1 b2 ba bb c1 c2 n m ta tb :=
  ⟨h.hb.trans (hb.mono h.hb.size), h.t1.below hb, h.t2.below hb, h.p, h.ca, h.cb, h.ho.trans (hb.mono h.ho.size)⟩
set_option maxRecDepth 100000 in
set_option maxHeartbeats 8000000 in
theorem takes21_walk (va vb : Value) (la lb : List PairT) (n : Int) (w : World) (ha : RdP w va la) (hb : RdP w vb lb) (hsa : ∀ p ∈ la, p.1.length ≤ 9223372036854775807 ∧ p.2.length ≤ 9223372036854775807) (hsb : ∀ p ∈ lb, p.1.length ≤ 9223372036854775807 ∧ p.2.length ≤ 9223372036854775807)
    (hn : -9223372036854775808 ≤ n ∧ n ≤ 9223372036854775807) : Calls Try.prog 7 #[va, vb, .int .i64 n] w fun e w' => e = .returned (.bool true) ∧ Below w.heap.size w w' := by
  have HA := Lib.hid ha
  have HB := Lib.hid hb
  have F1 := Lib.hid (fun W (h : Below w.heap.size w W) => few_any va la W (RdF.below ha h (Nat.le_refl _)) hsa)
  have F2 := Lib.hid (fun W (h : Below w.heap.size w W) => few_any vb lb W (RdF.below hb h (Nat.le_refl _)) hsb)
  clear ha hb hsa hsb
  go_enter Try.func7, Try.ntmps7
  go_wp2_with fail
  refine (d21first_any w).mono ?_
  rintro e w1 ⟨rfl, hb1⟩
  have H1 := Lib.hid hb1
  clear hb1
  go_wp2_with fail
  refine (F1.out _ H1.out).mono ?_
  rintro e w2 ⟨bA, rfl, hA, hb2⟩
  have HL1 := Lib.hid hA
  have H2 := Lib.hid (H1.out.trans (hb2.mono H1.out.size))
  clear hb2 hA H1 F1
  cases bA with
  | false =>
    as_aux_lemma =>
      go_wp2_with fail
      refine (d21first_any _).mono ?_
      rintro e w3 ⟨rfl, hb3⟩
      go_wp2_with fail
      go_ret
      exact ⟨rfl, H2.out.trans (hb3.mono H2.out.size)⟩
  | true =>
  go_wp2_with fail
  refine (F2.out _ H2.out).mono ?_
  rintro e w3 ⟨bB, rfl, hB, hb3⟩
  have HL2 := Lib.hid hB
  have H3 := Lib.hid (H2.out.trans (hb3.mono H2.out.size))
  clear hb3 hB H2 F2
  cases bB with
  | false =>
    as_aux_lemma =>
      go_wp2_with fail
      refine (d21first_any _).mono ?_
      rintro e w4 ⟨rfl, hb4⟩
      go_wp2_with fail
      go_ret
      exact ⟨rfl, H3.out.trans (hb4.mono H3.out.size)⟩
  | true =>
  have l1 := HL1.out (by trivial)
  have l2 := HL2.out (by trivial)
  have M1 := Lib.hid (fun W (h : Below w.heap.size w W) => map_any va la W (RdF.below HA.out h (Nat.le_refl _)) (by omega))
  have M2 := Lib.hid (fun W (h : Below w.heap.size w W) => map_any vb lb W (RdF.below HB.out h (Nat.le_refl _)) (by omega))
  clear HA HB HL1 HL2
  go_wp2_with fail
  refine (M1.out _ H3.out).mono ?_
  rintro e w4 ⟨b1, rfl, _, hm1, hb4⟩
  have H4 := Lib.hid (And.intro hm1 (H3.out.trans (hb4.mono H3.out.size)))
  clear hm1 hb4 H3 M1
  go_wp2_with fail
  refine (M2.out _ H4.out.2).mono ?_
  rintro e w5 ⟨b2, rfl, _, hm2, hb5⟩
  obtain ⟨ta, hta, hpa⟩ := H4.out.1.below hb5
  obtain ⟨tb, htb, hpb⟩ := hm2
  have H5 := Lib.hid (And.intro hta (And.intro htb (H4.out.2.trans (hb5.mono H4.out.2.size))))
  have CO := Lib.hid (ofSS_any (.pointer (some ⟨b1, 0, none⟩)) (.pointer (some ⟨b2, 0, none⟩)) ta tb w5 (.inl ⟨b1, rfl, hta.mp⟩) (.inl ⟨b2, rfl, htb.mp⟩))
  clear hta hpa htb hpb hb5 H4 M2
  go_wp2_with fail
  refine CO.out.mono ?_
  rintro e wo ⟨ba, bb, c1, c2, rfl, g1, g2, g3, g4, hbo⟩
  obtain ⟨hta, htb, hbw⟩ := H5.out
  obtain ⟨L, hL⟩ := chgL_forms hta.ws htb.ws
  have hlen : L.length ≤ 400 := by
    have h1 := chgL_len ta tb
    rw [hL, List.length_map] at h1
    have := hta.len
    have := htb.len
    omega
  have HD := Lib.hid (show DT w wo wo b1 b2 ba bb c1 c2 la.length lb.length ta tb from ⟨hbw.trans (hbo.mono hbw.size), hta.below hbo, htb.below hbo, ofP_of g1 g2 hta htb (by omega) (by omega), g3, g4, Below.refl _ _⟩)
  have HLL := Lib.hid hL
  have eT : L.take (1048576 : Int).toNat = L := List.take_of_length_le (by have : (1048576 : Int).toNat = 1048576 := rfl; omega)
  have CR := Lib.hid (fun W h => by have := ranged_of HD.out.p g3 g4 hL (by omega) 1048576 (by decide) W h; rw [eT] at this; exact this)
  have CSo := Lib.hid (fun W h => some_of HD.out.p g3 g4 hL (by omega) n W h)
  clear g1 g2 g3 g4 hbo hta htb hbw hL eT H5 CO
  go_wp2_with fail
  refine (CR.out _ HD.out.ho).mono ?_
  intro e w6 h6
  obtain ⟨v6, rfl, hr6, hb6⟩ := rangedP_rd h6
  have D6 := Lib.hid (HD.out.up hb6)
  have C6 := Lib.hid (changes_any v6 L w6 hr6 (by omega))
  clear h6 hr6 hb6 HD
  go_wp2_with fail
  refine C6.out.mono ?_
  rintro e w7 ⟨u7, rfl, hr7, hb7⟩
  have D7 := Lib.hid (D6.out.up hb7)
  have R7 := Lib.hid hr7
  clear hr7 hb7 D6 C6
  go_wp2_with fail
  refine (CR.out _ D7.out.ho).mono ?_
  intro e w8 h8
  obtain ⟨v8, rfl, hr8, hb8⟩ := rangedP_rd h8
  have D8 := Lib.hid (D7.out.up hb8)
  have R8 := Lib.hid (RdF.below R7.out hb8 (Nat.le_refl _))
  have C8 := Lib.hid (changes_any v8 L w8 hr8 (by omega))
  clear h8 hr8 hb8 D7 R7 CR
  go_wp2_with fail
  refine C8.out.mono ?_
  rintro e w9 ⟨u9, rfl, hr9, hb9⟩
  have D9 := Lib.hid (D8.out.up hb9)
  have R9 := Lib.hid (And.intro (show RdC w9 u7 L from RdF.below R8.out hb9 (Nat.le_refl _)) hr9)
  clear hr9 hb9 D8 R8 C8
  go_wp2_with fail
  refine (CSo.out _ D9.out.ho).mono ?_
  rintro e wA ⟨vS, rfl, hrS, hbA⟩
  obtain ⟨mb, hmb⟩ : ∃ mb, mb = decide (max n 0 < (L.length : Int)) := ⟨_, rfl⟩
  rw [← hmb]
  have HMB := Lib.hid hmb
  clear hmb
  have DA := Lib.hid (D9.out.up hbA)
  have RA := Lib.hid (And.intro (show RdC wA u7 L from RdF.below R9.out.1 hbA (Nat.le_refl _)) (And.intro (show RdC wA u9 L from RdF.below R9.out.2 hbA (Nat.le_refl _)) (show RdC wA vS (L.take n.toNat) from RdF.of_row (cellsC_len _) (by simpa using hrS))))
  clear hrS hbA D9 R9 CSo
  obtain ⟨a7, q7, rfl, _, hc7, hc7'⟩ := RA.out.1.form
  have c3 : n < 0 ∨ (∃ N : Nat, n = (N : Int) ∧ N ≤ L.length) ∨ (∃ N : Nat, n = (N : Int) ∧ L.length < N) := by
    by_cases h : n < 0
    · exact .inl h
    · obtain ⟨N, hN⟩ : ∃ N : Nat, n = (N : Int) := ⟨n.toNat, by omega⟩
      by_cases h2 : N ≤ L.length
      · exact .inr (.inl ⟨N, hN, h2⟩)
      · exact .inr (.inr ⟨N, hN, by omega⟩)
  rcases c3 with hn0 | ⟨N, rfl, hN⟩ | ⟨N, rfl, hN⟩
  · have t1 : ¬ (0 : Int) < n := by omega
    have ET : Hid (L.take n.toNat = L.take 0) := Lib.hid (by rw [show n.toNat = 0 by omega])
    have gd : decide (0 < L.length) = mb := by
      rw [HMB.out]
      by_cases h : 0 < L.length
      · rw [decide_eq_true h]; symm; rw [decide_eq_true_eq]; omega
      · rw [decide_eq_false h]; symm; rw [decide_eq_false_iff_not]; omega
    as_aux_lemma =>
      have B0 := Lib.hid (show Below wA.heap.size wA wA.drew from Below.drewsN (Below.refl _ _) 1)
      have X1 := Lib.hid (fun W (h : Below wA.heap.size wA W) => samechg_any (.slice a7 L.length q7) u9 L W (RdF.below RA.out.1 h (Nat.le_refl _)) (RdF.below RA.out.2.1 h (Nat.le_refl _)))
      have X2 := Lib.hid (fun W (h : Below wA.heap.size wA W) => changes_any vS (L.take 0) W (by have := RdF.below RA.out.2.2 h (Nat.le_refl _); rw [ET.out] at this; exact this) (by rw [List.length_take]; omega))
      have X3 := Lib.hid (fun W u (h : Below wA.heap.size wA W) (hu : RdC W u (L.take 0)) => samechg_any u (.slice a7 0 q7) (L.take 0) W hu (by have := RdF.take (RdF.below RA.out.1 h (Nat.le_refl _)) 0 (by rw [List.length_map]; omega); rw [← List.map_take] at this; exact this))
      have X4 := Lib.hid (fun W (h : Below wA.heap.size wA W) => by
        have := countSS_any (.pointer (some ⟨b1, 0, none⟩)) (.pointer (some ⟨b2, 0, none⟩)) ta tb W (.inl ⟨b1, rfl, (DA.out.t1.below h).mp⟩) (.inl ⟨b2, rfl, (DA.out.t2.below h).mp⟩) DA.out.t1.ws DA.out.t2.ws (by have := DA.out.t1.len; omega) (by have := DA.out.t2.len; omega)
        rw [HLL.out, List.length_map] at this
        exact this)
      go_wp2_with fail
      refine wp_region_any (by kernel_rfl) ?_
      change wpAny _ _ _ _ _ _ _ (World.drew _)
      refine wpAny_take (i := 0) (v := ?v1) rfl (by kernel_rfl) (by kernel_rfl) (by kernel_rfl) (fun _ _ _ h => h) (Or.inl ⟨by rfl, ?hy1⟩) ?_
      case hy1 => (intro w; go_simp; try with_reducible rfl)
      go_simp
      refine wpAny_take (i := 1) (v := ?v2) rfl (by kernel_rfl) (by kernel_rfl) (by kernel_rfl) (fun _ _ _ h => h) (Or.inl ⟨by rfl, ?hy2⟩) ?_
      case hy2 => (intro w; go_simp; try with_reducible rfl)
      go_simp
      refine wpAny_ready (rs := [2]) (by kernel_rfl) (by simp) (AllReady.cons rfl (fun K hK => ?_) AllReady.nil)
      go_simp
      refine (X1.out _ B0.out).mono ?_
      rintro e wB ⟨rfl, hbB⟩
      have B1 := Lib.hid (B0.out.trans (hbB.mono B0.out.size))
      clear hbB
      refine hK _ _ ?_
      clear hK K
      refine wpAny_take (i := 3) (v := ?v3) rfl (by kernel_rfl) (by kernel_rfl) (by kernel_rfl) (fun _ _ _ h => h) (Or.inl ⟨by rfl, ?hy3⟩) ?_
      case hy3 => (intro w; go_simp; try with_reducible rfl)
      go_simp
      refine wpAny_take (i := 4) (v := ?v4) rfl (by kernel_rfl) (by kernel_rfl) (by kernel_rfl) (fun _ _ _ h => h) (Or.inl ⟨by rfl, ?hy4⟩) ?_
      case hy4 => (intro w; go_simp; try with_reducible rfl)
      go_simp
      refine wpAny_take (i := 5) (v := ?v5) rfl (by kernel_rfl) (by kernel_rfl) (by kernel_rfl) (fun _ _ _ h => h) (Or.inl ⟨by rfl, ?hy5⟩) ?_
      case hy5 => (intro w; go_simp; try with_reducible rfl)
      go_simp
      refine wpAny_take (i := 7) (v := ?v6) rfl (by kernel_rfl) (by kernel_rfl) (by kernel_rfl) (fun _ _ _ h => h) (Or.inl ⟨by rfl, ?hy6⟩) ?_
      case hy6 => (intro w; go_simp; try with_reducible rfl)
      go_simp
      refine wpAny_take (i := 8) (v := ?v7) rfl (by kernel_rfl) (by kernel_rfl) (by kernel_rfl) (fun _ _ _ h => h) (Or.inl ⟨by rfl, ?hy7⟩) ?_
      case hy7 => (intro w; go_simp; try with_reducible rfl)
      go_simp
      refine wpAny_take (i := 9) (v := ?v8) rfl (by kernel_rfl) (by kernel_rfl) (by kernel_rfl) (fun _ _ _ h => h) (Or.inl ⟨by rfl, ?hy8⟩) ?_
      case hy8 => (intro w; go_simp; try with_reducible rfl)
      go_simp
      refine wpAny_ready (rs := [6]) (by kernel_rfl) (by simp) (AllReady.cons rfl (fun K hK => ?_) AllReady.nil)
      go_simp
      refine (X2.out _ B1.out).mono ?_
      rintro e wC ⟨uC, rfl, hrC, hbC⟩
      have B2 := Lib.hid (B1.out.trans (hbC.mono B1.out.size))
      have RC := Lib.hid hrC
      clear hrC hbC
      refine hK _ _ ?_
      clear hK K
      refine wpAny_ready (rs := [10]) (by kernel_rfl) (by simp) (AllReady.cons rfl (fun K hK => ?_) AllReady.nil)
      go_simp
      refine (X3.out _ _ B2.out RC.out).mono ?_
      rintro e wD ⟨rfl, hbD⟩
      have B3 := Lib.hid (B2.out.trans (hbD.mono B2.out.size))
      clear hbD
      refine hK _ _ ?_
      clear hK K
      refine wpAny_take (i := 11) (v := ?v9) rfl (by kernel_rfl) (by kernel_rfl) (by kernel_rfl) (fun _ _ _ h => h) (Or.inl ⟨by rfl, ?hy9⟩) ?_
      case hy9 => (intro w; go_simp; try with_reducible rfl)
      go_simp
      refine wpAny_take (i := 12) (v := ?v10) rfl (by kernel_rfl) (by kernel_rfl) (by kernel_rfl) (fun _ _ _ h => h) (Or.inl ⟨by rfl, ?hy10⟩) ?_
      case hy10 => (intro w; go_simp; try with_reducible rfl)
      go_simp
      refine wpAny_take (i := 13) (v := ?v11) rfl (by kernel_rfl) (by kernel_rfl) (by kernel_rfl) (fun _ _ _ h => h) (Or.inl ⟨by rfl, ?hy11⟩) ?_
      case hy11 => (intro w; go_simp; try with_reducible rfl)
      go_simp
      refine wpAny_take (i := 14) (v := ?v12) rfl (by kernel_rfl) (by kernel_rfl) (by kernel_rfl) (fun _ _ _ h => h) (Or.inl ⟨by rfl, ?hy12⟩) ?_
      case hy12 => (intro w; go_simp; try with_reducible rfl)
      go_simp
      refine wpAny_take (i := 15) (v := ?v13) rfl (by kernel_rfl) (by kernel_rfl) (by kernel_rfl) (fun _ _ _ h => h) (Or.inl ⟨by rfl, ?hy13⟩) ?_
      case hy13 => (intro w; go_simp; try with_reducible rfl)
      go_simp
      refine wpAny_take (i := 16) (v := ?v14) rfl (by kernel_rfl) (by kernel_rfl) (by kernel_rfl) (fun _ _ _ h => h) (Or.inl ⟨by rfl, ?hy14⟩) ?_
      case hy14 => (intro w; go_simp; try with_reducible rfl)
      go_simp
      refine wpAny_take (i := 17) (v := ?v15) rfl (by kernel_rfl) (by kernel_rfl) (by kernel_rfl) (fun _ _ _ h => h) (Or.inl ⟨by rfl, ?hy15⟩) ?_
      case hy15 => (intro w; go_simp; try with_reducible rfl)
      go_simp
      refine wpAny_take (i := 18) (v := ?v16) rfl (by kernel_rfl) (by kernel_rfl) (by kernel_rfl) (fun _ _ _ h => h) (Or.inl ⟨by rfl, ?hy16⟩) ?_
      case hy16 => (intro w; go_simp; try with_reducible rfl)
      go_simp
      refine wpAny_take (i := 19) (v := ?v17) rfl (by kernel_rfl) (by kernel_rfl) (by kernel_rfl) (fun _ _ _ h => h) (Or.inl ⟨by rfl, ?hy17⟩) ?_
      case hy17 => (intro w; go_simp; try with_reducible rfl)
      go_simp
      refine wpAny_take (i := 20) (v := ?v18) rfl (by kernel_rfl) (by kernel_rfl) (by kernel_rfl) (fun _ _ _ h => h) (Or.inl ⟨by rfl, ?hy18⟩) ?_
      case hy18 => (intro w; go_simp; try with_reducible rfl)
      go_simp
      refine wpAny_take (i := 21) (v := ?v19) rfl (by kernel_rfl) (by kernel_rfl) (by kernel_rfl) (fun _ _ _ h => h) (Or.inl ⟨by rfl, ?hy19⟩) ?_
      case hy19 => (intro w; go_simp; try with_reducible rfl)
      go_simp
      refine wpAny_take (i := 22) (v := ?v20) rfl (by kernel_rfl) (by kernel_rfl) (by kernel_rfl) (fun _ _ _ h => h) (Or.inl ⟨by rfl, ?hy20⟩) ?_
      case hy20 => (intro w; go_simp; try with_reducible rfl)
      go_simp
      refine wpAny_take (i := 23) (v := ?v21) rfl (by kernel_rfl) (by kernel_rfl) (by kernel_rfl) (fun _ _ _ h => h) (Or.inl ⟨by rfl, ?hy21⟩) ?_
      case hy21 => (intro w; go_simp; try with_reducible rfl)
      go_simp
      refine wpAny_take (i := 25) (v := ?v22) rfl (by kernel_rfl) (by kernel_rfl) (by kernel_rfl) (fun _ _ _ h => h) (Or.inl ⟨by rfl, ?hy22⟩) ?_
      case hy22 => (intro w; go_simp; try with_reducible rfl)
      go_simp
      refine wpAny_take (i := 26) (v := ?v23) rfl (by kernel_rfl) (by kernel_rfl) (by kernel_rfl) (fun _ _ _ h => h) (Or.inl ⟨by rfl, ?hy23⟩) ?_
      case hy23 => (intro w; go_simp; try with_reducible rfl)
      go_simp
      refine wpAny_ready (rs := [24]) (by kernel_rfl) (by simp) (AllReady.cons rfl (fun K hK => ?_) AllReady.nil)
      go_simp
      refine (X4.out _ B3.out).mono ?_
      rintro e wE ⟨rfl, hbE⟩
      have B4 := Lib.hid (B3.out.trans (hbE.mono B3.out.size))
      clear hbE
      refine hK _ _ ?_
      clear hK K
      refine wpAny_take (i := 27) (v := ?v24) rfl (by kernel_rfl) (by kernel_rfl) (by kernel_rfl) (fun _ _ _ h => h) (Or.inl ⟨by rfl, ?hy24⟩) ?_
      case hy24 => (intro w; go_simp; try with_reducible rfl)
      go_simp
      refine wpAny_take (i := 28) (v := ?v25) rfl (by kernel_rfl) (by kernel_rfl) (by kernel_rfl) (fun _ _ _ h => h) (Or.inl ⟨by rfl, ?hy25⟩) ?_
      case hy25 => (intro w; go_simp; try with_reducible rfl)
      go_simp
      refine wpAny_done (by kernel_rfl) ?_ _
      have DE := Lib.hid (DA.out.up B4.out)
      have R7 := Lib.hid (show RdC wE (.slice a7 L.length q7) L from RdF.below RA.out.1 B4.out (Nat.le_refl _))
      clear DA RA B0 B1 B2 B3 B4 RC X1 X2 X3 X4 ET HMB
      by_cases hL0 : L.length = 0
      · have tz : ((L.length : Int) == 0) = true := by rw [hL0]; rfl
        have he : prs ta = prs tb := chg_none DE.out.t1.ws DE.out.t2.ws DE.out.t1.rs DE.out.t2.rs (by rw [HLL.out, List.eq_nil_of_length_eq_zero hL0]; rfl)
        obtain ⟨lp, hlp⟩ := prs_plain DE.out.t1.ws
        have P1 := Lib.hid (fun W (h : Below wE.heap.size wE W) => pairs21_any (DE.out.t1.below h) (by omega) hlp)
        have P2 := Lib.hid (fun W (h : Below wE.heap.size wE W) => pairs21_any (DE.out.t2.below h) (by omega) (by rw [← he]; exact hlp))
        clear he hlp hL0
        go_wp2_with fail
        refine (d21first_any _).mono ?_
        rintro e wF ⟨rfl, hbF⟩
        have E1 := Lib.hid (show Below wE.heap.size wE wF from hbF)
        clear hbF
        go_wp2_with fail
        refine (P1.out _ E1.out).mono ?_
        rintro e wG ⟨v1, rfl, hr1, hbG⟩
        have E2 := Lib.hid (And.intro (E1.out.trans (hbG.mono E1.out.size)) hr1)
        clear hr1 hbG E1
        go_wp2_with fail
        refine (P2.out _ E2.out.1).mono ?_
        rintro e wH ⟨v2, rfl, hr2, hbH⟩
        have CS := Lib.hid (samepairs_any v1 v2 lp wH (RdF.below E2.out.2 hbH (Nat.le_refl _)) hr2)
        have E3 := Lib.hid (E2.out.1.trans (hbH.mono E2.out.1.size))
        clear hr2 hbH E2
        go_wp2_with fail
        refine CS.out.mono ?_
        rintro e wI ⟨rfl, hbI⟩
        go_wp2_with fail
        go_ret
        exact ⟨rfl, DE.out.hb.trans ((E3.out.trans (hbI.mono E3.out.size)).mono DE.out.hb.size)⟩
      · obtain ⟨m, hm⟩ : ∃ m, L.length = m + 1 := ⟨L.length - 1, by omega⟩
        have tz : ((L.length : Int) == 0) = false := by rw [beq_eq_false_iff_ne]; omega
        have tm : (L.length : Int) - 1 = (m : Int) := by omega
        have gm : (m : Int) < (L.length : Int) := by omega
        have gm0 : (0 : Int) ≤ (m : Int) := by omega
        have hml : m < L.length := by omega
        obtain ⟨z, hz⟩ : ∃ z, z = L[m] := ⟨_, rfl⟩
        have eL : L = L.take m ++ [z] := by rw [hz, ← List.take_succ_eq_append_getElem hml, List.take_of_length_le (by omega)]
        have hr : RisC (L.take m ++ [z]) := by rw [← eL]; exact chgL_ris DE.out.t1.ws DE.out.t2.ws DE.out.t1.rs DE.out.t2.rs HLL.out
        have HKEY := Lib.hid (show ∀ c ∈ L, gtB c.1 z.1 = false from fun c hc => gt_last hr c (by rw [← eL]; exact hc))
        obtain ⟨bL, oL, rfl, -⟩ := R7.out.get hml
        have HC0 := Lib.hid (fun W (h : Below wE.heap.size wE W) => by
          obtain ⟨bL', oL', e, k0, _⟩ := RdC.get (RdF.below R7.out h (Nat.le_refl _) : RdC W _ L) hml
          cases e
          rw [← hz] at k0
          exact k0)
        have HM := Lib.hid hml
        clear hL0 hm eL hr hz hml
        go_wp2_with fail
        refine (d21first_any _).mono ?_
        rintro e wF ⟨rfl, hbF⟩
        have k0 := HC0.out _ hbF
        have E1 := Lib.hid (show Below wE.heap.size wE wF from hbF)
        clear hbF
        go_wp2_with fail
        refine (after_any _ _ _ _).mono ?_
        rintro e wG ⟨rfl, hwG⟩
        have CR := Lib.hid (ranged_after DE.out.p DE.out.ca DE.out.cb HLL.out HKEY.out (DE.out.ho.trans (E1.out.mono DE.out.ho.size)) hwG)
        have E2 : Hid (Below wE.heap.size wE wG) := Lib.hid (by
          rw [hwG]
          have h1 := E1.out.alloc E1.out.size (.cells #[.func (.func 33) #[] #[.pointer (some ⟨ba, 0, none⟩), .pointer (some ⟨bb, 0, none⟩)]] 33)
          exact h1.alloc h1.size _)
        clear hwG k0 E1
        go_wp2_with fail
        refine CR.out.mono ?_
        intro e wH h9
        obtain ⟨v9, rfl, hr9, hbH⟩ := rangedP_rd h9
        obtain ⟨a9, q9, rfl, _⟩ := hr9.form
        have E3 := Lib.hid (E2.out.trans (hbH.mono E2.out.size))
        clear h9 hr9 hbH CR E2
        go_wp2_with fail
        go_ret
        exact ⟨rfl, DE.out.hb.trans (E3.out.mono DE.out.hb.size)⟩
  · have t1 : ¬ (N : Int) < 0 := by omega
    have t2 : (N : Int) ≤ (L.length : Int) := by omega
    have t4 : (N : Int) ≤ (q7 : Int) := by omega
    have t5 : N ≤ q7 := by omega
    have t3 : ¬ (L.length : Int) < (N : Int) := by omega
    have ET : Hid (L.take (N : Int).toNat = L.take N) := Lib.hid rfl
    have gd : decide (N < L.length) = mb := by
      rw [HMB.out]
      by_cases h : N < L.length
      · rw [decide_eq_true h]; symm; rw [decide_eq_true_eq]; omega
      · rw [decide_eq_false h]; symm; rw [decide_eq_false_iff_not]; omega
    as_aux_lemma =>
      have B0 := Lib.hid (show Below wA.heap.size wA wA.drew from Below.drewsN (Below.refl _ _) 1)
      have X1 := Lib.hid (fun W (h : Below wA.heap.size wA W) => samechg_any (.slice a7 L.length q7) u9 L W (RdF.below RA.out.1 h (Nat.le_refl _)) (RdF.below RA.out.2.1 h (Nat.le_refl _)))
      have X2 := Lib.hid (fun W (h : Below wA.heap.size wA W) => changes_any vS (L.take N) W (by have := RdF.below RA.out.2.2 h (Nat.le_refl _); rw [ET.out] at this; exact this) (by rw [List.length_take]; omega))
      have X3 := Lib.hid (fun W u (h : Below wA.heap.size wA W) (hu : RdC W u (L.take N)) => samechg_any u (.slice a7 N q7) (L.take N) W hu (by have := RdF.take (RdF.below RA.out.1 h (Nat.le_refl _)) N (by rw [List.length_map]; omega); rw [← List.map_take] at this; exact this))
      have X4 := Lib.hid (fun W (h : Below wA.heap.size wA W) => by
        have := countSS_any (.pointer (some ⟨b1, 0, none⟩)) (.pointer (some ⟨b2, 0, none⟩)) ta tb W (.inl ⟨b1, rfl, (DA.out.t1.below h).mp⟩) (.inl ⟨b2, rfl, (DA.out.t2.below h).mp⟩) DA.out.t1.ws DA.out.t2.ws (by have := DA.out.t1.len; omega) (by have := DA.out.t2.len; omega)
        rw [HLL.out, List.length_map] at this
        exact this)
      go_wp2_with fail
      refine wp_region_any (by kernel_rfl) ?_
      change wpAny _ _ _ _ _ _ _ (World.drew _)
      refine wpAny_take (i := 0) (v := ?v26) rfl (by kernel_rfl) (by kernel_rfl) (by kernel_rfl) (fun _ _ _ h => h) (Or.inl ⟨by rfl, ?hy26⟩) ?_
      case hy26 => (intro w; go_simp; try with_reducible rfl)
      go_simp
      refine wpAny_take (i := 1) (v := ?v27) rfl (by kernel_rfl) (by kernel_rfl) (by kernel_rfl) (fun _ _ _ h => h) (Or.inl ⟨by rfl, ?hy27⟩) ?_
      case hy27 => (intro w; go_simp; try with_reducible rfl)
      go_simp
      refine wpAny_ready (rs := [2]) (by kernel_rfl) (by simp) (AllReady.cons rfl (fun K hK => ?_) AllReady.nil)
      go_simp
      refine (X1.out _ B0.out).mono ?_
      rintro e wB ⟨rfl, hbB⟩
      have B1 := Lib.hid (B0.out.trans (hbB.mono B0.out.size))
      clear hbB
      refine hK _ _ ?_
      clear hK K
      refine wpAny_take (i := 3) (v := ?v28) rfl (by kernel_rfl) (by kernel_rfl) (by kernel_rfl) (fun _ _ _ h => h) (Or.inl ⟨by rfl, ?hy28⟩) ?_
      case hy28 => (intro w; go_simp; try with_reducible rfl)
      go_simp
      refine wpAny_take (i := 4) (v := ?v29) rfl (by kernel_rfl) (by kernel_rfl) (by kernel_rfl) (fun _ _ _ h => h) (Or.inl ⟨by rfl, ?hy29⟩) ?_
      case hy29 => (intro w; go_simp; try with_reducible rfl)
      go_simp
      refine wpAny_take (i := 5) (v := ?v30) rfl (by kernel_rfl) (by kernel_rfl) (by kernel_rfl) (fun _ _ _ h => h) (Or.inl ⟨by rfl, ?hy30⟩) ?_
      case hy30 => (intro w; go_simp; try with_reducible rfl)
      go_simp
      refine wpAny_take (i := 7) (v := ?v31) rfl (by kernel_rfl) (by kernel_rfl) (by kernel_rfl) (fun _ _ _ h => h) (Or.inl ⟨by rfl, ?hy31⟩) ?_
      case hy31 => (intro w; go_simp; try with_reducible rfl)
      go_simp
      refine wpAny_take (i := 8) (v := ?v32) rfl (by kernel_rfl) (by kernel_rfl) (by kernel_rfl) (fun _ _ _ h => h) (Or.inl ⟨by rfl, ?hy32⟩) ?_
      case hy32 => (intro w; go_simp; try with_reducible rfl)
      go_simp
      refine wpAny_take (i := 9) (v := ?v33) rfl (by kernel_rfl) (by kernel_rfl) (by kernel_rfl) (fun _ _ _ h => h) (Or.inl ⟨by rfl, ?hy33⟩) ?_
      case hy33 => (intro w; go_simp; try with_reducible rfl)
      go_simp
      refine wpAny_ready (rs := [6]) (by kernel_rfl) (by simp) (AllReady.cons rfl (fun K hK => ?_) AllReady.nil)
      go_simp
      refine (X2.out _ B1.out).mono ?_
      rintro e wC ⟨uC, rfl, hrC, hbC⟩
      have B2 := Lib.hid (B1.out.trans (hbC.mono B1.out.size))
      have RC := Lib.hid hrC
      clear hrC hbC
      refine hK _ _ ?_
      clear hK K
      refine wpAny_ready (rs := [10]) (by kernel_rfl) (by simp) (AllReady.cons rfl (fun K hK => ?_) AllReady.nil)
      go_simp
      refine (X3.out _ _ B2.out RC.out).mono ?_
      rintro e wD ⟨rfl, hbD⟩
      have B3 := Lib.hid (B2.out.trans (hbD.mono B2.out.size))
      clear hbD
      refine hK _ _ ?_
      clear hK K
      refine wpAny_take (i := 11) (v := ?v34) rfl (by kernel_rfl) (by kernel_rfl) (by kernel_rfl) (fun _ _ _ h => h) (Or.inl ⟨by rfl, ?hy34⟩) ?_
      case hy34 => (intro w; go_simp; try with_reducible rfl)
      go_simp
      refine wpAny_take (i := 12) (v := ?v35) rfl (by kernel_rfl) (by kernel_rfl) (by kernel_rfl) (fun _ _ _ h => h) (Or.inl ⟨by rfl, ?hy35⟩) ?_
      case hy35 => (intro w; go_simp; try with_reducible rfl)
      go_simp
      refine wpAny_take (i := 13) (v := ?v36) rfl (by kernel_rfl) (by kernel_rfl) (by kernel_rfl) (fun _ _ _ h => h) (Or.inl ⟨by rfl, ?hy36⟩) ?_
      case hy36 => (intro w; go_simp; try with_reducible rfl)
      go_simp
      refine wpAny_take (i := 14) (v := ?v37) rfl (by kernel_rfl) (by kernel_rfl) (by kernel_rfl) (fun _ _ _ h => h) (Or.inl ⟨by rfl, ?hy37⟩) ?_
      case hy37 => (intro w; go_simp; try with_reducible rfl)
      go_simp
      refine wpAny_take (i := 15) (v := ?v38) rfl (by kernel_rfl) (by kernel_rfl) (by kernel_rfl) (fun _ _ _ h => h) (Or.inl ⟨by rfl, ?hy38⟩) ?_
      case hy38 => (intro w; go_simp; try with_reducible rfl)
      go_simp
      refine wpAny_take (i := 16) (v := ?v39) rfl (by kernel_rfl) (by kernel_rfl) (by kernel_rfl) (fun _ _ _ h => h) (Or.inl ⟨by rfl, ?hy39⟩) ?_
      case hy39 => (intro w; go_simp; try with_reducible rfl)
      go_simp
      refine wpAny_take (i := 17) (v := ?v40) rfl (by kernel_rfl) (by kernel_rfl) (by kernel_rfl) (fun _ _ _ h => h) (Or.inl ⟨by rfl, ?hy40⟩) ?_
      case hy40 => (intro w; go_simp; try with_reducible rfl)
      go_simp
      refine wpAny_take (i := 18) (v := ?v41) rfl (by kernel_rfl) (by kernel_rfl) (by kernel_rfl) (fun _ _ _ h => h) (Or.inl ⟨by rfl, ?hy41⟩) ?_
      case hy41 => (intro w; go_simp; try with_reducible rfl)
      go_simp
      refine wpAny_take (i := 19) (v := ?v42) rfl (by kernel_rfl) (by kernel_rfl) (by kernel_rfl) (fun _ _ _ h => h) (Or.inl ⟨by rfl, ?hy42⟩) ?_
      case hy42 => (intro w; go_simp; try with_reducible rfl)
      go_simp
      refine wpAny_take (i := 20) (v := ?v43) rfl (by kernel_rfl) (by kernel_rfl) (by kernel_rfl) (fun _ _ _ h => h) (Or.inl ⟨by rfl, ?hy43⟩) ?_
      case hy43 => (intro w; go_simp; try with_reducible rfl)
      go_simp
      refine wpAny_take (i := 21) (v := ?v44) rfl (by kernel_rfl) (by kernel_rfl) (by kernel_rfl) (fun _ _ _ h => h) (Or.inl ⟨by rfl, ?hy44⟩) ?_
      case hy44 => (intro w; go_simp; try with_reducible rfl)
      go_simp
      refine wpAny_take (i := 22) (v := ?v45) rfl (by kernel_rfl) (by kernel_rfl) (by kernel_rfl) (fun _ _ _ h => h) (Or.inl ⟨by rfl, ?hy45⟩) ?_
      case hy45 => (intro w; go_simp; try with_reducible rfl)
      go_simp
      refine wpAny_take (i := 23) (v := ?v46) rfl (by kernel_rfl) (by kernel_rfl) (by kernel_rfl) (fun _ _ _ h => h) (Or.inl ⟨by rfl, ?hy46⟩) ?_
      case hy46 => (intro w; go_simp; try with_reducible rfl)
      go_simp
      refine wpAny_take (i := 25) (v := ?v47) rfl (by kernel_rfl) (by kernel_rfl) (by kernel_rfl) (fun _ _ _ h => h) (Or.inl ⟨by rfl, ?hy47⟩) ?_
      case hy47 => (intro w; go_simp; try with_reducible rfl)
      go_simp
      refine wpAny_take (i := 26) (v := ?v48) rfl (by kernel_rfl) (by kernel_rfl) (by kernel_rfl) (fun _ _ _ h => h) (Or.inl ⟨by rfl, ?hy48⟩) ?_
      case hy48 => (intro w; go_simp; try with_reducible rfl)
      go_simp
      refine wpAny_ready (rs := [24]) (by kernel_rfl) (by simp) (AllReady.cons rfl (fun K hK => ?_) AllReady.nil)
      go_simp
      refine (X4.out _ B3.out).mono ?_
      rintro e wE ⟨rfl, hbE⟩
      have B4 := Lib.hid (B3.out.trans (hbE.mono B3.out.size))
      clear hbE
      refine hK _ _ ?_
      clear hK K
      refine wpAny_take (i := 27) (v := ?v49) rfl (by kernel_rfl) (by kernel_rfl) (by kernel_rfl) (fun _ _ _ h => h) (Or.inl ⟨by rfl, ?hy49⟩) ?_
      case hy49 => (intro w; go_simp; try with_reducible rfl)
      go_simp
      refine wpAny_take (i := 28) (v := ?v50) rfl (by kernel_rfl) (by kernel_rfl) (by kernel_rfl) (fun _ _ _ h => h) (Or.inl ⟨by rfl, ?hy50⟩) ?_
      case hy50 => (intro w; go_simp; try with_reducible rfl)
      go_simp
      refine wpAny_done (by kernel_rfl) ?_ _
      have DE := Lib.hid (DA.out.up B4.out)
      have R7 := Lib.hid (show RdC wE (.slice a7 L.length q7) L from RdF.below RA.out.1 B4.out (Nat.le_refl _))
      clear DA RA B0 B1 B2 B3 B4 RC X1 X2 X3 X4 ET HMB
      by_cases hL0 : L.length = 0
      · have tz : ((L.length : Int) == 0) = true := by rw [hL0]; rfl
        have he : prs ta = prs tb := chg_none DE.out.t1.ws DE.out.t2.ws DE.out.t1.rs DE.out.t2.rs (by rw [HLL.out, List.eq_nil_of_length_eq_zero hL0]; rfl)
        obtain ⟨lp, hlp⟩ := prs_plain DE.out.t1.ws
        have P1 := Lib.hid (fun W (h : Below wE.heap.size wE W) => pairs21_any (DE.out.t1.below h) (by omega) hlp)
        have P2 := Lib.hid (fun W (h : Below wE.heap.size wE W) => pairs21_any (DE.out.t2.below h) (by omega) (by rw [← he]; exact hlp))
        clear he hlp hL0
        go_wp2_with fail
        refine (d21first_any _).mono ?_
        rintro e wF ⟨rfl, hbF⟩
        have E1 := Lib.hid (show Below wE.heap.size wE wF from hbF)
        clear hbF
        go_wp2_with fail
        refine (P1.out _ E1.out).mono ?_
        rintro e wG ⟨v1, rfl, hr1, hbG⟩
        have E2 := Lib.hid (And.intro (E1.out.trans (hbG.mono E1.out.size)) hr1)
        clear hr1 hbG E1
        go_wp2_with fail
        refine (P2.out _ E2.out.1).mono ?_
        rintro e wH ⟨v2, rfl, hr2, hbH⟩
        have CS := Lib.hid (samepairs_any v1 v2 lp wH (RdF.below E2.out.2 hbH (Nat.le_refl _)) hr2)
        have E3 := Lib.hid (E2.out.1.trans (hbH.mono E2.out.1.size))
        clear hr2 hbH E2
        go_wp2_with fail
        refine CS.out.mono ?_
        rintro e wI ⟨rfl, hbI⟩
        go_wp2_with fail
        go_ret
        exact ⟨rfl, DE.out.hb.trans ((E3.out.trans (hbI.mono E3.out.size)).mono DE.out.hb.size)⟩
      · obtain ⟨m, hm⟩ : ∃ m, L.length = m + 1 := ⟨L.length - 1, by omega⟩
        have tz : ((L.length : Int) == 0) = false := by rw [beq_eq_false_iff_ne]; omega
        have tm : (L.length : Int) - 1 = (m : Int) := by omega
        have gm : (m : Int) < (L.length : Int) := by omega
        have gm0 : (0 : Int) ≤ (m : Int) := by omega
        have hml : m < L.length := by omega
        obtain ⟨z, hz⟩ : ∃ z, z = L[m] := ⟨_, rfl⟩
        have eL : L = L.take m ++ [z] := by rw [hz, ← List.take_succ_eq_append_getElem hml, List.take_of_length_le (by omega)]
        have hr : RisC (L.take m ++ [z]) := by rw [← eL]; exact chgL_ris DE.out.t1.ws DE.out.t2.ws DE.out.t1.rs DE.out.t2.rs HLL.out
        have HKEY := Lib.hid (show ∀ c ∈ L, gtB c.1 z.1 = false from fun c hc => gt_last hr c (by rw [← eL]; exact hc))
        obtain ⟨bL, oL, rfl, -⟩ := R7.out.get hml
        have HC0 := Lib.hid (fun W (h : Below wE.heap.size wE W) => by
          obtain ⟨bL', oL', e, k0, _⟩ := RdC.get (RdF.below R7.out h (Nat.le_refl _) : RdC W _ L) hml
          cases e
          rw [← hz] at k0
          exact k0)
        have HM := Lib.hid hml
        clear hL0 hm eL hr hz hml
        go_wp2_with fail
        refine (d21first_any _).mono ?_
        rintro e wF ⟨rfl, hbF⟩
        have k0 := HC0.out _ hbF
        have E1 := Lib.hid (show Below wE.heap.size wE wF from hbF)
        clear hbF
        go_wp2_with fail
        refine (after_any _ _ _ _).mono ?_
        rintro e wG ⟨rfl, hwG⟩
        have CR := Lib.hid (ranged_after DE.out.p DE.out.ca DE.out.cb HLL.out HKEY.out (DE.out.ho.trans (E1.out.mono DE.out.ho.size)) hwG)
        have E2 : Hid (Below wE.heap.size wE wG) := Lib.hid (by
          rw [hwG]
          have h1 := E1.out.alloc E1.out.size (.cells #[.func (.func 33) #[] #[.pointer (some ⟨ba, 0, none⟩), .pointer (some ⟨bb, 0, none⟩)]] 33)
          exact h1.alloc h1.size _)
        clear hwG k0 E1
        go_wp2_with fail
        refine CR.out.mono ?_
        intro e wH h9
        obtain ⟨v9, rfl, hr9, hbH⟩ := rangedP_rd h9
        obtain ⟨a9, q9, rfl, _⟩ := hr9.form
        have E3 := Lib.hid (E2.out.trans (hbH.mono E2.out.size))
        clear h9 hr9 hbH CR E2
        go_wp2_with fail
        go_ret
        exact ⟨rfl, DE.out.hb.trans (E3.out.mono DE.out.hb.size)⟩
  · have t1 : ¬ (N : Int) < 0 := by omega
    have t3 : (L.length : Int) < (N : Int) := by omega
    have ET : Hid (L.take (N : Int).toNat = L.take L.length) := Lib.hid (by rw [List.take_length]; exact List.take_of_length_le (by omega))
    obtain rfl : mb = false := by rw [HMB.out]; simp; omega
    as_aux_lemma =>
      have B0 := Lib.hid (show Below wA.heap.size wA wA.drew from Below.drewsN (Below.refl _ _) 1)
      have X1 := Lib.hid (fun W (h : Below wA.heap.size wA W) => samechg_any (.slice a7 L.length q7) u9 L W (RdF.below RA.out.1 h (Nat.le_refl _)) (RdF.below RA.out.2.1 h (Nat.le_refl _)))
      have X2 := Lib.hid (fun W (h : Below wA.heap.size wA W) => changes_any vS (L.take L.length) W (by have := RdF.below RA.out.2.2 h (Nat.le_refl _); rw [ET.out] at this; exact this) (by rw [List.length_take]; omega))
      have X3 := Lib.hid (fun W u (h : Below wA.heap.size wA W) (hu : RdC W u (L.take L.length)) => samechg_any u (.slice a7 L.length q7) (L.take L.length) W hu (by have := RdF.take (RdF.below RA.out.1 h (Nat.le_refl _)) L.length (by rw [List.length_map]; omega); rw [← List.map_take] at this; exact this))
      have X4 := Lib.hid (fun W (h : Below wA.heap.size wA W) => by
        have := countSS_any (.pointer (some ⟨b1, 0, none⟩)) (.pointer (some ⟨b2, 0, none⟩)) ta tb W (.inl ⟨b1, rfl, (DA.out.t1.below h).mp⟩) (.inl ⟨b2, rfl, (DA.out.t2.below h).mp⟩) DA.out.t1.ws DA.out.t2.ws (by have := DA.out.t1.len; omega) (by have := DA.out.t2.len; omega)
        rw [HLL.out, List.length_map] at this
        exact this)
      go_wp2_with fail
      refine wp_region_any (by kernel_rfl) ?_
      change wpAny _ _ _ _ _ _ _ (World.drew _)
      refine wpAny_take (i := 0) (v := ?v51) rfl (by kernel_rfl) (by kernel_rfl) (by kernel_rfl) (fun _ _ _ h => h) (Or.inl ⟨by rfl, ?hy51⟩) ?_
      case hy51 => (intro w; go_simp; try with_reducible rfl)
      go_simp
      refine wpAny_take (i := 1) (v := ?v52) rfl (by kernel_rfl) (by kernel_rfl) (by kernel_rfl) (fun _ _ _ h => h) (Or.inl ⟨by rfl, ?hy52⟩) ?_
      case hy52 => (intro w; go_simp; try with_reducible rfl)
      go_simp
      refine wpAny_ready (rs := [2]) (by kernel_rfl) (by simp) (AllReady.cons rfl (fun K hK => ?_) AllReady.nil)
      go_simp
      refine (X1.out _ B0.out).mono ?_
      rintro e wB ⟨rfl, hbB⟩
      have B1 := Lib.hid (B0.out.trans (hbB.mono B0.out.size))
      clear hbB
      refine hK _ _ ?_
      clear hK K
      refine wpAny_take (i := 3) (v := ?v53) rfl (by kernel_rfl) (by kernel_rfl) (by kernel_rfl) (fun _ _ _ h => h) (Or.inl ⟨by rfl, ?hy53⟩) ?_
      case hy53 => (intro w; go_simp; try with_reducible rfl)
      go_simp
      refine wpAny_take (i := 4) (v := ?v54) rfl (by kernel_rfl) (by kernel_rfl) (by kernel_rfl) (fun _ _ _ h => h) (Or.inl ⟨by rfl, ?hy54⟩) ?_
      case hy54 => (intro w; go_simp; try with_reducible rfl)
      go_simp
      refine wpAny_take (i := 5) (v := ?v55) rfl (by kernel_rfl) (by kernel_rfl) (by kernel_rfl) (fun _ _ _ h => h) (Or.inl ⟨by rfl, ?hy55⟩) ?_
      case hy55 => (intro w; go_simp; try with_reducible rfl)
      go_simp
      refine wpAny_take (i := 7) (v := ?v56) rfl (by kernel_rfl) (by kernel_rfl) (by kernel_rfl) (fun _ _ _ h => h) (Or.inl ⟨by rfl, ?hy56⟩) ?_
      case hy56 => (intro w; go_simp; try with_reducible rfl)
      go_simp
      refine wpAny_take (i := 8) (v := ?v57) rfl (by kernel_rfl) (by kernel_rfl) (by kernel_rfl) (fun _ _ _ h => h) (Or.inl ⟨by rfl, ?hy57⟩) ?_
      case hy57 => (intro w; go_simp; try with_reducible rfl)
      go_simp
      refine wpAny_take (i := 9) (v := ?v58) rfl (by kernel_rfl) (by kernel_rfl) (by kernel_rfl) (fun _ _ _ h => h) (Or.inl ⟨by rfl, ?hy58⟩) ?_
      case hy58 => (intro w; go_simp; try with_reducible rfl)
      go_simp
      refine wpAny_ready (rs := [6]) (by kernel_rfl) (by simp) (AllReady.cons rfl (fun K hK => ?_) AllReady.nil)
      go_simp
      refine (X2.out _ B1.out).mono ?_
      rintro e wC ⟨uC, rfl, hrC, hbC⟩
      have B2 := Lib.hid (B1.out.trans (hbC.mono B1.out.size))
      have RC := Lib.hid hrC
      clear hrC hbC
      refine hK _ _ ?_
      clear hK K
      refine wpAny_ready (rs := [10]) (by kernel_rfl) (by simp) (AllReady.cons rfl (fun K hK => ?_) AllReady.nil)
      go_simp
      refine (X3.out _ _ B2.out RC.out).mono ?_
      rintro e wD ⟨rfl, hbD⟩
      have B3 := Lib.hid (B2.out.trans (hbD.mono B2.out.size))
      clear hbD
      refine hK _ _ ?_
      clear hK K
      refine wpAny_take (i := 11) (v := ?v59) rfl (by kernel_rfl) (by kernel_rfl) (by kernel_rfl) (fun _ _ _ h => h) (Or.inl ⟨by rfl, ?hy59⟩) ?_
      case hy59 => (intro w; go_simp; try with_reducible rfl)
      go_simp
      refine wpAny_take (i := 12) (v := ?v60) rfl (by kernel_rfl) (by kernel_rfl) (by kernel_rfl) (fun _ _ _ h => h) (Or.inl ⟨by rfl, ?hy60⟩) ?_
      case hy60 => (intro w; go_simp; try with_reducible rfl)
      go_simp
      refine wpAny_take (i := 13) (v := ?v61) rfl (by kernel_rfl) (by kernel_rfl) (by kernel_rfl) (fun _ _ _ h => h) (Or.inl ⟨by rfl, ?hy61⟩) ?_
      case hy61 => (intro w; go_simp; try with_reducible rfl)
      go_simp
      refine wpAny_take (i := 14) (v := ?v62) rfl (by kernel_rfl) (by kernel_rfl) (by kernel_rfl) (fun _ _ _ h => h) (Or.inl ⟨by rfl, ?hy62⟩) ?_
      case hy62 => (intro w; go_simp; try with_reducible rfl)
      go_simp
      refine wpAny_take (i := 15) (v := ?v63) rfl (by kernel_rfl) (by kernel_rfl) (by kernel_rfl) (fun _ _ _ h => h) (Or.inl ⟨by rfl, ?hy63⟩) ?_
      case hy63 => (intro w; go_simp; try with_reducible rfl)
      go_simp
      refine wpAny_take (i := 16) (v := ?v64) rfl (by kernel_rfl) (by kernel_rfl) (by kernel_rfl) (fun _ _ _ h => h) (Or.inl ⟨by rfl, ?hy64⟩) ?_
      case hy64 => (intro w; go_simp; try with_reducible rfl)
      go_simp
      refine wpAny_take (i := 17) (v := ?v65) rfl (by kernel_rfl) (by kernel_rfl) (by kernel_rfl) (fun _ _ _ h => h) (Or.inl ⟨by rfl, ?hy65⟩) ?_
      case hy65 => (intro w; go_simp; try with_reducible rfl)
      go_simp
      refine wpAny_take (i := 18) (v := ?v66) rfl (by kernel_rfl) (by kernel_rfl) (by kernel_rfl) (fun _ _ _ h => h) (Or.inl ⟨by rfl, ?hy66⟩) ?_
      case hy66 => (intro w; go_simp; try with_reducible rfl)
      go_simp
      refine wpAny_take (i := 19) (v := ?v67) rfl (by kernel_rfl) (by kernel_rfl) (by kernel_rfl) (fun _ _ _ h => h) (Or.inl ⟨by rfl, ?hy67⟩) ?_
      case hy67 => (intro w; go_simp; try with_reducible rfl)
      go_simp
      refine wpAny_take (i := 20) (v := ?v68) rfl (by kernel_rfl) (by kernel_rfl) (by kernel_rfl) (fun _ _ _ h => h) (Or.inl ⟨by rfl, ?hy68⟩) ?_
      case hy68 => (intro w; go_simp; try with_reducible rfl)
      go_simp
      refine wpAny_take (i := 21) (v := ?v69) rfl (by kernel_rfl) (by kernel_rfl) (by kernel_rfl) (fun _ _ _ h => h) (Or.inl ⟨by rfl, ?hy69⟩) ?_
      case hy69 => (intro w; go_simp; try with_reducible rfl)
      go_simp
      refine wpAny_take (i := 22) (v := ?v70) rfl (by kernel_rfl) (by kernel_rfl) (by kernel_rfl) (fun _ _ _ h => h) (Or.inl ⟨by rfl, ?hy70⟩) ?_
      case hy70 => (intro w; go_simp; try with_reducible rfl)
      go_simp
      refine wpAny_take (i := 23) (v := ?v71) rfl (by kernel_rfl) (by kernel_rfl) (by kernel_rfl) (fun _ _ _ h => h) (Or.inl ⟨by rfl, ?hy71⟩) ?_
      case hy71 => (intro w; go_simp; try with_reducible rfl)
      go_simp
      refine wpAny_take (i := 25) (v := ?v72) rfl (by kernel_rfl) (by kernel_rfl) (by kernel_rfl) (fun _ _ _ h => h) (Or.inl ⟨by rfl, ?hy72⟩) ?_
      case hy72 => (intro w; go_simp; try with_reducible rfl)
      go_simp
      refine wpAny_take (i := 26) (v := ?v73) rfl (by kernel_rfl) (by kernel_rfl) (by kernel_rfl) (fun _ _ _ h => h) (Or.inl ⟨by rfl, ?hy73⟩) ?_
      case hy73 => (intro w; go_simp; try with_reducible rfl)
      go_simp
      refine wpAny_ready (rs := [24]) (by kernel_rfl) (by simp) (AllReady.cons rfl (fun K hK => ?_) AllReady.nil)
      go_simp
      refine (X4.out _ B3.out).mono ?_
      rintro e wE ⟨rfl, hbE⟩
      have B4 := Lib.hid (B3.out.trans (hbE.mono B3.out.size))
      clear hbE
      refine hK _ _ ?_
      clear hK K
      refine wpAny_take (i := 27) (v := ?v74) rfl (by kernel_rfl) (by kernel_rfl) (by kernel_rfl) (fun _ _ _ h => h) (Or.inl ⟨by rfl, ?hy74⟩) ?_
      case hy74 => (intro w; go_simp; try with_reducible rfl)
      go_simp
      refine wpAny_take (i := 28) (v := ?v75) rfl (by kernel_rfl) (by kernel_rfl) (by kernel_rfl) (fun _ _ _ h => h) (Or.inl ⟨by rfl, ?hy75⟩) ?_
      case hy75 => (intro w; go_simp; try with_reducible rfl)
      go_simp
      refine wpAny_done (by kernel_rfl) ?_ _
      have DE := Lib.hid (DA.out.up B4.out)
      have R7 := Lib.hid (show RdC wE (.slice a7 L.length q7) L from RdF.below RA.out.1 B4.out (Nat.le_refl _))
      clear DA RA B0 B1 B2 B3 B4 RC X1 X2 X3 X4 ET HMB
      by_cases hL0 : L.length = 0
      · have tz : ((L.length : Int) == 0) = true := by rw [hL0]; rfl
        have he : prs ta = prs tb := chg_none DE.out.t1.ws DE.out.t2.ws DE.out.t1.rs DE.out.t2.rs (by rw [HLL.out, List.eq_nil_of_length_eq_zero hL0]; rfl)
        obtain ⟨lp, hlp⟩ := prs_plain DE.out.t1.ws
        have P1 := Lib.hid (fun W (h : Below wE.heap.size wE W) => pairs21_any (DE.out.t1.below h) (by omega) hlp)
        have P2 := Lib.hid (fun W (h : Below wE.heap.size wE W) => pairs21_any (DE.out.t2.below h) (by omega) (by rw [← he]; exact hlp))
        clear he hlp hL0
        go_wp2_with fail
        refine (d21first_any _).mono ?_
        rintro e wF ⟨rfl, hbF⟩
        have E1 := Lib.hid (show Below wE.heap.size wE wF from hbF)
        clear hbF
        go_wp2_with fail
        refine (P1.out _ E1.out).mono ?_
        rintro e wG ⟨v1, rfl, hr1, hbG⟩
        have E2 := Lib.hid (And.intro (E1.out.trans (hbG.mono E1.out.size)) hr1)
        clear hr1 hbG E1
        go_wp2_with fail
        refine (P2.out _ E2.out.1).mono ?_
        rintro e wH ⟨v2, rfl, hr2, hbH⟩
        have CS := Lib.hid (samepairs_any v1 v2 lp wH (RdF.below E2.out.2 hbH (Nat.le_refl _)) hr2)
        have E3 := Lib.hid (E2.out.1.trans (hbH.mono E2.out.1.size))
        clear hr2 hbH E2
        go_wp2_with fail
        refine CS.out.mono ?_
        rintro e wI ⟨rfl, hbI⟩
        go_wp2_with fail
        go_ret
        exact ⟨rfl, DE.out.hb.trans ((E3.out.trans (hbI.mono E3.out.size)).mono DE.out.hb.size)⟩
      · obtain ⟨m, hm⟩ : ∃ m, L.length = m + 1 := ⟨L.length - 1, by omega⟩
        have tz : ((L.length : Int) == 0) = false := by rw [beq_eq_false_iff_ne]; omega
        have tm : (L.length : Int) - 1 = (m : Int) := by omega
        have gm : (m : Int) < (L.length : Int) := by omega
        have gm0 : (0 : Int) ≤ (m : Int) := by omega
        have hml : m < L.length := by omega
        obtain ⟨z, hz⟩ : ∃ z, z = L[m] := ⟨_, rfl⟩
        have eL : L = L.take m ++ [z] := by rw [hz, ← List.take_succ_eq_append_getElem hml, List.take_of_length_le (by omega)]
        have hr : RisC (L.take m ++ [z]) := by rw [← eL]; exact chgL_ris DE.out.t1.ws DE.out.t2.ws DE.out.t1.rs DE.out.t2.rs HLL.out
        have HKEY := Lib.hid (show ∀ c ∈ L, gtB c.1 z.1 = false from fun c hc => gt_last hr c (by rw [← eL]; exact hc))
        obtain ⟨bL, oL, rfl, -⟩ := R7.out.get hml
        have HC0 := Lib.hid (fun W (h : Below wE.heap.size wE W) => by
          obtain ⟨bL', oL', e, k0, _⟩ := RdC.get (RdF.below R7.out h (Nat.le_refl _) : RdC W _ L) hml
          cases e
          rw [← hz] at k0
          exact k0)
        have HM := Lib.hid hml
        clear hL0 hm eL hr hz hml
        go_wp2_with fail
        refine (d21first_any _).mono ?_
        rintro e wF ⟨rfl, hbF⟩
        have k0 := HC0.out _ hbF
        have E1 := Lib.hid (show Below wE.heap.size wE wF from hbF)
        clear hbF
        go_wp2_with fail
        refine (after_any _ _ _ _).mono ?_
        rintro e wG ⟨rfl, hwG⟩
        have CR := Lib.hid (ranged_after DE.out.p DE.out.ca DE.out.cb HLL.out HKEY.out (DE.out.ho.trans (E1.out.mono DE.out.ho.size)) hwG)
        have E2 : Hid (Below wE.heap.size wE wG) := Lib.hid (by
          rw [hwG]
          have h1 := E1.out.alloc E1.out.size (.cells #[.func (.func 33) #[] #[.pointer (some ⟨ba, 0, none⟩), .pointer (some ⟨bb, 0, none⟩)]] 33)
          exact h1.alloc h1.size _)
        clear hwG k0 E1
        go_wp2_with fail
        refine CR.out.mono ?_
        intro e wH h9
        obtain ⟨v9, rfl, hr9, hbH⟩ := rangedP_rd h9
        obtain ⟨a9, q9, rfl, _⟩ := hr9.form
        have E3 := Lib.hid (E2.out.trans (hbH.mono E2.out.size))
        clear h9 hr9 hbH CR E2
        go_wp2_with fail
        go_ret
        exact ⟨rfl, DE.out.hb.trans (E3.out.mono DE.out.hb.size)⟩
end Go.Proofs.Yteibiaplmmdppaa
