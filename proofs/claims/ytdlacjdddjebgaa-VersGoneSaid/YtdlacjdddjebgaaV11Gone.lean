/- VersGone: the walk. -/
import Derived.Test.YtdlacjdddjebgaaV11GoneM
namespace Go.Proofs.Ytdlacjdddjebgaa
open Go.RowKit

set_option maxRecDepth 100000 in
set_option maxHeartbeats 4000000 in
theorem gone_walk (a b c : Int) (key v z : List UInt8) (w : World) :
    Calls Try.prog 7 #[.int .i64 a, .int .i64 b, .int .i64 c, str key, str v, str z] w fun e w' => e = .returned (.bool true) ∧ Below w.heap.size w w' := by
  have CF := Lib.hid v11first_any
  have CN := Lib.hid (fun W => newVS_one W key)
  go_enter Try.func7, Try.ntmps7
  go_wp2_with fail
  refine (CF.out _).mono ?_
  rintro e w1 ⟨rfl, hb1⟩
  have H1 := Lib.hid hb1
  clear hb1
  go_wp2_with fail
  refine (CN.out _).mono ?_
  rintro e w2 ⟨s, mb, rfl, h2⟩
  have H2 := Lib.hid h2
  have HB2 : Hid (Below w.heap.size w w2) := Lib.hid (by obtain ⟨_, _, _, _, hb⟩ := h2; exact H1.out.trans (hb.mono H1.out.size))
  clear h2 CN
  by_cases h0 : a < 1
  · as_aux_lemma =>
    have g0 : decide ((a : Int) < 1) = true := decide_eq_true (by omega)
    go_wp2_with fail
    refine (CF.out _).mono ?_
    rintro e w3 ⟨rfl, hb3⟩
    have HX := Lib.hid (HB2.out.trans (hb3.mono HB2.out.size))
    clear hb3
    go_wp2_with fail
    go_ret
    exact ⟨rfl, HX.out⟩
  have g0 : decide ((a : Int) < 1) = false := decide_eq_false (by omega)
  by_cases h1 : 1073741824 < a
  · as_aux_lemma =>
    have g1 : decide ((1073741824 : Int) < a) = true := decide_eq_true (by omega)
    go_wp2_with fail
    refine (CF.out _).mono ?_
    rintro e w3 ⟨rfl, hb3⟩
    have HX := Lib.hid (HB2.out.trans (hb3.mono HB2.out.size))
    clear hb3
    go_wp2_with fail
    go_ret
    exact ⟨rfl, HX.out⟩
  have g1 : decide ((1073741824 : Int) < a) = false := decide_eq_false (by omega)
  by_cases h2 : b < 1
  · as_aux_lemma =>
    have g2 : decide (b < 1) = true := decide_eq_true (by omega)
    go_wp2_with fail
    refine (CF.out _).mono ?_
    rintro e w3 ⟨rfl, hb3⟩
    have HX := Lib.hid (HB2.out.trans (hb3.mono HB2.out.size))
    clear hb3
    go_wp2_with fail
    go_ret
    exact ⟨rfl, HX.out⟩
  have g2 : decide (b < 1) = false := decide_eq_false (by omega)
  by_cases h3 : 1073741824 < b
  · as_aux_lemma =>
    have g3 : decide ((1073741824 : Int) < b) = true := decide_eq_true (by omega)
    go_wp2_with fail
    refine (CF.out _).mono ?_
    rintro e w3 ⟨rfl, hb3⟩
    have HX := Lib.hid (HB2.out.trans (hb3.mono HB2.out.size))
    clear hb3
    go_wp2_with fail
    go_ret
    exact ⟨rfl, HX.out⟩
  have g3 : decide ((1073741824 : Int) < b) = false := decide_eq_false (by omega)
  by_cases h4 : c < 1
  · as_aux_lemma =>
    have g4 : decide (c < 1) = true := decide_eq_true (by omega)
    go_wp2_with fail
    refine (CF.out _).mono ?_
    rintro e w3 ⟨rfl, hb3⟩
    have HX := Lib.hid (HB2.out.trans (hb3.mono HB2.out.size))
    clear hb3
    go_wp2_with fail
    go_ret
    exact ⟨rfl, HX.out⟩
  have g4 : decide (c < 1) = false := decide_eq_false (by omega)
  by_cases h5 : 1073741824 < c
  · as_aux_lemma =>
    have g5 : decide ((1073741824 : Int) < c) = true := decide_eq_true (by omega)
    go_wp2_with fail
    refine (CF.out _).mono ?_
    rintro e w3 ⟨rfl, hb3⟩
    have HX := Lib.hid (HB2.out.trans (hb3.mono HB2.out.size))
    clear hb3
    go_wp2_with fail
    go_ret
    exact ⟨rfl, HX.out⟩
  have g5 : decide ((1073741824 : Int) < c) = false := decide_eq_false (by omega)
  by_cases h6 : 1000 < key.length
  · as_aux_lemma =>
    have g6 : decide ((1000 : Int) < (key.length : Int)) = true := decide_eq_true (by omega)
    go_wp2_with fail
    refine (CF.out _).mono ?_
    rintro e w3 ⟨rfl, hb3⟩
    have HX := Lib.hid (HB2.out.trans (hb3.mono HB2.out.size))
    clear hb3
    go_wp2_with fail
    go_ret
    exact ⟨rfl, HX.out⟩
  have g6 : decide ((1000 : Int) < (key.length : Int)) = false := decide_eq_false (by omega)
  by_cases h7 : 1000 < v.length
  · as_aux_lemma =>
    have g7 : decide ((1000 : Int) < (v.length : Int)) = true := decide_eq_true (by omega)
    go_wp2_with fail
    refine (CF.out _).mono ?_
    rintro e w3 ⟨rfl, hb3⟩
    have HX := Lib.hid (HB2.out.trans (hb3.mono HB2.out.size))
    clear hb3
    go_wp2_with fail
    go_ret
    exact ⟨rfl, HX.out⟩
  have g7 : decide ((1000 : Int) < (v.length : Int)) = false := decide_eq_false (by omega)
  by_cases h8 : 1000 < z.length
  · as_aux_lemma =>
    have g8 : decide ((1000 : Int) < (z.length : Int)) = true := decide_eq_true (by omega)
    go_wp2_with fail
    refine (CF.out _).mono ?_
    rintro e w3 ⟨rfl, hb3⟩
    have HX := Lib.hid (HB2.out.trans (hb3.mono HB2.out.size))
    clear hb3
    go_wp2_with fail
    go_ret
    exact ⟨rfl, HX.out⟩
  have g8 : decide ((1000 : Int) < (z.length : Int)) = false := decide_eq_false (by omega)
  have e1 : addCVS [] 0 (a, v, false) = 0 := by unfold addCVS lastTVS; simp; omega
  have e2 : addCVS ([] ++ [(a, v, false)]) 0 (a + b, [], true) = 0 := by unfold addCVS; rw [lastTVS_snoc]; simp; omega
  have e3 : addCVS ([] ++ [(a, v, false)] ++ [(a + b, [], true)]) 0 (a + b + c, z, false) = 0 := by unfold addCVS; rw [lastTVS_snoc]; simp; omega
  have e4 : addCVS (gone3 a (a + b) (a + b + c) v z) 0 (a + b + c, z, false) = 12 := by unfold addCVS; rw [lastTVS_snoc]; simp; omega
  have e5 : addCVS (gone3 a (a + b) (a + b + c) v z) 0 (a, [], true) = 12 := by unfold addCVS; rw [lastTVS_snoc]; simp; omega
  have s1 : seenVS (gone3 a (a + b) (a + b + c) v z) (a + b - 1) = some v := by
    unfold seenVS; rw [gone_up a (a + b) (a + b + c) (a + b - 1) v z 1 (by omega) (by omega) (by omega) (by omega) (by omega) (by omega) (by omega) (by omega) (by omega)]; rfl
  have s2 : seenVS (gone3 a (a + b) (a + b + c) v z) (a + b + c - 1) = none := by
    unfold seenVS; rw [gone_up a (a + b) (a + b + c) (a + b + c - 1) v z 2 (by omega) (by omega) (by omega) (by omega) (by omega) (by omega) (by omega) (by omega) (by omega)]; rfl
  have s3 : seenVS (gone3 a (a + b) (a + b + c) v z) (a + b + c) = some z := by
    unfold seenVS; rw [gone_up a (a + b) (a + b + c) (a + b + c) v z 3 (by omega) (by omega) (by omega) (by omega) (by omega) (by omega) (by omega) (by omega) (by omega)]; rfl
  have s4 : seenVS (gone3 a (a + b) (a + b + c) v z) (a - 1) = none := by
    unfold seenVS; rw [gone_up a (a + b) (a + b + c) (a - 1) v z 0 (by omega) (by omega) (by omega) (by omega) (by omega) (by omega) (by omega) (by omega) (by omega)]; rfl
  have s5 : seenVS (gone3 a (a + b) (a + b + c) v z) (a + b) = none := by
    unfold seenVS; rw [gone_up a (a + b) (a + b + c) (a + b) v z 2 (by omega) (by omega) (by omega) (by omega) (by omega) (by omega) (by omega) (by omega) (by omega)]; rfl
  have p1 : dropNVS (gone3 a (a + b) (a + b + c) v z) (a + b) = 2 := by
    unfold dropNVS; rw [gone_up a (a + b) (a + b + c) (a + b) v z 2 (by omega) (by omega) (by omega) (by omega) (by omega) (by omega) (by omega) (by omega) (by omega)]; rfl
  have p2 : dropNVS [(a + b + c, z, false)] (a + b + c) = 0 := by
    unfold dropNVS
    have : upN (timesVS [(a + b + c, z, false)]) (a + b + c) = 1 := upN_is (by simp [timesVS]) (fun p hp _ => by
      obtain rfl : p = 0 := by simpa [timesVS] using hp
      simp [timesVS]) (fun p hp hpn => by have : p < 1 := by simpa [timesVS] using hp
                                          omega)
    rw [this]; rfl
  have C1 := Lib.hid (putVS_one H2.out (by decide) (by decide) a v e1)
  have C2 := Lib.hid (fun W (h : StCVS w1 W s mb (oneVS key ([] ++ [(a, v, false)])) (0 + 1) 0 (0 + 1)) => killVS_one h (by decide) (by decide) (a + b) e2)
  have C3 := Lib.hid (fun W (h : StCVS w1 W s mb (oneVS key ([] ++ [(a, v, false)] ++ [(a + b, [], true)])) (0 + 1 + 1) 0 (0 + 1 + 1)) => putVS_one h (by decide) (by decide) (a + b + c) z e3)
  have C4 := Lib.hid (fun W (h : StCVS w1 W s mb (oneVS key (gone3 a (a + b) (a + b + c) v z)) (0 + 1 + 1 + 1) 0 (0 + 1 + 1 + 1)) => clashVS_one h (by decide) (by decide) (a + b + c) z 12 e4 (by decide))
  have C5 := Lib.hid (fun W (h : StCVS w1 W s mb (oneVS key (gone3 a (a + b) (a + b + c) v z)) (0 + 1 + 1 + 1) 0 (0 + 1 + 1 + 1)) => killVS_clash h (by decide) (by decide) a 12 e5 (by decide))
  have G1 := Lib.hid (fun W (h : StCVS w1 W s mb (oneVS key (gone3 a (a + b) (a + b + c) v z)) (0 + 1 + 1 + 1) 0 (0 + 1 + 1 + 1)) => getVS_one h (by decide) (a + b - 1) _ s1)
  have G2 := Lib.hid (fun W (h : StCVS w1 W s mb (oneVS key (gone3 a (a + b) (a + b + c) v z)) (0 + 1 + 1 + 1) 0 (0 + 1 + 1 + 1)) => getVS_one h (by decide) (a + b + c - 1) _ s2)
  have G3 := Lib.hid (fun W (h : StCVS w1 W s mb (oneVS key (gone3 a (a + b) (a + b + c) v z)) (0 + 1 + 1 + 1) 0 (0 + 1 + 1 + 1)) => getVS_one h (by decide) (a + b + c) _ s3)
  have G4 := Lib.hid (fun W (h : StCVS w1 W s mb (oneVS key (gone3 a (a + b) (a + b + c) v z)) (0 + 1 + 1 + 1) 0 (0 + 1 + 1 + 1)) => getVS_one h (by decide) (a - 1) _ s4)
  have CC := Lib.hid (fun W (h : StCVS w1 W s mb (oneVS key (gone3 a (a + b) (a + b + c) v z)) (0 + 1 + 1 + 1) 0 (0 + 1 + 1 + 1)) => countVS_one h)
  have CS := Lib.hid (fun W => scan_any W s [] [] (a + b))
  have CP : Hid (∀ W, StCVS w1 W s mb (oneVS key (gone3 a (a + b) (a + b + c) v z)) (0 + 1 + 1 + 1) 0 (0 + 1 + 1 + 1) → Calls Try.prog 30 #[.func (.func 52) #[] #[.pointer (some ⟨W.heap.size, 0, none⟩), .pointer (some ⟨W.heap.size + 1, 0, none⟩), .pointer (some ⟨W.heap.size + 2, 0, none⟩), .pointer (some ⟨W.heap.size + 3, 0, none⟩)], .int .i64 9] (scanW W s [] [] (a + b)) fun e W' => ∃ al cl, e = .returned (.slice al 0 cl) ∧ StCVS w1 W' s mb (oneVS key (gone3 a (a + b) (a + b + c) v z)) (0 + 1 + 1 + 1) 0 (0 + 1 + 1 + 1)) := Lib.hid (fun W h => by
    have hh := h
    obtain ⟨t, S, h1, h3, h4⟩ := h
    refine (scanned_any h1 (by decide) (a + b) 9 (by decide)).mono ?_
    rw [scan_none h3 s5]
    rintro e W' ⟨vo, rfl, ho, hb⟩
    have hbl := (scanW_box W s [] [] (a + b)).2
    have hst := hh.below (hbl.trans (hb.mono hbl.size))
    rcases Joins.ownsRow_forms ho with ⟨rfl, _⟩ | ⟨g, cap, rfl⟩
    · exact ⟨none, 0, rfl, hst⟩
    · exact ⟨_, _, rfl, hst⟩)
  have P1 := Lib.hid (fun W (h : StCVS w1 W s mb (oneVS key (gone3 a (a + b) (a + b + c) v z)) (0 + 1 + 1 + 1) 0 (0 + 1 + 1 + 1)) => pruneVS_one h (by decide) (by decide) (a + b) (by omega) (by omega))
  rw [p1] at P1
  have P2 := Lib.hid (fun W (h : StCVS w1 W s mb (oneVS key [(a + b + c, z, false)]) ((0 + 1 + 1 + 1) - ((2 : Nat) : Int)) (a + b) (0 + 1 + 1 + 1 + (0 + 1 + 1 + 1))) => pruneVS_one h (by decide) (by decide) (a + b + c) (by omega) (by omega))
  rw [p2] at P2
  have L1 := Lib.hid (fun W (h : StCVS w1 W s mb (oneVS key [(a + b + c, z, false)]) (((0 + 1 + 1 + 1) - ((2 : Nat) : Int)) - ((0 : Nat) : Int)) (a + b + c) (0 + 1 + 1 + 1 + (0 + 1 + 1 + 1) + (0 + 1 + 1 + 1 + (0 + 1 + 1 + 1)))) => And.intro (countVS_one h) (And.intro (lowVS_one h) (lastVS_one h (by decide))))
  have t1 : IntKind.i64.wrap (a + b) = a + b := IntWalk.i64_in _ (by omega)
  have t2 : IntKind.i64.wrap (a + b + c) = a + b + c := IntWalk.i64_in _ (by omega)
  have t3 : IntKind.i64.wrap (a + b - 1) = a + b - 1 := IntWalk.i64_in _ (by omega)
  have t4 : IntKind.i64.wrap (a + b + c - 1) = a + b + c - 1 := IntWalk.i64_in _ (by omega)
  have t5 : IntKind.i64.wrap (a - 1) = a - 1 := IntWalk.i64_in _ (by omega)
  have b1 : 1 ≤ a ∧ a ≤ 1073741824 := by omega
  have b2 : 1 ≤ b ∧ b ≤ 1073741824 := by omega
  have b3 : 1 ≤ c ∧ c ≤ 1073741824 := by omega
  clear e1 e2 e3 e4 e5 s1 s2 s3 s4 s5 p1 p2
  go_wp2_with fail
  refine C1.out.mono ?_
  rintro e w3 ⟨rfl, h3⟩
  have H3 := Lib.hid h3
  clear h3 C1 H2
  go_wp2_with fail
  refine (C2.out _ H3.out).mono ?_
  rintro e w4 ⟨rfl, h4⟩
  have H4 := Lib.hid h4
  clear h4 C2 H3
  go_wp2_with fail
  refine (C3.out _ H4.out).mono ?_
  rintro e w5 ⟨rfl, h5⟩
  have H5 := Lib.hid h5
  clear h5 C3 H4
  go_wp2_with fail
  refine (C4.out _ H5.out).mono ?_
  rintro e w6 ⟨rfl, h6⟩
  have H6 := Lib.hid h6
  clear h6 C4 H5
  go_wp2_with fail
  refine (C5.out _ H6.out).mono ?_
  rintro e w7 ⟨rfl, h7⟩
  have H7 := Lib.hid h7
  clear h7 C5 H6
  go_wp2_with fail
  refine (G1.out _ H7.out).mono ?_
  rintro e w8 ⟨rfl, h8⟩
  have H8 := Lib.hid h8
  clear h8 G1 H7
  unfold seenEVS
  go_wp2_with fail
  refine (G2.out _ H8.out).mono ?_
  rintro e w9 ⟨rfl, h9⟩
  have H9 := Lib.hid h9
  clear h9 G2 H8
  unfold seenEVS
  go_wp2_with fail
  refine (G3.out _ H9.out).mono ?_
  rintro e w10 ⟨rfl, h10⟩
  have H10 := Lib.hid h10
  clear h10 G3 H9
  unfold seenEVS
  go_wp2_with fail
  refine (G4.out _ H10.out).mono ?_
  rintro e w11 ⟨rfl, h11⟩
  have H11 := Lib.hid h11
  clear h11 G4 H10
  unfold seenEVS
  have n1 : (v != v) = false := bne_self_eq_false _
  have n2 : (z != z) = false := bne_self_eq_false _
  go_wp2_with fail
  refine (CC.out _ H11.out).mono ?_
  rintro e w' ⟨rfl, rfl⟩
  go_wp2_with fail
  refine (CS.out _).mono ?_
  rintro e w' ⟨rfl, rfl⟩
  go_wp2_with fail
  refine (CP.out _ H11.out).mono ?_
  rintro e w12 ⟨al, cl, rfl, h12⟩
  have H12 := Lib.hid h12
  clear h12 CP CS CC H11
  go_wp2_with fail
  refine (P1.out _ H12.out).mono ?_
  rintro e w13 ⟨rfl, h13⟩
  have H13 := Lib.hid h13
  clear h13 P1 H12
  go_wp2_with fail
  refine (P2.out _ H13.out).mono ?_
  rintro e w14 ⟨rfl, h14⟩
  have H14 := Lib.hid h14
  clear h14 P2 H13
  go_wp2_with fail
  refine (CF.out _).mono ?_
  rintro e w15 ⟨rfl, h15⟩
  have H15 := Lib.hid (H14.out.below h15)
  clear h15 H14
  go_wp2_with fail
  refine (L1.out _ H15.out).1.mono ?_
  rintro e w' ⟨rfl, rfl⟩
  go_wp2_with fail
  refine (L1.out _ H15.out).2.1.mono ?_
  rintro e w' ⟨rfl, rfl⟩
  go_wp2_with fail
  refine (L1.out _ H15.out).2.2.mono ?_
  rintro e w' ⟨rfl, rfl⟩
  have el : lastTVS [(a + b + c, z, false)] = a + b + c := rfl
  rw [el]
  have HX : Hid (Below w.heap.size w w15) := Lib.hid (by obtain ⟨_, _, _, _, hb⟩ := H15.out; exact H1.out.trans (hb.mono H1.out.size))
  clear L1 H15 el
  go_wp2_with fail
  go_ret
  exact ⟨rfl, HX.out⟩
theorem gone_main (a b c : Int) (key v z : ByteArray) (w : World) (_ : -9223372036854775808 ≤ a ∧ a ≤ 9223372036854775807) (_ : -9223372036854775808 ≤ b ∧ b ≤ 9223372036854775807) (_ : -9223372036854775808 ≤ c ∧ c ≤ 9223372036854775807) (_ : key.size ≤ maxLen) (_ : v.size ≤ maxLen) (_ : z.size ≤ maxLen) :
    Calls Try.prog 7 #[.int .i64 a, .int .i64 b, .int .i64 c, .string key, .string v, .string z] w fun e w' => e = .returned (.bool true) ∧ Below w.heap.size w w' := by
  obtain ⟨⟨k⟩⟩ := key
  obtain ⟨⟨l⟩⟩ := v
  obtain ⟨⟨m⟩⟩ := z
  exact gone_walk a b c k l m w
end Go.Proofs.Ytdlacjdddjebgaa
