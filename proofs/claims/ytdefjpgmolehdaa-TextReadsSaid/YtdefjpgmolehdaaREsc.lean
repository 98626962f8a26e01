/- hblref1's escape by its contract. -/
import Derived.Test.YtdefjpgmolehdaaRQuote
namespace Go.Proofs.Ytdefjpgmolehdaa
open Go.RowKit

theorem fourR_used : ∀ (k : Nat) (t : List UInt8) (acc : Nat), (fourR k t acc).2.1 = 0 → (fourR k t acc).2.2 = k
  | 0, _, _, _ => rfl
  | k + 1, [], _, h => by simp [fourR] at h
  | k + 1, c :: l, acc, h => by
    rw [fourR] at h ⊢
    split
    · next h1 => rw [if_pos h1] at h; simp at h
    · next h1 =>
      rw [if_neg h1] at h
      simp only at h ⊢
      rw [fourR_used k l _ h]
theorem fourR_err : ∀ (k : Nat) (t : List UInt8) (acc : Nat), (fourR k t acc).2.1 = 0 ∨ (fourR k t acc).2.1 = 2 ∨ (fourR k t acc).2.1 = 4
  | 0, _, _ => .inl rfl
  | k + 1, [], _ => .inr (.inl rfl)
  | k + 1, c :: l, acc => by
    rw [fourR]
    split
    · exact .inr (.inr rfl)
    · exact fourR_err k l _
theorem short_meant : ∀ j : Fin 256, shB (UInt8.ofNat j.val) ≠ 0 → meB (shB (UInt8.ofNat j.val)) = (UInt8.ofNat j.val, true) ∧ shB (UInt8.ofNat j.val) ≠ 117 := by decide +kernel
theorem meant_short : ∀ c : Fin 256, (meB (UInt8.ofNat c.val)).2 = true → c.val ≠ 47 → shB (meB (UInt8.ofNat c.val)).1 = UInt8.ofNat c.val ∧ (meB (UInt8.ofNat c.val)).1.toNat < 128 ∧ c.val ≠ 0 := by decide +kernel
theorem meant_47 : meB 47 = (47, true) := by decide
theorem meant_117 : (meB 117).2 = false := by decide

/-- What the document's answer tells of an escape: its bytes, where it ends, the error. -/
def refEscR (t : List UInt8) (p : Nat) : List UInt8 × Nat × Nat :=
  if (escR t (p + 1)).1 = 0 then ((escR t (p + 1)).2.2, p + 1 + (escR t (p + 1)).2.1, 0) else ([], 0, (escR t (p + 1)).1)

theorem signE_ok (n : Nat) (h : signB n = true) : signE (signR (n : Int)) = .returned (.tuple #[str (sb n), .bool true]) := by rw [signR_good n h]; rfl
theorem signE_no (n : Nat) (h : signB n = false) : signE (signR (n : Int)) = .returned (.tuple #[str [], .bool false]) := by
  rw [signR, if_neg (by rintro ⟨_, h2⟩; rw [Int.toNat_natCast, h] at h2; cases h2)]; rfl

set_option maxRecDepth 100000 in
set_option maxHeartbeats 12800000 in
theorem refEscape_any (t : List UInt8) (p : Nat) (w : World) (hp : p < t.length) (hl : t.length ≤ 70368744177664) :
    Calls Try.prog 24 #[str t, .int .i64 (p : Int)] w fun e w' => e = unqE (refEscR t p) ∧ Below w.heap.size w w' := by
  have hp0 : (0 : Int) ≤ (p : Int) := by omega
  by_cases h1 : p + 1 < t.length
  · obtain ⟨c, hc⟩ : ∃ c, c = t[p + 1] := ⟨_, rfl⟩
    have hgc : (ByteArray.mk t.toArray)[p + 1]'(by simpa [ByteArray.size] using h1) = c := hc.symm
    have hgc2 : t[p + 1]? = some c := by rw [hc]; exact List.getElem?_eq_getElem h1
    have hesc : escR t (p + 1) = if c = 117 then ((unitR t (p + 1 + 1)).1, (unitR t (p + 1 + 1)).2.1 + 1, (unitR t (p + 1 + 1)).2.2) else if (meB c).2 = true then (0, 1, [(meB c).1]) else (4, 1, []) := by
      rw [escR, hgc2]
    have HESC := Lib.hid hesc
    obtain ⟨q, hq⟩ : ∃ q, q = p + 1 := ⟨_, rfl⟩
    have e0 : (p : Int) + 1 = (q : Int) := by omega
    have e1 : (q : Int) < (t.length : Int) := by omega
    have e2 : (0 : Int) ≤ (q : Int) := by omega
    have hqn : q < t.length := by omega
    have hgq : (ByteArray.mk t.toArray)[q]'(by simpa [ByteArray.size] using hqn) = c := by subst hq; exact hgc
    have e3 : ¬ (t.length : Int) ≤ (q : Int) := by omega
    have hc255 := c.toNat_lt
    have HQ := Lib.hid hq
    clear hc hgc hgc2 hesc hq
    go_enter Try.func24, Try.ntmps24
    go_wp2_with fail
    go_loop [8] (fun i => ∃ k : Nat, k ≤ 128 ∧ i = .int .i64 (k : Int) ∧ ∀ j, j < k → ¬ (c ≠ 0 ∧ shB (UInt8.ofNat j) = c)) (fun i => 128 - (intOf i).toNat)
    case atStart => exact ⟨0, by omega, rfl, fun j hj => by omega⟩
    case round =>
      obtain ⟨k, hk, rfl, hno⟩ := hrel
      have HNO := Lib.hid hno
      clear hno
      by_cases hlt : k < 128
      · have n1 : (k : Int) < 128 := by omega
        have hkw : IntKind.u8.wrap (k : Int) = ((UInt8.ofNat k).toNat : Int) := by rw [oN k (by omega)]; exact IntWalk.u8_in _ ⟨by omega, by omega⟩
        obtain ⟨kb, hkb⟩ : ∃ kb, kb = UInt8.ofNat k := ⟨_, rfl⟩
        rw [← hkb] at hkw
        have HKB := Lib.hid hkb
        by_cases hc0 : c = 0
        · have m1 : ((c.toNat : Int) != 0) = false := by rw [hc0]; rfl
          have HC0 := Lib.hid hc0
          clear hc0 hkb
          go_wp2_with fail
          go_round
          case rel => exact ⟨k + 1, by omega, by go_num, fun j hj h => h.1 HC0.out⟩
          case measure => simp [intOf]; omega
        · have m1 : ((c.toNat : Int) != 0) = true := by
            rw [bne_iff_ne]; intro h; exact hc0 (UInt8.toNat_inj.1 (by simpa using h))
          by_cases hsk : shB kb = c
          · have m2 : (((shB kb).toNat : Int) == (c.toNat : Int)) = true := by rw [hsk]; exact beq_self_eq_true _
            have hm := short_meant ⟨k, by omega⟩
            simp only at hm
            rw [← hkb, hsk] at hm
            obtain ⟨hm1, hm2⟩ := hm hc0
            have hfin : refEscR t p = ([kb], p + 2, 0) := by
              rw [refEscR, HESC.out, if_neg hm2, hm1]; rfl
            have HF := Lib.hid hfin
            have hconv := fun W => bt.toString (S := 9) Try.underlying9 (Rd.one 5 W kb _ rfl)
            clear hsk hc0 hkb hm hm1 hm2 hfin
            go_wp2_with fail
            refine (refShort_any kb _).mono ?_
            rintro e w2 ⟨rfl, rfl⟩
            go_wp2_with fail
            go_ret3
            exact ⟨by rw [HF.out]; rfl, below_alloc _ _⟩
          · have m2 : (((shB kb).toNat : Int) == (c.toNat : Int)) = false := by
              rw [beq_eq_false_iff_ne]; intro h; exact hsk (UInt8.toNat_inj.1 (by omega))
            have HSK := Lib.hid hsk
            clear hsk hc0 hkb
            go_wp2_with fail
            refine (refShort_any kb _).mono ?_
            rintro e w2 ⟨rfl, rfl⟩
            go_wp2_with fail
            go_round
            case rel =>
              refine ⟨k + 1, by omega, by go_num, fun j hj h => ?_⟩
              rcases (show j < k ∨ j = k by omega) with hj | rfl
              · exact HNO.out j hj h
              · exact HSK.out (by rw [HKB.out]; exact h.2)
            case measure => simp [intOf]; omega
      · obtain rfl : k = 128 := by omega
        have n1 : ¬ ((128 : Nat) : Int) < 128 := by omega
        by_cases h47 : c = 47
        · have m1 : ((c.toNat : Int) == 47) = true := by rw [h47]; rfl
          have he47 : escR t (p + 1) = (0, 1, [47]) := by rw [HESC.out, h47, if_neg (by decide), meant_47]; rfl
          have hfin : refEscR t p = ([47], p + 2, 0) := by rw [refEscR, he47]; rfl
          have HF := Lib.hid hfin
          clear hfin h47 he47
          go_wp2_with fail
          go_ret3
          exact ⟨by rw [HF.out]; rfl, Below.refl _ _⟩
        have m1 : ((c.toNat : Int) == 47) = false := by
          rw [beq_eq_false_iff_ne]; intro h; exact h47 (UInt8.toNat_inj.1 (by simpa using (by omega : c.toNat = 47)))
        have hmf : (meB c).2 = false := by
          cases hm : (meB c).2
          · rfl
          · have := meant_short ⟨c.toNat, hc255⟩
            simp only [ofNat_self] at this
            obtain ⟨h2, h3, h4⟩ := this hm (fun h => h47 (UInt8.toNat_inj.1 (by simpa using h)))
            exact absurd ⟨fun h => h4 (by rw [h]; rfl), by rw [ofNat_self]; exact h2⟩ (HNO.out (meB c).1.toNat h3)
        by_cases h117 : c = 117
        · have m2 : ((c.toNat : Int) != 117) = false := by rw [h117]; rfl
          have hesc2 : escR t (p + 1) = ((unitR t (p + 2)).1, (unitR t (p + 2)).2.1 + 1, (unitR t (p + 2)).2.2) := by rw [HESC.out, if_pos h117]
          have hfin : refEscR t p = if (unitR t (p + 2)).1 = 0 then ((unitR t (p + 2)).2.2, p + 2 + (unitR t (p + 2)).2.1, 0) else ([], 0, (unitR t (p + 2)).1) := by
            rw [refEscR, hesc2]
            split
            · simp only [Prod.mk.injEq, true_and, and_true]; omega
            · rfl
          have hu := unitR.eq_def t (p + 2)
          obtain ⟨n, er, us, hr⟩ : ∃ n er us, fourR 4 (t.drop (p + 2)) 0 = (n, er, us) := ⟨_, _, _, rfl⟩
          have hn := fourR_lt 4 (t.drop (p + 2)) 0
          have hus := fourR_used 4 (t.drop (p + 2)) 0
          have hmx := fourR_use 4 (t.drop (p + 2)) 0
          rw [List.length_drop] at hmx
          rw [hr] at hu hn hus hmx
          simp only [Nat.zero_add, Nat.one_mul, Nat.reducePow] at hu hn hus hmx
          have HU := Lib.hid hu
          have HR := Lib.hid hr
          have HF := Lib.hid hfin
          obtain ⟨p2, hp2⟩ : ∃ p2, p2 = p + 2 := ⟨_, rfl⟩
          have e4 : (p : Int) + 2 = (p2 : Int) := by omega
          have hp2l : p2 ≤ t.length := by have := HQ.out; omega
          have HP2 := Lib.hid hp2
          have C4 := Lib.hid (fun W => refFour_any t p2 W hp2l (by omega))
          clear h117 hesc2 hfin hu hr hmf hp2
          go_wp2_with fail
          refine (C4.out _).mono ?_
          rintro e w2 ⟨rfl, rfl⟩
          rw [HP2.out, HR.out]
          simp only
          by_cases he : er = 0
          · subst he
            have hus4 : us = 4 := hus rfl
            subst hus4
            obtain ⟨A, hA⟩ : ∃ A : Int, A = (n : Int) := ⟨_, rfl⟩
            rw [← hA]
            obtain ⟨p6, hp6⟩ : ∃ p6, p6 = p + 6 := ⟨_, rfl⟩
            have e6 : (p : Int) + 6 = (p6 : Int) := by omega
            have hp6l : p6 ≤ t.length := by have := HQ.out; omega
            have HP6 := Lib.hid hp6
            have HA := Lib.hid hA
            have HN := Lib.hid hn
            by_cases hsur : 55296 ≤ n ∧ n < 56320
            · have HSUR := Lib.hid hsur
              have s1 : 55296 ≤ A := by omega
              have s2 : A ≤ 56319 := by omega
              have hu2 : unitR t (p + 2) = if (secR t p6).2.1 ≠ 0 then ((secR t p6).2.1, 4 + (secR t p6).2.2, []) else unitF (65536 + (n - 55296) * 1024 + ((secR t p6).1 - 56320)) (4 + (secR t p6).2.2) := by
                rw [HU.out, if_neg (by simp), if_pos hsur, show p + 2 + 4 = p6 by have := HP6.out; omega]
              have HU2 := Lib.hid hu2
              clear hu2 hA hn hsur hp6
              by_cases ha1 : p6 < t.length
              · have a1 : (p6 : Int) < (t.length : Int) := by omega
                have a1' : ¬ (t.length : Int) ≤ (p6 : Int) := by omega
                have a0 : (0 : Int) ≤ (p6 : Int) := by omega
                obtain ⟨d, hd⟩ : ∃ d, d = t[p6] := ⟨_, rfl⟩
                have hgd : (ByteArray.mk t.toArray)[p6]'(by simpa [ByteArray.size] using ha1) = d := hd.symm
                have hd2 : t[p6]? = some d := by rw [hd]; exact List.getElem?_eq_getElem ha1
                have HD := Lib.hid hd2
                clear hd hd2
                obtain ⟨p7, hp7⟩ : ∃ p7, p7 = p6 + 1 := ⟨_, rfl⟩
                have e7 : (p6 : Int) + 1 = (p7 : Int) := by omega
                by_cases h92 : d = 92
                · have b1 : ((d.toNat : Int) == 92) = true := by rw [h92]; rfl
                  have b2 : ((d.toNat : Int) != 92) = false := by rw [h92]; rfl
                  have hw0 : wantN t p6 92 = 0 := by rw [wantN, if_pos ha1, HD.out, h92, if_pos rfl]
                  have HW0 := Lib.hid hw0
                  clear h92 hw0
                  by_cases ha2 : p7 < t.length
                  · have a2 : (p7 : Int) < (t.length : Int) := by omega
                    have a2' : ¬ (t.length : Int) ≤ (p7 : Int) := by omega
                    have a3 : (0 : Int) ≤ (p7 : Int) := by omega
                    obtain ⟨f, hf⟩ : ∃ f, f = t[p7] := ⟨_, rfl⟩
                    have hgf : (ByteArray.mk t.toArray)[p7]'(by simpa [ByteArray.size] using ha2) = f := hf.symm
                    have hf2 : t[p7]? = some f := by rw [hf]; exact List.getElem?_eq_getElem ha2
                    have HF2 := Lib.hid hf2
                    have HP7 := Lib.hid hp7
                    clear hf hf2 hp7
                    by_cases hu1 : f = 117
                    · have b3 : ((f.toNat : Int) != 117) = false := by rw [hu1]; rfl
                      have hw1 : wantN t (p6 + 1) 117 = 0 := by rw [← HP7.out, wantN, if_pos ha2, HF2.out, hu1, if_pos rfl]
                      have HW1 := Lib.hid hw1
                      clear hu1 hw1
                      obtain ⟨p8, hp8⟩ : ∃ p8, p8 = p6 + 2 := ⟨_, rfl⟩
                      have e8 : (p6 : Int) + 2 = (p8 : Int) := by omega
                      have hp8l : p8 ≤ t.length := by have := HP7.out; omega
                      obtain ⟨m, er2, us2, hr2⟩ : ∃ m er us, fourR 4 (t.drop p8) 0 = (m, er, us) := ⟨_, _, _, rfl⟩
                      have hus2 := fourR_used 4 (t.drop p8) 0
                      rw [hr2] at hus2
                      simp only at hus2
                      have hsec : secR t p6 = (m, (if er2 = 0 ∧ (m < 56320 ∨ 57343 < m) then 4 else er2), us2 + 2) := by
                        rw [secR, HW0.out, HW1.out, if_neg (by simp), if_neg (by simp), ← hp8, hr2]
                      have HR2 := Lib.hid hr2
                      have HSEC := Lib.hid hsec
                      have HP8 := Lib.hid hp8
                      have C8 := Lib.hid (fun W => refFour_any t p8 W hp8l (by omega))
                      clear hr2 hsec hp8
                      go_wp2_with fail
                      refine (C8.out _).mono ?_
                      rintro e w2 ⟨rfl, rfl⟩
                      rw [HR2.out]
                      simp only
                      by_cases he2 : er2 = 0
                      · subst he2
                        have hus4 : us2 = 4 := hus2 rfl
                        subst hus4
                        obtain ⟨B, hB⟩ : ∃ B : Int, B = (m : Int) := ⟨_, rfl⟩
                        rw [← hB]
                        by_cases hlo : m < 56320 ∨ 57343 < m
                        · have key : B < 56320 ∨ (¬ B < 56320 ∧ 57343 < B) := by omega
                          have hfin : refEscR t p = ([], 0, 4) := by rw [HF.out, HU2.out, HSEC.out]; simp [hlo]
                          have HFIN := Lib.hid hfin
                          clear hfin hlo hB
                          rcases key with k1 | ⟨k1, k2⟩
                          all_goals
                            go_wp2_with fail
                            go_ret3
                            exact ⟨by rw [HFIN.out]; rfl, Below.refl _ _⟩
                        · have g1 : ¬ B < 56320 := by omega
                          have g2 : ¬ 57343 < B := by omega
                          obtain ⟨cc, hcc⟩ : ∃ cc, cc = 65536 + (n - 55296) * 1024 + (m - 56320) := ⟨_, rfl⟩
                          have hA' : 65536 + (A - 55296) * 1024 + (B - 56320) = (cc : Int) := by
                            have := HA.out; have := HSUR.out; omega
                          have hccb : signB cc = true := signB_big cc (by omega) (by have := HSUR.out; omega)
                          have hccl : cc ≤ 1114111 := by have := HSUR.out; omega
                          have hun : unitR t (p + 2) = (0, 4 + (4 + 2), sb cc) := by
                            rw [HU2.out, HSEC.out]
                            simp only [true_and]
                            rw [if_neg hlo, if_neg (by simp), ← hcc, unitF, if_pos hccb]
                          have hfin : refEscR t p = (sb cc, p6 + 6, 0) := by
                            rw [HF.out, hun]
                            show (sb cc, p + 2 + (4 + (4 + 2)), 0) = _
                            rw [show p + 2 + (4 + (4 + 2)) = p6 + 6 by have := HP6.out; omega]
                          have CT : ∀ W, Calls Try.prog 14 #[.int .i64 (cc : Int)] W fun e w' => e = .returned (.tuple #[str (sb cc), .bool true]) ∧ Below W.heap.size W w' := fun W => by
                            have := refText_any (cc : Int) W (by omega) (by omega)
                            rwa [signE_ok cc hccb] at this
                          have HCT := Lib.hid CT
                          have HFIN := Lib.hid hfin
                          have HA2 := Lib.hid hA'
                          clear hfin hlo hB hcc hccb CT hA' hun
                          go_wp2_with fail
                          rw [HA2.out]
                          refine (HCT.out _).mono ?_
                          rintro e w3 ⟨rfl, hb3⟩
                          go_wp2_with fail
                          go_ret3
                          exact ⟨by rw [HFIN.out]; rfl, hb3⟩
                      · have n0 : ((er2 : Int) != 0) = true := by rw [bne_iff_ne]; omega
                        have hfin : refEscR t p = ([], 0, er2) := by rw [HF.out, HU2.out, HSEC.out]; simp [he2]
                        have HFIN := Lib.hid hfin
                        clear hfin he2
                        go_wp2_with fail
                        go_ret3
                        exact ⟨by rw [HFIN.out]; rfl, Below.refl _ _⟩
                    · have b3 : ((f.toNat : Int) != 117) = true := by
                        rw [bne_iff_ne]; intro h; exact hu1 (UInt8.toNat_inj.1 (by simpa using (by omega : f.toNat = 117)))
                      have hw1 : wantN t (p6 + 1) 117 = 4 := by rw [← HP7.out, wantN, if_pos ha2, HF2.out, if_neg (by simpa using hu1)]
                      have hsec : secR t p6 = (0, 4, 1) := by rw [secR, HW0.out, hw1]; rfl
                      have hfin : refEscR t p = ([], 0, 4) := by rw [HF.out, HU2.out, hsec]; rfl
                      have HFIN := Lib.hid hfin
                      clear hfin hsec hw1 hu1
                      go_wp2_with fail
                      go_ret3
                      exact ⟨by rw [HFIN.out]; rfl, Below.refl _ _⟩
                  · have a2 : (t.length : Int) ≤ (p7 : Int) := by omega
                    have a2' : ¬ (p7 : Int) < (t.length : Int) := by omega
                    have hw1 : wantN t (p6 + 1) 117 = 2 := by rw [← hp7, wantN, if_neg ha2]
                    have hsec : secR t p6 = (0, 2, 1) := by rw [secR, HW0.out, hw1]; rfl
                    have hfin : refEscR t p = ([], 0, 2) := by rw [HF.out, HU2.out, hsec]; rfl
                    have HFIN := Lib.hid hfin
                    clear hfin hsec hw1 hp7
                    go_wp2_with fail
                    go_ret3
                    exact ⟨by rw [HFIN.out]; rfl, Below.refl _ _⟩
                · have b1 : ((d.toNat : Int) == 92) = false := by
                    rw [beq_eq_false_iff_ne]; intro h; exact h92 (UInt8.toNat_inj.1 (by simpa using (by omega : d.toNat = 92)))
                  have b2 : ((d.toNat : Int) != 92) = true := by
                    rw [bne_iff_ne]; intro h; exact h92 (UInt8.toNat_inj.1 (by simpa using (by omega : d.toNat = 92)))
                  have hw0 : wantN t p6 92 = 4 := by rw [wantN, if_pos ha1, HD.out, if_neg (by simpa using h92)]
                  have hsec : secR t p6 = (0, 4, 0) := by rw [secR, hw0]; rfl
                  have hfin : refEscR t p = ([], 0, 4) := by rw [HF.out, HU2.out, hsec]; rfl
                  have HFIN := Lib.hid hfin
                  clear hfin hsec hw0 h92
                  rcases (show (p7 : Int) < (t.length : Int) ∨ (t.length : Int) ≤ (p7 : Int) by omega) with a2 | a2
                  all_goals
                    clear hp7
                    go_wp2_with fail
                    go_ret3
                    exact ⟨by rw [HFIN.out]; rfl, Below.refl _ _⟩
              · have a1 : (t.length : Int) ≤ (p6 : Int) := by omega
                have hw0 : wantN t p6 92 = 2 := by rw [wantN, if_neg ha1]
                have hsec : secR t p6 = (0, 2, 0) := by rw [secR, hw0]; rfl
                have hfin : refEscR t p = ([], 0, 2) := by rw [HF.out, HU2.out, hsec]; rfl
                have HFIN := Lib.hid hfin
                clear hfin hsec hw0
                go_wp2_with fail
                go_ret3
                exact ⟨by rw [HFIN.out]; rfl, Below.refl _ _⟩
            · have key : A < 55296 ∨ (55296 ≤ A ∧ 56319 < A) := by omega
              have hu2 : unitR t (p + 2) = unitF n 4 := by rw [HU.out, if_neg (by simp), if_neg hsur]
              have hnb : n ≤ 65536 := by omega
              cases hsb : signB n
              · have hfin : refEscR t p = ([], 0, 4) := by rw [HF.out, hu2, unitF, hsb]; rfl
                have CT : ∀ W, Calls Try.prog 14 #[.int .i64 A] W fun e w' => e = .returned (.tuple #[str [], .bool false]) ∧ Below W.heap.size W w' := fun W => by
                  have := refText_any (n : Int) W (by omega) (by omega)
                  rw [signE_no n hsb] at this
                  rw [HA.out]; exact this
                have HCT := Lib.hid CT
                have HFIN := Lib.hid hfin
                clear hfin CT hu2 hsb hA hn hsur hp6
                rcases key with k1 | ⟨k1, k2⟩
                all_goals
                  go_wp2_with fail
                  refine (HCT.out _).mono ?_
                  rintro e w3 ⟨rfl, hb3⟩
                  go_wp2_with fail
                  go_ret3
                  exact ⟨by rw [HFIN.out]; rfl, hb3⟩
              · have hfin : refEscR t p = (sb n, p6, 0) := by
                  rw [HF.out, hu2, unitF, hsb]
                  show (sb n, p + 2 + 4, 0) = _
                  rw [show p + 2 + 4 = p6 by have := HP6.out; omega]
                have CT : ∀ W, Calls Try.prog 14 #[.int .i64 A] W fun e w' => e = .returned (.tuple #[str (sb n), .bool true]) ∧ Below W.heap.size W w' := fun W => by
                  have := refText_any (n : Int) W (by omega) (by omega)
                  rw [signE_ok n hsb] at this
                  rw [HA.out]; exact this
                have HCT := Lib.hid CT
                have HFIN := Lib.hid hfin
                clear hfin CT hu2 hsb hA hn hsur hp6
                rcases key with k1 | ⟨k1, k2⟩
                all_goals
                  go_wp2_with fail
                  refine (HCT.out _).mono ?_
                  rintro e w3 ⟨rfl, hb3⟩
                  go_wp2_with fail
                  go_ret3
                  exact ⟨by rw [HFIN.out]; rfl, hb3⟩
          · have n0 : ((er : Int) != 0) = true := by rw [bne_iff_ne]; omega
            have hfin : refEscR t p = ([], 0, er) := by rw [HF.out, HU.out]; simp [he]
            have HFIN := Lib.hid hfin
            clear hfin he
            go_wp2_with fail
            go_ret3
            exact ⟨by rw [HFIN.out]; rfl, Below.refl _ _⟩
        · have m2 : ((c.toNat : Int) != 117) = true := by
            rw [bne_iff_ne]; intro h; exact h117 (UInt8.toNat_inj.1 (by simpa using (by omega : c.toNat = 117)))
          have hfin : refEscR t p = ([], 0, 4) := by rw [refEscR, HESC.out, if_neg h117, hmf]; rfl
          have HF := Lib.hid hfin
          clear hfin h117 h47 hmf
          go_wp2_with fail
          go_ret3
          exact ⟨by rw [HF.out]; rfl, Below.refl _ _⟩
  · have hfin : refEscR t p = ([], 0, 2) := by
      have : escR t (p + 1) = (2, 0, []) := by rw [escR, List.getElem?_eq_none (by omega)]
      rw [refEscR, this]; rfl
    have HF := Lib.hid hfin
    have e3 : (t.length : Int) ≤ (p : Int) + 1 := by omega
    clear hfin
    go_enter Try.func24, Try.ntmps24
    go_wp2_with fail
    go_ret3
    exact ⟨by rw [HF.out]; rfl, Below.refl _ _⟩
end Go.Proofs.Ytdefjpgmolehdaa
