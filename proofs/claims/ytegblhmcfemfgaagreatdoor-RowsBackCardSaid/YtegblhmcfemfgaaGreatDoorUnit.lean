/- The reader's unit by its contract. -/
import Derived.Test.YtegblhmcfemfgaaGreatDoorMeant
import Derived.Test.YtegblhmcfemfgaaGreatDoorAppendSign
namespace Go.Proofs.YtegblhmcfemfgaaGreatDoor
open Go.RowKit

theorem fourR_lt : ∀ (k : Nat) (t : List UInt8) (acc : Nat), (fourR k t acc).1 < (acc + 1) * 16 ^ k
  | 0, _, acc => by simp [fourR]
  | k + 1, [], acc => by simp only [fourR]; exact Nat.mul_pos (by omega) (Nat.pow_pos (by omega))
  | k + 1, c :: l, acc => by
    rw [fourR]
    split
    · exact Nat.mul_pos (by omega) (Nat.pow_pos (by omega))
    · have h := fourR_lt k l (acc * 16 + (refD c).toNat)
      have hr := refD_range c
      have : (acc * 16 + (refD c).toNat + 1) * 16 ^ k ≤ ((acc + 1) * 16) * 16 ^ k := Nat.mul_le_mul_right _ (by omega)
      rw [Nat.pow_succ, Nat.mul_comm (16 ^ k) 16, ← Nat.mul_assoc]
      simp only
      omega
theorem fourR_use : ∀ (k : Nat) (t : List UInt8) (acc : Nat), (fourR k t acc).2.2 ≤ t.length
  | 0, _, _ => by simp [fourR]
  | k + 1, [], _ => by simp [fourR]
  | k + 1, c :: l, acc => by
    rw [fourR]
    split
    · simp
    · have := fourR_use k l (acc * 16 + (refD c).toNat)
      simp; omega
theorem secR_use (t : List UInt8) (p : Nat) (hp : p ≤ t.length) : p + (secR t p).2.2 ≤ t.length := by
  unfold secR
  split
  · simpa using hp
  · next h =>
    have h1 := wantN_zero (Decidable.not_not.1 h)
    split
    · simp; omega
    · next h' =>
      have h2 := wantN_zero (Decidable.not_not.1 h')
      have := fourR_use 4 (t.drop (p + 2)) 0
      rw [List.length_drop] at this
      simp only
      omega

def unitF (c m : Nat) : Nat × Nat × List UInt8 := if signB c = true then (0, m, sb c) else (4, m, [])
/-- What stands behind a backslash and u: the error, how many bytes were read, the sign's bytes. -/
def unitR (t : List UInt8) (p : Nat) : Nat × Nat × List UInt8 :=
  if (fourR 4 (t.drop p) 0).2.1 ≠ 0 then ((fourR 4 (t.drop p) 0).2.1, (fourR 4 (t.drop p) 0).2.2, [])
  else if 55296 ≤ (fourR 4 (t.drop p) 0).1 ∧ (fourR 4 (t.drop p) 0).1 < 56320 then
    if (secR t (p + (fourR 4 (t.drop p) 0).2.2)).2.1 ≠ 0 then ((secR t (p + (fourR 4 (t.drop p) 0).2.2)).2.1, (fourR 4 (t.drop p) 0).2.2 + (secR t (p + (fourR 4 (t.drop p) 0).2.2)).2.2, [])
    else unitF (65536 + ((fourR 4 (t.drop p) 0).1 - 55296) * 1024 + ((secR t (p + (fourR 4 (t.drop p) 0).2.2)).1 - 56320)) ((fourR 4 (t.drop p) 0).2.2 + (secR t (p + (fourR 4 (t.drop p) 0).2.2)).2.2)
  else unitF (fourR 4 (t.drop p) 0).1 (fourR 4 (t.drop p) 0).2.2

theorem Own.form {E : TypeId} {w : World} {base : Nat} {v : Value} {l : List UInt8} (h : Own E w base v l) : ∃ a n cap, v = .slice a n cap := by
  obtain ⟨a, cap, hv, _⟩ := h.rd
  exact ⟨a, _, cap, hv⟩


theorem secR_ok (t : List UInt8) (p : Nat) : (secR t p).2.1 = 0 → 56320 ≤ (secR t p).1 ∧ (secR t p).1 ≤ 57343 := by
  unfold secR
  split
  · next h => intro h'; exact absurd h' h
  split
  · next h => intro h'; exact absurd h' h
  · simp only
    split
    · intro h; cases h
    · next h => intro h'; simp only [h', true_and] at h; omega
theorem RS.still {w w' : World} {b p : Nat} {t o : List UInt8} {v : Value} (h : RS w b t p o) (hc : w.cell? ⟨b, 2, none⟩ = some v) (hg : w.grownBy w' v.ownBlock) : w'.cell? ⟨b, 2, none⟩ = some v ∧ w'.frozen? ⟨b, 2, none⟩ = false := by
  obtain ⟨v0, T, h, ho⟩ := h
  have e : v0 = v := by simpa [World.cell?, h] using hc
  subst e
  have hb : w'.heap[b]? = some (.cells #[str t, .int .i64 (p : Int), v0] T (0, 0)) := by
    rw [hg.block b (Array.getElem?_eq_some_iff.1 h).1 (fun e => by have := ho.base b e.symm; omega)]
    exact h
  exact ⟨by simp [World.cell?, hb], frozen_of_row w' b 2 _ T hb⟩
set_option maxHeartbeats 1600000 in
theorem unit_any (t o : List UInt8) (b p : Nat) (w : World) (h : RS w b t p o) (hp : p ≤ t.length) (hl : t.length ≤ 140737488355328) (ho : o.length ≤ 70368744177664) :
    Calls Tryz.prog 176 #[.pointer (some ⟨b, 0, none⟩)] w fun e w' =>
      e = .returned (.int .i64 ((unitR t p).1 : Int)) ∧ RS w' b t (p + (unitR t p).2.1) (o ++ (unitR t p).2.2) ∧ Below b w w' := by
  have HRS := Lib.hid h
  clear h
  have hu := unitR.eq_def t p
  obtain ⟨n, er, m, hr⟩ : ∃ n er m, fourR 4 (t.drop p) 0 = (n, er, m) := ⟨_, _, _, rfl⟩
  have hn := fourR_lt 4 (t.drop p) 0
  have hm := fourR_use 4 (t.drop p) 0
  rw [List.length_drop] at hm
  rw [hr] at hu hn hm
  simp only [Nat.zero_add, Nat.one_mul, Nat.reducePow] at hu hn hm
  have HU := Lib.hid hu
  have HR := Lib.hid hr
  clear hu hr
  go_enter Tryz.func176, Tryz.ntmps176
  go_wp2_with fail
  refine (four_any t o b p _ HRS.out hp hl).mono ?_
  rintro e w3 ⟨rfl, hrs3, hb3⟩
  rw [HR.out] at hrs3 ⊢
  simp only at hrs3 ⊢
  by_cases he : er = 0
  · subst he
    obtain ⟨A, hA⟩ : ∃ A : Int, A = (n : Int) := ⟨_, rfl⟩
    rw [← hA]
    by_cases hsur : 55296 ≤ n ∧ n < 56320
    · have HSUR := Lib.hid hsur
      have n1 : 55296 ≤ A := by omega
      have n2 : A < 56320 := by omega
      have hpm : p + m ≤ t.length := by omega
      obtain ⟨sn, se, sm, hs⟩ : ∃ sn se sm, secR t (p + m) = (sn, se, sm) := ⟨_, _, _, rfl⟩
      have hok := secR_ok t (p + m)
      rw [hs] at hok
      simp only at hok
      have HS := Lib.hid hs
      have HA := Lib.hid hA
      have HN := Lib.hid hn
      clear hA hn hsur hs
      go_wp2_with fail
      refine (second_any t o b (p + m) _ hrs3 hpm hl).mono ?_
      rintro e w5 ⟨rfl, hrs5, hb5⟩
      rw [HS.out] at hrs5 ⊢
      simp only at hrs5 ⊢
      have hbz := hb3.trans hb5
      by_cases hse : se = 0
      · have hok2 := hok hse
        have c1 : (0 : Int) ≤ (sn : Int) := by omega
        subst hse
        obtain ⟨B, hB⟩ : ∃ B : Int, B = (sn : Int) := ⟨_, rfl⟩
        rw [← hB]
        have c2 : 56320 ≤ B := by omega
        have c3 : B ≤ 57343 := by omega
        have HB := Lib.hid hB
        have HOK := Lib.hid hok2
        clear hB hok hok2 c1
        obtain ⟨q, hq⟩ : ∃ q, q = 65536 + (n - 55296) * 1024 + (sn - 56320) := ⟨_, rfl⟩
        have hA' : 65536 + (A - 55296) * 1024 + B - 56320 = (q : Int) := by
          have := HA.out; have := HB.out; have := HOK.out; have := HSUR.out; omega
        have hqb : q ≤ 1114111 := by have := HOK.out; have := HSUR.out; omega
        have HQ := Lib.hid hq
        have HA2 := Lib.hid hA'
        have HQB := Lib.hid hqb
        clear hq hA' hqb
        go_wp2_with fail
        rw [HA2.out]
        refine (isSign_any q _ (by have := HQB.out; omega)).mono ?_
        rintro e w' ⟨rfl, rfl⟩
        have hv0 : unitR t p = unitF q (m + sm) := by
          rw [HU.out, if_neg (by simp), if_pos HSUR.out, if_neg (by rw [HS.out]; simp), HS.out, HQ.out]
        cases hsb : signB q
        · have hv : unitR t p = (4, m + sm, []) := by rw [hv0, unitF, hsb]; rfl
          have HV := Lib.hid hv
          have HSB := Lib.hid hsb
          clear hv hsb hv0
          go_wp2_with fail
          go_ret
          exact ⟨by rw [HV.out]; rfl, by rw [HV.out, List.append_nil, ← Nat.add_assoc]; exact hrs5, hbz⟩
        · have hv : unitR t p = (0, m + sm, sb q) := by rw [hv0, unitF, hsb]; rfl
          have HV := Lib.hid hv
          have HSB := Lib.hid hsb
          clear hv hsb hv0
          obtain ⟨v, hc2, hov⟩ := hrs5.c2
          have hf2 := hrs5.fr 2
          have hbw := hrs5.lt
          have H3 := Lib.hid hrs5
          clear hrs5
          go_wp2_with fail
          refine (appendSign_any v o q _ (b + 1) hov hbw ho HQB.out).mono ?_
          rintro e w4 ⟨v4, rfl, hov4, hg4⟩
          obtain ⟨a4, n4, cap4, rfl⟩ := hov4.form
          obtain ⟨hc4, hf4⟩ := H3.out.still hc2 hg4
          have hb4 := hbz.grown hg4 (by have := hbz.size; omega) (fun k e => by have := hov.base k e; omega)
          go_wp2_with fail
          go_ret
          exact ⟨by rw [HV.out]; rfl, by rw [HV.out, ← Nat.add_assoc]; exact H3.out.setOut hc2 hg4 hov4, Below.setCell (p := ⟨b, 2, none⟩) hb4 (Nat.le_refl b) _⟩
      · have n0 : ((se : Int) != 0) = true := by rw [bne_iff_ne]; omega
        have hv : unitR t p = (se, m + sm, []) := by rw [HU.out]; simp [HSUR.out, HS.out, hse]
        have HV := Lib.hid hv
        clear hv hse hok
        go_wp2_with fail
        go_ret
        exact ⟨by rw [HV.out]; rfl, by rw [HV.out, List.append_nil, ← Nat.add_assoc]; exact hrs5, hbz⟩
    · have HSUR := Lib.hid hsur
      by_cases hlo : 55296 ≤ n
      · have n1 : 55296 ≤ A := by omega
        have n2 : ¬ A < 56320 := by omega
        have HA := Lib.hid hA
        have HN := Lib.hid hn
        clear hA hn hlo hsur
        go_wp2_with fail
        rw [HA.out]
        refine (isSign_any n _ (by have := HN.out; omega)).mono ?_
        rintro e w' ⟨rfl, rfl⟩
        rw [← HA.out]
        cases hsb : signB n
        · have hv : unitR t p = (4, m, []) := by rw [HU.out]; simp [HSUR.out, unitF, hsb]
          have HV := Lib.hid hv
          have HSB := Lib.hid hsb
          clear hv hsb
          go_wp2_with fail
          go_ret
          exact ⟨by rw [HV.out]; rfl, by rw [HV.out, List.append_nil]; exact hrs3, hb3⟩
        · have hv : unitR t p = (0, m, sb n) := by rw [HU.out]; simp [HSUR.out, unitF, hsb]
          have HV := Lib.hid hv
          have HSB := Lib.hid hsb
          clear hv hsb
          obtain ⟨v, hc2, hov⟩ := hrs3.c2
          have hf2 := hrs3.fr 2
          have hbw := hrs3.lt
          have H3 := Lib.hid hrs3
          clear hrs3
          go_wp2_with fail
          rw [HA.out]
          refine (appendSign_any v o n _ (b + 1) hov hbw ho (by have := HN.out; omega)).mono ?_
          rintro e w4 ⟨v4, rfl, hov4, hg4⟩
          obtain ⟨a4, n4, cap4, rfl⟩ := hov4.form
          obtain ⟨hc4, hf4⟩ := H3.out.still hc2 hg4
          have hb4 := hb3.grown hg4 (by have := hb3.size; omega) (fun k e => by have := hov.base k e; omega)
          go_wp2_with fail
          go_ret
          exact ⟨by rw [HV.out]; rfl, by rw [HV.out]; exact H3.out.setOut hc2 hg4 hov4, Below.setCell (p := ⟨b, 2, none⟩) hb4 (Nat.le_refl b) _⟩
      · have n1 : ¬ 55296 ≤ A := by omega
        have HA := Lib.hid hA
        have HN := Lib.hid hn
        clear hA hn hlo hsur
        go_wp2_with fail
        rw [HA.out]
        refine (isSign_any n _ (by have := HN.out; omega)).mono ?_
        rintro e w' ⟨rfl, rfl⟩
        rw [← HA.out]
        cases hsb : signB n
        · have hv : unitR t p = (4, m, []) := by rw [HU.out]; simp [HSUR.out, unitF, hsb]
          have HV := Lib.hid hv
          have HSB := Lib.hid hsb
          clear hv hsb
          go_wp2_with fail
          go_ret
          exact ⟨by rw [HV.out]; rfl, by rw [HV.out, List.append_nil]; exact hrs3, hb3⟩
        · have hv : unitR t p = (0, m, sb n) := by rw [HU.out]; simp [HSUR.out, unitF, hsb]
          have HV := Lib.hid hv
          have HSB := Lib.hid hsb
          clear hv hsb
          obtain ⟨v, hc2, hov⟩ := hrs3.c2
          have hf2 := hrs3.fr 2
          have hbw := hrs3.lt
          have H3 := Lib.hid hrs3
          clear hrs3
          go_wp2_with fail
          rw [HA.out]
          refine (appendSign_any v o n _ (b + 1) hov hbw ho (by have := HN.out; omega)).mono ?_
          rintro e w4 ⟨v4, rfl, hov4, hg4⟩
          obtain ⟨a4, n4, cap4, rfl⟩ := hov4.form
          obtain ⟨hc4, hf4⟩ := H3.out.still hc2 hg4
          have hb4 := hb3.grown hg4 (by have := hb3.size; omega) (fun k e => by have := hov.base k e; omega)
          go_wp2_with fail
          go_ret
          exact ⟨by rw [HV.out]; rfl, by rw [HV.out]; exact H3.out.setOut hc2 hg4 hov4, Below.setCell (p := ⟨b, 2, none⟩) hb4 (Nat.le_refl b) _⟩
  · have n0 : ((er : Int) != 0) = true := by rw [bne_iff_ne]; omega
    have hv : unitR t p = (er, m, []) := by rw [HU.out]; simp [he]
    have HV := Lib.hid hv
    clear hv he
    go_wp2_with fail
    go_ret
    exact ⟨by rw [HV.out]; rfl, by rw [HV.out, List.append_nil]; exact hrs3, hb3⟩
end Go.Proofs.YtegblhmcfemfgaaGreatDoor
