/- Layer 5: the reader of times: year, fraction, offset, zones, second. -/
import Derived.Test.YtnaafdennieedaaDName
import Derived.Deep.LoopGhost
namespace Go.Proofs.Ytnaafdennieedaa
open Go.RowKit

theorem numF_ex (t : List UInt8) (wd p : Nat) (z : Bool) (hp : p ≤ t.length) : ∃ y q u, numF t wd 0 p z = (y, q, u) ∧ q ≤ t.length := ⟨_, _, _, rfl, numF_le t wd 0 p z hp⟩
theorem num2_ex (t : List UInt8) (p : Nat) (z : Bool) (hp : p ≤ t.length) : ∃ y q u, numF t 2 0 p z = (y, q, u) ∧ q ≤ t.length ∧ -6000 ≤ y ∧ y ≤ 99 :=
  ⟨_, _, _, rfl, numF_le t 2 0 p z hp, (num2_bd t p z).1, (num2_bd t p z).2⟩
theorem num4_ex (t : List UInt8) (p : Nat) (z : Bool) (hp : p ≤ t.length) : ∃ y q u, numF t 4 0 p z = (y, q, u) ∧ q ≤ t.length ∧ -600000 ≤ y ∧ y ≤ 9999 :=
  ⟨_, _, _, rfl, numF_le t 4 0 p z hp, (num4_bd t p z).1, (num4_bd t p z).2⟩
theorem sgnF_ex (of t : List UInt8) (p : Nat) (z : Bool) (hp : p ≤ t.length) : ∃ c q u, sgnF of t p z = (c, q, u) ∧ q ≤ t.length := ⟨_, _, _, rfl, sgnF_le of t p z hp⟩

def yearF (t : List UInt8) (p : Nat) (z : Bool) : Int × Nat × Bool :=
  let a := numF t 2 0 p z
  if dgB (pk t a.2.1) = true then (100 * a.1 + (numF t 2 0 a.2.1 a.2.2).1, (numF t 2 0 a.2.1 a.2.2).2) else (if a.1 ≤ 68 then 2000 + a.1 else 1900 + a.1, a.2)
theorem year_ex (t : List UInt8) (p : Nat) (z : Bool) (hp : p ≤ t.length) : ∃ y q u, yearF t p z = (y, q, u) ∧ q ≤ t.length ∧ -700000 ≤ y ∧ y ≤ 9999 := by
  obtain ⟨y0, q0, u0, h0, h1, h2, h3⟩ := num2_ex t p z hp
  obtain ⟨y1, q1, u1, k0, k1, k2, k3⟩ := num2_ex t q0 u0 h1
  unfold yearF
  simp only [h0, k0]
  split
  · exact ⟨_, _, _, rfl, k1, by omega, by omega⟩
  · exact ⟨_, _, _, rfl, h1, by split <;> omega, by split <;> omega⟩
theorem year_to {t : List UInt8} {b p q : Nat} {y : Int} {z u : Bool} {w0 w : World} (hA : Hid (yearF t p z = (y, q, u))) (h : Hid (DR w b t p z)) (hb : Hid (Below b w0 w)) (hp : p ≤ t.length) (hl : t.length ≤ 140737488355328) :
    Calls Try.prog 26 #[.pointer (some ⟨b, 0, none⟩)] w fun e w' => e = .returned (.int .i64 y) ∧ Hid (DR w' b t q u) ∧ Hid (Below b w0 w') := by
  obtain ⟨y0, q0, u0, h0, h1, h2, h3⟩ := num2_ex t p z hp
  obtain ⟨y1, q1, u1, k0, k1, k2, k3⟩ := num2_ex t q0 u0 h1
  have e := hA.out
  unfold yearF at e
  simp only [h0, k0] at e
  have H0 := Lib.hid h0
  have K0 := Lib.hid k0
  clear h0 k0 hA
  by_cases hd : dgB (pk t q0) = true
  · rw [if_pos hd] at e
    simp only [Prod.mk.injEq] at e
    obtain ⟨rfl, rfl, rfl⟩ := e
    go_enter Try.func26, Try.ntmps26
    go_wp2_with fail
    refine (dnumber_to rfl H0 h hb hp hl (by omega)).mono ?_
    rintro e w1 ⟨rfl, hD, hB⟩
    go_wp2_with fail
    refine (peek_to hD hB h1 hl).mono ?_
    rintro e w2 ⟨rfl, hD, hB⟩
    go_wp2_with (go_at_call 20; refine (isDigit_any _ _).mono ?_; rintro e w' ⟨rfl, rfl⟩)
    refine (dnumber_to rfl K0 hD hB h1 hl (by omega)).mono ?_
    rintro e w3 ⟨rfl, hD, hB⟩
    go_wp2_with fail
    go_ret
    exact ⟨rfl, hD, hB⟩
  · rw [if_neg hd] at e
    simp only [Prod.mk.injEq] at e
    obtain ⟨rfl, rfl, rfl⟩ := e
    have hd' : dgB (pk t q0) = false := by simpa using hd
    clear hd
    by_cases h68 : y0 ≤ 68
    · rw [if_pos h68]
      go_enter Try.func26, Try.ntmps26
      go_wp2_with fail
      refine (dnumber_to rfl H0 h hb hp hl (by omega)).mono ?_
      rintro e w1 ⟨rfl, hD, hB⟩
      go_wp2_with fail
      refine (peek_to hD hB h1 hl).mono ?_
      rintro e w2 ⟨rfl, hD, hB⟩
      go_wp2_with (go_at_call 20; refine (isDigit_any _ _).mono ?_; rintro e w' ⟨rfl, rfl⟩)
      go_ret
      exact ⟨rfl, hD, hB⟩
    · rw [if_neg h68]
      go_enter Try.func26, Try.ntmps26
      go_wp2_with fail
      refine (dnumber_to rfl H0 h hb hp hl (by omega)).mono ?_
      rintro e w1 ⟨rfl, hD, hB⟩
      go_wp2_with fail
      refine (peek_to hD hB h1 hl).mono ?_
      rintro e w2 ⟨rfl, hD, hB⟩
      go_wp2_with (go_at_call 20; refine (isDigit_any _ _).mono ?_; rintro e w' ⟨rfl, rfl⟩)
      go_ret
      exact ⟨rfl, hD, hB⟩

/-- The place behind the digits that begin at p. -/
def skipD (t : List UInt8) (p : Nat) : Nat := p + ((t.drop p).takeWhile dgB).length
theorem skipD_no (t : List UInt8) (p : Nat) (hp : p ≤ t.length) (h : dgB (pk t p) = false) : skipD t p = p := by
  unfold skipD
  by_cases hlt : p < t.length
  · rw [pk_lt t p hlt] at h
    rw [List.drop_eq_getElem_cons hlt, List.takeWhile_cons, if_neg (by simp [h])]; simp
  · rw [List.drop_eq_nil_of_le (by omega)]; simp
theorem skipD_yes (t : List UInt8) (p : Nat) (h : dgB (pk t p) = true) : p < t.length ∧ skipD t p = skipD t (p + 1) := by
  by_cases hlt : p < t.length
  · refine ⟨hlt, ?_⟩
    rw [pk_lt t p hlt] at h
    unfold skipD
    rw [List.drop_eq_getElem_cons hlt, List.takeWhile_cons, if_pos h, List.length_cons]; omega
  · have : pk t p = 0 := by unfold pk; rw [List.getD_eq_getElem?_getD, List.getElem?_eq_none (by omega)]; rfl
    rw [this] at h; exact absurd h (by decide)
theorem skipD_le (t : List UInt8) (p : Nat) (hp : p ≤ t.length) : skipD t p ≤ t.length := by
  unfold skipD
  have h := (List.takeWhile_sublist (l := t.drop p) dgB).length_le
  rw [List.length_drop] at h; omega
def fracF (t : List UInt8) (p : Nat) (z : Bool) : Nat × Bool := if pk t p = 46 then (skipD t (numF t 1 0 (p + 1) z).2.1, (numF t 1 0 (p + 1) z).2.2) else (p, z)
theorem pk_ne (t : List UInt8) (p : Nat) (hp : p ≤ t.length) (h : pk t p ≠ 0) : p < t.length := by
  by_cases hlt : p < t.length
  · exact hlt
  · obtain rfl : p = t.length := by omega
    exact absurd (pk_end t) h
theorem frac_ex (t : List UInt8) (p : Nat) (z : Bool) (hp : p ≤ t.length) : ∃ q u, fracF t p z = (q, u) ∧ q ≤ t.length := by
  refine ⟨(fracF t p z).1, (fracF t p z).2, rfl, ?_⟩
  unfold fracF
  split
  · next h =>
    have := pk_ne t p hp (by rw [h]; decide)
    exact skipD_le _ _ (numF_le _ _ _ _ _ this)
  · exact hp
theorem frac_to {t : List UInt8} {b p q : Nat} {z u : Bool} {w0 w : World} (hA : Hid (fracF t p z = (q, u))) (h : Hid (DR w b t p z)) (hb : Hid (Below b w0 w)) (hp : p ≤ t.length) (hl : t.length ≤ 140737488355328) :
    Calls Try.prog 34 #[.pointer (some ⟨b, 0, none⟩)] w fun e w' => e = .returned (.tuple #[]) ∧ Hid (DR w' b t q u) ∧ Hid (Below b w0 w') := by
  have e := hA.out
  unfold fracF at e
  clear hA
  obtain ⟨c, hc⟩ : ∃ c, c = pk t p := ⟨_, rfl⟩
  by_cases h46 : pk t p = 46
  · rw [if_pos h46] at e
    have hlt := pk_ne t p hp (by rw [h46]; decide)
    obtain ⟨y0, q0, u0, h0, h1⟩ := numF_ex t 1 (p + 1) z hlt
    rw [h0] at e
    simp only [Prod.mk.injEq] at e
    obtain ⟨rfl, rfl⟩ := e
    have n1 : ((c.toNat : Int) != 46) = false := by rw [hc, h46]; rfl
    have H0 := Lib.hid h0
    have HC := Lib.hid hc
    clear hc h46 h0
    go_enter Try.func34, Try.ntmps34
    go_wp2_with fail
    refine (peek_to h hb hp hl).mono ?_
    rintro e w1 ⟨rfl, hD, hB⟩
    rw [← HC.out]
    have d1 := hD.out.c1
    have d2 := hD.out.fr 1
    go_wp2_with fail
    have hD1 := Lib.hid (hD.out.setAt (p + 1) ((p : Int) + 1) (by omega))
    have hB1 := Lib.hid (hB.out.setCell (p := ⟨b, 1, none⟩) (Nat.le_refl b) (.int .i64 ((p : Int) + 1)))
    refine (dnumber_to rfl H0 hD1 hB1 hlt hl (by omega)).mono ?_
    rintro e w2 ⟨rfl, hD, hB⟩
    clear d1 d2 hD1 hB1
    go_wp2_with fail
    go_loopg [] (t.length - q0) (fun n wr => ∃ k : Nat, k + n = t.length ∧ Hid (skipD t k = skipD t q0) ∧ Hid (DR wr b t k u0) ∧ Hid (Below b w0 wr))
    case atStart => exact ⟨q0, by omega, Lib.hid rfl, hD, hB⟩
    case round =>
      obtain ⟨k, hk, HS, hD, hB⟩ := hrel
      have hkl : k ≤ t.length := by omega
      cases hd : dgB (pk t k) with
      | true =>
        obtain ⟨k1, k2⟩ := skipD_yes t k hd
        have HS2 : Hid (skipD t (k + 1) = skipD t q0) := Lib.hid (k2.symm.trans HS.out)
        clear k2
        have HK := Lib.hid hk
        clear hk
        go_wp2_with fail
        refine (peek_to hD hB hkl hl).mono ?_
        rintro e w2 ⟨rfl, hD, hB⟩
        have d1 := hD.out.c1
        have d2 := hD.out.fr 1
        go_wp2_with (go_at_call 20; refine (isDigit_any _ _).mono ?_; rintro e w' ⟨rfl, rfl⟩)
        clear d1 d2
        go_roundg (gk - 1)
        case measure => have := HK.out; omega
        case rel => exact ⟨k + 1, by have := HK.out; omega, HS2, Lib.hid (hD.out.setAt (k + 1) _ (by omega)), Lib.hid (hB.out.setCell (p := ⟨b, 1, none⟩) (Nat.le_refl b) _)⟩
      | false =>
        have e1 : skipD t q0 = k := by rw [← HS.out, skipD_no t k hkl hd]
        go_wp2_with fail
        refine (peek_to hD hB hkl hl).mono ?_
        rintro e w2 ⟨rfl, hD, hB⟩
        have HE := Lib.hid e1
        clear e1
        go_wp2_with (go_at_call 20; refine (isDigit_any _ _).mono ?_; rintro e w' ⟨rfl, rfl⟩)
        go_end0
        rw [HE.out]
        exact ⟨rfl, hD, hB⟩
  · rw [if_neg h46] at e
    simp only [Prod.mk.injEq] at e
    obtain ⟨rfl, rfl⟩ := e
    have n1 : ((c.toNat : Int) != 46) = true := by
      rw [bne_iff_ne]; intro h; exact h46 (by rw [← hc]; exact UInt8.toNat_inj.1 (by have : (46 : UInt8).toNat = 46 := rfl; omega))
    have HC := Lib.hid hc
    clear hc h46
    go_enter Try.func34, Try.ntmps34
    go_wp2_with fail
    refine (peek_to h hb hp hl).mono ?_
    rintro e w1 ⟨rfl, hD, hB⟩
    rw [← HC.out]
    go_wp2_with fail
    exact bodyPost_ret (results_none rfl _ _ _) rfl ⟨rfl, hD, hB⟩
end Go.Proofs.Ytnaafdennieedaa
