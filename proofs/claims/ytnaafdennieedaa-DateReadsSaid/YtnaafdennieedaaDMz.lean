/- Layer 5: the zone of mail; second; Net, Mail, Any. -/
import Derived.Test.YtnaafdennieedaaDSec
namespace Go.Proofs.Ytnaafdennieedaa
open Go.RowKit

/-- A text that is none of the zones. -/
def noZ (l : List UInt8) : Prop := (l == [71, 77, 84]) = false ∧ (l == [85, 84]) = false ∧ (l == [90]) = false ∧ (l == [69, 68, 84]) = false ∧ (l == [69, 83, 84]) = false ∧ (l == [67, 68, 84]) = false ∧ (l == [67, 83, 84]) = false ∧ (l == [77, 68, 84]) = false ∧ (l == [77, 83, 84]) = false ∧ (l == [80, 68, 84]) = false ∧ (l == [80, 83, 84]) = false
theorem noZ_of (l : List UInt8) (h : zoneV l = none) : noZ l := by
  unfold zoneV at h
  unfold noZ
  refine ⟨?_, ?_, ?_, ?_, ?_, ?_, ?_, ?_, ?_, ?_, ?_⟩
  all_goals
    rw [beq_eq_false_iff_ne]
    intro e
    subst e
    exact absurd h (by decide)
theorem zone_cases (l : List UInt8) (v : Int) (h : zoneV l = some v) : (l = [71, 77, 84] ∧ v = 0) ∨ (l = [85, 84] ∧ v = 0) ∨ (l = [90] ∧ v = 0) ∨ (l = [69, 68, 84] ∧ v = (-14400)) ∨ (l = [69, 83, 84] ∧ v = (-18000)) ∨ (l = [67, 68, 84] ∧ v = (-18000)) ∨ (l = [67, 83, 84] ∧ v = (-21600)) ∨ (l = [77, 68, 84] ∧ v = (-21600)) ∨ (l = [77, 83, 84] ∧ v = (-25200)) ∨ (l = [80, 68, 84] ∧ v = (-25200)) ∨ (l = [80, 83, 84] ∧ v = (-28800)) := by
  unfold zoneV at h
  (repeat' split at h) <;> (try obtain rfl := Option.some.inj h) <;> first | (cases h; done) | (simp_all; done) | skip
  all_goals (next g => rcases g with g | g | g <;> simp [g])
theorem mz_sign {t : List UInt8} {b p q : Nat} {y : Int} {z u : Bool} {w0 w : World} (hs : pk t p = 43 ∨ pk t p = 45) (hA : Hid (mzF t p z = (y, q, u))) (h : Hid (DR w b t p z)) (hb : Hid (Below b w0 w)) (hp : p ≤ t.length) (hl : t.length ≤ 140737488355328) :
    Calls Try.prog 27 #[.pointer (some ⟨b, 0, none⟩)] w fun e w' => e = .returned (.int .i64 y) ∧ Hid (DR w' b t q u) ∧ Hid (Below b w0 w') := by
  have hlt := pk_ne t p hp (by rcases hs with h | h <;> rw [h] <;> decide)
  obtain ⟨y1, q1, u1, k0, k1, k2, k3⟩ := num2_ex t (p + 1) z hlt
  obtain ⟨y3, q3, u3, m0, m1, m2, m3⟩ := num2_ex t q1 u1 k1
  have e := hA.out
  unfold mzF at e
  rw [if_pos hs] at e
  simp only [k0, m0] at e
  have K0 := Lib.hid k0
  have M0 := Lib.hid m0
  obtain ⟨c, hc⟩ : ∃ c, c = pk t p := ⟨_, rfl⟩
  rw [← hc] at e hs
  simp only [Prod.mk.injEq] at e
  obtain ⟨rfl, rfl, rfl⟩ := e
  have HC := Lib.hid hc
  clear k0 m0 hA hc
  have hn : (((c.toNat : Int) == 43) = true) ∨ (((c.toNat : Int) == 43) = false ∧ ((c.toNat : Int) == 45) = true) := by
    rcases hs with h | h
    · exact .inl (by rw [h]; rfl)
    · exact .inr ⟨by rw [h]; rfl, by rw [h]; rfl⟩
  clear hs
  rcases hn with n0 | ⟨n0, n1⟩
  all_goals
    go_enter Try.func27, Try.ntmps27
    go_wp2_with fail
    refine (peek_to h hb hp hl).mono ?_
    rintro e w1 ⟨rfl, hD, hB⟩
    rw [← HC.out]
    have d1 := hD.out.c1
    have d2 := hD.out.fr 1
    go_wp2_with fail
    have hD1 := Lib.hid (hD.out.setAt (p + 1) ((p : Int) + 1) (by omega))
    have hB1 := Lib.hid (hB.out.setCell (p := ⟨b, 1, none⟩) (Nat.le_refl b) (.int .i64 ((p : Int) + 1)))
    clear d1 d2
    refine (dnumber_to rfl K0 hD1 hB1 hlt hl (by omega)).mono ?_
    rintro e w2 ⟨rfl, hD, hB⟩
    go_wp2_with fail
    refine (dnumber_to rfl M0 hD hB k1 hl (by omega)).mono ?_
    rintro e w3 ⟨rfl, hD, hB⟩
    go_wp2_with fail
    refine (offset_to hD hB k2 k3 m2 m3).mono ?_
    rintro e w4 ⟨rfl, hD, hB⟩
    go_wp2_with fail
    go_ret
    exact ⟨rfl, hD, hB⟩
set_option maxHeartbeats 1600000 in
theorem mz_word {t : List UInt8} {b p q : Nat} {y : Int} {z u : Bool} {w0 w : World} (hs : ¬ (pk t p = 43 ∨ pk t p = 45)) (hA : Hid (mzF t p z = (y, q, u))) (h : Hid (DR w b t p z)) (hb : Hid (Below b w0 w)) (hp : p ≤ t.length) (hl : t.length ≤ 140737488355328) :
    Calls Try.prog 27 #[.pointer (some ⟨b, 0, none⟩)] w fun e w' => e = .returned (.int .i64 y) ∧ Hid (DR w' b t q u) ∧ Hid (Below b w0 w') := by
  have e := hA.out
  unfold mzF at e
  rw [if_neg hs] at e
  clear hA
  obtain ⟨c, hc⟩ : ∃ c, c = pk t p := ⟨_, rfl⟩
  rw [← hc] at hs
  have n0 : ((c.toNat : Int) == 43) = false := by
    rw [beq_eq_false_iff_ne]; intro h; exact hs (.inl (UInt8.toNat_inj.1 (by have : (43 : UInt8).toNat = 43 := rfl; omega)))
  have n1 : ((c.toNat : Int) == 45) = false := by
    rw [beq_eq_false_iff_ne]; intro h; exact hs (.inr (UInt8.toNat_inj.1 (by have : (45 : UInt8).toNat = 45 := rfl; omega)))
  have HC := Lib.hid hc
  clear hc hs
  have s1 : (ByteArray.mk t.toArray).extract p t.length = ByteArray.mk (t.drop p).toArray := by rw [str_cut, List.take_of_length_le (by simp)]
  obtain ⟨l, hl0⟩ : ∃ l, l = t.drop p := ⟨_, rfl⟩
  rw [← hl0] at e s1
  have r1 : (0 : Int) ≤ (p : Int) := by omega
  have r2 : (p : Int) ≤ (t.length : Int) := by omega
  clear hl0
  cases hz : zoneV l with
  | none =>
    rw [hz] at e
    simp only [Prod.mk.injEq] at e
    obtain ⟨rfl, rfl, rfl⟩ := e
    have hno := noZ_of l hz
    unfold noZ at hno
    obtain ⟨g0, g1, g2, g3, g4, g5, g6, g7, g8, g9, g10⟩ := hno
    clear hz
    go_enter Try.func27, Try.ntmps27
    go_wp2_with fail
    refine (peek_to h hb hp hl).mono ?_
    rintro e w1 ⟨rfl, hD, hB⟩
    rw [← HC.out]
    have d0 := hD.out.c0
    have d1 := hD.out.c1
    have d2 := hD.out.c2
    have f1 := hD.out.fr 1
    have f2 := hD.out.fr 2
    go_wp2_with fail
    go_quiet (fail)
    go_wp2_with fail
    go_ret
    exact ⟨rfl, Lib.hid (((hD.out.drewN _).setAt _ _ rfl).setBad true), Lib.hid (((Below.drewsN hB.out _).setCell (p := ⟨b, 1, none⟩) (Nat.le_refl b) _).setCell (p := ⟨b, 2, none⟩) (Nat.le_refl b) _)⟩
  | some v =>
    rw [hz] at e
    simp only [Prod.mk.injEq] at e
    obtain ⟨rfl, rfl, rfl⟩ := e
    have hcs := zone_cases l v hz
    clear hz
    rcases hcs with ⟨rfl, rfl⟩ | ⟨rfl, rfl⟩ | ⟨rfl, rfl⟩ | ⟨rfl, rfl⟩ | ⟨rfl, rfl⟩ | ⟨rfl, rfl⟩ | ⟨rfl, rfl⟩ | ⟨rfl, rfl⟩ | ⟨rfl, rfl⟩ | ⟨rfl, rfl⟩ | ⟨rfl, rfl⟩
    all_goals
      go_enter Try.func27, Try.ntmps27
      go_wp2_with fail
      refine (peek_to h hb hp hl).mono ?_
      rintro e w1 ⟨rfl, hD, hB⟩
      rw [← HC.out]
      have d0 := hD.out.c0
      have d1 := hD.out.c1
      have f1 := hD.out.fr 1
      go_wp2_with fail
      go_quiet (fail)
      go_wp2_with fail
      go_ret
      exact ⟨rfl, Lib.hid ((hD.out.drewN _).setAt _ _ rfl), Lib.hid ((Below.drewsN hB.out _).setCell (p := ⟨b, 1, none⟩) (Nat.le_refl b) _)⟩
theorem mz_to {t : List UInt8} {b p q : Nat} {y : Int} {z u : Bool} {w0 w : World} (hA : Hid (mzF t p z = (y, q, u))) (h : Hid (DR w b t p z)) (hb : Hid (Below b w0 w)) (hp : p ≤ t.length) (hl : t.length ≤ 140737488355328) :
    Calls Try.prog 27 #[.pointer (some ⟨b, 0, none⟩)] w fun e w' => e = .returned (.int .i64 y) ∧ Hid (DR w' b t q u) ∧ Hid (Below b w0 w') := by
  by_cases hs : pk t p = 43 ∨ pk t p = 45
  · exact mz_sign hs hA h hb hp hl
  · exact mz_word hs hA h hb hp hl
end Go.Proofs.Ytnaafdennieedaa
