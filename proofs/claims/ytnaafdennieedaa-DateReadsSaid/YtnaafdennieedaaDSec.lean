/- Layer 5: the reader of times: offset, zones, second. -/
import Derived.Test.YtnaafdennieedaaDZone
namespace Go.Proofs.Ytnaafdennieedaa
open Go.RowKit

def offV (c : UInt8) (h mi : Int) : Int := if c = 45 then -h * 3600 - mi * 60 else h * 3600 + mi * 60
def offZ (z : Bool) (h mi : Int) : Bool := z || (decide (23 < h) || decide (59 < mi))
theorem offV_bd (c : UInt8) (h mi : Int) (h1 : -6000 ≤ h) (h2 : h ≤ 99) (m1 : -6000 ≤ mi) (m2 : mi ≤ 99) : -30000000 ≤ offV c h mi ∧ offV c h mi ≤ 30000000 := by
  unfold offV; split <;> omega
theorem offset_to {c : UInt8} {t : List UInt8} {b p : Nat} {h mi : Int} {z : Bool} {w0 w : World} (hD : Hid (DR w b t p z)) (hB : Hid (Below b w0 w)) (h1 : -6000 ≤ h) (h2 : h ≤ 99) (m1 : -6000 ≤ mi) (m2 : mi ≤ 99) :
    Calls Try.prog 46 #[.pointer (some ⟨b, 0, none⟩), .int .u8 (c.toNat : Int), .int .i64 h, .int .i64 mi] w fun e w' => e = .returned (.int .i64 (offV c h mi)) ∧ Hid (DR w' b t p (offZ z h mi)) ∧ Hid (Below b w0 w') := by
  have c2 := hD.out.c2
  have f2 := hD.out.fr 2
  have HS : Hid (DR (w.setCell ⟨b, 2, none⟩ (.bool true)) b t p true ∧ Below b w0 (w.setCell ⟨b, 2, none⟩ (.bool true))) := Lib.hid ⟨hD.out.setBad true, hB.out.setCell (p := ⟨b, 2, none⟩) (Nat.le_refl b) _⟩
  by_cases hc : c = 45
  · have n0 : ((c.toNat : Int) == 45) = true := by rw [hc]; rfl
    have ev : offV c h mi = -h * 3600 - mi * 60 := by rw [offV, if_pos hc]
    rw [ev]
    clear ev hc
    by_cases g1 : 23 < h
    · have ez : offZ z h mi = true := by simp [offZ, g1]
      rw [ez]
      clear ez
      go_enter Try.func46, Try.ntmps46
      go_wp2
      go_ret
      exact ⟨rfl, Lib.hid HS.out.1, Lib.hid HS.out.2⟩
    by_cases g2 : 59 < mi
    · have ez : offZ z h mi = true := by simp [offZ, g2]
      rw [ez]
      clear ez
      go_enter Try.func46, Try.ntmps46
      go_wp2
      go_ret
      exact ⟨rfl, Lib.hid HS.out.1, Lib.hid HS.out.2⟩
    have ez : offZ z h mi = z := by simp [offZ, g1, g2]
    rw [ez]
    clear ez
    go_enter Try.func46, Try.ntmps46
    go_wp2
    go_ret
    exact ⟨rfl, hD, hB⟩
  · have n0 : ((c.toNat : Int) == 45) = false := by
      rw [beq_eq_false_iff_ne]; intro h; exact hc (UInt8.toNat_inj.1 (by have : (45 : UInt8).toNat = 45 := rfl; omega))
    have ev : offV c h mi = h * 3600 + mi * 60 := by rw [offV, if_neg hc]
    rw [ev]
    clear ev hc
    by_cases g1 : 23 < h
    · have ez : offZ z h mi = true := by simp [offZ, g1]
      rw [ez]
      clear ez
      go_enter Try.func46, Try.ntmps46
      go_wp2
      go_ret
      exact ⟨rfl, Lib.hid HS.out.1, Lib.hid HS.out.2⟩
    by_cases g2 : 59 < mi
    · have ez : offZ z h mi = true := by simp [offZ, g2]
      rw [ez]
      clear ez
      go_enter Try.func46, Try.ntmps46
      go_wp2
      go_ret
      exact ⟨rfl, Lib.hid HS.out.1, Lib.hid HS.out.2⟩
    have ez : offZ z h mi = z := by simp [offZ, g1, g2]
    rw [ez]
    clear ez
    go_enter Try.func46, Try.ntmps46
    go_wp2
    go_ret
    exact ⟨rfl, hD, hB⟩

def nzF (t : List UInt8) (p : Nat) (z : Bool) : Int × Nat × Bool :=
  let s := sgnF [90, 122, 43, 45] t p z
  if s.1 = 90 ∨ s.1 = 122 then (0, s.2.1, s.2.2) else
  let a := numF t 2 0 s.2.1 s.2.2
  let k := sgnF [58] t a.2.1 a.2.2
  let m := numF t 2 0 k.2.1 k.2.2
  (offV s.1 a.1 m.1, m.2.1, offZ m.2.2 a.1 m.1)
theorem nz_ex (t : List UInt8) (p : Nat) (z : Bool) (hp : p ≤ t.length) : ∃ y q u, nzF t p z = (y, q, u) ∧ q ≤ t.length ∧ -30000000 ≤ y ∧ y ≤ 30000000 := by
  obtain ⟨c, q0, u0, h0, h1⟩ := sgnF_ex [90, 122, 43, 45] t p z hp
  obtain ⟨y1, q1, u1, k0, k1, k2, k3⟩ := num2_ex t q0 u0 h1
  obtain ⟨c2, q2, u2, l0, l1⟩ := sgnF_ex [58] t q1 u1 k1
  obtain ⟨y3, q3, u3, m0, m1, m2, m3⟩ := num2_ex t q2 u2 l1
  unfold nzF
  simp only [h0, k0, l0, m0]
  split
  · exact ⟨_, _, _, rfl, h1, by omega, by omega⟩
  · have := offV_bd c y1 y3 k2 k3 m2 m3
    exact ⟨_, _, _, rfl, m1, this.1, this.2⟩
theorem nz_to {t : List UInt8} {b p q : Nat} {y : Int} {z u : Bool} {w0 w : World} (hA : Hid (nzF t p z = (y, q, u))) (h : Hid (DR w b t p z)) (hb : Hid (Below b w0 w)) (hp : p ≤ t.length) (hl : t.length ≤ 140737488355328) :
    Calls Try.prog 35 #[.pointer (some ⟨b, 0, none⟩)] w fun e w' => e = .returned (.int .i64 y) ∧ Hid (DR w' b t q u) ∧ Hid (Below b w0 w') := by
  obtain ⟨c, q0, u0, h0, h1⟩ := sgnF_ex [90, 122, 43, 45] t p z hp
  obtain ⟨y1, q1, u1, k0, k1, k2, k3⟩ := num2_ex t q0 u0 h1
  obtain ⟨c2, q2, u2, l0, l1⟩ := sgnF_ex [58] t q1 u1 k1
  obtain ⟨y3, q3, u3, m0, m1, m2, m3⟩ := num2_ex t q2 u2 l1
  have e := hA.out
  unfold nzF at e
  simp only [h0, k0, l0, m0] at e
  have H0 := Lib.hid h0
  have K0 := Lib.hid k0
  have L0 := Lib.hid l0
  have M0 := Lib.hid m0
  clear h0 k0 l0 m0 hA
  by_cases hc : c = 90 ∨ c = 122
  · rw [if_pos hc] at e
    simp only [Prod.mk.injEq] at e
    obtain ⟨rfl, rfl, rfl⟩ := e
    rcases hc with hc | hc
    · have n0 : ((c.toNat : Int) == 90) = true := by rw [hc]; rfl
      clear hc
      go_enter Try.func35, Try.ntmps35
      go_wp2_with fail
      refine (sign_to H0 h hb hp hl).mono ?_
      rintro e w1 ⟨rfl, hD, hB⟩
      go_wp2_with fail
      go_ret
      exact ⟨rfl, hD, hB⟩
    · have n0 : ((c.toNat : Int) == 90) = false := by rw [hc]; rfl
      have n1 : ((c.toNat : Int) == 122) = true := by rw [hc]; rfl
      clear hc
      go_enter Try.func35, Try.ntmps35
      go_wp2_with fail
      refine (sign_to H0 h hb hp hl).mono ?_
      rintro e w1 ⟨rfl, hD, hB⟩
      go_wp2_with fail
      go_ret
      exact ⟨rfl, hD, hB⟩
  · rw [if_neg hc] at e
    simp only [Prod.mk.injEq] at e
    obtain ⟨rfl, rfl, rfl⟩ := e
    have n0 : ((c.toNat : Int) == 90) = false := by
      rw [beq_eq_false_iff_ne]; intro h; exact hc (.inl (UInt8.toNat_inj.1 (by have : (90 : UInt8).toNat = 90 := rfl; omega)))
    have n1 : ((c.toNat : Int) == 122) = false := by
      rw [beq_eq_false_iff_ne]; intro h; exact hc (.inr (UInt8.toNat_inj.1 (by have : (122 : UInt8).toNat = 122 := rfl; omega)))
    clear hc
    go_enter Try.func35, Try.ntmps35
    go_wp2_with fail
    refine (sign_to H0 h hb hp hl).mono ?_
    rintro e w1 ⟨rfl, hD, hB⟩
    go_wp2_with fail
    refine (dnumber_to rfl K0 hD hB h1 hl (by omega)).mono ?_
    rintro e w2 ⟨rfl, hD, hB⟩
    go_wp2_with fail
    refine (sign_to L0 hD hB k1 hl).mono ?_
    rintro e w3 ⟨rfl, hD, hB⟩
    go_wp2_with fail
    refine (dnumber_to rfl M0 hD hB l1 hl (by omega)).mono ?_
    rintro e w4 ⟨rfl, hD, hB⟩
    go_wp2_with fail
    refine (offset_to hD hB k2 k3 m2 m3).mono ?_
    rintro e w5 ⟨rfl, hD, hB⟩
    go_wp2_with fail
    go_ret
    exact ⟨rfl, hD, hB⟩

def zoneV (l : List UInt8) : Option Int :=
  if l = [71, 77, 84] ∨ l = [85, 84] ∨ l = [90] then some 0 else if l = [69, 68, 84] then some (-14400) else if l = [69, 83, 84] ∨ l = [67, 68, 84] then some (-18000) else
  if l = [67, 83, 84] ∨ l = [77, 68, 84] then some (-21600) else if l = [77, 83, 84] ∨ l = [80, 68, 84] then some (-25200) else if l = [80, 83, 84] then some (-28800) else none
def mzF (t : List UInt8) (p : Nat) (z : Bool) : Int × Nat × Bool :=
  if pk t p = 43 ∨ pk t p = 45 then
    let a := numF t 2 0 (p + 1) z
    let m := numF t 2 0 a.2.1 a.2.2
    (offV (pk t p) a.1 m.1, m.2.1, offZ m.2.2 a.1 m.1)
  else match zoneV (t.drop p) with
    | some v => (v, t.length, z)
    | none => (0, t.length, true)
theorem zoneV_bd (l : List UInt8) (v : Int) (h : zoneV l = some v) : -30000000 ≤ v ∧ v ≤ 30000000 := by
  unfold zoneV at h
  (repeat' split at h) <;> (try have := Option.some.inj h) <;> first | omega | cases h
theorem mz_ex (t : List UInt8) (p : Nat) (z : Bool) (hp : p ≤ t.length) : ∃ y q u, mzF t p z = (y, q, u) ∧ q ≤ t.length ∧ -30000000 ≤ y ∧ y ≤ 30000000 := by
  unfold mzF
  split
  · next h =>
    have hlt := pk_ne t p hp (by rcases h with h | h <;> rw [h] <;> decide)
    obtain ⟨y1, q1, u1, k0, k1, k2, k3⟩ := num2_ex t (p + 1) z hlt
    obtain ⟨y3, q3, u3, m0, m1, m2, m3⟩ := num2_ex t q1 u1 k1
    simp only [k0, m0]
    have := offV_bd (pk t p) y1 y3 k2 k3 m2 m3
    exact ⟨_, _, _, rfl, m1, this.1, this.2⟩
  · split
    · next v hv => exact ⟨_, _, _, rfl, Nat.le_refl _, (zoneV_bd _ _ hv).1, (zoneV_bd _ _ hv).2⟩
    · exact ⟨_, _, _, rfl, Nat.le_refl _, by omega, by omega⟩
end Go.Proofs.Ytnaafdennieedaa
