/- Layer 5: hblref1.Net. -/
import Derived.Test.YtnaafdennieedaaRZone
namespace Go.Proofs.Ytnaafdennieedaa
open Go.RowKit

theorem neqb {c e : UInt8} (h : c ≠ e) {z : Int} (hz : z = (e.toNat : Int)) : ((c.toNat : Int) != z) = true := by
  rw [hz, bne_iff_ne]
  intro h'
  exact h (UInt8.toNat_inj.1 (by omega))
theorem eqb {c e : UInt8} (h : c = e) {z : Int} (hz : z = (e.toNat : Int)) : ((c.toNat : Int) != z) = false := by
  rw [hz, h]
  exact bne_self_eq_false _
/-- A time's signs stand where they must. -/
def rhdB (t : List UInt8) : Bool := decide (20 ≤ t.length ∧ pk t 4 = 45 ∧ pk t 7 = 45 ∧ (pk t 10 = 84 ∨ pk t 10 = 116) ∧ pk t 13 = 58 ∧ pk t 16 = 58)
set_option maxHeartbeats 1600000 in
theorem rnet_head (t : List UInt8) (w : World) (H : rhdB t = false) : Calls Try.prog 12 #[str t] w fun e w' => e = twoE (0, 4) ∧ w' = w := by
  unfold twoE
  unfold rhdB at H
  rw [decide_eq_false_iff_not] at H
  by_cases h20 : t.length < 20
  · have l0 : (t.length : Int) < 20 := by omega
    clear H h20
    go_enter Try.func12, Try.ntmps12
    go_wp2_with fail
    go_ret2
    exact ⟨rfl, rfl⟩
  have l0 : ¬ (t.length : Int) < 20 := by omega
  obtain ⟨c4, hc4⟩ : ∃ c, c = pk t 4 := ⟨_, rfl⟩
  rw [← hc4] at H
  have g4 : (ByteArray.mk t.toArray)[4]'(by simp [ByteArray.size]; omega) = c4 := by rw [hc4, pk_lt t 4 (by omega)]; rfl
  have m4 : (4 : Int) < (t.length : Int) := by omega
  clear hc4
  obtain ⟨c7, hc7⟩ : ∃ c, c = pk t 7 := ⟨_, rfl⟩
  rw [← hc7] at H
  have g7 : (ByteArray.mk t.toArray)[7]'(by simp [ByteArray.size]; omega) = c7 := by rw [hc7, pk_lt t 7 (by omega)]; rfl
  have m7 : (7 : Int) < (t.length : Int) := by omega
  clear hc7
  obtain ⟨c10, hc10⟩ : ∃ c, c = pk t 10 := ⟨_, rfl⟩
  rw [← hc10] at H
  have g10 : (ByteArray.mk t.toArray)[10]'(by simp [ByteArray.size]; omega) = c10 := by rw [hc10, pk_lt t 10 (by omega)]; rfl
  have m10 : (10 : Int) < (t.length : Int) := by omega
  clear hc10
  obtain ⟨c13, hc13⟩ : ∃ c, c = pk t 13 := ⟨_, rfl⟩
  rw [← hc13] at H
  have g13 : (ByteArray.mk t.toArray)[13]'(by simp [ByteArray.size]; omega) = c13 := by rw [hc13, pk_lt t 13 (by omega)]; rfl
  have m13 : (13 : Int) < (t.length : Int) := by omega
  clear hc13
  obtain ⟨c16, hc16⟩ : ∃ c, c = pk t 16 := ⟨_, rfl⟩
  rw [← hc16] at H
  have g16 : (ByteArray.mk t.toArray)[16]'(by simp [ByteArray.size]; omega) = c16 := by rw [hc16, pk_lt t 16 (by omega)]; rfl
  have m16 : (16 : Int) < (t.length : Int) := by omega
  clear hc16
  by_cases k4 : c4 ≠ 45
  · have n4 : ((c4.toNat : Int) != 45) = true := neqb k4 rfl
    clear H k4
    go_enter Try.func12, Try.ntmps12
    go_wp2_with fail
    go_ret2
    exact ⟨rfl, rfl⟩
  have n4 : ((c4.toNat : Int) != 45) = false := eqb (Decidable.not_not.1 k4) rfl
  by_cases k7 : c7 ≠ 45
  · have n7 : ((c7.toNat : Int) != 45) = true := neqb k7 rfl
    clear H k7
    go_enter Try.func12, Try.ntmps12
    go_wp2_with fail
    go_ret2
    exact ⟨rfl, rfl⟩
  have n7 : ((c7.toNat : Int) != 45) = false := eqb (Decidable.not_not.1 k7) rfl
  by_cases k10 : c10 ≠ 84 ∧ c10 ≠ 116
  · have n10 : ((c10.toNat : Int) != 84) = true := neqb k10.1 rfl
    have o10 : ((c10.toNat : Int) != 116) = true := neqb k10.2 rfl
    clear H k10
    go_enter Try.func12, Try.ntmps12
    go_wp2_with fail
    go_ret2
    exact ⟨rfl, rfl⟩
  have HN : (((c10.toNat : Int) != 84) = false) ∨ (((c10.toNat : Int) != 84) = true ∧ ((c10.toNat : Int) != 116) = false) := by
    by_cases k : c10 = 84
    · exact .inl (eqb k rfl)
    · exact .inr ⟨neqb k rfl, eqb (Decidable.not_not.1 (fun h => k10 ⟨k, h⟩)) rfl⟩
  have HF : c13 ≠ 58 ∨ c16 ≠ 58 := by
    by_cases x : c13 = 58
    · by_cases y : c16 = 58
      · exact (H ⟨by omega, Decidable.not_not.1 k4, Decidable.not_not.1 k7, Classical.byContradiction fun h => k10 ⟨fun a => h (.inl a), fun a => h (.inr a)⟩, x, y⟩).elim
      · exact .inr y
    · exact .inl x
  clear H k4 k7 k10
  rcases HN with n10 | ⟨n10, o10⟩
  · by_cases k13 : c13 ≠ 58
    · have n13 : ((c13.toNat : Int) != 58) = true := neqb k13 rfl
      clear HF k13
      go_enter Try.func12, Try.ntmps12
      go_wp2_with fail
      go_ret2
      exact ⟨rfl, rfl⟩
    · have n13 : ((c13.toNat : Int) != 58) = false := eqb (Decidable.not_not.1 k13) rfl
      have n16 : ((c16.toNat : Int) != 58) = true := neqb (HF.resolve_left k13) rfl
      clear HF k13
      go_enter Try.func12, Try.ntmps12
      go_wp2_with fail
      go_ret2
      exact ⟨rfl, rfl⟩
  · by_cases k13 : c13 ≠ 58
    · have n13 : ((c13.toNat : Int) != 58) = true := neqb k13 rfl
      clear HF k13
      go_enter Try.func12, Try.ntmps12
      go_wp2_with fail
      go_ret2
      exact ⟨rfl, rfl⟩
    · have n13 : ((c13.toNat : Int) != 58) = false := eqb (Decidable.not_not.1 k13) rfl
      have n16 : ((c16.toNat : Int) != 58) = true := neqb (HF.resolve_left k13) rfl
      clear HF k13
      go_enter Try.func12, Try.ntmps12
      go_wp2_with fail
      go_ret2
      exact ⟨rfl, rfl⟩
/-- A number is lacking. -/
def rngB (t : List UInt8) : Bool := decide (0 ≤ rdgR t 0 4 ∧ 0 ≤ rdgR t 5 2 ∧ 0 ≤ rdgR t 8 2 ∧ 0 ≤ rdgR t 11 2 ∧ 0 ≤ rdgR t 14 2 ∧ 0 ≤ rdgR t 17 2)
set_option maxRecDepth 100000 in
set_option maxHeartbeats 8000000 in
theorem rnet_digs (t : List UInt8) (w : World) (hl : t.length ≤ 140737488355328) (H : rhdB t = true) (HG : rngB t = false) : Calls Try.prog 12 #[str t] w fun e w' => e = twoE (0, 4) ∧ w' = w := by
  unfold twoE
  unfold rhdB at H
  rw [decide_eq_true_eq] at H
  have h20 : 20 ≤ t.length := H.1
  have l0 : ¬ (t.length : Int) < 20 := by omega
  obtain ⟨c4, hc4⟩ : ∃ c, c = pk t 4 := ⟨_, rfl⟩
  rw [← hc4] at H
  have g4 : (ByteArray.mk t.toArray)[4]'(by simp [ByteArray.size]; omega) = c4 := by rw [hc4, pk_lt t 4 (by omega)]; rfl
  have m4 : (4 : Int) < (t.length : Int) := by omega
  clear hc4
  obtain ⟨c7, hc7⟩ : ∃ c, c = pk t 7 := ⟨_, rfl⟩
  rw [← hc7] at H
  have g7 : (ByteArray.mk t.toArray)[7]'(by simp [ByteArray.size]; omega) = c7 := by rw [hc7, pk_lt t 7 (by omega)]; rfl
  have m7 : (7 : Int) < (t.length : Int) := by omega
  clear hc7
  obtain ⟨c10, hc10⟩ : ∃ c, c = pk t 10 := ⟨_, rfl⟩
  rw [← hc10] at H
  have g10 : (ByteArray.mk t.toArray)[10]'(by simp [ByteArray.size]; omega) = c10 := by rw [hc10, pk_lt t 10 (by omega)]; rfl
  have m10 : (10 : Int) < (t.length : Int) := by omega
  clear hc10
  obtain ⟨c13, hc13⟩ : ∃ c, c = pk t 13 := ⟨_, rfl⟩
  rw [← hc13] at H
  have g13 : (ByteArray.mk t.toArray)[13]'(by simp [ByteArray.size]; omega) = c13 := by rw [hc13, pk_lt t 13 (by omega)]; rfl
  have m13 : (13 : Int) < (t.length : Int) := by omega
  clear hc13
  obtain ⟨c16, hc16⟩ : ∃ c, c = pk t 16 := ⟨_, rfl⟩
  rw [← hc16] at H
  have g16 : (ByteArray.mk t.toArray)[16]'(by simp [ByteArray.size]; omega) = c16 := by rw [hc16, pk_lt t 16 (by omega)]; rfl
  have m16 : (16 : Int) < (t.length : Int) := by omega
  clear hc16
  obtain ⟨_, k4, k7, k10, k13, k16⟩ := H
  have n4 : ((c4.toNat : Int) != 45) = false := eqb k4 rfl
  have n7 : ((c7.toNat : Int) != 45) = false := eqb k7 rfl
  have HN : (((c10.toNat : Int) != 84) = false) ∨ (((c10.toNat : Int) != 84) = true ∧ ((c10.toNat : Int) != 116) = false) := by
    by_cases k : c10 = 84
    · exact .inl (eqb k rfl)
    · exact .inr ⟨neqb k rfl, eqb (k10.resolve_left k) rfl⟩
  have n13 : ((c13.toNat : Int) != 58) = false := eqb k13 rfl
  have n16 : ((c16.toNat : Int) != 58) = false := eqb k16 rfl
  clear k4 k7 k10 k13 k16
  unfold rngB at HG
  rw [decide_eq_false_iff_not] at HG
  obtain ⟨y, hy⟩ : ∃ x, x = rdgR t 0 4 := ⟨_, rfl⟩
  have D0 : Hid (∀ W, Calls Try.prog 31 #[str t, .int .i64 0, .int .i64 4] W fun e w' => e = .returned (.int .i64 y) ∧ w' = W) := Lib.hid (fun W => by rw [hy]; exact rdigits_any t 0 4 W hl (by omega) (by omega))
  rw [← hy] at HG
  clear hy
  obtain ⟨mo, hmo⟩ : ∃ x, x = rdgR t 5 2 := ⟨_, rfl⟩
  have D1 : Hid (∀ W, Calls Try.prog 31 #[str t, .int .i64 5, .int .i64 2] W fun e w' => e = .returned (.int .i64 mo) ∧ w' = W) := Lib.hid (fun W => by rw [hmo]; exact rdigits_any t 5 2 W hl (by omega) (by omega))
  rw [← hmo] at HG
  clear hmo
  obtain ⟨d, hd⟩ : ∃ x, x = rdgR t 8 2 := ⟨_, rfl⟩
  have D2 : Hid (∀ W, Calls Try.prog 31 #[str t, .int .i64 8, .int .i64 2] W fun e w' => e = .returned (.int .i64 d) ∧ w' = W) := Lib.hid (fun W => by rw [hd]; exact rdigits_any t 8 2 W hl (by omega) (by omega))
  rw [← hd] at HG
  clear hd
  obtain ⟨h, hh⟩ : ∃ x, x = rdgR t 11 2 := ⟨_, rfl⟩
  have D3 : Hid (∀ W, Calls Try.prog 31 #[str t, .int .i64 11, .int .i64 2] W fun e w' => e = .returned (.int .i64 h) ∧ w' = W) := Lib.hid (fun W => by rw [hh]; exact rdigits_any t 11 2 W hl (by omega) (by omega))
  rw [← hh] at HG
  clear hh
  obtain ⟨mi, hmi⟩ : ∃ x, x = rdgR t 14 2 := ⟨_, rfl⟩
  have D4 : Hid (∀ W, Calls Try.prog 31 #[str t, .int .i64 14, .int .i64 2] W fun e w' => e = .returned (.int .i64 mi) ∧ w' = W) := Lib.hid (fun W => by rw [hmi]; exact rdigits_any t 14 2 W hl (by omega) (by omega))
  rw [← hmi] at HG
  clear hmi
  obtain ⟨s, hs⟩ : ∃ x, x = rdgR t 17 2 := ⟨_, rfl⟩
  have D5 : Hid (∀ W, Calls Try.prog 31 #[str t, .int .i64 17, .int .i64 2] W fun e w' => e = .returned (.int .i64 s) ∧ w' = W) := Lib.hid (fun W => by rw [hs]; exact rdigits_any t 17 2 W hl (by omega) (by omega))
  rw [← hs] at HG
  clear hs
  rcases HN with n10 | ⟨n10, o10⟩
  all_goals
    go_enter Try.func12, Try.ntmps12
    go_wp2_with fail
    refine (D0.out _).mono ?_
    rintro e w0 ⟨rfl, rfl⟩
    go_wp2_with fail
    refine (D1.out _).mono ?_
    rintro e w1 ⟨rfl, rfl⟩
    go_wp2_with fail
    refine (D2.out _).mono ?_
    rintro e w2 ⟨rfl, rfl⟩
    go_wp2_with fail
    refine (D3.out _).mono ?_
    rintro e w3 ⟨rfl, rfl⟩
    go_wp2_with fail
    refine (D4.out _).mono ?_
    rintro e w4 ⟨rfl, rfl⟩
    go_wp2_with fail
    refine (D5.out _).mono ?_
    rintro e w5 ⟨rfl, rfl⟩
    by_cases z0 : y < 0
    · clear HG
      go_wp2_with fail
      go_ret2
      exact ⟨rfl, rfl⟩
    by_cases z1 : mo < 0
    · clear HG
      go_wp2_with fail
      go_ret2
      exact ⟨rfl, rfl⟩
    by_cases z2 : d < 0
    · clear HG
      go_wp2_with fail
      go_ret2
      exact ⟨rfl, rfl⟩
    by_cases z3 : h < 0
    · clear HG
      go_wp2_with fail
      go_ret2
      exact ⟨rfl, rfl⟩
    by_cases z4 : mi < 0
    · clear HG
      go_wp2_with fail
      go_ret2
      exact ⟨rfl, rfl⟩
    have z5 : s < 0 := by omega
    clear HG
    go_wp2_with fail
    go_ret2
    exact ⟨rfl, rfl⟩
end Go.Proofs.Ytnaafdennieedaa
