/- text.meant and the reader's second by their contracts. -/
import Derived.Test.YtegblhmcfemfgaaGreatDoorFour
namespace Go.Proofs.YtegblhmcfemfgaaGreatDoor
open Go.RowKit

/-- The byte that a letter behind a backslash stands for. -/
def meB (c : UInt8) : UInt8 × Bool := if c.toNat = 34 then (34, true) else if c.toNat = 92 then (92, true) else if c.toNat = 47 then (47, true) else if c.toNat = 98 then (8, true) else if c.toNat = 102 then (12, true) else if c.toNat = 110 then (10, true) else if c.toNat = 114 then (13, true) else if c.toNat = 116 then (9, true) else (0, false)
def meE (c : UInt8) : Ending := .returned (.tuple #[.int .u8 ((meB c).1.toNat : Int), .bool (meB c).2])
theorem meant_any (c : UInt8) (w : World) : Calls Tryz.prog 177 #[.int .u8 (c.toNat : Int)] w fun e w' => e = meE c ∧ w' = w := by
  by_cases h34 : c.toNat = 34
  · have e : meE c = .returned (.tuple #[.int .u8 34, .bool true]) := by rw [meE, show meB c = (34, true) by simp [meB, h34]]; rfl
    rw [e, show (c.toNat : Int) = 34 by omega]
    clear e
    go_enter Tryz.func177, Tryz.ntmps177
    go_wp2
    go_ret2
    exact ⟨rfl, rfl⟩
  by_cases h92 : c.toNat = 92
  · have e : meE c = .returned (.tuple #[.int .u8 92, .bool true]) := by rw [meE, show meB c = (92, true) by simp [meB, h92]]; rfl
    rw [e, show (c.toNat : Int) = 92 by omega]
    clear e
    go_enter Tryz.func177, Tryz.ntmps177
    go_wp2
    go_ret2
    exact ⟨rfl, rfl⟩
  by_cases h47 : c.toNat = 47
  · have e : meE c = .returned (.tuple #[.int .u8 47, .bool true]) := by rw [meE, show meB c = (47, true) by simp [meB, h47]]; rfl
    rw [e, show (c.toNat : Int) = 47 by omega]
    clear e
    go_enter Tryz.func177, Tryz.ntmps177
    go_wp2
    go_ret2
    exact ⟨rfl, rfl⟩
  by_cases h98 : c.toNat = 98
  · have e : meE c = .returned (.tuple #[.int .u8 8, .bool true]) := by rw [meE, show meB c = (8, true) by simp [meB, h98]]; rfl
    rw [e, show (c.toNat : Int) = 98 by omega]
    clear e
    go_enter Tryz.func177, Tryz.ntmps177
    go_wp2
    go_ret2
    exact ⟨rfl, rfl⟩
  by_cases h102 : c.toNat = 102
  · have e : meE c = .returned (.tuple #[.int .u8 12, .bool true]) := by rw [meE, show meB c = (12, true) by simp [meB, h102]]; rfl
    rw [e, show (c.toNat : Int) = 102 by omega]
    clear e
    go_enter Tryz.func177, Tryz.ntmps177
    go_wp2
    go_ret2
    exact ⟨rfl, rfl⟩
  by_cases h110 : c.toNat = 110
  · have e : meE c = .returned (.tuple #[.int .u8 10, .bool true]) := by rw [meE, show meB c = (10, true) by simp [meB, h110]]; rfl
    rw [e, show (c.toNat : Int) = 110 by omega]
    clear e
    go_enter Tryz.func177, Tryz.ntmps177
    go_wp2
    go_ret2
    exact ⟨rfl, rfl⟩
  by_cases h114 : c.toNat = 114
  · have e : meE c = .returned (.tuple #[.int .u8 13, .bool true]) := by rw [meE, show meB c = (13, true) by simp [meB, h114]]; rfl
    rw [e, show (c.toNat : Int) = 114 by omega]
    clear e
    go_enter Tryz.func177, Tryz.ntmps177
    go_wp2
    go_ret2
    exact ⟨rfl, rfl⟩
  by_cases h116 : c.toNat = 116
  · have e : meE c = .returned (.tuple #[.int .u8 9, .bool true]) := by rw [meE, show meB c = (9, true) by simp [meB, h116]]; rfl
    rw [e, show (c.toNat : Int) = 116 by omega]
    clear e
    go_enter Tryz.func177, Tryz.ntmps177
    go_wp2
    go_ret2
    exact ⟨rfl, rfl⟩
  have e34 : ((c.toNat : Int) == 34) = false := by rw [beq_eq_false_iff_ne]; omega
  have e92 : ((c.toNat : Int) == 92) = false := by rw [beq_eq_false_iff_ne]; omega
  have e47 : ((c.toNat : Int) == 47) = false := by rw [beq_eq_false_iff_ne]; omega
  have e98 : ((c.toNat : Int) == 98) = false := by rw [beq_eq_false_iff_ne]; omega
  have e102 : ((c.toNat : Int) == 102) = false := by rw [beq_eq_false_iff_ne]; omega
  have e110 : ((c.toNat : Int) == 110) = false := by rw [beq_eq_false_iff_ne]; omega
  have e114 : ((c.toNat : Int) == 114) = false := by rw [beq_eq_false_iff_ne]; omega
  have e116 : ((c.toNat : Int) == 116) = false := by rw [beq_eq_false_iff_ne]; omega
  have e : meE c = .returned (.tuple #[.int .u8 0, .bool false]) := by rw [meE, show meB c = (0, false) by simp [meB, h34, h92, h47, h98, h102, h110, h114, h116]]; rfl
  rw [e]
  clear e h34 h92 h47 h98 h102 h110 h114 h116
  go_enter Tryz.func177, Tryz.ntmps177
  go_wp2_with fail
  go_ret2
  exact ⟨rfl, rfl⟩

/-- The second of two surrogates: the number, the error, how many bytes were read. -/
def secR (t : List UInt8) (p : Nat) : Nat × Nat × Nat :=
  if wantN t p 92 ≠ 0 then (0, wantN t p 92, 0)
  else if wantN t (p + 1) 117 ≠ 0 then (0, wantN t (p + 1) 117, 1)
  else ((fourR 4 (t.drop (p + 2)) 0).1, if (fourR 4 (t.drop (p + 2)) 0).2.1 = 0 ∧ ((fourR 4 (t.drop (p + 2)) 0).1 < 56320 ∨ 57343 < (fourR 4 (t.drop (p + 2)) 0).1) then 4 else (fourR 4 (t.drop (p + 2)) 0).2.1, (fourR 4 (t.drop (p + 2)) 0).2.2 + 2)
theorem wantN_zero {t : List UInt8} {p : Nat} {c : UInt8} (h : wantN t p c = 0) : p < t.length := by
  unfold wantN at h
  split at h
  · assumption
  · cases h

set_option maxHeartbeats 1600000 in
theorem second_any (t o : List UInt8) (b p : Nat) (w : World) (h : RS w b t p o) (hp : p ≤ t.length) (hl : t.length ≤ 140737488355328) :
    Calls Tryz.prog 184 #[.pointer (some ⟨b, 0, none⟩)] w fun e w' =>
      e = .returned (.tuple #[.int .i64 ((secR t p).1 : Int), .int .i64 ((secR t p).2.1 : Int)]) ∧ RS w' b t (p + (secR t p).2.2) o ∧ Below b w w' := by
  have HRS := Lib.hid h
  clear h
  go_enter Tryz.func184, Tryz.ntmps184
  go_wp2_with fail
  have hlt := HRS.out.lt
  have hc0 : (w.alloc (.cells #[.int .u8 92, .int .u8 117] 5)).cell? ⟨w.heap.size, 0, none⟩ = some (.int .u8 92) := by simp
  have hc1 : (w.alloc (.cells #[.int .u8 92, .int .u8 117] 5)).cell? ⟨w.heap.size, 1, none⟩ = some (.int .u8 117) := by simp
  have hba : Below b w (w.alloc (.cells #[.int .u8 92, .int .u8 117] 5)) := (Below.refl b w).alloc (by omega) _
  have hra := HRS.out.alloc (.cells #[.int .u8 92, .int .u8 117] 5)
  obtain ⟨g, hg⟩ : ∃ g, g = w.heap.size := ⟨_, rfl⟩
  rw [← hg] at hc0 hc1 hlt ⊢
  have HG := Lib.hid hg
  generalize hwa : w.alloc (.cells #[.int .u8 92, .int .u8 117] 5) = wa at *
  have HWA := Lib.hid hwa
  clear hwa hg
  go_loopw [11] (fun i wr => ∃ k : Nat, k ≤ 2 ∧ i = .int .i64 (k : Int) ∧ RS wr b t (p + k) o ∧ p + k ≤ t.length ∧ Below b w wr ∧ OnlyT b wa wr ∧ (0 < k → wantN t p 92 = 0) ∧ (1 < k → wantN t (p + 1) 117 = 0))
    (fun i _ => 2 - (intOf i).toNat)
  case atStart => exact ⟨0, by omega, rfl, hra, hp, hba, ⟨Nat.le_refl _, fun _ _ _ => rfl⟩, (fun h => by omega), (fun h => by omega)⟩
  case round =>
    obtain ⟨k, hk, rfl, hrs, hpk, hb, hon, hw0, hw1⟩ := hrel
    have HW0 := Lib.hid hw0
    have HW1 := Lib.hid hw1
    clear hw0 hw1
    have d0 := hon.cell hc0 (by omega)
    have d1 := hon.cell hc1 (by omega)
    rcases (show k = 0 ∨ k = 1 ∨ k = 2 by omega) with rfl | rfl | rfl
    · go_wp2_with fail
      refine (want_any t o b p 92 _ hrs hpk hl).mono ?_
      rintro e w3 ⟨rfl, hrs3, hb3, hon3⟩
      by_cases hz : wantN t p 92 = 0
      · have HZ := Lib.hid hz
        rw [if_pos hz] at hrs3
        rw [hz]
        clear hz
        go_wp2_with fail
        go_roundw
        case rel => exact ⟨1, by omega, rfl, hrs3, wantN_zero HZ.out, hb.trans hb3, hon.trans hon3, fun _ => HZ.out, fun h => by omega⟩
        case measure => simp [intOf]
      · have hne : (((wantN t p 92 : Nat) : Int) != 0) = true := by rw [bne_iff_ne]; omega
        rw [if_neg hz] at hrs3
        have hs : secR t p = (0, wantN t p 92, 0) := by rw [secR, if_pos hz]
        have HS := Lib.hid hs
        clear hz hs
        go_wp2_with fail
        go_ret2
        exact ⟨by rw [HS.out]; rfl, by rw [HS.out]; exact hrs3, hb.trans hb3⟩
    · go_wp2_with fail
      refine (want_any t o b (p + 1) 117 _ hrs hpk hl).mono ?_
      rintro e w3 ⟨rfl, hrs3, hb3, hon3⟩
      by_cases hz : wantN t (p + 1) 117 = 0
      · have HZ := Lib.hid hz
        rw [if_pos hz] at hrs3
        rw [hz]
        clear hz
        go_wp2_with fail
        go_roundw
        case rel => exact ⟨2, by omega, rfl, hrs3, wantN_zero HZ.out, hb.trans hb3, hon.trans hon3, fun _ => HW0.out (by omega), fun _ => HZ.out⟩
        case measure => simp [intOf]
      · have hne : (((wantN t (p + 1) 117 : Nat) : Int) != 0) = true := by rw [bne_iff_ne]; omega
        rw [if_neg hz] at hrs3
        have hs : secR t p = (0, wantN t (p + 1) 117, 1) := by rw [secR, if_neg (by rw [HW0.out (by omega)]; simp), if_pos hz]
        have HS := Lib.hid hs
        clear hz hs
        go_wp2_with fail
        go_ret2
        exact ⟨by rw [HS.out]; rfl, by rw [HS.out]; exact hrs3, hb.trans hb3⟩
    · go_wp2_with fail
      refine (four_any t o b (p + 2) _ hrs hpk hl).mono ?_
      rintro e w3 ⟨rfl, hrs3, hb3⟩
      have hs : secR t p = ((fourR 4 (t.drop (p + 2)) 0).1, if (fourR 4 (t.drop (p + 2)) 0).2.1 = 0 ∧ ((fourR 4 (t.drop (p + 2)) 0).1 < 56320 ∨ 57343 < (fourR 4 (t.drop (p + 2)) 0).1) then 4 else (fourR 4 (t.drop (p + 2)) 0).2.1, (fourR 4 (t.drop (p + 2)) 0).2.2 + 2) := by
        rw [secR, if_neg (by rw [HW0.out (by omega)]; simp), if_neg (by rw [HW1.out (by omega)]; simp)]
      obtain ⟨n, er, m, hr⟩ : ∃ n er m, fourR 4 (t.drop (p + 2)) 0 = (n, er, m) := ⟨_, _, _, rfl⟩
      rw [hr] at hs hrs3
      rw [hr]
      have HS := Lib.hid hs
      clear hs hr
      obtain ⟨N, hN⟩ : ∃ N : Int, N = (n : Int) := ⟨_, rfl⟩
      simp only
      rw [← hN]
      by_cases he : er = 0
      · subst he
        by_cases hlo : n < 56320
        · have n1 : N < 56320 := by omega
          have hv : secR t p = (n, 4, m + 2) := by rw [HS.out]; simp [hlo]
          have HV := Lib.hid hv
          have HN := Lib.hid hN
          clear hv hN hlo HS
          go_wp2_with fail
          go_ret2
          exact ⟨by rw [HV.out, HN.out]; rfl, by rw [HV.out]; simpa [Nat.add_assoc, Nat.add_comm, Nat.add_left_comm] using hrs3, hb.trans hb3⟩
        · have n1 : ¬ N < 56320 := by omega
          by_cases hhi : 57343 < n
          · have n2 : 57343 < N := by omega
            have hv : secR t p = (n, 4, m + 2) := by rw [HS.out]; simp [hhi]
            have HV := Lib.hid hv
            have HN := Lib.hid hN
            clear hv hN hlo hhi HS
            go_wp2_with fail
            go_ret2
            exact ⟨by rw [HV.out, HN.out]; rfl, by rw [HV.out]; simpa [Nat.add_assoc, Nat.add_comm, Nat.add_left_comm] using hrs3, hb.trans hb3⟩
          · have n2 : ¬ 57343 < N := by omega
            have hv : secR t p = (n, 0, m + 2) := by rw [HS.out]; simp [hlo, hhi]
            have HV := Lib.hid hv
            have HN := Lib.hid hN
            clear hv hN hlo hhi HS
            go_wp2_with fail
            go_ret2
            exact ⟨by rw [HV.out, HN.out]; rfl, by rw [HV.out]; simpa [Nat.add_assoc, Nat.add_comm, Nat.add_left_comm] using hrs3, hb.trans hb3⟩
      · have n0 : ((er : Int) == 0) = false := by rw [beq_eq_false_iff_ne]; omega
        have hv : secR t p = (n, er, m + 2) := by rw [HS.out]; simp [he]
        have HV := Lib.hid hv
        have HN := Lib.hid hN
        clear hv hN he HS
        go_wp2_with fail
        go_ret2
        exact ⟨by rw [HV.out, HN.out]; rfl, by rw [HV.out]; simpa [Nat.add_assoc, Nat.add_comm, Nat.add_left_comm] using hrs3, hb.trans hb3⟩
end Go.Proofs.YtegblhmcfemfgaaGreatDoor
