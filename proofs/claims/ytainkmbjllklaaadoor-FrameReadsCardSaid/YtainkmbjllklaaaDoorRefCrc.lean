/- hblref1.Crc, by its contract: the answer of ours. -/
import Derived.Test.YtainkmbjllklaaaDoorRefCrcMath
import Derived.Test.YtainkmbjllklaaaDoorCrc
namespace Go.Proofs.YtainkmbjllklaaaDoor
open Go.RowKit

theorem bitI_fin (s : Nat) : ((bitI 8 s : Nat) : Int) = ((bitI 8 s : Nat) : Int) := rfl

set_option maxHeartbeats 1600000 in
theorem refCrc_any (x : Value) (l : List UInt8) (w : World) (hx : Rd w x l) :
    Calls Tryd.prog 19 #[x] w fun e w' => e = .returned (.int .u32 ((crcN l : Nat) : Int)) ∧ w' = w := by
  have hlen := hx.lens
  obtain ⟨a, cap, rfl, hc1, hc2, hc3, hc4⟩ := hx
  have H4 := Lib.hid hc4
  clear hc4 hc3
  go_enter Tryd.func19, Tryd.ntmps19
  go_wp2_with fail
  go_loop [3, 4] (fun s i => ∃ k : Nat, k ≤ l.length ∧ i = .int .i64 k ∧ s = .int .u32 ((crcS (l.take k) : Nat) : Int)) (fun _ i => l.length - (intOf i).toNat)
  case atStart => exact ⟨0, Nat.zero_le _, rfl, rfl⟩
  case round =>
    obtain ⟨k, hk, rfl, rfl⟩ := hrel
    have hs := crcS_lt (l.take k)
    by_cases hlt : k < l.length
    · have hlt' : (k : Int) < (l.length : Int) := by omega
      obtain ⟨b, off, rfl, hcell⟩ := H4.out (by intro e; subst e; simp at hlt)
      have hc := hcell k hlt
      obtain ⟨c, hce⟩ : ∃ c, c = l[k] := ⟨_, rfl⟩
      rw [← hce] at hc
      unfold bv at hc
      have hts : crcS (l.take (k + 1)) = crcF (crcS (l.take k)) c := by rw [hce, List.take_succ_eq_append_getElem hlt, crcS_snoc]
      obtain ⟨s, hse⟩ : ∃ s, s = crcS (l.take k) := ⟨_, rfl⟩
      rw [← hse] at hts hs ⊢
      rw [crcF_bits] at hts
      have hc255 := c.toNat_lt
      have hs1 := xor_lt s c.toNat hs (by omega)
      have f1 := crc_step1 s c hs
      have HTS := Lib.hid hts
      have HSE := Lib.hid hse
      clear hts hse hcell hce
      obtain ⟨s1, hs1e⟩ : ∃ s1, s1 = s ^^^ c.toNat := ⟨_, rfl⟩
      rw [← hs1e] at hs1 f1
      have HS1 := Lib.hid hs1e
      clear hs1e
      go_wp2_with fail
      go_loop [3, 5] (fun t j => ∃ m : Nat, m ≤ 8 ∧ j = .int .i64 m ∧ t = .int .u32 ((bitI m s1 : Nat) : Int)) (fun _ j => 8 - (intOf j).toNat)
      case atStart => exact ⟨0, by omega, rfl, rfl⟩
      case round =>
        obtain ⟨m, hm, rfl, rfl⟩ := hrel
        have hb := bitI_lt m s1 hs1
        obtain ⟨y, hy⟩ : ∃ y, y = bitI m s1 := ⟨_, rfl⟩
        rw [← hy] at hb ⊢
        have hnext : bitI (m + 1) s1 = bitB y := by rw [hy]; rfl
        have HNX := Lib.hid hnext
        have HYY := Lib.hid hy
        clear hnext hy
        have g1 := bit_and y hb
        by_cases hm8 : m < 8
        · have hm8' : (m : Int) < 8 := by omega
          by_cases hodd : y % 2 = 1
          · have g2 := bit_odd y hb hodd
            have g3 : ((y : Int) % 2 == 1) = true := by rw [beq_iff_eq]; omega
            have HO := Lib.hid hodd
            clear hodd
            go_wp2_with fail
            go_round
            case rel => exact ⟨m + 1, by omega, by go_num, by rw [HNX.out]⟩
            case measure => simp [intOf]; omega
          · have g2 := bit_even y hodd
            have g3 : ((y : Int) % 2 == 1) = false := by rw [beq_eq_false_iff_ne]; omega
            have HO := Lib.hid hodd
            have HG2 := Lib.hid g2
            clear hodd g2
            go_wp2_with fail
            go_round
            case rel => exact ⟨m + 1, by omega, by go_num, by rw [HNX.out, ← HG2.out]⟩
            case measure => simp [intOf]; omega
        · have hm8' : ¬ (m : Int) < 8 := by omega
          obtain rfl : m = 8 := by omega
          go_wp2_with fail
          go_round
          case rel => exact ⟨k + 1, by omega, by go_num, by rw [HTS.out, ← HS1.out, ← HYY.out]⟩
          case measure => simp [intOf]; omega
    · have hlt' : ¬ (k : Int) < (l.length : Int) := by omega
      obtain rfl : k = l.length := by omega
      rw [List.take_length] at hs ⊢
      go_wp2_with fail
      go_ret
      exact ⟨crc_fin l, rfl⟩

end Go.Proofs.YtainkmbjllklaaaDoor
