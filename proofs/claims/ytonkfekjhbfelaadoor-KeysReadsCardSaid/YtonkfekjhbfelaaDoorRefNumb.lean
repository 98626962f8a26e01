/- hblref14.number, hblref.Split, by their contracts. -/
import Derived.Test.YtonkfekjhbfelaaDoorKMath
namespace Go.Proofs.YtonkfekjhbfelaaDoor
open Go.RowKit

theorem numF_no (s : List UInt8) (k : Nat) (hk : k < s.length) (h : dgB s[k] = false) : numF s = -1 := by
  unfold numF
  rw [if_neg]
  rintro ⟨_, ha⟩
  have := List.all_eq_true.1 ha s[k] (List.getElem_mem hk)
  rw [h] at this
  cases this
set_option maxHeartbeats 2000000 in
theorem rnumber_any (s : List UInt8) (w : World) (hl : s.length ≤ 100000) : Calls Tryd.prog 27 #[str s] w fun e w' => e = .returned (.int .i64 (numF s)) ∧ w' = w := by
  go_enter Tryd.func27, Tryd.ntmps27
  go_wp2_with fail
  go_loop [3] (fun iv => ∃ k : Nat, k ≤ s.length ∧ iv = .int .i64 (k : Int) ∧ (s.take k).all dgB = true) (fun iv => s.length - (intOf iv).toNat)
  case atStart => exact ⟨0, by omega, rfl, rfl⟩
  case round =>
    obtain ⟨k, hk, rfl, hall⟩ := hrel
    have HALL := Lib.hid hall
    clear hall
    by_cases hlt : k < s.length
    · have n1 : (k : Int) < (s.length : Int) := by omega
      obtain ⟨d, hd⟩ : ∃ d, d = s[k] := ⟨_, rfl⟩
      have hgd : (ByteArray.mk s.toArray)[k]'(by simpa [ByteArray.size] using hlt) = d := hd.symm
      have hts : s.take (k + 1) = s.take k ++ [d] := by rw [hd]; exact List.take_succ_eq_append_getElem hlt
      have hd2 := d.toNat_lt
      have HTS := Lib.hid hts
      have hno : dgB d = false → numF s = -1 := fun h => numF_no s k hlt (by rw [← hd]; exact h)
      have HNO := Lib.hid hno
      clear hts hd hno
      by_cases hg : 48 ≤ d.toNat ∧ d.toNat ≤ 57
      · have g1 : ¬ (d.toNat : Int) < 48 := by omega
        have g2 : ¬ (57 : Int) < (d.toNat : Int) := by omega
        have HA : Hid ((s.take (k + 1)).all dgB = true) := Lib.hid (by rw [HTS.out, List.all_append, HALL.out]; simp [dgB, hg])
        go_wp2_with fail
        go_round
        case rel => exact ⟨k + 1, by omega, by go_num, HA.out⟩
        case measure => simp [intOf]; omega
      · have HF : Hid (numF s = -1) := Lib.hid (HNO.out (by simp only [dgB, Bool.and_eq_false_iff, decide_eq_false_iff_not]; omega))
        have key : (d.toNat : Int) < 48 ∨ (¬ (d.toNat : Int) < 48 ∧ (57 : Int) < (d.toNat : Int)) := by omega
        clear hg
        rcases key with g1 | ⟨g1, g2⟩
        all_goals
          go_wp2_with fail
          go_ret
          exact ⟨by rw [HF.out]; rfl, rfl⟩
    · obtain rfl : k = s.length := by omega
      have n1 : ¬ (s.length : Int) < (s.length : Int) := by omega
      have hall := HALL.out
      rw [List.take_length] at hall
      have HALLS := Lib.hid hall
      clear hall HALL
      go_wp2_with fail
      go_loop [4, 5] (fun nv iv => ∃ k : Nat, k ≤ s.length ∧ k ≤ 7 ∧ iv = .int .i64 (k : Int) ∧ nv = .int .i64 (valL (s.take k) : Int)) (fun _ iv => 7 - (intOf iv).toNat)
      case atStart => exact ⟨0, by omega, by omega, rfl, rfl⟩
      case round =>
        obtain ⟨k, hk, hk7, rfl, rfl⟩ := hrel
        have hall : (s.take k).all dgB = true := by
          rw [List.all_eq_true]
          intro x hx
          exact List.all_eq_true.1 HALLS.out x (List.mem_of_mem_take hx)
        have hv := valL_lt k (s.take k) (by simp; omega) hall
        have hp : 10 ^ k ≤ 10 ^ 7 := Nat.pow_le_pow_right (by omega) hk7
        have e7 : (10 : Nat) ^ 7 = 10000000 := by decide
        have hv2 : valL (s.take k) < 10000000 := by omega
        clear hall hv hp e7
        by_cases hlt : k < s.length ∧ k < 7
        · have n1 : (k : Int) < (s.length : Int) := by omega
          have n2 : (k : Int) < 7 := by omega
          have n1' : k < s.length := hlt.1
          obtain ⟨d, hd⟩ : ∃ d, d = s[k] := ⟨_, rfl⟩
          have hgd : (ByteArray.mk s.toArray)[k]'(by simpa [ByteArray.size] using n1') = d := hd.symm
          have hts : s.take (k + 1) = s.take k ++ [d] := by rw [hd]; exact List.take_succ_eq_append_getElem n1'
          have hvs : valL (s.take (k + 1)) = 10 * valL (s.take k) + (d.toNat - 48) := by rw [hts, valL_snoc]
          have hd2 := d.toNat_lt
          have hdg : 48 ≤ d.toNat ∧ d.toNat ≤ 57 := by
            have := List.all_eq_true.1 HALLS.out d (by rw [hd]; exact List.getElem_mem n1')
            simpa [dgB] using this
          obtain ⟨v, hv⟩ : ∃ v, v = valL (s.take k) := ⟨_, rfl⟩
          rw [← hv] at hv2 hvs ⊢
          have HVS := Lib.hid hvs
          clear hv hvs hts hd hlt
          go_wp2_with fail
          go_round
          case rel => exact ⟨k + 1, by omega, by omega, by go_num, by rw [HVS.out]; go_num⟩
          case measure => simp [intOf]; omega
        · have key : (¬ (k : Int) < (s.length : Int) ∧ k = s.length) ∨ ((k : Int) < (s.length : Int) ∧ ¬ (k : Int) < 7 ∧ k = 7) := by omega
          by_cases h6 : s.length = 6
          · have HF : Hid (numF s = (valL (s.take k) : Int)) := Lib.hid (by
              have e : s.take k = s := List.take_of_length_le (by omega)
              rw [e]
              unfold numF
              rw [if_pos ⟨h6, HALLS.out⟩])
            have t6 : ((s.length : Int) != 6) = false := by rw [bne_eq_false_iff_eq]; omega
            clear h6 hlt
            rcases key with ⟨g1, g0⟩ | ⟨g1, g2, g0⟩
            all_goals
              clear g0
              go_wp2_with fail
              go_ret
              exact ⟨by rw [HF.out]; rfl, rfl⟩
          · have HF : Hid (numF s = -1) := Lib.hid (by unfold numF; rw [if_neg (fun h => h6 h.1)])
            have t6 : ((s.length : Int) != 6) = true := by rw [bne_iff_ne]; omega
            clear h6 hlt
            rcases key with ⟨g1, g0⟩ | ⟨g1, g2, g0⟩
            all_goals
              clear g0
              go_wp2_with fail
              go_ret
              exact ⟨by rw [HF.out]; rfl, rfl⟩
end Go.Proofs.YtonkfekjhbfelaaDoor
