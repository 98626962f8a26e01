import Derived.Test.YtegblhmcfemfgaaGreatDoorKit
import Derived.Test.YtegblhmcfemfgaaGreatDoorRows
namespace Go.Proofs.YtegblhmcfemfgaaGreatDoor
open Go.RowKit
theorem bt : BT Tryz.prog 106 5 := ⟨Tryz.underlying106, Tryz.underlying5, by kernel_rfl⟩
def nmB (c : UInt8) : Bool := (decide (97 ≤ c.toNat) && decide (c.toNat ≤ 122)) || (decide (48 ≤ c.toNat) && decide (c.toNat ≤ 57)) || decide (c.toNat = 45)
def nameB (l : List UInt8) : Bool := l.all nmB && (decide (1 ≤ l.length) && decide (l.length ≤ 20))
theorem nameB_no {l : List UInt8} (k : Nat) (hk : k < l.length) (h : nmB l[k] = false) : nameB l = false := by
 have : l.all nmB = false := by
  rw [List.all_eq_false]
  exact ⟨l[k], List.getElem_mem hk, by simp [h]⟩
 rw [nameB, this]; rfl
theorem nameB_len {l : List UInt8} (h : nameB l = true) : 1 ≤ l.length ∧ l.length ≤ 20 := by
 unfold nameB at h
 simp at h
 exact h.2
set_option maxHeartbeats 3200000 in
theorem name_any (l : List UInt8) (w : World) (hl : l.length ≤ 9223372036854775807) :
 Calls Tryz.prog 30 #[str l] w fun e w' => e = .returned (.bool (nameB l)) ∧ w' = w := by
 go_enter Tryz.func30, Tryz.ntmps30
 go_wp2_with fail
 go_loop [7] (fun i => ∃ k : Nat, k ≤ l.length ∧ i = .int .i64 (k : Int) ∧ (l.take k).all nmB = true) (fun i => l.length - (intOf i).toNat)
 case atStart => exact ⟨0, Nat.zero_le _, rfl, rfl⟩
 case round =>
  obtain ⟨k, hk, rfl, hall⟩ := hrel
  have HALL := Lib.hid hall
  clear hall
  by_cases hlt : k < l.length
  · have n1 : (k : Int) < (l.length : Int) := by omega
    obtain ⟨d, hd⟩ : ∃ d, d = l[k] := ⟨_, rfl⟩
    have hgd : (ByteArray.mk l.toArray)[k]'(by simpa [ByteArray.size] using hlt) = d := hd.symm
    have hts : l.take (k + 1) = l.take k ++ [d] := by rw [hd]; exact List.take_succ_eq_append_getElem hlt
    have hno : nmB d = false → nameB l = false := fun h => nameB_no k hlt (by rw [← hd]; exact h)
    have hyes : nmB d = true → (l.take (k + 1)).all nmB = true := fun h => by rw [hts, List.all_append, HALL.out]; simp [h]
    have HNO := Lib.hid hno
    have HYES := Lib.hid hyes
    have hnm : nmB d = ((decide (97 ≤ d.toNat) && decide (d.toNat ≤ 122)) || (decide (48 ≤ d.toNat) && decide (d.toNat ≤ 57)) || decide (d.toNat = 45)) := rfl
    have HNM := Lib.hid hnm
    clear hd hts hno hyes hnm
    have key : (122 < d.toNat ∨ (57 < d.toNat ∧ d.toNat < 97) ∨ (d.toNat < 48 ∧ d.toNat ≠ 45)) ∨ ((97 ≤ d.toNat ∧ d.toNat ≤ 122) ∨ (48 ≤ d.toNat ∧ d.toNat ≤ 57) ∨ d.toNat = 45) := by omega
    rcases key with hb | hg
    · have hf : nameB l = false := HNO.out (by rw [HNM.out]; simp; omega)
      have HF := Lib.hid hf
      clear hf
      have hb' : ((122 : Int) < (d.toNat : Int) ∧ ¬ (d.toNat : Int) < 97 ∧ ¬ (d.toNat : Int) < 48 ∧ (57 : Int) < (d.toNat : Int) ∧ ((d.toNat : Int) != 45) = true) ∨ (¬ (122 : Int) < (d.toNat : Int) ∧ (d.toNat : Int) < 97 ∧ ¬ (d.toNat : Int) < 48 ∧ (57 : Int) < (d.toNat : Int) ∧ ((d.toNat : Int) != 45) = true) ∨
       (¬ (122 : Int) < (d.toNat : Int) ∧ (d.toNat : Int) < 97 ∧ (d.toNat : Int) < 48 ∧ ¬ (57 : Int) < (d.toNat : Int) ∧ ((d.toNat : Int) != 45) = true) := by
       simp only [bne_iff_ne]; omega
      clear hb
      rcases hb' with ⟨x1, x2, x3, x4, x5⟩ | ⟨x1, x2, x3, x4, x5⟩ | ⟨x1, x2, x3, x4, x5⟩
      all_goals
       go_wp2_with fail
       go_ret
       exact ⟨by rw [HF.out]; rfl, rfl⟩
    have hy := HYES.out (by rw [HNM.out]; simp; omega)
    have HY := Lib.hid hy
    clear hy
    have hb' : (¬ (122 : Int) < (d.toNat : Int) ∧ ¬ (d.toNat : Int) < 97 ∧ ¬ (d.toNat : Int) < 48) ∨ (¬ (122 : Int) < (d.toNat : Int) ∧ (d.toNat : Int) < 97 ∧ ¬ (d.toNat : Int) < 48 ∧ ¬ (57 : Int) < (d.toNat : Int)) ∨
     (¬ (122 : Int) < (d.toNat : Int) ∧ (d.toNat : Int) < 97 ∧ (d.toNat : Int) < 48 ∧ ((d.toNat : Int) != 45) = false) := by
     simp only [bne_eq_false_iff_eq]; omega
    clear hg
    rcases hb' with ⟨x1, x2, x3⟩ | ⟨x1, x2, x3, x4⟩ | ⟨x1, x2, x3, x4⟩
    all_goals
     go_wp2_with fail
     go_round
     case rel => exact ⟨k + 1, by omega, by go_num, HY.out⟩
     case measure => simp [intOf]; omega
  obtain rfl : k = l.length := by omega
  have n1 : ¬ (l.length : Int) < (l.length : Int) := by omega
  have hn : nameB l = (decide (1 ≤ l.length) && decide (l.length ≤ 20)) := by
   have := HALL.out
   rw [List.take_length] at this
   rw [nameB, this]; rfl
  have HN := Lib.hid hn
  clear hn
  have key : ((1 : Int) ≤ (l.length : Int) ∧ (l.length : Int) ≤ 20) ∨ ¬ (1 : Int) ≤ (l.length : Int) ∨ ((1 : Int) ≤ (l.length : Int) ∧ ¬ (l.length : Int) ≤ 20) := by omega
  rcases key with ⟨k1, k2⟩ | k1 | ⟨k1, k2⟩
  · have hv : nameB l = true := by rw [HN.out]; simp; omega
    have HV := Lib.hid hv
    clear hv
    go_wp2_with fail
    go_ret
    exact ⟨by rw [HV.out]; rfl, rfl⟩
  · have hv : nameB l = false := by rw [HN.out]; simp; omega
    have HV := Lib.hid hv
    clear hv
    go_wp2_with fail
    go_ret
    exact ⟨by rw [HV.out]; rfl, rfl⟩
  have hv : nameB l = false := by rw [HN.out]; simp; omega
  have HV := Lib.hid hv
  clear hv
  go_wp2_with fail
  go_ret
  exact ⟨by rw [HV.out]; rfl, rfl⟩
end Go.Proofs.YtegblhmcfemfgaaGreatDoor
