/- text.digit and the reader's four by their contracts. -/
import Derived.Test.YtegblhmcfemfgaaGreatDoorReader
namespace Go.Proofs.YtegblhmcfemfgaaGreatDoor
open Go.RowKit

def refD (c : UInt8) : Int := if 48 ≤ c.toNat ∧ c.toNat ≤ 57 then (c.toNat : Int) - 48 else if 97 ≤ c.toNat ∧ c.toNat ≤ 102 then (c.toNat : Int) - 97 + 10 else if 65 ≤ c.toNat ∧ c.toNat ≤ 70 then (c.toNat : Int) - 65 + 10 else -1
def refDE (c : UInt8) : Ending := .returned (.int .i64 (refD c))

theorem tDigit_any (c : UInt8) (w : World) : Calls Tryz.prog 186 #[.int .u8 (c.toNat : Int)] w fun e w' => e = refDE c ∧ w' = w := by
  have hc := c.toNat_lt
  have key : (∃ v : Int, refDE c = .returned (.int .i64 v) ∧ (((48 : Int) ≤ (c.toNat : Int) ∧ (c.toNat : Int) ≤ 57 ∧ v = (c.toNat : Int) - 48) ∨ ((97 : Int) ≤ (c.toNat : Int) ∧ (c.toNat : Int) ≤ 102 ∧ v = (c.toNat : Int) - 97 + 10) ∨
      ((65 : Int) ≤ (c.toNat : Int) ∧ (c.toNat : Int) ≤ 70 ∧ v = (c.toNat : Int) - 65 + 10) ∨ (((c.toNat : Int) < 48 ∨ (57 < (c.toNat : Int) ∧ (c.toNat : Int) < 65) ∨ (70 < (c.toNat : Int) ∧ (c.toNat : Int) < 97) ∨ 102 < (c.toNat : Int)) ∧ v = -1))) := by
    refine ⟨refD c, rfl, ?_⟩
    unfold refD
    split
    · omega
    · split
      · omega
      · split <;> omega
  obtain ⟨v, hv, hcase⟩ := key
  have HV := Lib.hid hv
  clear hv
  rcases hcase with ⟨h1, h2, rfl⟩ | ⟨h1, h2, rfl⟩ | ⟨h1, h2, rfl⟩ | ⟨h, rfl⟩
  · go_enter Tryz.func186, Tryz.ntmps186
    go_wp2
    go_ret
    exact ⟨HV.out.symm, rfl⟩
  · have h3 : (48 : Int) ≤ (c.toNat : Int) := by omega
    have h4 : ¬ (c.toNat : Int) ≤ 57 := by omega
    go_enter Tryz.func186, Tryz.ntmps186
    go_wp2
    go_ret
    exact ⟨HV.out.symm, rfl⟩
  · have h3 : (48 : Int) ≤ (c.toNat : Int) := by omega
    have h4 : ¬ (c.toNat : Int) ≤ 57 := by omega
    have h5 : ¬ (97 : Int) ≤ (c.toNat : Int) := by omega
    go_enter Tryz.func186, Tryz.ntmps186
    go_wp2
    go_ret
    exact ⟨HV.out.symm, rfl⟩
  · rcases h with h | ⟨h1, h2⟩ | ⟨h1, h2⟩ | h
    · have h4 : ¬ (48 : Int) ≤ (c.toNat : Int) := by omega
      have h5 : ¬ (97 : Int) ≤ (c.toNat : Int) := by omega
      have h6 : ¬ (65 : Int) ≤ (c.toNat : Int) := by omega
      go_enter Tryz.func186, Tryz.ntmps186
      go_wp2
      go_ret
      exact ⟨HV.out.symm, rfl⟩
    · have h3 : (48 : Int) ≤ (c.toNat : Int) := by omega
      have h4 : ¬ (c.toNat : Int) ≤ 57 := by omega
      have h5 : ¬ (97 : Int) ≤ (c.toNat : Int) := by omega
      have h6 : ¬ (65 : Int) ≤ (c.toNat : Int) := by omega
      go_enter Tryz.func186, Tryz.ntmps186
      go_wp2
      go_ret
      exact ⟨HV.out.symm, rfl⟩
    · have h3 : (48 : Int) ≤ (c.toNat : Int) := by omega
      have h4 : ¬ (c.toNat : Int) ≤ 57 := by omega
      have h5 : ¬ (97 : Int) ≤ (c.toNat : Int) := by omega
      have h6 : (65 : Int) ≤ (c.toNat : Int) := by omega
      have h7 : ¬ (c.toNat : Int) ≤ 70 := by omega
      go_enter Tryz.func186, Tryz.ntmps186
      go_wp2
      go_ret
      exact ⟨HV.out.symm, rfl⟩
    · have h3 : (48 : Int) ≤ (c.toNat : Int) := by omega
      have h4 : ¬ (c.toNat : Int) ≤ 57 := by omega
      have h5 : (97 : Int) ≤ (c.toNat : Int) := by omega
      have h5' : ¬ (c.toNat : Int) ≤ 102 := by omega
      have h6 : (65 : Int) ≤ (c.toNat : Int) := by omega
      have h7 : ¬ (c.toNat : Int) ≤ 70 := by omega
      go_enter Tryz.func186, Tryz.ntmps186
      go_wp2
      go_ret
      exact ⟨HV.out.symm, rfl⟩
theorem tDigit_ret (c : UInt8) (w : World) : Calls Tryz.prog 186 #[.int .u8 (c.toNat : Int)] w fun e w' => e = .returned (.int .i64 (refD c)) ∧ w' = w := tDigit_any c w

theorem refD_range (c : UInt8) : -1 ≤ refD c ∧ refD c ≤ 15 := by
  unfold refD
  split
  · omega
  split
  · omega
  split
  · omega
  · omega

/-- k digits of 16: the number, the error, how many were read. -/
def fourR : Nat → List UInt8 → Nat → Nat × Nat × Nat
  | 0, _, acc => (acc, 0, 0)
  | _ + 1, [], _ => (0, 2, 0)
  | k + 1, c :: l, acc => if refD c < 0 then (0, 4, 0) else ((fourR k l (acc * 16 + (refD c).toNat)).1, (fourR k l (acc * 16 + (refD c).toNat)).2.1, (fourR k l (acc * 16 + (refD c).toNat)).2.2 + 1)
theorem fourR_next (k : Nat) (t : List UInt8) (q acc : Nat) (hq : q < t.length) :
    fourR (k + 1) (t.drop q) acc = if refD t[q] < 0 then (0, 4, 0) else ((fourR k (t.drop (q + 1)) (acc * 16 + (refD t[q]).toNat)).1, (fourR k (t.drop (q + 1)) (acc * 16 + (refD t[q]).toNat)).2.1, (fourR k (t.drop (q + 1)) (acc * 16 + (refD t[q]).toNat)).2.2 + 1) := by
  rw [List.drop_eq_getElem_cons hq, fourR]
theorem or4 (acc : Nat) (d : Int) (h0 : 0 ≤ d) (h1 : d ≤ 15) (ha : acc ≤ 281474976710656) : bits .or .i64 ((acc : Int) * 16) d = ((acc * 16 + d.toNat : Nat) : Int) := by
  obtain ⟨n, rfl⟩ := Int.eq_ofNat_of_zero_le h0
  have e1 : ((acc : Int) * 16) = ((acc * 16 : Nat) : Int) := by omega
  rw [e1]
  have h1' : (BitVec.ofInt 64 ((acc * 16 : Nat) : Int)).toNat = acc * 16 := by rw [BitVec.toNat_ofInt]; omega
  have h2' : (BitVec.ofInt 64 (n : Int)).toNat = n := by rw [BitVec.toNat_ofInt]; omega
  show IntKind.i64.wrap ((BitVec.ofInt 64 ((acc * 16 : Nat) : Int) ||| BitVec.ofInt 64 (n : Int)).toNat : Nat) = _
  rw [BitVec.toNat_or, h1', h2', show acc * 16 = 2 ^ 4 * acc by omega, ← Nat.two_pow_add_eq_or_of_lt (by omega)]
  exact IntWalk.i64_in _ ⟨by omega, by omega⟩

set_option maxHeartbeats 1600000 in
theorem four_any (t o : List UInt8) (b p : Nat) (w : World) (h : RS w b t p o) (hp : p ≤ t.length) (hl : t.length ≤ 140737488355328) :
    Calls Tryz.prog 183 #[.pointer (some ⟨b, 0, none⟩)] w fun e w' =>
      e = .returned (.tuple #[.int .i64 ((fourR 4 (t.drop p) 0).1 : Int), .int .i64 ((fourR 4 (t.drop p) 0).2.1 : Int)]) ∧ RS w' b t (p + (fourR 4 (t.drop p) 0).2.2) o ∧ Below b w w' := by
  go_enter Tryz.func183, Tryz.ntmps183
  go_wp2_with fail
  go_loopw [4, 6] (fun n i wr => ∃ k acc : Nat, k ≤ 4 ∧ p + k ≤ t.length ∧ i = .int .i64 (k : Int) ∧ n = .int .i64 (acc : Int) ∧ acc < 16 ^ k ∧ RS wr b t (p + k) o ∧ Below b w wr ∧
      fourR 4 (t.drop p) 0 = ((fourR (4 - k) (t.drop (p + k)) acc).1, (fourR (4 - k) (t.drop (p + k)) acc).2.1, (fourR (4 - k) (t.drop (p + k)) acc).2.2 + k))
    (fun _ i _ => 4 - (intOf i).toNat)
  case atStart => exact ⟨0, 0, by omega, hp, rfl, rfl, by decide, h, Below.refl _ _, rfl⟩
  case round =>
    obtain ⟨k, acc, hk, hpk, rfl, rfl, hacc, hrs, hb, hr⟩ := hrel
    have hpow : 16 ^ k ≤ 65536 := by
      have := Nat.pow_le_pow_right (n := 16) (by omega) hk
      simpa using this
    have haccb : acc < 65536 := by omega
    have hpow1 : 16 ^ (k + 1) = 16 ^ k * 16 := Nat.pow_succ ..
    obtain ⟨q, hq⟩ : ∃ q, q = p + k := ⟨_, rfl⟩
    rw [← hq] at hrs hpk
    have h0 := hrs.c0
    have h1 := hrs.c1
    have hf := hrs.fr 1
    have hbw := hrs.lt
    have HRS := Lib.hid hrs
    have HR := Lib.hid hr
    have HP1 := Lib.hid hpow1
    clear hrs hr hpow1
    by_cases hlt : k < 4
    · have n0 : (k : Int) < 4 := by omega
      by_cases hqt : q < t.length
      · have n1 : ((q : Int) == (t.length : Int)) = false := by rw [beq_eq_false_iff_ne]; omega
        have n2 : (q : Int) < (t.length : Int) := by omega
        have n3 : (0 : Int) ≤ (q : Int) := by omega
        obtain ⟨d, hd⟩ : ∃ d, d = t[q] := ⟨_, rfl⟩
        have hgd : (ByteArray.mk t.toArray)[q]'(by simpa [ByteArray.size] using hqt) = d := hd.symm
        have hnx := fourR_next (4 - k - 1) t q acc hqt
        rw [← hd, show 4 - k - 1 + 1 = 4 - k by omega] at hnx
        have hrg := refD_range d
        obtain ⟨z, hz⟩ : ∃ z, z = refD d := ⟨_, rfl⟩
        rw [← hz] at hnx hrg
        have HZ := Lib.hid hz
        have HQ := Lib.hid hq
        clear hq hd hz
        by_cases hneg : z < 0
        · rw [if_pos hneg] at hnx
          have hfin : fourR 4 (t.drop p) 0 = (0, 4, k) := by rw [HR.out, ← HQ.out, hnx]; simp
          have HF := Lib.hid hfin
          clear hfin hnx
          go_wp2_with fail
          go_quiet (fail)
          have hrs5 := HRS.out.drewN nq
          have hb5 := Below.drewsN hb nq
          generalize wr.drewN nq = w5 at hrs5 hb5 ⊢
          have h05 := hrs5.c0
          have h15 := hrs5.c1
          have hf5 := hrs5.fr 1
          have hbw5 := hrs5.lt
          have HRS5 := Lib.hid hrs5
          clear hrs5 h0 h1 hf hbw
          go_wp2_with fail
          go_quiet ((go_at_call 186; exact Calls.quiet_of_same (tDigit_ret _ _)))
          rw [← HZ.out]
          go_wp2_with fail
          go_ret2
          exact ⟨by rw [HF.out]; rfl, by rw [HF.out]; exact HQ.out ▸ HRS5.out.drewN _, Below.drewsN hb5 _⟩
        · have n5 : ¬ z < 0 := hneg
          rw [if_neg hneg] at hnx
          have HNX := Lib.hid hnx
          clear hnx
          have ho4 := or4 acc z (by omega) hrg.2 (by omega)
          go_wp2_with fail
          go_quiet (fail)
          have hrs5 := HRS.out.drewN nq
          have hb5 := Below.drewsN hb nq
          generalize wr.drewN nq = w5 at hrs5 hb5 ⊢
          have h05 := hrs5.c0
          have h15 := hrs5.c1
          have hf5 := hrs5.fr 1
          have hbw5 := hrs5.lt
          have HRS5 := Lib.hid hrs5
          clear hrs5 h0 h1 hf hbw
          go_wp2_with fail
          go_quiet ((go_at_call 186; exact Calls.quiet_of_same (tDigit_ret _ _)))
          rw [← HZ.out]
          go_wp2_with fail
          go_roundw
          case rel =>
            refine ⟨k + 1, acc * 16 + z.toNat, by omega, by have := HQ.out; omega, by go_num, by rw [show (acc : Int) * 16 + max z 0 = ((acc * 16 + z.toNat : Nat) : Int) by omega], by rw [HP1.out]; omega, ?_, ?_, ?_⟩
            · rw [show p + (k + 1) = q + 1 by have := HQ.out; omega]
              exact (HRS5.out.drewN _).setAt (q + 1) _ (by omega)
            · exact Below.setCell (p := ⟨b, 1, none⟩) (Below.drewsN hb5 _) (Nat.le_refl b) _
            · rw [HR.out, ← HQ.out, HNX.out, show 4 - k - 1 = 4 - (k + 1) by omega, show p + (k + 1) = q + 1 by have := HQ.out; omega]
              simp only [Prod.mk.injEq, true_and]
              omega
          case measure => simp [intOf]; omega
      · obtain rfl : q = t.length := by omega
        have n1 : ((t.length : Int) == (t.length : Int)) = true := beq_self_eq_true _
        have hfin : fourR 4 (t.drop p) 0 = (0, 2, k) := by
          rw [HR.out, ← hq, List.drop_length, show 4 - k = (4 - k - 1) + 1 by omega]; simp [fourR]
        have HF := Lib.hid hfin
        have HQ := Lib.hid hq
        clear hfin hq
        go_wp2_with fail
        go_quiet (fail)
        go_wp2_with fail
        go_ret2
        exact ⟨by rw [HF.out]; rfl, by rw [HF.out]; exact HQ.out ▸ HRS.out.drewN _, Below.drewsN hb _⟩
    · have n0 : ¬ (k : Int) < 4 := by omega
      obtain rfl : k = 4 := by omega
      have hfin : fourR 4 (t.drop p) 0 = (acc, 0, 4) := by rw [HR.out]; simp [fourR]
      have HF := Lib.hid hfin
      have HQ := Lib.hid hq
      clear hfin hq
      go_wp2_with fail
      go_ret2
      exact ⟨by rw [HF.out]; rfl, by rw [HF.out]; exact HQ.out ▸ HRS.out, hb⟩
end Go.Proofs.YtegblhmcfemfgaaGreatDoor
