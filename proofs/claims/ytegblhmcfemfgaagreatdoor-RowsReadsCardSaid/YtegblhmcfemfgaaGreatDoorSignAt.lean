import Derived.Test.YtegblhmcfemfgaaGreatDoorKit
import Derived.Test.YtegblhmcfemfgaaGreatDoorRows
import Derived.Deep.QuietTactic
import Derived.BigQuiet
namespace Go.Proofs.YtegblhmcfemfgaaGreatDoor
open Go.RowKit
def signB (c : Nat) : Bool := decide (c ≤ 1114111) && (decide (c < 55296) || decide (57343 < c))
def tailR : Nat → List UInt8 → Nat → Option Nat
 | 0, _, acc => some acc
 | _ + 1, [], _ => none
 | k + 1, b :: t, acc => if b.toNat / 64 = 2 then tailR k t (acc * 64 + b.toNat % 64) else none
def tailE (k least : Nat) (r : Option Nat) : Nat × Nat :=
 match r with
 | none => (0, 0)
 | some a => if a < least ∨ signB a = false then (0, 0) else (a, k + 1)
def sgn : List UInt8 → Nat × Nat
 | [] => (0, 0)
 | c :: t =>
  if c.toNat < 128 then (c.toNat, 1)
  else if 192 ≤ c.toNat ∧ c.toNat < 224 then tailE 1 128 (tailR 1 t (c.toNat % 32))
  else if 224 ≤ c.toNat ∧ c.toNat < 240 then tailE 2 2048 (tailR 2 t (c.toNat % 16))
  else if 240 ≤ c.toNat ∧ c.toNat < 248 then tailE 3 65536 (tailR 3 t (c.toNat % 8))
  else (0, 0)
def sgnE (r : Nat × Nat) : Ending := .returned (.tuple #[.int .i64 (r.1 : Int), .int .i64 (r.2 : Int)])
theorem tailR_short : ∀ (k : Nat) (t : List UInt8) (acc : Nat), t.length < k → tailR k t acc = none
 | 0, _, _, h => by omega
 | k + 1, [], _, _ => rfl
 | k + 1, b :: t, acc, h => by
   rw [tailR]
   split
   · exact tailR_short k t _ (by simpa using h)
   rfl
theorem tailR_next (k : Nat) (t : List UInt8) (j acc : Nat) (h : j < t.length) : tailR (k + 1) (t.drop j) acc = if t[j].toNat / 64 = 2 then tailR k (t.drop (j + 1)) (acc * 64 + t[j].toNat % 64) else none := by
 rw [List.drop_eq_getElem_cons h, tailR]
theorem and192 (c : UInt8) : bits .and .u8 (c.toNat : Int) 192 = ((c.toNat / 64 * 64 : Nat) : Int) := by
 have hc := c.toNat_lt
 rw [show (192 : Int) = ((192 : Nat) : Int) from rfl, u8_and_nat _ _ (by omega) (by omega)]
 have : ∀ i : Fin 256, i.val &&& 192 = i.val / 64 * 64 := by decide +kernel
 rw [this ⟨c.toNat, by omega⟩]
theorem and63 (c : UInt8) : bits .and .u8 (c.toNat : Int) 63 = ((c.toNat % 64 : Nat) : Int) := by
 have hc := c.toNat_lt
 rw [show (63 : Int) = ((63 : Nat) : Int) from rfl, u8_and_nat _ _ (by omega) (by omega), nat_mask6]
theorem or6 (n m : Nat) (hn : n < 16777216) (hm : m < 64) : bits .or .i64 ((n : Int) * 64) (m : Int) = ((n * 64 + m : Nat) : Int) := by
 rw [bits_join .i64 63 (by decide) wraps_i64 6 _ _ (by omega) (by omega) (by omega) (by omega) (by omega) (by omega)]
 omega
theorem andI (n m j : Nat) (hm : m = 2 ^ j - 1) (hn : n < 9223372036854775808) (hm2 : m < 9223372036854775808) : bits .and .i64 (n : Int) (m : Int) = ((n % 2 ^ j : Nat) : Int) := by
 have h1 : (BitVec.ofInt 64 (n : Int)).toNat = n := by rw [BitVec.toNat_ofInt]; omega
 have h2 : (BitVec.ofInt 64 (m : Int)).toNat = m := by rw [BitVec.toNat_ofInt]; omega
 show IntKind.i64.wrap ((BitVec.ofInt 64 (n : Int) &&& BitVec.ofInt 64 (m : Int)).toNat : Nat) = _
 rw [BitVec.toNat_and, h1, h2, hm, Nat.and_two_pow_sub_one_eq_mod]
 have : n % 2 ^ j ≤ n := Nat.mod_le _ _
 exact IntWalk.i64_in _ ⟨by omega, by omega⟩
theorem tailE_ok {k least a : Nat} (h1 : ¬ a < least) (h2 : signB a = true) : tailE k least (some a) = (a, k + 1) := by
 simp only [tailE]
 rw [if_neg]
 simp [h1, h2]
theorem bt : BT Tryz.prog 106 5 := ⟨Tryz.underlying106, Tryz.underlying5, by kernel_rfl⟩
theorem isSign_any (c : Nat) (w : World) (hc : c ≤ 9223372036854775807) : Calls Tryz.prog 178 #[.int .i64 (c : Int)] w fun e w' => e = .returned (.bool (signB c)) ∧ w' = w := by
 have key : (signB c = false ∧ 1114111 < c) ∨ (signB c = true ∧ c < 55296) ∨ (signB c = false ∧ 55296 ≤ c ∧ c ≤ 57343) ∨ (signB c = true ∧ 57343 < c ∧ c ≤ 1114111) := by
  unfold signB
  by_cases h1 : c ≤ 1114111
  · by_cases h2 : c < 55296
    · simp [h1, h2]
    by_cases h3 : 57343 < c
    · simp [h1, h2, h3]
    simp [h1, h2, h3]; omega
  simp [h1]; omega
 rcases key with ⟨hb, h1⟩ | ⟨hb, h1⟩ | ⟨hb, h1, h2⟩ | ⟨hb, h1, h2⟩
 all_goals rw [hb]
 · have g1 : ¬ (c : Int) ≤ 1114111 := by omega
   have g2 : (0 : Int) ≤ (c : Int) := by omega
   go_enter Tryz.func178, Tryz.ntmps178
   go_wp2
   go_ret
   exact ⟨rfl, rfl⟩
 · have g1 : (c : Int) ≤ 1114111 := by omega
   have g2 : (0 : Int) ≤ (c : Int) := by omega
   have g3 : (c : Int) < 55296 := by omega
   go_enter Tryz.func178, Tryz.ntmps178
   go_wp2
   go_ret
   exact ⟨rfl, rfl⟩
 · have g1 : (c : Int) ≤ 1114111 := by omega
   have g2 : (0 : Int) ≤ (c : Int) := by omega
   have g3 : ¬ (c : Int) < 55296 := by omega
   have g4 : ¬ (57343 : Int) < (c : Int) := by omega
   go_enter Tryz.func178, Tryz.ntmps178
   go_wp2
   go_ret
   exact ⟨rfl, rfl⟩
 · have g1 : (c : Int) ≤ 1114111 := by omega
   have g2 : (0 : Int) ≤ (c : Int) := by omega
   have g3 : ¬ (c : Int) < 55296 := by omega
   have g4 : (57343 : Int) < (c : Int) := by omega
   go_enter Tryz.func178, Tryz.ntmps178
   go_wp2
   go_ret
   exact ⟨rfl, rfl⟩
set_option maxRecDepth 100000 in
set_option maxHeartbeats 12800000 in
theorem signAt_any (t : List UInt8) (p : Nat) (w : World) (hp : p < t.length) (hl : t.length ≤ 140737488355328) :
 Calls Tryz.prog 166 #[str t, .int .i64 (p : Int)] w fun e w' => e = sgnE (sgn (t.drop p)) ∧ w' = w := by
 have hp' : (p : Int) < (t.length : Int) := by omega
 have hp0 : (0 : Int) ≤ (p : Int) := by omega
 have hdrop : t.drop p = t[p] :: t.drop (p + 1) := List.drop_eq_getElem_cons hp
 obtain ⟨c, hc⟩ : ∃ c, c = t[p] := ⟨_, rfl⟩
 rw [← hc] at hdrop
 have hgc : (ByteArray.mk t.toArray)[p]'(by simpa [ByteArray.size] using hp) = c := hc.symm
 have hc255 := c.toNat_lt
 rw [hdrop]
 by_cases h1 : c.toNat < 128
 · have e : sgn (c :: t.drop (p + 1)) = (c.toNat, 1) := by rw [sgn, if_pos h1]
   rw [e]
   have g1 : (c.toNat : Int) < 128 := by omega
   clear hdrop hc e
   go_enter Tryz.func166, Tryz.ntmps166
   go_wp2_with fail
   go_ret2
   exact ⟨rfl, rfl⟩
 have g1 : ¬ (c.toNat : Int) < 128 := by omega
 have hsplit : (c.toNat < 192 ∨ 248 ≤ c.toNat) ∨ (192 ≤ c.toNat ∧ c.toNat < 224) ∨ (224 ≤ c.toNat ∧ c.toNat < 240) ∨ (240 ≤ c.toNat ∧ c.toNat < 248) := by omega
 rcases hsplit with hx | hx | hx | hx
 · have e : sgn (c :: t.drop (p + 1)) = (0, 0) := by rw [sgn, if_neg h1, if_neg (by omega), if_neg (by omega), if_neg (by omega)]
   rw [e]
   clear hdrop hc e
   rcases hx with hx | hx
   · have G1 : ¬ (192 : Int) ≤ (c.toNat : Int) := by omega
     have G2 : ¬ (224 : Int) ≤ (c.toNat : Int) := by omega
     have G3 : ¬ (240 : Int) ≤ (c.toNat : Int) := by omega
     go_enter Tryz.func166, Tryz.ntmps166
     go_wp2_with fail
     go_ret2
     exact ⟨rfl, rfl⟩
   have G1 : (192 : Int) ≤ (c.toNat : Int) := by omega
   have G2 : (224 : Int) ≤ (c.toNat : Int) := by omega
   have G3 : (240 : Int) ≤ (c.toNat : Int) := by omega
   have G4 : ¬ (c.toNat : Int) < 224 := by omega
   have G5 : ¬ (c.toNat : Int) < 240 := by omega
   have G6 : ¬ (c.toNat : Int) < 248 := by omega
   go_enter Tryz.func166, Tryz.ntmps166
   go_wp2_with fail
   go_ret2
   exact ⟨rfl, rfl⟩
 · have hcase : sgn (c :: t.drop (p + 1)) = tailE 1 128 (tailR 1 (t.drop (p + 1)) (c.toNat % 32)) := by
    rw [sgn, if_neg h1, if_pos (by omega)]
   rw [hcase]
   have ha := andI c.toNat 31 5 (by decide) (by omega) (by decide)
   simp only [Nat.reducePow] at ha
   obtain ⟨acc0, hacc0⟩ : ∃ a, a = c.toNat % 32 := ⟨_, rfl⟩
   rw [← hacc0] at ha ⊢
   have hab : acc0 < 32 := by omega
   have G1 : (192 : Int) ≤ (c.toNat : Int) := by omega
   have G4 : (c.toNat : Int) < 224 := by omega
   have HA := Lib.hid hacc0
   clear hacc0 hcase hdrop hc
   have ha' : bits .and .i64 (c.toNat : Int) 31 = (acc0 : Int) := ha
   clear ha
   by_cases hs : t.length - p < 2
   · have hs' : (t.length : Int) - (p : Int) < 2 := by omega
     have hr := tailR_short 1 (t.drop (p + 1)) acc0 (by simp; omega)
     rw [hr]
     have HR := Lib.hid hr
     clear hr
     go_enter Tryz.func166, Tryz.ntmps166
     go_wp2_with fail
     go_ret2
     exact ⟨rfl, rfl⟩
   have hs' : ¬ (t.length : Int) - (p : Int) < 2 := by omega
   go_enter Tryz.func166, Tryz.ntmps166
   go_wp2_with fail
   go_loop [6, 9] (fun x i => ∃ j acc : Nat, j ≤ 1 ∧ i = .int .i64 ((p + 1 + j : Nat) : Int) ∧ x = .int .i64 (acc : Int) ∧ acc < 32 * 64 ^ j ∧ tailR 1 (t.drop (p + 1)) acc0 = tailR (1 - j) (t.drop (p + 1 + j)) acc)
    (fun _ i => p + 2 - (intOf i).toNat)
   case atStart => exact ⟨0, acc0, by omega, by go_num, rfl, by omega, rfl⟩
   case round =>
    obtain ⟨j, acc, hj, rfl, rfl, hacc, hr⟩ := hrel
    have hpow : 64 ^ j ≤ 262144 := by
     have := Nat.pow_le_pow_right (n := 64) (by omega) (show j ≤ 3 by omega)
     simpa using this
    have haccb : acc < 8388608 := by omega
    have hpow1 : 64 ^ (j + 1) = 64 ^ j * 64 := Nat.pow_succ ..
    have HR := Lib.hid hr
    have HP1 := Lib.hid hpow1
    clear hr hpow1
    obtain ⟨q, hq⟩ : ∃ q, q = p + 1 + j := ⟨_, rfl⟩
    rw [← hq]
    by_cases hlt : j < 1
    · have hqt : q < t.length := by omega
      have n1 : (q : Int) < (p : Int) + 2 := by omega
      have n2 : (q : Int) < (t.length : Int) := by omega
      have n3 : (0 : Int) ≤ (q : Int) := by omega
      obtain ⟨d, hd⟩ : ∃ d, d = t[q] := ⟨_, rfl⟩
      have hgd : (ByteArray.mk t.toArray)[q]'(by simpa [ByteArray.size] using hqt) = d := hd.symm
      have hd255 := d.toNat_lt
      have e1 := and192 d
      have e2 := and63 d
      have e3 : bits .or .i64 ((acc : Int) * 64) ((d.toNat : Int) % 64) = ((acc * 64 + d.toNat % 64 : Nat) : Int) := or6 acc (d.toNat % 64) (by omega) (by omega)
      have hnx := tailR_next (1 - j - 1) t q acc hqt
      rw [← hd, show 1 - j - 1 + 1 = 1 - j by omega, hq, ← HR.out] at hnx
      have HQ := Lib.hid hq
      clear hq hd
      by_cases hdd : d.toNat / 64 = 2
      · have e4 : (((d.toNat / 64 * 64 : Nat) : Int) != 128) = false := by rw [bne_eq_false_iff_eq]; omega
        rw [if_pos hdd] at hnx
        have HNX := Lib.hid hnx
        have HDD := Lib.hid hdd
        clear hnx hdd
        go_wp2_with fail
        go_round
        case rel => exact ⟨j + 1, acc * 64 + d.toNat % 64, by omega, by have := HQ.out; go_num, rfl, by rw [HP1.out]; omega, by rw [HNX.out, ← HQ.out, show 1 - j - 1 = 1 - (j + 1) by omega, show p + 1 + (j + 1) = q + 1 by have := HQ.out; omega]⟩
        case measure => have := HQ.out; simp [intOf]; omega
      have e4 : (((d.toNat / 64 * 64 : Nat) : Int) != 128) = true := by rw [bne_iff_ne]; omega
      rw [if_neg hdd] at hnx
      have HNX := Lib.hid hnx
      have HDD := Lib.hid hdd
      clear hnx hdd
      go_wp2_with fail
      go_ret2
      exact ⟨by rw [HNX.out]; rfl, rfl⟩
    obtain rfl : j = 1 := by omega
    have n1 : ¬ (q : Int) < (p : Int) + 2 := by omega
    have hfin : tailR 1 (t.drop (p + 1)) acc0 = some acc := by rw [HR.out]; rfl
    have HF := Lib.hid hfin
    clear hfin
    by_cases hbad : acc < 128
    · obtain ⟨A, hA⟩ : ∃ A : Int, A = (acc : Int) := ⟨_, rfl⟩
      have e5 : A < 128 := by omega
      rw [← hA]
      have HA2 := Lib.hid hA
      clear hA
      have ee : tailE 1 128 (some acc) = (0, 0) := by simp only [tailE]; rw [if_pos (.inl hbad)]
      have HE := Lib.hid ee
      clear ee
      go_wp2_with fail
      go_ret2
      exact ⟨by rw [HF.out, HE.out]; rfl, rfl⟩
    obtain ⟨A, hA⟩ : ∃ A : Int, A = (acc : Int) := ⟨_, rfl⟩
    have e5 : ¬ A < 128 := by omega
    rw [← hA]
    have HA2 := Lib.hid hA
    clear hA
    cases hsb : signB acc
    · have ee : tailE 1 128 (some acc) = (0, 0) := by simp only [tailE]; rw [if_pos (.inr hsb)]
      have HE := Lib.hid ee
      clear ee
      have HS := Lib.hid hsb
      clear hsb
      go_wp2_with fail
      rw [HA2.out]
      refine (isSign_any acc _ (by omega)).mono ?_
      rintro e w' ⟨rfl, rfl⟩
      rw [HS.out]
      go_wp2_with fail
      go_ret2
      exact ⟨by rw [HF.out, HE.out]; rfl, rfl⟩
    have ee : tailE 1 128 (some acc) = (acc, 2) := tailE_ok hbad hsb
    have HE := Lib.hid ee
    clear ee
    have HS := Lib.hid hsb
    clear hsb
    go_wp2_with fail
    rw [HA2.out]
    refine (isSign_any acc _ (by omega)).mono ?_
    rintro e w' ⟨rfl, rfl⟩
    rw [HS.out]
    go_wp2_with fail
    go_ret2
    exact ⟨by rw [HF.out, HE.out]; rfl, rfl⟩
 · have hcase : sgn (c :: t.drop (p + 1)) = tailE 2 2048 (tailR 2 (t.drop (p + 1)) (c.toNat % 16)) := by
    rw [sgn, if_neg h1, if_neg (by omega), if_pos (by omega)]
   rw [hcase]
   have ha := andI c.toNat 15 4 (by decide) (by omega) (by decide)
   simp only [Nat.reducePow] at ha
   obtain ⟨acc0, hacc0⟩ : ∃ a, a = c.toNat % 16 := ⟨_, rfl⟩
   rw [← hacc0] at ha ⊢
   have hab : acc0 < 32 := by omega
   have G1 : (192 : Int) ≤ (c.toNat : Int) := by omega
   have G2 : ¬ (c.toNat : Int) < 224 := by omega
   have G2b : (224 : Int) ≤ (c.toNat : Int) := by omega
   have G4 : (c.toNat : Int) < 240 := by omega
   have HA := Lib.hid hacc0
   clear hacc0 hcase hdrop hc
   have ha' : bits .and .i64 (c.toNat : Int) 15 = (acc0 : Int) := ha
   clear ha
   by_cases hs : t.length - p < 3
   · have hs' : (t.length : Int) - (p : Int) < 3 := by omega
     have hr := tailR_short 2 (t.drop (p + 1)) acc0 (by simp; omega)
     rw [hr]
     have HR := Lib.hid hr
     clear hr
     go_enter Tryz.func166, Tryz.ntmps166
     go_wp2_with fail
     go_ret2
     exact ⟨rfl, rfl⟩
   have hs' : ¬ (t.length : Int) - (p : Int) < 3 := by omega
   go_enter Tryz.func166, Tryz.ntmps166
   go_wp2_with fail
   go_loop [6, 9] (fun x i => ∃ j acc : Nat, j ≤ 2 ∧ i = .int .i64 ((p + 1 + j : Nat) : Int) ∧ x = .int .i64 (acc : Int) ∧ acc < 32 * 64 ^ j ∧ tailR 2 (t.drop (p + 1)) acc0 = tailR (2 - j) (t.drop (p + 1 + j)) acc)
    (fun _ i => p + 3 - (intOf i).toNat)
   case atStart => exact ⟨0, acc0, by omega, by go_num, rfl, by omega, rfl⟩
   case round =>
    obtain ⟨j, acc, hj, rfl, rfl, hacc, hr⟩ := hrel
    have hpow : 64 ^ j ≤ 262144 := by
     have := Nat.pow_le_pow_right (n := 64) (by omega) (show j ≤ 3 by omega)
     simpa using this
    have haccb : acc < 8388608 := by omega
    have hpow1 : 64 ^ (j + 1) = 64 ^ j * 64 := Nat.pow_succ ..
    have HR := Lib.hid hr
    have HP1 := Lib.hid hpow1
    clear hr hpow1
    obtain ⟨q, hq⟩ : ∃ q, q = p + 1 + j := ⟨_, rfl⟩
    rw [← hq]
    by_cases hlt : j < 2
    · have hqt : q < t.length := by omega
      have n1 : (q : Int) < (p : Int) + 3 := by omega
      have n2 : (q : Int) < (t.length : Int) := by omega
      have n3 : (0 : Int) ≤ (q : Int) := by omega
      obtain ⟨d, hd⟩ : ∃ d, d = t[q] := ⟨_, rfl⟩
      have hgd : (ByteArray.mk t.toArray)[q]'(by simpa [ByteArray.size] using hqt) = d := hd.symm
      have hd255 := d.toNat_lt
      have e1 := and192 d
      have e2 := and63 d
      have e3 : bits .or .i64 ((acc : Int) * 64) ((d.toNat : Int) % 64) = ((acc * 64 + d.toNat % 64 : Nat) : Int) := or6 acc (d.toNat % 64) (by omega) (by omega)
      have hnx := tailR_next (2 - j - 1) t q acc hqt
      rw [← hd, show 2 - j - 1 + 1 = 2 - j by omega, hq, ← HR.out] at hnx
      have HQ := Lib.hid hq
      clear hq hd
      by_cases hdd : d.toNat / 64 = 2
      · have e4 : (((d.toNat / 64 * 64 : Nat) : Int) != 128) = false := by rw [bne_eq_false_iff_eq]; omega
        rw [if_pos hdd] at hnx
        have HNX := Lib.hid hnx
        have HDD := Lib.hid hdd
        clear hnx hdd
        go_wp2_with fail
        go_round
        case rel => exact ⟨j + 1, acc * 64 + d.toNat % 64, by omega, by have := HQ.out; go_num, rfl, by rw [HP1.out]; omega, by rw [HNX.out, ← HQ.out, show 2 - j - 1 = 2 - (j + 1) by omega, show p + 1 + (j + 1) = q + 1 by have := HQ.out; omega]⟩
        case measure => have := HQ.out; simp [intOf]; omega
      have e4 : (((d.toNat / 64 * 64 : Nat) : Int) != 128) = true := by rw [bne_iff_ne]; omega
      rw [if_neg hdd] at hnx
      have HNX := Lib.hid hnx
      have HDD := Lib.hid hdd
      clear hnx hdd
      go_wp2_with fail
      go_ret2
      exact ⟨by rw [HNX.out]; rfl, rfl⟩
    obtain rfl : j = 2 := by omega
    have n1 : ¬ (q : Int) < (p : Int) + 3 := by omega
    have hfin : tailR 2 (t.drop (p + 1)) acc0 = some acc := by rw [HR.out]; rfl
    have HF := Lib.hid hfin
    clear hfin
    by_cases hbad : acc < 2048
    · obtain ⟨A, hA⟩ : ∃ A : Int, A = (acc : Int) := ⟨_, rfl⟩
      have e5 : A < 2048 := by omega
      rw [← hA]
      have HA2 := Lib.hid hA
      clear hA
      have ee : tailE 2 2048 (some acc) = (0, 0) := by simp only [tailE]; rw [if_pos (.inl hbad)]
      have HE := Lib.hid ee
      clear ee
      go_wp2_with fail
      go_ret2
      exact ⟨by rw [HF.out, HE.out]; rfl, rfl⟩
    obtain ⟨A, hA⟩ : ∃ A : Int, A = (acc : Int) := ⟨_, rfl⟩
    have e5 : ¬ A < 2048 := by omega
    rw [← hA]
    have HA2 := Lib.hid hA
    clear hA
    cases hsb : signB acc
    · have ee : tailE 2 2048 (some acc) = (0, 0) := by simp only [tailE]; rw [if_pos (.inr hsb)]
      have HE := Lib.hid ee
      clear ee
      have HS := Lib.hid hsb
      clear hsb
      go_wp2_with fail
      rw [HA2.out]
      refine (isSign_any acc _ (by omega)).mono ?_
      rintro e w' ⟨rfl, rfl⟩
      rw [HS.out]
      go_wp2_with fail
      go_ret2
      exact ⟨by rw [HF.out, HE.out]; rfl, rfl⟩
    have ee : tailE 2 2048 (some acc) = (acc, 3) := tailE_ok hbad hsb
    have HE := Lib.hid ee
    clear ee
    have HS := Lib.hid hsb
    clear hsb
    go_wp2_with fail
    rw [HA2.out]
    refine (isSign_any acc _ (by omega)).mono ?_
    rintro e w' ⟨rfl, rfl⟩
    rw [HS.out]
    go_wp2_with fail
    go_ret2
    exact ⟨by rw [HF.out, HE.out]; rfl, rfl⟩
 have hcase : sgn (c :: t.drop (p + 1)) = tailE 3 65536 (tailR 3 (t.drop (p + 1)) (c.toNat % 8)) := by
  rw [sgn, if_neg h1, if_neg (by omega), if_neg (by omega), if_pos (by omega)]
 rw [hcase]
 have ha := andI c.toNat 7 3 (by decide) (by omega) (by decide)
 simp only [Nat.reducePow] at ha
 obtain ⟨acc0, hacc0⟩ : ∃ a, a = c.toNat % 8 := ⟨_, rfl⟩
 rw [← hacc0] at ha ⊢
 have hab : acc0 < 32 := by omega
 have G1 : (192 : Int) ≤ (c.toNat : Int) := by omega
 have G2 : ¬ (c.toNat : Int) < 224 := by omega
 have G2b : (224 : Int) ≤ (c.toNat : Int) := by omega
 have G3 : ¬ (c.toNat : Int) < 240 := by omega
 have G3b : (240 : Int) ≤ (c.toNat : Int) := by omega
 have G4 : (c.toNat : Int) < 248 := by omega
 have HA := Lib.hid hacc0
 clear hacc0 hcase hdrop hc
 have ha' : bits .and .i64 (c.toNat : Int) 7 = (acc0 : Int) := ha
 clear ha
 by_cases hs : t.length - p < 4
 · have hs' : (t.length : Int) - (p : Int) < 4 := by omega
   have hr := tailR_short 3 (t.drop (p + 1)) acc0 (by simp; omega)
   rw [hr]
   have HR := Lib.hid hr
   clear hr
   go_enter Tryz.func166, Tryz.ntmps166
   go_wp2_with fail
   go_ret2
   exact ⟨rfl, rfl⟩
 have hs' : ¬ (t.length : Int) - (p : Int) < 4 := by omega
 go_enter Tryz.func166, Tryz.ntmps166
 go_wp2_with fail
 go_loop [6, 9] (fun x i => ∃ j acc : Nat, j ≤ 3 ∧ i = .int .i64 ((p + 1 + j : Nat) : Int) ∧ x = .int .i64 (acc : Int) ∧ acc < 32 * 64 ^ j ∧ tailR 3 (t.drop (p + 1)) acc0 = tailR (3 - j) (t.drop (p + 1 + j)) acc)
  (fun _ i => p + 4 - (intOf i).toNat)
 case atStart => exact ⟨0, acc0, by omega, by go_num, rfl, by omega, rfl⟩
 case round =>
  obtain ⟨j, acc, hj, rfl, rfl, hacc, hr⟩ := hrel
  have hpow : 64 ^ j ≤ 262144 := by
   have := Nat.pow_le_pow_right (n := 64) (by omega) (show j ≤ 3 by omega)
   simpa using this
  have haccb : acc < 8388608 := by omega
  have hpow1 : 64 ^ (j + 1) = 64 ^ j * 64 := Nat.pow_succ ..
  have HR := Lib.hid hr
  have HP1 := Lib.hid hpow1
  clear hr hpow1
  obtain ⟨q, hq⟩ : ∃ q, q = p + 1 + j := ⟨_, rfl⟩
  rw [← hq]
  by_cases hlt : j < 3
  · have hqt : q < t.length := by omega
    have n1 : (q : Int) < (p : Int) + 4 := by omega
    have n2 : (q : Int) < (t.length : Int) := by omega
    have n3 : (0 : Int) ≤ (q : Int) := by omega
    obtain ⟨d, hd⟩ : ∃ d, d = t[q] := ⟨_, rfl⟩
    have hgd : (ByteArray.mk t.toArray)[q]'(by simpa [ByteArray.size] using hqt) = d := hd.symm
    have hd255 := d.toNat_lt
    have e1 := and192 d
    have e2 := and63 d
    have e3 : bits .or .i64 ((acc : Int) * 64) ((d.toNat : Int) % 64) = ((acc * 64 + d.toNat % 64 : Nat) : Int) := or6 acc (d.toNat % 64) (by omega) (by omega)
    have hnx := tailR_next (3 - j - 1) t q acc hqt
    rw [← hd, show 3 - j - 1 + 1 = 3 - j by omega, hq, ← HR.out] at hnx
    have HQ := Lib.hid hq
    clear hq hd
    by_cases hdd : d.toNat / 64 = 2
    · have e4 : (((d.toNat / 64 * 64 : Nat) : Int) != 128) = false := by rw [bne_eq_false_iff_eq]; omega
      rw [if_pos hdd] at hnx
      have HNX := Lib.hid hnx
      have HDD := Lib.hid hdd
      clear hnx hdd
      go_wp2_with fail
      go_round
      case rel => exact ⟨j + 1, acc * 64 + d.toNat % 64, by omega, by have := HQ.out; go_num, rfl, by rw [HP1.out]; omega, by rw [HNX.out, ← HQ.out, show 3 - j - 1 = 3 - (j + 1) by omega, show p + 1 + (j + 1) = q + 1 by have := HQ.out; omega]⟩
      case measure => have := HQ.out; simp [intOf]; omega
    have e4 : (((d.toNat / 64 * 64 : Nat) : Int) != 128) = true := by rw [bne_iff_ne]; omega
    rw [if_neg hdd] at hnx
    have HNX := Lib.hid hnx
    have HDD := Lib.hid hdd
    clear hnx hdd
    go_wp2_with fail
    go_ret2
    exact ⟨by rw [HNX.out]; rfl, rfl⟩
  obtain rfl : j = 3 := by omega
  have n1 : ¬ (q : Int) < (p : Int) + 4 := by omega
  have hfin : tailR 3 (t.drop (p + 1)) acc0 = some acc := by rw [HR.out]; rfl
  have HF := Lib.hid hfin
  clear hfin
  by_cases hbad : acc < 65536
  · obtain ⟨A, hA⟩ : ∃ A : Int, A = (acc : Int) := ⟨_, rfl⟩
    have e5 : A < 65536 := by omega
    rw [← hA]
    have HA2 := Lib.hid hA
    clear hA
    have ee : tailE 3 65536 (some acc) = (0, 0) := by simp only [tailE]; rw [if_pos (.inl hbad)]
    have HE := Lib.hid ee
    clear ee
    go_wp2_with fail
    go_ret2
    exact ⟨by rw [HF.out, HE.out]; rfl, rfl⟩
  obtain ⟨A, hA⟩ : ∃ A : Int, A = (acc : Int) := ⟨_, rfl⟩
  have e5 : ¬ A < 65536 := by omega
  rw [← hA]
  have HA2 := Lib.hid hA
  clear hA
  cases hsb : signB acc
  · have ee : tailE 3 65536 (some acc) = (0, 0) := by simp only [tailE]; rw [if_pos (.inr hsb)]
    have HE := Lib.hid ee
    clear ee
    have HS := Lib.hid hsb
    clear hsb
    go_wp2_with fail
    rw [HA2.out]
    refine (isSign_any acc _ (by omega)).mono ?_
    rintro e w' ⟨rfl, rfl⟩
    rw [HS.out]
    go_wp2_with fail
    go_ret2
    exact ⟨by rw [HF.out, HE.out]; rfl, rfl⟩
  have ee : tailE 3 65536 (some acc) = (acc, 4) := tailE_ok hbad hsb
  have HE := Lib.hid ee
  clear ee
  have HS := Lib.hid hsb
  clear hsb
  go_wp2_with fail
  rw [HA2.out]
  refine (isSign_any acc _ (by omega)).mono ?_
  rintro e w' ⟨rfl, rfl⟩
  rw [HS.out]
  go_wp2_with fail
  go_ret2
  exact ⟨by rw [HF.out, HE.out]; rfl, rfl⟩
end Go.Proofs.YtegblhmcfemfgaaGreatDoor
