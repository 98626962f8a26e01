/- Layer 3: a sign's bytes are that sign, plainly. -/
import Derived.Test.YtdefjpgmolehdaaEscMath
import Derived.Lib.DecodeN
import Derived.Laws.IdiomStrings
namespace Go.Proofs.Ytdefjpgmolehdaa
open Go.RowKit

theorem signB_iff (n : Nat) : signB n = true ↔ n < 55296 ∨ (57343 < n ∧ n ≤ 1114111) := by
  unfold signB; simp; omega
theorem oN (n : Nat) (h : n < 256) : (UInt8.ofNat n).toNat = n := by rw [UInt8.toNat_ofNat']; omega
theorem sgn_sb (n : Nat) (h : signB n = true) : sgn (sb n) = (n, (sb n).length) := by
  have hn := (signB_iff n).1 h
  unfold sb
  split
  · rw [sgn, oN n (by omega), if_pos (by omega)]; rfl
  split
  · rw [sgn, oN _ (by omega), if_neg (by omega), if_pos (by omega)]
    simp only [tailR]
    rw [oN _ (by omega), if_pos (by omega)]
    rw [show (192 + n / 64) % 32 * 64 + (128 + n % 64) % 64 = n by omega, tailE_ok (by omega) h]
    rfl
  split
  · rw [sgn, oN _ (by omega), if_neg (by omega), if_neg (by omega), if_pos (by omega)]
    simp only [tailR]
    rw [oN _ (by omega), oN _ (by omega), if_pos (by omega), if_pos (by omega)]
    rw [show ((224 + n / 4096) % 16 * 64 + (128 + n / 64 % 64) % 64) * 64 + (128 + n % 64) % 64 = n by omega, tailE_ok (by omega) h]
    rfl
  · rw [sgn, oN _ (by omega), if_neg (by omega), if_neg (by omega), if_neg (by omega), if_pos (by omega)]
    simp only [tailR]
    rw [oN _ (by omega), oN _ (by omega), oN _ (by omega), if_pos (by omega), if_pos (by omega), if_pos (by omega)]
    rw [show (((240 + n / 262144) % 8 * 64 + (128 + n / 4096 % 64) % 64) * 64 + (128 + n / 64 % 64) % 64) * 64 + (128 + n % 64) % 64 = n by omega, tailE_ok (by omega) h]
    rfl
theorem sb_pos (n : Nat) : 1 ≤ (sb n).length := by
  unfold sb
  split
  · simp
  split
  · simp
  split
  · simp
  · simp
theorem cnt_sb (n : Nat) (h : signB n = true) : cnt (sb n) = some 1 := by
  have hp := sb_pos n
  rw [cnt_step _ (by intro e; rw [e] at hp; simp at hp), sgn_sb n h, if_neg (by simp only; omega), List.drop_length, cnt_nil]
  rfl
theorem sb_inj (n m : Nat) (h : signB n = true) (k : signB m = true) (e : sb n = sb m) : n = m := by
  have h1 := sgn_sb n h
  rw [e, sgn_sb m k] at h1
  exact (Prod.mk.inj h1).1.symm
theorem unq_four (n : Nat) (h : signB n = true) (hn : n < 65536) :
    unqR [34, 92, 117, hexS (n / 4096), hexS (n / 256 % 16), hexS (n / 16 % 16), hexS (n % 16), 34] 0 = (sb n, 8, 0) := by
  have hb := (signB_iff n).1 h
  obtain ⟨T, hT⟩ : ∃ T, T = [34, 92, 117, hexS (n / 4096), hexS (n / 256 % 16), hexS (n / 16 % 16), hexS (n % 16), 34] := ⟨_, rfl⟩
  have hlen : T.length = 8 := by rw [hT]; rfl
  have f1 : fourR 4 (T.drop 3) 0 = (n, 0, 4) := by
    rw [hT]; exact four_any16 hexS refD_S n (by omega) _
  have hunit : unitR T 3 = (0, 4, sb n) := by
    unfold unitR
    rw [f1]
    simp only
    rw [if_neg (by simp), if_neg (by omega), unitF, if_pos h]
  have hesc : escR T 2 = (0, 5, sb n) := by
    have : T[2]? = some 117 := by rw [hT]; rfl
    rw [escR, this]
    simp only
    rw [if_pos trivial, hunit]
  have hst1 : stepR T 1 = (false, 0, 6, sb n) := by
    have : T[1]? = some 92 := by rw [hT]; rfl
    rw [stepR, this]
    simp only
    rw [if_neg (by decide), if_pos trivial, hesc]
  have hst2 : stepR T 7 = (true, 0, 1, []) := by
    have : T[7]? = some 34 := by rw [hT]; rfl
    rw [stepR, this]
    simp
  have hw : wantN T 0 34 = 0 := by rw [hT]; rfl
  rw [← hT, unqR, if_neg (by simp), show (0 : Int).toNat = 0 from rfl, hw, if_neg (by simp), hlen]
  rw [show (8 : Nat) + 1 = 7 + 1 + 1 from rfl, unqF, hst1]
  simp only
  rw [if_neg (by simp), if_neg (by simp), unqF, show 0 + 1 + 6 = 7 from rfl, hst2]
  simp

theorem get_at (l : List UInt8) (i : Nat) : (ByteArray.mk l.toArray).get! i = l.getD i 0 := by
  simp only [ByteArray.get!, List.getD_eq_getElem?_getD]
  rw [← List.getElem?_toArray, Array.getElem!_eq_getD]
  simp [Array.getD_eq_getD_getElem?]
  rfl
theorem decode_sb (n : Nat) (h : signB n = true) : Utf8.decode ⟨(sb n).toArray⟩ 0 = (n, (sb n).length) := by
  have hn := (signB_iff n).1 h
  rw [Lib.decode_at, get_at, get_at, get_at, get_at]
  unfold sb
  split
  · simp only [List.getD_cons_zero]
    rw [oN n (by omega), Lib.decodeN, if_pos (by omega)]; rfl
  split
  · simp only [List.getD_cons_zero, List.getD_cons_succ, Nat.zero_add, Nat.sub_zero]
    rw [oN _ (by omega), oN _ (by omega), Lib.decodeN, if_neg (by omega), if_pos ⟨by omega, by simp [ByteArray.size], by omega⟩, if_pos (by omega)]
    exact Prod.ext (by simp only; omega) rfl
  split
  · simp only [List.getD_cons_zero, List.getD_cons_succ, Nat.zero_add, Nat.sub_zero]
    rw [oN _ (by omega), oN _ (by omega), oN _ (by omega), Lib.decodeN, if_neg (by omega), if_neg (by rintro ⟨h, _⟩; omega), if_pos ⟨by omega, ⟨by simp [ByteArray.size], by omega⟩, by simp [ByteArray.size], by omega⟩, if_pos (by omega)]
    exact Prod.ext (by simp only; omega) rfl
  · simp only [List.getD_cons_zero, List.getD_cons_succ, Nat.zero_add, Nat.sub_zero]
    rw [oN _ (by omega), oN _ (by omega), oN _ (by omega), oN _ (by omega), Lib.decodeN, if_neg (by omega), if_neg (by rintro ⟨h, _⟩; omega), if_neg (by rintro ⟨h, _⟩; omega), if_pos ⟨by omega, ⟨by simp [ByteArray.size], by omega⟩, ⟨by simp [ByteArray.size], by omega⟩, by simp [ByteArray.size], by omega⟩, if_pos (by omega)]
    exact Prod.ext (by simp only; omega) rfl
theorem runes_sb (n : Nat) (h : signB n = true) : Conv.runesFrom ⟨(sb n).toArray⟩ (ByteArray.mk (sb n).toArray).size 0 #[] = #[.int .i32 (n : Int)] := by
  have hp := sb_pos n
  have hs : (ByteArray.mk (sb n).toArray).size = (sb n).length := by simp [ByteArray.size]
  obtain ⟨k, hk⟩ : ∃ k, (ByteArray.mk (sb n).toArray).size = k + 1 := ⟨(sb n).length - 1, by omega⟩
  rw [hk, Conv.runesFrom, if_pos (by omega), decode_sb n h]
  simp only [Nat.zero_add]
  cases k with
  | zero => rfl
  | succ k => rw [Conv.runesFrom, if_neg (by omega)]; rfl
end Go.Proofs.Ytdefjpgmolehdaa
