import Derived.Test.YtidlhajibjnkeaaGreatDoorTRound
import Derived.Lib.DecodeN
import Derived.Laws.IdiomStrings
/- Layer 3: what is escaped, surrogates, plainly. -/
namespace Go.Proofs.YtidlhajibjnkeaaGreatDoor
open Go.RowKit

def slN (l : List UInt8) : Nat := (l.filter fun c => decide (qb c ≠ [c])).length
theorem slN_snoc (l : List UInt8) (c : UInt8) : slN (l ++ [c]) = slN l + if qb c ≠ [c] then 1 else 0 := by
  unfold slN
  rw [List.filter_append, List.length_append]
  by_cases h : qb c = [c] <;> simp [h]
theorem slN_le (l : List UInt8) : slN l ≤ l.length := List.length_filter_le _ _
theorem qb_len1 (c : UInt8) (h : qb c ≠ [c]) : 2 ≤ (qb c).length := by
  unfold qb at h ⊢
  split
  · simp
  split
  · simp
  · next h1 h2 => rw [if_neg h1, if_neg h2] at h; exact absurd rfl h
theorem slN_zero : ∀ l : List UInt8, slN l = 0 → qbL l = l
  | [], _ => rfl
  | c :: t, h => by
    unfold slN at h
    rw [List.filter_cons] at h
    split at h
    · simp at h
    · next hc =>
      have := slN_zero t h
      have hc' : qb c = [c] := by simpa using hc
      simp only [qbL, List.flatMap_cons] at this ⊢
      rw [this, hc']; rfl
theorem slN_pos : ∀ l : List UInt8, l.length + slN l ≤ (qbL l).length
  | [] => by simp [slN, qbL]
  | c :: t => by
    have ih := slN_pos t
    unfold slN at ih ⊢
    rw [List.filter_cons]
    simp only [qbL, List.flatMap_cons, List.length_append, List.length_cons] at ih ⊢
    split
    · next hc =>
      have := qb_len1 c (by simpa using hc)
      simp only [List.length_cons]; omega
    · next hc =>
      have hc' : qb c = [c] := by simpa using hc
      rw [hc']; simp only [List.length_cons, List.length_nil]; omega

/-- Great digits of 16. -/
def hexU (n : Nat) : UInt8 := [48, 49, 50, 51, 52, 53, 54, 55, 56, 57, 65, 66, 67, 68, 69, 70].getD n 0
theorem refD_U : ∀ m : Fin 16, refD (hexU m.val) = (m.val : Int) := by decide
theorem hexU_cut : ∀ m : Fin 16, (ByteArray.mk #[48, 49, 50, 51, 52, 53, 54, 55, 56, 57, 65, 66, 67, 68, 69, 70]).extract m.val (m.val + 1) = ByteArray.mk [hexU m.val].toArray := by decide +kernel
theorem hexS_cut : ∀ m : Fin 16, (ByteArray.mk #[48, 49, 50, 51, 52, 53, 54, 55, 56, 57, 97, 98, 99, 100, 101, 102]).extract m.val (m.val + 1) = ByteArray.mk [hexS m.val].toArray := by decide +kernel

theorem four_any16 (g : Nat → UInt8) (hg : ∀ m : Fin 16, refD (g m.val) = (m.val : Int)) (n : Nat) (hn : n < 65536) (v : List UInt8) :
    fourR 4 (g (n / 4096) :: g (n / 256 % 16) :: g (n / 16 % 16) :: g (n % 16) :: v) 0 = (n, 0, 4) := by
  have h3 := hg ⟨n / 4096, by omega⟩
  have h2 := hg ⟨n / 256 % 16, by omega⟩
  have h1 := hg ⟨n / 16 % 16, by omega⟩
  have h0 := hg ⟨n % 16, by omega⟩
  simp only at h0 h1 h2 h3
  simp only [fourR, h0, h1, h2, h3]
  rw [if_neg (by omega), if_neg (by omega), if_neg (by omega), if_neg (by omega)]
  simp only [Prod.mk.injEq, and_true, Int.toNat_natCast]
  omega
theorem signB_big (c : Nat) (h0 : 65536 ≤ c) (h1 : c ≤ 1114111) : signB c = true := by unfold signB; simp; omega
/-- A sign by two surrogates. -/
theorem unq_pair (c : Nat) (h0 : 65536 ≤ c) (h1 : c ≤ 1114111) (H L : Nat) (hH : H = 55296 + (c - 65536) / 1024) (hL : L = 56320 + (c - 65536) % 1024) :
    unqR [34, 92, 117, hexU (H / 4096), hexU (H / 256 % 16), hexU (H / 16 % 16), hexU (H % 16), 92, 117, hexU (L / 4096), hexU (L / 256 % 16), hexU (L / 16 % 16), hexU (L % 16), 34] 0 = (sb c, 14, 0) := by
  have hs := signB_big c h0 h1
  obtain ⟨T, hT⟩ : ∃ T, T = [34, 92, 117, hexU (H / 4096), hexU (H / 256 % 16), hexU (H / 16 % 16), hexU (H % 16), 92, 117, hexU (L / 4096), hexU (L / 256 % 16), hexU (L / 16 % 16), hexU (L % 16), 34] := ⟨_, rfl⟩
  have hlen : T.length = 14 := by rw [hT]; rfl
  have f1 : fourR 4 (T.drop 3) 0 = (H, 0, 4) := by
    rw [hT]; exact four_any16 hexU refD_U H (by omega) _
  have f2 : fourR 4 (T.drop 9) 0 = (L, 0, 4) := by
    rw [hT]; exact four_any16 hexU refD_U L (by omega) _
  have w7 : wantN T 7 92 = 0 := by rw [hT]; rfl
  have w8 : wantN T 8 117 = 0 := by rw [hT]; rfl
  have hsec : secR T 7 = (L, 0, 6) := by
    unfold secR
    rw [w7, w8, if_neg (by simp), if_neg (by simp), f2]
    simp only [true_and]
    rw [if_neg (by omega)]
  have hunit : unitR T 3 = (0, 10, sb c) := by
    unfold unitR
    rw [f1]
    simp only
    rw [if_neg (by simp), if_pos (by omega), hsec, if_neg (by simp)]
    simp only
    rw [show 65536 + (H - 55296) * 1024 + (L - 56320) = c by omega, unitF, if_pos hs]
  have hesc : escR T 2 = (0, 11, sb c) := by
    have : T[2]? = some 117 := by rw [hT]; rfl
    rw [escR, this]
    simp only
    rw [if_pos trivial, hunit]
  have hst1 : stepR T 1 = (false, 0, 12, sb c) := by
    have : T[1]? = some 92 := by rw [hT]; rfl
    rw [stepR, this]
    simp only
    rw [if_neg (by decide), if_pos trivial, hesc]
  have hst2 : stepR T 13 = (true, 0, 1, []) := by
    have : T[13]? = some 34 := by rw [hT]; rfl
    rw [stepR, this]
    simp
  have hw : wantN T 0 34 = 0 := by rw [hT]; rfl
  rw [← hT, unqR, if_neg (by simp), show (0 : Int).toNat = 0 from rfl, hw, if_neg (by simp), hlen]
  rw [show (14 : Nat) + 1 = 13 + 1 + 1 from rfl, unqF, hst1]
  simp only
  rw [if_neg (by simp), if_neg (by simp), unqF, show 0 + 1 + 12 = 13 from rfl, hst2]
  simp
end Go.Proofs.YtidlhajibjnkeaaGreatDoor

/- Layer 3: a sign's bytes are that sign, plainly. -/
namespace Go.Proofs.YtidlhajibjnkeaaGreatDoor
open Go.RowKit

theorem signB_iff (n : Nat) : signB n = true ↔ n < 55296 ∨ (57343 < n ∧ n ≤ 1114111) := by
  unfold signB; simp; omega
theorem oN (n : Nat) (h : n < 256) : (UInt8.ofNat n).toNat = n := by rw [UInt8.toNat_ofNat']; omega
theorem sgn_sb (n : Nat) (h : signB n = true) : sgn (sb n) = (n, (sb n).length) := by
  have hn := (signB_iff n).1 h
  unfold sb
  split
  · rw [sgn, oN n (by omega), if_pos (by omega)]; rfl
  split
  · rw [sgn, oN _ (by omega), if_neg (by omega), if_pos (by omega)]
    simp only [tailR]
    rw [oN _ (by omega), if_pos (by omega)]
    rw [show (192 + n / 64) % 32 * 64 + (128 + n % 64) % 64 = n by omega, tailE_ok (by omega) h]
    rfl
  split
  · rw [sgn, oN _ (by omega), if_neg (by omega), if_neg (by omega), if_pos (by omega)]
    simp only [tailR]
    rw [oN _ (by omega), oN _ (by omega), if_pos (by omega), if_pos (by omega)]
    rw [show ((224 + n / 4096) % 16 * 64 + (128 + n / 64 % 64) % 64) * 64 + (128 + n % 64) % 64 = n by omega, tailE_ok (by omega) h]
    rfl
  · rw [sgn, oN _ (by omega), if_neg (by omega), if_neg (by omega), if_neg (by omega), if_pos (by omega)]
    simp only [tailR]
    rw [oN _ (by omega), oN _ (by omega), oN _ (by omega), if_pos (by omega), if_pos (by omega), if_pos (by omega)]
    rw [show (((240 + n / 262144) % 8 * 64 + (128 + n / 4096 % 64) % 64) * 64 + (128 + n / 64 % 64) % 64) * 64 + (128 + n % 64) % 64 = n by omega, tailE_ok (by omega) h]
    rfl
theorem sb_pos (n : Nat) : 1 ≤ (sb n).length := by
  unfold sb
  split
  · simp
  split
  · simp
  split
  · simp
  · simp
theorem cnt_sb (n : Nat) (h : signB n = true) : cnt (sb n) = some 1 := by
  have hp := sb_pos n
  rw [cnt_step _ (by intro e; rw [e] at hp; simp at hp), sgn_sb n h, if_neg (by simp only; omega), List.drop_length, cnt_nil]
  rfl
theorem sb_inj (n m : Nat) (h : signB n = true) (k : signB m = true) (e : sb n = sb m) : n = m := by
  have h1 := sgn_sb n h
  rw [e, sgn_sb m k] at h1
  exact (Prod.mk.inj h1).1.symm
theorem unq_four (n : Nat) (h : signB n = true) (hn : n < 65536) :
    unqR [34, 92, 117, hexS (n / 4096), hexS (n / 256 % 16), hexS (n / 16 % 16), hexS (n % 16), 34] 0 = (sb n, 8, 0) := by
  have hb := (signB_iff n).1 h
  obtain ⟨T, hT⟩ : ∃ T, T = [34, 92, 117, hexS (n / 4096), hexS (n / 256 % 16), hexS (n / 16 % 16), hexS (n % 16), 34] := ⟨_, rfl⟩
  have hlen : T.length = 8 := by rw [hT]; rfl
  have f1 : fourR 4 (T.drop 3) 0 = (n, 0, 4) := by
    rw [hT]; exact four_any16 hexS refD_S n (by omega) _
  have hunit : unitR T 3 = (0, 4, sb n) := by
    unfold unitR
    rw [f1]
    simp only
    rw [if_neg (by simp), if_neg (by omega), unitF, if_pos h]
  have hesc : escR T 2 = (0, 5, sb n) := by
    have : T[2]? = some 117 := by rw [hT]; rfl
    rw [escR, this]
    simp only
    rw [if_pos trivial, hunit]
  have hst1 : stepR T 1 = (false, 0, 6, sb n) := by
    have : T[1]? = some 92 := by rw [hT]; rfl
    rw [stepR, this]
    simp only
    rw [if_neg (by decide), if_pos trivial, hesc]
  have hst2 : stepR T 7 = (true, 0, 1, []) := by
    have : T[7]? = some 34 := by rw [hT]; rfl
    rw [stepR, this]
    simp
  have hw : wantN T 0 34 = 0 := by rw [hT]; rfl
  rw [← hT, unqR, if_neg (by simp), show (0 : Int).toNat = 0 from rfl, hw, if_neg (by simp), hlen]
  rw [show (8 : Nat) + 1 = 7 + 1 + 1 from rfl, unqF, hst1]
  simp only
  rw [if_neg (by simp), if_neg (by simp), unqF, show 0 + 1 + 6 = 7 from rfl, hst2]
  simp

theorem get_at (l : List UInt8) (i : Nat) : (ByteArray.mk l.toArray).get! i = l.getD i 0 := by
  simp only [ByteArray.get!, List.getD_eq_getElem?_getD]
  rw [← List.getElem?_toArray, Array.getElem!_eq_getD]
  simp [Array.getD_eq_getD_getElem?]
  rfl
theorem decode_sb (n : Nat) (h : signB n = true) : Utf8.decode ⟨(sb n).toArray⟩ 0 = (n, (sb n).length) := by
  have hn := (signB_iff n).1 h
  rw [Lib.decode_at, get_at, get_at, get_at, get_at]
  unfold sb
  split
  · simp only [List.getD_cons_zero]
    rw [oN n (by omega), Lib.decodeN, if_pos (by omega)]; rfl
  split
  · simp only [List.getD_cons_zero, List.getD_cons_succ, Nat.zero_add, Nat.sub_zero]
    rw [oN _ (by omega), oN _ (by omega), Lib.decodeN, if_neg (by omega), if_pos ⟨by omega, by simp [ByteArray.size], by omega⟩, if_pos (by omega)]
    exact Prod.ext (by simp only; omega) rfl
  split
  · simp only [List.getD_cons_zero, List.getD_cons_succ, Nat.zero_add, Nat.sub_zero]
    rw [oN _ (by omega), oN _ (by omega), oN _ (by omega), Lib.decodeN, if_neg (by omega), if_neg (by rintro ⟨h, _⟩; omega), if_pos ⟨by omega, ⟨by simp [ByteArray.size], by omega⟩, by simp [ByteArray.size], by omega⟩, if_pos (by omega)]
    exact Prod.ext (by simp only; omega) rfl
  · simp only [List.getD_cons_zero, List.getD_cons_succ, Nat.zero_add, Nat.sub_zero]
    rw [oN _ (by omega), oN _ (by omega), oN _ (by omega), oN _ (by omega), Lib.decodeN, if_neg (by omega), if_neg (by rintro ⟨h, _⟩; omega), if_neg (by rintro ⟨h, _⟩; omega), if_pos ⟨by omega, ⟨by simp [ByteArray.size], by omega⟩, ⟨by simp [ByteArray.size], by omega⟩, by simp [ByteArray.size], by omega⟩, if_pos (by omega)]
    exact Prod.ext (by simp only; omega) rfl
theorem runes_sb (n : Nat) (h : signB n = true) : Conv.runesFrom ⟨(sb n).toArray⟩ (ByteArray.mk (sb n).toArray).size 0 #[] = #[.int .i32 (n : Int)] := by
  have hp := sb_pos n
  have hs : (ByteArray.mk (sb n).toArray).size = (sb n).length := by simp [ByteArray.size]
  obtain ⟨k, hk⟩ : ∃ k, (ByteArray.mk (sb n).toArray).size = k + 1 := ⟨(sb n).length - 1, by omega⟩
  rw [hk, Conv.runesFrom, if_pos (by omega), decode_sb n h]
  simp only [Nat.zero_add]
  cases k with
  | zero => rfl
  | succ k => rw [Conv.runesFrom, if_neg (by omega)]; rfl
end Go.Proofs.YtidlhajibjnkeaaGreatDoor
