import Derived.Test.YtidlhajibjnkeaaGreatDoorTRound
import Derived.Lib.DecodeN
import Derived.Laws.IdiomStrings
/- Layer 3: what is escaped, surrogates, plainly. -/
namespace Go.Proofs.YtidlhajibjnkeaaGreatDoor
open Go.RowKit

def slN (l : List UInt8) : Nat := (l.filter fun c => decide (qb c ≠ [c])).length
theorem slN_snoc (l : List UInt8) (c : UInt8) : slN (l ++ [c]) = slN l + if qb c ≠ [c] then 1 else 0 := by
  unfold slN
  rw [List.filter_append, List.length_append]
  by_cases h : qb c = [c] <;> simp [h]
theorem slN_le (l : List UInt8) : slN l ≤ l.length := List.length_filter_le _ _
theorem qb_len1 (c : UInt8) (h : qb c ≠ [c]) : 2 ≤ (qb c).length := by
  unfold qb at h ⊢
  split
  · simp
  split
  · simp
  · next h1 h2 => rw [if_neg h1, if_neg h2] at h; exact absurd rfl h
theorem slN_zero : ∀ l : List UInt8, slN l = 0 → qbL l = l
  | [], _ => rfl
  | c :: t, h => by
    unfold slN at h
    rw [List.filter_cons] at h
    split at h
    · simp at h
    · next hc =>
      have := slN_zero t h
      have hc' : qb c = [c] := by simpa using hc
      simp only [qbL, List.flatMap_cons] at this ⊢
      rw [this, hc']; rfl
theorem slN_pos : ∀ l : List UInt8, l.length + slN l ≤ (qbL l).length
  | [] => by simp [slN, qbL]
  | c :: t => by
    have ih := slN_pos t
    unfold slN at ih ⊢
    rw [List.filter_cons]
    simp only [qbL, List.flatMap_cons, List.length_append, List.length_cons] at ih ⊢
    split
    · next hc =>
      have := qb_len1 c (by simpa using hc)
      simp only [List.length_cons]; omega
    · next hc =>
      have hc' : qb c = [c] := by simpa using hc
      rw [hc']; simp only [List.length_cons, List.length_nil]; omega

/-- Great digits of 16. -/
def hexU (n : Nat) : UInt8 := [48, 49, 50, 51, 52, 53, 54, 55, 56, 57, 65, 66, 67, 68, 69, 70].getD n 0
theorem refD_U : ∀ m : Fin 16, refD (hexU m.val) = (m.val : Int) := by decide
theorem hexU_cut : ∀ m : Fin 16, (ByteArray.mk #[48, 49, 50, 51, 52, 53, 54, 55, 56, 57, 65, 66, 67, 68, 69, 70]).extract m.val (m.val + 1) = ByteArray.mk [hexU m.val].toArray := by decide +kernel
theorem hexS_cut : ∀ m : Fin 16, (ByteArray.mk #[48, 49, 50, 51, 52, 53, 54, 55, 56, 57, 97, 98, 99, 100, 101, 102]).extract m.val (m.val + 1) = ByteArray.mk [hexS m.val].toArray := by decide +kernel

theorem four_any16 (g : Nat → UInt8) (hg : ∀ m : Fin 16, refD (g m.val) = (m.val : Int)) (n : Nat) (hn : n < 65536) (v : List UInt8) :
    fourR 4 (g (n / 4096) :: g (n / 256 % 16) :: g (n / 16 % 16) :: g (n % 16) :: v) 0 = (n, 0, 4) := by
  have h3 := hg ⟨n / 4096, by omega⟩
  have h2 := hg ⟨n / 256 % 16, by omega⟩
  have h1 := hg ⟨n / 16 % 16, by omega⟩
  have h0 := hg ⟨n % 16, by omega⟩
  simp only at h0 h1 h2 h3
  simp only [fourR, h0, h1, h2, h3]
  rw [if_neg (by omega), if_neg (by omega), if_neg (by omega), if_neg (by omega)]
  simp only [Prod.mk.injEq, and_true, Int.toNat_natCast]
  omega
theorem signB_big (c : Nat) (h0 : 65536 ≤ c) (h1 : c ≤ 1114111) : signB c = true := by unfold signB; simp; omega
/-- A sign by two surrogates. -/
theorem unq_pair (c : Nat) (h0 : 65536 ≤ c) (h1 : c ≤ 1114111) (H L : Nat) (hH : H = 55296 + (c - 65536) / 1024) (hL : L = 56320 + (c - 65536) % 1024) :
    unqR [34, 92, 117, hexU (H / 4096), hexU (H / 256 % 16), hexU (H / 16 % 16), hexU (H % 16), 92, 117, hexU (L / 4096), hexU (L / 256 % 16), hexU (L / 16 % 16), hexU (L % 16), 34] 0 = (sb c, 14, 0) := by
  have hs := signB_big c h0 h1
  obtain ⟨T, hT⟩ : ∃ T, T = [34, 92, 117, hexU (H / 4096), hexU (H / 256 % 16), hexU (H / 16 % 16), hexU (H % 16), 92, 117, hexU (L / 4096), hexU (L / 256 % 16), hexU (L / 16 % 16), hexU (L % 16), 34] := ⟨_, rfl⟩
  have hlen : T.length = 14 := by rw [hT]; rfl
  have f1 : fourR 4 (T.drop 3) 0 = (H, 0, 4) := by
    rw [hT]; exact four_any16 hexU refD_U H (by omega) _
  have f2 : fourR 4 (T.drop 9) 0 = (L, 0, 4) := by
    rw [hT]; exact four_any16 hexU refD_U L (by omega) _
  have w7 : wantN T 7 92 = 0 := by rw [hT]; rfl
  have w8 : wantN T 8 117 = 0 := by rw [hT]; rfl
  have hsec : secR T 7 = (L, 0, 6) := by
    unfold secR
    rw [w7, w8, if_neg (by simp), if_neg (by simp), f2]
    simp only [true_and]
    rw [if_neg (by omega)]
  have hunit : unitR T 3 = (0, 10, sb c) := by
    unfold unitR
    rw [f1]
    simp only
    rw [if_neg (by simp), if_pos (by omega), hsec, if_neg (by simp)]
    simp only
    rw [show 65536 + (H - 55296) * 1024 + (L - 56320) = c by omega, unitF, if_pos hs]
  have hesc : escR T 2 = (0, 11, sb c) := by
    have : T[2]? = some 117 := by rw [hT]; rfl
    rw [escR, this]
    simp only
    rw [if_pos trivial, hunit]
  have hst1 : stepR T 1 = (false, 0, 12, sb c) := by
    have : T[1]? = some 92 := by rw [hT]; rfl
    rw [stepR, this]
    simp only
    rw [if_neg (by decide), if_pos trivial, hesc]
  have hst2 : stepR T 13 = (true, 0, 1, []) := by
    have : T[13]? = some 34 := by rw [hT]; rfl
    rw [stepR, this]
    simp
  have hw : wantN T 0 34 = 0 := by rw [hT]; rfl
  rw [← hT, unqR, if_neg (by simp), show (0 : Int).toNat = 0 from rfl, hw, if_neg (by simp), hlen]
  rw [show (14 : Nat) + 1 = 13 + 1 + 1 from rfl, unqF, hst1]
  simp only
  rw [if_neg (by simp), if_neg (by simp), unqF, show 0 + 1 + 12 = 13 from rfl, hst2]
  simp
end Go.Proofs.YtidlhajibjnkeaaGreatDoor

/- Layer 3: a sign's bytes are that sign, plainly. -/
namespace Go.Proofs.YtidlhajibjnkeaaGreatDoor
open Go.RowKit

theorem signB_iff (n : Nat) : signB n = true ↔ n < 55296 ∨ (57343 < n ∧ n ≤ 1114111) := by
  unfold signB; simp; omega
theorem oN (n : Nat) (h : n < 256) : (UInt8.ofNat n).toNat = n := by rw [UInt8.toNat_ofNat']; omega
theorem sgn_sb (n : Nat) (h : signB n = true) : sgn (sb n) = (n, (sb n).length) := by
  have hn := (signB_iff n).1 h
  unfold sb
  split
  · rw [sgn, oN n (by omega), if_pos (by omega)]; rfl
  split
  · rw [sgn, oN _ (by omega), if_neg (by omega), if_pos (by omega)]
    simp only [tailR]
    rw [oN _ (by omega), if_pos (by omega)]
    rw [show (192 + n / 64) % 32 * 64 + (128 + n % 64) % 64 = n by omega, tailE_ok (by omega) h]
    rfl
  split
  · rw [sgn, oN _ (by omega), if_neg (by omega), if_neg (by omega), if_pos (by omega)]
    simp only [tailR]
    rw [oN _ (by omega), oN _ (by omega), if_pos (by omega), if_pos (by omega)]
    rw [show ((224 + n / 4096) % 16 * 64 + (128 + n / 64 % 64) % 64) * 64 + (128 + n % 64) % 64 = n by omega, tailE_ok (by omega) h]
    rfl
  · rw [sgn, oN _ (by omega), if_neg (by omega), if_neg (by omega), if_neg (by omega), if_pos (by omega)]
    simp only [tailR]
    rw [oN _ (by omega), oN _ (by omega), oN _ (by omega), if_pos (by omega), if_pos (by omega), if_pos (by omega)]
    rw [show (((240 + n / 262144) % 8 * 64 + (128 + n / 4096 % 64) % 64) * 64 + (128 + n / 64 % 64) % 64) * 64 + (128 + n % 64) % 64 = n by omega, tailE_ok (by omega) h]
    rfl
theorem sb_pos (n : Nat) : 1 ≤ (sb n).length := by
  unfold sb
  split
  · simp
  split
  · simp
  split
  · simp
  · simp
theorem cnt_sb (n : Nat) (h : signB n = true) : cnt (sb n) = some 1 := by
  have hp := sb_pos n
  rw [cnt_step _ (by intro e; rw [e] at hp; simp at hp), sgn_sb n h, if_neg (by simp only; omega), List.drop_length, cnt_nil]
  rfl
theorem sb_inj (n m : Nat) (h : signB n = true) (k : signB m = true) (e : sb n = sb m) : n = m := by
  have h1 := sgn_sb n h
  rw [e, sgn_sb m k] at h1
  exact (Prod.mk.inj h1).1.symm
theorem unq_four (n : Nat) (h : signB n = true) (hn : n < 65536) :
    unqR [34, 92, 117, hexS (n / 4096), hexS (n / 256 % 16), hexS (n / 16 % 16), hexS (n % 16), 34] 0 = (sb n, 8, 0) := by
  have hb := (signB_iff n).1 h
  obtain ⟨T, hT⟩ : ∃ T, T = [34, 92, 117, hexS (n / 4096), hexS (n / 256 % 16), hexS (n / 16 % 16), hexS (n % 16), 34] := ⟨_, rfl⟩
  have hlen : T.length = 8 := by rw [hT]; rfl
  have f1 : fourR 4 (T.drop 3) 0 = (n, 0, 4) := by
    rw [hT]; exact four_any16 hexS refD_S n (by omega) _
  have hunit : unitR T 3 = (0, 4, sb n) := by
    unfold unitR
    rw [f1]
    simp only
    rw [if_neg (by simp), if_neg (by omega), unitF, if_pos h]
  have hesc : escR T 2 = (0, 5, sb n) := by
    have : T[2]? = some 117 := by rw [hT]; rfl
    rw [escR, this]
    simp only
    rw [if_pos trivial, hunit]
  have hst1 : stepR T 1 = (false, 0, 6, sb n) := by
    have : T[1]? = some 92 := by rw [hT]; rfl
    rw [stepR, this]
    simp only
    rw [if_neg (by decide), if_pos trivial, hesc]
  have hst2 : stepR T 7 = (true, 0, 1, []) := by
    have : T[7]? = some 34 := by rw [hT]; rfl
    rw [stepR, this]
    simp
  have hw : wantN T 0 34 = 0 := by rw [hT]; rfl
  rw [← hT, unqR, if_neg (by simp), show (0 : Int).toNat = 0 from rfl, hw, if_neg (by simp), hlen]
  rw [show (8 : Nat) + 1 = 7 + 1 + 1 from rfl, unqF, hst1]
  simp only
  rw [if_neg (by simp), if_neg (by simp), unqF, show 0 + 1 + 6 = 7 from rfl, hst2]
  simp

theorem get_at (l : List UInt8) (i : Nat) : (ByteArray.mk l.toArray).get! i = l.getD i 0 := by
  simp only [ByteArray.get!, List.getD_eq_getElem?_getD]
  rw [← List.getElem?_toArray, Array.getElem!_eq_getD]
  simp [Array.getD_eq_getD_getElem?]
  rfl
theorem decode_sb (n : Nat) (h : signB n = true) : Utf8.decode ⟨(sb n).toArray⟩ 0 = (n, (sb n).length) := by
  have hn := (signB_iff n).1 h
  rw [Lib.decode_at, get_at, get_at, get_at, get_at]
  unfold sb
  split
  · simp only [List.getD_cons_zero]
    rw [oN n (by omega), Lib.decodeN, if_pos (by omega)]; rfl
  split
  · simp only [List.getD_cons_zero, List.getD_cons_succ, Nat.zero_add, Nat.sub_zero]
    rw [oN _ (by omega), oN _ (by omega), Lib.decodeN, if_neg (by omega), if_pos ⟨by omega, by simp [ByteArray.size], by omega⟩, if_pos (by omega)]
    exact Prod.ext (by simp only; omega) rfl
  split
  · simp only [List.getD_cons_zero, List.getD_cons_succ, Nat.zero_add, Nat.sub_zero]
    rw [oN _ (by omega), oN _ (by omega), oN _ (by omega), Lib.decodeN, if_neg (by omega), if_neg (by rintro ⟨h, _⟩; omega), if_pos ⟨by omega, ⟨by simp [ByteArray.size], by omega⟩, by simp [ByteArray.size], by omega⟩, if_pos (by omega)]
    exact Prod.ext (by simp only; omega) rfl
  · simp only [List.getD_cons_zero, List.getD_cons_succ, Nat.zero_add, Nat.sub_zero]
    rw [oN _ (by omega), oN _ (by omega), oN _ (by omega), oN _ (by omega), Lib.decodeN, if_neg (by omega), if_neg (by rintro ⟨h, _⟩; omega), if_neg (by rintro ⟨h, _⟩; omega), if_pos ⟨by omega, ⟨by simp [ByteArray.size], by omega⟩, ⟨by simp [ByteArray.size], by omega⟩, by simp [ByteArray.size], by omega⟩, if_pos (by omega)]
    exact Prod.ext (by simp only; omega) rfl
theorem runes_sb (n : Nat) (h : signB n = true) : Conv.runesFrom ⟨(sb n).toArray⟩ (ByteArray.mk (sb n).toArray).size 0 #[] = #[.int .i32 (n : Int)] := by
  have hp := sb_pos n
  have hs : (ByteArray.mk (sb n).toArray).size = (sb n).length := by simp [ByteArray.size]
  obtain ⟨k, hk⟩ : ∃ k, (ByteArray.mk (sb n).toArray).size = k + 1 := ⟨(sb n).length - 1, by omega⟩
  rw [hk, Conv.runesFrom, if_pos (by omega), decode_sb n h]
  simp only [Nat.zero_add]
  cases k with
  | zero => rfl
  | succ k => rw [Conv.runesFrom, if_neg (by omega)]; rfl
end Go.Proofs.YtidlhajibjnkeaaGreatDoor

/- hblref1.Sign, Count, Valid by their contracts. -/
namespace Go.Proofs.YtidlhajibjnkeaaGreatDoor
open Go.RowKit

set_option maxRecDepth 100000 in
set_option maxHeartbeats 12800000 in
theorem refSign_any (t : List UInt8) (p : Nat) (w : World) (hp : p < t.length) (hl : t.length ≤ 9223372036854775807) :
    Calls Tryz.prog 87 #[str t, .int .i64 (p : Int)] w fun e w' => e = .returned (.tuple #[.int .i64 ((sgn (t.drop p)).1 : Int), .int .i64 ((sgn (t.drop p)).2 : Int), .bool (decide ((sgn (t.drop p)).2 ≠ 0))]) ∧ w' = w := by
  have hp' : (p : Int) < (t.length : Int) := by omega
  have hp0 : (0 : Int) ≤ (p : Int) := by omega
  have hdrop : t.drop p = t[p] :: t.drop (p + 1) := List.drop_eq_getElem_cons hp
  obtain ⟨c, hc⟩ : ∃ c, c = t[p] := ⟨_, rfl⟩
  rw [← hc] at hdrop
  have hgc : (ByteArray.mk t.toArray)[p]'(by simpa [ByteArray.size] using hp) = c := hc.symm
  have hc255 := c.toNat_lt
  rw [hdrop]
  by_cases h1 : c.toNat < 128
  · have e : sgn (c :: t.drop (p + 1)) = (c.toNat, 1) := by rw [sgn, if_pos h1]
    rw [e]
    have g1 : (c.toNat : Int) < 128 := by omega
    clear hdrop hc e
    go_enter Tryz.func87, Tryz.ntmps87
    go_wp2_with fail
    go_ret3
    exact ⟨rfl, rfl⟩
  · have g1 : ¬ (c.toNat : Int) < 128 := by omega
    have hsplit : (c.toNat < 192 ∨ 248 ≤ c.toNat) ∨ (192 ≤ c.toNat ∧ c.toNat < 224) ∨ (224 ≤ c.toNat ∧ c.toNat < 240) ∨ (240 ≤ c.toNat ∧ c.toNat < 248) := by omega
    rcases hsplit with hx | hx | hx | hx
    · have e : sgn (c :: t.drop (p + 1)) = (0, 0) := by rw [sgn, if_neg h1, if_neg (by omega), if_neg (by omega), if_neg (by omega)]
      rw [e]
      clear hdrop hc e
      rcases hx with hx | hx
      · have G1 : ¬ (192 : Int) ≤ (c.toNat : Int) := by omega
        have G2 : ¬ (224 : Int) ≤ (c.toNat : Int) := by omega
        have G3 : ¬ (240 : Int) ≤ (c.toNat : Int) := by omega
        go_enter Tryz.func87, Tryz.ntmps87
        go_wp2_with fail
        go_ret3
        exact ⟨rfl, rfl⟩
      · have G1 : (192 : Int) ≤ (c.toNat : Int) := by omega
        have G2 : (224 : Int) ≤ (c.toNat : Int) := by omega
        have G3 : (240 : Int) ≤ (c.toNat : Int) := by omega
        have G4 : ¬ (c.toNat : Int) ≤ 223 := by omega
        have G5 : ¬ (c.toNat : Int) ≤ 239 := by omega
        have G6 : ¬ (c.toNat : Int) ≤ 247 := by omega
        go_enter Tryz.func87, Tryz.ntmps87
        go_wp2_with fail
        go_ret3
        exact ⟨rfl, rfl⟩
    · have hcase : sgn (c :: t.drop (p + 1)) = tailE 1 128 (tailR 1 (t.drop (p + 1)) (c.toNat % 32)) := by
        rw [sgn, if_neg h1, if_pos (by omega)]
      rw [hcase]
      have ha := andI c.toNat 31 5 (by decide) (by omega) (by decide)
      simp only [Nat.reducePow] at ha
      obtain ⟨acc0, hacc0⟩ : ∃ a, a = c.toNat % 32 := ⟨_, rfl⟩
      rw [← hacc0] at ha ⊢
      have hab : acc0 < 32 := by omega
      have G0 : (192 : Int) ≤ (c.toNat : Int) := by omega
      have G1 : (c.toNat : Int) ≤ 223 := by omega
      have HA := Lib.hid hacc0
      clear hacc0 hcase hdrop hc
      have ha' : bits .and .i64 (c.toNat : Int) 31 = (acc0 : Int) := ha
      clear ha
      go_enter Tryz.func87, Tryz.ntmps87
      go_wp2_with fail
      go_loop [9, 11] (fun x i => ∃ j acc : Nat, j ≤ 1 ∧ i = .int .i64 ((j + 1 : Nat) : Int) ∧ x = .int .i64 (acc : Int) ∧ acc < 32 * 64 ^ j ∧ p + j < t.length ∧ tailR 1 (t.drop (p + 1)) acc0 = tailR (1 - j) (t.drop (p + 1 + j)) acc)
        (fun _ i => 3 - (intOf i).toNat)
      case atStart => exact ⟨0, acc0, by omega, by go_num, rfl, by omega, by omega, rfl⟩
      case round =>
        obtain ⟨j, acc, hj, rfl, rfl, hacc, hpj, hr⟩ := hrel
        have hpow : 64 ^ j ≤ 262144 := by
          have := Nat.pow_le_pow_right (n := 64) (by omega) (show j ≤ 3 by omega)
          simpa using this
        have haccb : acc < 8388608 := by omega
        have hpow1 : 64 ^ (j + 1) = 64 ^ j * 64 := Nat.pow_succ ..
        have HR := Lib.hid hr
        have HP1 := Lib.hid hpow1
        clear hr hpow1
        obtain ⟨jj, hjj⟩ : ∃ jj, jj = j + 1 := ⟨_, rfl⟩
        rw [← hjj]
        obtain ⟨q, hq⟩ : ∃ q, q = p + 1 + j := ⟨_, rfl⟩
        by_cases hlt : j < 1
        · have n1 : (jj : Int) ≤ 1 := by omega
          have n4 : (p : Int) + (jj : Int) = (q : Int) := by omega
          have tq : IntKind.i64.wrap (q : Int) = (q : Int) := IntWalk.i64_in _ (by omega)
          clear hpj
          by_cases hqt : q < t.length
          · have n2 : (q : Int) < (t.length : Int) := by omega
            have n3 : (0 : Int) ≤ (q : Int) := by omega
            obtain ⟨d, hd⟩ : ∃ d, d = t[q] := ⟨_, rfl⟩
            have hgd : (ByteArray.mk t.toArray)[q]'(by simpa [ByteArray.size] using hqt) = d := hd.symm
            have hd255 := d.toNat_lt
            have e2 := and63 d
            have e3 : bits .or .i64 ((acc : Int) * 64) ((d.toNat : Int) % 64) = ((acc * 64 + d.toNat % 64 : Nat) : Int) := or6 acc (d.toNat % 64) (by omega) (by omega)
            have hnx := tailR_next (1 - j - 1) t q acc hqt
            rw [← hd, show 1 - j - 1 + 1 = 1 - j by omega, hq, ← HR.out] at hnx
            have HQ := Lib.hid hq
            have HJ := Lib.hid hjj
            clear hq hd hjj
            by_cases hdd : d.toNat / 64 = 2
            · have e4 : (((d.toNat : Int) / 64) != 2) = false := by rw [bne_eq_false_iff_eq]; omega
              rw [if_pos hdd] at hnx
              have HNX := Lib.hid hnx
              have HDD := Lib.hid hdd
              clear hnx hdd
              go_wp2_with fail
              go_round
              case rel => exact ⟨j + 1, acc * 64 + d.toNat % 64, by omega, by have := HJ.out; go_num, rfl, by rw [HP1.out]; omega, by have := HQ.out; omega, by rw [HNX.out, ← HQ.out, show 1 - j - 1 = 1 - (j + 1) by omega, show p + 1 + (j + 1) = q + 1 by have := HQ.out; omega]⟩
              case measure => have := HJ.out; simp [intOf]; omega
            · have e4 : (((d.toNat : Int) / 64) != 2) = true := by rw [bne_iff_ne]; omega
              rw [if_neg hdd] at hnx
              have HNX := Lib.hid hnx
              have HDD := Lib.hid hdd
              clear hnx hdd
              go_wp2_with fail
              go_ret3
              exact ⟨by rw [HNX.out]; rfl, rfl⟩
          · have n2 : ¬ (q : Int) < (t.length : Int) := by omega
            have n5 : (t.length : Int) ≤ (q : Int) := by omega
            have hnx := tailR_short (1 - j) (t.drop q) acc (by simp; omega)
            rw [hq, ← HR.out] at hnx
            have HNX := Lib.hid hnx
            clear hnx hq hjj
            go_wp2_with fail
            go_ret3
            exact ⟨by rw [HNX.out]; rfl, rfl⟩
        · obtain rfl : j = 1 := by omega
          obtain rfl : jj = 2 := by omega
          have hfin : tailR 1 (t.drop (p + 1)) acc0 = some acc := by rw [HR.out]; rfl
          have HF := Lib.hid hfin
          clear hfin hq hjj
          have key : (acc < 128 ∨ (128 ≤ acc ∧ 1114111 < acc) ∨ (128 ≤ acc ∧ acc ≤ 1114111 ∧ 55296 ≤ acc ∧ acc ≤ 57343)) ∨ (128 ≤ acc ∧ acc ≤ 1114111 ∧ (acc < 55296 ∨ (55296 ≤ acc ∧ 57343 < acc))) := by omega
          rcases key with hb | hg
          · have ee : tailE 1 128 (some acc) = (0, 0) := by
              simp only [tailE]
              rw [if_pos]
              rcases hb with h | h | h
              · exact .inl h
              · exact .inr (by cases hs : signB acc; rfl; have := (signB_iff acc).1 hs; omega)
              · exact .inr (by cases hs : signB acc; rfl; have := (signB_iff acc).1 hs; omega)
            have HE := Lib.hid ee
            clear ee
            obtain ⟨A, hA⟩ : ∃ A : Int, A = (acc : Int) := ⟨_, rfl⟩
            have hb' : A < 128 ∨ (¬ A < 128 ∧ 1114111 < A) ∨ (¬ A < 128 ∧ ¬ 1114111 < A ∧ 55296 ≤ A ∧ A ≤ 57343) := by omega
            rw [← hA]
            clear hb hA
            rcases hb' with b1 | ⟨b1, b2⟩ | ⟨b1, b2, b3, b4⟩
            all_goals
              go_wp2_with fail
              go_ret3
              exact ⟨by rw [HF.out, HE.out]; rfl, rfl⟩
          · have ee : tailE 1 128 (some acc) = (acc, 2) := tailE_ok (by omega) ((signB_iff acc).2 (by omega))
            have HE := Lib.hid ee
            clear ee
            obtain ⟨A, hA⟩ : ∃ A : Int, A = (acc : Int) := ⟨_, rfl⟩
            have hg' : (¬ A < 128 ∧ ¬ 1114111 < A ∧ ¬ 55296 ≤ A) ∨ (¬ A < 128 ∧ ¬ 1114111 < A ∧ 55296 ≤ A ∧ ¬ A ≤ 57343) := by omega
            rw [← hA]
            have HAA := Lib.hid hA
            clear hg hA
            rcases hg' with ⟨b1, b2, b3⟩ | ⟨b1, b2, b3, b4⟩
            all_goals
              go_wp2_with fail
              go_ret3
              exact ⟨by rw [HF.out, HE.out, HAA.out]; rfl, rfl⟩
    · have hcase : sgn (c :: t.drop (p + 1)) = tailE 2 2048 (tailR 2 (t.drop (p + 1)) (c.toNat % 16)) := by
        rw [sgn, if_neg h1, if_neg (by omega), if_pos (by omega)]
      rw [hcase]
      have ha := andI c.toNat 15 4 (by decide) (by omega) (by decide)
      simp only [Nat.reducePow] at ha
      obtain ⟨acc0, hacc0⟩ : ∃ a, a = c.toNat % 16 := ⟨_, rfl⟩
      rw [← hacc0] at ha ⊢
      have hab : acc0 < 32 := by omega
      have G0 : (192 : Int) ≤ (c.toNat : Int) := by omega
      have G1 : ¬ (c.toNat : Int) ≤ 223 := by omega
      have G2 : (224 : Int) ≤ (c.toNat : Int) := by omega
      have G3 : (c.toNat : Int) ≤ 239 := by omega
      have HA := Lib.hid hacc0
      clear hacc0 hcase hdrop hc
      have ha' : bits .and .i64 (c.toNat : Int) 15 = (acc0 : Int) := ha
      clear ha
      go_enter Tryz.func87, Tryz.ntmps87
      go_wp2_with fail
      go_loop [9, 11] (fun x i => ∃ j acc : Nat, j ≤ 2 ∧ i = .int .i64 ((j + 1 : Nat) : Int) ∧ x = .int .i64 (acc : Int) ∧ acc < 32 * 64 ^ j ∧ p + j < t.length ∧ tailR 2 (t.drop (p + 1)) acc0 = tailR (2 - j) (t.drop (p + 1 + j)) acc)
        (fun _ i => 4 - (intOf i).toNat)
      case atStart => exact ⟨0, acc0, by omega, by go_num, rfl, by omega, by omega, rfl⟩
      case round =>
        obtain ⟨j, acc, hj, rfl, rfl, hacc, hpj, hr⟩ := hrel
        have hpow : 64 ^ j ≤ 262144 := by
          have := Nat.pow_le_pow_right (n := 64) (by omega) (show j ≤ 3 by omega)
          simpa using this
        have haccb : acc < 8388608 := by omega
        have hpow1 : 64 ^ (j + 1) = 64 ^ j * 64 := Nat.pow_succ ..
        have HR := Lib.hid hr
        have HP1 := Lib.hid hpow1
        clear hr hpow1
        obtain ⟨jj, hjj⟩ : ∃ jj, jj = j + 1 := ⟨_, rfl⟩
        rw [← hjj]
        obtain ⟨q, hq⟩ : ∃ q, q = p + 1 + j := ⟨_, rfl⟩
        by_cases hlt : j < 2
        · have n1 : (jj : Int) ≤ 2 := by omega
          have n4 : (p : Int) + (jj : Int) = (q : Int) := by omega
          have tq : IntKind.i64.wrap (q : Int) = (q : Int) := IntWalk.i64_in _ (by omega)
          clear hpj
          by_cases hqt : q < t.length
          · have n2 : (q : Int) < (t.length : Int) := by omega
            have n3 : (0 : Int) ≤ (q : Int) := by omega
            obtain ⟨d, hd⟩ : ∃ d, d = t[q] := ⟨_, rfl⟩
            have hgd : (ByteArray.mk t.toArray)[q]'(by simpa [ByteArray.size] using hqt) = d := hd.symm
            have hd255 := d.toNat_lt
            have e2 := and63 d
            have e3 : bits .or .i64 ((acc : Int) * 64) ((d.toNat : Int) % 64) = ((acc * 64 + d.toNat % 64 : Nat) : Int) := or6 acc (d.toNat % 64) (by omega) (by omega)
            have hnx := tailR_next (2 - j - 1) t q acc hqt
            rw [← hd, show 2 - j - 1 + 1 = 2 - j by omega, hq, ← HR.out] at hnx
            have HQ := Lib.hid hq
            have HJ := Lib.hid hjj
            clear hq hd hjj
            by_cases hdd : d.toNat / 64 = 2
            · have e4 : (((d.toNat : Int) / 64) != 2) = false := by rw [bne_eq_false_iff_eq]; omega
              rw [if_pos hdd] at hnx
              have HNX := Lib.hid hnx
              have HDD := Lib.hid hdd
              clear hnx hdd
              go_wp2_with fail
              go_round
              case rel => exact ⟨j + 1, acc * 64 + d.toNat % 64, by omega, by have := HJ.out; go_num, rfl, by rw [HP1.out]; omega, by have := HQ.out; omega, by rw [HNX.out, ← HQ.out, show 2 - j - 1 = 2 - (j + 1) by omega, show p + 1 + (j + 1) = q + 1 by have := HQ.out; omega]⟩
              case measure => have := HJ.out; simp [intOf]; omega
            · have e4 : (((d.toNat : Int) / 64) != 2) = true := by rw [bne_iff_ne]; omega
              rw [if_neg hdd] at hnx
              have HNX := Lib.hid hnx
              have HDD := Lib.hid hdd
              clear hnx hdd
              go_wp2_with fail
              go_ret3
              exact ⟨by rw [HNX.out]; rfl, rfl⟩
          · have n2 : ¬ (q : Int) < (t.length : Int) := by omega
            have n5 : (t.length : Int) ≤ (q : Int) := by omega
            have hnx := tailR_short (2 - j) (t.drop q) acc (by simp; omega)
            rw [hq, ← HR.out] at hnx
            have HNX := Lib.hid hnx
            clear hnx hq hjj
            go_wp2_with fail
            go_ret3
            exact ⟨by rw [HNX.out]; rfl, rfl⟩
        · obtain rfl : j = 2 := by omega
          obtain rfl : jj = 3 := by omega
          have hfin : tailR 2 (t.drop (p + 1)) acc0 = some acc := by rw [HR.out]; rfl
          have HF := Lib.hid hfin
          clear hfin hq hjj
          have key : (acc < 2048 ∨ (2048 ≤ acc ∧ 1114111 < acc) ∨ (2048 ≤ acc ∧ acc ≤ 1114111 ∧ 55296 ≤ acc ∧ acc ≤ 57343)) ∨ (2048 ≤ acc ∧ acc ≤ 1114111 ∧ (acc < 55296 ∨ (55296 ≤ acc ∧ 57343 < acc))) := by omega
          rcases key with hb | hg
          · have ee : tailE 2 2048 (some acc) = (0, 0) := by
              simp only [tailE]
              rw [if_pos]
              rcases hb with h | h | h
              · exact .inl h
              · exact .inr (by cases hs : signB acc; rfl; have := (signB_iff acc).1 hs; omega)
              · exact .inr (by cases hs : signB acc; rfl; have := (signB_iff acc).1 hs; omega)
            have HE := Lib.hid ee
            clear ee
            obtain ⟨A, hA⟩ : ∃ A : Int, A = (acc : Int) := ⟨_, rfl⟩
            have hb' : A < 2048 ∨ (¬ A < 2048 ∧ 1114111 < A) ∨ (¬ A < 2048 ∧ ¬ 1114111 < A ∧ 55296 ≤ A ∧ A ≤ 57343) := by omega
            rw [← hA]
            clear hb hA
            rcases hb' with b1 | ⟨b1, b2⟩ | ⟨b1, b2, b3, b4⟩
            all_goals
              go_wp2_with fail
              go_ret3
              exact ⟨by rw [HF.out, HE.out]; rfl, rfl⟩
          · have ee : tailE 2 2048 (some acc) = (acc, 3) := tailE_ok (by omega) ((signB_iff acc).2 (by omega))
            have HE := Lib.hid ee
            clear ee
            obtain ⟨A, hA⟩ : ∃ A : Int, A = (acc : Int) := ⟨_, rfl⟩
            have hg' : (¬ A < 2048 ∧ ¬ 1114111 < A ∧ ¬ 55296 ≤ A) ∨ (¬ A < 2048 ∧ ¬ 1114111 < A ∧ 55296 ≤ A ∧ ¬ A ≤ 57343) := by omega
            rw [← hA]
            have HAA := Lib.hid hA
            clear hg hA
            rcases hg' with ⟨b1, b2, b3⟩ | ⟨b1, b2, b3, b4⟩
            all_goals
              go_wp2_with fail
              go_ret3
              exact ⟨by rw [HF.out, HE.out, HAA.out]; rfl, rfl⟩
    · have hcase : sgn (c :: t.drop (p + 1)) = tailE 3 65536 (tailR 3 (t.drop (p + 1)) (c.toNat % 8)) := by
        rw [sgn, if_neg h1, if_neg (by omega), if_neg (by omega), if_pos (by omega)]
      rw [hcase]
      have ha := andI c.toNat 7 3 (by decide) (by omega) (by decide)
      simp only [Nat.reducePow] at ha
      obtain ⟨acc0, hacc0⟩ : ∃ a, a = c.toNat % 8 := ⟨_, rfl⟩
      rw [← hacc0] at ha ⊢
      have hab : acc0 < 32 := by omega
      have G0 : (192 : Int) ≤ (c.toNat : Int) := by omega
      have G1 : ¬ (c.toNat : Int) ≤ 223 := by omega
      have G2 : (224 : Int) ≤ (c.toNat : Int) := by omega
      have G3 : ¬ (c.toNat : Int) ≤ 239 := by omega
      have G4 : (240 : Int) ≤ (c.toNat : Int) := by omega
      have G5 : (c.toNat : Int) ≤ 247 := by omega
      have HA := Lib.hid hacc0
      clear hacc0 hcase hdrop hc
      have ha' : bits .and .i64 (c.toNat : Int) 7 = (acc0 : Int) := ha
      clear ha
      go_enter Tryz.func87, Tryz.ntmps87
      go_wp2_with fail
      go_loop [9, 11] (fun x i => ∃ j acc : Nat, j ≤ 3 ∧ i = .int .i64 ((j + 1 : Nat) : Int) ∧ x = .int .i64 (acc : Int) ∧ acc < 32 * 64 ^ j ∧ p + j < t.length ∧ tailR 3 (t.drop (p + 1)) acc0 = tailR (3 - j) (t.drop (p + 1 + j)) acc)
        (fun _ i => 5 - (intOf i).toNat)
      case atStart => exact ⟨0, acc0, by omega, by go_num, rfl, by omega, by omega, rfl⟩
      case round =>
        obtain ⟨j, acc, hj, rfl, rfl, hacc, hpj, hr⟩ := hrel
        have hpow : 64 ^ j ≤ 262144 := by
          have := Nat.pow_le_pow_right (n := 64) (by omega) (show j ≤ 3 by omega)
          simpa using this
        have haccb : acc < 8388608 := by omega
        have hpow1 : 64 ^ (j + 1) = 64 ^ j * 64 := Nat.pow_succ ..
        have HR := Lib.hid hr
        have HP1 := Lib.hid hpow1
        clear hr hpow1
        obtain ⟨jj, hjj⟩ : ∃ jj, jj = j + 1 := ⟨_, rfl⟩
        rw [← hjj]
        obtain ⟨q, hq⟩ : ∃ q, q = p + 1 + j := ⟨_, rfl⟩
        by_cases hlt : j < 3
        · have n1 : (jj : Int) ≤ 3 := by omega
          have n4 : (p : Int) + (jj : Int) = (q : Int) := by omega
          have tq : IntKind.i64.wrap (q : Int) = (q : Int) := IntWalk.i64_in _ (by omega)
          clear hpj
          by_cases hqt : q < t.length
          · have n2 : (q : Int) < (t.length : Int) := by omega
            have n3 : (0 : Int) ≤ (q : Int) := by omega
            obtain ⟨d, hd⟩ : ∃ d, d = t[q] := ⟨_, rfl⟩
            have hgd : (ByteArray.mk t.toArray)[q]'(by simpa [ByteArray.size] using hqt) = d := hd.symm
            have hd255 := d.toNat_lt
            have e2 := and63 d
            have e3 : bits .or .i64 ((acc : Int) * 64) ((d.toNat : Int) % 64) = ((acc * 64 + d.toNat % 64 : Nat) : Int) := or6 acc (d.toNat % 64) (by omega) (by omega)
            have hnx := tailR_next (3 - j - 1) t q acc hqt
            rw [← hd, show 3 - j - 1 + 1 = 3 - j by omega, hq, ← HR.out] at hnx
            have HQ := Lib.hid hq
            have HJ := Lib.hid hjj
            clear hq hd hjj
            by_cases hdd : d.toNat / 64 = 2
            · have e4 : (((d.toNat : Int) / 64) != 2) = false := by rw [bne_eq_false_iff_eq]; omega
              rw [if_pos hdd] at hnx
              have HNX := Lib.hid hnx
              have HDD := Lib.hid hdd
              clear hnx hdd
              go_wp2_with fail
              go_round
              case rel => exact ⟨j + 1, acc * 64 + d.toNat % 64, by omega, by have := HJ.out; go_num, rfl, by rw [HP1.out]; omega, by have := HQ.out; omega, by rw [HNX.out, ← HQ.out, show 3 - j - 1 = 3 - (j + 1) by omega, show p + 1 + (j + 1) = q + 1 by have := HQ.out; omega]⟩
              case measure => have := HJ.out; simp [intOf]; omega
            · have e4 : (((d.toNat : Int) / 64) != 2) = true := by rw [bne_iff_ne]; omega
              rw [if_neg hdd] at hnx
              have HNX := Lib.hid hnx
              have HDD := Lib.hid hdd
              clear hnx hdd
              go_wp2_with fail
              go_ret3
              exact ⟨by rw [HNX.out]; rfl, rfl⟩
          · have n2 : ¬ (q : Int) < (t.length : Int) := by omega
            have n5 : (t.length : Int) ≤ (q : Int) := by omega
            have hnx := tailR_short (3 - j) (t.drop q) acc (by simp; omega)
            rw [hq, ← HR.out] at hnx
            have HNX := Lib.hid hnx
            clear hnx hq hjj
            go_wp2_with fail
            go_ret3
            exact ⟨by rw [HNX.out]; rfl, rfl⟩
        · obtain rfl : j = 3 := by omega
          obtain rfl : jj = 4 := by omega
          have hfin : tailR 3 (t.drop (p + 1)) acc0 = some acc := by rw [HR.out]; rfl
          have HF := Lib.hid hfin
          clear hfin hq hjj
          have key : (acc < 65536 ∨ (65536 ≤ acc ∧ 1114111 < acc) ∨ (65536 ≤ acc ∧ acc ≤ 1114111 ∧ 55296 ≤ acc ∧ acc ≤ 57343)) ∨ (65536 ≤ acc ∧ acc ≤ 1114111 ∧ (acc < 55296 ∨ (55296 ≤ acc ∧ 57343 < acc))) := by omega
          rcases key with hb | hg
          · have ee : tailE 3 65536 (some acc) = (0, 0) := by
              simp only [tailE]
              rw [if_pos]
              rcases hb with h | h | h
              · exact .inl h
              · exact .inr (by cases hs : signB acc; rfl; have := (signB_iff acc).1 hs; omega)
              · exact .inr (by cases hs : signB acc; rfl; have := (signB_iff acc).1 hs; omega)
            have HE := Lib.hid ee
            clear ee
            obtain ⟨A, hA⟩ : ∃ A : Int, A = (acc : Int) := ⟨_, rfl⟩
            have hb' : A < 65536 ∨ (¬ A < 65536 ∧ 1114111 < A) ∨ (¬ A < 65536 ∧ ¬ 1114111 < A ∧ 55296 ≤ A ∧ A ≤ 57343) := by omega
            rw [← hA]
            clear hb hA
            rcases hb' with b1 | ⟨b1, b2⟩ | ⟨b1, b2, b3, b4⟩
            all_goals
              go_wp2_with fail
              go_ret3
              exact ⟨by rw [HF.out, HE.out]; rfl, rfl⟩
          · have ee : tailE 3 65536 (some acc) = (acc, 4) := tailE_ok (by omega) ((signB_iff acc).2 (by omega))
            have HE := Lib.hid ee
            clear ee
            obtain ⟨A, hA⟩ : ∃ A : Int, A = (acc : Int) := ⟨_, rfl⟩
            have hg' : (¬ A < 65536 ∧ ¬ 1114111 < A ∧ ¬ 55296 ≤ A) ∨ (¬ A < 65536 ∧ ¬ 1114111 < A ∧ 55296 ≤ A ∧ ¬ A ≤ 57343) := by omega
            rw [← hA]
            have HAA := Lib.hid hA
            clear hg hA
            rcases hg' with ⟨b1, b2, b3⟩ | ⟨b1, b2, b3, b4⟩
            all_goals
              go_wp2_with fail
              go_ret3
              exact ⟨by rw [HF.out, HE.out, HAA.out]; rfl, rfl⟩

set_option maxHeartbeats 3200000 in
theorem refCount_any (t : List UInt8) (w : World) (hl : t.length ≤ 9223372036854775807) :
    Calls Tryz.prog 78 #[str t] w fun e w' => e = cntE t ∧ w' = w := by
  go_enter Tryz.func78, Tryz.ntmps78
  go_wp2_with fail
  go_loop [3, 4] (fun n i => ∃ k p : Nat, p ≤ t.length ∧ k ≤ p ∧ i = .int .i64 (p : Int) ∧ n = .int .i64 (k : Int) ∧ cnt t = (cnt (t.drop p)).map (· + k))
    (fun _ i => t.length - (intOf i).toNat)
  case atStart => exact ⟨0, 0, Nat.zero_le _, Nat.le_refl _, rfl, rfl, by simp⟩
  case round =>
    obtain ⟨k, p, hp, hk, rfl, rfl, hr⟩ := hrel
    by_cases hlt : p < t.length
    · have n1 : (p : Int) < (t.length : Int) := by omega
      have hst := cnt_step (t.drop p) (by intro h; have := congrArg List.length h; simp at this; omega)
      have hle := sgn_le (t.drop p)
      rw [List.length_drop] at hle
      rw [hst] at hr
      clear hst
      have HR := Lib.hid hr
      clear hr
      obtain ⟨c, z, hcz⟩ : ∃ c z, sgn (t.drop p) = (c, z) := ⟨_, _, rfl⟩
      rw [hcz] at hle
      have HCZ := Lib.hid hcz
      clear hcz
      simp only at hle
      go_wp2_with fail
      refine (refSign_any t p _ hlt hl).mono ?_
      rintro e w' ⟨rfl, rfl⟩
      rw [HCZ.out]
      by_cases hz : z = 0
      · rw [show decide ((c, z).2 ≠ 0) = false by simp [hz]]
        have hfin : cnt t = none := by rw [HR.out, HCZ.out, if_pos hz]; rfl
        have HF := Lib.hid hfin
        clear hfin hz
        go_wp2_with fail
        go_ret
        exact ⟨by rw [cntE, HF.out]; rfl, rfl⟩
      · rw [show decide ((c, z).2 ≠ 0) = true by simp [hz]]
        have hfin : cnt t = (cnt (t.drop (p + z))).map (· + (k + 1)) := by
          rw [HR.out, HCZ.out, if_neg hz, List.drop_drop, Option.map_map]
          congr 1
          funext x
          simp; omega
        have HF := Lib.hid hfin
        clear hfin
        go_wp2_with fail
        go_round
        case rel => exact ⟨k + 1, p + z, by omega, by omega, by go_num, by go_num, HF.out⟩
        case measure => simp [intOf]; omega
    · obtain rfl : p = t.length := by omega
      have n1 : ¬ (t.length : Int) < (t.length : Int) := by omega
      have hfin : cnt t = some k := by rw [hr, List.drop_length, cnt_nil]; simp
      have HF := Lib.hid hfin
      clear hfin hr
      go_wp2_with fail
      go_ret
      exact ⟨by rw [cntE, HF.out]; rfl, rfl⟩
theorem refValid_any (t : List UInt8) (w : World) (hl : t.length ≤ 9223372036854775807) :
    Calls Tryz.prog 60 #[str t] w fun e w' => e = .returned (.bool (validB t)) ∧ w' = w := by
  go_enter Tryz.func60, Tryz.ntmps60
  go_wp2_with fail
  refine (refCount_any t _ hl).mono ?_
  rintro e w' ⟨rfl, rfl⟩
  rw [cntE]
  cases h : cnt t with
  | none =>
    have hv : validB t = false := by rw [validB, h]; rfl
    have HV := Lib.hid hv
    clear hv h
    simp only [cntI]
    go_wp2_with fail
    go_ret
    exact ⟨by rw [HV.out]; rfl, rfl⟩
  | some n =>
    have hv : validB t = true := by rw [validB, h]; rfl
    have HV := Lib.hid hv
    clear hv h
    have : (0 : Int) ≤ (n : Int) := by omega
    simp only [cntI]
    go_wp2_with fail
    go_ret
    exact ⟨by rw [HV.out]; rfl, rfl⟩
end Go.Proofs.YtidlhajibjnkeaaGreatDoor
