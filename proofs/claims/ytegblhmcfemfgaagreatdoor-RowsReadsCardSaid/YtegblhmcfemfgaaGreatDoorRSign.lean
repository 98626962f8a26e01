import Derived.Test.YtegblhmcfemfgaaGreatDoorSgMath
set_option maxRecDepth 100000
set_option maxHeartbeats 12800000
namespace Go.Proofs.YtegblhmcfemfgaaGreatDoor
open Go.RowKit
theorem refSign_any (t : List UInt8) (p : Nat) (w : World) (hp : p < t.length) (hl : t.length ≤ 9223372036854775807) :
 Calls Tryz.prog 136 #[str t, .int .i64 (p : Int)] w fun e w' => e = .returned (.tuple #[.int .i64 ((sgn (t.drop p)).1 : Int), .int .i64 ((sgn (t.drop p)).2 : Int), .bool (decide ((sgn (t.drop p)).2 ≠ 0))]) ∧ w' = w := by
 have hp' : (p : Int) < (t.length : Int) := by omega
 have hp0 : (0 : Int) ≤ (p : Int) := by omega
 have hdrop : t.drop p = t[p] :: t.drop (p + 1) := List.drop_eq_getElem_cons hp
 obtain ⟨c, hc⟩ : ∃ c, c = t[p] := ⟨_, rfl⟩
 rw [← hc] at hdrop
 have hgc : (ByteArray.mk t.toArray)[p]'(by simpa [ByteArray.size] using hp) = c := hc.symm
 have hc255 := c.toNat_lt
 rw [hdrop]
 by_cases h1 : c.toNat < 128
 · have e : sgn (c :: t.drop (p + 1)) = (c.toNat, 1) := by rw [sgn, if_pos h1]
   rw [e]
   have g1 : (c.toNat : Int) < 128 := by omega
   clear hdrop hc e
   go_enter Tryz.func136, Tryz.ntmps136
   go_wp2_with fail
   go_ret3
   exact ⟨rfl, rfl⟩
 · have g1 : ¬ (c.toNat : Int) < 128 := by omega
   have hsplit : (c.toNat < 192 ∨ 248 ≤ c.toNat) ∨ (192 ≤ c.toNat ∧ c.toNat < 224) ∨ (224 ≤ c.toNat ∧ c.toNat < 240) ∨ (240 ≤ c.toNat ∧ c.toNat < 248) := by omega
   rcases hsplit with hx | hx | hx | hx
   · have e : sgn (c :: t.drop (p + 1)) = (0, 0) := by rw [sgn, if_neg h1, if_neg (by omega), if_neg (by omega), if_neg (by omega)]
     rw [e]
     clear hdrop hc e
     rcases hx with hx | hx
     · have G1 : ¬ (192 : Int) ≤ (c.toNat : Int) := by omega
       have G2 : ¬ (224 : Int) ≤ (c.toNat : Int) := by omega
       have G3 : ¬ (240 : Int) ≤ (c.toNat : Int) := by omega
       go_enter Tryz.func136, Tryz.ntmps136
       go_wp2_with fail
       go_ret3
       exact ⟨rfl, rfl⟩
     have G1 : (192 : Int) ≤ (c.toNat : Int) := by omega
     have G2 : (224 : Int) ≤ (c.toNat : Int) := by omega
     have G3 : (240 : Int) ≤ (c.toNat : Int) := by omega
     have G4 : ¬ (c.toNat : Int) ≤ 223 := by omega
     have G5 : ¬ (c.toNat : Int) ≤ 239 := by omega
     have G6 : ¬ (c.toNat : Int) ≤ 247 := by omega
     go_enter Tryz.func136, Tryz.ntmps136
     go_wp2_with fail
     go_ret3
     exact ⟨rfl, rfl⟩
   · have hcase : sgn (c :: t.drop (p + 1)) = tailE 1 128 (tailR 1 (t.drop (p + 1)) (c.toNat % 32)) := by
      rw [sgn, if_neg h1, if_pos (by omega)]
     rw [hcase]
     have ha := andI c.toNat 31 5 (by decide) (by omega) (by decide)
     simp only [Nat.reducePow] at ha
     obtain ⟨acc0, hacc0⟩ : ∃ a, a = c.toNat % 32 := ⟨_, rfl⟩
     rw [← hacc0] at ha ⊢
     have hab : acc0 < 32 := by omega
     have G0 : (192 : Int) ≤ (c.toNat : Int) := by omega
     have G1 : (c.toNat : Int) ≤ 223 := by omega
     have HA := Lib.hid hacc0
     clear hacc0 hcase hdrop hc
     have ha' : bits .and .i64 (c.toNat : Int) 31 = (acc0 : Int) := ha
     clear ha
     go_enter Tryz.func136, Tryz.ntmps136
     go_wp2_with fail
     go_loop [9, 11] (fun x i => ∃ j acc : Nat, j ≤ 1 ∧ i = .int .i64 ((j + 1 : Nat) : Int) ∧ x = .int .i64 (acc : Int) ∧ acc < 32 * 64 ^ j ∧ p + j < t.length ∧ tailR 1 (t.drop (p + 1)) acc0 = tailR (1 - j) (t.drop (p + 1 + j)) acc)
      (fun _ i => 3 - (intOf i).toNat)
     case atStart => exact ⟨0, acc0, by omega, by go_num, rfl, by omega, by omega, rfl⟩
     case round =>
      obtain ⟨j, acc, hj, rfl, rfl, hacc, hpj, hr⟩ := hrel
      have hpow : 64 ^ j ≤ 262144 := by
       have := Nat.pow_le_pow_right (n := 64) (by omega) (show j ≤ 3 by omega)
       simpa using this
      have haccb : acc < 8388608 := by omega
      have hpow1 : 64 ^ (j + 1) = 64 ^ j * 64 := Nat.pow_succ ..
      have HR := Lib.hid hr
      have HP1 := Lib.hid hpow1
      clear hr hpow1
      obtain ⟨jj, hjj⟩ : ∃ jj, jj = j + 1 := ⟨_, rfl⟩
      rw [← hjj]
      obtain ⟨q, hq⟩ : ∃ q, q = p + 1 + j := ⟨_, rfl⟩
      by_cases hlt : j < 1
      · have n1 : (jj : Int) ≤ 1 := by omega
        have n4 : (p : Int) + (jj : Int) = (q : Int) := by omega
        have tq : IntKind.i64.wrap (q : Int) = (q : Int) := IntWalk.i64_in _ (by omega)
        clear hpj
        by_cases hqt : q < t.length
        · have n2 : (q : Int) < (t.length : Int) := by omega
          have n3 : (0 : Int) ≤ (q : Int) := by omega
          obtain ⟨d, hd⟩ : ∃ d, d = t[q] := ⟨_, rfl⟩
          have hgd : (ByteArray.mk t.toArray)[q]'(by simpa [ByteArray.size] using hqt) = d := hd.symm
          have hd255 := d.toNat_lt
          have e2 := and63 d
          have e3 : bits .or .i64 ((acc : Int) * 64) ((d.toNat : Int) % 64) = ((acc * 64 + d.toNat % 64 : Nat) : Int) := or6 acc (d.toNat % 64) (by omega) (by omega)
          have hnx := tailR_next (1 - j - 1) t q acc hqt
          rw [← hd, show 1 - j - 1 + 1 = 1 - j by omega, hq, ← HR.out] at hnx
          have HQ := Lib.hid hq
          have HJ := Lib.hid hjj
          clear hq hd hjj
          by_cases hdd : d.toNat / 64 = 2
          · have e4 : (((d.toNat : Int) / 64) != 2) = false := by rw [bne_eq_false_iff_eq]; omega
            rw [if_pos hdd] at hnx
            have HNX := Lib.hid hnx
            have HDD := Lib.hid hdd
            clear hnx hdd
            go_wp2_with fail
            go_round
            case rel => exact ⟨j + 1, acc * 64 + d.toNat % 64, by omega, by have := HJ.out; go_num, rfl, by rw [HP1.out]; omega, by have := HQ.out; omega, by rw [HNX.out, ← HQ.out, show 1 - j - 1 = 1 - (j + 1) by omega, show p + 1 + (j + 1) = q + 1 by have := HQ.out; omega]⟩
            case measure => have := HJ.out; simp [intOf]; omega
          have e4 : (((d.toNat : Int) / 64) != 2) = true := by rw [bne_iff_ne]; omega
          rw [if_neg hdd] at hnx
          have HNX := Lib.hid hnx
          have HDD := Lib.hid hdd
          clear hnx hdd
          go_wp2_with fail
          go_ret3
          exact ⟨by rw [HNX.out]; rfl, rfl⟩
        have n2 : ¬ (q : Int) < (t.length : Int) := by omega
        have n5 : (t.length : Int) ≤ (q : Int) := by omega
        have hnx := tailR_short (1 - j) (t.drop q) acc (by simp; omega)
        rw [hq, ← HR.out] at hnx
        have HNX := Lib.hid hnx
        clear hnx hq hjj
        go_wp2_with fail
        go_ret3
        exact ⟨by rw [HNX.out]; rfl, rfl⟩
      obtain rfl : j = 1 := by omega
      obtain rfl : jj = 2 := by omega
      have hfin : tailR 1 (t.drop (p + 1)) acc0 = some acc := by rw [HR.out]; rfl
      have HF := Lib.hid hfin
      clear hfin hq hjj
      have key : (acc < 128 ∨ (128 ≤ acc ∧ 1114111 < acc) ∨ (128 ≤ acc ∧ acc ≤ 1114111 ∧ 55296 ≤ acc ∧ acc ≤ 57343)) ∨ (128 ≤ acc ∧ acc ≤ 1114111 ∧ (acc < 55296 ∨ (55296 ≤ acc ∧ 57343 < acc))) := by omega
      rcases key with hb | hg
      · have ee : tailE 1 128 (some acc) = (0, 0) := by
         simp only [tailE]
         rw [if_pos]
         rcases hb with h | h | h
         · exact .inl h
         · exact .inr (by cases hs : signB acc; rfl; have := (signB_iff acc).1 hs; omega)
         exact .inr (by cases hs : signB acc; rfl; have := (signB_iff acc).1 hs; omega)
        have HE := Lib.hid ee
        clear ee
        obtain ⟨A, hA⟩ : ∃ A : Int, A = (acc : Int) := ⟨_, rfl⟩
        have hb' : A < 128 ∨ (¬ A < 128 ∧ 1114111 < A) ∨ (¬ A < 128 ∧ ¬ 1114111 < A ∧ 55296 ≤ A ∧ A ≤ 57343) := by omega
        rw [← hA]
        clear hb hA
        rcases hb' with b1 | ⟨b1, b2⟩ | ⟨b1, b2, b3, b4⟩
        all_goals
         go_wp2_with fail
         go_ret3
         exact ⟨by rw [HF.out, HE.out]; rfl, rfl⟩
      have ee : tailE 1 128 (some acc) = (acc, 2) := tailE_ok (by omega) ((signB_iff acc).2 (by omega))
      have HE := Lib.hid ee
      clear ee
      obtain ⟨A, hA⟩ : ∃ A : Int, A = (acc : Int) := ⟨_, rfl⟩
      have hg' : (¬ A < 128 ∧ ¬ 1114111 < A ∧ ¬ 55296 ≤ A) ∨ (¬ A < 128 ∧ ¬ 1114111 < A ∧ 55296 ≤ A ∧ ¬ A ≤ 57343) := by omega
      rw [← hA]
      have HAA := Lib.hid hA
      clear hg hA
      rcases hg' with ⟨b1, b2, b3⟩ | ⟨b1, b2, b3, b4⟩
      all_goals
       go_wp2_with fail
       go_ret3
       exact ⟨by rw [HF.out, HE.out, HAA.out]; rfl, rfl⟩
   · have hcase : sgn (c :: t.drop (p + 1)) = tailE 2 2048 (tailR 2 (t.drop (p + 1)) (c.toNat % 16)) := by
      rw [sgn, if_neg h1, if_neg (by omega), if_pos (by omega)]
     rw [hcase]
     have ha := andI c.toNat 15 4 (by decide) (by omega) (by decide)
     simp only [Nat.reducePow] at ha
     obtain ⟨acc0, hacc0⟩ : ∃ a, a = c.toNat % 16 := ⟨_, rfl⟩
     rw [← hacc0] at ha ⊢
     have hab : acc0 < 32 := by omega
     have G0 : (192 : Int) ≤ (c.toNat : Int) := by omega
     have G1 : ¬ (c.toNat : Int) ≤ 223 := by omega
     have G2 : (224 : Int) ≤ (c.toNat : Int) := by omega
     have G3 : (c.toNat : Int) ≤ 239 := by omega
     have HA := Lib.hid hacc0
     clear hacc0 hcase hdrop hc
     have ha' : bits .and .i64 (c.toNat : Int) 15 = (acc0 : Int) := ha
     clear ha
     go_enter Tryz.func136, Tryz.ntmps136
     go_wp2_with fail
     go_loop [9, 11] (fun x i => ∃ j acc : Nat, j ≤ 2 ∧ i = .int .i64 ((j + 1 : Nat) : Int) ∧ x = .int .i64 (acc : Int) ∧ acc < 32 * 64 ^ j ∧ p + j < t.length ∧ tailR 2 (t.drop (p + 1)) acc0 = tailR (2 - j) (t.drop (p + 1 + j)) acc)
      (fun _ i => 4 - (intOf i).toNat)
     case atStart => exact ⟨0, acc0, by omega, by go_num, rfl, by omega, by omega, rfl⟩
     case round =>
      obtain ⟨j, acc, hj, rfl, rfl, hacc, hpj, hr⟩ := hrel
      have hpow : 64 ^ j ≤ 262144 := by
       have := Nat.pow_le_pow_right (n := 64) (by omega) (show j ≤ 3 by omega)
       simpa using this
      have haccb : acc < 8388608 := by omega
      have hpow1 : 64 ^ (j + 1) = 64 ^ j * 64 := Nat.pow_succ ..
      have HR := Lib.hid hr
      have HP1 := Lib.hid hpow1
      clear hr hpow1
      obtain ⟨jj, hjj⟩ : ∃ jj, jj = j + 1 := ⟨_, rfl⟩
      rw [← hjj]
      obtain ⟨q, hq⟩ : ∃ q, q = p + 1 + j := ⟨_, rfl⟩
      by_cases hlt : j < 2
      · have n1 : (jj : Int) ≤ 2 := by omega
        have n4 : (p : Int) + (jj : Int) = (q : Int) := by omega
        have tq : IntKind.i64.wrap (q : Int) = (q : Int) := IntWalk.i64_in _ (by omega)
        clear hpj
        by_cases hqt : q < t.length
        · have n2 : (q : Int) < (t.length : Int) := by omega
          have n3 : (0 : Int) ≤ (q : Int) := by omega
          obtain ⟨d, hd⟩ : ∃ d, d = t[q] := ⟨_, rfl⟩
          have hgd : (ByteArray.mk t.toArray)[q]'(by simpa [ByteArray.size] using hqt) = d := hd.symm
          have hd255 := d.toNat_lt
          have e2 := and63 d
          have e3 : bits .or .i64 ((acc : Int) * 64) ((d.toNat : Int) % 64) = ((acc * 64 + d.toNat % 64 : Nat) : Int) := or6 acc (d.toNat % 64) (by omega) (by omega)
          have hnx := tailR_next (2 - j - 1) t q acc hqt
          rw [← hd, show 2 - j - 1 + 1 = 2 - j by omega, hq, ← HR.out] at hnx
          have HQ := Lib.hid hq
          have HJ := Lib.hid hjj
          clear hq hd hjj
          by_cases hdd : d.toNat / 64 = 2
          · have e4 : (((d.toNat : Int) / 64) != 2) = false := by rw [bne_eq_false_iff_eq]; omega
            rw [if_pos hdd] at hnx
            have HNX := Lib.hid hnx
            have HDD := Lib.hid hdd
            clear hnx hdd
            go_wp2_with fail
            go_round
            case rel => exact ⟨j + 1, acc * 64 + d.toNat % 64, by omega, by have := HJ.out; go_num, rfl, by rw [HP1.out]; omega, by have := HQ.out; omega, by rw [HNX.out, ← HQ.out, show 2 - j - 1 = 2 - (j + 1) by omega, show p + 1 + (j + 1) = q + 1 by have := HQ.out; omega]⟩
            case measure => have := HJ.out; simp [intOf]; omega
          have e4 : (((d.toNat : Int) / 64) != 2) = true := by rw [bne_iff_ne]; omega
          rw [if_neg hdd] at hnx
          have HNX := Lib.hid hnx
          have HDD := Lib.hid hdd
          clear hnx hdd
          go_wp2_with fail
          go_ret3
          exact ⟨by rw [HNX.out]; rfl, rfl⟩
        have n2 : ¬ (q : Int) < (t.length : Int) := by omega
        have n5 : (t.length : Int) ≤ (q : Int) := by omega
        have hnx := tailR_short (2 - j) (t.drop q) acc (by simp; omega)
        rw [hq, ← HR.out] at hnx
        have HNX := Lib.hid hnx
        clear hnx hq hjj
        go_wp2_with fail
        go_ret3
        exact ⟨by rw [HNX.out]; rfl, rfl⟩
      obtain rfl : j = 2 := by omega
      obtain rfl : jj = 3 := by omega
      have hfin : tailR 2 (t.drop (p + 1)) acc0 = some acc := by rw [HR.out]; rfl
      have HF := Lib.hid hfin
      clear hfin hq hjj
      have key : (acc < 2048 ∨ (2048 ≤ acc ∧ 1114111 < acc) ∨ (2048 ≤ acc ∧ acc ≤ 1114111 ∧ 55296 ≤ acc ∧ acc ≤ 57343)) ∨ (2048 ≤ acc ∧ acc ≤ 1114111 ∧ (acc < 55296 ∨ (55296 ≤ acc ∧ 57343 < acc))) := by omega
      rcases key with hb | hg
      · have ee : tailE 2 2048 (some acc) = (0, 0) := by
         simp only [tailE]
         rw [if_pos]
         rcases hb with h | h | h
         · exact .inl h
         · exact .inr (by cases hs : signB acc; rfl; have := (signB_iff acc).1 hs; omega)
         exact .inr (by cases hs : signB acc; rfl; have := (signB_iff acc).1 hs; omega)
        have HE := Lib.hid ee
        clear ee
        obtain ⟨A, hA⟩ : ∃ A : Int, A = (acc : Int) := ⟨_, rfl⟩
        have hb' : A < 2048 ∨ (¬ A < 2048 ∧ 1114111 < A) ∨ (¬ A < 2048 ∧ ¬ 1114111 < A ∧ 55296 ≤ A ∧ A ≤ 57343) := by omega
        rw [← hA]
        clear hb hA
        rcases hb' with b1 | ⟨b1, b2⟩ | ⟨b1, b2, b3, b4⟩
        all_goals
         go_wp2_with fail
         go_ret3
         exact ⟨by rw [HF.out, HE.out]; rfl, rfl⟩
      have ee : tailE 2 2048 (some acc) = (acc, 3) := tailE_ok (by omega) ((signB_iff acc).2 (by omega))
      have HE := Lib.hid ee
      clear ee
      obtain ⟨A, hA⟩ : ∃ A : Int, A = (acc : Int) := ⟨_, rfl⟩
      have hg' : (¬ A < 2048 ∧ ¬ 1114111 < A ∧ ¬ 55296 ≤ A) ∨ (¬ A < 2048 ∧ ¬ 1114111 < A ∧ 55296 ≤ A ∧ ¬ A ≤ 57343) := by omega
      rw [← hA]
      have HAA := Lib.hid hA
      clear hg hA
      rcases hg' with ⟨b1, b2, b3⟩ | ⟨b1, b2, b3, b4⟩
      all_goals
       go_wp2_with fail
       go_ret3
       exact ⟨by rw [HF.out, HE.out, HAA.out]; rfl, rfl⟩
   · have hcase : sgn (c :: t.drop (p + 1)) = tailE 3 65536 (tailR 3 (t.drop (p + 1)) (c.toNat % 8)) := by
      rw [sgn, if_neg h1, if_neg (by omega), if_neg (by omega), if_pos (by omega)]
     rw [hcase]
     have ha := andI c.toNat 7 3 (by decide) (by omega) (by decide)
     simp only [Nat.reducePow] at ha
     obtain ⟨acc0, hacc0⟩ : ∃ a, a = c.toNat % 8 := ⟨_, rfl⟩
     rw [← hacc0] at ha ⊢
     have hab : acc0 < 32 := by omega
     have G0 : (192 : Int) ≤ (c.toNat : Int) := by omega
     have G1 : ¬ (c.toNat : Int) ≤ 223 := by omega
     have G2 : (224 : Int) ≤ (c.toNat : Int) := by omega
     have G3 : ¬ (c.toNat : Int) ≤ 239 := by omega
     have G4 : (240 : Int) ≤ (c.toNat : Int) := by omega
     have G5 : (c.toNat : Int) ≤ 247 := by omega
     have HA := Lib.hid hacc0
     clear hacc0 hcase hdrop hc
     have ha' : bits .and .i64 (c.toNat : Int) 7 = (acc0 : Int) := ha
     clear ha
     go_enter Tryz.func136, Tryz.ntmps136
     go_wp2_with fail
     go_loop [9, 11] (fun x i => ∃ j acc : Nat, j ≤ 3 ∧ i = .int .i64 ((j + 1 : Nat) : Int) ∧ x = .int .i64 (acc : Int) ∧ acc < 32 * 64 ^ j ∧ p + j < t.length ∧ tailR 3 (t.drop (p + 1)) acc0 = tailR (3 - j) (t.drop (p + 1 + j)) acc)
      (fun _ i => 5 - (intOf i).toNat)
     case atStart => exact ⟨0, acc0, by omega, by go_num, rfl, by omega, by omega, rfl⟩
     case round =>
      obtain ⟨j, acc, hj, rfl, rfl, hacc, hpj, hr⟩ := hrel
      have hpow : 64 ^ j ≤ 262144 := by
       have := Nat.pow_le_pow_right (n := 64) (by omega) (show j ≤ 3 by omega)
       simpa using this
      have haccb : acc < 8388608 := by omega
      have hpow1 : 64 ^ (j + 1) = 64 ^ j * 64 := Nat.pow_succ ..
      have HR := Lib.hid hr
      have HP1 := Lib.hid hpow1
      clear hr hpow1
      obtain ⟨jj, hjj⟩ : ∃ jj, jj = j + 1 := ⟨_, rfl⟩
      rw [← hjj]
      obtain ⟨q, hq⟩ : ∃ q, q = p + 1 + j := ⟨_, rfl⟩
      by_cases hlt : j < 3
      · have n1 : (jj : Int) ≤ 3 := by omega
        have n4 : (p : Int) + (jj : Int) = (q : Int) := by omega
        have tq : IntKind.i64.wrap (q : Int) = (q : Int) := IntWalk.i64_in _ (by omega)
        clear hpj
        by_cases hqt : q < t.length
        · have n2 : (q : Int) < (t.length : Int) := by omega
          have n3 : (0 : Int) ≤ (q : Int) := by omega
          obtain ⟨d, hd⟩ : ∃ d, d = t[q] := ⟨_, rfl⟩
          have hgd : (ByteArray.mk t.toArray)[q]'(by simpa [ByteArray.size] using hqt) = d := hd.symm
          have hd255 := d.toNat_lt
          have e2 := and63 d
          have e3 : bits .or .i64 ((acc : Int) * 64) ((d.toNat : Int) % 64) = ((acc * 64 + d.toNat % 64 : Nat) : Int) := or6 acc (d.toNat % 64) (by omega) (by omega)
          have hnx := tailR_next (3 - j - 1) t q acc hqt
          rw [← hd, show 3 - j - 1 + 1 = 3 - j by omega, hq, ← HR.out] at hnx
          have HQ := Lib.hid hq
          have HJ := Lib.hid hjj
          clear hq hd hjj
          by_cases hdd : d.toNat / 64 = 2
          · have e4 : (((d.toNat : Int) / 64) != 2) = false := by rw [bne_eq_false_iff_eq]; omega
            rw [if_pos hdd] at hnx
            have HNX := Lib.hid hnx
            have HDD := Lib.hid hdd
            clear hnx hdd
            go_wp2_with fail
            go_round
            case rel => exact ⟨j + 1, acc * 64 + d.toNat % 64, by omega, by have := HJ.out; go_num, rfl, by rw [HP1.out]; omega, by have := HQ.out; omega, by rw [HNX.out, ← HQ.out, show 3 - j - 1 = 3 - (j + 1) by omega, show p + 1 + (j + 1) = q + 1 by have := HQ.out; omega]⟩
            case measure => have := HJ.out; simp [intOf]; omega
          have e4 : (((d.toNat : Int) / 64) != 2) = true := by rw [bne_iff_ne]; omega
          rw [if_neg hdd] at hnx
          have HNX := Lib.hid hnx
          have HDD := Lib.hid hdd
          clear hnx hdd
          go_wp2_with fail
          go_ret3
          exact ⟨by rw [HNX.out]; rfl, rfl⟩
        have n2 : ¬ (q : Int) < (t.length : Int) := by omega
        have n5 : (t.length : Int) ≤ (q : Int) := by omega
        have hnx := tailR_short (3 - j) (t.drop q) acc (by simp; omega)
        rw [hq, ← HR.out] at hnx
        have HNX := Lib.hid hnx
        clear hnx hq hjj
        go_wp2_with fail
        go_ret3
        exact ⟨by rw [HNX.out]; rfl, rfl⟩
      · obtain rfl : j = 3 := by omega
        obtain rfl : jj = 4 := by omega
        have hfin : tailR 3 (t.drop (p + 1)) acc0 = some acc := by rw [HR.out]; rfl
        have HF := Lib.hid hfin
        clear hfin hq hjj
        have key : (acc < 65536 ∨ (65536 ≤ acc ∧ 1114111 < acc) ∨ (65536 ≤ acc ∧ acc ≤ 1114111 ∧ 55296 ≤ acc ∧ acc ≤ 57343)) ∨ (65536 ≤ acc ∧ acc ≤ 1114111 ∧ (acc < 55296 ∨ (55296 ≤ acc ∧ 57343 < acc))) := by omega
        rcases key with hb | hg
        · have ee : tailE 3 65536 (some acc) = (0, 0) := by
           simp only [tailE]
           rw [if_pos]
           rcases hb with h | h | h
           · exact .inl h
           · exact .inr (by cases hs : signB acc; rfl; have := (signB_iff acc).1 hs; omega)
           exact .inr (by cases hs : signB acc; rfl; have := (signB_iff acc).1 hs; omega)
          have HE := Lib.hid ee
          clear ee
          obtain ⟨A, hA⟩ : ∃ A : Int, A = (acc : Int) := ⟨_, rfl⟩
          have hb' : A < 65536 ∨ (¬ A < 65536 ∧ 1114111 < A) ∨ (¬ A < 65536 ∧ ¬ 1114111 < A ∧ 55296 ≤ A ∧ A ≤ 57343) := by omega
          rw [← hA]
          clear hb hA
          rcases hb' with b1 | ⟨b1, b2⟩ | ⟨b1, b2, b3, b4⟩
          all_goals
           go_wp2_with fail
           go_ret3
           exact ⟨by rw [HF.out, HE.out]; rfl, rfl⟩
        · have ee : tailE 3 65536 (some acc) = (acc, 4) := tailE_ok (by omega) ((signB_iff acc).2 (by omega))
          have HE := Lib.hid ee
          clear ee
          obtain ⟨A, hA⟩ : ∃ A : Int, A = (acc : Int) := ⟨_, rfl⟩
          have hg' : (¬ A < 65536 ∧ ¬ 1114111 < A ∧ ¬ 55296 ≤ A) ∨ (¬ A < 65536 ∧ ¬ 1114111 < A ∧ 55296 ≤ A ∧ ¬ A ≤ 57343) := by omega
          rw [← hA]
          have HAA := Lib.hid hA
          clear hg hA
          rcases hg' with ⟨b1, b2, b3⟩ | ⟨b1, b2, b3, b4⟩
          all_goals
           go_wp2_with fail
           go_ret3
           exact ⟨by rw [HF.out, HE.out, HAA.out]; rfl, rfl⟩
theorem refCount_any (t : List UInt8) (w : World) (hl : t.length ≤ 9223372036854775807) :
 Calls Tryz.prog 111 #[str t] w fun e w' => e = cntE t ∧ w' = w := by
 go_enter Tryz.func111, Tryz.ntmps111
 go_wp2_with fail
 go_loop [3, 4] (fun n i => ∃ k p : Nat, p ≤ t.length ∧ k ≤ p ∧ i = .int .i64 (p : Int) ∧ n = .int .i64 (k : Int) ∧ cnt t = (cnt (t.drop p)).map (· + k))
  (fun _ i => t.length - (intOf i).toNat)
 case atStart => exact ⟨0, 0, Nat.zero_le _, Nat.le_refl _, rfl, rfl, by simp⟩
 case round =>
  obtain ⟨k, p, hp, hk, rfl, rfl, hr⟩ := hrel
  by_cases hlt : p < t.length
  · have n1 : (p : Int) < (t.length : Int) := by omega
    have hst := cnt_step (t.drop p) (by intro h; have := congrArg List.length h; simp at this; omega)
    have hle := sgn_le (t.drop p)
    rw [List.length_drop] at hle
    rw [hst] at hr
    clear hst
    have HR := Lib.hid hr
    clear hr
    obtain ⟨c, z, hcz⟩ : ∃ c z, sgn (t.drop p) = (c, z) := ⟨_, _, rfl⟩
    rw [hcz] at hle
    have HCZ := Lib.hid hcz
    clear hcz
    simp only at hle
    go_wp2_with fail
    refine (refSign_any t p _ hlt hl).mono ?_
    rintro e w' ⟨rfl, rfl⟩
    rw [HCZ.out]
    by_cases hz : z = 0
    · rw [show decide ((c, z).2 ≠ 0) = false by simp [hz]]
      have hfin : cnt t = none := by rw [HR.out, HCZ.out, if_pos hz]; rfl
      have HF := Lib.hid hfin
      clear hfin hz
      go_wp2_with fail
      go_ret
      exact ⟨by rw [cntE, HF.out]; rfl, rfl⟩
    rw [show decide ((c, z).2 ≠ 0) = true by simp [hz]]
    have hfin : cnt t = (cnt (t.drop (p + z))).map (· + (k + 1)) := by
     rw [HR.out, HCZ.out, if_neg hz, List.drop_drop, Option.map_map]
     congr 1
     funext x
     simp; omega
    have HF := Lib.hid hfin
    clear hfin
    go_wp2_with fail
    go_round
    case rel => exact ⟨k + 1, p + z, by omega, by omega, by go_num, by go_num, HF.out⟩
    case measure => simp [intOf]; omega
  obtain rfl : p = t.length := by omega
  have n1 : ¬ (t.length : Int) < (t.length : Int) := by omega
  have hfin : cnt t = some k := by rw [hr, List.drop_length, cnt_nil]; simp
  have HF := Lib.hid hfin
  clear hfin hr
  go_wp2_with fail
  go_ret
  exact ⟨by rw [cntE, HF.out]; rfl, rfl⟩
theorem refValid_any (t : List UInt8) (w : World) (hl : t.length ≤ 9223372036854775807) :
 Calls Tryz.prog 79 #[str t] w fun e w' => e = .returned (.bool (validB t)) ∧ w' = w := by
 go_enter Tryz.func79, Tryz.ntmps79
 go_wp2_with fail
 refine (refCount_any t _ hl).mono ?_
 rintro e w' ⟨rfl, rfl⟩
 rw [cntE]
 cases h : cnt t with
 | none =>
  have hv : validB t = false := by rw [validB, h]; rfl
  have HV := Lib.hid hv
  clear hv h
  simp only [cntI]
  go_wp2_with fail
  go_ret
  exact ⟨by rw [HV.out]; rfl, rfl⟩
 | some n =>
  have hv : validB t = true := by rw [validB, h]; rfl
  have HV := Lib.hid hv
  clear hv h
  have : (0 : Int) ≤ (n : Int) := by omega
  simp only [cntI]
  go_wp2_with fail
  go_ret
  exact ⟨by rw [HV.out]; rfl, rfl⟩
end Go.Proofs.YtegblhmcfemfgaaGreatDoor
