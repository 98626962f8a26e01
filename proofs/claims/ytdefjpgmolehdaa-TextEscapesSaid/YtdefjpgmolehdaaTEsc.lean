/- TextEscapes: the walk. -/
import Derived.Test.YtdefjpgmolehdaaEscMath
namespace Go.Proofs.Ytdefjpgmolehdaa
open Go.RowKit

attribute [local go_sem] str_cat

theorem Below.undrewsN {B : Nat} {w w' : World} {n : Nat} (h : Below B (w.drewN n) w') : Below B w w' := ⟨h.os, h.tape, h.output, h.size, h.block⟩
theorem class_of (d : UInt8) : (d.toNat = 34 ∨ d.toNat = 92 ∨ d.toNat = 8 ∨ d.toNat = 9 ∨ d.toNat = 10 ∨ d.toNat = 12 ∨ d.toNat = 13) ∧ (qb d).length = 2 ∧ qb d ≠ [d] ∨
    (d.toNat ≠ 34 ∧ d.toNat ≠ 92 ∧ d.toNat ≠ 8 ∧ d.toNat ≠ 9 ∧ d.toNat ≠ 10 ∧ d.toNat ≠ 12 ∧ d.toNat ≠ 13) ∧ d.toNat < 32 ∧ (qb d).length = 6 ∧ qb d ≠ [d] ∨
    (d.toNat ≠ 34 ∧ d.toNat ≠ 92 ∧ d.toNat ≠ 8 ∧ d.toNat ≠ 9 ∧ d.toNat ≠ 10 ∧ d.toNat ≠ 12 ∧ d.toNat ≠ 13) ∧ 32 ≤ d.toNat ∧ (qb d).length = 1 ∧ qb d = [d] := by
  have h : ∀ n : Fin 256, (n.val = 34 ∨ n.val = 92 ∨ n.val = 8 ∨ n.val = 9 ∨ n.val = 10 ∨ n.val = 12 ∨ n.val = 13) ∧ (qb (UInt8.ofNat n.val)).length = 2 ∧ qb (UInt8.ofNat n.val) ≠ [UInt8.ofNat n.val] ∨
    (n.val ≠ 34 ∧ n.val ≠ 92 ∧ n.val ≠ 8 ∧ n.val ≠ 9 ∧ n.val ≠ 10 ∧ n.val ≠ 12 ∧ n.val ≠ 13) ∧ n.val < 32 ∧ (qb (UInt8.ofNat n.val)).length = 6 ∧ qb (UInt8.ofNat n.val) ≠ [UInt8.ofNat n.val] ∨
    (n.val ≠ 34 ∧ n.val ≠ 92 ∧ n.val ≠ 8 ∧ n.val ≠ 9 ∧ n.val ≠ 10 ∧ n.val ≠ 12 ∧ n.val ≠ 13) ∧ 32 ≤ n.val ∧ (qb (UInt8.ofNat n.val)).length = 1 ∧ qb (UInt8.ofNat n.val) = [UInt8.ofNat n.val] := by decide +kernel
  have := h ⟨d.toNat, d.toNat_lt⟩
  simpa only [ofNat_self] using this

set_option maxRecDepth 100000 in
set_option maxHeartbeats 6400000 in
theorem tesc_walk (a0 : ByteArray) (c : Int) (w : World) (h0 : a0.size ≤ maxLen) (hc1 : -9223372036854775808 ≤ c ∧ c ≤ 9223372036854775807) :
    Calls Try.prog 6 #[.string a0, .int .i64 c] w fun e w' => e = .returned (.bool true) ∧ Below w.heap.size w w' := by
  obtain ⟨s, rfl⟩ := str_of a0
  obtain ⟨hc1, hc2⟩ := hc1
  have hls : s.length ≤ 9223372036854775807 := by unfold maxLen at h0; simp [ByteArray.size] at h0; omega
  clear h0
  by_cases hbig : 4000 < s.length
  · have k1 : (4000 : Int) < (s.length : Int) := by omega
    go_enter Try.func6, Try.ntmps6
    go_wp2_with fail
    refine (tfirst_any _).mono ?_
    rintro e w1 ⟨rfl, hb1⟩
    go_wp2_with fail
    refine (tfirst_any _).mono ?_
    rintro e w2 ⟨rfl, hb2⟩
    go_wp2_with fail
    go_ret
    exact ⟨rfl, hb1.trans (hb2.mono hb1.size)⟩
  have k1 : ¬ (4000 : Int) < (s.length : Int) := by omega
  cases hv : validB s
  · have hq : quoteE s = .returned (.tuple #[str [], .int .i64 4]) := by rw [quoteE, hv]; rfl
    have HQ := Lib.hid hq
    have HV := Lib.hid hv
    clear hq hv
    go_enter Try.func6, Try.ntmps6
    go_wp2_with fail
    refine (tfirst_any _).mono ?_
    rintro e w1 ⟨rfl, hb1⟩
    go_wp2_with fail
    refine (quote_any s _ (by omega)).mono ?_
    rintro e w2 ⟨rfl, hb2⟩
    rw [HQ.out]
    go_wp2_with fail
    refine (tfirst_any _).mono ?_
    rintro e w4 ⟨rfl, hb4⟩
    go_wp2_with fail
    refine (valid_any s _ (by omega)).mono ?_
    rintro e w3 ⟨rfl, rfl⟩
    rw [HV.out]
    go_wp2_with fail
    go_ret
    have s1 := hb1.size
    have s2 := hb2.size
    exact ⟨rfl, (hb1.trans (hb2.mono s1)).trans (hb4.mono (Nat.le_trans s1 s2))⟩
  have hq : quoteE s = .returned (.tuple #[str (34 :: qbL s ++ [34]), .int .i64 0]) := by rw [quoteE, hv]; rfl
  have hql := qbL_len s
  obtain ⟨q, hqe⟩ : ∃ q, q = 34 :: qbL s ++ [34] := ⟨_, rfl⟩
  have hqlen : q.length = (qbL s).length + 2 := by rw [hqe]; simp
  rw [← hqe] at hq
  have q2 : q.length ≤ 24002 := by omega
  have HQ := Lib.hid hq
  have HQE := Lib.hid hqe
  have HQL := Lib.hid hqlen
  clear hq hv hqe hqlen hql
  go_enter Try.func6, Try.ntmps6
  go_wp2_with fail
  refine (tfirst_any _).mono ?_
  rintro e w1 ⟨rfl, hb1⟩
  go_wp2_with fail
  refine (quote_any s _ (by omega)).mono ?_
  rintro e w2 ⟨rfl, hb2⟩
  rw [HQ.out]
  go_wp2_with fail
  have s1 := hb1.size
  have hB := hb1.trans (hb2.mono s1)
  have hsz := hB.size
  clear hb1 hb2 s1
  go_loop [7, 8, 9] (fun n sl i => ∃ k : Nat, k ≤ s.length ∧ i = .int .i64 (k : Int) ∧ n = .int .i64 ((2 + (qbL (s.take k)).length : Nat) : Int) ∧ sl = .int .i64 ((slN (s.take k) : Nat) : Int)) (fun _ _ i => s.length - (intOf i).toNat)
  case atStart => exact ⟨0, Nat.zero_le _, rfl, rfl, rfl⟩
  case round =>
    obtain ⟨k, hk, rfl, rfl, rfl⟩ := hrel
    by_cases hlt : k < s.length
    · have n1 : (k : Int) < (s.length : Int) := by omega
      obtain ⟨d, hd⟩ : ∃ d, d = s[k] := ⟨_, rfl⟩
      have hgd : (ByteArray.mk s.toArray)[k]'(by simpa [ByteArray.size] using hlt) = d := hd.symm
      have hts : s.take (k + 1) = s.take k ++ [d] := by rw [hd]; exact List.take_succ_eq_append_getElem hlt
      have hL := qbL_len (s.take k)
      have hLt : (s.take k).length = k := by simp; omega
      have hS := slN_le (s.take k)
      rw [hLt] at hL hS
      have e1 : (qbL (s.take (k + 1))).length = (qbL (s.take k)).length + (qb d).length := by rw [hts, qbL_snoc, List.length_append]
      have e2 : slN (s.take (k + 1)) = slN (s.take k) + if qb d ≠ [d] then 1 else 0 := by rw [hts, slN_snoc]
      obtain ⟨A, hA⟩ : ∃ A, A = 2 + (qbL (s.take k)).length := ⟨_, rfl⟩
      obtain ⟨B, hB'⟩ : ∃ B, B = slN (s.take k) := ⟨_, rfl⟩
      have hcl := class_of d
      rw [← hB'] at e2 hS
      rw [← hA, ← hB']
      have E1 := Lib.hid e1
      have E2 := Lib.hid e2
      have HA := Lib.hid hA
      have HLe : A ≤ 24002 := by omega
      have HLe2 : B ≤ 4000 := by omega
      clear hts hd hL hLt e1 e2 hA hB' hS
      rcases hcl with ⟨hd7, hl, hne⟩ | ⟨⟨x1, x2, x3, x4, x5, x6, x7⟩, x8, hl, hne⟩ | ⟨⟨x1, x2, x3, x4, x5, x6, x7⟩, x8, hl, hne⟩
      · have HL := Lib.hid hl
        have HN := Lib.hid hne
        have hdd : (d.toNat : Int) = 34 ∨ (d.toNat : Int) = 92 ∨ (d.toNat : Int) = 8 ∨ (d.toNat : Int) = 9 ∨ (d.toNat : Int) = 10 ∨ (d.toNat : Int) = 12 ∨ (d.toNat : Int) = 13 := by omega
        clear hl hne hd7
        rcases hdd with hdd | hdd | hdd | hdd | hdd | hdd | hdd
        all_goals
          go_wp2_with fail
          go_round
          case rel => exact ⟨k + 1, by omega, by go_num, by rw [E1.out, HL.out]; have := HA.out; go_num, by rw [E2.out, if_pos HN.out]; go_num⟩
          case measure => simp [intOf]; omega
      · have HL := Lib.hid hl
        have HN := Lib.hid hne
        have y1 : ((d.toNat : Int) == 34) = false := by rw [beq_eq_false_iff_ne]; omega
        have y2 : ((d.toNat : Int) == 92) = false := by rw [beq_eq_false_iff_ne]; omega
        have y3 : ((d.toNat : Int) == 8) = false := by rw [beq_eq_false_iff_ne]; omega
        have y4 : ((d.toNat : Int) == 9) = false := by rw [beq_eq_false_iff_ne]; omega
        have y5 : ((d.toNat : Int) == 10) = false := by rw [beq_eq_false_iff_ne]; omega
        have y6 : ((d.toNat : Int) == 12) = false := by rw [beq_eq_false_iff_ne]; omega
        have y7 : ((d.toNat : Int) == 13) = false := by rw [beq_eq_false_iff_ne]; omega
        have y8 : (d.toNat : Int) < 32 := by omega
        clear hl hne x1 x2 x3 x4 x5 x6 x7
        go_wp2_with fail
        go_round
        case rel => exact ⟨k + 1, by omega, by go_num, by rw [E1.out, HL.out]; have := HA.out; go_num, by rw [E2.out, if_pos HN.out]; go_num⟩
        case measure => simp [intOf]; omega
      · have HL := Lib.hid hl
        have HN := Lib.hid hne
        have y1 : ((d.toNat : Int) == 34) = false := by rw [beq_eq_false_iff_ne]; omega
        have y2 : ((d.toNat : Int) == 92) = false := by rw [beq_eq_false_iff_ne]; omega
        have y3 : ((d.toNat : Int) == 8) = false := by rw [beq_eq_false_iff_ne]; omega
        have y4 : ((d.toNat : Int) == 9) = false := by rw [beq_eq_false_iff_ne]; omega
        have y5 : ((d.toNat : Int) == 10) = false := by rw [beq_eq_false_iff_ne]; omega
        have y6 : ((d.toNat : Int) == 12) = false := by rw [beq_eq_false_iff_ne]; omega
        have y7 : ((d.toNat : Int) == 13) = false := by rw [beq_eq_false_iff_ne]; omega
        have y8 : ¬ (d.toNat : Int) < 32 := by omega
        clear hl hne x1 x2 x3 x4 x5 x6 x7
        go_wp2_with fail
        go_round
        case rel => exact ⟨k + 1, by omega, by go_num, by rw [E1.out, HL.out]; have := HA.out; go_num, by rw [E2.out, if_neg (by rw [HN.out]; simp), Nat.add_zero]⟩
        case measure => simp [intOf]; omega
    · obtain rfl : k = s.length := by omega
      have n1 : ¬ (s.length : Int) < (s.length : Int) := by omega
      rw [List.take_length]
      have hAq : 2 + (qbL s).length = q.length := by rw [HQL.out]; omega
      rw [hAq]
      have hlb := slN_pos s
      have hqL := HQL.out
      obtain ⟨B, hB'⟩ : ∃ B, B = slN s := ⟨_, rfl⟩
      rw [← hB']
      have hcat0 : [34] ++ s ++ [34] = 34 :: s ++ [34] := rfl
      have hfin : ∃ b, ((B : Int) == 0) = b ∧ (q == 34 :: (s ++ [34])) = b := by
        by_cases hz : B = 0
        · exact ⟨true, by rw [beq_iff_eq]; omega, by rw [beq_iff_eq, HQE.out, slN_zero s (by omega)]; rfl⟩
        · refine ⟨false, by rw [beq_eq_false_iff_ne]; omega, by
            rw [beq_eq_false_iff_ne]
            intro h
            have := congrArg List.length h
            simp at this
            omega⟩
      clear hAq hqL hlb hB' hcat0
      obtain ⟨b, z1, z2⟩ := hfin
      rcases (show c < 65536 ∨ (65536 ≤ c ∧ 1114111 < c) ∨ (65536 ≤ c ∧ c ≤ 1114111) by omega) with g1 | ⟨g1, g2⟩ | ⟨g1, g2⟩
      · cases b
        all_goals
          go_wp2_with fail
          refine (tfirst_any _).mono ?_
          rintro e w6 ⟨rfl, hb6⟩
          go_wp2_with fail
          go_ret
          exact ⟨rfl, hB.trans (hb6.mono hsz)⟩
      · have g3 : ¬ c < 65536 := by omega
        cases b
        all_goals
          go_wp2_with fail
          refine (tfirst_any _).mono ?_
          rintro e w6 ⟨rfl, hb6⟩
          go_wp2_with fail
          go_ret
          exact ⟨rfl, hB.trans (hb6.mono hsz)⟩
      · have g3 : ¬ c < 65536 := by omega
        have g4 : ¬ 1114111 < c := by omega
        obtain ⟨n, hn⟩ : ∃ n : Nat, (n : Int) = c := ⟨c.toNat, by omega⟩
        obtain ⟨H, hH⟩ : ∃ H : Nat, H = 55296 + (n - 65536) / 1024 := ⟨_, rfl⟩
        obtain ⟨L, hL⟩ : ∃ L : Nat, L = 56320 + (n - 65536) % 1024 := ⟨_, rfl⟩
        obtain ⟨l0, hl0⟩ : ∃ l0 : Nat, l0 = (n - 65536) % 1024 := ⟨_, rfl⟩
        have eH : 55296 + (c - 65536) / 1024 = (H : Int) := by omega
        have el : bits .and .i64 (c - 65536) 1023 = (l0 : Int) := by
          have := andI (n - 65536) 1023 10 (by decide) (by omega) (by decide)
          rw [show ((n - 65536 : Nat) : Int) = c - 65536 by omega] at this
          rw [hl0]; exact this
        have eL : 56320 + (l0 : Int) = (L : Int) := by omega
        have hpair := unq_pair n (by omega) (by omega) H L hH hL
        have hsig : signR c = (sb n, true) := by
          rw [signR, if_pos ⟨by omega, signB_big c.toNat (by omega) (by omega)⟩, show c.toNat = n by omega]
        have HSIG := Lib.hid hsig
        have hHb : H < 65536 := by omega
        have hLb : L < 65536 := by omega
        clear hsig hH hL hl0 hn
        obtain ⟨d3, hd3⟩ : ∃ d3, d3 = H / 4096 := ⟨_, rfl⟩
        have qd3 : (H : Int) / 4096 = (d3 : Int) := by omega
        obtain ⟨x3, hx3⟩ : ∃ x3, x3 = hexU d3 := ⟨_, rfl⟩
        have bd3 : d3 < 16 := by omega
        have cd3 : (ByteArray.mk #[48, 49, 50, 51, 52, 53, 54, 55, 56, 57, 65, 66, 67, 68, 69, 70]).extract d3 (d3 + 1) = ByteArray.mk [x3].toArray := by rw [hx3]; exact hexU_cut ⟨d3, bd3⟩
        have id3 : (0 : Int) ≤ (d3 : Int) := by omega
        have jd3 : (d3 : Int) ≤ (d3 : Int) + 1 := by omega
        have kd3 : (d3 : Int) + 1 ≤ 16 := by omega
        have ld3 : ((d3 : Int) + 1).toNat = d3 + 1 := by omega
        have md3 : IntKind.i64.wrap ((d3 : Int) + 1) = (d3 : Int) + 1 := IntWalk.i64_in _ ⟨by omega, by omega⟩
        have nd3 : (0 : Int) ≤ (d3 : Int) + 1 := by omega
        rw [← hd3, ← hx3] at hpair
        clear hd3 hx3 bd3
        obtain ⟨d2, hd2⟩ : ∃ d2, d2 = H / 256 % 16 := ⟨_, rfl⟩
        have qd2 : bits .and .i64 ((H : Int) / 256) 15 = (d2 : Int) := by
          rw [hd2, show ((H : Int) / 256) = ((H / 256 : Nat) : Int) by omega]; exact andI (H / 256) 15 4 (by decide) (by omega) (by decide)
        obtain ⟨x2, hx2⟩ : ∃ x2, x2 = hexU d2 := ⟨_, rfl⟩
        have bd2 : d2 < 16 := by omega
        have cd2 : (ByteArray.mk #[48, 49, 50, 51, 52, 53, 54, 55, 56, 57, 65, 66, 67, 68, 69, 70]).extract d2 (d2 + 1) = ByteArray.mk [x2].toArray := by rw [hx2]; exact hexU_cut ⟨d2, bd2⟩
        have id2 : (0 : Int) ≤ (d2 : Int) := by omega
        have jd2 : (d2 : Int) ≤ (d2 : Int) + 1 := by omega
        have kd2 : (d2 : Int) + 1 ≤ 16 := by omega
        have ld2 : ((d2 : Int) + 1).toNat = d2 + 1 := by omega
        have md2 : IntKind.i64.wrap ((d2 : Int) + 1) = (d2 : Int) + 1 := IntWalk.i64_in _ ⟨by omega, by omega⟩
        have nd2 : (0 : Int) ≤ (d2 : Int) + 1 := by omega
        rw [← hd2, ← hx2] at hpair
        clear hd2 hx2 bd2
        obtain ⟨d1, hd1⟩ : ∃ d1, d1 = H / 16 % 16 := ⟨_, rfl⟩
        have qd1 : bits .and .i64 ((H : Int) / 16) 15 = (d1 : Int) := by
          rw [hd1, show ((H : Int) / 16) = ((H / 16 : Nat) : Int) by omega]; exact andI (H / 16) 15 4 (by decide) (by omega) (by decide)
        obtain ⟨x1, hx1⟩ : ∃ x1, x1 = hexU d1 := ⟨_, rfl⟩
        have bd1 : d1 < 16 := by omega
        have cd1 : (ByteArray.mk #[48, 49, 50, 51, 52, 53, 54, 55, 56, 57, 65, 66, 67, 68, 69, 70]).extract d1 (d1 + 1) = ByteArray.mk [x1].toArray := by rw [hx1]; exact hexU_cut ⟨d1, bd1⟩
        have id1 : (0 : Int) ≤ (d1 : Int) := by omega
        have jd1 : (d1 : Int) ≤ (d1 : Int) + 1 := by omega
        have kd1 : (d1 : Int) + 1 ≤ 16 := by omega
        have ld1 : ((d1 : Int) + 1).toNat = d1 + 1 := by omega
        have md1 : IntKind.i64.wrap ((d1 : Int) + 1) = (d1 : Int) + 1 := IntWalk.i64_in _ ⟨by omega, by omega⟩
        have nd1 : (0 : Int) ≤ (d1 : Int) + 1 := by omega
        rw [← hd1, ← hx1] at hpair
        clear hd1 hx1 bd1
        obtain ⟨d0, hd0⟩ : ∃ d0, d0 = H % 16 := ⟨_, rfl⟩
        have qd0 : bits .and .i64 (H : Int) 15 = (d0 : Int) := by rw [hd0]; exact andI H 15 4 (by decide) (by omega) (by decide)
        obtain ⟨x0, hx0⟩ : ∃ x0, x0 = hexU d0 := ⟨_, rfl⟩
        have bd0 : d0 < 16 := by omega
        have cd0 : (ByteArray.mk #[48, 49, 50, 51, 52, 53, 54, 55, 56, 57, 65, 66, 67, 68, 69, 70]).extract d0 (d0 + 1) = ByteArray.mk [x0].toArray := by rw [hx0]; exact hexU_cut ⟨d0, bd0⟩
        have id0 : (0 : Int) ≤ (d0 : Int) := by omega
        have jd0 : (d0 : Int) ≤ (d0 : Int) + 1 := by omega
        have kd0 : (d0 : Int) + 1 ≤ 16 := by omega
        have ld0 : ((d0 : Int) + 1).toNat = d0 + 1 := by omega
        have md0 : IntKind.i64.wrap ((d0 : Int) + 1) = (d0 : Int) + 1 := IntWalk.i64_in _ ⟨by omega, by omega⟩
        have nd0 : (0 : Int) ≤ (d0 : Int) + 1 := by omega
        rw [← hd0, ← hx0] at hpair
        clear hd0 hx0 bd0
        obtain ⟨f3, hf3⟩ : ∃ f3, f3 = L / 4096 := ⟨_, rfl⟩
        have qf3 : (L : Int) / 4096 = (f3 : Int) := by omega
        obtain ⟨y3, hy3⟩ : ∃ y3, y3 = hexU f3 := ⟨_, rfl⟩
        have bf3 : f3 < 16 := by omega
        have cf3 : (ByteArray.mk #[48, 49, 50, 51, 52, 53, 54, 55, 56, 57, 65, 66, 67, 68, 69, 70]).extract f3 (f3 + 1) = ByteArray.mk [y3].toArray := by rw [hy3]; exact hexU_cut ⟨f3, bf3⟩
        have if3 : (0 : Int) ≤ (f3 : Int) := by omega
        have jf3 : (f3 : Int) ≤ (f3 : Int) + 1 := by omega
        have kf3 : (f3 : Int) + 1 ≤ 16 := by omega
        have lf3 : ((f3 : Int) + 1).toNat = f3 + 1 := by omega
        have mf3 : IntKind.i64.wrap ((f3 : Int) + 1) = (f3 : Int) + 1 := IntWalk.i64_in _ ⟨by omega, by omega⟩
        have nf3 : (0 : Int) ≤ (f3 : Int) + 1 := by omega
        rw [← hf3, ← hy3] at hpair
        clear hf3 hy3 bf3
        obtain ⟨f2, hf2⟩ : ∃ f2, f2 = L / 256 % 16 := ⟨_, rfl⟩
        have qf2 : bits .and .i64 ((L : Int) / 256) 15 = (f2 : Int) := by
          rw [hf2, show ((L : Int) / 256) = ((L / 256 : Nat) : Int) by omega]; exact andI (L / 256) 15 4 (by decide) (by omega) (by decide)
        obtain ⟨y2, hy2⟩ : ∃ y2, y2 = hexU f2 := ⟨_, rfl⟩
        have bf2 : f2 < 16 := by omega
        have cf2 : (ByteArray.mk #[48, 49, 50, 51, 52, 53, 54, 55, 56, 57, 65, 66, 67, 68, 69, 70]).extract f2 (f2 + 1) = ByteArray.mk [y2].toArray := by rw [hy2]; exact hexU_cut ⟨f2, bf2⟩
        have if2 : (0 : Int) ≤ (f2 : Int) := by omega
        have jf2 : (f2 : Int) ≤ (f2 : Int) + 1 := by omega
        have kf2 : (f2 : Int) + 1 ≤ 16 := by omega
        have lf2 : ((f2 : Int) + 1).toNat = f2 + 1 := by omega
        have mf2 : IntKind.i64.wrap ((f2 : Int) + 1) = (f2 : Int) + 1 := IntWalk.i64_in _ ⟨by omega, by omega⟩
        have nf2 : (0 : Int) ≤ (f2 : Int) + 1 := by omega
        rw [← hf2, ← hy2] at hpair
        clear hf2 hy2 bf2
        obtain ⟨f1, hf1⟩ : ∃ f1, f1 = L / 16 % 16 := ⟨_, rfl⟩
        have qf1 : bits .and .i64 ((L : Int) / 16) 15 = (f1 : Int) := by
          rw [hf1, show ((L : Int) / 16) = ((L / 16 : Nat) : Int) by omega]; exact andI (L / 16) 15 4 (by decide) (by omega) (by decide)
        obtain ⟨y1, hy1⟩ : ∃ y1, y1 = hexU f1 := ⟨_, rfl⟩
        have bf1 : f1 < 16 := by omega
        have cf1 : (ByteArray.mk #[48, 49, 50, 51, 52, 53, 54, 55, 56, 57, 65, 66, 67, 68, 69, 70]).extract f1 (f1 + 1) = ByteArray.mk [y1].toArray := by rw [hy1]; exact hexU_cut ⟨f1, bf1⟩
        have if1 : (0 : Int) ≤ (f1 : Int) := by omega
        have jf1 : (f1 : Int) ≤ (f1 : Int) + 1 := by omega
        have kf1 : (f1 : Int) + 1 ≤ 16 := by omega
        have lf1 : ((f1 : Int) + 1).toNat = f1 + 1 := by omega
        have mf1 : IntKind.i64.wrap ((f1 : Int) + 1) = (f1 : Int) + 1 := IntWalk.i64_in _ ⟨by omega, by omega⟩
        have nf1 : (0 : Int) ≤ (f1 : Int) + 1 := by omega
        rw [← hf1, ← hy1] at hpair
        clear hf1 hy1 bf1
        obtain ⟨f0, hf0⟩ : ∃ f0, f0 = L % 16 := ⟨_, rfl⟩
        have qf0 : bits .and .i64 (L : Int) 15 = (f0 : Int) := by rw [hf0]; exact andI L 15 4 (by decide) (by omega) (by decide)
        obtain ⟨y0, hy0⟩ : ∃ y0, y0 = hexU f0 := ⟨_, rfl⟩
        have bf0 : f0 < 16 := by omega
        have cf0 : (ByteArray.mk #[48, 49, 50, 51, 52, 53, 54, 55, 56, 57, 65, 66, 67, 68, 69, 70]).extract f0 (f0 + 1) = ByteArray.mk [y0].toArray := by rw [hy0]; exact hexU_cut ⟨f0, bf0⟩
        have if0 : (0 : Int) ≤ (f0 : Int) := by omega
        have jf0 : (f0 : Int) ≤ (f0 : Int) + 1 := by omega
        have kf0 : (f0 : Int) + 1 ≤ 16 := by omega
        have lf0 : ((f0 : Int) + 1).toNat = f0 + 1 := by omega
        have mf0 : IntKind.i64.wrap ((f0 : Int) + 1) = (f0 : Int) + 1 := IntWalk.i64_in _ ⟨by omega, by omega⟩
        have nf0 : (0 : Int) ≤ (f0 : Int) + 1 := by omega
        rw [← hf0, ← hy0] at hpair
        clear hf0 hy0 bf0
        have HP := Lib.hid hpair
        clear hpair hHb hLb
        cases b
        all_goals
          go_wp2_with fail
          go_quiet (fail)
          go_wp2_with fail
          refine (unquote_any [34, 92, 117, x3, x2, x1, x0, 92, 117, y3, y2, y1, y0, 34] 0 _ (by simp)).mono ?_
          rintro e w4 ⟨rfl, hb4⟩
          rw [HP.out, unqE]
          go_wp2_with fail
          refine (tsign_any c _ hc1 hc2).mono ?_
          rintro e w5 ⟨rfl, hb5⟩
          rw [HSIG.out, signE]
          go_wp2_with fail
          refine (tfirst_any _).mono ?_
          rintro e w6 ⟨rfl, hb6⟩
          go_wp2_with fail
          go_ret
          have s4 := hb4.size
          have s5 := hb5.size
          exact ⟨rfl, ((hB.trans ((Below.undrewsN hb4).mono hsz)).trans (hb5.mono (Nat.le_trans hsz s4))).trans (hb6.mono (Nat.le_trans hsz (Nat.le_trans s4 s5)))⟩
end Go.Proofs.Ytdefjpgmolehdaa
