/- TextBack: the walk. -/
import Derived.Test.YtdefjpgmolehdaaTRound
namespace Go.Proofs.Ytdefjpgmolehdaa
open Go.RowKit

set_option maxRecDepth 100000 in
set_option maxHeartbeats 6400000 in
theorem tback_walk (a0 a1 a2 : ByteArray) (w : World) (h0 : a0.size ≤ maxLen) (h1 : a1.size ≤ maxLen) (h2 : a2.size ≤ maxLen) :
    Calls Try.prog 4 #[.string a0, .string a1, .string a2] w fun e w' => e = .returned (.bool true) ∧ Below w.heap.size w w' := by
  obtain ⟨s, rfl⟩ := str_of a0
  obtain ⟨a, rfl⟩ := str_of a1
  obtain ⟨m, rfl⟩ := str_of a2
  have hls : s.length ≤ 9223372036854775807 := by unfold maxLen at h0; simp [ByteArray.size] at h0; omega
  have hla : a.length ≤ 9223372036854775807 := by unfold maxLen at h1; simp [ByteArray.size] at h1; omega
  have hlm : m.length ≤ 9223372036854775807 := by unfold maxLen at h2; simp [ByteArray.size] at h2; omega
  clear h0 h1 h2
  by_cases hbig : 4000 < s.length ∨ 4000 < a.length ∨ 4000 < m.length
  · have key : ((4000 : Int) < (s.length : Int)) ∨ (¬ (4000 : Int) < (s.length : Int) ∧ (4000 : Int) < (a.length : Int)) ∨ (¬ (4000 : Int) < (s.length : Int) ∧ ¬ (4000 : Int) < (a.length : Int) ∧ (4000 : Int) < (m.length : Int)) := by omega
    clear hbig
    rcases key with k1 | ⟨k1, k2⟩ | ⟨k1, k2, k3⟩
    all_goals
      go_enter Try.func4, Try.ntmps4
      go_wp2_with fail
      refine (tfirst_any _).mono ?_
      rintro e w1 ⟨rfl, hb1⟩
      go_wp2_with fail
      refine (tfirst_any _).mono ?_
      rintro e w2 ⟨rfl, hb2⟩
      go_wp2_with fail
      go_ret
      exact ⟨rfl, hb1.trans (hb2.mono hb1.size)⟩
  have k1 : ¬ (4000 : Int) < (s.length : Int) := by omega
  have k2 : ¬ (4000 : Int) < (a.length : Int) := by omega
  have k3 : ¬ (4000 : Int) < (m.length : Int) := by omega
  clear hbig
  cases hv : validB s
  · have hq : quoteE s = .returned (.tuple #[str [], .int .i64 4]) := by rw [quoteE, hv]; rfl
    have hc : cntE s = .returned (.int .i64 (-1)) := by
      have : cnt s = none := by rw [validB] at hv; exact Option.isNone_iff_eq_none.1 (by simpa using hv)
      rw [cntE, this]; rfl
    have HQ := Lib.hid hq
    have HC := Lib.hid hc
    have HV := Lib.hid hv
    clear hq hc hv
    go_enter Try.func4, Try.ntmps4
    go_wp2_with fail
    refine (tfirst_any _).mono ?_
    rintro e w1 ⟨rfl, hb1⟩
    go_wp2_with fail
    refine (quote_any s _ (by omega)).mono ?_
    rintro e w2 ⟨rfl, hb2⟩
    rw [HQ.out]
    go_wp2_with fail
    refine (valid_any s _ (by omega)).mono ?_
    rintro e w3 ⟨rfl, rfl⟩
    rw [HV.out]
    go_wp2_with fail
    refine (tfirst_any _).mono ?_
    rintro e w4 ⟨rfl, hb4⟩
    go_wp2_with fail
    refine (count_any s _ (by omega)).mono ?_
    rintro e w5 ⟨rfl, rfl⟩
    rw [HC.out]
    go_wp2_with fail
    go_ret
    have s1 := hb1.size
    have s2 := hb2.size
    exact ⟨rfl, (hb1.trans (hb2.mono s1)).trans (hb4.mono (Nat.le_trans s1 s2))⟩
  have hq : quoteE s = .returned (.tuple #[str (34 :: qbL s ++ [34]), .int .i64 0]) := by rw [quoteE, hv]; rfl
  have hu := unq_quoted a s m hv
  have hcut := unq_cut s hv
  have hge := quoted_ge s
  have hql := qbL_len s
  obtain ⟨q, hqe⟩ : ∃ q, q = 34 :: qbL s ++ [34] := ⟨_, rfl⟩
  obtain ⟨c1, hc1⟩ : ∃ c1, c1 = 34 :: qbL s := ⟨_, rfl⟩
  have hqlen : q.length = (qbL s).length + 2 := by rw [hqe]; simp
  have hclen : c1.length = (qbL s).length + 1 := by rw [hc1]; simp
  have hcx : (ByteArray.mk q.toArray).extract 0 (q.length - 1) = ByteArray.mk c1.toArray := by rw [str_cut, hqe, hc1]; simp
  rw [← hqe] at hq hu hge
  rw [← hc1] at hcut
  rw [List.append_assoc] at hu
  have hcat1 := str_cat a q
  have hcat2 := str_cat (a ++ q) m
  have q1 : (2 : Int) ≤ (q.length : Int) := by omega
  have q2 : q.length ≤ 24002 := by omega
  have q3 : c1.length ≤ 24002 := by omega
  have q4 : ¬ (9223372036854775807 < a.length + q.length) := by omega
  have q5 : ¬ (9223372036854775807 < (a ++ q).length + m.length) := by rw [List.length_append]; omega
  have q6 : ¬ (9223372036854775807 < a.length + q.length + m.length) := by omega
  have q7 : (a ++ (q ++ m)).length ≤ 17592186044416 := by rw [List.length_append, List.length_append]; omega
  have HQ := Lib.hid hq
  have HU := Lib.hid hu
  have HCUT := Lib.hid hcut
  have HGE := Lib.hid hge
  have HV := Lib.hid hv
  have HQ7 := Lib.hid q7
  have HCX := Lib.hid hcx
  clear hq hu hcut hge hv hqe hc1 hqlen hclen hql q7 hcx
  go_enter Try.func4, Try.ntmps4
  go_wp2_with fail
  refine (tfirst_any _).mono ?_
  rintro e w1 ⟨rfl, hb1⟩
  go_wp2_with fail
  refine (quote_any s _ (by omega)).mono ?_
  rintro e w2 ⟨rfl, hb2⟩
  rw [HQ.out]
  go_wp2_with fail
  refine (valid_any s _ (by omega)).mono ?_
  rintro e w3 ⟨rfl, rfl⟩
  rw [HV.out]
  go_wp2_with fail
  have s1 := hb1.size
  have hB := hb1.trans (hb2.mono s1)
  have hsz := hB.size
  clear hb1 hb2 s1
  go_loop [9] (fun i => ∃ k : Nat, k ≤ q.length ∧ i = .int .i64 (k : Int)) (fun i => q.length - (intOf i).toNat)
  case atStart => exact ⟨0, Nat.zero_le _, rfl⟩
  case round =>
    obtain ⟨k, hk, rfl⟩ := hrel
    by_cases hlt : k < q.length
    · have n1 : (k : Int) < (q.length : Int) := by omega
      obtain ⟨d, hd⟩ : ∃ d, d = q[k] := ⟨_, rfl⟩
      have hgd : (ByteArray.mk q.toArray)[k]'(by simpa [ByteArray.size] using hlt) = d := hd.symm
      have hd32 := HGE.out d (by rw [hd]; exact List.getElem_mem hlt)
      have n2 : ¬ (d.toNat : Int) < 32 := by omega
      clear hd
      go_wp2_with fail
      go_round
      case rel => exact ⟨k + 1, by omega, by go_num⟩
      case measure => simp [intOf]; omega
    · obtain rfl : k = q.length := by omega
      have n1 : ¬ (q.length : Int) < (q.length : Int) := by omega
      go_wp2_with fail
      refine (unquote_any (a ++ (q ++ m)) (a.length : Int) _ HQ7.out).mono ?_
      rintro e w4 ⟨rfl, hb4⟩
      rw [HU.out, unqE]
      have s4 := hb4.size
      have m2 : (0 : Int) ≤ (q.length : Int) - 1 := by omega
      have m3 : (q.length : Int) - 1 ≤ (q.length : Int) := by omega
      have m4 : ((q.length : Int) - 1).toNat = q.length - 1 := by omega
      have m5 : (1 : Int) ≤ (q.length : Int) := by omega
      have hcx := HCX.out
      go_wp2_with fail
      refine (unquote_any c1 0 _ (by omega)).mono ?_
      rintro e w5 ⟨rfl, hb5⟩
      rw [HCUT.out, unqE]
      have s5 := hb5.size
      go_wp2_with fail
      refine (tfirst_any _).mono ?_
      rintro e w6 ⟨rfl, hb6⟩
      go_wp2_with fail
      go_ret
      exact ⟨rfl, ((hB.trans (hb4.mono hsz)).trans (hb5.mono (Nat.le_trans hsz s4))).trans (hb6.mono (Nat.le_trans hsz (Nat.le_trans s4 s5)))⟩
end Go.Proofs.Ytdefjpgmolehdaa
