/- TextSigns: the walk. -/
import Derived.Test.YtdefjpgmolehdaaSgMath
import Derived.Deep.RegionHeld3
namespace Go.Proofs.Ytdefjpgmolehdaa
open Go.RowKit

attribute [local go_sem] str_cat

theorem Below.undrewsN2 {B : Nat} {w w' : World} {n : Nat} (h : Below B (w.drewN n) w') : Below B w w' := ⟨h.os, h.tape, h.output, h.size, h.block⟩
theorem runes_run (n : Nat) (h : signB n = true) (W : World) : (convert 9 34 (str (sb n))).run Try.prog W =
    .ok (.slice (some ⟨W.heap.size, 0, none⟩) 1 (grownCap W 1 0 21)) (W.drew.alloc (.cells (#[.int .i32 (n : Int)] ++ Array.replicate (grownCap W 1 0 21 - 1) (.int .i32 0)) 21)) := by
  have := run_runes_of_string (P := Try.prog) W 9 34 21 ⟨(sb n).toArray⟩ Try.underlying9 Try.underlying34 Try.underlying21 (by rw [runes_sb n h]; simp)
  rw [runes_sb n h] at this
  exact this
theorem runes_get (x : Int) (c : Nat) : (#[Value.int .i32 x] ++ Array.replicate c (Value.int .i32 0))[0]? = some (.int .i32 x) := by
  rw [Array.getElem?_append_left (by simp)]; rfl

def bad (a : Int) : Prop := a < 0 ∨ 1114111 < a ∨ (55296 ≤ a ∧ a ≤ 57343)
theorem signR_bad (a : Int) (h : bad a) : signR a = ([], false) := by
  rw [signR, if_neg]
  rintro ⟨h1, h2⟩
  have := (signB_iff a.toNat).1 h2
  rcases h with h | h | h <;> omega
theorem signR_good (n : Nat) (h : signB n = true) : signR (n : Int) = (sb n, true) := by
  rw [signR, if_pos ⟨by omega, by simpa using h⟩]; rfl
theorem signR_cases (b : Int) : (∃ m : Nat, b = (m : Int) ∧ signB m = true ∧ signR b = (sb m, true)) ∨ signR b = ([], false) := by
  by_cases h : 0 ≤ b ∧ signB b.toNat = true
  · exact .inl ⟨b.toNat, by omega, h.2, by rw [signR, if_pos h]⟩
  · exact .inr (by rw [signR, if_neg h])

set_option maxRecDepth 100000 in
set_option maxHeartbeats 6400000 in
theorem tsigns_bad (a b : Int) (w : World) (ha : -9223372036854775808 ≤ a ∧ a ≤ 9223372036854775807) (hb : -9223372036854775808 ≤ b ∧ b ≤ 9223372036854775807) (h : bad a) :
    Calls Try.prog 5 #[.int .i64 a, .int .i64 b] w fun e w' => e = .returned (.bool true) ∧ Below w.heap.size w w' := by
  obtain ⟨ha1, ha2⟩ := ha
  obtain ⟨hb1, hb2⟩ := hb
  have hs := signR_bad a h
  obtain ⟨t, yes, ht⟩ : ∃ t yes, signR b = (t, yes) := ⟨_, _, rfl⟩
  have HS := Lib.hid hs
  have HT := Lib.hid ht
  have key : a < 0 ∨ (0 ≤ a ∧ 1114111 < a) ∨ (0 ≤ a ∧ ¬ 1114111 < a ∧ 55296 ≤ a ∧ a ≤ 57343) := by rcases h with h | h | h <;> omega
  clear hs ht h
  rcases key with k1 | ⟨k1, k2⟩ | ⟨k1, k2, k3, k4⟩
  all_goals
    go_enter Try.func5, Try.ntmps5
    go_wp2_with fail
    refine (tfirst_any _).mono ?_
    rintro e w1 ⟨rfl, hb1⟩
    go_wp2_with fail
    refine (tsign_any a _ ha1 ha2).mono ?_
    rintro e w2 ⟨rfl, hb2⟩
    rw [HS.out, signE]
    go_wp2_with fail
    refine (tsign_any b _ (by assumption) (by assumption)).mono ?_
    rintro e w3 ⟨rfl, hb3⟩
    rw [HT.out, signE]
    go_wp2_with fail
    refine (tfirst_any _).mono ?_
    rintro e w4 ⟨rfl, hb4⟩
    go_wp2_with fail
    go_ret
    have s1 := hb1.size
    have s2 := hb2.size
    have s3 := hb3.size
    exact ⟨rfl, ((hb1.trans (hb2.mono s1)).trans (hb3.mono (Nat.le_trans s1 s2))).trans (hb4.mono (Nat.le_trans s1 (Nat.le_trans s2 s3)))⟩

set_option maxRecDepth 100000 in
set_option maxHeartbeats 12800000 in
theorem tsigns_good (n : Nat) (b : Int) (w : World) (hn : signB n = true) (hb : -9223372036854775808 ≤ b ∧ b ≤ 9223372036854775807) :
    Calls Try.prog 5 #[.int .i64 (n : Int), .int .i64 b] w fun e w' => e = .returned (.bool true) ∧ Below w.heap.size w w' := by
  obtain ⟨hb1, hb2⟩ := hb
  have hs := signR_good n hn
  have hcn := cnt_sb n hn
  have hlen := sb_len n
  have hpos := sb_pos n
  have hrun := runes_run n hn
  have hg := (signB_iff n).1 hn
  have hg0 : n ≤ 1114111 := by omega
  have hgb : (n < 55296) ∨ (¬ n < 55296 ∧ 57343 < n) := by omega
  have C1 : ∀ W, Calls Try.prog 17 #[str (sb n)] W fun e w' => e = .returned (.int .i64 1) ∧ w' = W := fun W => by
    have := count_any (sb n) W (by omega)
    rwa [cntE_some hcn] at this
  have HC1 := Lib.hid C1
  have HN := Lib.hid hn
  have HS := Lib.hid hs
  have HCN := Lib.hid hcn
  obtain ⟨a, ha⟩ : ∃ a : Int, a = (n : Int) := ⟨_, rfl⟩
  have hr32 : IntKind.i32.wrap a = a := by rw [IntKind.wrap_i32]; omega
  obtain ⟨sn, hsn⟩ : ∃ sn, sn = sb n := ⟨_, rfl⟩
  rw [← hsn] at hlen hpos hrun
  rw [← ha]
  rw [← ha] at hrun
  have hcell := fun c => runes_get a c
  have ha0 : 0 ≤ a := by omega
  have ha1 : -9223372036854775808 ≤ a := by omega
  have ha2 : a ≤ 9223372036854775807 := by omega
  have ha3 : a ≤ 1114111 := by omega
  have hl1 : (1 : Int) ≤ (sn.length : Int) := by omega
  have hl2 : (sn.length : Int) ≤ 4 := by omega
  have key : a < 55296 ∨ (¬ a < 55296 ∧ 57343 < a) := by omega
  have HSN := Lib.hid hsn
  have HAN := Lib.hid ha
  clear hsn hg hgb hn hs hcn C1
  have HS2 := Lib.hid (show signR a = (sn, true) by rw [HAN.out, HSN.out]; exact HS.out)
  have HC2 : Hid (∀ W, Calls Try.prog 17 #[str sn] W fun e w' => e = .returned (.int .i64 1) ∧ w' = W) := by rw [HSN.out]; exact HC1
  clear ha
  rcases signR_cases b with ⟨m, hbm, hm, ht⟩ | ht
  · have hcm := cnt_sb m hm
    have hlm := sb_len m
    have hpm := sb_pos m
    have hinj := sb_inj n m HN.out hm
    have CC : ∀ W, Calls Try.prog 17 #[str (sn ++ sb m)] W fun e w' => e = .returned (.int .i64 2) ∧ w' = W := fun W => by
      have hc2 : cnt (sn ++ sb m) = some 2 := by rw [HSN.out, cnt_app (sb n) (sb m) 1 HCN.out, hcm]; rfl
      have := count_any (sn ++ sb m) W (by simp; omega)
      rwa [cntE_some hc2] at this
    have hfin : ∃ bb, (sn == sb m) = bb ∧ (a == b) = bb := by
      by_cases hnm : n = m
      · refine ⟨true, by rw [beq_iff_eq, HSN.out, hnm], by rw [beq_iff_eq, HAN.out, hbm, hnm]⟩
      · exact ⟨false, by rw [beq_eq_false_iff_ne, HSN.out]; exact fun h => hnm (hinj h), by rw [beq_eq_false_iff_ne, HAN.out, hbm]; omega⟩
    obtain ⟨bb, z1, z2⟩ := hfin
    obtain ⟨tm, htm⟩ : ∃ tm, tm = sb m := ⟨_, rfl⟩
    rw [← htm] at hlm hpm CC z1 ht
    have HCC := Lib.hid CC
    have HT := Lib.hid ht
    have q4 : ¬ (9223372036854775807 < sn.length + tm.length) := by omega
    clear ht CC htm hinj hcm hm hbm
    have pre : ∀ (W : World), Below w.heap.size w W → True := fun _ _ => trivial
    clear pre
    by_cases hlt : a < 65536
    · have HL := Lib.hid hlt
      have hnlt : n < 65536 := by have := HAN.out; omega
      have hfour := unq_four n HN.out hnlt
      rw [← HSN.out] at hfour
      have haI := HAN.out
      obtain ⟨d3, hd3⟩ : ∃ d3, d3 = n / 4096 := ⟨_, rfl⟩
      have qd3 : a / 4096 = (d3 : Int) := by omega
      obtain ⟨x3, hx3⟩ : ∃ x3, x3 = hexS d3 := ⟨_, rfl⟩
      have bd3 : d3 < 16 := by omega
      have cd3 : (ByteArray.mk #[48, 49, 50, 51, 52, 53, 54, 55, 56, 57, 97, 98, 99, 100, 101, 102]).extract d3 (d3 + 1) = ByteArray.mk [x3].toArray := by rw [hx3]; exact hexS_cut ⟨d3, bd3⟩
      have id3 : (0 : Int) ≤ (d3 : Int) := by omega
      have jd3 : (d3 : Int) ≤ (d3 : Int) + 1 := by omega
      have kd3 : (d3 : Int) + 1 ≤ 16 := by omega
      have ld3 : ((d3 : Int) + 1).toNat = d3 + 1 := by omega
      have md3 : IntKind.i64.wrap ((d3 : Int) + 1) = (d3 : Int) + 1 := IntWalk.i64_in _ ⟨by omega, by omega⟩
      have nd3 : (0 : Int) ≤ (d3 : Int) + 1 := by omega
      rw [← hd3, ← hx3] at hfour
      clear hd3 hx3 bd3
      obtain ⟨d2, hd2⟩ : ∃ d2, d2 = n / 256 % 16 := ⟨_, rfl⟩
      have qd2 : bits .and .i64 (a / 256) 15 = (d2 : Int) := by
        rw [hd2, haI, show ((n : Int) / 256) = ((n / 256 : Nat) : Int) by omega]; exact andI (n / 256) 15 4 (by decide) (by omega) (by decide)
      obtain ⟨x2, hx2⟩ : ∃ x2, x2 = hexS d2 := ⟨_, rfl⟩
      have bd2 : d2 < 16 := by omega
      have cd2 : (ByteArray.mk #[48, 49, 50, 51, 52, 53, 54, 55, 56, 57, 97, 98, 99, 100, 101, 102]).extract d2 (d2 + 1) = ByteArray.mk [x2].toArray := by rw [hx2]; exact hexS_cut ⟨d2, bd2⟩
      have id2 : (0 : Int) ≤ (d2 : Int) := by omega
      have jd2 : (d2 : Int) ≤ (d2 : Int) + 1 := by omega
      have kd2 : (d2 : Int) + 1 ≤ 16 := by omega
      have ld2 : ((d2 : Int) + 1).toNat = d2 + 1 := by omega
      have md2 : IntKind.i64.wrap ((d2 : Int) + 1) = (d2 : Int) + 1 := IntWalk.i64_in _ ⟨by omega, by omega⟩
      have nd2 : (0 : Int) ≤ (d2 : Int) + 1 := by omega
      rw [← hd2, ← hx2] at hfour
      clear hd2 hx2 bd2
      obtain ⟨d1, hd1⟩ : ∃ d1, d1 = n / 16 % 16 := ⟨_, rfl⟩
      have qd1 : bits .and .i64 (a / 16) 15 = (d1 : Int) := by
        rw [hd1, haI, show ((n : Int) / 16) = ((n / 16 : Nat) : Int) by omega]; exact andI (n / 16) 15 4 (by decide) (by omega) (by decide)
      obtain ⟨x1, hx1⟩ : ∃ x1, x1 = hexS d1 := ⟨_, rfl⟩
      have bd1 : d1 < 16 := by omega
      have cd1 : (ByteArray.mk #[48, 49, 50, 51, 52, 53, 54, 55, 56, 57, 97, 98, 99, 100, 101, 102]).extract d1 (d1 + 1) = ByteArray.mk [x1].toArray := by rw [hx1]; exact hexS_cut ⟨d1, bd1⟩
      have id1 : (0 : Int) ≤ (d1 : Int) := by omega
      have jd1 : (d1 : Int) ≤ (d1 : Int) + 1 := by omega
      have kd1 : (d1 : Int) + 1 ≤ 16 := by omega
      have ld1 : ((d1 : Int) + 1).toNat = d1 + 1 := by omega
      have md1 : IntKind.i64.wrap ((d1 : Int) + 1) = (d1 : Int) + 1 := IntWalk.i64_in _ ⟨by omega, by omega⟩
      have nd1 : (0 : Int) ≤ (d1 : Int) + 1 := by omega
      rw [← hd1, ← hx1] at hfour
      clear hd1 hx1 bd1
      obtain ⟨d0, hd0⟩ : ∃ d0, d0 = n % 16 := ⟨_, rfl⟩
      have qd0 : bits .and .i64 a 15 = (d0 : Int) := by rw [hd0, haI]; exact andI n 15 4 (by decide) (by omega) (by decide)
      obtain ⟨x0, hx0⟩ : ∃ x0, x0 = hexS d0 := ⟨_, rfl⟩
      have bd0 : d0 < 16 := by omega
      have cd0 : (ByteArray.mk #[48, 49, 50, 51, 52, 53, 54, 55, 56, 57, 97, 98, 99, 100, 101, 102]).extract d0 (d0 + 1) = ByteArray.mk [x0].toArray := by rw [hx0]; exact hexS_cut ⟨d0, bd0⟩
      have id0 : (0 : Int) ≤ (d0 : Int) := by omega
      have jd0 : (d0 : Int) ≤ (d0 : Int) + 1 := by omega
      have kd0 : (d0 : Int) + 1 ≤ 16 := by omega
      have ld0 : ((d0 : Int) + 1).toNat = d0 + 1 := by omega
      have md0 : IntKind.i64.wrap ((d0 : Int) + 1) = (d0 : Int) + 1 := IntWalk.i64_in _ ⟨by omega, by omega⟩
      have nd0 : (0 : Int) ≤ (d0 : Int) + 1 := by omega
      rw [← hd0, ← hx0] at hfour
      clear hd0 hx0 bd0
      have CU0 : ∀ W, Calls Try.prog 11 #[str [34, 92, 117, x3, x2, x1, x0, 34], .int .i64 0] W fun e w' => e = .returned (.tuple #[str sn, .int .i64 8, .int .i64 0]) ∧ Below W.heap.size W w' := fun W => by
        have := unquote_any [34, 92, 117, x3, x2, x1, x0, 34] 0 W (by simp)
        rw [hfour] at this
        exact this
      have CU := Lib.hid CU0
      clear hfour haI hnlt CU0
      rcases key with k1 | ⟨k1, k2⟩
      all_goals
        go_enter Try.func5, Try.ntmps5
        go_wp2_with fail
        refine (tfirst_any _).mono ?_
        rintro e w1 ⟨rfl, hb1⟩
        go_wp2_with fail
        refine (tsign_any a _ ha1 ha2).mono ?_
        rintro e w2 ⟨rfl, hb2⟩
        rw [HS2.out, signE]
        go_wp2_with fail
        refine (tsign_any b _ (by assumption) (by assumption)).mono ?_
        rintro e w3 ⟨rfl, hb3⟩
        rw [HT.out, signE]
        go_wp2_with fail
        refine (HC2.out _).mono ?_
        rintro e w4 ⟨rfl, rfl⟩
        have s1 := hb1.size
        have s2 := hb2.size
        have s3 := hb3.size
        have hB := (hb1.trans (hb2.mono s1)).trans (hb3.mono (Nat.le_trans s1 s2))
        have hB4 := (hB.alloc hB.size (.cells (#[.int .i32 a] ++ Array.replicate (grownCap w4 1 0 21 - 1) (.int .i32 0)) 21)).drew
        clear hb1 hb2 hb3 s1 s2 s3
        go_wp2_with fail
        go_region_held3 (fun _ => True) (trivial)
          ((first
            | (go_at_call 11
               refine (CU.out _).mono ?_
               rintro e w5 ⟨rfl, hb5⟩)
            | fail))
        go_wp2_with fail
        refine (tfirst_any _).mono ?_
        rintro e w6 ⟨rfl, hb6⟩
        go_wp2_with fail
        refine (HCC.out _).mono ?_
        rintro e w7 ⟨rfl, rfl⟩
        cases bb
        all_goals
          go_wp2_with fail
          go_ret
          have hB5 := hB4.trans ((below_undrew hb5).mono hB4.size)
          exact ⟨rfl, hB5.trans (hb6.mono hB5.size)⟩
    · obtain ⟨k1, k2⟩ : ¬ a < 55296 ∧ 57343 < a := by omega
      clear key
      exact (by
        go_enter Try.func5, Try.ntmps5
        go_wp2_with fail
        refine (tfirst_any _).mono ?_
        rintro e w1 ⟨rfl, hb1⟩
        go_wp2_with fail
        refine (tsign_any a _ ha1 ha2).mono ?_
        rintro e w2 ⟨rfl, hb2⟩
        rw [HS2.out, signE]
        go_wp2_with fail
        refine (tsign_any b _ (by assumption) (by assumption)).mono ?_
        rintro e w3 ⟨rfl, hb3⟩
        rw [HT.out, signE]
        go_wp2_with fail
        refine (HC2.out _).mono ?_
        rintro e w4 ⟨rfl, rfl⟩
        have s1 := hb1.size
        have s2 := hb2.size
        have s3 := hb3.size
        have hB := (hb1.trans (hb2.mono s1)).trans (hb3.mono (Nat.le_trans s1 s2))
        have hB4 := (hB.alloc hB.size (.cells (#[.int .i32 a] ++ Array.replicate (grownCap w4 1 0 21 - 1) (.int .i32 0)) 21)).drew
        clear hb1 hb2 hb3 s1 s2 s3
        go_wp2_with fail
        refine (tfirst_any _).mono ?_
        rintro e w6 ⟨rfl, hb6⟩
        go_wp2_with fail
        refine (HCC.out _).mono ?_
        rintro e w7 ⟨rfl, rfl⟩
        cases bb
        all_goals
          go_wp2_with fail
          go_ret
          exact ⟨rfl, hB4.trans (hb6.mono hB4.size)⟩)
  · have HT := Lib.hid ht
    clear ht
    rcases key with k1 | ⟨k1, k2⟩
    all_goals
      go_enter Try.func5, Try.ntmps5
      go_wp2_with fail
      refine (tfirst_any _).mono ?_
      rintro e w1 ⟨rfl, hb1⟩
      go_wp2_with fail
      refine (tsign_any a _ ha1 ha2).mono ?_
      rintro e w2 ⟨rfl, hb2⟩
      rw [HS2.out, signE]
      go_wp2_with fail
      refine (tsign_any b _ (by assumption) (by assumption)).mono ?_
      rintro e w3 ⟨rfl, hb3⟩
      rw [HT.out, signE]
      go_wp2_with fail
      refine (HC2.out _).mono ?_
      rintro e w4 ⟨rfl, rfl⟩
      go_wp2_with fail
      have s1 := hb1.size
      have s2 := hb2.size
      have s3 := hb3.size
      have hB := (hb1.trans (hb2.mono s1)).trans (hb3.mono (Nat.le_trans s1 s2))
      have hB4 := (hB.alloc hB.size (.cells (#[.int .i32 a] ++ Array.replicate (grownCap w4 1 0 21 - 1) (.int .i32 0)) 21)).drew
      refine (tfirst_any _).mono ?_
      rintro e w6 ⟨rfl, hb6⟩
      go_wp2_with fail
      go_ret
      exact ⟨rfl, hB4.trans (hb6.mono hB4.size)⟩
theorem tsigns_walk (a b : Int) (w : World) (ha : -9223372036854775808 ≤ a ∧ a ≤ 9223372036854775807) (hb : -9223372036854775808 ≤ b ∧ b ≤ 9223372036854775807) :
    Calls Try.prog 5 #[.int .i64 a, .int .i64 b] w fun e w' => e = .returned (.bool true) ∧ Below w.heap.size w w' := by
  by_cases h : bad a
  · exact tsigns_bad a b w ha hb h
  · have h' : 0 ≤ a ∧ a ≤ 1114111 ∧ ¬ (55296 ≤ a ∧ a ≤ 57343) := by unfold bad at h; omega
    obtain ⟨n, rfl⟩ := Int.eq_ofNat_of_zero_le h'.1
    exact tsigns_good n b w ((signB_iff n).2 (by omega)) hb
end Go.Proofs.Ytdefjpgmolehdaa
