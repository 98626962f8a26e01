/- TextJoins: the walk. -/
import Derived.Test.YtdefjpgmolehdaaTLaw
import Derived.Deep.RegionHeld3
namespace Go.Proofs.Ytdefjpgmolehdaa
open Go.RowKit

set_option maxRecDepth 100000 in
set_option maxHeartbeats 3200000 in
theorem joins_walk (a0 a1 : ByteArray) (w : World) (h0 : a0.size ≤ maxLen) (h1 : a1.size ≤ maxLen) :
    Calls Try.prog 7 #[.string a0, .string a1] w fun e w' => e = .returned (.bool true) ∧ Below w.heap.size w w' := by
  obtain ⟨a, rfl⟩ := str_of a0
  obtain ⟨b, rfl⟩ := str_of a1
  have hla : a.length ≤ 9223372036854775807 := by unfold maxLen at h0; simp [ByteArray.size] at h0; omega
  have hlb : b.length ≤ 9223372036854775807 := by unfold maxLen at h1; simp [ByteArray.size] at h1; omega
  clear h0 h1
  by_cases hbig : 4000 < a.length
  · have hbig' : (4000 : Int) < (a.length : Int) := by omega
    go_enter Try.func7, Try.ntmps7
    go_wp2_with fail
    refine (tfirst_any _).mono ?_
    rintro e w1 ⟨rfl, hb1⟩
    go_wp2_with fail
    refine (tfirst_any _).mono ?_
    rintro e w2 ⟨rfl, hb2⟩
    go_wp2_with fail
    go_ret
    exact ⟨rfl, hb1.trans (hb2.mono hb1.size)⟩
  have hbig' : ¬ (4000 : Int) < (a.length : Int) := by omega
  by_cases hbg : 4000 < b.length
  · have hbg' : (4000 : Int) < (b.length : Int) := by omega
    go_enter Try.func7, Try.ntmps7
    go_wp2_with fail
    refine (tfirst_any _).mono ?_
    rintro e w1 ⟨rfl, hb1⟩
    go_wp2_with fail
    refine (tfirst_any _).mono ?_
    rintro e w2 ⟨rfl, hb2⟩
    go_wp2_with fail
    go_ret
    exact ⟨rfl, hb1.trans (hb2.mono hb1.size)⟩
  have hbg' : ¬ (4000 : Int) < (b.length : Int) := by omega
  have hcat := str_cat a b
  obtain ⟨x, ex, hx, hx1, hx2⟩ := quoteX a
  obtain ⟨y, ey, hy, hy1, hy2⟩ := quoteX b
  obtain ⟨z, ez, hz, hz1, hz2⟩ := quoteX (a ++ b)
  have HX := Lib.hid hx
  have HY := Lib.hid hy
  have HZ := Lib.hid hz
  have HZ1 := Lib.hid hz1
  have HY1 := Lib.hid hy1
  have HX1 := Lib.hid hx1
  have HX2 := Lib.hid hx2
  have HY2 := Lib.hid hy2
  clear hx hy hz hz1 hz2 hy1 hx1 hx2 hy2
  go_enter Try.func7, Try.ntmps7
  go_wp2_with fail
  refine (tfirst_any _).mono ?_
  rintro e w1 ⟨rfl, hb1⟩
  go_wp2_with fail
  refine (quote_any a _ (by omega)).mono ?_
  rintro e w2 ⟨rfl, hb2⟩
  rw [HX.out]
  go_wp2_with fail
  refine (quote_any b _ (by omega)).mono ?_
  rintro e w3 ⟨rfl, hb3⟩
  rw [HY.out]
  go_wp2_with fail
  refine (quote_any (a ++ b) _ (by simp; omega)).mono ?_
  rintro e w4 ⟨rfl, hb4⟩
  rw [HZ.out]
  have s1 := hb1.size
  have s2 := hb2.size
  have s3 := hb3.size
  have s4 := hb4.size
  have hB := ((hb1.trans (hb2.mono s1)).trans (hb3.mono (Nat.le_trans s1 s2))).trans (hb4.mono (Nat.le_trans s1 (Nat.le_trans s2 s3)))
  have hsz : w.heap.size ≤ w4.heap.size := hB.size
  clear hb1 hb2 hb3 hb4 s1 s2 s3 s4
  cases hva : validB a
  · obtain ⟨-, rfl⟩ := HX2.out hva
    go_wp2_with fail
    refine (tfirst_any _).mono ?_
    rintro e w5 ⟨rfl, hb5⟩
    go_wp2_with fail
    go_ret
    exact ⟨rfl, hB.trans (hb5.mono hsz)⟩
  cases hvb : validB b
  · obtain ⟨-, rfl⟩ := HY2.out hvb
    obtain ⟨-, rfl⟩ := HX1.out hva
    go_wp2_with fail
    refine (tfirst_any _).mono ?_
    rintro e w5 ⟨rfl, hb5⟩
    go_wp2_with fail
    go_ret
    exact ⟨rfl, hB.trans (hb5.mono hsz)⟩
  obtain ⟨na, hna⟩ := validB_some hva
  obtain ⟨nb, hnb⟩ := validB_some hvb
  have hnab : cnt (a ++ b) = some (nb + na) := by rw [cnt_app a b na hna, hnb]; rfl
  have hvab : validB (a ++ b) = true := by rw [validB, hnab]; rfl
  obtain ⟨ex1, rfl⟩ := HX1.out hva
  obtain ⟨ey1, rfl⟩ := HY1.out hvb
  obtain ⟨ez1, rfl⟩ := HZ1.out hvab
  have ha := Lib.hid hna
  have hb := Lib.hid hnb
  have hab := Lib.hid hnab
  have hlx : x.length = (qbL a).length + 2 := by rw [ex1]; simp
  have hly : y.length = (qbL b).length + 2 := by rw [ey1]; simp
  have hqa := qbL_len a
  have hqb := qbL_len b
  have na_le := cnt_le _ a na (Nat.le_refl _) hna
  have nb_le := cnt_le _ b nb (Nat.le_refl _) hnb
  have hfin : (x.take (x.length - 1)) ++ (y.drop 1) = z := by
    rw [hlx, ex1, ey1, ez1, qbL_app]
    simp
  have HF := Lib.hid hfin
  have g1 : (2 : Int) ≤ (x.length : Int) := by omega
  have g2 : (2 : Int) ≤ (y.length : Int) := by omega
  clear hna hnb hnab hva hvb hvab ex1 ey1 ez1 hlx hly hqa hqb hfin
  obtain ⟨p, hp⟩ : ∃ p, p = x.take (x.length - 1) := ⟨_, rfl⟩
  obtain ⟨q, hq⟩ : ∃ q, q = y.drop 1 := ⟨_, rfl⟩
  have hcx : (ByteArray.mk x.toArray).extract 0 (x.length - 1) = ByteArray.mk p.toArray := by rw [str_cut, hp]; simp
  have hcy : (ByteArray.mk y.toArray).extract 1 y.length = ByteArray.mk q.toArray := by rw [str_cut, hq, List.take_of_length_le (by simp)]
  have hcz : ByteArray.mk p.toArray ++ ByteArray.mk q.toArray = ByteArray.mk z.toArray := by rw [str_cat, hp, hq, HF.out]
  have CA : ∀ W, Calls Try.prog 17 #[str a] W fun e w' => e = .returned (.int .i64 (na : Int)) ∧ w' = W := fun W => by
    have := count_any a W (by omega)
    rwa [cntE_some ha.out] at this
  have CB : ∀ W, Calls Try.prog 17 #[str b] W fun e w' => e = .returned (.int .i64 (nb : Int)) ∧ w' = W := fun W => by
    have := count_any b W (by omega)
    rwa [cntE_some hb.out] at this
  have CC : ∀ W, Calls Try.prog 17 #[str (a ++ b)] W fun e w' => e = .returned (.int .i64 ((na : Int) + (nb : Int))) ∧ w' = W := fun W => by
    have := count_any (a ++ b) W (by simp; omega)
    rw [cntE_some hab.out] at this
    rwa [show ((nb + na : Nat) : Int) = (na : Int) + (nb : Int) by omega] at this
  have HCA := Lib.hid CA
  have HCB := Lib.hid CB
  have HCC := Lib.hid CC
  have hlx : x.length ≤ 9223372036854775807 := by have := qbL_len a; have h := (HX1.out (by rw [validB, ha.out]; rfl)).1; rw [h]; simp; omega
  have hxl4 : x.length ≤ 24002 := by have := qbL_len a; have h := (HX1.out (by rw [validB, ha.out]; rfl)).1; rw [h]; simp; omega
  have hyl4 : y.length ≤ 24002 := by have := qbL_len b; have h := (HY1.out (by rw [validB, hb.out]; rfl)).1; rw [h]; simp; omega
  have m7 : (1 : Int) ≤ (x.length : Int) := by omega
  have m8 : p.length ≤ 24002 := by rw [hp]; simp; omega
  have m9 : q.length ≤ 24002 := by rw [hq]; simp; omega
  have m10 : ¬ (9223372036854775807 < p.length + q.length) := by omega
  have m11 : ¬ (9223372036854775807 < a.length + b.length) := by omega
  have m2 : (0 : Int) ≤ (x.length : Int) - 1 := by omega
  have m3 : (x.length : Int) - 1 ≤ (x.length : Int) := by omega
  have m4 : ((x.length : Int) - 1).toNat = x.length - 1 := by omega
  have m5 : (1 : Int) ≤ (y.length : Int) := by omega
  have m1 : IntKind.i64.wrap ((x.length : Int) - 1) = (x.length : Int) - 1 := IntWalk.i64_in _ ⟨by omega, by omega⟩
  have m6 : IntKind.i64.wrap ((na : Int) + (nb : Int)) = (na : Int) + (nb : Int) := IntWalk.i64_in _ ⟨by omega, by omega⟩
  clear hxl4 hyl4 m8 m9 CA CB CC hp hq HX1 HY1 HZ1
  go_wp2_with fail
  go_region_held3 (fun _ => True) (trivial)
    ((first
      | (go_at_call 8
         refine (tfirst_any _).mono ?_
         rintro e w5 ⟨rfl, hb5⟩)
      | (go_at_call 17; (with_reducible refine (HCA.out _).mono ?_); rintro e w6 ⟨rfl, rfl⟩)
      | (go_at_call 17; (with_reducible refine (HCB.out _).mono ?_); rintro e w6 ⟨rfl, rfl⟩)
      | (go_at_call 17; (with_reducible refine (HCC.out _).mono ?_); rintro e w6 ⟨rfl, rfl⟩)
      | fail))
  all_goals
    go_wp2_with fail
    go_ret
    exact ⟨rfl, hB.trans ((below_undrew hb5).mono hsz)⟩
end Go.Proofs.Ytdefjpgmolehdaa
