/- NumTexts: the walk. -/
import Derived.Test.YtaelkgebnaeimaaDoorRefUnhex
import Derived.Test.YtaelkgebnaeimaaDoorFirst
import Derived.Test.YtaelkgebnaeimaaDoorBytes
namespace Go.Proofs.YtaelkgebnaeimaaDoor
open Go.RowKit

set_option maxRecDepth 100000 in
set_option maxHeartbeats 3200000 in
theorem texts_walk (v : Value) (l : List UInt8) (s : ByteArray) (w : World) (hv : Rd w v l) (hs0 : s.size ≤ maxLen) (ht : Tab w) :
    Calls Tryd.prog 3 #[v, .string s] w fun e w' => e = .returned (.bool true) ∧ Below w.heap.size w w' := by
  obtain ⟨⟨t⟩⟩ := s
  have hs : t.length ≤ maxLen := hs0
  have hl := hv.lens
  have HV := Lib.hid hv
  have HT := Lib.hid ht
  obtain ⟨a, cap, rfl, hc1, hc2, hc3, hc4⟩ := hv
  clear hc4 hc3 ht
  show Calls Tryd.prog 3 #[.slice a l.length cap, str t] w fun e w' => e = .returned (.bool true) ∧ Below w.heap.size w w'
  unfold maxLen at hs
  by_cases hbig : 8000 < l.length ∨ 8000 < t.length
  · have hdec : (8000 : Int) < (l.length : Int) ∨ (¬ (8000 : Int) < (l.length : Int) ∧ (8000 : Int) < (t.length : Int)) := by omega
    clear hbig
    rcases hdec with n1 | ⟨n1, n2⟩
    all_goals
      go_enter Tryd.func3, Tryd.ntmps3
      go_wp2_with fail
      refine (first_any _).mono ?_
      rintro e w1 ⟨rfl, hb1⟩
      go_wp2_with fail
      refine (first_any _).mono ?_
      rintro e w2 ⟨rfl, hb2⟩
      go_wp2_with fail
      go_ret
      exact ⟨rfl, hb1.trans (hb2.mono hb1.size)⟩
  · have n1 : ¬ (8000 : Int) < (l.length : Int) := by omega
    have n2 : ¬ (8000 : Int) < (t.length : Int) := by omega
    clear hbig
    go_enter Tryd.func3, Tryd.ntmps3
    go_wp2_with fail
    refine (first_any _).mono ?_
    rintro e w1 ⟨rfl, hb1⟩
    have s1 := hb1.size
    go_wp2_with fail
    refine (unhex_any t _ (by omega)).mono ?_
    rintro e w2 ⟨hb2, hu⟩
    have s2 := hb2.size
    rcases hu with ⟨u, rfl, u1, u2, u3⟩ | ⟨rfl, u1⟩
    all_goals
      go_wp2_with fail
      refine (refUnhex_any t _ (by omega)).mono ?_
      rintro e w3 ⟨hb3, hr⟩
      have s3 := hb3.size
      rcases hr with ⟨r, rfl, r1, r2, r3⟩ | ⟨rfl, r1⟩
    · have hbz : Below w.heap.size w w3 := (hb1.trans (hb2.mono s1)).trans (hb3.mono (Nat.le_trans s1 s2))
      have hx3 := u3.rd.below hb3 (Nat.le_refl _)
      have hy3 := r3.rd
      go_wp2_with fail
      refine (first_any _).mono ?_
      rintro e w4 ⟨rfl, hb4⟩
      have s4 := hb4.size
      have hz4 := hbz.trans (hb4.mono hbz.size)
      go_wp2_with fail
      refine (hex_any _ l _ (HV.out.below hz4 (Nat.le_refl _)) (by omega)).mono ?_
      rintro e w5 ⟨rfl, hb5⟩
      have s5 := hb5.size
      have hz5 := hz4.trans (hb5.mono hz4.size)
      go_wp2_with fail
      refine (refHex_any _ l _ (HV.out.below hz5 (Nat.le_refl _)) (by omega)).mono ?_
      rintro e w6 ⟨rfl, hb6⟩
      have s6 := hb6.size
      have hz6 := hz5.trans (hb6.mono hz5.size)
      have hx6 := ((hx3.below hb4 (Nat.le_refl _)).below hb5 (Nat.le_refl _)).below hb6 (Nat.le_refl _)
      have hy6 := ((hy3.below hb4 (Nat.le_refl _)).below hb5 (Nat.le_refl _)).below hb6 (Nat.le_refl _)
      have hRl := HV.out.below hz6 (Nat.le_refl _)
      have hTl := HT.out.below hz6 (Nat.le_refl _)
      go_wp2_with fail
      refine (bytes_any _ _ _ _ _ hx6 hy6).mono ?_
      rintro e w7 ⟨rfl, rfl⟩
      rw [beq_self_eq_true]
      go_wp2_with fail
      refine (crc_any _ _ _ hRl hTl).mono ?_
      rintro e w7 ⟨rfl, rfl⟩
      go_wp2_with fail
      refine (refCrc_any _ _ _ hRl).mono ?_
      rintro e w7 ⟨rfl, rfl⟩
      go_wp2_with fail
      go_ret
      exact ⟨by first | rfl | simp, hz6⟩
    · exfalso
      rcases r1 with h | h
      · omega
      · exact h u2
    · exfalso
      rcases u1 with h | h
      · omega
      · exact h r2
    · have hbz : Below w.heap.size w w3 := (hb1.trans (hb2.mono s1)).trans (hb3.mono (Nat.le_trans s1 s2))
      have hx3 := Rd.nil w3
      have hy3 := Rd.nil w3
      go_wp2_with fail
      refine (first_any _).mono ?_
      rintro e w4 ⟨rfl, hb4⟩
      have s4 := hb4.size
      have hz4 := hbz.trans (hb4.mono hbz.size)
      go_wp2_with fail
      refine (hex_any _ l _ (HV.out.below hz4 (Nat.le_refl _)) (by omega)).mono ?_
      rintro e w5 ⟨rfl, hb5⟩
      have s5 := hb5.size
      have hz5 := hz4.trans (hb5.mono hz4.size)
      go_wp2_with fail
      refine (refHex_any _ l _ (HV.out.below hz5 (Nat.le_refl _)) (by omega)).mono ?_
      rintro e w6 ⟨rfl, hb6⟩
      have s6 := hb6.size
      have hz6 := hz5.trans (hb6.mono hz5.size)
      have hx6 := ((hx3.below hb4 (Nat.le_refl _)).below hb5 (Nat.le_refl _)).below hb6 (Nat.le_refl _)
      have hy6 := ((hy3.below hb4 (Nat.le_refl _)).below hb5 (Nat.le_refl _)).below hb6 (Nat.le_refl _)
      have hRl := HV.out.below hz6 (Nat.le_refl _)
      have hTl := HT.out.below hz6 (Nat.le_refl _)
      go_wp2_with fail
      refine (bytes_any _ _ _ _ _ hx6 hy6).mono ?_
      rintro e w7 ⟨rfl, rfl⟩
      rw [beq_self_eq_true]
      go_wp2_with fail
      refine (crc_any _ _ _ hRl hTl).mono ?_
      rintro e w7 ⟨rfl, rfl⟩
      go_wp2_with fail
      refine (refCrc_any _ _ _ hRl).mono ?_
      rintro e w7 ⟨rfl, rfl⟩
      go_wp2_with fail
      go_ret
      exact ⟨by first | rfl | simp, hz6⟩
end Go.Proofs.YtaelkgebnaeimaaDoor
