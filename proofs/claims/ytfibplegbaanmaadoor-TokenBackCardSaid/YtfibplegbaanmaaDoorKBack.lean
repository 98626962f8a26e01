/- TokenBack: the walk. -/
import Derived.Test.YtfibplegbaanmaaDoorTokBack
import Derived.Test.YtfibplegbaanmaaDoorApart
namespace Go.Proofs.YtfibplegbaanmaaDoor
open Go.RowKit

set_option maxRecDepth 100000 in
set_option maxHeartbeats 6400000 in
theorem kback_no (u k : List UInt8) (f t : Int) (a d c : Int) (w : World) (hu : u.length ≤ 9223372036854775807) (hk : k.length ≤ 9223372036854775807) (hf : -9223372036854775808 ≤ f ∧ f ≤ 9223372036854775807) (ht : -9223372036854775808 ≤ t ∧ t ≤ 9223372036854775807)
    (_ha : -9223372036854775808 ≤ a ∧ a ≤ 9223372036854775807) (_hd : -9223372036854775808 ≤ d ∧ d ≤ 9223372036854775807) (_hc : -9223372036854775808 ≤ c ∧ c ≤ 9223372036854775807) (hT : Tab w)
    (hno : 3000 < u.length ∨ 3000 < k.length ∨ a < 0 ∨ d < 0 ∨ c < 0 ∨ mayB u f t k = false) :
    Calls Tryd.prog 4 #[tok u f t k, .int .i64 a, .int .i64 d, .int .i64 c] w fun e w' => e = .returned (.bool true) ∧ Below w.heap.size w w' := by
  have HTab := Lib.hid hT
  have P1 := Lib.hid (fun W h => print_any u k f t W hu hk hf ht h)
  have M1 := Lib.hid (fun W => may_any u k f t W hu hk hf ht)
  have hA := below_alloc w (.cells #[str u, .int .i64 f, .int .i64 t, str k] 23)
  have HK1 := Lib.hid (TK.made w u k f t 23)
  have key : ((3000 : Int) < (u.length : Int)) ∨ (¬ (3000 : Int) < (u.length : Int) ∧ (3000 : Int) < (k.length : Int)) ∨ (¬ (3000 : Int) < (u.length : Int) ∧ ¬ (3000 : Int) < (k.length : Int) ∧ a < 0) ∨
      (¬ (3000 : Int) < (u.length : Int) ∧ ¬ (3000 : Int) < (k.length : Int) ∧ ¬ a < 0 ∧ d < 0) ∨ (¬ (3000 : Int) < (u.length : Int) ∧ ¬ (3000 : Int) < (k.length : Int) ∧ ¬ a < 0 ∧ ¬ d < 0 ∧ c < 0) ∨
      ((¬ (3000 : Int) < (u.length : Int) ∧ ¬ (3000 : Int) < (k.length : Int) ∧ ¬ a < 0 ∧ ¬ d < 0 ∧ ¬ c < 0) ∧ mayB u f t k = false) := by
    cases hm : mayB u f t k
    · simp only [and_true]; omega
    · rw [hm] at hno; simp only [Bool.true_eq_false, or_false, and_false] at hno ⊢; omega
  clear hno hT
  rcases key with k1 | ⟨k1, k2⟩ | ⟨k1, k2, k3⟩ | ⟨k1, k2, k3, k4⟩ | ⟨k1, k2, k3, k4, k5⟩ | ⟨⟨k1, k2, k3, k4, k5⟩, hm⟩
  case inr.inr.inr.inr.inr =>
    have hpe : printE u f t k = .returned (.tuple #[str [], .int .i64 4]) := by rw [printE, hm]; rfl
    have HPE := Lib.hid hpe
    have HM := Lib.hid hm
    clear hpe hm
    go_enter Tryd.func4, Tryd.ntmps4
    go_wp2_with fail
    refine (kfirst_any _ (HTab.out.below hA (Nat.le_refl _))).mono ?_
    rintro e w1 ⟨rfl, hb1⟩
    have K1 := HK1.out.below hb1 HK1.out.lt
    have hW1 := hA.trans (hb1.mono hA.size)
    clear hb1
    have x0 := K1.c0
    have x1 := K1.c1
    have x2 := K1.c2
    have x3 := K1.c3
    go_wp2_with fail
    refine (P1.out _ (HTab.out.below hW1 (Nat.le_refl _))).mono ?_
    rintro e w2 ⟨rfl, hb2⟩
    rw [HPE.out]
    have K2 := K1.below hb2 K1.lt
    have hW2 := hW1.trans (hb2.mono hW1.size)
    clear hb2 x0 x1 x2 x3 K1
    have x0 := K2.c0
    have x1 := K2.c1
    have x2 := K2.c2
    have x3 := K2.c3
    go_wp2_with fail
    refine (M1.out _).mono ?_
    rintro e w3 ⟨rfl, hb3⟩
    rw [HM.out]
    have hW3 := hW2.trans (hb3.mono hW2.size)
    clear hb3 x0 x1 x2 x3 K2
    go_wp2_with fail
    refine (kfirst_any _ (HTab.out.below hW3 (Nat.le_refl _))).mono ?_
    rintro e w4 ⟨rfl, hb4⟩
    go_wp2_with fail
    go_ret
    exact ⟨rfl, hW3.trans (hb4.mono hW3.size)⟩
  all_goals
    go_enter Tryd.func4, Tryd.ntmps4
    go_wp2_with fail
    refine (kfirst_any _ (HTab.out.below hA (Nat.le_refl _))).mono ?_
    rintro e w1 ⟨rfl, hb1⟩
    have K1 := HK1.out.below hb1 HK1.out.lt
    have hW1 := hA.trans (hb1.mono hA.size)
    clear hb1
    have x0 := K1.c0
    have x1 := K1.c1
    have x2 := K1.c2
    have x3 := K1.c3
    go_wp2_with fail
    refine (kfirst_any _ (HTab.out.below hW1 (Nat.le_refl _))).mono ?_
    rintro e w2 ⟨rfl, hb2⟩
    go_wp2_with fail
    go_ret
    exact ⟨rfl, hW1.trans (hb2.mono hW1.size)⟩
end Go.Proofs.YtfibplegbaanmaaDoor
