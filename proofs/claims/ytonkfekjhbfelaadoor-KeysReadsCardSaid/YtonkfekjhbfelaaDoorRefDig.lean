/- hblref1.Digits, by its contract. -/
import Derived.Test.YtonkfekjhbfelaaDoorDig
namespace Go.Proofs.YtonkfekjhbfelaaDoor
open Go.RowKit

set_option maxHeartbeats 800000 in
theorem rdig_any (n wd : Nat) (w : World) (hn : n ≤ 9223372036854775807) (h1 : 1 ≤ wd) (h2 : wd ≤ 18) :
    Calls Tryd.prog 32 #[.int .i64 n, .int .i64 wd] w fun e w' => e = digE n wd ∧ Below w.heap.size w w' := by
  have g1 : ¬ (wd : Int) < 1 := by omega
  have g2 : ¬ (18 : Int) < wd := by omega
  have g3 : ¬ (n : Int) < 0 := by omega
  go_enter Tryd.func32, Tryd.ntmps32
  go_wp2_with (at_make; refine hold ?_)
  intro _
  refine bt.makeN rfl _ _ rfl wd _ _ rfl rfl rfl rfl (by omega) ?_
  intro w1 hown1 hg1
  have hb1 : Below w.heap.size w w1 := (Below.refl _ _).grown hg1 (Nat.le_refl _) (by simp)
  go_wp2_with fail
  go_loopw [0, 7] (fun x i wr => ∃ m : Nat, m ≤ wd ∧ i = .int .i64 ((m : Int) - 1) ∧ x = .int .i64 ((n / 10 ^ (wd - m) : Nat) : Int) ∧
      Own 5 wr w.heap.size (.slice (some ⟨w.heap.size, 0, none⟩) wd wd) (digK n wd m) ∧ Below w.heap.size w wr)
    (fun _ i _ => (intOf i + 1).toNat)
  case atStart => exact ⟨wd, Nat.le_refl _, rfl, by simp, by rw [digK_start]; exact hown1, hb1⟩
  case round =>
    obtain ⟨m, hm, rfl, rfl, hown, hb⟩ := hrel
    obtain ⟨y, hy⟩ : ∃ y, y = n / 10 ^ (wd - m) := ⟨_, rfl⟩
    rw [← hy]
    have hyn : y ≤ n := by rw [hy]; exact Nat.div_le_self _ _
    have HY := Lib.hid hy; clear hy
    by_cases h0 : m = 0
    · subst h0
      have HYo := HY.out
      rw [Nat.sub_zero] at HYo
      have hconv := bt.toString (w := wr) (S := 9) Tryd.underlying9 hown.rd
      by_cases hy0 : y = 0
      · have hlt : n < 10 ^ wd := by
          rw [hy0] at HYo
          exact (Nat.div_eq_zero_iff.1 HYo.symm).resolve_left (by have := Nat.pow_pos (n := wd) (show 0 < 10 by omega); omega)
        have hy' : ¬ (0 : Int) < (y : Int) := by omega
        have hfin : digE n wd = .returned (.tuple #[str (digL n wd), .bool true]) := by unfold digE; rw [if_pos hlt, decide_eq_true hlt]
        have H := Lib.hid hfin
        clear hfin hlt HYo HY
        go_wp2_with fail
        go_ret2
        exact ⟨by rw [H.out, ← digK_all]; rfl, hb⟩
      · have hlt : ¬ n < 10 ^ wd := fun h => hy0 (HYo.trans (Nat.div_eq_of_lt h))
        have hy' : (0 : Int) < (y : Int) := by omega
        have hfin : digE n wd = .returned (.tuple #[str [], .bool false]) := by unfold digE; rw [if_neg hlt, decide_eq_false hlt]
        have H := Lib.hid hfin
        clear hfin hlt HYo HY
        go_wp2_with fail
        go_ret2
        exact ⟨by rw [H.out]; rfl, hb⟩
    · obtain ⟨j, rfl⟩ : ∃ j, m = j + 1 := ⟨m - 1, by omega⟩
      have ej : (((j + 1 : Nat) : Int) - 1) = (j : Int) := by omega
      rw [ej]
      have hfr := hown.cell.2.2 j
      obtain ⟨x, hx⟩ : ∃ x, wr.cell? ⟨w.heap.size, j, none⟩ = some x := ⟨_, hown.cell.2.1 j (by rw [digK_length]; omega)⟩
      go_wp2_with fail
      go_roundw
      case rel => 
        have hset := hown.set j (db n (wd - 1 - j)) _ (dig_byte n (wd - 1 - j) y (by rw [HY.out]; congr 2; omega))
        rw [digK_step] at hset
        exact ⟨j, by omega, rfl, by rw [div10, HY.out, div_step, show wd - (j + 1) + 1 = wd - j by omega], hset, hb.setCell (by simp) _⟩
      case measure => simp [intOf]

theorem rdig_bad (n wd : Int) (w : World) (h : n < 0 ∨ wd < 1 ∨ 18 < wd) :
    Calls Tryd.prog 32 #[.int .i64 n, .int .i64 wd] w fun e w' => e = .returned (.tuple #[str [], .bool false]) ∧ w' = w := by
  rcases Int.lt_or_le n 0 with g1 | g1
  · go_enter Tryd.func32, Tryd.ntmps32
    go_wp2
    go_ret2
    exact ⟨rfl, rfl⟩
  rcases Int.lt_or_le wd 1 with g2 | g2
  · go_enter Tryd.func32, Tryd.ntmps32
    go_wp2
    go_ret2
    exact ⟨rfl, rfl⟩
  have g3 : 18 < wd := by omega
  go_enter Tryd.func32, Tryd.ntmps32
  go_wp2
  go_ret2
  exact ⟨rfl, rfl⟩
end Go.Proofs.YtonkfekjhbfelaaDoor
