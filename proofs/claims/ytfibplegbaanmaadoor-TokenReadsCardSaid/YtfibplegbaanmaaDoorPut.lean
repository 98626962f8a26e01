/- num.Put, by its contract. -/
import Derived.Test.YtfibplegbaanmaaDoorVar
namespace Go.Proofs.YtfibplegbaanmaaDoor
open Go.RowKit

theorem put_bad (n wd : Int) (w : World) (h : wd < 1 ∨ 6 < wd ∨ n < 0) :
    Calls Tryd.prog 16 #[.int .i64 n, .int .i64 wd] w fun e w' => e = .returned (.tuple #[.slice none 0 0, .int .i64 1]) ∧ w' = w := by
  rcases Int.lt_or_le wd 1 with g1 | g1
  · go_enter Tryd.func16, Tryd.ntmps16
    go_wp2
    go_ret2
    exact ⟨rfl, rfl⟩
  rcases Int.lt_or_le 6 wd with g2 | g2
  · go_enter Tryd.func16, Tryd.ntmps16
    go_wp2
    go_ret2
    exact ⟨rfl, rfl⟩
  have g3 : n < 0 := by omega
  go_enter Tryd.func16, Tryd.ntmps16
  go_wp2
  go_ret2
  exact ⟨rfl, rfl⟩

theorem put_much (n wd : Nat) (w : World) (h1 : 1 ≤ wd) (h2 : wd ≤ 6) (h3 : ¬ n < 256 ^ wd) :
    Calls Tryd.prog 16 #[.int .i64 n, .int .i64 wd] w fun e w' => e = .returned (.tuple #[.slice none 0 0, .int .i64 1]) ∧ w' = w := by
  have g1 : ¬ (wd : Int) < 1 := by omega
  have g2 : ¬ (6 : Int) < wd := by omega
  have g3 : ¬ (n : Int) < 0 := by omega
  have g4 := put_out n wd h2 h3
  go_enter Tryd.func16, Tryd.ntmps16
  go_wp2
  go_ret2
  exact ⟨rfl, rfl⟩

set_option maxHeartbeats 400000 in
theorem put_ok (n wd : Nat) (w : World) (h1 : 1 ≤ wd) (h2 : wd ≤ 6) (h3 : n < 256 ^ wd) :
    Calls Tryd.prog 16 #[.int .i64 n, .int .i64 wd] w fun e w' => ∃ v, e = .returned (.tuple #[v, .int .i64 0]) ∧ Own 5 w' w.heap.size v (putL n wd) ∧ Below w.heap.size w w' := by
  have g1 : ¬ (wd : Int) < 1 := by omega
  have g2 : ¬ (6 : Int) < wd := by omega
  have g3 : ¬ (n : Int) < 0 := by omega
  have g4 : (n : Int) < wrap64 (2 ^ (8 * wd)) := put_lim n wd h2 h3
  go_enter Tryd.func16, Tryd.ntmps16
  go_wp2_with (at_make; refine hold ?_)
  intro _
  refine bt.makeN rfl _ _ rfl wd _ _ rfl rfl rfl rfl (by omega) ?_
  intro w1 hown1 hg1
  have hb1 : Below w.heap.size w w1 := (Below.refl _ _).grown hg1 (Nat.le_refl _) (by simp)
  go_wp2_with fail
  clear g4
  go_loopw [29] (fun i wr => ∃ k : Nat, k ≤ wd ∧ i = .int .i64 k ∧ Own 5 wr w.heap.size (.slice (some ⟨w.heap.size, 0, none⟩) wd wd) (putK n wd k) ∧ Below w.heap.size w wr)
    (fun i _ => wd - (intOf i).toNat)
  case atStart => exact ⟨0, Nat.zero_le _, rfl, by rw [putK_zero]; exact hown1, hb1⟩
  case round =>
    obtain ⟨k, hk, rfl, hown, hb⟩ := hrel
    by_cases hlt : k < wd
    · have hlt' : (k : Int) < (wd : Int) := by omega
      have hcell := hown.cell.2.1 k (by rw [putK_length]; exact hlt)
      have hfr := hown.cell.2.2 k
      have H := Lib.hid hcell; clear hcell
      obtain ⟨x, hx⟩ : ∃ x, wr.cell? ⟨w.heap.size, k, none⟩ = some x := ⟨_, H.out⟩
      go_wp2_with fail
      go_roundw
      case rel =>
        have hset := hown.set k (pb n (wd - 1 - k)) _ (put_byte n (wd - 1 - k))
        rw [putK_step] at hset
        exact ⟨k + 1, by omega, by go_num, hset, hb.setCell (by simp) _⟩
      case measure => simp [intOf]; omega
    · have hlt' : ¬ (k : Int) < (wd : Int) := by omega
      obtain rfl : k = wd := by omega
      go_wp2_with fail
      go_ret2
      exact ⟨_, rfl, by rw [← putK_all]; exact hown, hb⟩
end Go.Proofs.YtfibplegbaanmaaDoor
