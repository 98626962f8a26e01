/- num.Get, by its contract. -/
import Derived.Test.YtainkmbjllklaaaDoorFBt
namespace Go.Proofs.YtainkmbjllklaaaDoor
open Go.RowKit

set_option maxHeartbeats 800000 in
theorem get_any (x : Value) (l : List UInt8) (at_ wd : Nat) (w : World) (hx : Rd w x l) (h1 : 1 ≤ wd) (h2 : wd ≤ 6) (h3 : at_ + wd ≤ l.length) :
    Calls Tryd.prog 25 #[x, .int .i64 at_, .int .i64 wd] w fun e w' => e = .returned (.tuple #[.int .i64 ((numL (win l at_ wd) : Nat) : Int), .int .i64 0]) ∧ w' = w := by
  have hlen := hx.lens
  obtain ⟨a, cap, rfl, hc1, hc2, hc3, hc4⟩ := hx
  obtain ⟨b, off, rfl, hcell⟩ := hc4 (by intro e; subst e; simp at h3; omega)
  unfold maxLen at hc2
  have g1 : ¬ (wd : Int) < 1 := by omega
  have g2 : ¬ (6 : Int) < wd := by omega
  have g3 : ¬ (at_ : Int) < 0 := by omega
  have g4 : ¬ (l.length : Int) < (at_ : Int) := by omega
  have g5 : ¬ (l.length : Int) - (at_ : Int) < (wd : Int) := by omega
  have HC := Lib.hid hcell; clear hcell
  go_enter Tryd.func25, Tryd.ntmps25
  go_wp2_with fail
  go_loop [8, 40] (fun n i => ∃ k : Nat, k ≤ wd ∧ i = .int .i64 k ∧ n = .int .i64 ((numL (win l at_ k) : Nat) : Int)) (fun _ i => wd - (intOf i).toNat)
  case atStart => exact ⟨0, Nat.zero_le _, rfl, rfl⟩
  case round =>
    obtain ⟨k, hk, rfl, rfl⟩ := hrel
    have hb := numL_lt k (win l at_ k) (win_length l at_ k (by omega))
    have hb2 : 256 ^ k ≤ 281474976710656 := pow_le_48 k (by omega)
    by_cases hlt : k < wd
    · have hb3 : 256 ^ k ≤ 1099511627776 := by have := Nat.pow_le_pow_right (n := 256) (by omega) (show k ≤ 5 by omega); simpa using this
      have hn := numL_win l at_ k (by omega)
      obtain ⟨y, hy⟩ : ∃ y, y = numL (win l at_ k) := ⟨_, rfl⟩
      rw [← hy] at hb hn ⊢
      have hlt' : (k : Int) < (wd : Int) := by omega
      have hc := HC.out (at_ + k) (by omega)
      rw [← Nat.add_assoc] at hc
      obtain ⟨c, hce⟩ : ∃ c, c = l[at_ + k] := ⟨_, rfl⟩
      rw [← hce] at hc hn
      unfold bv at hc
      have hc255 := c.toNat_lt
      have HY := Lib.hid hy
      have HN := Lib.hid hn
      have hyb : y < 1099511627776 := by omega
      clear hy hn hce hb hb2 hb3
      go_wp2_with fail
      go_round
      case rel => exact ⟨k + 1, by omega, by go_num, by rw [or_byte y c (by omega), HN.out]⟩
      case measure => simp [intOf]; omega
    · have hlt' : ¬ (k : Int) < (wd : Int) := by omega
      obtain rfl : k = wd := by omega
      go_wp2_with fail
      go_ret2
      exact ⟨rfl, rfl⟩

theorem get_range (a : Option Addr) (n cap : Nat) (at_ wd : Int) (w : World) (h : wd < 1 ∨ 6 < wd ∨ at_ < 0 ∨ (n : Int) < at_) :
    Calls Tryd.prog 25 #[.slice a n cap, .int .i64 at_, .int .i64 wd] w fun e w' => e = .returned (.tuple #[.int .i64 0, .int .i64 1]) ∧ w' = w := by
  rcases Int.lt_or_le wd 1 with g1 | g1
  · go_enter Tryd.func25, Tryd.ntmps25
    go_wp2
    go_ret2
    exact ⟨rfl, rfl⟩
  rcases Int.lt_or_le 6 wd with g2 | g2
  · go_enter Tryd.func25, Tryd.ntmps25
    go_wp2
    go_ret2
    exact ⟨rfl, rfl⟩
  rcases Int.lt_or_le at_ 0 with g3 | g3
  · go_enter Tryd.func25, Tryd.ntmps25
    go_wp2
    go_ret2
    exact ⟨rfl, rfl⟩
  have g4 : (n : Int) < at_ := by omega
  go_enter Tryd.func25, Tryd.ntmps25
  go_wp2
  go_ret2
  exact ⟨rfl, rfl⟩

theorem get_short (a : Option Addr) (n cap : Nat) (at_ wd : Int) (w : World) (_hn : n ≤ 9223372036854775807) (g1 : 1 ≤ wd) (g2 : wd ≤ 6) (g3 : 0 ≤ at_) (g4 : at_ ≤ (n : Int)) (g5 : (n : Int) - at_ < wd) :
    Calls Tryd.prog 25 #[.slice a n cap, .int .i64 at_, .int .i64 wd] w fun e w' => e = .returned (.tuple #[.int .i64 0, .int .i64 2]) ∧ w' = w := by
  go_enter Tryd.func25, Tryd.ntmps25
  go_wp2
  go_ret2
  exact ⟨rfl, rfl⟩
end Go.Proofs.YtainkmbjllklaaaDoor
