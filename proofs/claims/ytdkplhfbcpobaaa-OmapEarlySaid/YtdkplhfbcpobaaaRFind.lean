/- hbllaw2's rows: find. -/
import Derived.Test.YtdkplhfbcpobaaaRowsMath
import Derived.Test.YtdkplhfbcpobaaaRows
import Derived.Deep.QuietTactic
import Derived.BigQuiet
namespace Go.Proofs.Ytdkplhfbcpobaaa
open Go.RowKit

/-- What find tells: the place, and whether it is there. -/
def FindP (rl : List (Int × List UInt8)) (k : Int) (W : World) (e : Ending) (W' : World) : Prop :=
  ∃ (p : Nat) (f : Bool) (n : Nat), e = .returned (.tuple #[.int .i64 (p : Int), .bool f]) ∧ p ≤ rl.length ∧ (∀ j (h : j < rl.length), j < p → rl[j].1 < k) ∧ (∀ h : p < rl.length, k ≤ rl[p].1) ∧ (f = true ↔ ∃ h : p < rl.length, rl[p].1 = k) ∧ W' = W.drewN n
set_option maxRecDepth 100000 in
set_option maxHeartbeats 4000000 in
theorem find_any {W : World} {bx base : Nat} {vo : Value} {rl : List (Int × List UInt8)} (h : RowsP W bx base vo rl) (k : Int) (hlen : rl.length ≤ 1000000) :
    Calls Try.prog 16 #[.pointer (some ⟨bx, 0, none⟩), .int .i64 k] W (FindP rl k W) := by
  have cx : W.cell? ⟨bx, 0, none⟩ = some vo := by simp [World.cell?, h.box]
  have hform : (∃ g cap, vo = Value.slice (some ⟨g, 0, none⟩) rl.length cap) ∨ (vo = Value.slice none 0 0 ∧ rl = []) := by
    rcases h.row.2 with ⟨h1, h0⟩ | ⟨g, cap, _, h1, _⟩
    · exact Or.inr ⟨h1, List.eq_nil_of_length_eq_zero h0⟩
    · exact Or.inl ⟨g, cap, h1⟩
  rcases hform with ⟨g, cap, rfl⟩ | ⟨rfl, rfl⟩
  · have HC := Lib.hid h.cells.2.2
    clear h
    go_enter Try.func16, Try.ntmps16
    go_wp2_with fail
    go_loop [6] (fun i => ∃ p : Nat, p ≤ rl.length ∧ i = .int .i64 (p : Int) ∧ Hid (∀ j (h : j < rl.length), j < p → rl[j].1 < k)) (fun i => rl.length - (intOf i).toNat)
    case atStart => exact ⟨0, Nat.zero_le _, rfl, Lib.hid (fun j _ h => absurd h (Nat.not_lt_zero _))⟩
    case round =>
      obtain ⟨p, hp, rfl, HP⟩ := hrel
      by_cases hlt : p < rl.length
      · have g1 : (p : Int) < (rl.length : Int) := by omega
        have g2 : (0 : Int) ≤ (p : Int) := by omega
        obtain ⟨c0, _⟩ := HC.out p hlt
        obtain ⟨x, hx⟩ : ∃ x, x = rl[p].1 := ⟨_, rfl⟩
        rw [← hx] at c0
        have HX := Lib.hid hx
        clear hx
        by_cases hxk : x < k
        · go_wp2_with fail
          go_round
          case rel => exact ⟨p + 1, by omega, by go_num, Lib.hid (fun j hj h' => by
            rcases Nat.lt_or_ge j p with h2 | h2
            · exact HP.out j hj h2
            · obtain rfl : j = p := by omega
              rw [← HX.out]; exact hxk)⟩
          case measure => simp [intOf]; omega
        · by_cases hek : x = k
          · subst hek
            have t1 : (x == x) = true := by simp
            go_wp2_with fail
            go_quiet (fail)
            go_wp2_with fail
            go_ret2
            exact ⟨p, true, nq, rfl, hp, HP.out, fun _ => by rw [← HX.out]; omega, by simp; exact ⟨hlt, HX.out.symm⟩, rfl⟩
          · have t1 : (x == k) = false := by simpa using hek
            go_wp2_with fail
            go_quiet (fail)
            go_wp2_with fail
            go_ret2
            exact ⟨p, false, nq, rfl, hp, HP.out, fun _ => by rw [← HX.out]; omega, by simp; intro _ h; exact hek (by rw [HX.out]; exact h), rfl⟩
      · obtain rfl : p = rl.length := by omega
        have g1 : ¬ (rl.length : Int) < (rl.length : Int) := by omega
        have g2 : decide ((rl.length : Int) < (rl.length : Int)) = false := by simp
        go_wp2_with fail
        go_quiet (fail)
        go_wp2_with fail
        go_ret2
        exact ⟨rl.length, false, nq, rfl, Nat.le_refl _, HP.out, fun h => absurd h (Nat.lt_irrefl _), by simp, rfl⟩
  · clear h
    go_enter Try.func16, Try.ntmps16
    go_wp2_with fail
    go_loop [6] (fun i => i = .int .i64 0) (fun _ => 0)
    case atStart => rfl
    case round =>
      subst hrel
      go_wp2_with fail
      go_quiet (fail)
      go_wp2_with fail
      go_ret2
      exact ⟨0, false, nq, rfl, Nat.le_refl _, fun j h => absurd h (Nat.not_lt_zero _), fun h => absurd h (Nat.not_lt_zero _), by simp, rfl⟩
end Go.Proofs.Ytdkplhfbcpobaaa
