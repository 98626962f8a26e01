/- hblref1.Put, by its contract. -/
import Derived.Test.YtfibplegbaanmaaDoorPut
import Derived.Deep.RegionHeld3
namespace Go.Proofs.YtfibplegbaanmaaDoor
open Go.RowKit

theorem putL_take (n wd k : Nat) (h : k < wd) : (putL n wd).take (k + 1) = (putL n wd).take k ++ [pb n (wd - 1 - k)] := by
  rw [List.take_succ_eq_append_getElem (by rw [putL_length]; exact h)]
  simp [putL]
set_option maxHeartbeats 1000000 in
theorem rput_ok (n wd : Nat) (w : World) (h1 : 1 ≤ wd) (h2 : wd ≤ 6) (h3 : n < 256 ^ wd) :
    Calls Tryd.prog 20 #[.int .i64 n, .int .i64 wd] w fun e w' => ∃ v, e = .returned (.tuple #[v, .int .i64 0]) ∧ Own 5 w' w.heap.size v (putL n wd) ∧ Below w.heap.size w w' := by
  have g1 : ¬ (wd : Int) < 1 := by omega
  have g2 : ¬ (6 : Int) < wd := by omega
  have g3 : ¬ (n : Int) < 0 := by omega
  have g4 : ¬ 0 < (n : Int) / 2 ^ (8 * wd) := by
    have e : (n : Int) / 2 ^ (8 * wd) = ((n / 256 ^ wd : Nat) : Int) := by rw [Int.natCast_ediv, pow_8]
    rw [e, Nat.div_eq_of_lt h3]
    decide
  go_enter Tryd.func20, Tryd.ntmps20
  go_wp2_with fail
  clear g4
  go_loopw [6, 7] (fun v i wr => ∃ k : Nat, k ≤ wd ∧ i = .int .i64 ((wd : Int) - 1 - (k : Int)) ∧ Hid (Own 5 wr w.heap.size v ((putL n wd).take k) ∧ Below w.heap.size w wr))
    (fun _ i _ => (intOf i + 1).toNat)
  case atStart => exact ⟨0, Nat.zero_le _, by simp, Lib.hid ⟨by simpa using Own.nil _ _ _, Below.refl _ _⟩⟩
  case round =>
    obtain ⟨k, hk, rfl, H⟩ := hrel
    by_cases hlt : k < wd
    · have hlt' : (0 : Int) ≤ (wd : Int) - 1 - (k : Int) := by omega
      obtain ⟨j, hj⟩ : ∃ j : Nat, j = wd - 1 - k := ⟨_, rfl⟩
      have ej : (wd : Int) - 1 - (k : Int) = (j : Int) := by omega
      rw [ej] at hlt' ⊢
      have hj5 : j ≤ 5 := by omega
      have et := putL_take n wd k hlt
      rw [← hj] at et
      have HJ := Lib.hid (And.intro hj et)
      clear et ej hj
      go_wp2_with (at_builtin; refine hold ?_)
      intro _
      refine bt.append1 rfl _ _ rfl w.heap.size _ ((putL n wd).take k) (pb n j) _ ?_ H.out.1 rfl rfl (by simp; omega) H.out.2.size ?_
      · have := put_byte n j
        unfold bv at this
        simpa using this
      intro v' w3 h3 hg3
      have hb3 := H.out.2.grown hg3 H.out.2.size (fun b e => (H.out.1.base b e).1)
      rw [← HJ.out.2] at h3
      have H3 := Lib.hid (And.intro h3 hb3)
      clear h3 hg3 hb3
      go_wp2_with fail
      go_roundw
      case rel => exact ⟨k + 1, by omega, by have := HJ.out.1; go_num, H3⟩
      case measure => simp [intOf]
    · have hlt' : ¬ (0 : Int) ≤ (wd : Int) - 1 - (k : Int) := by omega
      obtain rfl : k = wd := by omega
      rw [List.take_of_length_le (by rw [putL_length]; exact Nat.le_refl _)] at H
      go_wp2_with fail
      go_ret2
      exact ⟨_, rfl, H.out.1, H.out.2⟩
end Go.Proofs.YtfibplegbaanmaaDoor
