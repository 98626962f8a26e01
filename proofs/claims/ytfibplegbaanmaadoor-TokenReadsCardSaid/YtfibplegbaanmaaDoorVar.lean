/- num.Var, by its contract. -/
import Derived.Test.YtfibplegbaanmaaDoorKit
import Derived.Test.YtfibplegbaanmaaDoorRows
namespace Go.Proofs.YtfibplegbaanmaaDoor
open Go.RowKit
theorem bt : BT Tryd.prog 37 5 := ⟨Tryd.underlying37, Tryd.underlying5, by kernel_rfl⟩

theorem var_bad (n : Int) (w : World) (h : n < 0 ∨ 72057594037927935 < n) :
    Calls Tryd.prog 31 #[.int .i64 n] w fun e w' => e = .returned (.tuple #[.slice none 0 0, .int .i64 1]) ∧ w' = w := by
  rcases h with h | h
  · go_enter Tryd.func31, Tryd.ntmps31
    go_wp2
    go_ret2
    exact ⟨rfl, rfl⟩
  · have h' : ¬ n < 0 := by omega
    go_enter Tryd.func31, Tryd.ntmps31
    go_wp2
    go_ret2
    exact ⟨rfl, rfl⟩

set_option maxHeartbeats 400000 in
theorem var_ok (n : Nat) (w : World) (h1 : n ≤ 72057594037927935) :
    Calls Tryd.prog 31 #[.int .i64 n] w fun e w' => ∃ v, e = .returned (.tuple #[v, .int .i64 0]) ∧ Own 5 w' w.heap.size v (varL n) ∧ Below w.heap.size w w' := by
  have h0 : ¬ (n : Int) < 0 := by omega
  go_enter Tryd.func31, Tryd.ntmps31
  go_wp2_with (at_make; refine hold ?_)
  intro _
  refine bt.make0 rfl _ _ rfl 8 _ rfl rfl rfl (by omega) ?_
  intro w1 hown1 hg1
  have hb1 : Below w.heap.size w w1 := (Below.refl _ _).grown hg1 (Nat.le_refl _) (by simp)
  go_wp2_with fail
  go_loopw [4, 0] (fun v i wr => ∃ (m : Nat) (l : List UInt8), i = .int .i64 m ∧ m ≤ 72057594037927935 ∧ varL n = l ++ varL m ∧ Own 5 wr w.heap.size v l ∧ Below w.heap.size w wr)
    (fun _ i _ => (intOf i).toNat)
  case atStart => exact ⟨n, [], rfl, h1, rfl, hown1, hb1⟩
  case round =>
    obtain ⟨m, l, rfl, hm, hl, hown, hb⟩ := hrel
    have hlen : (varL n).length ≤ 8 := varL_len 7 n (by omega)
    rw [hl, List.length_append] at hlen
    have hs := hb.size
    have H := Lib.hid hl
    clear hl
    by_cases hlt : 127 < m
    · have hlt' : (127 : Int) < (m : Int) := by omega
      go_wp2_with (at_builtin; refine hold ?_)
      intro _
      refine bt.append1 rfl _ _ rfl w.heap.size _ l (UInt8.ofNat (m % 128 + 128)) _ ?_ hown rfl rfl (by omega) hs ?_
      · exact low7 m
      intro v' w2 hown2 hg2
      have hb2 := hown.grows hg2 (Nat.le_refl _) hs
      go_wp2_with fail
      go_roundw
      case rel => exact ⟨m / 128, _, by go_num, by omega, by rw [H.out, varL_big m (by omega), List.append_assoc]; rfl, hown2, hb.trans hb2⟩
      case measure => simp [intOf]; omega
    · have hlt' : ¬ (127 : Int) < (m : Int) := by omega
      go_wp2_with (at_builtin; refine hold ?_)
      intro _
      refine bt.append1 rfl _ _ rfl w.heap.size _ l (UInt8.ofNat m) _ ?_ hown rfl rfl (by omega) hs ?_
      · exact byte_toNat m (by omega)
      intro v' w2 hown2 hg2
      have hb2 := hown.grows hg2 (Nat.le_refl _) hs
      go_wp2_with fail
      go_ret2
      refine ⟨v', rfl, ?_, hb.trans hb2⟩
      rw [H.out, varL_small m (by omega)]
      exact hown2
end Go.Proofs.YtfibplegbaanmaaDoor
