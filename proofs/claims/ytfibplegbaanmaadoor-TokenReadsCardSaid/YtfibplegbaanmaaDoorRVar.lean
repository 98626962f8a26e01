/- num.ReadVar by its contract (of Read, alone). -/
import Derived.Test.YtfibplegbaanmaaDoorVar
namespace Go.Proofs.YtfibplegbaanmaaDoor
open Go.RowKit

theorem rvar_range (a : Option Addr) (n cap : Nat) (at_ : Int) (w : World) (h : at_ < 0 ∨ (n : Int) < at_) :
    Calls Tryd.prog 34 #[.slice a n cap, .int .i64 at_] w fun e w' => e = .returned (.tuple #[.int .i64 0, .int .i64 0, .int .i64 1]) ∧ w' = w := by
  rcases Int.lt_or_le at_ 0 with g3 | g3
  · go_enter Tryd.func34, Tryd.ntmps34
    go_wp2
    go_ret3
    exact ⟨rfl, rfl⟩
  have g4 : (n : Int) < at_ := by omega
  go_enter Tryd.func34, Tryd.ntmps34
  go_wp2
  go_ret3
  exact ⟨rfl, rfl⟩

set_option maxHeartbeats 800000 in
theorem rvar_any (x : Value) (l : List UInt8) (at_ : Nat) (w : World) (hx : Rd w x l) (h1 : at_ ≤ l.length) (h2 : l.length ≤ 140737488355328) :
    Calls Tryd.prog 34 #[x, .int .i64 at_] w fun e w' => e = rvE (rv 8 (l.drop at_) at_ 0 0) ∧ w' = w := by
  have hlen := hx.lens
  obtain ⟨a, cap, rfl, hc1, hc2, hc3, hc4⟩ := hx
  have g3 : ¬ (at_ : Int) < 0 := by omega
  have g4 : ¬ (l.length : Int) < (at_ : Int) := by omega
  have H4 := Lib.hid hc4; clear hc4 hc3
  go_enter Tryd.func34, Tryd.ntmps34
  go_wp2_with fail
  go_loop [7, 18] (fun n i => ∃ k acc : Nat, k ≤ 8 ∧ at_ + k ≤ l.length ∧ i = .int .i64 k ∧ n = .int .i64 acc ∧ acc < 128 ^ k ∧ rv 8 (l.drop at_) at_ 0 0 = rv (8 - k) (l.drop (at_ + k)) (at_ + k) k acc)
    (fun _ i => 8 - (intOf i).toNat)
  case atStart => exact ⟨0, 0, by omega, h1, rfl, rfl, by simp, rfl⟩
  case round =>
    obtain ⟨k, acc, hk, hak, rfl, rfl, hacc, hr⟩ := hrel
    have HR := Lib.hid hr; clear hr
    by_cases h8 : k = 8
    · subst h8
      go_wp2_with fail
      go_ret3
      exact ⟨by rw [HR.out]; rfl, rfl⟩
    · have h8' : (k : Int) < 8 := by omega
      by_cases he : at_ + k = l.length
      · have he' : ((at_ : Int) + (k : Int) == (l.length : Int)) = true := by rw [beq_iff_eq]; omega
        have HE := Lib.hid he; clear he
        go_wp2_with fail
        go_ret3
        refine ⟨?_, rfl⟩
        rw [HR.out, show 8 - k = (7 - k) + 1 by omega, rv_end _ _ _ _ _ _ HE.out]
        rfl
      · have he' : ((at_ : Int) + (k : Int) == (l.length : Int)) = false := by rw [beq_eq_false_iff_ne]; omega
        have hq : at_ + k < l.length := by omega
        have hq' : (at_ : Int) + (k : Int) < (l.length : Int) := by omega
        obtain ⟨b, off, rfl, hcell⟩ := H4.out (by intro e; subst e; simp at hq)
        have hc := hcell (at_ + k) hq
        clear hcell he
        obtain ⟨c, hce⟩ : ∃ c, c = l[at_ + k] := ⟨_, rfl⟩
        rw [← hce] at hc
        unfold bv at hc
        have HCE := Lib.hid hce; clear hce
        have hc255 := c.toNat_lt
        by_cases hbig : 127 < c.toNat
        · have hbig' : (127 : Int) < (c.toNat : Int) := by omega
          have hr1 := HR.out
          rw [show 8 - k = (7 - k) + 1 by omega, rv_more _ _ _ _ _ _ hq (by rw [← HCE.out]; exact hbig), ← HCE.out] at hr1
          have HR1 := Lib.hid hr1; clear hr1
          go_wp2_with fail
          go_round
          case rel => exact ⟨k + 1, acc + c.toNat % 128 * 128 ^ k, by omega, by omega, by go_num, by rw [rv_or acc k c (by omega) hacc], acc_lt _ _ _ (by omega) hacc, by rw [HR1.out, show 8 - (k + 1) = 7 - k by omega]; rfl⟩
          case measure => simp [intOf]; omega
        · have hbig' : ¬ (127 : Int) < (c.toNat : Int) := by omega
          by_cases hz : c.toNat = 0 ∧ 0 < k
          · obtain ⟨hz1, hz2⟩ := hz
            have hr1 := HR.out
            rw [show 8 - k = (7 - k) + 1 by omega, rv_last0 _ _ _ _ _ _ hq (by rw [← HCE.out]; exact hz1) hz2] at hr1
            have HR1 := Lib.hid hr1; clear hr1
            have t1 : ((c.toNat : Int) == 0) = true := by rw [beq_iff_eq]; omega
            have t2 : (0 : Int) < (k : Int) := by omega
            clear hz1
            go_wp2_with fail
            go_ret3
            exact ⟨by rw [HR1.out]; rfl, rfl⟩
          · have hr1 := HR.out
            rw [show 8 - k = (7 - k) + 1 by omega, rv_last _ _ _ _ _ _ hq (by rw [← HCE.out]; exact hbig) (by rw [← HCE.out]; exact hz), ← HCE.out] at hr1
            have HR1 := Lib.hid hr1; clear hr1
            by_cases t0 : c.toNat = 0
            · have t1 : ((c.toNat : Int) == 0) = true := by rw [beq_iff_eq]; omega
              have t2 : ¬ (0 : Int) < (k : Int) := by omega
              clear hz t0
              go_wp2_with fail
              go_ret3
              refine ⟨?_, rfl⟩
              rw [HR1.out]
              exact rv_fin acc k at_ c (by omega) hacc
            · have t1 : ((c.toNat : Int) == 0) = false := by rw [beq_eq_false_iff_ne]; omega
              clear hz
              go_wp2_with fail
              go_ret3
              refine ⟨?_, rfl⟩
              rw [HR1.out]
              exact rv_fin acc k at_ c (by omega) hacc

theorem rvar_zero (x : Value) (l : List UInt8) (w : World) (hx : Rd w x l) (h2 : l.length ≤ 140737488355328) :
    Calls Tryd.prog 34 #[x, .int .i64 0] w fun e w' => e = rvE (rv 8 l 0 0 0) ∧ w' = w :=
  rvar_any x l 0 w hx (Nat.zero_le _) h2
end Go.Proofs.YtfibplegbaanmaaDoor
