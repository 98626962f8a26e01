/- hblref1.Var, ReadVar; hblref20.num: by their contracts. -/
import Derived.Test.YtfibplegbaanmaaDoorVar
namespace Go.Proofs.YtfibplegbaanmaaDoor
open Go.RowKit

set_option maxHeartbeats 1000000 in
theorem tvar_ok (n : Nat) (w : World) (h1 : n ≤ 72057594037927935) :
    Calls Tryd.prog 32 #[.int .i64 n] w fun e w' => ∃ v, e = .returned (.tuple #[v, .int .i64 0]) ∧ Own 5 w' w.heap.size v (varL n) ∧ Below w.heap.size w w' := by
  have h0 : ¬ (n : Int) < 0 := by omega
  have h0' : ¬ (72057594037927936 : Int) ≤ (n : Int) := by omega
  go_enter Tryd.func32, Tryd.ntmps32
  go_wp2_with fail
  go_loopw [4, 0] (fun v i wr => ∃ (m : Nat) (l : List UInt8), i = .int .i64 m ∧ m ≤ 72057594037927935 ∧ varL n = l ++ varL m ∧ Own 5 wr w.heap.size v l ∧ Below w.heap.size w wr)
    (fun _ i _ => (intOf i).toNat)
  case atStart => exact ⟨n, [], rfl, h1, rfl, Own.nil _ _ _, Below.refl _ _⟩
  case round =>
    obtain ⟨m, l, rfl, hm, hl, hown, hb⟩ := hrel
    have hlen : (varL n).length ≤ 8 := varL_len 7 n (by omega)
    rw [hl, List.length_append] at hlen
    have hs := hb.size
    have H := Lib.hid hl
    clear hl
    by_cases hlt : 128 ≤ m
    · have hlt' : (128 : Int) ≤ (m : Int) := by omega
      go_wp2_with (at_builtin; refine hold ?_)
      intro _
      refine bt.append1 rfl _ _ rfl w.heap.size _ l (UInt8.ofNat (m % 128 + 128)) _ ?_ hown rfl rfl (by omega) hs ?_
      · exact low7 m
      intro v' w2 hown2 hg2
      have hb2 := hown.grows hg2 (Nat.le_refl _) hs
      go_wp2_with fail
      go_roundw
      case rel => exact ⟨m / 128, _, by go_num, by omega, by rw [H.out, varL_big m (by omega), List.append_assoc]; rfl, hown2, hb.trans hb2⟩
      case measure => simp [intOf]; omega
    · have hlt' : ¬ (128 : Int) ≤ (m : Int) := by omega
      go_wp2_with (at_builtin; refine hold ?_)
      intro _
      refine bt.append1 rfl _ _ rfl w.heap.size _ l (UInt8.ofNat m) _ ?_ hown rfl rfl (by omega) hs ?_
      · exact byte_toNat m (by omega)
      intro v' w2 hown2 hg2
      have hb2 := hown.grows hg2 (Nat.le_refl _) hs
      go_wp2_with fail
      go_ret2
      refine ⟨v', rfl, ?_, hb.trans hb2⟩
      rw [H.out, varL_small m (by omega)]
      exact hown2
theorem tnum_ok (n : Nat) (w : World) (h1 : n ≤ 72057594037927935) :
    Calls Tryd.prog 19 #[.int .i64 n] w fun e w' => ∃ v, e = .returned v ∧ Own 5 w' w.heap.size v (varL n) ∧ Below w.heap.size w w' := by
  have C := Lib.hid (tvar_ok n w h1)
  go_enter Tryd.func19, Tryd.ntmps19
  go_wp2_with fail
  refine C.out.mono ?_
  rintro e w1 ⟨v, rfl, ho, hb⟩
  have HO := Lib.hid (And.intro ho hb)
  have hrd := ho.rd
  obtain ⟨va, vc, rfl, _⟩ := hrd
  clear ho hb C
  go_wp2_with fail
  go_ret
  exact ⟨_, rfl, HO.out.1, HO.out.2⟩
theorem rv_or2 (acc k : Nat) (c : UInt8) (hk : k ≤ 7) (hacc : acc < 128 ^ k) :
    bits .or .i64 (acc : Int) (wrap64 (bits .and .i64 (c.toNat : Int) 127 * 2 ^ (7 * k))) = ((acc + c.toNat % 128 * 128 ^ k : Nat) : Int) := by
  have hc := c.toNat_lt
  have h1 : bits .and .i64 (c.toNat : Int) 127 = ((c.toNat % 128 : Nat) : Int) := i64_and127 _
  have h2 : bits .and .u8 (c.toNat : Int) 127 = ((c.toNat % 128 : Nat) : Int) := by
    rw [show (127 : Int) = ((127 : Nat) : Int) from rfl, u8_and_nat _ _ (by omega) (by omega), nat_mask7]
  have h3 := rv_or acc k c hk hacc
  rw [h2, IntWalk.wrap64_in ((c.toNat % 128 : Nat) : Int) ⟨by omega, by omega⟩] at h3
  rw [h1]
  exact h3
theorem rv_fin2 (acc k p : Nat) (c : UInt8) (hk : k ≤ 7) (hacc : acc < 128 ^ k) :
    Ending.returned (.tuple #[.int .i64 (bits .or .i64 (acc : Int) (wrap64 (bits .and .i64 (c.toNat : Int) 127 * 2 ^ (7 * k)))), .int .i64 ((p : Int) + (k : Int) + 1), .int .i64 0]) = rvE (acc + c.toNat % 128 * 128 ^ k, p + k + 1, 0) := by
  rw [rv_or2 acc k c hk hacc]
  rfl
theorem trv_range (a : Option Addr) (n cap : Nat) (at_ : Int) (w : World) (h : at_ < 0 ∨ (n : Int) < at_) :
    Calls Tryd.prog 28 #[.slice a n cap, .int .i64 at_] w fun e w' => e = .returned (.tuple #[.int .i64 0, .int .i64 0, .int .i64 1]) ∧ w' = w := by
  rcases Int.lt_or_le at_ 0 with g3 | g3
  · go_enter Tryd.func28, Tryd.ntmps28
    go_wp2
    go_ret3
    exact ⟨rfl, rfl⟩
  have g4 : (n : Int) < at_ := by omega
  go_enter Tryd.func28, Tryd.ntmps28
  go_wp2
  go_ret3
  exact ⟨rfl, rfl⟩
set_option maxRecDepth 100000 in
set_option maxHeartbeats 1600000 in
theorem trv_any (x : Value) (l : List UInt8) (at_ : Nat) (w : World) (hx : Rd w x l) (h1 : at_ ≤ l.length) (h2 : l.length ≤ 140737488355328) :
    Calls Tryd.prog 28 #[x, .int .i64 at_] w fun e w' => e = rvE (rv 8 (l.drop at_) at_ 0 0) ∧ w' = w := by
  have hlen := hx.lens
  obtain ⟨a, cap, rfl, hc1, hc2, hc3, hc4⟩ := hx
  have g3 : ¬ (at_ : Int) < 0 := by omega
  have g4 : ¬ (l.length : Int) < (at_ : Int) := by omega
  have H4 := Lib.hid hc4; clear hc4 hc3
  go_enter Tryd.func28, Tryd.ntmps28
  go_wp2_with fail
  go_loop [7, 8] (fun n i => ∃ k acc : Nat, k ≤ 8 ∧ at_ + k ≤ l.length ∧ i = .int .i64 k ∧ n = .int .i64 acc ∧ acc < 128 ^ k ∧ rv 8 (l.drop at_) at_ 0 0 = rv (8 - k) (l.drop (at_ + k)) (at_ + k) k acc)
    (fun _ i => 8 - (intOf i).toNat)
  case atStart => exact ⟨0, 0, by omega, h1, rfl, rfl, by simp, rfl⟩
  case round =>
    obtain ⟨k, acc, hk, hak, rfl, rfl, hacc, hr⟩ := hrel
    have HR := Lib.hid hr; clear hr
    by_cases h8 : k = 8
    · subst h8
      go_wp2_with fail
      go_ret3
      exact ⟨by rw [HR.out]; rfl, rfl⟩
    · have h8' : (k : Int) < 8 := by omega
      by_cases he : at_ + k = l.length
      · have he' : (l.length : Int) ≤ (at_ : Int) + (k : Int) := by omega
        have HE := Lib.hid he; clear he
        go_wp2_with fail
        go_ret3
        refine ⟨?_, rfl⟩
        rw [HR.out, show 8 - k = (7 - k) + 1 by omega, rv_end _ _ _ _ _ _ HE.out]
        rfl
      · have he' : ¬ (l.length : Int) ≤ (at_ : Int) + (k : Int) := by omega
        have hq : at_ + k < l.length := by omega
        have hq' : (at_ : Int) + (k : Int) < (l.length : Int) := by omega
        obtain ⟨b, off, rfl, hcell⟩ := H4.out (by intro e; subst e; simp at hq)
        have hc := hcell (at_ + k) hq
        clear hcell he
        obtain ⟨c, hce⟩ : ∃ c, c = l[at_ + k] := ⟨_, rfl⟩
        rw [← hce] at hc
        unfold bv at hc
        have HCE := Lib.hid hce; clear hce
        have hc255 := c.toNat_lt
        by_cases hbig : 127 < c.toNat
        · have hbig' : ¬ (c.toNat : Int) < 128 := by omega
          have hr1 := HR.out
          rw [show 8 - k = (7 - k) + 1 by omega, rv_more _ _ _ _ _ _ hq (by rw [← HCE.out]; exact hbig), ← HCE.out] at hr1
          have HR1 := Lib.hid hr1; clear hr1
          go_wp2_with fail
          go_round
          case rel => exact ⟨k + 1, acc + c.toNat % 128 * 128 ^ k, by omega, by omega, by go_num, by rw [rv_or2 acc k c (by omega) hacc], acc_lt _ _ _ (by omega) hacc, by rw [HR1.out, show 8 - (k + 1) = 7 - k by omega]; rfl⟩
          case measure => simp [intOf]; omega
        · have hbig' : (c.toNat : Int) < 128 := by omega
          by_cases hz : c.toNat = 0 ∧ 0 < k
          · obtain ⟨hz1, hz2⟩ := hz
            have hr1 := HR.out
            rw [show 8 - k = (7 - k) + 1 by omega, rv_last0 _ _ _ _ _ _ hq (by rw [← HCE.out]; exact hz1) hz2] at hr1
            have HR1 := Lib.hid hr1; clear hr1
            have t1 : ((c.toNat : Int) == 0) = true := by rw [beq_iff_eq]; omega
            have t2 : (0 : Int) < (k : Int) := by omega
            clear hz1
            go_wp2_with fail
            go_ret3
            exact ⟨by rw [HR1.out]; rfl, rfl⟩
          · have hr1 := HR.out
            rw [show 8 - k = (7 - k) + 1 by omega, rv_last _ _ _ _ _ _ hq (by rw [← HCE.out]; exact hbig) (by rw [← HCE.out]; exact hz), ← HCE.out] at hr1
            have HR1 := Lib.hid hr1; clear hr1
            by_cases t0 : c.toNat = 0
            · have t1 : ((c.toNat : Int) == 0) = true := by rw [beq_iff_eq]; omega
              have t2 : ¬ (0 : Int) < (k : Int) := by omega
              clear hz t0
              go_wp2_with fail
              go_ret3
              refine ⟨?_, rfl⟩
              rw [HR1.out]
              exact rv_fin2 acc k at_ c (by omega) hacc
            · have t1 : ((c.toNat : Int) == 0) = false := by rw [beq_eq_false_iff_ne]; omega
              clear hz
              go_wp2_with fail
              go_ret3
              refine ⟨?_, rfl⟩
              rw [HR1.out]
              exact rv_fin2 acc k at_ c (by omega) hacc
end Go.Proofs.YtfibplegbaanmaaDoor
