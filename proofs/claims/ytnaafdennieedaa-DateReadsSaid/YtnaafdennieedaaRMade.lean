/- Layer 5: the document's Make, offset, made. -/
import Derived.Test.YtnaafdennieedaaRCal
import Derived.Test.YtnaafdennieedaaDMails
namespace Go.Proofs.Ytnaafdennieedaa
open Go.RowKit

set_option maxRecDepth 100000 in
set_option maxHeartbeats 3200000 in
theorem rmake_no (y mo d h mi s : Int) (w : World) (H : mkB y mo d h mi s = false) :
    Calls Try.prog 18 #[.int .i64 y, .int .i64 mo, .int .i64 d, .int .i64 h, .int .i64 mi, .int .i64 s] w fun e w' => e = .returned (.tuple #[.int .i64 0, .bool false]) ∧ w' = w := by
  have H' : ¬ (1970 ≤ y ∧ y ≤ 9999 ∧ 1 ≤ mo ∧ mo ≤ 12 ∧ 1 ≤ d ∧ d ≤ dofI y mo ∧ 0 ≤ h ∧ h ≤ 23 ∧ 0 ≤ mi ∧ mi ≤ 59 ∧ 0 ≤ s ∧ s ≤ 60) := by
    rw [← mkB_iff, H]; simp
  clear H
  by_cases c0 : y < 1970
  · clear H'
    go_enter Try.func18, Try.ntmps18
    go_wp2_with (go_at_call 42; refine (rlength_any _ _ _ (by omega) (by omega)).mono ?_; rintro e w' ⟨rfl, rfl⟩)
    go_ret2
    exact ⟨rfl, rfl⟩
  by_cases c1 : 9999 < y
  · clear H'
    go_enter Try.func18, Try.ntmps18
    go_wp2_with (go_at_call 42; refine (rlength_any _ _ _ (by omega) (by omega)).mono ?_; rintro e w' ⟨rfl, rfl⟩)
    go_ret2
    exact ⟨rfl, rfl⟩
  by_cases c2 : mo < 1
  · clear H'
    go_enter Try.func18, Try.ntmps18
    go_wp2_with (go_at_call 42; refine (rlength_any _ _ _ (by omega) (by omega)).mono ?_; rintro e w' ⟨rfl, rfl⟩)
    go_ret2
    exact ⟨rfl, rfl⟩
  by_cases c3 : 12 < mo
  · clear H'
    go_enter Try.func18, Try.ntmps18
    go_wp2_with (go_at_call 42; refine (rlength_any _ _ _ (by omega) (by omega)).mono ?_; rintro e w' ⟨rfl, rfl⟩)
    go_ret2
    exact ⟨rfl, rfl⟩
  by_cases c4 : d < 1
  · clear H'
    go_enter Try.func18, Try.ntmps18
    go_wp2_with (go_at_call 42; refine (rlength_any _ _ _ (by omega) (by omega)).mono ?_; rintro e w' ⟨rfl, rfl⟩)
    go_ret2
    exact ⟨rfl, rfl⟩
  by_cases c5 : dofI y mo < d
  · clear H'
    go_enter Try.func18, Try.ntmps18
    go_wp2_with (go_at_call 42; refine (rlength_any _ _ _ (by omega) (by omega)).mono ?_; rintro e w' ⟨rfl, rfl⟩)
    go_ret2
    exact ⟨rfl, rfl⟩
  by_cases c6 : h < 0
  · clear H'
    go_enter Try.func18, Try.ntmps18
    go_wp2_with (go_at_call 42; refine (rlength_any _ _ _ (by omega) (by omega)).mono ?_; rintro e w' ⟨rfl, rfl⟩)
    go_ret2
    exact ⟨rfl, rfl⟩
  by_cases c7 : 23 < h
  · clear H'
    go_enter Try.func18, Try.ntmps18
    go_wp2_with (go_at_call 42; refine (rlength_any _ _ _ (by omega) (by omega)).mono ?_; rintro e w' ⟨rfl, rfl⟩)
    go_ret2
    exact ⟨rfl, rfl⟩
  by_cases c8 : mi < 0
  · clear H'
    go_enter Try.func18, Try.ntmps18
    go_wp2_with (go_at_call 42; refine (rlength_any _ _ _ (by omega) (by omega)).mono ?_; rintro e w' ⟨rfl, rfl⟩)
    go_ret2
    exact ⟨rfl, rfl⟩
  by_cases c9 : 59 < mi
  · clear H'
    go_enter Try.func18, Try.ntmps18
    go_wp2_with (go_at_call 42; refine (rlength_any _ _ _ (by omega) (by omega)).mono ?_; rintro e w' ⟨rfl, rfl⟩)
    go_ret2
    exact ⟨rfl, rfl⟩
  by_cases c10 : s < 0
  · clear H'
    go_enter Try.func18, Try.ntmps18
    go_wp2_with (go_at_call 42; refine (rlength_any _ _ _ (by omega) (by omega)).mono ?_; rintro e w' ⟨rfl, rfl⟩)
    go_ret2
    exact ⟨rfl, rfl⟩
  by_cases c11 : 60 < s
  · clear H'
    go_enter Try.func18, Try.ntmps18
    go_wp2_with (go_at_call 42; refine (rlength_any _ _ _ (by omega) (by omega)).mono ?_; rintro e w' ⟨rfl, rfl⟩)
    go_ret2
    exact ⟨rfl, rfl⟩
  exact absurd ⟨by omega, by omega, by omega, by omega, by omega, by omega, by omega, by omega, by omega, by omega, by omega, by omega⟩ H'
/-- What the document's offset tells. -/
def roffB (h m : Int) : Bool := decide (0 ≤ h ∧ h ≤ 23 ∧ 0 ≤ m ∧ m ≤ 59)
theorem roff_yes (c : UInt8) (h m : Int) (w : World) (h0 : 0 ≤ h) (h1 : h ≤ 23) (m0 : 0 ≤ m) (m1 : m ≤ 59) :
    Calls Try.prog 36 #[.int .i64 h, .int .i64 m, .int .u8 (c.toNat : Int)] w fun e w' => e = .returned (.tuple #[.int .i64 (offV c h m), .bool true]) ∧ w' = w := by
  have n1 : ¬ h < 0 := by omega
  have n2 : ¬ 23 < h := by omega
  have n3 : ¬ m < 0 := by omega
  have n4 : ¬ 59 < m := by omega
  by_cases hc : c = 45
  · have n0 : ((c.toNat : Int) == 45) = true := by rw [hc]; rfl
    have e : offV c h m = -(h * 3600 + m * 60) := by rw [offV, if_pos hc]; omega
    rw [e]
    clear e hc
    go_enter Try.func36, Try.ntmps36
    go_wp2
    go_ret2
    exact ⟨rfl, rfl⟩
  · have n0 : ((c.toNat : Int) == 45) = false := by
      rw [beq_eq_false_iff_ne]; intro h; exact hc (UInt8.toNat_inj.1 (by have : (45 : UInt8).toNat = 45 := rfl; omega))
    have e : offV c h m = h * 3600 + m * 60 := by rw [offV, if_neg hc]
    rw [e]
    clear e hc
    go_enter Try.func36, Try.ntmps36
    go_wp2
    go_ret2
    exact ⟨rfl, rfl⟩
theorem roff_no (c : UInt8) (h m : Int) (w : World) (hno : h < 0 ∨ 23 < h ∨ m < 0 ∨ 59 < m) :
    Calls Try.prog 36 #[.int .i64 h, .int .i64 m, .int .u8 (c.toNat : Int)] w fun e w' => e = .returned (.tuple #[.int .i64 0, .bool false]) ∧ w' = w := by
  have hcs : h < 0 ∨ (¬ h < 0 ∧ 23 < h) ∨ (¬ h < 0 ∧ ¬ 23 < h ∧ m < 0) ∨ (¬ h < 0 ∧ ¬ 23 < h ∧ ¬ m < 0 ∧ 59 < m) := by omega
  clear hno
  rcases hcs with h1 | ⟨h1, h2⟩ | ⟨h1, h2, h3⟩ | ⟨h1, h2, h3, h4⟩
  all_goals
    go_enter Try.func36, Try.ntmps36
    go_wp2
    go_ret2
    exact ⟨rfl, rfl⟩
theorem rfirst_last (w : World) : Calls Try.prog 41 #[.int .i64 10000] w fun e w' => e = .returned (.int .i64 2932897) ∧ w' = w :=
  (rfirst_any 10000 w (by omega) (by omega)).mono fun _ _ ⟨he, hw⟩ => ⟨he.trans rfl, hw⟩
def inB (t : Int) : Bool := decide (0 ≤ t ∧ t < 253402300800)
theorem rin_any (t : Int) (w : World) : Calls Try.prog 40 #[.int .i64 t] w fun e w' => e = .returned (.bool (inB t)) ∧ w' = w := by
  by_cases h0 : 0 ≤ t
  · by_cases h1 : t < 253402300800
    · have e : inB t = true := by unfold inB; simp [h0, h1]
      rw [e]
      clear e
      go_enter Try.func40, Try.ntmps40
      go_wp2_with (go_at_call 41; refine (rfirst_last _).mono ?_; rintro e w' ⟨rfl, rfl⟩)
      go_ret
      exact ⟨rfl, rfl⟩
    · have e : inB t = false := by unfold inB; simp [h1]
      rw [e]
      clear e
      go_enter Try.func40, Try.ntmps40
      go_wp2_with (go_at_call 41; refine (rfirst_last _).mono ?_; rintro e w' ⟨rfl, rfl⟩)
      go_ret
      exact ⟨by show Ending.returned (.bool (decide (t < 253402300800))) = _; rw [decide_eq_false (by omega)], rfl⟩
  · have e : inB t = false := by unfold inB; simp [h0]
    rw [e]
    clear e
    go_enter Try.func40, Try.ntmps40
    go_wp2_with fail
    go_ret
    exact ⟨rfl, rfl⟩
theorem rmade_any (y mo d h mi s a : Int) (w : World) (ha1 : -30000000 ≤ a) (ha2 : a ≤ 30000000) :
    Calls Try.prog 33 #[.int .i64 y, .int .i64 mo, .int .i64 d, .int .i64 h, .int .i64 mi, .int .i64 s, .int .i64 a] w fun e w' => e = twoE (mres y mo d h mi s a) ∧ w' = w := by
  unfold twoE mres
  cases H : mkB y mo d h mi s with
  | false =>
    have CM := Lib.hid (fun W => rmake_no y mo d h mi s W H)
    rw [if_pos (.inl rfl)]
    clear H
    go_enter Try.func33, Try.ntmps33
    go_wp2_with (go_at_call 18; refine (CM.out _).mono ?_; rintro e w' ⟨rfl, rfl⟩)
    go_ret2
    exact ⟨rfl, rfl⟩
  | true =>
    obtain ⟨v1, v2⟩ := mkV_bd y mo d h mi s H
    have CM := Lib.hid (fun W => rmake_yes y mo d h mi s W H)
    obtain ⟨V, hV⟩ : ∃ V, V = mkV y mo d h mi s := ⟨_, rfl⟩
    rw [← hV] at v1 v2 CM
    rw [← hV]
    clear hV H
    cases hi : inB (V - a) with
    | true =>
      have hi' := hi
      unfold inB at hi'
      rw [decide_eq_true_eq] at hi'
      rw [if_neg (by simp; omega)]
      have HI := Lib.hid hi
      clear hi hi'
      go_enter Try.func33, Try.ntmps33
      go_wp2_with (first
        | (go_at_call 18; refine (CM.out _).mono ?_; rintro e w' ⟨rfl, rfl⟩)
        | (go_at_call 40; refine (rin_any _ _).mono ?_; rintro e w' ⟨rfl, rfl⟩; rw [HI.out]))
      go_ret2
      exact ⟨rfl, rfl⟩
    | false =>
      have hi' := hi
      unfold inB at hi'
      rw [decide_eq_false_iff_not] at hi'
      rw [if_pos (by simp; omega)]
      have HI := Lib.hid hi
      clear hi hi'
      go_enter Try.func33, Try.ntmps33
      go_wp2_with (first
        | (go_at_call 18; refine (CM.out _).mono ?_; rintro e w' ⟨rfl, rfl⟩)
        | (go_at_call 40; refine (rin_any _ _).mono ?_; rintro e w' ⟨rfl, rfl⟩; rw [HI.out]))
      go_ret2
      exact ⟨rfl, rfl⟩
end Go.Proofs.Ytnaafdennieedaa
