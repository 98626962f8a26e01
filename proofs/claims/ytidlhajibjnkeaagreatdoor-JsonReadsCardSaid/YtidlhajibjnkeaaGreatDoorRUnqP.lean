/- hblref1's Unquote. -/
import Derived.Test.YtidlhajibjnkeaaGreatDoorRQuo
import Derived.Test.YtidlhajibjnkeaaGreatDoorUnquote
import Derived.Test.YtidlhajibjnkeaaGreatDoorSgMath
import Derived.Deep.RegionHeld3
namespace Go.Proofs.YtidlhajibjnkeaaGreatDoor
open Go.RowKit

def signR (c : Int) : List UInt8 × Bool := if 0 ≤ c ∧ signB c.toNat = true then (sb c.toNat, true) else ([], false)
def signE (r : List UInt8 × Bool) : Ending := .returned (.tuple #[str r.1, .bool r.2])
attribute [local go_sem] str_cat
theorem Below.undrewsN2 {B : Nat} {w w' : World} {n : Nat} (h : Below B (w.drewN n) w') : Below B w w' := ⟨h.os, h.tape, h.output, h.size, h.block⟩
def bad (a : Int) : Prop := a < 0 ∨ 1114111 < a ∨ (55296 ≤ a ∧ a ≤ 57343)
theorem signR_bad (a : Int) (h : bad a) : signR a = ([], false) := by
  rw [signR, if_neg]
  rintro ⟨h1, h2⟩
  have := (signB_iff a.toNat).1 h2
  rcases h with h | h | h <;> omega
theorem signR_good (n : Nat) (h : signB n = true) : signR (n : Int) = (sb n, true) := by
  rw [signR, if_pos ⟨by omega, by simpa using h⟩]; rfl
theorem signR_cases (b : Int) : (∃ m : Nat, b = (m : Int) ∧ signB m = true ∧ signR b = (sb m, true)) ∨ signR b = ([], false) := by
  by_cases h : 0 ≤ b ∧ signB b.toNat = true
  · exact .inl ⟨b.toNat, by omega, h.2, by rw [signR, if_pos h]⟩
  · exact .inr (by rw [signR, if_neg h])
theorem refDigit_any (c : UInt8) (w : World) : Calls Tryz.prog 119 #[.int .u8 (c.toNat : Int)] w fun e w' => e = refDE c ∧ w' = w := by
  have hc := c.toNat_lt
  have key : (∃ v : Int, refDE c = .returned (.int .i64 v) ∧ (((48 : Int) ≤ (c.toNat : Int) ∧ (c.toNat : Int) ≤ 57 ∧ v = (c.toNat : Int) - 48) ∨ ((97 : Int) ≤ (c.toNat : Int) ∧ (c.toNat : Int) ≤ 102 ∧ v = (c.toNat : Int) - 97 + 10) ∨
      ((65 : Int) ≤ (c.toNat : Int) ∧ (c.toNat : Int) ≤ 70 ∧ v = (c.toNat : Int) - 65 + 10) ∨ (((c.toNat : Int) < 48 ∨ (57 < (c.toNat : Int) ∧ (c.toNat : Int) < 65) ∨ (70 < (c.toNat : Int) ∧ (c.toNat : Int) < 97) ∨ 102 < (c.toNat : Int)) ∧ v = -1))) := by
    refine ⟨refD c, rfl, ?_⟩
    unfold refD
    split
    · omega
    · split
      · omega
      · split <;> omega
  obtain ⟨v, hv, hcase⟩ := key
  have HV := Lib.hid hv
  clear hv
  rcases hcase with ⟨h1, h2, rfl⟩ | ⟨h1, h2, rfl⟩ | ⟨h1, h2, rfl⟩ | ⟨h, rfl⟩
  · go_enter Tryz.func119, Tryz.ntmps119
    go_wp2
    go_ret
    exact ⟨HV.out.symm, rfl⟩
  · have h3 : (48 : Int) ≤ (c.toNat : Int) := by omega
    have h4 : ¬ (c.toNat : Int) ≤ 57 := by omega
    go_enter Tryz.func119, Tryz.ntmps119
    go_wp2
    go_ret
    exact ⟨HV.out.symm, rfl⟩
  · have h3 : (48 : Int) ≤ (c.toNat : Int) := by omega
    have h4 : ¬ (c.toNat : Int) ≤ 57 := by omega
    have h5 : ¬ (97 : Int) ≤ (c.toNat : Int) := by omega
    go_enter Tryz.func119, Tryz.ntmps119
    go_wp2
    go_ret
    exact ⟨HV.out.symm, rfl⟩
  · rcases h with h | ⟨h1, h2⟩ | ⟨h1, h2⟩ | h
    · have h4 : ¬ (48 : Int) ≤ (c.toNat : Int) := by omega
      have h5 : ¬ (97 : Int) ≤ (c.toNat : Int) := by omega
      have h6 : ¬ (65 : Int) ≤ (c.toNat : Int) := by omega
      go_enter Tryz.func119, Tryz.ntmps119
      go_wp2
      go_ret
      exact ⟨HV.out.symm, rfl⟩
    · have h3 : (48 : Int) ≤ (c.toNat : Int) := by omega
      have h4 : ¬ (c.toNat : Int) ≤ 57 := by omega
      have h5 : ¬ (97 : Int) ≤ (c.toNat : Int) := by omega
      have h6 : ¬ (65 : Int) ≤ (c.toNat : Int) := by omega
      go_enter Tryz.func119, Tryz.ntmps119
      go_wp2
      go_ret
      exact ⟨HV.out.symm, rfl⟩
    · have h3 : (48 : Int) ≤ (c.toNat : Int) := by omega
      have h4 : ¬ (c.toNat : Int) ≤ 57 := by omega
      have h5 : ¬ (97 : Int) ≤ (c.toNat : Int) := by omega
      have h6 : (65 : Int) ≤ (c.toNat : Int) := by omega
      have h7 : ¬ (c.toNat : Int) ≤ 70 := by omega
      go_enter Tryz.func119, Tryz.ntmps119
      go_wp2
      go_ret
      exact ⟨HV.out.symm, rfl⟩
    · have h3 : (48 : Int) ≤ (c.toNat : Int) := by omega
      have h4 : ¬ (c.toNat : Int) ≤ 57 := by omega
      have h5 : (97 : Int) ≤ (c.toNat : Int) := by omega
      have h5' : ¬ (c.toNat : Int) ≤ 102 := by omega
      have h6 : (65 : Int) ≤ (c.toNat : Int) := by omega
      have h7 : ¬ (c.toNat : Int) ≤ 70 := by omega
      go_enter Tryz.func119, Tryz.ntmps119
      go_wp2
      go_ret
      exact ⟨HV.out.symm, rfl⟩
theorem refDigit_ret (c : UInt8) (w : World) : Calls Tryz.prog 119 #[.int .u8 (c.toNat : Int)] w fun e w' => e = .returned (.int .i64 (refD c)) ∧ w' = w := refDigit_any c w
set_option maxHeartbeats 3200000 in
theorem refText_any (c : Int) (w : World) (_h1 : -9223372036854775808 ≤ c) (_h2 : c ≤ 9223372036854775807) :
    Calls Tryz.prog 105 #[.int .i64 c] w fun e w' => e = signE (signR c) ∧ Below w.heap.size w w' := by
  by_cases hbad : bad c
  · rw [signR_bad c hbad]
    have key : c < 0 ∨ (¬ c < 0 ∧ 1114111 < c) ∨ (¬ c < 0 ∧ ¬ 1114111 < c ∧ 55296 ≤ c ∧ c ≤ 57343) := by unfold bad at hbad; omega
    clear hbad
    rcases key with k1 | ⟨k1, k2⟩ | ⟨k1, k2, k3, k4⟩
    all_goals
      go_enter Tryz.func105, Tryz.ntmps105
      go_wp2_with fail
      go_ret2
      exact ⟨rfl, Below.refl _ _⟩
  obtain ⟨n, hn⟩ : ∃ n : Nat, (n : Int) = c := ⟨c.toNat, by unfold bad at hbad; omega⟩
  have hsg : signB n = true := (signB_iff n).2 (by unfold bad at hbad; omega)
  have hsr : signR c = (sb n, true) := by rw [← hn]; exact signR_good n hsg
  rw [hsr]
  have k1 : ¬ c < 0 := by unfold bad at hbad; omega
  have k2 : ¬ 1114111 < c := by unfold bad at hbad; omega
  have k3 : ¬ 55296 ≤ c ∨ (55296 ≤ c ∧ ¬ c ≤ 57343) := by unfold bad at hbad; omega
  have HN := Lib.hid hn
  clear hsr hbad hsg
  have hcs : c < 128 ∨ (¬ c < 128 ∧ c < 2048) ∨ (¬ c < 128 ∧ ¬ c < 2048 ∧ c < 65536) ∨ (¬ c < 128 ∧ ¬ c < 2048 ∧ ¬ c < 65536) := by omega
  rcases hcs with m1 | ⟨m1, m2⟩ | ⟨m1, m2, m3⟩ | ⟨m1, m2, m3⟩
  · have hsb : sb n = [UInt8.ofNat n] := by rw [sb, if_pos (by omega)]
    have HSB := Lib.hid hsb
    have hw1 : IntKind.u8.wrap c = ((UInt8.ofNat n).toNat : Int) := by rw [oN n (by omega), hn]; exact IntWalk.u8_in _ ⟨by omega, by omega⟩
    obtain ⟨z, hz⟩ : ∃ z, z = UInt8.ofNat n := ⟨_, rfl⟩
    rw [← hz] at hw1
    have HSB1 : Hid (sb n = [z]) := by rw [hz]; exact HSB
    have hconv := fun W => bt.toString (S := 9) Tryz.underlying9 (Rd.one 5 W z _ rfl)
    clear hsb hn hz HSB
    rcases k3 with k3 | ⟨k3, k4⟩
    all_goals try (exfalso; omega)
    all_goals
      go_enter Tryz.func105, Tryz.ntmps105
      go_wp2_with fail
      go_ret2
      exact ⟨by rw [HSB1.out]; rfl, below_alloc _ _⟩
  · have hsb : sb n = [UInt8.ofNat (192 + n / 64), UInt8.ofNat (128 + n % 64)] := by rw [sb, if_neg (by omega), if_pos (by omega)]
    have HSB := Lib.hid hsb
    have o0 : bits .or .i64 192 (c / 64) = ((192 + n / 64 : Nat) : Int) := by
      rw [← hn, show ((n : Int) / 64) = ((n / 64 : Nat) : Int) by omega]
      exact orI 192 3 6 _ (by decide) (by omega) (by omega)
    have v0 : IntKind.u8.wrap ((192 + n / 64 : Nat) : Int) = ((UInt8.ofNat (192 + n / 64)).toNat : Int) := by rw [oN _ (by omega)]; exact IntWalk.u8_in _ ⟨by omega, by omega⟩
    have a9 : bits .and .i64 c 63 = ((n % 64 : Nat) : Int) := by
      rw [← hn]
      exact andI n 63 6 (by decide) (by omega) (by decide)
    have o9 : bits .or .i64 128 ((n % 64 : Nat) : Int) = ((128 + n % 64 : Nat) : Int) := orI 128 1 7 _ (by decide) (by omega) (by omega)
    have v9 : IntKind.u8.wrap ((128 + n % 64 : Nat) : Int) = ((UInt8.ofNat (128 + n % 64)).toNat : Int) := by rw [oN _ (by omega)]; exact IntWalk.u8_in _ ⟨by omega, by omega⟩
    obtain ⟨r9, hr9⟩ : ∃ r, r = n % 64 := ⟨_, rfl⟩
    obtain ⟨s0, hs0⟩ : ∃ r, r = 192 + n / 64 := ⟨_, rfl⟩
    rw [← hs0] at o0 v0
    rw [← hr9] at a9 o9 v9
    obtain ⟨s9, hs9⟩ : ∃ r, r = 128 + r9 := ⟨_, rfl⟩
    rw [← hs9] at o9 v9
    obtain ⟨z0, hz0⟩ : ∃ z, z = UInt8.ofNat s0 := ⟨_, rfl⟩
    rw [← hz0] at v0
    obtain ⟨z9, hz9⟩ : ∃ z, z = UInt8.ofNat s9 := ⟨_, rfl⟩
    rw [← hz9] at v9
    have hconv := fun W => bt.toString (S := 9) Tryz.underlying9 (Rd.two 5 W z0 z9 _ _ W.heap.size rfl rfl rfl)
    have HSB2 : Hid (sb n = [z0, z9]) := by
      have h := HSB.out
      rw [← hs0, ← hr9, ← hs9, ← hz0, ← hz9] at h
      exact h
    clear hsb hn hz0 hz9 hs0 hs9 hr9 HSB
    unfold bv at hconv
    rcases k3 with k3 | ⟨k3, k4⟩
    all_goals try (exfalso; omega)
    all_goals
      go_enter Tryz.func105, Tryz.ntmps105
      go_wp2_with fail
      go_ret2
      exact ⟨by rw [HSB2.out]; rfl, below_alloc _ _⟩
  · have hsb : sb n = [UInt8.ofNat (224 + n / 4096), UInt8.ofNat (128 + n / 64 % 64), UInt8.ofNat (128 + n % 64)] := by rw [sb, if_neg (by omega), if_neg (by omega), if_pos (by omega)]
    have HSB := Lib.hid hsb
    have o0 : bits .or .i64 224 (c / 4096) = ((224 + n / 4096 : Nat) : Int) := by
      rw [← hn, show ((n : Int) / 4096) = ((n / 4096 : Nat) : Int) by omega]
      exact orI 224 7 5 _ (by decide) (by omega) (by omega)
    have v0 : IntKind.u8.wrap ((224 + n / 4096 : Nat) : Int) = ((UInt8.ofNat (224 + n / 4096)).toNat : Int) := by rw [oN _ (by omega)]; exact IntWalk.u8_in _ ⟨by omega, by omega⟩
    have a1 : bits .and .i64 (c / 64) 63 = ((n / 64 % 64 : Nat) : Int) := by
      rw [← hn, show ((n : Int) / 64) = ((n / 64 : Nat) : Int) by omega]
      exact andI (n / 64) 63 6 (by decide) (by omega) (by decide)
    have o1 : bits .or .i64 128 ((n / 64 % 64 : Nat) : Int) = ((128 + n / 64 % 64 : Nat) : Int) := orI 128 1 7 _ (by decide) (by omega) (by omega)
    have v1 : IntKind.u8.wrap ((128 + n / 64 % 64 : Nat) : Int) = ((UInt8.ofNat (128 + n / 64 % 64)).toNat : Int) := by rw [oN _ (by omega)]; exact IntWalk.u8_in _ ⟨by omega, by omega⟩
    have a9 : bits .and .i64 c 63 = ((n % 64 : Nat) : Int) := by
      rw [← hn]
      exact andI n 63 6 (by decide) (by omega) (by decide)
    have o9 : bits .or .i64 128 ((n % 64 : Nat) : Int) = ((128 + n % 64 : Nat) : Int) := orI 128 1 7 _ (by decide) (by omega) (by omega)
    have v9 : IntKind.u8.wrap ((128 + n % 64 : Nat) : Int) = ((UInt8.ofNat (128 + n % 64)).toNat : Int) := by rw [oN _ (by omega)]; exact IntWalk.u8_in _ ⟨by omega, by omega⟩
    obtain ⟨r1, hr1⟩ : ∃ r, r = n / 64 % 64 := ⟨_, rfl⟩
    obtain ⟨r9, hr9⟩ : ∃ r, r = n % 64 := ⟨_, rfl⟩
    obtain ⟨s0, hs0⟩ : ∃ r, r = 224 + n / 4096 := ⟨_, rfl⟩
    rw [← hs0] at o0 v0
    rw [← hr1] at a1 o1 v1
    obtain ⟨s1, hs1⟩ : ∃ r, r = 128 + r1 := ⟨_, rfl⟩
    rw [← hs1] at o1 v1
    rw [← hr9] at a9 o9 v9
    obtain ⟨s9, hs9⟩ : ∃ r, r = 128 + r9 := ⟨_, rfl⟩
    rw [← hs9] at o9 v9
    obtain ⟨z0, hz0⟩ : ∃ z, z = UInt8.ofNat s0 := ⟨_, rfl⟩
    rw [← hz0] at v0
    obtain ⟨z1, hz1⟩ : ∃ z, z = UInt8.ofNat s1 := ⟨_, rfl⟩
    rw [← hz1] at v1
    obtain ⟨z9, hz9⟩ : ∃ z, z = UInt8.ofNat s9 := ⟨_, rfl⟩
    rw [← hz9] at v9
    have hconv := fun W => bt.toString (S := 9) Tryz.underlying9 (Rd.three 5 W z0 z1 z9 _ _ _ W.heap.size rfl rfl rfl rfl)
    have HSB2 : Hid (sb n = [z0, z1, z9]) := by
      have h := HSB.out
      rw [← hs0, ← hr1, ← hs1, ← hr9, ← hs9, ← hz0, ← hz1, ← hz9] at h
      exact h
    clear hsb hn hz0 hz1 hz9 hs0 hs1 hs9 hr1 hr9 HSB
    unfold bv at hconv
    rcases k3 with k3 | ⟨k3, k4⟩
    all_goals try (exfalso; omega)
    all_goals
      go_enter Tryz.func105, Tryz.ntmps105
      go_wp2_with fail
      go_ret2
      exact ⟨by rw [HSB2.out]; rfl, below_alloc _ _⟩
  · have hsb : sb n = [UInt8.ofNat (240 + n / 262144), UInt8.ofNat (128 + n / 4096 % 64), UInt8.ofNat (128 + n / 64 % 64), UInt8.ofNat (128 + n % 64)] := by rw [sb, if_neg (by omega), if_neg (by omega), if_neg (by omega)]
    have HSB := Lib.hid hsb
    have o0 : bits .or .i64 240 (c / 262144) = ((240 + n / 262144 : Nat) : Int) := by
      rw [← hn, show ((n : Int) / 262144) = ((n / 262144 : Nat) : Int) by omega]
      exact orI 240 15 4 _ (by decide) (by omega) (by omega)
    have v0 : IntKind.u8.wrap ((240 + n / 262144 : Nat) : Int) = ((UInt8.ofNat (240 + n / 262144)).toNat : Int) := by rw [oN _ (by omega)]; exact IntWalk.u8_in _ ⟨by omega, by omega⟩
    have a1 : bits .and .i64 (c / 4096) 63 = ((n / 4096 % 64 : Nat) : Int) := by
      rw [← hn, show ((n : Int) / 4096) = ((n / 4096 : Nat) : Int) by omega]
      exact andI (n / 4096) 63 6 (by decide) (by omega) (by decide)
    have o1 : bits .or .i64 128 ((n / 4096 % 64 : Nat) : Int) = ((128 + n / 4096 % 64 : Nat) : Int) := orI 128 1 7 _ (by decide) (by omega) (by omega)
    have v1 : IntKind.u8.wrap ((128 + n / 4096 % 64 : Nat) : Int) = ((UInt8.ofNat (128 + n / 4096 % 64)).toNat : Int) := by rw [oN _ (by omega)]; exact IntWalk.u8_in _ ⟨by omega, by omega⟩
    have a2 : bits .and .i64 (c / 64) 63 = ((n / 64 % 64 : Nat) : Int) := by
      rw [← hn, show ((n : Int) / 64) = ((n / 64 : Nat) : Int) by omega]
      exact andI (n / 64) 63 6 (by decide) (by omega) (by decide)
    have o2 : bits .or .i64 128 ((n / 64 % 64 : Nat) : Int) = ((128 + n / 64 % 64 : Nat) : Int) := orI 128 1 7 _ (by decide) (by omega) (by omega)
    have v2 : IntKind.u8.wrap ((128 + n / 64 % 64 : Nat) : Int) = ((UInt8.ofNat (128 + n / 64 % 64)).toNat : Int) := by rw [oN _ (by omega)]; exact IntWalk.u8_in _ ⟨by omega, by omega⟩
    have a9 : bits .and .i64 c 63 = ((n % 64 : Nat) : Int) := by
      rw [← hn]
      exact andI n 63 6 (by decide) (by omega) (by decide)
    have o9 : bits .or .i64 128 ((n % 64 : Nat) : Int) = ((128 + n % 64 : Nat) : Int) := orI 128 1 7 _ (by decide) (by omega) (by omega)
    have v9 : IntKind.u8.wrap ((128 + n % 64 : Nat) : Int) = ((UInt8.ofNat (128 + n % 64)).toNat : Int) := by rw [oN _ (by omega)]; exact IntWalk.u8_in _ ⟨by omega, by omega⟩
    obtain ⟨r1, hr1⟩ : ∃ r, r = n / 4096 % 64 := ⟨_, rfl⟩
    obtain ⟨r2, hr2⟩ : ∃ r, r = n / 64 % 64 := ⟨_, rfl⟩
    obtain ⟨r9, hr9⟩ : ∃ r, r = n % 64 := ⟨_, rfl⟩
    obtain ⟨s0, hs0⟩ : ∃ r, r = 240 + n / 262144 := ⟨_, rfl⟩
    rw [← hs0] at o0 v0
    rw [← hr1] at a1 o1 v1
    obtain ⟨s1, hs1⟩ : ∃ r, r = 128 + r1 := ⟨_, rfl⟩
    rw [← hs1] at o1 v1
    rw [← hr2] at a2 o2 v2
    obtain ⟨s2, hs2⟩ : ∃ r, r = 128 + r2 := ⟨_, rfl⟩
    rw [← hs2] at o2 v2
    rw [← hr9] at a9 o9 v9
    obtain ⟨s9, hs9⟩ : ∃ r, r = 128 + r9 := ⟨_, rfl⟩
    rw [← hs9] at o9 v9
    obtain ⟨z0, hz0⟩ : ∃ z, z = UInt8.ofNat s0 := ⟨_, rfl⟩
    rw [← hz0] at v0
    obtain ⟨z1, hz1⟩ : ∃ z, z = UInt8.ofNat s1 := ⟨_, rfl⟩
    rw [← hz1] at v1
    obtain ⟨z2, hz2⟩ : ∃ z, z = UInt8.ofNat s2 := ⟨_, rfl⟩
    rw [← hz2] at v2
    obtain ⟨z9, hz9⟩ : ∃ z, z = UInt8.ofNat s9 := ⟨_, rfl⟩
    rw [← hz9] at v9
    have hconv := fun W => bt.toString (S := 9) Tryz.underlying9 (Rd.four 5 W z0 z1 z2 z9 _ _ _ _ W.heap.size rfl rfl rfl rfl rfl)
    have HSB2 : Hid (sb n = [z0, z1, z2, z9]) := by
      have h := HSB.out
      rw [← hs0, ← hr1, ← hs1, ← hr2, ← hs2, ← hr9, ← hs9, ← hz0, ← hz1, ← hz2, ← hz9] at h
      exact h
    clear hsb hn hz0 hz1 hz2 hz9 hs0 hs1 hs2 hs9 hr1 hr2 hr9 HSB
    unfold bv at hconv
    rcases k3 with k3 | ⟨k3, k4⟩
    all_goals try (exfalso; omega)
    all_goals
      go_enter Tryz.func105, Tryz.ntmps105
      go_wp2_with fail
      go_ret2
      exact ⟨by rw [HSB2.out]; rfl, below_alloc _ _⟩
section
attribute [local go_sem] str_cat
set_option maxHeartbeats 1600000 in
theorem refFour_any (t : List UInt8) (p : Nat) (w : World) (hp : p ≤ t.length) (hl : t.length ≤ 140737488355328) :
    Calls Tryz.prog 104 #[str t, .int .i64 (p : Int)] w fun e w' =>
      e = .returned (.tuple #[.int .i64 ((fourR 4 (t.drop p) 0).1 : Int), .int .i64 ((fourR 4 (t.drop p) 0).2.1 : Int)]) ∧ w' = w := by
  go_enter Tryz.func104, Tryz.ntmps104
  go_wp2_with fail
  go_loop [6, 7] (fun n i => ∃ k acc : Nat, k ≤ 4 ∧ i = .int .i64 (k : Int) ∧ n = .int .i64 (acc : Int) ∧ acc < 16 ^ k ∧
      ((fourR 4 (t.drop p) 0).1, (fourR 4 (t.drop p) 0).2.1) = ((fourR (4 - k) (t.drop (p + k)) acc).1, (fourR (4 - k) (t.drop (p + k)) acc).2.1))
    (fun _ i => 4 - (intOf i).toNat)
  case atStart => exact ⟨0, 0, by omega, rfl, rfl, by decide, rfl⟩
  case round =>
    obtain ⟨k, acc, hk, rfl, rfl, hacc, hr⟩ := hrel
    have hpow : 16 ^ k ≤ 65536 := by
      have := Nat.pow_le_pow_right (n := 16) (by omega) hk
      simpa using this
    have haccb : acc < 65536 := by omega
    have hpow1 : 16 ^ (k + 1) = 16 ^ k * 16 := Nat.pow_succ ..
    obtain ⟨q, hq⟩ : ∃ q, q = p + k := ⟨_, rfl⟩
    have HR := Lib.hid hr
    have HP1 := Lib.hid hpow1
    clear hr hpow1
    by_cases hlt : k < 4
    · have n0 : (k : Int) < 4 := by omega
      have n4 : (p : Int) + (k : Int) = (q : Int) := by omega
      by_cases hqt : q < t.length
      · have n2 : (q : Int) < (t.length : Int) := by omega
        have n3 : (0 : Int) ≤ (q : Int) := by omega
        obtain ⟨d, hd⟩ : ∃ d, d = t[q] := ⟨_, rfl⟩
        have hgd : (ByteArray.mk t.toArray)[q]'(by simpa [ByteArray.size] using hqt) = d := hd.symm
        have hnx := fourR_next (4 - k - 1) t q acc hqt
        rw [← hd, show 4 - k - 1 + 1 = 4 - k by omega] at hnx
        have hrg := refD_range d
        obtain ⟨z, hz⟩ : ∃ z, z = refD d := ⟨_, rfl⟩
        have hdig := refDigit_ret d
        rw [← hz] at hnx hrg hdig
        have HD := Lib.hid hdig
        have HQ := Lib.hid hq
        have HNX := Lib.hid hnx
        clear hd hz hdig hq hnx
        by_cases hneg : z < 0
        · have hfin : ((fourR 4 (t.drop p) 0).1, (fourR 4 (t.drop p) 0).2.1) = (0, 4) := by rw [HR.out, ← HQ.out, HNX.out, if_pos hneg]
          have HF := Lib.hid hfin
          clear hfin
          go_wp2_with fail
          refine (HD.out _).mono ?_
          rintro e w' ⟨rfl, rfl⟩
          go_wp2_with fail
          go_ret2
          exact ⟨by rw [(Prod.mk.inj HF.out).1, (Prod.mk.inj HF.out).2]; rfl, rfl⟩
        · have hz0 : 0 ≤ z := by omega
          have hor := or4 acc z hz0 hrg.2 (by omega)
          have hnat : (acc * 16 + z.toNat) < 16 ^ (k + 1) := by rw [HP1.out]; omega
          obtain ⟨a2, ha2⟩ : ∃ a2, a2 = acc * 16 + z.toNat := ⟨_, rfl⟩
          rw [← ha2] at hor hnat
          have hfin : ((fourR 4 (t.drop p) 0).1, (fourR 4 (t.drop p) 0).2.1) = ((fourR (4 - (k + 1)) (t.drop (p + (k + 1))) a2).1, (fourR (4 - (k + 1)) (t.drop (p + (k + 1))) a2).2.1) := by
            rw [HR.out, ← HQ.out, HNX.out, if_neg hneg, show p + (k + 1) = q + 1 by have := HQ.out; omega, show 4 - (k + 1) = 4 - k - 1 by omega, ha2]
          have HF := Lib.hid hfin
          have HNA := Lib.hid hnat
          obtain ⟨hz1, hz2⟩ := hrg
          clear hfin ha2 hneg hnat
          go_wp2_with fail
          refine (HD.out _).mono ?_
          rintro e w' ⟨rfl, rfl⟩
          go_wp2_with fail
          go_round
          case rel => exact ⟨k + 1, a2, by omega, by go_num, rfl, HNA.out, HF.out⟩
          case measure => simp [intOf]; omega
      · have n2 : ¬ (q : Int) < (t.length : Int) := by omega
        have n5 : (t.length : Int) ≤ (q : Int) := by omega
        have hfin : ((fourR 4 (t.drop p) 0).1, (fourR 4 (t.drop p) 0).2.1) = (0, 2) := by
          rw [HR.out, ← hq, List.drop_eq_nil_of_le (by omega)]
          obtain ⟨j, hj⟩ : ∃ j, 4 - k = j + 1 := ⟨4 - k - 1, by omega⟩
          rw [hj]; rfl
        have HF := Lib.hid hfin
        clear hfin hq
        go_wp2_with fail
        go_ret2
        exact ⟨by rw [(Prod.mk.inj HF.out).1, (Prod.mk.inj HF.out).2]; rfl, rfl⟩
    · obtain rfl : k = 4 := by omega
      have hfin : ((fourR 4 (t.drop p) 0).1, (fourR 4 (t.drop p) 0).2.1) = (acc, 0) := by rw [HR.out]; rfl
      have HF := Lib.hid hfin
      clear hfin hq
      go_wp2_with fail
      go_ret2
      exact ⟨by rw [(Prod.mk.inj HF.out).1, (Prod.mk.inj HF.out).2]; rfl, rfl⟩
end
theorem fourR_used : ∀ (k : Nat) (t : List UInt8) (acc : Nat), (fourR k t acc).2.1 = 0 → (fourR k t acc).2.2 = k
  | 0, _, _, _ => rfl
  | k + 1, [], _, h => by simp [fourR] at h
  | k + 1, c :: l, acc, h => by
    rw [fourR] at h ⊢
    split
    · next h1 => rw [if_pos h1] at h; simp at h
    · next h1 =>
      rw [if_neg h1] at h
      simp only at h ⊢
      rw [fourR_used k l _ h]
theorem fourR_err : ∀ (k : Nat) (t : List UInt8) (acc : Nat), (fourR k t acc).2.1 = 0 ∨ (fourR k t acc).2.1 = 2 ∨ (fourR k t acc).2.1 = 4
  | 0, _, _ => .inl rfl
  | k + 1, [], _ => .inr (.inl rfl)
  | k + 1, c :: l, acc => by
    rw [fourR]
    split
    · exact .inr (.inr rfl)
    · exact fourR_err k l _
theorem short_meant : ∀ j : Fin 256, shB (UInt8.ofNat j.val) ≠ 0 → meB (shB (UInt8.ofNat j.val)) = (UInt8.ofNat j.val, true) ∧ shB (UInt8.ofNat j.val) ≠ 117 := by decide +kernel
theorem meant_short : ∀ c : Fin 256, (meB (UInt8.ofNat c.val)).2 = true → c.val ≠ 47 → shB (meB (UInt8.ofNat c.val)).1 = UInt8.ofNat c.val ∧ (meB (UInt8.ofNat c.val)).1.toNat < 128 ∧ c.val ≠ 0 := by decide +kernel
theorem meant_47 : meB 47 = (47, true) := by decide
theorem meant_117 : (meB 117).2 = false := by decide
/-- What the document's answer tells of an escape: its bytes, where it ends, the error. -/
def refEscR (t : List UInt8) (p : Nat) : List UInt8 × Nat × Nat :=
  if (escR t (p + 1)).1 = 0 then ((escR t (p + 1)).2.2, p + 1 + (escR t (p + 1)).2.1, 0) else ([], 0, (escR t (p + 1)).1)
theorem signE_ok (n : Nat) (h : signB n = true) : signE (signR (n : Int)) = .returned (.tuple #[str (sb n), .bool true]) := by rw [signR_good n h]; rfl
theorem signE_no (n : Nat) (h : signB n = false) : signE (signR (n : Int)) = .returned (.tuple #[str [], .bool false]) := by
  rw [signR, if_neg (by rintro ⟨_, h2⟩; rw [Int.toNat_natCast, h] at h2; cases h2)]; rfl
set_option maxRecDepth 100000 in
set_option maxHeartbeats 12800000 in
theorem refEscape_any (t : List UInt8) (p : Nat) (w : World) (hp : p < t.length) (hl : t.length ≤ 70368744177664) :
    Calls Tryz.prog 86 #[str t, .int .i64 (p : Int)] w fun e w' => e = unqE (refEscR t p) ∧ Below w.heap.size w w' := by
  have hp0 : (0 : Int) ≤ (p : Int) := by omega
  by_cases h1 : p + 1 < t.length
  · obtain ⟨c, hc⟩ : ∃ c, c = t[p + 1] := ⟨_, rfl⟩
    have hgc : (ByteArray.mk t.toArray)[p + 1]'(by simpa [ByteArray.size] using h1) = c := hc.symm
    have hgc2 : t[p + 1]? = some c := by rw [hc]; exact List.getElem?_eq_getElem h1
    have hesc : escR t (p + 1) = if c = 117 then ((unitR t (p + 1 + 1)).1, (unitR t (p + 1 + 1)).2.1 + 1, (unitR t (p + 1 + 1)).2.2) else if (meB c).2 = true then (0, 1, [(meB c).1]) else (4, 1, []) := by
      rw [escR, hgc2]
    have HESC := Lib.hid hesc
    obtain ⟨q, hq⟩ : ∃ q, q = p + 1 := ⟨_, rfl⟩
    have e0 : (p : Int) + 1 = (q : Int) := by omega
    have e1 : (q : Int) < (t.length : Int) := by omega
    have e2 : (0 : Int) ≤ (q : Int) := by omega
    have hqn : q < t.length := by omega
    have hgq : (ByteArray.mk t.toArray)[q]'(by simpa [ByteArray.size] using hqn) = c := by subst hq; exact hgc
    have e3 : ¬ (t.length : Int) ≤ (q : Int) := by omega
    have hc255 := c.toNat_lt
    have HQ := Lib.hid hq
    clear hc hgc hgc2 hesc hq
    go_enter Tryz.func86, Tryz.ntmps86
    go_wp2_with fail
    go_loop [8] (fun i => ∃ k : Nat, k ≤ 128 ∧ i = .int .i64 (k : Int) ∧ ∀ j, j < k → ¬ (c ≠ 0 ∧ shB (UInt8.ofNat j) = c)) (fun i => 128 - (intOf i).toNat)
    case atStart => exact ⟨0, by omega, rfl, fun j hj => by omega⟩
    case round =>
      obtain ⟨k, hk, rfl, hno⟩ := hrel
      have HNO := Lib.hid hno
      clear hno
      by_cases hlt : k < 128
      · have n1 : (k : Int) < 128 := by omega
        have hkw : IntKind.u8.wrap (k : Int) = ((UInt8.ofNat k).toNat : Int) := by rw [oN k (by omega)]; exact IntWalk.u8_in _ ⟨by omega, by omega⟩
        obtain ⟨kb, hkb⟩ : ∃ kb, kb = UInt8.ofNat k := ⟨_, rfl⟩
        rw [← hkb] at hkw
        have HKB := Lib.hid hkb
        by_cases hc0 : c = 0
        · have m1 : ((c.toNat : Int) != 0) = false := by rw [hc0]; rfl
          have HC0 := Lib.hid hc0
          clear hc0 hkb
          go_wp2_with fail
          go_round
          case rel => exact ⟨k + 1, by omega, by go_num, fun j hj h => h.1 HC0.out⟩
          case measure => simp [intOf]; omega
        · have m1 : ((c.toNat : Int) != 0) = true := by
            rw [bne_iff_ne]; intro h; exact hc0 (UInt8.toNat_inj.1 (by simpa using h))
          by_cases hsk : shB kb = c
          · have m2 : (((shB kb).toNat : Int) == (c.toNat : Int)) = true := by rw [hsk]; exact beq_self_eq_true _
            have hm := short_meant ⟨k, by omega⟩
            simp only at hm
            rw [← hkb, hsk] at hm
            obtain ⟨hm1, hm2⟩ := hm hc0
            have hfin : refEscR t p = ([kb], p + 2, 0) := by
              rw [refEscR, HESC.out, if_neg hm2, hm1]; rfl
            have HF := Lib.hid hfin
            have hconv := fun W => bt.toString (S := 9) Tryz.underlying9 (Rd.one 5 W kb _ rfl)
            clear hsk hc0 hkb hm hm1 hm2 hfin
            go_wp2_with fail
            refine (refShort_any kb _).mono ?_
            rintro e w2 ⟨rfl, rfl⟩
            go_wp2_with fail
            go_ret3
            exact ⟨by rw [HF.out]; rfl, below_alloc _ _⟩
          · have m2 : (((shB kb).toNat : Int) == (c.toNat : Int)) = false := by
              rw [beq_eq_false_iff_ne]; intro h; exact hsk (UInt8.toNat_inj.1 (by omega))
            have HSK := Lib.hid hsk
            clear hsk hc0 hkb
            go_wp2_with fail
            refine (refShort_any kb _).mono ?_
            rintro e w2 ⟨rfl, rfl⟩
            go_wp2_with fail
            go_round
            case rel =>
              refine ⟨k + 1, by omega, by go_num, fun j hj h => ?_⟩
              rcases (show j < k ∨ j = k by omega) with hj | rfl
              · exact HNO.out j hj h
              · exact HSK.out (by rw [HKB.out]; exact h.2)
            case measure => simp [intOf]; omega
      · obtain rfl : k = 128 := by omega
        have n1 : ¬ ((128 : Nat) : Int) < 128 := by omega
        by_cases h47 : c = 47
        · have m1 : ((c.toNat : Int) == 47) = true := by rw [h47]; rfl
          have he47 : escR t (p + 1) = (0, 1, [47]) := by rw [HESC.out, h47, if_neg (by decide), meant_47]; rfl
          have hfin : refEscR t p = ([47], p + 2, 0) := by rw [refEscR, he47]; rfl
          have HF := Lib.hid hfin
          clear hfin h47 he47
          go_wp2_with fail
          go_ret3
          exact ⟨by rw [HF.out]; rfl, Below.refl _ _⟩
        have m1 : ((c.toNat : Int) == 47) = false := by
          rw [beq_eq_false_iff_ne]; intro h; exact h47 (UInt8.toNat_inj.1 (by simpa using (by omega : c.toNat = 47)))
        have hmf : (meB c).2 = false := by
          cases hm : (meB c).2
          · rfl
          · have := meant_short ⟨c.toNat, hc255⟩
            simp only [ofNat_self] at this
            obtain ⟨h2, h3, h4⟩ := this hm (fun h => h47 (UInt8.toNat_inj.1 (by simpa using h)))
            exact absurd ⟨fun h => h4 (by rw [h]; rfl), by rw [ofNat_self]; exact h2⟩ (HNO.out (meB c).1.toNat h3)
        by_cases h117 : c = 117
        · have m2 : ((c.toNat : Int) != 117) = false := by rw [h117]; rfl
          have hesc2 : escR t (p + 1) = ((unitR t (p + 2)).1, (unitR t (p + 2)).2.1 + 1, (unitR t (p + 2)).2.2) := by rw [HESC.out, if_pos h117]
          have hfin : refEscR t p = if (unitR t (p + 2)).1 = 0 then ((unitR t (p + 2)).2.2, p + 2 + (unitR t (p + 2)).2.1, 0) else ([], 0, (unitR t (p + 2)).1) := by
            rw [refEscR, hesc2]
            split
            · simp only [Prod.mk.injEq, true_and, and_true]; omega
            · rfl
          have hu := unitR.eq_def t (p + 2)
          obtain ⟨n, er, us, hr⟩ : ∃ n er us, fourR 4 (t.drop (p + 2)) 0 = (n, er, us) := ⟨_, _, _, rfl⟩
          have hn := fourR_lt 4 (t.drop (p + 2)) 0
          have hus := fourR_used 4 (t.drop (p + 2)) 0
          have hmx := fourR_use 4 (t.drop (p + 2)) 0
          rw [List.length_drop] at hmx
          rw [hr] at hu hn hus hmx
          simp only [Nat.zero_add, Nat.one_mul, Nat.reducePow] at hu hn hus hmx
          have HU := Lib.hid hu
          have HR := Lib.hid hr
          have HF := Lib.hid hfin
          obtain ⟨p2, hp2⟩ : ∃ p2, p2 = p + 2 := ⟨_, rfl⟩
          have e4 : (p : Int) + 2 = (p2 : Int) := by omega
          have hp2l : p2 ≤ t.length := by have := HQ.out; omega
          have HP2 := Lib.hid hp2
          have C4 := Lib.hid (fun W => refFour_any t p2 W hp2l (by omega))
          clear h117 hesc2 hfin hu hr hmf hp2
          go_wp2_with fail
          refine (C4.out _).mono ?_
          rintro e w2 ⟨rfl, rfl⟩
          rw [HP2.out, HR.out]
          simp only
          by_cases he : er = 0
          · subst he
            have hus4 : us = 4 := hus rfl
            subst hus4
            obtain ⟨A, hA⟩ : ∃ A : Int, A = (n : Int) := ⟨_, rfl⟩
            rw [← hA]
            obtain ⟨p6, hp6⟩ : ∃ p6, p6 = p + 6 := ⟨_, rfl⟩
            have e6 : (p : Int) + 6 = (p6 : Int) := by omega
            have hp6l : p6 ≤ t.length := by have := HQ.out; omega
            have HP6 := Lib.hid hp6
            have HA := Lib.hid hA
            have HN := Lib.hid hn
            by_cases hsur : 55296 ≤ n ∧ n < 56320
            · have HSUR := Lib.hid hsur
              have s1 : 55296 ≤ A := by omega
              have s2 : A ≤ 56319 := by omega
              have hu2 : unitR t (p + 2) = if (secR t p6).2.1 ≠ 0 then ((secR t p6).2.1, 4 + (secR t p6).2.2, []) else unitF (65536 + (n - 55296) * 1024 + ((secR t p6).1 - 56320)) (4 + (secR t p6).2.2) := by
                rw [HU.out, if_neg (by simp), if_pos hsur, show p + 2 + 4 = p6 by have := HP6.out; omega]
              have HU2 := Lib.hid hu2
              clear hu2 hA hn hsur hp6
              by_cases ha1 : p6 < t.length
              · have a1 : (p6 : Int) < (t.length : Int) := by omega
                have a1' : ¬ (t.length : Int) ≤ (p6 : Int) := by omega
                have a0 : (0 : Int) ≤ (p6 : Int) := by omega
                obtain ⟨d, hd⟩ : ∃ d, d = t[p6] := ⟨_, rfl⟩
                have hgd : (ByteArray.mk t.toArray)[p6]'(by simpa [ByteArray.size] using ha1) = d := hd.symm
                have hd2 : t[p6]? = some d := by rw [hd]; exact List.getElem?_eq_getElem ha1
                have HD := Lib.hid hd2
                clear hd hd2
                obtain ⟨p7, hp7⟩ : ∃ p7, p7 = p6 + 1 := ⟨_, rfl⟩
                have e7 : (p6 : Int) + 1 = (p7 : Int) := by omega
                by_cases h92 : d = 92
                · have b1 : ((d.toNat : Int) == 92) = true := by rw [h92]; rfl
                  have b2 : ((d.toNat : Int) != 92) = false := by rw [h92]; rfl
                  have hw0 : wantN t p6 92 = 0 := by rw [wantN, if_pos ha1, HD.out, h92, if_pos rfl]
                  have HW0 := Lib.hid hw0
                  clear h92 hw0
                  by_cases ha2 : p7 < t.length
                  · have a2 : (p7 : Int) < (t.length : Int) := by omega
                    have a2' : ¬ (t.length : Int) ≤ (p7 : Int) := by omega
                    have a3 : (0 : Int) ≤ (p7 : Int) := by omega
                    obtain ⟨f, hf⟩ : ∃ f, f = t[p7] := ⟨_, rfl⟩
                    have hgf : (ByteArray.mk t.toArray)[p7]'(by simpa [ByteArray.size] using ha2) = f := hf.symm
                    have hf2 : t[p7]? = some f := by rw [hf]; exact List.getElem?_eq_getElem ha2
                    have HF2 := Lib.hid hf2
                    have HP7 := Lib.hid hp7
                    clear hf hf2 hp7
                    by_cases hu1 : f = 117
                    · have b3 : ((f.toNat : Int) != 117) = false := by rw [hu1]; rfl
                      have hw1 : wantN t (p6 + 1) 117 = 0 := by rw [← HP7.out, wantN, if_pos ha2, HF2.out, hu1, if_pos rfl]
                      have HW1 := Lib.hid hw1
                      clear hu1 hw1
                      obtain ⟨p8, hp8⟩ : ∃ p8, p8 = p6 + 2 := ⟨_, rfl⟩
                      have e8 : (p6 : Int) + 2 = (p8 : Int) := by omega
                      have hp8l : p8 ≤ t.length := by have := HP7.out; omega
                      obtain ⟨m, er2, us2, hr2⟩ : ∃ m er us, fourR 4 (t.drop p8) 0 = (m, er, us) := ⟨_, _, _, rfl⟩
                      have hus2 := fourR_used 4 (t.drop p8) 0
                      rw [hr2] at hus2
                      simp only at hus2
                      have hsec : secR t p6 = (m, (if er2 = 0 ∧ (m < 56320 ∨ 57343 < m) then 4 else er2), us2 + 2) := by
                        rw [secR, HW0.out, HW1.out, if_neg (by simp), if_neg (by simp), ← hp8, hr2]
                      have HR2 := Lib.hid hr2
                      have HSEC := Lib.hid hsec
                      have HP8 := Lib.hid hp8
                      have C8 := Lib.hid (fun W => refFour_any t p8 W hp8l (by omega))
                      clear hr2 hsec hp8
                      go_wp2_with fail
                      refine (C8.out _).mono ?_
                      rintro e w2 ⟨rfl, rfl⟩
                      rw [HR2.out]
                      simp only
                      by_cases he2 : er2 = 0
                      · subst he2
                        have hus4 : us2 = 4 := hus2 rfl
                        subst hus4
                        obtain ⟨B, hB⟩ : ∃ B : Int, B = (m : Int) := ⟨_, rfl⟩
                        rw [← hB]
                        by_cases hlo : m < 56320 ∨ 57343 < m
                        · have key : B < 56320 ∨ (¬ B < 56320 ∧ 57343 < B) := by omega
                          have hfin : refEscR t p = ([], 0, 4) := by rw [HF.out, HU2.out, HSEC.out]; simp [hlo]
                          have HFIN := Lib.hid hfin
                          clear hfin hlo hB
                          rcases key with k1 | ⟨k1, k2⟩
                          all_goals
                            go_wp2_with fail
                            go_ret3
                            exact ⟨by rw [HFIN.out]; rfl, Below.refl _ _⟩
                        · have g1 : ¬ B < 56320 := by omega
                          have g2 : ¬ 57343 < B := by omega
                          obtain ⟨cc, hcc⟩ : ∃ cc, cc = 65536 + (n - 55296) * 1024 + (m - 56320) := ⟨_, rfl⟩
                          have hA' : 65536 + (A - 55296) * 1024 + (B - 56320) = (cc : Int) := by
                            have := HA.out; have := HSUR.out; omega
                          have hccb : signB cc = true := signB_big cc (by omega) (by have := HSUR.out; omega)
                          have hccl : cc ≤ 1114111 := by have := HSUR.out; omega
                          have hun : unitR t (p + 2) = (0, 4 + (4 + 2), sb cc) := by
                            rw [HU2.out, HSEC.out]
                            simp only [true_and]
                            rw [if_neg hlo, if_neg (by simp), ← hcc, unitF, if_pos hccb]
                          have hfin : refEscR t p = (sb cc, p6 + 6, 0) := by
                            rw [HF.out, hun]
                            show (sb cc, p + 2 + (4 + (4 + 2)), 0) = _
                            rw [show p + 2 + (4 + (4 + 2)) = p6 + 6 by have := HP6.out; omega]
                          have CT : ∀ W, Calls Tryz.prog 105 #[.int .i64 (cc : Int)] W fun e w' => e = .returned (.tuple #[str (sb cc), .bool true]) ∧ Below W.heap.size W w' := fun W => by
                            have := refText_any (cc : Int) W (by omega) (by omega)
                            rwa [signE_ok cc hccb] at this
                          have HCT := Lib.hid CT
                          have HFIN := Lib.hid hfin
                          have HA2 := Lib.hid hA'
                          clear hfin hlo hB hcc hccb CT hA' hun
                          go_wp2_with fail
                          rw [HA2.out]
                          refine (HCT.out _).mono ?_
                          rintro e w3 ⟨rfl, hb3⟩
                          go_wp2_with fail
                          go_ret3
                          exact ⟨by rw [HFIN.out]; rfl, hb3⟩
                      · have n0 : ((er2 : Int) != 0) = true := by rw [bne_iff_ne]; omega
                        have hfin : refEscR t p = ([], 0, er2) := by rw [HF.out, HU2.out, HSEC.out]; simp [he2]
                        have HFIN := Lib.hid hfin
                        clear hfin he2
                        go_wp2_with fail
                        go_ret3
                        exact ⟨by rw [HFIN.out]; rfl, Below.refl _ _⟩
                    · have b3 : ((f.toNat : Int) != 117) = true := by
                        rw [bne_iff_ne]; intro h; exact hu1 (UInt8.toNat_inj.1 (by simpa using (by omega : f.toNat = 117)))
                      have hw1 : wantN t (p6 + 1) 117 = 4 := by rw [← HP7.out, wantN, if_pos ha2, HF2.out, if_neg (by simpa using hu1)]
                      have hsec : secR t p6 = (0, 4, 1) := by rw [secR, HW0.out, hw1]; rfl
                      have hfin : refEscR t p = ([], 0, 4) := by rw [HF.out, HU2.out, hsec]; rfl
                      have HFIN := Lib.hid hfin
                      clear hfin hsec hw1 hu1
                      go_wp2_with fail
                      go_ret3
                      exact ⟨by rw [HFIN.out]; rfl, Below.refl _ _⟩
                  · have a2 : (t.length : Int) ≤ (p7 : Int) := by omega
                    have a2' : ¬ (p7 : Int) < (t.length : Int) := by omega
                    have hw1 : wantN t (p6 + 1) 117 = 2 := by rw [← hp7, wantN, if_neg ha2]
                    have hsec : secR t p6 = (0, 2, 1) := by rw [secR, HW0.out, hw1]; rfl
                    have hfin : refEscR t p = ([], 0, 2) := by rw [HF.out, HU2.out, hsec]; rfl
                    have HFIN := Lib.hid hfin
                    clear hfin hsec hw1 hp7
                    go_wp2_with fail
                    go_ret3
                    exact ⟨by rw [HFIN.out]; rfl, Below.refl _ _⟩
                · have b1 : ((d.toNat : Int) == 92) = false := by
                    rw [beq_eq_false_iff_ne]; intro h; exact h92 (UInt8.toNat_inj.1 (by simpa using (by omega : d.toNat = 92)))
                  have b2 : ((d.toNat : Int) != 92) = true := by
                    rw [bne_iff_ne]; intro h; exact h92 (UInt8.toNat_inj.1 (by simpa using (by omega : d.toNat = 92)))
                  have hw0 : wantN t p6 92 = 4 := by rw [wantN, if_pos ha1, HD.out, if_neg (by simpa using h92)]
                  have hsec : secR t p6 = (0, 4, 0) := by rw [secR, hw0]; rfl
                  have hfin : refEscR t p = ([], 0, 4) := by rw [HF.out, HU2.out, hsec]; rfl
                  have HFIN := Lib.hid hfin
                  clear hfin hsec hw0 h92
                  rcases (show (p7 : Int) < (t.length : Int) ∨ (t.length : Int) ≤ (p7 : Int) by omega) with a2 | a2
                  all_goals
                    clear hp7
                    go_wp2_with fail
                    go_ret3
                    exact ⟨by rw [HFIN.out]; rfl, Below.refl _ _⟩
              · have a1 : (t.length : Int) ≤ (p6 : Int) := by omega
                have hw0 : wantN t p6 92 = 2 := by rw [wantN, if_neg ha1]
                have hsec : secR t p6 = (0, 2, 0) := by rw [secR, hw0]; rfl
                have hfin : refEscR t p = ([], 0, 2) := by rw [HF.out, HU2.out, hsec]; rfl
                have HFIN := Lib.hid hfin
                clear hfin hsec hw0
                go_wp2_with fail
                go_ret3
                exact ⟨by rw [HFIN.out]; rfl, Below.refl _ _⟩
            · have key : A < 55296 ∨ (55296 ≤ A ∧ 56319 < A) := by omega
              have hu2 : unitR t (p + 2) = unitF n 4 := by rw [HU.out, if_neg (by simp), if_neg hsur]
              have hnb : n ≤ 65536 := by omega
              cases hsb : signB n
              · have hfin : refEscR t p = ([], 0, 4) := by rw [HF.out, hu2, unitF, hsb]; rfl
                have CT : ∀ W, Calls Tryz.prog 105 #[.int .i64 A] W fun e w' => e = .returned (.tuple #[str [], .bool false]) ∧ Below W.heap.size W w' := fun W => by
                  have := refText_any (n : Int) W (by omega) (by omega)
                  rw [signE_no n hsb] at this
                  rw [HA.out]; exact this
                have HCT := Lib.hid CT
                have HFIN := Lib.hid hfin
                clear hfin CT hu2 hsb hA hn hsur hp6
                rcases key with k1 | ⟨k1, k2⟩
                all_goals
                  go_wp2_with fail
                  refine (HCT.out _).mono ?_
                  rintro e w3 ⟨rfl, hb3⟩
                  go_wp2_with fail
                  go_ret3
                  exact ⟨by rw [HFIN.out]; rfl, hb3⟩
              · have hfin : refEscR t p = (sb n, p6, 0) := by
                  rw [HF.out, hu2, unitF, hsb]
                  show (sb n, p + 2 + 4, 0) = _
                  rw [show p + 2 + 4 = p6 by have := HP6.out; omega]
                have CT : ∀ W, Calls Tryz.prog 105 #[.int .i64 A] W fun e w' => e = .returned (.tuple #[str (sb n), .bool true]) ∧ Below W.heap.size W w' := fun W => by
                  have := refText_any (n : Int) W (by omega) (by omega)
                  rw [signE_ok n hsb] at this
                  rw [HA.out]; exact this
                have HCT := Lib.hid CT
                have HFIN := Lib.hid hfin
                clear hfin CT hu2 hsb hA hn hsur hp6
                rcases key with k1 | ⟨k1, k2⟩
                all_goals
                  go_wp2_with fail
                  refine (HCT.out _).mono ?_
                  rintro e w3 ⟨rfl, hb3⟩
                  go_wp2_with fail
                  go_ret3
                  exact ⟨by rw [HFIN.out]; rfl, hb3⟩
          · have n0 : ((er : Int) != 0) = true := by rw [bne_iff_ne]; omega
            have hfin : refEscR t p = ([], 0, er) := by rw [HF.out, HU.out]; simp [he]
            have HFIN := Lib.hid hfin
            clear hfin he
            go_wp2_with fail
            go_ret3
            exact ⟨by rw [HFIN.out]; rfl, Below.refl _ _⟩
        · have m2 : ((c.toNat : Int) != 117) = true := by
            rw [bne_iff_ne]; intro h; exact h117 (UInt8.toNat_inj.1 (by simpa using (by omega : c.toNat = 117)))
          have hfin : refEscR t p = ([], 0, 4) := by rw [refEscR, HESC.out, if_neg h117, hmf]; rfl
          have HF := Lib.hid hfin
          clear hfin h117 h47 hmf
          go_wp2_with fail
          go_ret3
          exact ⟨by rw [HF.out]; rfl, Below.refl _ _⟩
  · have hfin : refEscR t p = ([], 0, 2) := by
      have : escR t (p + 1) = (2, 0, []) := by rw [escR, List.getElem?_eq_none (by omega)]
      rw [refEscR, this]; rfl
    have HF := Lib.hid hfin
    have e3 : (t.length : Int) ≤ (p : Int) + 1 := by omega
    clear hfin
    go_enter Tryz.func86, Tryz.ntmps86
    go_wp2_with fail
    go_ret3
    exact ⟨by rw [HF.out]; rfl, Below.refl _ _⟩
section
attribute [local go_sem] str_cat
attribute [local go_sem] str_cat
theorem escR_err (t : List UInt8) (p : Nat) : (refEscR t p).2.2 = (escR t (p + 1)).1 := by
  unfold refEscR
  split
  · next h => exact h.symm
  · rfl
set_option maxRecDepth 100000 in
set_option maxHeartbeats 6400000 in
theorem refUnquote_any (t : List UInt8) (a : Int) (w : World) (hl : t.length ≤ 17592186044416) :
    Calls Tryz.prog 69 #[str t, .int .i64 a] w fun e w' => e = unqE (unqR t a) ∧ Below w.heap.size w w' := by
  by_cases h1 : a < 0
  · have hv : unqR t a = ([], 0, 1) := by rw [unqR, if_pos (.inl h1)]
    rw [hv]
    clear hv
    go_enter Tryz.func69, Tryz.ntmps69
    go_wp2_with fail
    go_ret3
    exact ⟨rfl, Below.refl _ _⟩
  by_cases h2 : (t.length : Int) < a
  · have hv : unqR t a = ([], 0, 1) := by rw [unqR, if_pos (.inr h2)]
    rw [hv]
    clear hv
    go_enter Tryz.func69, Tryz.ntmps69
    go_wp2_with fail
    go_ret3
    exact ⟨rfl, Below.refl _ _⟩
  obtain ⟨p, rfl⟩ := Int.eq_ofNat_of_zero_le (show 0 ≤ a by omega)
  have hp : p ≤ t.length := by omega
  have g1 : (0 : Int) ≤ (p : Int) := by omega
  have g2 : (p : Int) ≤ (t.length : Int) := by omega
  have hu : unqR t (p : Int) = if wantN t p 34 ≠ 0 then ([], 0, wantN t p 34) else unqF (t.length + 1) t (p + 1) [] := by rw [unqR, if_neg (by omega)]; rfl
  have HU := Lib.hid hu
  clear hu h1 h2
  by_cases hlt : p < t.length
  · have n1 : ((p : Int) == (t.length : Int)) = false := by rw [beq_eq_false_iff_ne]; omega
    have n2 : (p : Int) < (t.length : Int) := by omega
    obtain ⟨d, hd⟩ : ∃ d, d = t[p] := ⟨_, rfl⟩
    have hgd : (ByteArray.mk t.toArray)[p]'(by simpa [ByteArray.size] using hlt) = d := hd.symm
    have hd' : t[p]? = some d := by rw [hd]; exact List.getElem?_eq_getElem hlt
    have HD := Lib.hid hd'
    clear hd hd'
    by_cases h34 : d = 34
    · have n4 : ((d.toNat : Int) != 34) = false := by rw [h34]; rfl
      have hw : wantN t p 34 = 0 := by rw [wantN, if_pos hlt, HD.out, h34, if_pos rfl]
      have hv : unqR t (p : Int) = unqF (t.length + 1) t (p + 1) [] := by rw [HU.out, hw, if_neg (by simp)]
      have HV := Lib.hid hv
      have x1 : decide (t.length < p) = false := by simp; omega
      have x2 : decide ((p : Int) < 0) = false := by simp
      clear hv hw h34
      go_enter Tryz.func69, Tryz.ntmps69
      go_wp2_with fail
      go_loopw [1, 7] (fun i s wr => ∃ (f q : Nat) (o : List UInt8), i = .int .i64 (q : Int) ∧ s = str o ∧ t.length - q < f ∧ q ≤ t.length ∧ o.length ≤ 4 * q ∧ Below w.heap.size w wr ∧ Hid (unqR t (p : Int) = unqF f t q o))
        (fun i _ _ => t.length - (intOf i).toNat)
      case atStart => exact ⟨t.length + 1, p + 1, [], by go_num, rfl, by omega, by omega, by simp, Below.refl _ _, HV⟩
      case round =>
        obtain ⟨f, q, o, rfl, rfl, hf, hq, ho, hb, hr⟩ := hrel
        obtain ⟨f, rfl⟩ : ∃ g, f = g + 1 := ⟨f - 1, by omega⟩
        have hr2 := hr.out
        rw [unqF] at hr2
        have hus := stepR_use t q hq
        have hpos := stepR_pos t q
        have HR := Lib.hid hr2
        have HUS := Lib.hid hus
        have HPOS := Lib.hid hpos
        clear hr hr2 hus hpos
        by_cases hqt : q < t.length
        · have q2 : (q : Int) < (t.length : Int) := by omega
          have q3 : (0 : Int) ≤ (q : Int) := by omega
          obtain ⟨c, hc⟩ : ∃ c, c = t[q] := ⟨_, rfl⟩
          have hgc : (ByteArray.mk t.toArray)[q]'(by simpa [ByteArray.size] using hqt) = c := hc.symm
          have hc' : t[q]? = some c := by rw [hc]; exact List.getElem?_eq_getElem hqt
          have hstep : stepR t q = (if c = 34 then (true, 0, 1, [])
            else if c = 92 then (false, (escR t (q + 1)).1, (escR t (q + 1)).2.1 + 1, (escR t (q + 1)).2.2)
            else if (sgn (t.drop q)).2 = 0 ∨ (sgn (t.drop q)).1 < 32 then (false, 4, 0, [])
            else (false, 0, (sgn (t.drop q)).2, (t.drop q).take (sgn (t.drop q)).2)) := by rw [stepR, hc']
          have HST := Lib.hid hstep
          have hc255 := c.toNat_lt
          have hdrop : t.drop q = c :: t.drop (q + 1) := by rw [hc]; exact List.drop_eq_getElem_cons hqt
          have HDR := Lib.hid hdrop
          clear hc hc' hstep hdrop
          by_cases hc34 : c = 34
          · have m1 : ((c.toNat : Int) == 34) = true := by rw [hc34]; rfl
            have hs : stepR t q = (true, 0, 1, []) := by rw [HST.out, if_pos hc34]
            have hv : unqR t (p : Int) = (o, q + 1, 0) := by rw [HR.out, hs]; simp
            have HV := Lib.hid hv
            clear hv hs hc34
            go_wp2_with fail
            go_ret3
            exact ⟨by rw [HV.out]; rfl, hb⟩
          have m1 : ((c.toNat : Int) == 34) = false := by
            rw [beq_eq_false_iff_ne]; intro h; exact hc34 (UInt8.toNat_inj.1 (by simpa using (by omega : c.toNat = 34)))
          by_cases hc92 : c = 92
          · have m2 : ((c.toNat : Int) == 92) = true := by rw [hc92]; rfl
            have hs : stepR t q = (false, (escR t (q + 1)).1, (escR t (q + 1)).2.1 + 1, (escR t (q + 1)).2.2) := by rw [HST.out, if_neg hc34, if_pos hc92]
            obtain ⟨er, us, by_, he⟩ : ∃ er us by_, escR t (q + 1) = (er, us, by_) := ⟨_, _, _, rfl⟩
            rw [he] at hs
            simp only at hs
            have hus := HUS.out
            rw [hs] at hus
            simp only at hus
            have HE := Lib.hid he
            by_cases he0 : er = 0
            · subst he0
              have hre : refEscR t q = (by_, q + 1 + us, 0) := by rw [refEscR, he]; rfl
              have hv : unqR t (p : Int) = unqF f t (q + 1 + us) (o ++ by_) := by
                rw [HR.out, hs]; simp only; rw [if_neg (by simp), if_neg (by simp), show q + (us + 1) = q + 1 + us by omega]
              have hcat := str_cat o by_
              have q5 : ¬ (9223372036854775807 < o.length + by_.length) := by omega
              have HRE := Lib.hid hre
              have HV := Lib.hid hv
              obtain ⟨qn, hqn⟩ : ∃ qn, qn = q + 1 + us := ⟨_, rfl⟩
              have HQN := Lib.hid hqn
              have CE : ∀ W, Calls Tryz.prog 86 #[str t, .int .i64 (q : Int)] W fun e w' => e = .returned (.tuple #[str by_, .int .i64 (qn : Int), .int .i64 0]) ∧ Below W.heap.size W w' := fun W => by
                have := refEscape_any t q W hqt (by omega)
                rw [hre, ← hqn] at this
                exact this
              have HCE := Lib.hid CE
              clear hv hs hc34 hc92 he hre CE hqn
              go_wp2_with fail
              refine (HCE.out _).mono ?_
              rintro e w2 ⟨rfl, hb2⟩
              go_wp2_with fail
              go_roundw
              case rel => exact ⟨f, qn, o ++ by_, rfl, rfl, by have := HQN.out; omega, by have := HQN.out; omega, by have := HQN.out; rw [List.length_append]; omega, hb.trans (hb2.mono hb.size), by rw [HQN.out]; exact HV⟩
              case measure => have := HQN.out; simp [intOf]; omega
            · have n0 : ((er : Int) != 0) = true := by rw [bne_iff_ne]; omega
              have hre : refEscR t q = ([], 0, er) := by rw [refEscR, he, if_neg he0]
              have hv : unqR t (p : Int) = ([], 0, er) := by rw [HR.out, hs]; simp only; rw [if_pos he0]
              have HV := Lib.hid hv
              have CE : ∀ W, Calls Tryz.prog 86 #[str t, .int .i64 (q : Int)] W fun e w' => e = .returned (.tuple #[str [], .int .i64 0, .int .i64 (er : Int)]) ∧ Below W.heap.size W w' := fun W => by
                have := refEscape_any t q W hqt (by omega)
                rw [hre] at this
                exact this
              have HCE := Lib.hid CE
              clear hv hs hc34 hc92 he hre CE he0
              go_wp2_with fail
              refine (HCE.out _).mono ?_
              rintro e w2 ⟨rfl, hb2⟩
              go_wp2_with fail
              go_ret3
              exact ⟨by rw [HV.out]; rfl, hb.trans (hb2.mono hb.size)⟩
          have m2 : ((c.toNat : Int) == 92) = false := by
            rw [beq_eq_false_iff_ne]; intro h; exact hc92 (UInt8.toNat_inj.1 (by simpa using (by omega : c.toNat = 92)))
          have hle := sgn_le (t.drop q)
          rw [List.length_drop] at hle
          have hge32 : (sgn (t.drop q)).2 ≠ 0 → ((sgn (t.drop q)).1 < 32 ↔ c.toNat < 32) := by
            rw [HDR.out]
            intro hz
            by_cases h128 : c.toNat < 128
            · rw [sgn_small c _ h128]
            · obtain ⟨k, least, acc, a, h1, h2, h3, h4⟩ := sgn_big c _ (by omega) hz
              rw [h1]; simp only; omega
          obtain ⟨x, z, hxz⟩ : ∃ x z, sgn (t.drop q) = (x, z) := ⟨_, _, rfl⟩
          have hs := HST.out
          rw [if_neg hc34, if_neg hc92, hxz] at hs
          rw [hxz] at hle hge32
          simp only at hle hge32 hs
          have CS : ∀ W, Calls Tryz.prog 87 #[str t, .int .i64 (q : Int)] W fun e w' => e = .returned (.tuple #[.int .i64 (x : Int), .int .i64 (z : Int), .bool (decide (z ≠ 0))]) ∧ w' = W := fun W => by
            have := refSign_any t q W hqt (by omega)
            rw [hxz] at this
            exact this
          have HG := Lib.hid hge32
          have HS := Lib.hid hs
          clear hc34 hc92 hxz hs hge32
          by_cases hz : z = 0
          · have hs2 : stepR t q = (false, 4, 0, []) := by rw [HS.out, if_pos (.inl hz)]
            have hv : unqR t (p : Int) = ([], 0, 4) := by rw [HR.out, hs2]; rfl
            rw [show decide (z ≠ 0) = false by simp [hz]] at CS
            have HCS := Lib.hid CS
            have HV := Lib.hid hv
            clear hv hz CS hs2
            go_wp2_with fail
            refine (HCS.out _).mono ?_
            rintro e w2 ⟨rfl, rfl⟩
            go_wp2_with fail
            go_ret3
            exact ⟨by rw [HV.out]; rfl, hb⟩
          rw [show decide (z ≠ 0) = true by simp [hz]] at CS
          have HCS := Lib.hid CS
          clear CS
          by_cases h32 : c.toNat < 32
          · have m3 : (c.toNat : Int) < 32 := by omega
            have hs2 : stepR t q = (false, 4, 0, []) := by rw [HS.out, if_pos (.inr ((HG.out hz).2 h32))]
            have hv : unqR t (p : Int) = ([], 0, 4) := by rw [HR.out, hs2]; rfl
            have HV := Lib.hid hv
            clear hv hz hs2
            go_wp2_with fail
            refine (HCS.out _).mono ?_
            rintro e w2 ⟨rfl, rfl⟩
            go_wp2_with fail
            go_ret3
            exact ⟨by rw [HV.out]; rfl, hb⟩
          · have m3 : ¬ (c.toNat : Int) < 32 := by omega
            obtain ⟨y, hy⟩ : ∃ y, y = (t.drop q).take z := ⟨_, rfl⟩
            have hylen : y.length = z := by rw [hy]; simp; omega
            have hs2 : stepR t q = (false, 0, z, y) := by rw [HS.out, if_neg (by rintro (h | h); exact hz h; exact h32 ((HG.out hz).1 h)), hy]
            have hv : unqR t (p : Int) = unqF f t (q + z) (o ++ y) := by rw [HR.out, hs2]; rfl
            have hcat := str_cat o y
            have hcut : (ByteArray.mk t.toArray).extract q (q + z) = ByteArray.mk y.toArray := by rw [str_cut, hy]; simp
            have q5 : ¬ (9223372036854775807 < o.length + y.length) := by omega
            have q6 : (q : Int) + (z : Int) ≤ (t.length : Int) := by omega
            have q7 : (q : Int) ≤ (q : Int) + (z : Int) := by omega
            have q8 : ((q : Int) + (z : Int)).toNat = q + z := by omega
            have q9 : (0 : Int) ≤ (q : Int) + (z : Int) := by omega
            have HV := Lib.hid hv
            have HYL := Lib.hid hylen
            have q10 : IntKind.i64.wrap ((q : Int) + (z : Int)) = (q : Int) + (z : Int) := IntWalk.i64_in _ ⟨by omega, by omega⟩
            have HZ := Lib.hid hz
            clear hv hy hylen hz hs2
            go_wp2_with fail
            refine (HCS.out _).mono ?_
            rintro e w2 ⟨rfl, rfl⟩
            go_wp2_with fail
            go_roundw
            case rel => exact ⟨f, q + z, o ++ y, by go_num, rfl, by have := HZ.out; omega, by omega, by rw [List.length_append, HYL.out]; omega, hb, HV⟩
            case measure => have := HZ.out; clear q10; simp [intOf]; omega
        · have q2 : ¬ (q : Int) < (t.length : Int) := by omega
          have hs : stepR t q = (false, 2, 0, []) := by rw [stepR, List.getElem?_eq_none (by omega)]
          have hv : unqR t (p : Int) = ([], 0, 2) := by rw [HR.out, hs]; rfl
          have HV := Lib.hid hv
          clear hv hs
          go_wp2_with fail
          go_ret3
          exact ⟨by rw [HV.out]; rfl, hb⟩
    · have n4 : ((d.toNat : Int) != 34) = true := by
        rw [bne_iff_ne]; intro h; exact h34 (UInt8.toNat_inj.1 (by simpa using (by omega : d.toNat = 34)))
      have hw : wantN t p 34 = 4 := by rw [wantN, if_pos hlt, HD.out, if_neg (by simpa using h34)]
      have hv : unqR t (p : Int) = ([], 0, 4) := by rw [HU.out, hw]; rfl
      have HV := Lib.hid hv
      clear hv hw h34
      go_enter Tryz.func69, Tryz.ntmps69
      go_wp2_with fail
      go_ret3
      exact ⟨by rw [HV.out]; rfl, Below.refl _ _⟩
  · obtain rfl : p = t.length := by omega
    have n1 : ((t.length : Int) == (t.length : Int)) = true := beq_self_eq_true _
    have hw : wantN t t.length 34 = 2 := by rw [wantN, if_neg hlt]
    have hv : unqR t (t.length : Int) = ([], 0, 2) := by rw [HU.out, hw]; rfl
    have HV := Lib.hid hv
    clear hv hw
    go_enter Tryz.func69, Tryz.ntmps69
    go_wp2_with fail
    go_ret3
    exact ⟨by rw [HV.out]; rfl, Below.refl _ _⟩
end
end Go.Proofs.YtidlhajibjnkeaaGreatDoor
