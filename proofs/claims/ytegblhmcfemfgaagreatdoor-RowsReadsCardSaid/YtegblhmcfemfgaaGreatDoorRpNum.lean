import Derived.Test.YtegblhmcfemfgaaGreatDoorRQuo
import Derived.Test.YtegblhmcfemfgaaGreatDoorUnquote
import Derived.Test.YtegblhmcfemfgaaGreatDoorSgMath
import Derived.Deep.RegionHeld3
import Derived.Test.YtegblhmcfemfgaaGreatDoorJVal
import Derived.Test.YtegblhmcfemfgaaGreatDoorBl
import Derived.Test.YtegblhmcfemfgaaGreatDoorWTake
import Derived.Deep.LoopGhost
import Derived.Deep.CutRange
set_option maxRecDepth 100000
set_option maxHeartbeats 12800000
namespace Go.Proofs.YtegblhmcfemfgaaGreatDoor
open Go.RowKit

def signR (c : Int) : List UInt8 × Bool := if 0 ≤ c ∧ signB c.toNat = true then (sb c.toNat, true) else ([], false)
def signE (r : List UInt8 × Bool) : Ending := .returned (.tuple #[str r.1, .bool r.2])
attribute [local go_sem] str_cat
def bad (a : Int) : Prop := a < 0 ∨ 1114111 < a ∨ (55296 ≤ a ∧ a ≤ 57343)
theorem signR_bad (a : Int) (h : bad a) : signR a = ([], false) := by
 rw [signR, if_neg]
 rintro ⟨h1, h2⟩
 have := (signB_iff a.toNat).1 h2
 rcases h with h | h | h <;> omega
theorem signR_good (n : Nat) (h : signB n = true) : signR (n : Int) = (sb n, true) := by
 rw [signR, if_pos ⟨by omega, by simpa using h⟩]; rfl
theorem refDigit_any (c : UInt8) (w : World) : Calls Tryz.prog 179 #[.int .u8 (c.toNat : Int)] w fun e w' => e = refDE c ∧ w' = w := by
 have hc := c.toNat_lt
 have key : (∃ v : Int, refDE c = .returned (.int .i64 v) ∧ (((48 : Int) ≤ (c.toNat : Int) ∧ (c.toNat : Int) ≤ 57 ∧ v = (c.toNat : Int) - 48) ∨ ((97 : Int) ≤ (c.toNat : Int) ∧ (c.toNat : Int) ≤ 102 ∧ v = (c.toNat : Int) - 97 + 10) ∨
  ((65 : Int) ≤ (c.toNat : Int) ∧ (c.toNat : Int) ≤ 70 ∧ v = (c.toNat : Int) - 65 + 10) ∨ (((c.toNat : Int) < 48 ∨ (57 < (c.toNat : Int) ∧ (c.toNat : Int) < 65) ∨ (70 < (c.toNat : Int) ∧ (c.toNat : Int) < 97) ∨ 102 < (c.toNat : Int)) ∧ v = -1))) := by
  refine ⟨refD c, rfl, ?_⟩
  unfold refD
  split
  · omega
  split
  · omega
  split <;> omega
 obtain ⟨v, hv, hcase⟩ := key
 have HV := Lib.hid hv
 clear hv
 rcases hcase with ⟨h1, h2, rfl⟩ | ⟨h1, h2, rfl⟩ | ⟨h1, h2, rfl⟩ | ⟨h, rfl⟩
 · go_enter Tryz.func179, Tryz.ntmps179
   go_wp2
   go_ret
   exact ⟨HV.out.symm, rfl⟩
 · have h3 : (48 : Int) ≤ (c.toNat : Int) := by omega
   have h4 : ¬ (c.toNat : Int) ≤ 57 := by omega
   go_enter Tryz.func179, Tryz.ntmps179
   go_wp2
   go_ret
   exact ⟨HV.out.symm, rfl⟩
 · have h3 : (48 : Int) ≤ (c.toNat : Int) := by omega
   have h4 : ¬ (c.toNat : Int) ≤ 57 := by omega
   have h5 : ¬ (97 : Int) ≤ (c.toNat : Int) := by omega
   go_enter Tryz.func179, Tryz.ntmps179
   go_wp2
   go_ret
   exact ⟨HV.out.symm, rfl⟩
 rcases h with h | ⟨h1, h2⟩ | ⟨h1, h2⟩ | h
 · have h4 : ¬ (48 : Int) ≤ (c.toNat : Int) := by omega
   have h5 : ¬ (97 : Int) ≤ (c.toNat : Int) := by omega
   have h6 : ¬ (65 : Int) ≤ (c.toNat : Int) := by omega
   go_enter Tryz.func179, Tryz.ntmps179
   go_wp2
   go_ret
   exact ⟨HV.out.symm, rfl⟩
 · have h3 : (48 : Int) ≤ (c.toNat : Int) := by omega
   have h4 : ¬ (c.toNat : Int) ≤ 57 := by omega
   have h5 : ¬ (97 : Int) ≤ (c.toNat : Int) := by omega
   have h6 : ¬ (65 : Int) ≤ (c.toNat : Int) := by omega
   go_enter Tryz.func179, Tryz.ntmps179
   go_wp2
   go_ret
   exact ⟨HV.out.symm, rfl⟩
 · have h3 : (48 : Int) ≤ (c.toNat : Int) := by omega
   have h4 : ¬ (c.toNat : Int) ≤ 57 := by omega
   have h5 : ¬ (97 : Int) ≤ (c.toNat : Int) := by omega
   have h6 : (65 : Int) ≤ (c.toNat : Int) := by omega
   have h7 : ¬ (c.toNat : Int) ≤ 70 := by omega
   go_enter Tryz.func179, Tryz.ntmps179
   go_wp2
   go_ret
   exact ⟨HV.out.symm, rfl⟩
 have h3 : (48 : Int) ≤ (c.toNat : Int) := by omega
 have h4 : ¬ (c.toNat : Int) ≤ 57 := by omega
 have h5 : (97 : Int) ≤ (c.toNat : Int) := by omega
 have h5' : ¬ (c.toNat : Int) ≤ 102 := by omega
 have h6 : (65 : Int) ≤ (c.toNat : Int) := by omega
 have h7 : ¬ (c.toNat : Int) ≤ 70 := by omega
 go_enter Tryz.func179, Tryz.ntmps179
 go_wp2
 go_ret
 exact ⟨HV.out.symm, rfl⟩
theorem refDigit_ret (c : UInt8) (w : World) : Calls Tryz.prog 179 #[.int .u8 (c.toNat : Int)] w fun e w' => e = .returned (.int .i64 (refD c)) ∧ w' = w := refDigit_any c w
theorem refText_any (c : Int) (w : World) (_h1 : -9223372036854775808 ≤ c) (_h2 : c ≤ 9223372036854775807) :
 Calls Tryz.prog 168 #[.int .i64 c] w fun e w' => e = signE (signR c) ∧ Below w.heap.size w w' := by
 by_cases hbad : bad c
 · rw [signR_bad c hbad]
   have key : c < 0 ∨ (¬ c < 0 ∧ 1114111 < c) ∨ (¬ c < 0 ∧ ¬ 1114111 < c ∧ 55296 ≤ c ∧ c ≤ 57343) := by unfold bad at hbad; omega
   clear hbad
   rcases key with k1 | ⟨k1, k2⟩ | ⟨k1, k2, k3, k4⟩
   all_goals
    go_enter Tryz.func168, Tryz.ntmps168
    go_wp2_with fail
    go_ret2
    exact ⟨rfl, Below.refl _ _⟩
 obtain ⟨n, hn⟩ : ∃ n : Nat, (n : Int) = c := ⟨c.toNat, by unfold bad at hbad; omega⟩
 have hsg : signB n = true := (signB_iff n).2 (by unfold bad at hbad; omega)
 have hsr : signR c = (sb n, true) := by rw [← hn]; exact signR_good n hsg
 rw [hsr]
 have k1 : ¬ c < 0 := by unfold bad at hbad; omega
 have k2 : ¬ 1114111 < c := by unfold bad at hbad; omega
 have k3 : ¬ 55296 ≤ c ∨ (55296 ≤ c ∧ ¬ c ≤ 57343) := by unfold bad at hbad; omega
 have HN := Lib.hid hn
 clear hsr hbad hsg
 have hcs : c < 128 ∨ (¬ c < 128 ∧ c < 2048) ∨ (¬ c < 128 ∧ ¬ c < 2048 ∧ c < 65536) ∨ (¬ c < 128 ∧ ¬ c < 2048 ∧ ¬ c < 65536) := by omega
 rcases hcs with m1 | ⟨m1, m2⟩ | ⟨m1, m2, m3⟩ | ⟨m1, m2, m3⟩
 · have hsb : sb n = [UInt8.ofNat n] := by rw [sb, if_pos (by omega)]
   have HSB := Lib.hid hsb
   have hw1 : IntKind.u8.wrap c = ((UInt8.ofNat n).toNat : Int) := by rw [oN n (by omega), hn]; exact IntWalk.u8_in _ ⟨by omega, by omega⟩
   obtain ⟨z, hz⟩ : ∃ z, z = UInt8.ofNat n := ⟨_, rfl⟩
   rw [← hz] at hw1
   have HSB1 : Hid (sb n = [z]) := by rw [hz]; exact HSB
   have hconv := fun W => bt.toString (S := 9) Tryz.underlying9 (Rd.one 5 W z _ rfl)
   clear hsb hn hz HSB
   rcases k3 with k3 | ⟨k3, k4⟩
   all_goals try (exfalso; omega)
   all_goals
    go_enter Tryz.func168, Tryz.ntmps168
    go_wp2_with fail
    go_ret2
    exact ⟨by rw [HSB1.out]; rfl, below_alloc _ _⟩
 · have hsb : sb n = [UInt8.ofNat (192 + n / 64), UInt8.ofNat (128 + n % 64)] := by rw [sb, if_neg (by omega), if_pos (by omega)]
   have HSB := Lib.hid hsb
   have o0 : bits .or .i64 192 (c / 64) = ((192 + n / 64 : Nat) : Int) := by
    rw [← hn, show ((n : Int) / 64) = ((n / 64 : Nat) : Int) by omega]
    exact orI 192 3 6 _ (by decide) (by omega) (by omega)
   have v0 : IntKind.u8.wrap ((192 + n / 64 : Nat) : Int) = ((UInt8.ofNat (192 + n / 64)).toNat : Int) := by rw [oN _ (by omega)]; exact IntWalk.u8_in _ ⟨by omega, by omega⟩
   have a9 : bits .and .i64 c 63 = ((n % 64 : Nat) : Int) := by
    rw [← hn]
    exact andI n 63 6 (by decide) (by omega) (by decide)
   have o9 : bits .or .i64 128 ((n % 64 : Nat) : Int) = ((128 + n % 64 : Nat) : Int) := orI 128 1 7 _ (by decide) (by omega) (by omega)
   have v9 : IntKind.u8.wrap ((128 + n % 64 : Nat) : Int) = ((UInt8.ofNat (128 + n % 64)).toNat : Int) := by rw [oN _ (by omega)]; exact IntWalk.u8_in _ ⟨by omega, by omega⟩
   obtain ⟨r9, hr9⟩ : ∃ r, r = n % 64 := ⟨_, rfl⟩
   obtain ⟨s0, hs0⟩ : ∃ r, r = 192 + n / 64 := ⟨_, rfl⟩
   rw [← hs0] at o0 v0
   rw [← hr9] at a9 o9 v9
   obtain ⟨s9, hs9⟩ : ∃ r, r = 128 + r9 := ⟨_, rfl⟩
   rw [← hs9] at o9 v9
   obtain ⟨z0, hz0⟩ : ∃ z, z = UInt8.ofNat s0 := ⟨_, rfl⟩
   rw [← hz0] at v0
   obtain ⟨z9, hz9⟩ : ∃ z, z = UInt8.ofNat s9 := ⟨_, rfl⟩
   rw [← hz9] at v9
   have hconv := fun W => bt.toString (S := 9) Tryz.underlying9 (Rd.two 5 W z0 z9 _ _ W.heap.size rfl rfl rfl)
   have HSB2 : Hid (sb n = [z0, z9]) := by
    have h := HSB.out
    rw [← hs0, ← hr9, ← hs9, ← hz0, ← hz9] at h
    exact h
   clear hsb hn hz0 hz9 hs0 hs9 hr9 HSB
   unfold bv at hconv
   rcases k3 with k3 | ⟨k3, k4⟩
   all_goals try (exfalso; omega)
   all_goals
    go_enter Tryz.func168, Tryz.ntmps168
    go_wp2_with fail
    go_ret2
    exact ⟨by rw [HSB2.out]; rfl, below_alloc _ _⟩
 · have hsb : sb n = [UInt8.ofNat (224 + n / 4096), UInt8.ofNat (128 + n / 64 % 64), UInt8.ofNat (128 + n % 64)] := by rw [sb, if_neg (by omega), if_neg (by omega), if_pos (by omega)]
   have HSB := Lib.hid hsb
   have o0 : bits .or .i64 224 (c / 4096) = ((224 + n / 4096 : Nat) : Int) := by
    rw [← hn, show ((n : Int) / 4096) = ((n / 4096 : Nat) : Int) by omega]
    exact orI 224 7 5 _ (by decide) (by omega) (by omega)
   have v0 : IntKind.u8.wrap ((224 + n / 4096 : Nat) : Int) = ((UInt8.ofNat (224 + n / 4096)).toNat : Int) := by rw [oN _ (by omega)]; exact IntWalk.u8_in _ ⟨by omega, by omega⟩
   have a1 : bits .and .i64 (c / 64) 63 = ((n / 64 % 64 : Nat) : Int) := by
    rw [← hn, show ((n : Int) / 64) = ((n / 64 : Nat) : Int) by omega]
    exact andI (n / 64) 63 6 (by decide) (by omega) (by decide)
   have o1 : bits .or .i64 128 ((n / 64 % 64 : Nat) : Int) = ((128 + n / 64 % 64 : Nat) : Int) := orI 128 1 7 _ (by decide) (by omega) (by omega)
   have v1 : IntKind.u8.wrap ((128 + n / 64 % 64 : Nat) : Int) = ((UInt8.ofNat (128 + n / 64 % 64)).toNat : Int) := by rw [oN _ (by omega)]; exact IntWalk.u8_in _ ⟨by omega, by omega⟩
   have a9 : bits .and .i64 c 63 = ((n % 64 : Nat) : Int) := by
    rw [← hn]
    exact andI n 63 6 (by decide) (by omega) (by decide)
   have o9 : bits .or .i64 128 ((n % 64 : Nat) : Int) = ((128 + n % 64 : Nat) : Int) := orI 128 1 7 _ (by decide) (by omega) (by omega)
   have v9 : IntKind.u8.wrap ((128 + n % 64 : Nat) : Int) = ((UInt8.ofNat (128 + n % 64)).toNat : Int) := by rw [oN _ (by omega)]; exact IntWalk.u8_in _ ⟨by omega, by omega⟩
   obtain ⟨r1, hr1⟩ : ∃ r, r = n / 64 % 64 := ⟨_, rfl⟩
   obtain ⟨r9, hr9⟩ : ∃ r, r = n % 64 := ⟨_, rfl⟩
   obtain ⟨s0, hs0⟩ : ∃ r, r = 224 + n / 4096 := ⟨_, rfl⟩
   rw [← hs0] at o0 v0
   rw [← hr1] at a1 o1 v1
   obtain ⟨s1, hs1⟩ : ∃ r, r = 128 + r1 := ⟨_, rfl⟩
   rw [← hs1] at o1 v1
   rw [← hr9] at a9 o9 v9
   obtain ⟨s9, hs9⟩ : ∃ r, r = 128 + r9 := ⟨_, rfl⟩
   rw [← hs9] at o9 v9
   obtain ⟨z0, hz0⟩ : ∃ z, z = UInt8.ofNat s0 := ⟨_, rfl⟩
   rw [← hz0] at v0
   obtain ⟨z1, hz1⟩ : ∃ z, z = UInt8.ofNat s1 := ⟨_, rfl⟩
   rw [← hz1] at v1
   obtain ⟨z9, hz9⟩ : ∃ z, z = UInt8.ofNat s9 := ⟨_, rfl⟩
   rw [← hz9] at v9
   have hconv := fun W => bt.toString (S := 9) Tryz.underlying9 (Rd.three 5 W z0 z1 z9 _ _ _ W.heap.size rfl rfl rfl rfl)
   have HSB2 : Hid (sb n = [z0, z1, z9]) := by
    have h := HSB.out
    rw [← hs0, ← hr1, ← hs1, ← hr9, ← hs9, ← hz0, ← hz1, ← hz9] at h
    exact h
   clear hsb hn hz0 hz1 hz9 hs0 hs1 hs9 hr1 hr9 HSB
   unfold bv at hconv
   rcases k3 with k3 | ⟨k3, k4⟩
   all_goals try (exfalso; omega)
   all_goals
    go_enter Tryz.func168, Tryz.ntmps168
    go_wp2_with fail
    go_ret2
    exact ⟨by rw [HSB2.out]; rfl, below_alloc _ _⟩
 have hsb : sb n = [UInt8.ofNat (240 + n / 262144), UInt8.ofNat (128 + n / 4096 % 64), UInt8.ofNat (128 + n / 64 % 64), UInt8.ofNat (128 + n % 64)] := by rw [sb, if_neg (by omega), if_neg (by omega), if_neg (by omega)]
 have HSB := Lib.hid hsb
 have o0 : bits .or .i64 240 (c / 262144) = ((240 + n / 262144 : Nat) : Int) := by
  rw [← hn, show ((n : Int) / 262144) = ((n / 262144 : Nat) : Int) by omega]
  exact orI 240 15 4 _ (by decide) (by omega) (by omega)
 have v0 : IntKind.u8.wrap ((240 + n / 262144 : Nat) : Int) = ((UInt8.ofNat (240 + n / 262144)).toNat : Int) := by rw [oN _ (by omega)]; exact IntWalk.u8_in _ ⟨by omega, by omega⟩
 have a1 : bits .and .i64 (c / 4096) 63 = ((n / 4096 % 64 : Nat) : Int) := by
  rw [← hn, show ((n : Int) / 4096) = ((n / 4096 : Nat) : Int) by omega]
  exact andI (n / 4096) 63 6 (by decide) (by omega) (by decide)
 have o1 : bits .or .i64 128 ((n / 4096 % 64 : Nat) : Int) = ((128 + n / 4096 % 64 : Nat) : Int) := orI 128 1 7 _ (by decide) (by omega) (by omega)
 have v1 : IntKind.u8.wrap ((128 + n / 4096 % 64 : Nat) : Int) = ((UInt8.ofNat (128 + n / 4096 % 64)).toNat : Int) := by rw [oN _ (by omega)]; exact IntWalk.u8_in _ ⟨by omega, by omega⟩
 have a2 : bits .and .i64 (c / 64) 63 = ((n / 64 % 64 : Nat) : Int) := by
  rw [← hn, show ((n : Int) / 64) = ((n / 64 : Nat) : Int) by omega]
  exact andI (n / 64) 63 6 (by decide) (by omega) (by decide)
 have o2 : bits .or .i64 128 ((n / 64 % 64 : Nat) : Int) = ((128 + n / 64 % 64 : Nat) : Int) := orI 128 1 7 _ (by decide) (by omega) (by omega)
 have v2 : IntKind.u8.wrap ((128 + n / 64 % 64 : Nat) : Int) = ((UInt8.ofNat (128 + n / 64 % 64)).toNat : Int) := by rw [oN _ (by omega)]; exact IntWalk.u8_in _ ⟨by omega, by omega⟩
 have a9 : bits .and .i64 c 63 = ((n % 64 : Nat) : Int) := by
  rw [← hn]
  exact andI n 63 6 (by decide) (by omega) (by decide)
 have o9 : bits .or .i64 128 ((n % 64 : Nat) : Int) = ((128 + n % 64 : Nat) : Int) := orI 128 1 7 _ (by decide) (by omega) (by omega)
 have v9 : IntKind.u8.wrap ((128 + n % 64 : Nat) : Int) = ((UInt8.ofNat (128 + n % 64)).toNat : Int) := by rw [oN _ (by omega)]; exact IntWalk.u8_in _ ⟨by omega, by omega⟩
 obtain ⟨r1, hr1⟩ : ∃ r, r = n / 4096 % 64 := ⟨_, rfl⟩
 obtain ⟨r2, hr2⟩ : ∃ r, r = n / 64 % 64 := ⟨_, rfl⟩
 obtain ⟨r9, hr9⟩ : ∃ r, r = n % 64 := ⟨_, rfl⟩
 obtain ⟨s0, hs0⟩ : ∃ r, r = 240 + n / 262144 := ⟨_, rfl⟩
 rw [← hs0] at o0 v0
 rw [← hr1] at a1 o1 v1
 obtain ⟨s1, hs1⟩ : ∃ r, r = 128 + r1 := ⟨_, rfl⟩
 rw [← hs1] at o1 v1
 rw [← hr2] at a2 o2 v2
 obtain ⟨s2, hs2⟩ : ∃ r, r = 128 + r2 := ⟨_, rfl⟩
 rw [← hs2] at o2 v2
 rw [← hr9] at a9 o9 v9
 obtain ⟨s9, hs9⟩ : ∃ r, r = 128 + r9 := ⟨_, rfl⟩
 rw [← hs9] at o9 v9
 obtain ⟨z0, hz0⟩ : ∃ z, z = UInt8.ofNat s0 := ⟨_, rfl⟩
 rw [← hz0] at v0
 obtain ⟨z1, hz1⟩ : ∃ z, z = UInt8.ofNat s1 := ⟨_, rfl⟩
 rw [← hz1] at v1
 obtain ⟨z2, hz2⟩ : ∃ z, z = UInt8.ofNat s2 := ⟨_, rfl⟩
 rw [← hz2] at v2
 obtain ⟨z9, hz9⟩ : ∃ z, z = UInt8.ofNat s9 := ⟨_, rfl⟩
 rw [← hz9] at v9
 have hconv := fun W => bt.toString (S := 9) Tryz.underlying9 (Rd.four 5 W z0 z1 z2 z9 _ _ _ _ W.heap.size rfl rfl rfl rfl rfl)
 have HSB2 : Hid (sb n = [z0, z1, z2, z9]) := by
  have h := HSB.out
  rw [← hs0, ← hr1, ← hs1, ← hr2, ← hs2, ← hr9, ← hs9, ← hz0, ← hz1, ← hz2, ← hz9] at h
  exact h
 clear hsb hn hz0 hz1 hz2 hz9 hs0 hs1 hs2 hs9 hr1 hr2 hr9 HSB
 unfold bv at hconv
 rcases k3 with k3 | ⟨k3, k4⟩
 all_goals try (exfalso; omega)
 all_goals
  go_enter Tryz.func168, Tryz.ntmps168
  go_wp2_with fail
  go_ret2
  exact ⟨by rw [HSB2.out]; rfl, below_alloc _ _⟩
section
attribute [local go_sem] str_cat
theorem refFour_any (t : List UInt8) (p : Nat) (w : World) (hp : p ≤ t.length) (hl : t.length ≤ 140737488355328) :
 Calls Tryz.prog 167 #[str t, .int .i64 (p : Int)] w fun e w' =>
  e = .returned (.tuple #[.int .i64 ((fourR 4 (t.drop p) 0).1 : Int), .int .i64 ((fourR 4 (t.drop p) 0).2.1 : Int)]) ∧ w' = w := by
 go_enter Tryz.func167, Tryz.ntmps167
 go_wp2_with fail
 go_loop [6, 7] (fun n i => ∃ k acc : Nat, k ≤ 4 ∧ i = .int .i64 (k : Int) ∧ n = .int .i64 (acc : Int) ∧ acc < 16 ^ k ∧
  ((fourR 4 (t.drop p) 0).1, (fourR 4 (t.drop p) 0).2.1) = ((fourR (4 - k) (t.drop (p + k)) acc).1, (fourR (4 - k) (t.drop (p + k)) acc).2.1))
  (fun _ i => 4 - (intOf i).toNat)
 case atStart => exact ⟨0, 0, by omega, rfl, rfl, by decide, rfl⟩
 case round =>
  obtain ⟨k, acc, hk, rfl, rfl, hacc, hr⟩ := hrel
  have hpow : 16 ^ k ≤ 65536 := by
   have := Nat.pow_le_pow_right (n := 16) (by omega) hk
   simpa using this
  have haccb : acc < 65536 := by omega
  have hpow1 : 16 ^ (k + 1) = 16 ^ k * 16 := Nat.pow_succ ..
  obtain ⟨q, hq⟩ : ∃ q, q = p + k := ⟨_, rfl⟩
  have HR := Lib.hid hr
  have HP1 := Lib.hid hpow1
  clear hr hpow1
  by_cases hlt : k < 4
  · have n0 : (k : Int) < 4 := by omega
    have n4 : (p : Int) + (k : Int) = (q : Int) := by omega
    by_cases hqt : q < t.length
    · have n2 : (q : Int) < (t.length : Int) := by omega
      have n3 : (0 : Int) ≤ (q : Int) := by omega
      obtain ⟨d, hd⟩ : ∃ d, d = t[q] := ⟨_, rfl⟩
      have hgd : (ByteArray.mk t.toArray)[q]'(by simpa [ByteArray.size] using hqt) = d := hd.symm
      have hnx := fourR_next (4 - k - 1) t q acc hqt
      rw [← hd, show 4 - k - 1 + 1 = 4 - k by omega] at hnx
      have hrg := refD_range d
      obtain ⟨z, hz⟩ : ∃ z, z = refD d := ⟨_, rfl⟩
      have hdig := refDigit_ret d
      rw [← hz] at hnx hrg hdig
      have HD := Lib.hid hdig
      have HQ := Lib.hid hq
      have HNX := Lib.hid hnx
      clear hd hz hdig hq hnx
      by_cases hneg : z < 0
      · have hfin : ((fourR 4 (t.drop p) 0).1, (fourR 4 (t.drop p) 0).2.1) = (0, 4) := by rw [HR.out, ← HQ.out, HNX.out, if_pos hneg]
        have HF := Lib.hid hfin
        clear hfin
        go_wp2_with fail
        refine (HD.out _).mono ?_
        rintro e w' ⟨rfl, rfl⟩
        go_wp2_with fail
        go_ret2
        exact ⟨by rw [(Prod.mk.inj HF.out).1, (Prod.mk.inj HF.out).2]; rfl, rfl⟩
      have hz0 : 0 ≤ z := by omega
      have hor := or4 acc z hz0 hrg.2 (by omega)
      have hnat : (acc * 16 + z.toNat) < 16 ^ (k + 1) := by rw [HP1.out]; omega
      obtain ⟨a2, ha2⟩ : ∃ a2, a2 = acc * 16 + z.toNat := ⟨_, rfl⟩
      rw [← ha2] at hor hnat
      have hfin : ((fourR 4 (t.drop p) 0).1, (fourR 4 (t.drop p) 0).2.1) = ((fourR (4 - (k + 1)) (t.drop (p + (k + 1))) a2).1, (fourR (4 - (k + 1)) (t.drop (p + (k + 1))) a2).2.1) := by
       rw [HR.out, ← HQ.out, HNX.out, if_neg hneg, show p + (k + 1) = q + 1 by have := HQ.out; omega, show 4 - (k + 1) = 4 - k - 1 by omega, ha2]
      have HF := Lib.hid hfin
      have HNA := Lib.hid hnat
      obtain ⟨hz1, hz2⟩ := hrg
      clear hfin ha2 hneg hnat
      go_wp2_with fail
      refine (HD.out _).mono ?_
      rintro e w' ⟨rfl, rfl⟩
      go_wp2_with fail
      go_round
      case rel => exact ⟨k + 1, a2, by omega, by go_num, rfl, HNA.out, HF.out⟩
      case measure => simp [intOf]; omega
    have n2 : ¬ (q : Int) < (t.length : Int) := by omega
    have n5 : (t.length : Int) ≤ (q : Int) := by omega
    have hfin : ((fourR 4 (t.drop p) 0).1, (fourR 4 (t.drop p) 0).2.1) = (0, 2) := by
     rw [HR.out, ← hq, List.drop_eq_nil_of_le (by omega)]
     obtain ⟨j, hj⟩ : ∃ j, 4 - k = j + 1 := ⟨4 - k - 1, by omega⟩
     rw [hj]; rfl
    have HF := Lib.hid hfin
    clear hfin hq
    go_wp2_with fail
    go_ret2
    exact ⟨by rw [(Prod.mk.inj HF.out).1, (Prod.mk.inj HF.out).2]; rfl, rfl⟩
  obtain rfl : k = 4 := by omega
  have hfin : ((fourR 4 (t.drop p) 0).1, (fourR 4 (t.drop p) 0).2.1) = (acc, 0) := by rw [HR.out]; rfl
  have HF := Lib.hid hfin
  clear hfin hq
  go_wp2_with fail
  go_ret2
  exact ⟨by rw [(Prod.mk.inj HF.out).1, (Prod.mk.inj HF.out).2]; rfl, rfl⟩
end
theorem fourR_used : ∀ (k : Nat) (t : List UInt8) (acc : Nat), (fourR k t acc).2.1 = 0 → (fourR k t acc).2.2 = k
 | 0, _, _, _ => rfl
 | k + 1, [], _, h => by simp [fourR] at h
 | k + 1, c :: l, acc, h => by
   rw [fourR] at h ⊢
   split
   · next h1 => rw [if_pos h1] at h; simp at h
   next h1 =>
   rw [if_neg h1] at h
   simp only at h ⊢
   rw [fourR_used k l _ h]
theorem short_meant : ∀ j : Fin 256, shB (UInt8.ofNat j.val) ≠ 0 → meB (shB (UInt8.ofNat j.val)) = (UInt8.ofNat j.val, true) ∧ shB (UInt8.ofNat j.val) ≠ 117 := by decide +kernel
theorem meant_short : ∀ c : Fin 256, (meB (UInt8.ofNat c.val)).2 = true → c.val ≠ 47 → shB (meB (UInt8.ofNat c.val)).1 = UInt8.ofNat c.val ∧ (meB (UInt8.ofNat c.val)).1.toNat < 128 ∧ c.val ≠ 0 := by decide +kernel
theorem meant_47 : meB 47 = (47, true) := by decide
def refEscR (t : List UInt8) (p : Nat) : List UInt8 × Nat × Nat :=
 if (escR t (p + 1)).1 = 0 then ((escR t (p + 1)).2.2, p + 1 + (escR t (p + 1)).2.1, 0) else ([], 0, (escR t (p + 1)).1)
theorem signE_ok (n : Nat) (h : signB n = true) : signE (signR (n : Int)) = .returned (.tuple #[str (sb n), .bool true]) := by rw [signR_good n h]; rfl
theorem signE_no (n : Nat) (h : signB n = false) : signE (signR (n : Int)) = .returned (.tuple #[str [], .bool false]) := by
 rw [signR, if_neg (by rintro ⟨_, h2⟩; rw [Int.toNat_natCast, h] at h2; cases h2)]; rfl
theorem refEscape_any (t : List UInt8) (p : Nat) (w : World) (hp : p < t.length) (hl : t.length ≤ 70368744177664) :
 Calls Tryz.prog 147 #[str t, .int .i64 (p : Int)] w fun e w' => e = unqE (refEscR t p) ∧ Below w.heap.size w w' := by
 have hp0 : (0 : Int) ≤ (p : Int) := by omega
 by_cases h1 : p + 1 < t.length
 · obtain ⟨c, hc⟩ : ∃ c, c = t[p + 1] := ⟨_, rfl⟩
   have hgc : (ByteArray.mk t.toArray)[p + 1]'(by simpa [ByteArray.size] using h1) = c := hc.symm
   have hgc2 : t[p + 1]? = some c := by rw [hc]; exact List.getElem?_eq_getElem h1
   have hesc : escR t (p + 1) = if c = 117 then ((unitR t (p + 1 + 1)).1, (unitR t (p + 1 + 1)).2.1 + 1, (unitR t (p + 1 + 1)).2.2) else if (meB c).2 = true then (0, 1, [(meB c).1]) else (4, 1, []) := by
    rw [escR, hgc2]
   have HESC := Lib.hid hesc
   obtain ⟨q, hq⟩ : ∃ q, q = p + 1 := ⟨_, rfl⟩
   have e0 : (p : Int) + 1 = (q : Int) := by omega
   have e1 : (q : Int) < (t.length : Int) := by omega
   have e2 : (0 : Int) ≤ (q : Int) := by omega
   have hqn : q < t.length := by omega
   have hgq : (ByteArray.mk t.toArray)[q]'(by simpa [ByteArray.size] using hqn) = c := by subst hq; exact hgc
   have e3 : ¬ (t.length : Int) ≤ (q : Int) := by omega
   have hc255 := c.toNat_lt
   have HQ := Lib.hid hq
   clear hc hgc hgc2 hesc hq
   go_enter Tryz.func147, Tryz.ntmps147
   go_wp2_with fail
   go_loop [8] (fun i => ∃ k : Nat, k ≤ 128 ∧ i = .int .i64 (k : Int) ∧ ∀ j, j < k → ¬ (c ≠ 0 ∧ shB (UInt8.ofNat j) = c)) (fun i => 128 - (intOf i).toNat)
   case atStart => exact ⟨0, by omega, rfl, fun j hj => by omega⟩
   case round =>
    obtain ⟨k, hk, rfl, hno⟩ := hrel
    have HNO := Lib.hid hno
    clear hno
    by_cases hlt : k < 128
    · have n1 : (k : Int) < 128 := by omega
      have hkw : IntKind.u8.wrap (k : Int) = ((UInt8.ofNat k).toNat : Int) := by rw [oN k (by omega)]; exact IntWalk.u8_in _ ⟨by omega, by omega⟩
      obtain ⟨kb, hkb⟩ : ∃ kb, kb = UInt8.ofNat k := ⟨_, rfl⟩
      rw [← hkb] at hkw
      have HKB := Lib.hid hkb
      by_cases hc0 : c = 0
      · have m1 : ((c.toNat : Int) != 0) = false := by rw [hc0]; rfl
        have HC0 := Lib.hid hc0
        clear hc0 hkb
        go_wp2_with fail
        go_round
        case rel => exact ⟨k + 1, by omega, by go_num, fun j hj h => h.1 HC0.out⟩
        case measure => simp [intOf]; omega
      have m1 : ((c.toNat : Int) != 0) = true := by
       rw [bne_iff_ne]; intro h; exact hc0 (UInt8.toNat_inj.1 (by simpa using h))
      by_cases hsk : shB kb = c
      · have m2 : (((shB kb).toNat : Int) == (c.toNat : Int)) = true := by rw [hsk]; exact beq_self_eq_true _
        have hm := short_meant ⟨k, by omega⟩
        simp only at hm
        rw [← hkb, hsk] at hm
        obtain ⟨hm1, hm2⟩ := hm hc0
        have hfin : refEscR t p = ([kb], p + 2, 0) := by
         rw [refEscR, HESC.out, if_neg hm2, hm1]; rfl
        have HF := Lib.hid hfin
        have hconv := fun W => bt.toString (S := 9) Tryz.underlying9 (Rd.one 5 W kb _ rfl)
        clear hsk hc0 hkb hm hm1 hm2 hfin
        go_wp2_with fail
        refine (refShort_any kb _).mono ?_
        rintro e w2 ⟨rfl, rfl⟩
        go_wp2_with fail
        go_ret3
        exact ⟨by rw [HF.out]; rfl, below_alloc _ _⟩
      have m2 : (((shB kb).toNat : Int) == (c.toNat : Int)) = false := by
       rw [beq_eq_false_iff_ne]; intro h; exact hsk (UInt8.toNat_inj.1 (by omega))
      have HSK := Lib.hid hsk
      clear hsk hc0 hkb
      go_wp2_with fail
      refine (refShort_any kb _).mono ?_
      rintro e w2 ⟨rfl, rfl⟩
      go_wp2_with fail
      go_round
      case rel =>
       refine ⟨k + 1, by omega, by go_num, fun j hj h => ?_⟩
       rcases (show j < k ∨ j = k by omega) with hj | rfl
       · exact HNO.out j hj h
       exact HSK.out (by rw [HKB.out]; exact h.2)
      case measure => simp [intOf]; omega
    obtain rfl : k = 128 := by omega
    have n1 : ¬ ((128 : Nat) : Int) < 128 := by omega
    by_cases h47 : c = 47
    · have m1 : ((c.toNat : Int) == 47) = true := by rw [h47]; rfl
      have he47 : escR t (p + 1) = (0, 1, [47]) := by rw [HESC.out, h47, if_neg (by decide), meant_47]; rfl
      have hfin : refEscR t p = ([47], p + 2, 0) := by rw [refEscR, he47]; rfl
      have HF := Lib.hid hfin
      clear hfin h47 he47
      go_wp2_with fail
      go_ret3
      exact ⟨by rw [HF.out]; rfl, Below.refl _ _⟩
    have m1 : ((c.toNat : Int) == 47) = false := by
     rw [beq_eq_false_iff_ne]; intro h; exact h47 (UInt8.toNat_inj.1 (by simpa using (by omega : c.toNat = 47)))
    have hmf : (meB c).2 = false := by
     cases hm : (meB c).2
     · rfl
     have := meant_short ⟨c.toNat, hc255⟩
     simp only [ofNat_self] at this
     obtain ⟨h2, h3, h4⟩ := this hm (fun h => h47 (UInt8.toNat_inj.1 (by simpa using h)))
     exact absurd ⟨fun h => h4 (by rw [h]; rfl), by rw [ofNat_self]; exact h2⟩ (HNO.out (meB c).1.toNat h3)
    by_cases h117 : c = 117
    · have m2 : ((c.toNat : Int) != 117) = false := by rw [h117]; rfl
      have hesc2 : escR t (p + 1) = ((unitR t (p + 2)).1, (unitR t (p + 2)).2.1 + 1, (unitR t (p + 2)).2.2) := by rw [HESC.out, if_pos h117]
      have hfin : refEscR t p = if (unitR t (p + 2)).1 = 0 then ((unitR t (p + 2)).2.2, p + 2 + (unitR t (p + 2)).2.1, 0) else ([], 0, (unitR t (p + 2)).1) := by
       rw [refEscR, hesc2]
       split
       · simp only [Prod.mk.injEq, true_and, and_true]; omega
       rfl
      have hu := unitR.eq_def t (p + 2)
      obtain ⟨n, er, us, hr⟩ : ∃ n er us, fourR 4 (t.drop (p + 2)) 0 = (n, er, us) := ⟨_, _, _, rfl⟩
      have hn := fourR_lt 4 (t.drop (p + 2)) 0
      have hus := fourR_used 4 (t.drop (p + 2)) 0
      have hmx := fourR_use 4 (t.drop (p + 2)) 0
      rw [List.length_drop] at hmx
      rw [hr] at hu hn hus hmx
      simp only [Nat.zero_add, Nat.one_mul, Nat.reducePow] at hu hn hus hmx
      have HU := Lib.hid hu
      have HR := Lib.hid hr
      have HF := Lib.hid hfin
      obtain ⟨p2, hp2⟩ : ∃ p2, p2 = p + 2 := ⟨_, rfl⟩
      have e4 : (p : Int) + 2 = (p2 : Int) := by omega
      have hp2l : p2 ≤ t.length := by have := HQ.out; omega
      have HP2 := Lib.hid hp2
      have C4 := Lib.hid (fun W => refFour_any t p2 W hp2l (by omega))
      clear h117 hesc2 hfin hu hr hmf hp2
      go_wp2_with fail
      refine (C4.out _).mono ?_
      rintro e w2 ⟨rfl, rfl⟩
      rw [HP2.out, HR.out]
      simp only
      by_cases he : er = 0
      · subst he
        have hus4 : us = 4 := hus rfl
        subst hus4
        obtain ⟨A, hA⟩ : ∃ A : Int, A = (n : Int) := ⟨_, rfl⟩
        rw [← hA]
        obtain ⟨p6, hp6⟩ : ∃ p6, p6 = p + 6 := ⟨_, rfl⟩
        have e6 : (p : Int) + 6 = (p6 : Int) := by omega
        have hp6l : p6 ≤ t.length := by have := HQ.out; omega
        have HP6 := Lib.hid hp6
        have HA := Lib.hid hA
        have HN := Lib.hid hn
        by_cases hsur : 55296 ≤ n ∧ n < 56320
        · have HSUR := Lib.hid hsur
          have s1 : 55296 ≤ A := by omega
          have s2 : A ≤ 56319 := by omega
          have hu2 : unitR t (p + 2) = if (secR t p6).2.1 ≠ 0 then ((secR t p6).2.1, 4 + (secR t p6).2.2, []) else unitF (65536 + (n - 55296) * 1024 + ((secR t p6).1 - 56320)) (4 + (secR t p6).2.2) := by
           rw [HU.out, if_neg (by simp), if_pos hsur, show p + 2 + 4 = p6 by have := HP6.out; omega]
          have HU2 := Lib.hid hu2
          clear hu2 hA hn hsur hp6
          by_cases ha1 : p6 < t.length
          · have a1 : (p6 : Int) < (t.length : Int) := by omega
            have a1' : ¬ (t.length : Int) ≤ (p6 : Int) := by omega
            have a0 : (0 : Int) ≤ (p6 : Int) := by omega
            obtain ⟨d, hd⟩ : ∃ d, d = t[p6] := ⟨_, rfl⟩
            have hgd : (ByteArray.mk t.toArray)[p6]'(by simpa [ByteArray.size] using ha1) = d := hd.symm
            have hd2 : t[p6]? = some d := by rw [hd]; exact List.getElem?_eq_getElem ha1
            have HD := Lib.hid hd2
            clear hd hd2
            obtain ⟨p7, hp7⟩ : ∃ p7, p7 = p6 + 1 := ⟨_, rfl⟩
            have e7 : (p6 : Int) + 1 = (p7 : Int) := by omega
            by_cases h92 : d = 92
            · have b1 : ((d.toNat : Int) == 92) = true := by rw [h92]; rfl
              have b2 : ((d.toNat : Int) != 92) = false := by rw [h92]; rfl
              have hw0 : wantN t p6 92 = 0 := by rw [wantN, if_pos ha1, HD.out, h92, if_pos rfl]
              have HW0 := Lib.hid hw0
              clear h92 hw0
              by_cases ha2 : p7 < t.length
              · have a2 : (p7 : Int) < (t.length : Int) := by omega
                have a2' : ¬ (t.length : Int) ≤ (p7 : Int) := by omega
                have a3 : (0 : Int) ≤ (p7 : Int) := by omega
                obtain ⟨f, hf⟩ : ∃ f, f = t[p7] := ⟨_, rfl⟩
                have hgf : (ByteArray.mk t.toArray)[p7]'(by simpa [ByteArray.size] using ha2) = f := hf.symm
                have hf2 : t[p7]? = some f := by rw [hf]; exact List.getElem?_eq_getElem ha2
                have HF2 := Lib.hid hf2
                have HP7 := Lib.hid hp7
                clear hf hf2 hp7
                by_cases hu1 : f = 117
                · have b3 : ((f.toNat : Int) != 117) = false := by rw [hu1]; rfl
                  have hw1 : wantN t (p6 + 1) 117 = 0 := by rw [← HP7.out, wantN, if_pos ha2, HF2.out, hu1, if_pos rfl]
                  have HW1 := Lib.hid hw1
                  clear hu1 hw1
                  obtain ⟨p8, hp8⟩ : ∃ p8, p8 = p6 + 2 := ⟨_, rfl⟩
                  have e8 : (p6 : Int) + 2 = (p8 : Int) := by omega
                  have hp8l : p8 ≤ t.length := by have := HP7.out; omega
                  obtain ⟨m, er2, us2, hr2⟩ : ∃ m er us, fourR 4 (t.drop p8) 0 = (m, er, us) := ⟨_, _, _, rfl⟩
                  have hus2 := fourR_used 4 (t.drop p8) 0
                  rw [hr2] at hus2
                  simp only at hus2
                  have hsec : secR t p6 = (m, (if er2 = 0 ∧ (m < 56320 ∨ 57343 < m) then 4 else er2), us2 + 2) := by
                   rw [secR, HW0.out, HW1.out, if_neg (by simp), if_neg (by simp), ← hp8, hr2]
                  have HR2 := Lib.hid hr2
                  have HSEC := Lib.hid hsec
                  have HP8 := Lib.hid hp8
                  have C8 := Lib.hid (fun W => refFour_any t p8 W hp8l (by omega))
                  clear hr2 hsec hp8
                  go_wp2_with fail
                  refine (C8.out _).mono ?_
                  rintro e w2 ⟨rfl, rfl⟩
                  rw [HR2.out]
                  simp only
                  by_cases he2 : er2 = 0
                  · subst he2
                    have hus4 : us2 = 4 := hus2 rfl
                    subst hus4
                    obtain ⟨B, hB⟩ : ∃ B : Int, B = (m : Int) := ⟨_, rfl⟩
                    rw [← hB]
                    by_cases hlo : m < 56320 ∨ 57343 < m
                    · have key : B < 56320 ∨ (¬ B < 56320 ∧ 57343 < B) := by omega
                      have hfin : refEscR t p = ([], 0, 4) := by rw [HF.out, HU2.out, HSEC.out]; simp [hlo]
                      have HFIN := Lib.hid hfin
                      clear hfin hlo hB
                      rcases key with k1 | ⟨k1, k2⟩
                      all_goals
                       go_wp2_with fail
                       go_ret3
                       exact ⟨by rw [HFIN.out]; rfl, Below.refl _ _⟩
                    have g1 : ¬ B < 56320 := by omega
                    have g2 : ¬ 57343 < B := by omega
                    obtain ⟨cc, hcc⟩ : ∃ cc, cc = 65536 + (n - 55296) * 1024 + (m - 56320) := ⟨_, rfl⟩
                    have hA' : 65536 + (A - 55296) * 1024 + (B - 56320) = (cc : Int) := by
                     have := HA.out; have := HSUR.out; omega
                    have hccb : signB cc = true := signB_big cc (by omega) (by have := HSUR.out; omega)
                    have hccl : cc ≤ 1114111 := by have := HSUR.out; omega
                    have hun : unitR t (p + 2) = (0, 4 + (4 + 2), sb cc) := by
                     rw [HU2.out, HSEC.out]
                     simp only [true_and]
                     rw [if_neg hlo, if_neg (by simp), ← hcc, unitF, if_pos hccb]
                    have hfin : refEscR t p = (sb cc, p6 + 6, 0) := by
                     rw [HF.out, hun]
                     show (sb cc, p + 2 + (4 + (4 + 2)), 0) = _
                     rw [show p + 2 + (4 + (4 + 2)) = p6 + 6 by have := HP6.out; omega]
                    have CT : ∀ W, Calls Tryz.prog 168 #[.int .i64 (cc : Int)] W fun e w' => e = .returned (.tuple #[str (sb cc), .bool true]) ∧ Below W.heap.size W w' := fun W => by
                     have := refText_any (cc : Int) W (by omega) (by omega)
                     rwa [signE_ok cc hccb] at this
                    have HCT := Lib.hid CT
                    have HFIN := Lib.hid hfin
                    have HA2 := Lib.hid hA'
                    clear hfin hlo hB hcc hccb CT hA' hun
                    go_wp2_with fail
                    rw [HA2.out]
                    refine (HCT.out _).mono ?_
                    rintro e w3 ⟨rfl, hb3⟩
                    go_wp2_with fail
                    go_ret3
                    exact ⟨by rw [HFIN.out]; rfl, hb3⟩
                  have n0 : ((er2 : Int) != 0) = true := by rw [bne_iff_ne]; omega
                  have hfin : refEscR t p = ([], 0, er2) := by rw [HF.out, HU2.out, HSEC.out]; simp [he2]
                  have HFIN := Lib.hid hfin
                  clear hfin he2
                  go_wp2_with fail
                  go_ret3
                  exact ⟨by rw [HFIN.out]; rfl, Below.refl _ _⟩
                have b3 : ((f.toNat : Int) != 117) = true := by
                 rw [bne_iff_ne]; intro h; exact hu1 (UInt8.toNat_inj.1 (by simpa using (by omega : f.toNat = 117)))
                have hw1 : wantN t (p6 + 1) 117 = 4 := by rw [← HP7.out, wantN, if_pos ha2, HF2.out, if_neg (by simpa using hu1)]
                have hsec : secR t p6 = (0, 4, 1) := by rw [secR, HW0.out, hw1]; rfl
                have hfin : refEscR t p = ([], 0, 4) := by rw [HF.out, HU2.out, hsec]; rfl
                have HFIN := Lib.hid hfin
                clear hfin hsec hw1 hu1
                go_wp2_with fail
                go_ret3
                exact ⟨by rw [HFIN.out]; rfl, Below.refl _ _⟩
              have a2 : (t.length : Int) ≤ (p7 : Int) := by omega
              have a2' : ¬ (p7 : Int) < (t.length : Int) := by omega
              have hw1 : wantN t (p6 + 1) 117 = 2 := by rw [← hp7, wantN, if_neg ha2]
              have hsec : secR t p6 = (0, 2, 1) := by rw [secR, HW0.out, hw1]; rfl
              have hfin : refEscR t p = ([], 0, 2) := by rw [HF.out, HU2.out, hsec]; rfl
              have HFIN := Lib.hid hfin
              clear hfin hsec hw1 hp7
              go_wp2_with fail
              go_ret3
              exact ⟨by rw [HFIN.out]; rfl, Below.refl _ _⟩
            have b1 : ((d.toNat : Int) == 92) = false := by
             rw [beq_eq_false_iff_ne]; intro h; exact h92 (UInt8.toNat_inj.1 (by simpa using (by omega : d.toNat = 92)))
            have b2 : ((d.toNat : Int) != 92) = true := by
             rw [bne_iff_ne]; intro h; exact h92 (UInt8.toNat_inj.1 (by simpa using (by omega : d.toNat = 92)))
            have hw0 : wantN t p6 92 = 4 := by rw [wantN, if_pos ha1, HD.out, if_neg (by simpa using h92)]
            have hsec : secR t p6 = (0, 4, 0) := by rw [secR, hw0]; rfl
            have hfin : refEscR t p = ([], 0, 4) := by rw [HF.out, HU2.out, hsec]; rfl
            have HFIN := Lib.hid hfin
            clear hfin hsec hw0 h92
            rcases (show (p7 : Int) < (t.length : Int) ∨ (t.length : Int) ≤ (p7 : Int) by omega) with a2 | a2
            all_goals
             clear hp7
             go_wp2_with fail
             go_ret3
             exact ⟨by rw [HFIN.out]; rfl, Below.refl _ _⟩
          have a1 : (t.length : Int) ≤ (p6 : Int) := by omega
          have hw0 : wantN t p6 92 = 2 := by rw [wantN, if_neg ha1]
          have hsec : secR t p6 = (0, 2, 0) := by rw [secR, hw0]; rfl
          have hfin : refEscR t p = ([], 0, 2) := by rw [HF.out, HU2.out, hsec]; rfl
          have HFIN := Lib.hid hfin
          clear hfin hsec hw0
          go_wp2_with fail
          go_ret3
          exact ⟨by rw [HFIN.out]; rfl, Below.refl _ _⟩
        have key : A < 55296 ∨ (55296 ≤ A ∧ 56319 < A) := by omega
        have hu2 : unitR t (p + 2) = unitF n 4 := by rw [HU.out, if_neg (by simp), if_neg hsur]
        have hnb : n ≤ 65536 := by omega
        cases hsb : signB n
        · have hfin : refEscR t p = ([], 0, 4) := by rw [HF.out, hu2, unitF, hsb]; rfl
          have CT : ∀ W, Calls Tryz.prog 168 #[.int .i64 A] W fun e w' => e = .returned (.tuple #[str [], .bool false]) ∧ Below W.heap.size W w' := fun W => by
           have := refText_any (n : Int) W (by omega) (by omega)
           rw [signE_no n hsb] at this
           rw [HA.out]; exact this
          have HCT := Lib.hid CT
          have HFIN := Lib.hid hfin
          clear hfin CT hu2 hsb hA hn hsur hp6
          rcases key with k1 | ⟨k1, k2⟩
          all_goals
           go_wp2_with fail
           refine (HCT.out _).mono ?_
           rintro e w3 ⟨rfl, hb3⟩
           go_wp2_with fail
           go_ret3
           exact ⟨by rw [HFIN.out]; rfl, hb3⟩
        have hfin : refEscR t p = (sb n, p6, 0) := by
         rw [HF.out, hu2, unitF, hsb]
         show (sb n, p + 2 + 4, 0) = _
         rw [show p + 2 + 4 = p6 by have := HP6.out; omega]
        have CT : ∀ W, Calls Tryz.prog 168 #[.int .i64 A] W fun e w' => e = .returned (.tuple #[str (sb n), .bool true]) ∧ Below W.heap.size W w' := fun W => by
         have := refText_any (n : Int) W (by omega) (by omega)
         rw [signE_ok n hsb] at this
         rw [HA.out]; exact this
        have HCT := Lib.hid CT
        have HFIN := Lib.hid hfin
        clear hfin CT hu2 hsb hA hn hsur hp6
        rcases key with k1 | ⟨k1, k2⟩
        all_goals
         go_wp2_with fail
         refine (HCT.out _).mono ?_
         rintro e w3 ⟨rfl, hb3⟩
         go_wp2_with fail
         go_ret3
         exact ⟨by rw [HFIN.out]; rfl, hb3⟩
      have n0 : ((er : Int) != 0) = true := by rw [bne_iff_ne]; omega
      have hfin : refEscR t p = ([], 0, er) := by rw [HF.out, HU.out]; simp [he]
      have HFIN := Lib.hid hfin
      clear hfin he
      go_wp2_with fail
      go_ret3
      exact ⟨by rw [HFIN.out]; rfl, Below.refl _ _⟩
    have m2 : ((c.toNat : Int) != 117) = true := by
     rw [bne_iff_ne]; intro h; exact h117 (UInt8.toNat_inj.1 (by simpa using (by omega : c.toNat = 117)))
    have hfin : refEscR t p = ([], 0, 4) := by rw [refEscR, HESC.out, if_neg h117, hmf]; rfl
    have HF := Lib.hid hfin
    clear hfin h117 h47 hmf
    go_wp2_with fail
    go_ret3
    exact ⟨by rw [HF.out]; rfl, Below.refl _ _⟩
 have hfin : refEscR t p = ([], 0, 2) := by
  have : escR t (p + 1) = (2, 0, []) := by rw [escR, List.getElem?_eq_none (by omega)]
  rw [refEscR, this]; rfl
 have HF := Lib.hid hfin
 have e3 : (t.length : Int) ≤ (p : Int) + 1 := by omega
 clear hfin
 go_enter Tryz.func147, Tryz.ntmps147
 go_wp2_with fail
 go_ret3
 exact ⟨by rw [HF.out]; rfl, Below.refl _ _⟩
section
attribute [local go_sem] str_cat
attribute [local go_sem] str_cat
theorem refUnquote_any (t : List UInt8) (a : Int) (w : World) (hl : t.length ≤ 17592186044416) :
 Calls Tryz.prog 129 #[str t, .int .i64 a] w fun e w' => e = unqE (unqR t a) ∧ Below w.heap.size w w' := by
 by_cases h1 : a < 0
 · have hv : unqR t a = ([], 0, 1) := by rw [unqR, if_pos (.inl h1)]
   rw [hv]
   clear hv
   go_enter Tryz.func129, Tryz.ntmps129
   go_wp2_with fail
   go_ret3
   exact ⟨rfl, Below.refl _ _⟩
 by_cases h2 : (t.length : Int) < a
 · have hv : unqR t a = ([], 0, 1) := by rw [unqR, if_pos (.inr h2)]
   rw [hv]
   clear hv
   go_enter Tryz.func129, Tryz.ntmps129
   go_wp2_with fail
   go_ret3
   exact ⟨rfl, Below.refl _ _⟩
 obtain ⟨p, rfl⟩ := Int.eq_ofNat_of_zero_le (show 0 ≤ a by omega)
 have hp : p ≤ t.length := by omega
 have g1 : (0 : Int) ≤ (p : Int) := by omega
 have g2 : (p : Int) ≤ (t.length : Int) := by omega
 have hu : unqR t (p : Int) = if wantN t p 34 ≠ 0 then ([], 0, wantN t p 34) else unqF (t.length + 1) t (p + 1) [] := by rw [unqR, if_neg (by omega)]; rfl
 have HU := Lib.hid hu
 clear hu h1 h2
 by_cases hlt : p < t.length
 · have n1 : ((p : Int) == (t.length : Int)) = false := by rw [beq_eq_false_iff_ne]; omega
   have n2 : (p : Int) < (t.length : Int) := by omega
   obtain ⟨d, hd⟩ : ∃ d, d = t[p] := ⟨_, rfl⟩
   have hgd : (ByteArray.mk t.toArray)[p]'(by simpa [ByteArray.size] using hlt) = d := hd.symm
   have hd' : t[p]? = some d := by rw [hd]; exact List.getElem?_eq_getElem hlt
   have HD := Lib.hid hd'
   clear hd hd'
   by_cases h34 : d = 34
   · have n4 : ((d.toNat : Int) != 34) = false := by rw [h34]; rfl
     have hw : wantN t p 34 = 0 := by rw [wantN, if_pos hlt, HD.out, h34, if_pos rfl]
     have hv : unqR t (p : Int) = unqF (t.length + 1) t (p + 1) [] := by rw [HU.out, hw, if_neg (by simp)]
     have HV := Lib.hid hv
     have x1 : decide (t.length < p) = false := by simp; omega
     have x2 : decide ((p : Int) < 0) = false := by simp
     clear hv hw h34
     go_enter Tryz.func129, Tryz.ntmps129
     go_wp2_with fail
     go_loopw [1, 7] (fun i s wr => ∃ (f q : Nat) (o : List UInt8), i = .int .i64 (q : Int) ∧ s = str o ∧ t.length - q < f ∧ q ≤ t.length ∧ o.length ≤ 4 * q ∧ Below w.heap.size w wr ∧ Hid (unqR t (p : Int) = unqF f t q o))
      (fun i _ _ => t.length - (intOf i).toNat)
     case atStart => exact ⟨t.length + 1, p + 1, [], by go_num, rfl, by omega, by omega, by simp, Below.refl _ _, HV⟩
     case round =>
      obtain ⟨f, q, o, rfl, rfl, hf, hq, ho, hb, hr⟩ := hrel
      obtain ⟨f, rfl⟩ : ∃ g, f = g + 1 := ⟨f - 1, by omega⟩
      have hr2 := hr.out
      rw [unqF] at hr2
      have hus := stepR_use t q hq
      have hpos := stepR_pos t q
      have HR := Lib.hid hr2
      have HUS := Lib.hid hus
      have HPOS := Lib.hid hpos
      clear hr hr2 hus hpos
      by_cases hqt : q < t.length
      · have q2 : (q : Int) < (t.length : Int) := by omega
        have q3 : (0 : Int) ≤ (q : Int) := by omega
        obtain ⟨c, hc⟩ : ∃ c, c = t[q] := ⟨_, rfl⟩
        have hgc : (ByteArray.mk t.toArray)[q]'(by simpa [ByteArray.size] using hqt) = c := hc.symm
        have hc' : t[q]? = some c := by rw [hc]; exact List.getElem?_eq_getElem hqt
        have hstep : stepR t q = (if c = 34 then (true, 0, 1, [])
         else if c = 92 then (false, (escR t (q + 1)).1, (escR t (q + 1)).2.1 + 1, (escR t (q + 1)).2.2)
         else if (sgn (t.drop q)).2 = 0 ∨ (sgn (t.drop q)).1 < 32 then (false, 4, 0, [])
         else (false, 0, (sgn (t.drop q)).2, (t.drop q).take (sgn (t.drop q)).2)) := by rw [stepR, hc']
        have HST := Lib.hid hstep
        have hc255 := c.toNat_lt
        have hdrop : t.drop q = c :: t.drop (q + 1) := by rw [hc]; exact List.drop_eq_getElem_cons hqt
        have HDR := Lib.hid hdrop
        clear hc hc' hstep hdrop
        by_cases hc34 : c = 34
        · have m1 : ((c.toNat : Int) == 34) = true := by rw [hc34]; rfl
          have hs : stepR t q = (true, 0, 1, []) := by rw [HST.out, if_pos hc34]
          have hv : unqR t (p : Int) = (o, q + 1, 0) := by rw [HR.out, hs]; simp
          have HV := Lib.hid hv
          clear hv hs hc34
          go_wp2_with fail
          go_ret3
          exact ⟨by rw [HV.out]; rfl, hb⟩
        have m1 : ((c.toNat : Int) == 34) = false := by
         rw [beq_eq_false_iff_ne]; intro h; exact hc34 (UInt8.toNat_inj.1 (by simpa using (by omega : c.toNat = 34)))
        by_cases hc92 : c = 92
        · have m2 : ((c.toNat : Int) == 92) = true := by rw [hc92]; rfl
          have hs : stepR t q = (false, (escR t (q + 1)).1, (escR t (q + 1)).2.1 + 1, (escR t (q + 1)).2.2) := by rw [HST.out, if_neg hc34, if_pos hc92]
          obtain ⟨er, us, by_, he⟩ : ∃ er us by_, escR t (q + 1) = (er, us, by_) := ⟨_, _, _, rfl⟩
          rw [he] at hs
          simp only at hs
          have hus := HUS.out
          rw [hs] at hus
          simp only at hus
          have HE := Lib.hid he
          by_cases he0 : er = 0
          · subst he0
            have hre : refEscR t q = (by_, q + 1 + us, 0) := by rw [refEscR, he]; rfl
            have hv : unqR t (p : Int) = unqF f t (q + 1 + us) (o ++ by_) := by
             rw [HR.out, hs]; simp only; rw [if_neg (by simp), if_neg (by simp), show q + (us + 1) = q + 1 + us by omega]
            have hcat := str_cat o by_
            have q5 : ¬ (9223372036854775807 < o.length + by_.length) := by omega
            have HRE := Lib.hid hre
            have HV := Lib.hid hv
            obtain ⟨qn, hqn⟩ : ∃ qn, qn = q + 1 + us := ⟨_, rfl⟩
            have HQN := Lib.hid hqn
            have CE : ∀ W, Calls Tryz.prog 147 #[str t, .int .i64 (q : Int)] W fun e w' => e = .returned (.tuple #[str by_, .int .i64 (qn : Int), .int .i64 0]) ∧ Below W.heap.size W w' := fun W => by
             have := refEscape_any t q W hqt (by omega)
             rw [hre, ← hqn] at this
             exact this
            have HCE := Lib.hid CE
            clear hv hs hc34 hc92 he hre CE hqn
            go_wp2_with fail
            refine (HCE.out _).mono ?_
            rintro e w2 ⟨rfl, hb2⟩
            go_wp2_with fail
            go_roundw
            case rel => exact ⟨f, qn, o ++ by_, rfl, rfl, by have := HQN.out; omega, by have := HQN.out; omega, by have := HQN.out; rw [List.length_append]; omega, hb.trans (hb2.mono hb.size), by rw [HQN.out]; exact HV⟩
            case measure => have := HQN.out; simp [intOf]; omega
          have n0 : ((er : Int) != 0) = true := by rw [bne_iff_ne]; omega
          have hre : refEscR t q = ([], 0, er) := by rw [refEscR, he, if_neg he0]
          have hv : unqR t (p : Int) = ([], 0, er) := by rw [HR.out, hs]; simp only; rw [if_pos he0]
          have HV := Lib.hid hv
          have CE : ∀ W, Calls Tryz.prog 147 #[str t, .int .i64 (q : Int)] W fun e w' => e = .returned (.tuple #[str [], .int .i64 0, .int .i64 (er : Int)]) ∧ Below W.heap.size W w' := fun W => by
           have := refEscape_any t q W hqt (by omega)
           rw [hre] at this
           exact this
          have HCE := Lib.hid CE
          clear hv hs hc34 hc92 he hre CE he0
          go_wp2_with fail
          refine (HCE.out _).mono ?_
          rintro e w2 ⟨rfl, hb2⟩
          go_wp2_with fail
          go_ret3
          exact ⟨by rw [HV.out]; rfl, hb.trans (hb2.mono hb.size)⟩
        have m2 : ((c.toNat : Int) == 92) = false := by
         rw [beq_eq_false_iff_ne]; intro h; exact hc92 (UInt8.toNat_inj.1 (by simpa using (by omega : c.toNat = 92)))
        have hle := sgn_le (t.drop q)
        rw [List.length_drop] at hle
        have hge32 : (sgn (t.drop q)).2 ≠ 0 → ((sgn (t.drop q)).1 < 32 ↔ c.toNat < 32) := by
         rw [HDR.out]
         intro hz
         by_cases h128 : c.toNat < 128
         · rw [sgn_small c _ h128]
         obtain ⟨k, least, acc, a, h1, h2, h3, h4⟩ := sgn_big c _ (by omega) hz
         rw [h1]; simp only; omega
        obtain ⟨x, z, hxz⟩ : ∃ x z, sgn (t.drop q) = (x, z) := ⟨_, _, rfl⟩
        have hs := HST.out
        rw [if_neg hc34, if_neg hc92, hxz] at hs
        rw [hxz] at hle hge32
        simp only at hle hge32 hs
        have CS : ∀ W, Calls Tryz.prog 136 #[str t, .int .i64 (q : Int)] W fun e w' => e = .returned (.tuple #[.int .i64 (x : Int), .int .i64 (z : Int), .bool (decide (z ≠ 0))]) ∧ w' = W := fun W => by
         have := refSign_any t q W hqt (by omega)
         rw [hxz] at this
         exact this
        have HG := Lib.hid hge32
        have HS := Lib.hid hs
        clear hc34 hc92 hxz hs hge32
        by_cases hz : z = 0
        · have hs2 : stepR t q = (false, 4, 0, []) := by rw [HS.out, if_pos (.inl hz)]
          have hv : unqR t (p : Int) = ([], 0, 4) := by rw [HR.out, hs2]; rfl
          rw [show decide (z ≠ 0) = false by simp [hz]] at CS
          have HCS := Lib.hid CS
          have HV := Lib.hid hv
          clear hv hz CS hs2
          go_wp2_with fail
          refine (HCS.out _).mono ?_
          rintro e w2 ⟨rfl, rfl⟩
          go_wp2_with fail
          go_ret3
          exact ⟨by rw [HV.out]; rfl, hb⟩
        rw [show decide (z ≠ 0) = true by simp [hz]] at CS
        have HCS := Lib.hid CS
        clear CS
        by_cases h32 : c.toNat < 32
        · have m3 : (c.toNat : Int) < 32 := by omega
          have hs2 : stepR t q = (false, 4, 0, []) := by rw [HS.out, if_pos (.inr ((HG.out hz).2 h32))]
          have hv : unqR t (p : Int) = ([], 0, 4) := by rw [HR.out, hs2]; rfl
          have HV := Lib.hid hv
          clear hv hz hs2
          go_wp2_with fail
          refine (HCS.out _).mono ?_
          rintro e w2 ⟨rfl, rfl⟩
          go_wp2_with fail
          go_ret3
          exact ⟨by rw [HV.out]; rfl, hb⟩
        have m3 : ¬ (c.toNat : Int) < 32 := by omega
        obtain ⟨y, hy⟩ : ∃ y, y = (t.drop q).take z := ⟨_, rfl⟩
        have hylen : y.length = z := by rw [hy]; simp; omega
        have hs2 : stepR t q = (false, 0, z, y) := by rw [HS.out, if_neg (by rintro (h | h); exact hz h; exact h32 ((HG.out hz).1 h)), hy]
        have hv : unqR t (p : Int) = unqF f t (q + z) (o ++ y) := by rw [HR.out, hs2]; rfl
        have hcat := str_cat o y
        have hcut : (ByteArray.mk t.toArray).extract q (q + z) = ByteArray.mk y.toArray := by rw [str_cut, hy]; simp
        have q5 : ¬ (9223372036854775807 < o.length + y.length) := by omega
        have q6 : (q : Int) + (z : Int) ≤ (t.length : Int) := by omega
        have q7 : (q : Int) ≤ (q : Int) + (z : Int) := by omega
        have q8 : ((q : Int) + (z : Int)).toNat = q + z := by omega
        have q9 : (0 : Int) ≤ (q : Int) + (z : Int) := by omega
        have HV := Lib.hid hv
        have HYL := Lib.hid hylen
        have q10 : IntKind.i64.wrap ((q : Int) + (z : Int)) = (q : Int) + (z : Int) := IntWalk.i64_in _ ⟨by omega, by omega⟩
        have HZ := Lib.hid hz
        clear hv hy hylen hz hs2
        go_wp2_with fail
        refine (HCS.out _).mono ?_
        rintro e w2 ⟨rfl, rfl⟩
        go_wp2_with fail
        go_roundw
        case rel => exact ⟨f, q + z, o ++ y, by go_num, rfl, by have := HZ.out; omega, by omega, by rw [List.length_append, HYL.out]; omega, hb, HV⟩
        case measure => have := HZ.out; clear q10; simp [intOf]; omega
      have q2 : ¬ (q : Int) < (t.length : Int) := by omega
      have hs : stepR t q = (false, 2, 0, []) := by rw [stepR, List.getElem?_eq_none (by omega)]
      have hv : unqR t (p : Int) = ([], 0, 2) := by rw [HR.out, hs]; rfl
      have HV := Lib.hid hv
      clear hv hs
      go_wp2_with fail
      go_ret3
      exact ⟨by rw [HV.out]; rfl, hb⟩
   have n4 : ((d.toNat : Int) != 34) = true := by
    rw [bne_iff_ne]; intro h; exact h34 (UInt8.toNat_inj.1 (by simpa using (by omega : d.toNat = 34)))
   have hw : wantN t p 34 = 4 := by rw [wantN, if_pos hlt, HD.out, if_neg (by simpa using h34)]
   have hv : unqR t (p : Int) = ([], 0, 4) := by rw [HU.out, hw]; rfl
   have HV := Lib.hid hv
   clear hv hw h34
   go_enter Tryz.func129, Tryz.ntmps129
   go_wp2_with fail
   go_ret3
   exact ⟨by rw [HV.out]; rfl, Below.refl _ _⟩
 obtain rfl : p = t.length := by omega
 have n1 : ((t.length : Int) == (t.length : Int)) = true := beq_self_eq_true _
 have hw : wantN t t.length 34 = 2 := by rw [wantN, if_neg hlt]
 have hv : unqR t (t.length : Int) = ([], 0, 2) := by rw [HU.out, hw]; rfl
 have HV := Lib.hid hv
 clear hv hw
 go_enter Tryz.func129, Tryz.ntmps129
 go_wp2_with fail
 go_ret3
 exact ⟨by rw [HV.out]; rfl, Below.refl _ _⟩
end
end Go.Proofs.YtegblhmcfemfgaaGreatDoor

namespace Go.Proofs.YtegblhmcfemfgaaGreatDoor
open Go.RowKit

def rcapF : List UInt8 → Nat → Nat
 | [], n => n
 | c :: t, n => rcapF t (min (10 * n + (c.toNat - 48)) 288230376151711744)
theorem rcapF_snoc (c : UInt8) : ∀ (l : List UInt8) (n : Nat), rcapF (l ++ [c]) n = min (10 * rcapF l n + (c.toNat - 48)) 288230376151711744
 | [], _ => rfl
 | d :: t, n => by rw [List.cons_append, rcapF, rcapF_snoc c t, rcapF]
def CapRel (x y : Nat) : Prop := (x = y ∧ y ≤ 9007199254740991) ∨ (9007199254740991 < x ∧ 9007199254740991 < y)
theorem cap_rel : ∀ (l : List UInt8) (x y : Nat), (∀ c ∈ l, c.toNat ≤ 57) → CapRel x y → CapRel (rcapF l x) (capF l y)
 | [], _, _, _, h => h
 | c :: t, x, y, hc, h => by
   have h57 := hc c (by simp)
   rw [rcapF, capF]
   refine cap_rel t _ _ (fun d hd => hc d (by simp [hd])) ?_
   unfold CapRel at *
   rcases h with ⟨rfl, h⟩ | ⟨h1, h2⟩
   · rw [if_pos h]
     by_cases g : 10 * x + (c.toNat - 48) ≤ 9007199254740991
     · left
       omega
     right
     omega
   right
   rw [if_neg (by omega)]
   omega
theorem dgs_small (l : List UInt8) : ∀ c ∈ dgs l, c.toNat ≤ 57 := by
 intro c hc
 obtain ⟨k, hk, e⟩ := List.getElem_of_mem hc
 have := (dgs_at l k hk).2
 rw [e, dgJ_iff] at this
 exact this.2
theorem cap_dgs (l : List UInt8) : CapRel (rcapF (dgs l) 0) (capF (dgs l) 0) := cap_rel _ 0 0 (dgs_small l) (.inl ⟨rfl, by decide⟩)
def SrtM (d : List MemT) : Prop := d.Pairwise (fun a b => Op.bytesLess b.1 a.1 = false)
section
variable {d : List MemT} {k : Nat} {m : MemT} {nm : List UInt8}
theorem ins_sorted (hs : SrtM d) (h1 : ∀ j (h : j < d.length), j < k → Op.bytesLess d[j].1 m.1 = true) (h2 : ∀ h : k < d.length, Op.bytesLess d[k].1 m.1 = false) : SrtM (d.take k ++ m :: d.drop k) := by
 have hbig : ∀ j (h : j < d.length), k ≤ j → Op.bytesLess d[j].1 m.1 = false := by
  intro j h hkj
  have h2' := h2 (by omega)
  by_cases e : j = k
  · subst e
    exact h2'
  have hp := (List.pairwise_iff_getElem.1 hs) k j (by omega) h (by omega)
  cases hj : Op.bytesLess d[j].1 m.1 with
  | false => rfl
  | true =>
   cases hkj2 : Op.bytesLess d[k].1 d[j].1 with
   | true =>
    have := bl_tr _ _ _ hkj2 hj
    rw [this] at h2'
    cases h2'
   | false =>
    have e := bl_tot _ _ hkj2 hp
    rw [e, hj] at h2'
    cases h2'
 have hd : d.take k ++ d.drop k = d := List.take_append_drop k d
 have hs' := hs
 unfold SrtM at hs'
 rw [← hd, List.pairwise_append] at hs'
 unfold SrtM
 rw [List.pairwise_append, List.pairwise_cons]
 refine ⟨hs'.1, ⟨fun b hb => ?_, hs'.2.1⟩, fun a ha b hb => ?_⟩
 · obtain ⟨j, hj, e⟩ := List.getElem_of_mem hb
   rw [List.getElem_drop] at e
   rw [← e]
   exact hbig _ _ (by omega)
 rcases List.mem_cons.1 hb with rfl | hb
 · obtain ⟨j, hj, e⟩ := List.getElem_of_mem ha
   rw [List.getElem_take] at e
   rw [List.length_take] at hj
   have := h1 j (by omega) (by omega)
   rw [e] at this
   cases hx : Op.bytesLess b.1 a.1 with
   | false => rfl
   | true =>
    have h3 := bl_tr _ _ _ this hx
    rw [bl_irr] at h3
    cases h3
 exact hs'.2.2 a ha b hb
theorem ins_perm {acc : List MemT} (hp : d.Perm acc) : (d.take k ++ m :: d.drop k).Perm (acc ++ [m]) := by
 have h : (d.take k ++ m :: d.drop k).Perm (m :: (d.take k ++ d.drop k)) := List.perm_middle
 rw [List.take_append_drop] at h
 exact (h.trans (hp.cons m)).trans (List.perm_append_singleton m acc).symm
theorem dup_iff {acc : List MemT} (hp : d.Perm acc) (hs : SrtM d) (h1 : ∀ j (h : j < d.length), j < k → Op.bytesLess d[j].1 nm = true) (h2 : ∀ h : k < d.length, Op.bytesLess d[k].1 nm = false) :
 (∃ h : k < d.length, d[k].1 = nm) ↔ nm ∈ acc.map (fun m => m.1) := by
 constructor
 · rintro ⟨h, e⟩
   exact List.mem_map.2 ⟨d[k], hp.mem_iff.1 (List.getElem_mem h), e⟩
 intro h
 obtain ⟨x, hx, e⟩ := List.mem_map.1 h
 obtain ⟨j, hj, e2⟩ := List.getElem_of_mem (hp.mem_iff.2 hx)
 have e3 : d[j].1 = nm := by rw [e2]; exact e
 have hkj : k ≤ j := Classical.byContradiction fun g => by
  have := h1 j hj (by omega)
  rw [e3, bl_irr] at this
  cases this
 refine ⟨by omega, ?_⟩
 by_cases g : j = k
 · subst g
   exact e3
 have hq := (List.pairwise_iff_getElem.1 hs) k j (by omega) hj (by omega)
 rw [e3] at hq
 exact bl_tot _ _ (h2 (by omega)) hq
end
theorem txt_end (t : List UInt8) : txtP t t.length = .err 2 := by
 have h : (unqR t (t.length : Int)).2.2 = 2 := by
  unfold unqR
  rw [if_neg (by omega)]
  simp [wantN]
 unfold txtP
 rw [h]
 rfl
theorem val_end (t : List UInt8) (d : Nat) : valP t d t.length = .err 2 := by
 cases d <;> (unfold valP; rw [skp_end]; simp)
end Go.Proofs.YtegblhmcfemfgaaGreatDoor

set_option maxRecDepth 100000
set_option maxHeartbeats 4000000
namespace Go.Proofs.YtegblhmcfemfgaaGreatDoor
open Go.RowKit

theorem zero_box (w : World) : ∃ Wa, Wa = w.alloc (.cells #[.int .i64 0, .int .i64 0, .string ⟨#[]⟩, .slice none 0 0, .slice none 0 0] 95) ∧ Below w.heap.size w Wa ∧ Wa.heap[w.heap.size]? = some (.cells #[.int .i64 0, .int .i64 0, str [], .slice none 0 0, .slice none 0 0] 95 (0, 0)) ∧ Wa.heap.size = w.heap.size + 1 :=
 ⟨_, rfl, below_alloc _ _, heap_alloc_new w _, by simp⟩
theorem box_far {w : World} {s b j : Nat} {o : Obj} (v : Value) (h : w.heap[s]? = some o) (hn : s ≠ b) : (w.setCell ⟨b, j, none⟩ v).heap[s]? = some o := box_frm h (Frm.set (F := fun i => i = b) v rfl) hn
theorem rfail_any {t : List UInt8} {b p x : Nat} {w : World} (c : Nat) (h : JRb w b t p x) :
 Calls Tryz.prog 77 #[.pointer (some ⟨b, 0, none⟩), .int .i64 (c : Int)] w fun e w' => e = .returned (.agg #[.int .i64 0, .int .i64 0, str [], .slice none 0 0, .slice none 0 0]) ∧ JSt w b t p (if x = 0 then c else x) w' := by
 obtain ⟨Wa, hWa, hba, hbx, hsz⟩ := zero_box w
 have hb := h.lt
 have ha := h.below hba
 have c2 := ha.c2
 have f2 := ha.fr 2
 obtain ⟨b0, b1, b2, b3, b4⟩ := box5 hbx
 have hfz := box_fr hbx
 have HA := Lib.hid (And.intro ha (And.intro hba (And.intro hbx hb)))
 by_cases hx : x = 0
 · rw [if_pos hx]
   have e0 : ((x : Int) == 0) = true := by rw [hx]; rfl
   have HG := Lib.hid hx
   clear ha hbx hx hba hsz hb h
   go_enter Tryz.func77, Tryz.ntmps77
   go_upto_region 1 with fail
   rw [← hWa]
   clear hWa
   go_upto_region 3 with fail
   refine wp_any_world (fun W => W.heap[w.heap.size]? = some (.cells #[.int .i64 0, .int .i64 0, str [], .slice none 0 0, .slice none 0 0] 95 (0, 0)) ∧ JSt w b t p c W) ⟨box_far _ HA.out.2.2.1 (by have := HA.out.2.2.2; omega), JSt.setOpen ⟨HA.out.1, Frm.of_below HA.out.2.1⟩ c _ rfl⟩ ?_
   clear b0 b1 b2 b3 b4 hfz c2 f2
   rintro w2 ⟨hz, hs⟩
   obtain ⟨b0, b1, b2, b3, b4⟩ := box5 hz
   have hfz := box_fr hz
   have HX := Lib.hid (And.intro hz hs)
   clear hz hs
   go_wp2_with fail
   refine bodyPost_any_world (fun W => W.heap[w.heap.size]? = some (.cells #[.int .i64 0, .int .i64 0, str [], .slice none 0 0, .slice none 0 0] 95 (0, 0)) ∧ Frm (fun i => i = w.heap.size) w2 W) (five_set HX.out.1 _ _ _ _ _) ?_
   clear b0 b1 b2 b3 b4 hfz
   rintro w9 ⟨h9, hf9⟩
   obtain ⟨k0, k1, k2, k3, k4⟩ := box5 h9
   refine bodyPost_ret (v := .agg #[.int .i64 0, .int .i64 0, str [], .slice none 0 0, .slice none 0 0]) (by simp [results, Tryz.results77, go_sem, k0, k1, k2, k3, k4]) rfl ?_
   exact ⟨rfl, JSt.grow HX.out.2 hf9 (fun i e => by have := HA.out.2.2.2; omega)⟩
 rw [if_neg hx]
 have e0 : ((x : Int) == 0) = false := by rw [beq_eq_false_iff_ne]; omega
 clear ha hx hsz hb h
 go_enter Tryz.func77, Tryz.ntmps77
 go_upto_region 1 with fail
 rw [← hWa]
 clear hWa hbx hba
 go_wp2_with fail
 refine bodyPost_any_world (fun W => W.heap[w.heap.size]? = some (.cells #[.int .i64 0, .int .i64 0, str [], .slice none 0 0, .slice none 0 0] 95 (0, 0)) ∧ Frm (fun i => i = w.heap.size) Wa W) (five_set HA.out.2.2.1 _ _ _ _ _) ?_
 clear b0 b1 b2 b3 b4 hfz c2 f2
 rintro w9 ⟨h9, hf9⟩
 obtain ⟨k0, k1, k2, k3, k4⟩ := box5 h9
 refine bodyPost_ret (v := .agg #[.int .i64 0, .int .i64 0, str [], .slice none 0 0, .slice none 0 0]) (by simp [results, Tryz.results77, go_sem, k0, k1, k2, k3, k4]) rfl ?_
 exact ⟨rfl, JSt.grow ⟨HA.out.1, Frm.of_below HA.out.2.1⟩ hf9 (fun i e => by have := HA.out.2.2.2; omega)⟩
theorem rfail_first {t : List UInt8} {b p : Nat} {w : World} (c : Nat) (h : JRb w b t p 0) :
 Calls Tryz.prog 77 #[.pointer (some ⟨b, 0, none⟩), .int .i64 (c : Int)] w fun e w' => e = .returned (.agg #[.int .i64 0, .int .i64 0, str [], .slice none 0 0, .slice none 0 0]) ∧ JSt w b t p c w' := rfail_any c h
theorem bl_ways (c : UInt8) : (isBl c = true ∧ ((((c.toNat : Int) == 32) = true) ∨ (((c.toNat : Int) == 32) = false ∧ ((c.toNat : Int) == 9) = true) ∨ (((c.toNat : Int) == 32) = false ∧ ((c.toNat : Int) == 9) = false ∧ ((c.toNat : Int) == 10) = true) ∨ (((c.toNat : Int) == 32) = false ∧ ((c.toNat : Int) == 9) = false ∧ ((c.toNat : Int) == 10) = false ∧ ((c.toNat : Int) == 13) = true))) ∨
 (isBl c = false ∧ ((c.toNat : Int) == 32) = false ∧ ((c.toNat : Int) == 9) = false ∧ ((c.toNat : Int) == 10) = false ∧ ((c.toNat : Int) == 13) = false) := by
 have key : ∀ k : UInt8, ((c.toNat : Int) == (k.toNat : Int)) = (c == k) := by
  intro k
  by_cases h : c = k
  · rw [h]; simp
  rw [beq_eq_false_iff_ne.2 h, beq_eq_false_iff_ne]
  intro e
  exact h (UInt8.toNat_inj.1 (by omega))
 have k1 := key 32
 have k2 := key 9
 have k3 := key 10
 have k4 := key 13
 have g1 : (((32 : UInt8).toNat : Nat) : Int) = 32 := rfl
 have g2 : (((9 : UInt8).toNat : Nat) : Int) = 9 := rfl
 have g3 : (((10 : UInt8).toNat : Nat) : Int) = 10 := rfl
 have g4 : (((13 : UInt8).toNat : Nat) : Int) = 13 := rfl
 rw [g1] at k1
 rw [g2] at k2
 rw [g3] at k3
 rw [g4] at k4
 rw [k1, k2, k3, k4]
 unfold isBl
 cases (c == 32) <;> cases (c == 9) <;> cases (c == 10) <;> cases (c == 13) <;> simp
theorem rskip_any (t : List UInt8) (b p o : Nat) (w : World) (h : JRb w b t p o) (hp : p ≤ t.length) (hl : t.length ≤ 140737488355328) :
 Calls Tryz.prog 76 #[.pointer (some ⟨b, 0, none⟩)] w fun e w' => e = .returned (.tuple #[]) ∧ JSt w b t (skp t p) o w' := by
 have HD := Lib.hid (JSt.refl h)
 clear h
 go_enter Tryz.func76, Tryz.ntmps76
 go_wp2_with fail
 go_loopg [] (t.length - p) (fun n wr => ∃ q : Nat, q + n = t.length ∧ Hid (skp t q = skp t p) ∧ Hid (JSt w b t q o wr))
 case atStart => exact ⟨p, by omega, Lib.hid rfl, HD⟩
 case round =>
  obtain ⟨q, hq, HS, HD⟩ := hrel
  have c0 := HD.out.1.c0
  have c1 := HD.out.1.c1
  have f1 := HD.out.1.fr 1
  by_cases hlt : q < t.length
  · have n1 : (q : Int) < (t.length : Int) := by omega
    have n3 : (0 : Int) ≤ (q : Int) := by omega
    obtain ⟨c, hc⟩ : ∃ c, c = t[q] := ⟨_, rfl⟩
    have hgd : (ByteArray.mk t.toArray)[q]'(by simpa [ByteArray.size] using hlt) = c := hc.symm
    have hg? : t[q]? = some c := by rw [hc]; exact List.getElem?_eq_getElem hlt
    rcases bl_ways c with ⟨hb, hw⟩ | ⟨hb, w1, w2, w3, w4⟩
    · have HS2 : Hid (skp t (q + 1) = skp t p) := Lib.hid (by rw [← HS.out, skp_bl hg? hb])
      have HQ := Lib.hid hq
      clear hc hg? hb hq HS
      rcases hw with w1 | ⟨w1, w2⟩ | ⟨w1, w2, w3⟩ | ⟨w1, w2, w3, w4⟩
      all_goals
       go_wp2_with fail
       go_quiet (fail)
       go_wp2_with fail
       go_roundg (gk - 1)
       case measure => have := HQ.out; omega
       case rel => exact ⟨q + 1, by have := HQ.out; omega, HS2, Lib.hid ((HD.out.drewN _).setAt (q + 1) _ (by omega))⟩
    have HS2 : Hid (skp t p = q) := Lib.hid (by rw [← HS.out, skp_no hg? hb])
    clear hc hg? hb hq HS
    go_wp2_with fail
    go_quiet (fail)
    go_wp2_with fail
    go_end0
    rw [HS2.out]
    exact ⟨rfl, HD.out.drewN _⟩
  obtain rfl : q = t.length := by omega
  have n1 : decide ((t.length : Int) < (t.length : Int)) = false := decide_eq_false (by omega)
  have n2 : ¬ ((t.length : Int) < (t.length : Int)) := by omega
  have HS2 : Hid (skp t p = t.length) := Lib.hid (by rw [← HS.out, skp_end])
  clear hq HS
  go_wp2_with fail
  go_quiet (fail)
  go_wp2_with fail
  go_end0
  rw [HS2.out]
  exact ⟨rfl, HD.out.drewN _⟩
def dgAt (t : List UInt8) (p : Nat) : Bool := match t[p]? with | some c => dgJ c | none => false
theorem rdigit_any (t : List UInt8) (b p o : Nat) (w : World) (h : JRb w b t p o) (hp : p ≤ t.length) :
 Calls Tryz.prog 132 #[.pointer (some ⟨b, 0, none⟩)] w fun e w' => e = .returned (.bool (dgAt t p)) ∧ ∃ n, w' = w.drewN n := by
 have c0 := h.c0
 have c1 := h.c1
 clear h
 by_cases hlt : p < t.length
 · have n1 : (p : Int) < (t.length : Int) := by omega
   have n3 : (0 : Int) ≤ (p : Int) := by omega
   obtain ⟨c, hc⟩ : ∃ c, c = t[p] := ⟨_, rfl⟩
   have hgd : (ByteArray.mk t.toArray)[p]'(by simpa [ByteArray.size] using hlt) = c := hc.symm
   have e : dgAt t p = dgJ c := by unfold dgAt; rw [List.getElem?_eq_getElem hlt, hc]
   rw [e]
   clear e hc
   have hcs : (dgJ c = false ∧ decide ((48 : Int) ≤ (c.toNat : Int)) = true ∧ decide ((c.toNat : Int) ≤ 57) = false) ∨ (dgJ c = false ∧ decide ((48 : Int) ≤ (c.toNat : Int)) = false ∧ True) ∨ (dgJ c = true ∧ decide ((48 : Int) ≤ (c.toNat : Int)) = true ∧ decide ((c.toNat : Int) ≤ 57) = true) := by
    unfold dgJ
    by_cases g1 : 48 ≤ c.toNat
    · by_cases g2 : c.toNat ≤ 57
      · exact .inr (.inr ⟨by simp [g1, g2], decide_eq_true (by omega), decide_eq_true (by omega)⟩)
      exact .inl ⟨by simp [g1, g2], decide_eq_true (by omega), decide_eq_false (by omega)⟩
    exact .inr (.inl ⟨by simp [g1], decide_eq_false (by omega), trivial⟩)
   rcases hcs with ⟨e, g1, g2⟩ | ⟨e, g1, -⟩ | ⟨e, g1, g2⟩
   all_goals
    rw [e]
    clear e
    go_enter Tryz.func132, Tryz.ntmps132
    go_wp2_with fail
    go_quiet (fail)
    go_wp2_with fail
    go_ret
    exact ⟨rfl, _, rfl⟩
 have n1 : ¬ (p : Int) < (t.length : Int) := by omega
 have e : dgAt t p = false := by unfold dgAt; rw [List.getElem?_eq_none (by omega)]
 rw [e]
 clear e
 go_enter Tryz.func132, Tryz.ntmps132
 go_wp2_with fail
 go_quiet (fail)
 go_wp2_with fail
 go_ret
 exact ⟨rfl, _, rfl⟩
end Go.Proofs.YtegblhmcfemfgaaGreatDoor

set_option maxRecDepth 100000
set_option maxHeartbeats 4000000
namespace Go.Proofs.YtegblhmcfemfgaaGreatDoor
open Go.RowKit

theorem tst (c k : UInt8) {z : Int} (hz : z = (k.toNat : Int)) : ((c.toNat : Int) == z) = (c == k) := by
 subst hz
 by_cases h : c = k
 · rw [h]; simp
 rw [beq_eq_false_iff_ne.2 h, beq_eq_false_iff_ne]
 intro e
 exact h (UInt8.toNat_inj.1 (by omega))
theorem tstn (c k : UInt8) {z : Int} (hz : z = (k.toNat : Int)) : ((c.toNat : Int) != z) = (c != k) := by
 unfold bne
 rw [tst c k hz]
theorem eq_of {c k : UInt8} (h : c = k) : (c == k) = true := by rw [h]; simp
theorem ne_of {c k : UInt8} (h : c ≠ k) : (c == k) = false := by simpa using h
theorem neq_of {c k : UInt8} (h : c = k) : (c != k) = false := by rw [h]; simp
theorem nne_of {c k : UInt8} (h : c ≠ k) : (c != k) = true := by simpa using h
theorem stB_iff (c : UInt8) : stB c = (c == 34 || c == 91 || c == 123 || c == 45 || (decide (48 ≤ c.toNat) && decide (c.toNat ≤ 57)) || c == 116 || c == 102 || c == 110) := by
 have key : ∀ j : Fin 256, stB (UInt8.ofNat j.val) = (UInt8.ofNat j.val == 34 || UInt8.ofNat j.val == 91 || UInt8.ofNat j.val == 123 || UInt8.ofNat j.val == 45 || (decide (48 ≤ (UInt8.ofNat j.val).toNat) && decide ((UInt8.ofNat j.val).toNat ≤ 57)) || UInt8.ofNat j.val == 116 || UInt8.ofNat j.val == 102 || UInt8.ofNat j.val == 110) := by decide +kernel
 have h := key ⟨c.toNat, c.toNat_lt⟩
 have e : UInt8.ofNat c.toNat = c := by simp
 rw [e] at h
 exact h
theorem beg_ways (c : UInt8) : (stB c = true ∧ ((c.toNat : Int) == 34) = true) ∨
 (stB c = true ∧ ((c.toNat : Int) == 34) = false ∧ ((c.toNat : Int) == 91) = true) ∨
 (stB c = true ∧ ((c.toNat : Int) == 34) = false ∧ ((c.toNat : Int) == 91) = false ∧ ((c.toNat : Int) == 123) = true) ∨
 (stB c = true ∧ ((c.toNat : Int) == 34) = false ∧ ((c.toNat : Int) == 91) = false ∧ ((c.toNat : Int) == 123) = false ∧ ((c.toNat : Int) == 45) = true) ∨
 (stB c = true ∧ ((c.toNat : Int) == 34) = false ∧ ((c.toNat : Int) == 91) = false ∧ ((c.toNat : Int) == 123) = false ∧ ((c.toNat : Int) == 45) = false ∧ (48 : Int) ≤ (c.toNat : Int) ∧ (c.toNat : Int) ≤ 57) ∨
 (stB c = true ∧ ((c.toNat : Int) == 34) = false ∧ ((c.toNat : Int) == 91) = false ∧ ((c.toNat : Int) == 123) = false ∧ ((c.toNat : Int) == 45) = false ∧ ¬ (48 : Int) ≤ (c.toNat : Int) ∧ ((c.toNat : Int) == 116) = true) ∨
 (stB c = true ∧ ((c.toNat : Int) == 34) = false ∧ ((c.toNat : Int) == 91) = false ∧ ((c.toNat : Int) == 123) = false ∧ ((c.toNat : Int) == 45) = false ∧ ¬ (48 : Int) ≤ (c.toNat : Int) ∧ ((c.toNat : Int) == 116) = false ∧ ((c.toNat : Int) == 102) = true) ∨
 (stB c = true ∧ ((c.toNat : Int) == 34) = false ∧ ((c.toNat : Int) == 91) = false ∧ ((c.toNat : Int) == 123) = false ∧ ((c.toNat : Int) == 45) = false ∧ ¬ (48 : Int) ≤ (c.toNat : Int) ∧ ((c.toNat : Int) == 116) = false ∧ ((c.toNat : Int) == 102) = false ∧ ((c.toNat : Int) == 110) = true) ∨
 (stB c = false ∧ ((c.toNat : Int) == 34) = false ∧ ((c.toNat : Int) == 91) = false ∧ ((c.toNat : Int) == 123) = false ∧ ((c.toNat : Int) == 45) = false ∧ ¬ (48 : Int) ≤ (c.toNat : Int) ∧ ((c.toNat : Int) == 116) = false ∧ ((c.toNat : Int) == 102) = false ∧ ((c.toNat : Int) == 110) = false) ∨
 (stB c = true ∧ ((c.toNat : Int) == 34) = false ∧ ((c.toNat : Int) == 91) = false ∧ ((c.toNat : Int) == 123) = false ∧ ((c.toNat : Int) == 45) = false ∧ (48 : Int) ≤ (c.toNat : Int) ∧ ¬ (c.toNat : Int) ≤ 57 ∧ ((c.toNat : Int) == 116) = true) ∨
 (stB c = true ∧ ((c.toNat : Int) == 34) = false ∧ ((c.toNat : Int) == 91) = false ∧ ((c.toNat : Int) == 123) = false ∧ ((c.toNat : Int) == 45) = false ∧ (48 : Int) ≤ (c.toNat : Int) ∧ ¬ (c.toNat : Int) ≤ 57 ∧ ((c.toNat : Int) == 116) = false ∧ ((c.toNat : Int) == 102) = true) ∨
 (stB c = true ∧ ((c.toNat : Int) == 34) = false ∧ ((c.toNat : Int) == 91) = false ∧ ((c.toNat : Int) == 123) = false ∧ ((c.toNat : Int) == 45) = false ∧ (48 : Int) ≤ (c.toNat : Int) ∧ ¬ (c.toNat : Int) ≤ 57 ∧ ((c.toNat : Int) == 116) = false ∧ ((c.toNat : Int) == 102) = false ∧ ((c.toNat : Int) == 110) = true) ∨
 (stB c = false ∧ ((c.toNat : Int) == 34) = false ∧ ((c.toNat : Int) == 91) = false ∧ ((c.toNat : Int) == 123) = false ∧ ((c.toNat : Int) == 45) = false ∧ (48 : Int) ≤ (c.toNat : Int) ∧ ¬ (c.toNat : Int) ≤ 57 ∧ ((c.toNat : Int) == 116) = false ∧ ((c.toNat : Int) == 102) = false ∧ ((c.toNat : Int) == 110) = false) := by
 rw [stB_iff]
 simp only [tst c 34 (z := 34) rfl, tst c 91 (z := 91) rfl, tst c 123 (z := 123) rfl, tst c 45 (z := 45) rfl, tst c 116 (z := 116) rfl, tst c 102 (z := 102) rfl, tst c 110 (z := 110) rfl]
 by_cases g1 : 48 ≤ c.toNat
 · have g1' : (48 : Int) ≤ (c.toNat : Int) := by omega
   by_cases g2 : c.toNat ≤ 57
   · have g2' : (c.toNat : Int) ≤ 57 := by omega
     simp only [g1, g1', g2, g2']
     cases (c == 34) <;> cases (c == 91) <;> cases (c == 123) <;> cases (c == 45) <;> cases (c == 116) <;> cases (c == 102) <;> cases (c == 110) <;> simp
   have g2' : ¬ (c.toNat : Int) ≤ 57 := by omega
   simp only [g1, g1', g2, g2']
   cases (c == 34) <;> cases (c == 91) <;> cases (c == 123) <;> cases (c == 45) <;> cases (c == 116) <;> cases (c == 102) <;> cases (c == 110) <;> simp
 have g1' : ¬ (48 : Int) ≤ (c.toNat : Int) := by omega
 simp only [g1, g1']
 cases (c == 34) <;> cases (c == 91) <;> cases (c == 123) <;> cases (c == 45) <;> cases (c == 116) <;> cases (c == 102) <;> cases (c == 110) <;> simp
theorem rbegins_any (c : UInt8) (w : World) : Calls Tryz.prog 103 #[.int .u8 (c.toNat : Int)] w fun e w' => e = .returned (.bool (stB c)) ∧ w' = w := by
 rcases beg_ways c with ⟨e, h0⟩ | ⟨e, h0, h1⟩ | ⟨e, h0, h1, h2⟩ | ⟨e, h0, h1, h2, h3⟩ | ⟨e, h0, h1, h2, h3, h4, h5⟩ | ⟨e, h0, h1, h2, h3, h4, h5⟩ | ⟨e, h0, h1, h2, h3, h4, h5, h6⟩ | ⟨e, h0, h1, h2, h3, h4, h5, h6, h7⟩ | ⟨e, h0, h1, h2, h3, h4, h5, h6, h7⟩ | ⟨e, h0, h1, h2, h3, h4, h5, h6⟩ | ⟨e, h0, h1, h2, h3, h4, h5, h6, h7⟩ | ⟨e, h0, h1, h2, h3, h4, h5, h6, h7, h8⟩ | ⟨e, h0, h1, h2, h3, h4, h5, h6, h7, h8⟩
 all_goals
  rw [e]
  clear e
  go_enter Tryz.func103, Tryz.ntmps103
  go_wp2_with fail
  go_ret
  exact ⟨rfl, rfl⟩
def NxR (t : List UInt8) (d : UInt8) (p x : Nat) (z : Bool) (q y : Nat) : Prop :=
 (x ≠ 0 → z = false ∧ y = x) ∧ (x = 0 → match behP t d p with
   | .ok true r => z = false ∧ q = r ∧ y = 0
   | .ok false r => z = true ∧ q = r ∧ y = 0
   | .err c => z = false ∧ y = c ∧ c ≠ 0)
theorem rnext_any (t : List UInt8) (b p x : Nat) (d : UInt8) (w : World) (h : JRb w b t p x) (hp : p ≤ t.length) (hl : t.length ≤ 140737488355328) (hd : d ≠ 44) :
 Calls Tryz.prog 131 #[.pointer (some ⟨b, 0, none⟩), .int .u8 (d.toNat : Int)] w fun e w' => ∃ z q y, e = .returned (.bool z) ∧ q ≤ t.length ∧ JSt w b t q y w' ∧ NxR t d p x z q y := by
 have CS := Lib.hid (rskip_any t b p x w h hp hl)
 clear h
 have hq := skp_le t hp
 obtain ⟨q, hqq⟩ : ∃ q, q = skp t p := ⟨_, rfl⟩
 rw [← hqq] at CS hq
 by_cases hx : x = 0
 · subst hx
   have e0 : (((0 : Nat) : Int) != 0) = false := rfl
   by_cases hlt : q < t.length
   · have m1 : ((q : Int) == (t.length : Int)) = false := by rw [beq_eq_false_iff_ne]; omega
     have m2 : (q : Int) < (t.length : Int) := by omega
     have m3 : (0 : Int) ≤ (q : Int) := by omega
     obtain ⟨c, hc⟩ : ∃ c, c = t[q] := ⟨_, rfl⟩
     have hgc : (ByteArray.mk t.toArray)[q]'(by simpa [ByteArray.size] using hlt) = c := hc.symm
     have hB : behP t d p = if c = d then .ok true (q + 1) else if c = 44 then .ok false (q + 1) else .err 4 := by
      unfold behP
      rw [← hqq, List.getElem?_eq_getElem hlt, ← hc]
     have HB := Lib.hid hB
     have HQL := Lib.hid hlt
     have r1 : (q : Int) ≤ 140737488355328 := by omega
     have n44 := tstn c 44 (z := 44) rfl
     have nd := tstn c d (z := (d.toNat : Int)) rfl
     have t44 := tst c 44 (z := 44) rfl
     by_cases k44 : c = 44
     · rw [neq_of k44] at n44
       rw [eq_of k44] at t44
       have HN : Hid (NxR t d p 0 true (q + 1) 0) := Lib.hid ⟨fun h => absurd rfl h, fun _ => by rw [HB.out, if_neg (by rw [k44]; exact fun h => hd h.symm), if_pos k44]; exact ⟨rfl, rfl, rfl⟩⟩
       clear hB HB hc hqq nd k44
       go_enter Tryz.func131, Tryz.ntmps131
       go_wp2_with fail
       refine CS.out.mono ?_
       rintro e w1 ⟨rfl, hs⟩
       have HD := Lib.hid hs
       have c0 := hs.1.c0
       have c1 := hs.1.c1
       have c2 := hs.1.c2
       have f1 := hs.1.fr 1
       clear hs CS
       go_wp2_with fail
       go_quiet (fail)
       go_wp2_with fail
       go_quiet (fail)
       go_wp2_with fail
       go_quiet (fail)
       go_wp2_with fail
       go_ret
       exact ⟨true, q + 1, 0, rfl, HQL.out, (JSt.setAt (HD.out.drewN _) (q + 1) ((q : Int) + 1) (by omega)).drewN _, HN.out⟩
     rw [nne_of k44] at n44
     rw [ne_of k44] at t44
     by_cases kd : c = d
     · rw [neq_of kd] at nd
       have HN : Hid (NxR t d p 0 false (q + 1) 0) := Lib.hid ⟨fun h => absurd rfl h, fun _ => by rw [HB.out, if_pos kd]; exact ⟨rfl, rfl, rfl⟩⟩
       clear hB HB hc hqq kd k44
       go_enter Tryz.func131, Tryz.ntmps131
       go_wp2_with fail
       refine CS.out.mono ?_
       rintro e w1 ⟨rfl, hs⟩
       have HD := Lib.hid hs
       have c0 := hs.1.c0
       have c1 := hs.1.c1
       have c2 := hs.1.c2
       have f1 := hs.1.fr 1
       clear hs CS
       go_wp2_with fail
       go_quiet (fail)
       go_wp2_with fail
       go_quiet (fail)
       go_wp2_with fail
       go_quiet (fail)
       go_wp2_with fail
       go_ret
       exact ⟨false, q + 1, 0, rfl, HQL.out, (JSt.setAt (HD.out.drewN _) (q + 1) ((q : Int) + 1) (by omega)).drewN _, HN.out⟩
     rw [nne_of kd] at nd
     have HN : Hid (NxR t d p 0 false q 4) := Lib.hid ⟨fun h => absurd rfl h, fun _ => by rw [HB.out, if_neg kd, if_neg k44]; exact ⟨rfl, rfl, by decide⟩⟩
     clear hB HB hc hqq kd k44
     go_enter Tryz.func131, Tryz.ntmps131
     go_wp2_with fail
     refine CS.out.mono ?_
     rintro e w1 ⟨rfl, hs⟩
     have HD := Lib.hid hs
     have c0 := hs.1.c0
     have c1 := hs.1.c1
     have c2 := hs.1.c2
     have f1 := hs.1.fr 1
     clear hs CS
     go_wp2_with fail
     go_quiet (fail)
     go_wp2_with fail
     go_quiet (fail)
     go_wp2_with fail
     refine (rfail_first 4 (HD.out.drewN _).1).mono ?_
     rintro e w2 ⟨rfl, hs2⟩
     have HX := Lib.hid ((HD.out.drewN _).trans hs2)
     clear hs2
     go_wp2_with fail
     go_ret
     exact ⟨false, q, 4, rfl, Nat.le_of_lt HQL.out, HX.out, HN.out⟩
   obtain rfl : q = t.length := by omega
   have m1 : ((t.length : Int) == (t.length : Int)) = true := beq_self_eq_true _
   have HN : Hid (NxR t d p 0 false t.length 2) := Lib.hid ⟨fun h => absurd rfl h, fun _ => by unfold behP; rw [← hqq, List.getElem?_eq_none (by omega)]; exact ⟨rfl, rfl, by decide⟩⟩
   clear hlt hq hqq
   go_enter Tryz.func131, Tryz.ntmps131
   go_wp2_with fail
   refine CS.out.mono ?_
   rintro e w1 ⟨rfl, hs⟩
   have HD := Lib.hid hs
   have c0 := hs.1.c0
   have c1 := hs.1.c1
   have c2 := hs.1.c2
   clear hs CS
   go_wp2_with fail
   go_quiet (fail)
   go_wp2_with fail
   refine (rfail_first 2 (HD.out.drewN _).1).mono ?_
   rintro e w2 ⟨rfl, hs2⟩
   have HX := Lib.hid ((HD.out.drewN _).trans hs2)
   clear hs2
   go_wp2_with fail
   go_ret
   exact ⟨false, _, 2, rfl, Nat.le_refl _, HX.out, HN.out⟩
 have e0 : ((x : Int) != 0) = true := by rw [bne_iff_ne]; omega
 have HN : Hid (NxR t d p x false q x) := Lib.hid ⟨fun _ => ⟨rfl, rfl⟩, fun h => absurd h hx⟩
 clear hx hqq
 go_enter Tryz.func131, Tryz.ntmps131
 go_wp2_with fail
 refine CS.out.mono ?_
 rintro e w1 ⟨rfl, hs⟩
 have HD := Lib.hid hs
 have c2 := hs.1.c2
 clear hs CS
 go_wp2_with fail
 go_ret
 exact ⟨false, q, x, rfl, hq, HD.out, HN.out⟩
def EmR (t : List UInt8) (d : UInt8) (p : Nat) (z : Bool) (q : Nat) : Prop :=
 match entP t d p with
 | .ok true r => z = true ∧ q = r
 | .ok false r => z = false ∧ q = r
 | .err c => z = false ∧ q = t.length ∧ c = 2
theorem rempty_any (t : List UInt8) (b p x : Nat) (d : UInt8) (w : World) (h : JRb w b t p x) (hp : p < t.length) (hl : t.length ≤ 140737488355328) :
 Calls Tryz.prog 130 #[.pointer (some ⟨b, 0, none⟩), .int .u8 (d.toNat : Int)] w fun e w' => ∃ z q, e = .returned (.bool z) ∧ q ≤ t.length ∧ JSt w b t q x w' ∧ EmR t d p z q := by
 have HD := Lib.hid (JSt.refl h)
 have c1 := h.c1
 have f1 := h.fr 1
 have r1 : (p : Int) ≤ 140737488355328 := by omega
 have CS := Lib.hid (fun (W : World) (hj : JRb W b t (p + 1) x) => rskip_any t b (p + 1) x W hj hp hl)
 have hq := skp_le t hp
 obtain ⟨q, hqq⟩ : ∃ q, q = skp t (p + 1) := ⟨_, rfl⟩
 rw [← hqq] at CS
 replace hq : q ≤ t.length := by rw [hqq]; exact skp_le t hp
 clear h
 by_cases hlt : q < t.length
 · have m1 : (q : Int) < (t.length : Int) := by omega
   have m3 : (0 : Int) ≤ (q : Int) := by omega
   have r2 : (q : Int) ≤ 140737488355328 := by omega
   obtain ⟨c, hc⟩ : ∃ c, c = t[q] := ⟨_, rfl⟩
   have hgc : (ByteArray.mk t.toArray)[q]'(by simpa [ByteArray.size] using hlt) = c := hc.symm
   have HB : Hid (entP t d p = if c = d then .ok true (q + 1) else .ok false q) := Lib.hid (by
    unfold entP
    rw [← hqq, List.getElem?_eq_getElem hlt, ← hc])
   have HQL := Lib.hid hlt
   have td := tst c d (z := (d.toNat : Int)) rfl
   by_cases kd : c = d
   · rw [eq_of kd] at td
     have HN : Hid (EmR t d p true (q + 1)) := Lib.hid (by unfold EmR; rw [HB.out, if_pos kd]; exact ⟨rfl, rfl⟩)
     clear HB hc hqq kd hp hq
     go_enter Tryz.func130, Tryz.ntmps130
     go_wp2_with fail
     have HJ := Lib.hid (HD.out.setAt (p + 1) ((p : Int) + 1) (by omega))
     refine (CS.out _ HJ.out.1).mono ?_
     rintro e w1 ⟨rfl, hs⟩
     have HD2 := Lib.hid (HJ.out.trans hs)
     have c0 := hs.1.c0
     have c1 := hs.1.c1
     have f1 := hs.1.fr 1
     clear hs CS HJ
     go_wp2_with fail
     go_quiet (fail)
     go_wp2_with fail
     go_ret
     exact ⟨true, q + 1, rfl, HQL.out, (JSt.setAt (HD2.out.drewN _) (q + 1) ((q : Int) + 1) (by omega)), HN.out⟩
   rw [ne_of kd] at td
   have HN : Hid (EmR t d p false q) := Lib.hid (by unfold EmR; rw [HB.out, if_neg kd]; exact ⟨rfl, rfl⟩)
   clear HB hc hqq kd hp hq
   go_enter Tryz.func130, Tryz.ntmps130
   go_wp2_with fail
   have HJ := Lib.hid (HD.out.setAt (p + 1) ((p : Int) + 1) (by omega))
   refine (CS.out _ HJ.out.1).mono ?_
   rintro e w1 ⟨rfl, hs⟩
   have HD2 := Lib.hid (HJ.out.trans hs)
   have c0 := hs.1.c0
   have c1 := hs.1.c1
   have f1 := hs.1.fr 1
   clear hs CS HJ
   go_wp2_with fail
   go_quiet (fail)
   go_wp2_with fail
   go_ret
   exact ⟨false, q, rfl, Nat.le_of_lt HQL.out, HD2.out.drewN _, HN.out⟩
 obtain rfl : q = t.length := by omega
 have m1 : ¬ (t.length : Int) < (t.length : Int) := by omega
 have HN : Hid (EmR t d p false t.length) := Lib.hid (by unfold EmR entP; rw [← hqq, List.getElem?_eq_none (by omega)]; exact ⟨rfl, rfl, rfl⟩)
 clear hqq hlt hp hq
 go_enter Tryz.func130, Tryz.ntmps130
 go_wp2_with fail
 have HJ := Lib.hid (HD.out.setAt (p + 1) ((p : Int) + 1) (by omega))
 refine (CS.out _ HJ.out.1).mono ?_
 rintro e w1 ⟨rfl, hs⟩
 have HD2 := Lib.hid (HJ.out.trans hs)
 have c0 := hs.1.c0
 have c1 := hs.1.c1
 have f1 := hs.1.fr 1
 clear hs CS HJ
 go_wp2_with fail
 go_quiet (fail)
 go_wp2_with fail
 go_ret
 exact ⟨false, _, rfl, Nat.le_refl _, HD2.out.drewN _, HN.out⟩
def TxR (t : List UInt8) (p : Nat) (s : List UInt8) (q x : Nat) : Prop :=
 match txtP t p with
 | .ok s0 q0 => s = s0 ∧ q = q0 ∧ x = 0
 | .err c => x = c ∧ c ≠ 0
theorem rtext_any (t : List UInt8) (b p : Nat) (w : World) (h : JRb w b t p 0) (hp : p ≤ t.length) (hl : t.length ≤ 17592186044416) :
 Calls Tryz.prog 105 #[.pointer (some ⟨b, 0, none⟩)] w fun e w' => ∃ s q x, e = .returned (str s) ∧ s.length ≤ 4 * t.length ∧ q ≤ t.length ∧ JSt w b t q x w' ∧ TxR t p s q x := by
 have HD := Lib.hid (JSt.refl h)
 have c0 := h.c0
 have c1 := h.c1
 have CU := Lib.hid (fun W => refUnquote_any t (p : Int) W hl)
 have hun : (unqR t (p : Int)).1.length ≤ 4 * t.length ∧ (unqR t (p : Int)).2.1 ≤ t.length := by
  unfold unqR
  split
  · exact ⟨by simp, Nat.zero_le _⟩
  split
  · exact ⟨by simp, Nat.zero_le _⟩
  rename_i h1 h2
  have h3 : wantN t ((p : Int).toNat) 34 = 0 := by simpa using h2
  have := wantN_zero h3
  exact unqF_len _ t _ [] (by omega) (by simp)
 obtain ⟨U, hU⟩ : ∃ U, U = unqR t (p : Int) := ⟨_, rfl⟩
 have HT : Hid (txtP t p = if U.2.2 ≠ 0 then .err U.2.2 else if 8000 < U.1.length then .err 3 else .ok U.1 U.2.1) := Lib.hid (by rw [hU]; rfl)
 rw [← hU] at CU hun
 clear hU h
 obtain ⟨s, q, x⟩ := U
 dsimp only at hun
 unfold unqE at CU
 dsimp only at CU
 have z0 := Lib.hid (fun p : BelowBy w => BelowBy.cell c0 p)
 have z1 := Lib.hid (fun p : BelowBy w => BelowBy.cell c1 p)
 clear c0 c1
 obtain ⟨h1, h2⟩ := hun
 by_cases hx : x = 0
 · subst hx
   have e0 : (((0 : Nat) : Int) != 0) = false := rfl
   by_cases hlen : 8000 < s.length
   · have m1 : (8000 : Int) < (s.length : Int) := by omega
     have HN : Hid (TxR t p s q 3) := Lib.hid (by unfold TxR; rw [HT.out, if_neg (by simp), if_pos hlen]; exact ⟨rfl, by decide⟩)
     clear HT hlen
     go_enter Tryz.func105, Tryz.ntmps105
     go_wp2_with fail
     refine wp_region_quiet_below (by kernel_rfl) (by kernel_rfl) ?_
     iterate 16 (first | go_big_quiet_skip | (go_big_quiet_want; go_big_quiet_op; first | go_big_quiet_on | (simp only [z0.out, z1.out, Result.andThen, true_and, forall_const, exists_eq_left']; go_big_quiet_on) | go_big_quiet_call ((go_at_call 129; exact Calls.below_of (CU.out _)))) | fail)
     refine wpQuiet_nil ?_
     rintro w3 ⟨⟨_, hb3⟩, rfl⟩
     have HX := Lib.hid (HD.out.below hb3)
     have c1 := HX.out.1.c1
     have f1 := HX.out.1.fr 1
     clear hb3 CU z0 z1
     go_wp2_with fail
     replace HX := Lib.hid (HX.out.setAt q _ rfl)
     refine (rfail_first 3 HX.out.1).mono ?_
     rintro e w3 ⟨rfl, hs3⟩
     have HX3 := Lib.hid (HX.out.trans hs3)
     clear hs3
     go_wp2_with fail
     go_ret
     exact ⟨s, q, 3, rfl, h1, h2, HX3.out, HN.out⟩
   have m1 : ¬ (8000 : Int) < (s.length : Int) := by omega
   have HN : Hid (TxR t p s q 0) := Lib.hid (by unfold TxR; rw [HT.out, if_neg (by simp), if_neg hlen]; exact ⟨rfl, rfl, rfl⟩)
   clear HT hlen
   go_enter Tryz.func105, Tryz.ntmps105
   go_wp2_with fail
   refine wp_region_quiet_below (by kernel_rfl) (by kernel_rfl) ?_
   iterate 16 (first | go_big_quiet_skip | (go_big_quiet_want; go_big_quiet_op; first | go_big_quiet_on | (simp only [z0.out, z1.out, Result.andThen, true_and, forall_const, exists_eq_left']; go_big_quiet_on) | go_big_quiet_call ((go_at_call 129; exact Calls.below_of (CU.out _)))) | fail)
   refine wpQuiet_nil ?_
   rintro w3 ⟨⟨_, hb3⟩, rfl⟩
   have HX := Lib.hid (HD.out.below hb3)
   have c1 := HX.out.1.c1
   have f1 := HX.out.1.fr 1
   clear hb3 CU z0 z1
   go_wp2_with fail
   replace HX := Lib.hid (HX.out.setAt q _ rfl)
   go_ret
   exact ⟨s, q, 0, rfl, h1, h2, HX.out, HN.out⟩
 have e0 : ((x : Int) != 0) = true := by rw [bne_iff_ne]; omega
 have HN : Hid (TxR t p [] p x) := Lib.hid (by unfold TxR; rw [HT.out, if_pos hx]; exact ⟨rfl, hx⟩)
 clear HT hx
 go_enter Tryz.func105, Tryz.ntmps105
 go_wp2_with fail
 refine wp_region_quiet_below (by kernel_rfl) (by kernel_rfl) ?_
 iterate 16 (first | go_big_quiet_skip | (go_big_quiet_want; go_big_quiet_op; first | go_big_quiet_on | (simp only [z0.out, z1.out, Result.andThen, true_and, forall_const, exists_eq_left']; go_big_quiet_on) | go_big_quiet_call ((go_at_call 129; exact Calls.below_of (CU.out _)))) | fail)
 refine wpQuiet_nil ?_
 rintro w3 ⟨⟨_, hb3⟩, rfl⟩
 have HX := Lib.hid (HD.out.below hb3)
 clear hb3 CU z0 z1
 go_wp2_with fail
 refine (rfail_first x HX.out.1).mono ?_
 rintro e w3 ⟨rfl, hs3⟩
 have HX3 := Lib.hid (HX.out.trans hs3)
 clear hs3
 go_wp2_with fail
 go_ret
 exact ⟨[], p, x, rfl, by simp, hp, HX3.out, HN.out⟩
end Go.Proofs.YtegblhmcfemfgaaGreatDoor

namespace Go.Proofs.YtegblhmcfemfgaaGreatDoor
open Go.RowKit

def Res (r : JR JV) (v : JV) (q x : Nat) : Prop :=
 match r with
 | .ok v0 q0 => v = v0 ∧ q = q0 ∧ x = 0
 | .err c => x = c ∧ c ≠ 0
def RV (t : List UInt8) (w : World) (b : Nat) (r : JR JV) (e : Ending) (w' : World) : Prop :=
 ∃ v cs q x, e = .returned (.agg cs.toArray) ∧ RdJ w' (fun i => w.heap.size ≤ i) v cs ∧ JSt w b t q x w' ∧ q ≤ t.length ∧ Res r v q x
theorem rdj0 (W : World) (F : Nat → Prop) (k n : Int) (s : List UInt8) : RdJ W F (.mk k n s [] []) [.int .i64 k, .int .i64 n, str s, .slice none 0 0, .slice none 0 0] := by
 unfold RdJ
 exact ⟨_, _, rfl, ⟨[], RdFB.nil _ _ _, by unfold RdL; trivial⟩, [], RdFB.nil _ _ _, by unfold RdM; trivial⟩
theorem rv_flat {t : List UInt8} {w W : World} {b q x : Nat} {r : JR JV} {k n : Int} {s : List UInt8} (hs : JSt w b t q x W) (hq : q ≤ t.length) (hr : Res r (.mk k n s [] []) q x) :
 RV t w b r (.returned (.agg #[.int .i64 k, .int .i64 n, str s, .slice none 0 0, .slice none 0 0])) W :=
 ⟨_, _, q, x, rfl, rdj0 W _ k n s, hs, hq, hr⟩
set_option maxRecDepth 100000 in
set_option maxHeartbeats 4000000 in
theorem rword_any (t wd : List UInt8) (kd : Int) (b p : Nat) (w : World) (h : JRb w b t p 0) (hp : p ≤ t.length) (hl : t.length ≤ 140737488355328) (hw : wd.length ≤ 100) :
 Calls Tryz.prog 104 #[.pointer (some ⟨b, 0, none⟩), str wd, .int .i64 kd] w (RV t w b (if wrdP t wd p = 0 then .ok (.mk kd 0 [] [] []) (p + wd.length) else .err (wrdP t wd p))) := by
 obtain ⟨Wa, hWa, hba, hbx, hsz⟩ := zero_box w
 have hb := h.lt
 have HD : Hid (JSt w b t p 0 Wa) := Lib.hid ((JSt.refl h).below hba)
 have HZ := Lib.hid (And.intro hbx hb)
 obtain ⟨R, hR⟩ : ∃ R, R = wrdP t wd p := ⟨_, rfl⟩
 rw [← hR]
 have HR := Lib.hid hR
 obtain ⟨r, hr⟩ : ∃ r, r = (if R = 0 then JR.ok (JV.mk kd 0 [] [] []) (p + wd.length) else JR.err R) := ⟨_, rfl⟩
 rw [← hr]
 have HRR := Lib.hid hr
 clear hr hR hba hbx hsz hb h
 go_enter Tryz.func104, Tryz.ntmps104
 go_upto_region 1 with fail
 rw [← hWa]
 clear hWa
 go_wp2_with fail
 go_loopw [7] (fun i wr => ∃ k : Nat, k ≤ wd.length ∧ i = .int .i64 (k : Int) ∧ Hid (wrdP t (wd.drop k) (p + k) = R ∧ p + k ≤ t.length) ∧ Hid (JSt w b t p 0 wr ∧ wr.heap[w.heap.size]? = some (.cells #[.int .i64 0, .int .i64 0, str [], .slice none 0 0, .slice none 0 0] 95 (0, 0)))) (fun i _ => wd.length - (intOf i).toNat)
 case atStart => exact ⟨0, Nat.zero_le _, rfl, Lib.hid ⟨HR.out.symm, hp⟩, Lib.hid ⟨HD.out, HZ.out.1⟩⟩
 case round =>
  obtain ⟨k, hk, rfl, HEQ, HS⟩ := hrel
  have HE := Lib.hid HEQ.out.1
  have HQ := Lib.hid HEQ.out.2
  clear HEQ
  have c0 := HS.out.1.1.c0
  have c1 := HS.out.1.1.c1
  have f1 := HS.out.1.1.fr 1
  have p1 : (p : Int) ≤ 140737488355328 := by omega
  have p0 : (0 : Int) ≤ (p : Int) := by omega
  have wl : (wd.length : Int) ≤ 100 := by omega
  by_cases hlt : k < wd.length
  · have g1 : (k : Int) < (wd.length : Int) := by omega
    have g2 : (0 : Int) ≤ (k : Int) := by omega
    have hat := wrdP_at t wd p k hlt
    rw [HE.out] at hat
    obtain ⟨y, hy⟩ : ∃ y, y = wd[k] := ⟨_, rfl⟩
    have hgy : (ByteArray.mk wd.toArray)[k]'(by simpa [ByteArray.size] using hlt) = y := hy.symm
    rw [← hy] at hat
    obtain ⟨q, hq⟩ : ∃ q, q = p + k := ⟨_, rfl⟩
    have hqi : (p : Int) + (k : Int) = (q : Int) := by omega
    rw [← hq] at hat
    have HQ2 := Lib.hid hq
    by_cases hpl : q < t.length
    · have n1 : ¬ (t.length : Int) ≤ (q : Int) := by omega
      have n2 : (q : Int) < (t.length : Int) := by omega
      have n3 : (0 : Int) ≤ (q : Int) := by omega
      obtain ⟨c, hc⟩ : ∃ c, c = t[q] := ⟨_, rfl⟩
      have hgc : (ByteArray.mk t.toArray)[q]'(by simpa [ByteArray.size] using hpl) = c := hc.symm
      rw [List.getElem?_eq_getElem hpl, ← hc] at hat
      dsimp only at hat
      have m1 := tstn c y (z := (y.toNat : Int)) rfl
      by_cases hcx : c = y
      · rw [if_pos hcx] at hat
        rw [neq_of hcx] at m1
        have HE2 := Lib.hid hat.symm
        clear hat hc hy HE hcx hq
        go_wp2_with fail
        go_quiet (fail)
        go_wp2_with fail
        go_quiet (fail)
        go_wp2_with fail
        go_roundw
        case rel => exact ⟨k + 1, by omega, by go_num, Lib.hid ⟨HE2.out, by have := HQ2.out; omega⟩, Lib.hid ⟨HS.out.1.drewN _, box_up HS.out.2 (Below.drewsN (Below.refl _ _) _)⟩⟩
        case measure => simp [intOf]; omega
      rw [if_neg hcx] at hat
      rw [nne_of hcx] at m1
      subst hat
      clear hc hy HE hcx HR hq
      go_wp2_with fail
      go_quiet (fail)
      go_wp2_with fail
      go_quiet (fail)
      go_wp2_with fail
      refine (rfail_first 4 (HS.out.1.drewN _).1).mono ?_
      rintro e w2 ⟨rfl, hs2⟩
      have hz := box_frm (box_up HS.out.2 (Below.drewsN (Below.refl _ _) _)) hs2.2 (by have := HZ.out.2; omega)
      have HX := Lib.hid (And.intro hz ((HS.out.1.drewN _).trans hs2))
      obtain ⟨b0, b1, b2, b3, b4⟩ := box5 hz
      have hfz := box_fr hz
      clear hz hs2
      go_wp2_with fail
      refine bodyPost_any_world (fun W => W.heap[w.heap.size]? = some (.cells #[.int .i64 0, .int .i64 0, str [], .slice none 0 0, .slice none 0 0] 95 (0, 0)) ∧ Frm (fun i => i = w.heap.size) w2 W) (five_set HX.out.1 _ _ _ _ _) ?_
      clear b0 b1 b2 b3 b4 hfz
      rintro w9 ⟨h9, hf9⟩
      obtain ⟨k0, k1, k2, k3, k4⟩ := box5 h9
      refine bodyPost_ret (v := .agg #[.int .i64 0, .int .i64 0, str [], .slice none 0 0, .slice none 0 0]) (by simp [results, Tryz.results104, go_sem, k0, k1, k2, k3, k4]) rfl ?_
      exact rv_flat (JSt.grow HX.out.2 hf9 (fun i e => by have := HZ.out.2; omega)) hp (by rw [HRR.out]; exact ⟨rfl, by decide⟩)
    have n1 : (t.length : Int) ≤ (q : Int) := by omega
    rw [List.getElem?_eq_none (by omega)] at hat
    dsimp only at hat
    subst hat
    clear hy HE HR hq
    go_wp2_with fail
    go_quiet (fail)
    go_wp2_with fail
    refine (rfail_first 2 (HS.out.1.drewN _).1).mono ?_
    rintro e w2 ⟨rfl, hs2⟩
    have hz := box_frm (box_up HS.out.2 (Below.drewsN (Below.refl _ _) _)) hs2.2 (by have := HZ.out.2; omega)
    have HX := Lib.hid (And.intro hz ((HS.out.1.drewN _).trans hs2))
    obtain ⟨b0, b1, b2, b3, b4⟩ := box5 hz
    have hfz := box_fr hz
    clear hz hs2
    go_wp2_with fail
    refine bodyPost_any_world (fun W => W.heap[w.heap.size]? = some (.cells #[.int .i64 0, .int .i64 0, str [], .slice none 0 0, .slice none 0 0] 95 (0, 0)) ∧ Frm (fun i => i = w.heap.size) w2 W) (five_set HX.out.1 _ _ _ _ _) ?_
    clear b0 b1 b2 b3 b4 hfz
    rintro w9 ⟨h9, hf9⟩
    obtain ⟨k0, k1, k2, k3, k4⟩ := box5 h9
    refine bodyPost_ret (v := .agg #[.int .i64 0, .int .i64 0, str [], .slice none 0 0, .slice none 0 0]) (by simp [results, Tryz.results104, go_sem, k0, k1, k2, k3, k4]) rfl ?_
    exact rv_flat (JSt.grow HX.out.2 hf9 (fun i e => by have := HZ.out.2; omega)) hp (by rw [HRR.out]; exact ⟨rfl, by decide⟩)
  obtain rfl : k = wd.length := by omega
  have g1 : ¬ ((wd.length : Int) < (wd.length : Int)) := by omega
  have e : R = 0 := by have := HE.out; rw [List.drop_length] at this; exact this.symm
  subst e
  clear HE HR
  go_upto_region 9 with fail
  refine wp_any_world (fun W => W.heap[w.heap.size]? = some (.cells #[.int .i64 0, .int .i64 0, str [], .slice none 0 0, .slice none 0 0] 95 (0, 0)) ∧ JSt w b t (p + wd.length) 0 W) ⟨box_far _ HS.out.2 (by have := HZ.out.2; omega), HS.out.1.setAt (p + wd.length) _ (by omega)⟩ ?_
  clear c0 c1 f1
  rintro w2 ⟨hz, hs2⟩
  have HX := Lib.hid (And.intro hz hs2)
  clear hs2
  obtain ⟨b0, b1, b2, b3, b4⟩ := box5 hz
  have hfz := box_fr hz
  clear hz
  go_wp2_with fail
  refine bodyPost_any_world (fun W => W.heap[w.heap.size]? = some (.cells #[.int .i64 kd, .int .i64 0, str [], .slice none 0 0, .slice none 0 0] 95 (0, 0)) ∧ Frm (fun i => i = w.heap.size) w2 W) (five_set HX.out.1 _ _ _ _ _) ?_
  clear b0 b1 b2 b3 b4 hfz
  rintro w9 ⟨h9, hf9⟩
  obtain ⟨k0, k1, k2, k3, k4⟩ := box5 h9
  refine bodyPost_ret (v := .agg #[.int .i64 kd, .int .i64 0, str [], .slice none 0 0, .slice none 0 0]) (by simp [results, Tryz.results104, go_sem, k0, k1, k2, k3, k4]) rfl ?_
  exact rv_flat (JSt.grow HX.out.2 hf9 (fun i e => by have := HZ.out.2; omega)) HQ.out (by rw [HRR.out]; exact ⟨rfl, rfl, rfl⟩)
end Go.Proofs.YtegblhmcfemfgaaGreatDoor

namespace Go.Proofs.YtegblhmcfemfgaaGreatDoor
open Go.RowKit

theorem dgAt_in {t : List UInt8} {p k : Nat} (h : k < (dgs (t.drop p)).length) : ∃ hk : p + k < t.length, t[p + k] = (dgs (t.drop p))[k] ∧ dgAt t (p + k) = true ∧ dgJ (dgs (t.drop p))[k] = true := by
 obtain ⟨h1, h2⟩ := dgs_at (t.drop p) k h
 rw [List.getElem?_drop] at h1
 obtain ⟨hk, e⟩ := List.getElem?_eq_some_iff.1 h1
 refine ⟨hk, e, ?_, h2⟩
 unfold dgAt
 rw [h1]
 exact h2
theorem dgAt_out (t : List UInt8) (p : Nat) : dgAt t (p + (dgs (t.drop p)).length) = false := by
 unfold dgAt
 cases h : t[p + (dgs (t.drop p)).length]? with
 | none => rfl
 | some c => exact dgs_end (t.drop p) c (by rw [List.getElem?_drop]; exact h)
set_option maxRecDepth 100000 in
set_option maxHeartbeats 16000000 in
theorem rnumber_any (t : List UInt8) (b p : Nat) (w : World) (h : JRb w b t p 0) (hp : p < t.length) (hl : t.length ≤ 1000000) :
 Calls Tryz.prog 108 #[.pointer (some ⟨b, 0, none⟩)] w (RV t w b (numV (numP t p))) := by
 obtain ⟨Wa, hWa, hba, hbx, hsz⟩ := zero_box w
 have hb := h.lt
 have HD : Hid (JSt w b t p 0 Wa ∧ Wa.heap[w.heap.size]? = some (.cells #[.int .i64 0, .int .i64 0, str [], .slice none 0 0, .slice none 0 0] 95 (0, 0))) := Lib.hid ⟨(JSt.refl h).below hba, hbx⟩
 have HZ := Lib.hid (And.intro hbx hb)
 obtain ⟨c, hc⟩ : ∃ c, c = t[p] := ⟨_, rfl⟩
 have hgc : (ByteArray.mk t.toArray)[p]'(by simpa [ByteArray.size] using hp) = c := hc.symm
 obtain ⟨NB, hNB⟩ : ∃ NB, NB = (c == 45) := ⟨_, rfl⟩
 have t45 : ((c.toNat : Int) == 45) = NB := by rw [hNB]; exact tst c 45 rfl
 obtain ⟨P, hP⟩ : ∃ P, P = if NB = true then p + 1 else p := ⟨_, rfl⟩
 obtain ⟨sg, hsg⟩ : ∃ sg : Int, sg = if NB = true then -1 else 1 := ⟨_, rfl⟩
 have hnp : numP t p = digP t sg P := by
  unfold numP
  rw [List.getElem?_eq_getElem hp, ← hc, hP, hsg, hNB]
  by_cases g : c = 45
  · rw [g]; rfl
  have : (c == 45) = false := ne_of g
  rw [this, if_neg (by simpa using g)]
  rfl
 have hPl : P ≤ t.length := by rw [hP]; split <;> omega
 obtain ⟨r, hr⟩ : ∃ r, r = numV (digP t sg P) := ⟨_, rfl⟩
 rw [hnp, ← hr]
 have HRR := Lib.hid hr
 have HP1 : Hid (NB = true → P = p + 1) := Lib.hid (fun g => by rw [hP, if_pos g])
 have HP2 : Hid (NB = false → P = p) := Lib.hid (fun g => by rw [hP, if_neg (by rw [g]; decide)])
 have HG1 : Hid (NB = true → sg = -1) := Lib.hid (fun g => by rw [hsg, if_pos g])
 have HG2 : Hid (NB = false → sg = 1) := Lib.hid (fun g => by rw [hsg, if_neg (by rw [g]; decide)])
 have c0 := HD.out.1.1.c0
 have c1 := HD.out.1.1.c1
 have f1 := HD.out.1.1.fr 1
 have p0 : (0 : Int) ≤ (p : Int) := by omega
 have p1 : (p : Int) ≤ 1000000 := by omega
 have p2 : (p : Int) < (t.length : Int) := by omega
 have hPlI : (P : Int) ≤ (t.length : Int) := by omega
 have hlI : (t.length : Int) ≤ 1000000 := by omega
 clear hr hP hsg hnp hc hNB hba hbx hsz hb h
 go_enter Tryz.func108, Tryz.ntmps108
 go_upto_region 1 with fail
 rw [← hWa]
 clear hWa
 go_wp2_with fail
 go_quiet (fail)
 go_upto_if 17 with fail
 go_cut [] from 18 to 24 (fun wc => Hid (JSt w b t P 0 wc ∧ wc.heap[w.heap.size]? = some (.cells #[.int .i64 0, .int .i64 0, str [], .slice none 0 0, .slice none 0 0] 95 (0, 0))))
 case first =>
  cases NB with
  | true =>
   go_wp2_with fail
   go_meet
   case rel => exact Lib.hid ⟨by rw [show P = p + 1 by simpa using HP1.out]; exact JSt.setAt (HD.out.1.drewN _) (p + 1) ((p : Int) + 1) (by omega), box_far _ (box_up HD.out.2 (Below.drewsN (Below.refl _ _) _)) (by have := HZ.out.2; omega)⟩
  | false =>
   go_wp2_with fail
   go_meet
   case rel => exact Lib.hid ⟨by rw [show P = p by simpa using HP2.out]; exact HD.out.1.drewN _, box_up HD.out.2 (Below.drewsN (Below.refl _ _) _)⟩
 case rest =>
 have HS := hcut
 clear hcut HD c0 c1 f1 p0 p1 p2 hgc HP1 HP2 t45
 have c0 := HS.out.1.1.c0
 have c1 := HS.out.1.1.c1
 have f1 := HS.out.1.1.fr 1
 have p0 : (0 : Int) ≤ (P : Int) := by omega
 have p1 : (P : Int) ≤ 1000000 := by omega
 by_cases hpe : P = t.length
 · have m1 : ((P : Int) == (t.length : Int)) = true := by rw [hpe]; exact beq_self_eq_true _
   have HE : Hid (r = .err 2) := Lib.hid (by rw [HRR.out, digP_short hpe]; rfl)
   clear HRR
   have HRR := HE
   clear hpe
   go_wp2_with fail
   go_quiet (fail)
   go_wp2_with fail
   refine (rfail_first 2 (HS.out.1.drewN _).1).mono ?_
   rintro e w2 ⟨rfl, hs2⟩
   have hz := box_frm (box_up HS.out.2 (Below.drewsN (Below.refl _ _) _)) hs2.2 (by have := HZ.out.2; omega)
   have HX := Lib.hid (And.intro hz ((HS.out.1.drewN _).trans hs2))
   obtain ⟨b0, b1, b2, b3, b4⟩ := box5 hz
   have hfz := box_fr hz
   clear hz hs2
   go_wp2_with fail
   refine bodyPost_any_world (fun W => W.heap[w.heap.size]? = some (.cells #[.int .i64 0, .int .i64 0, str [], .slice none 0 0, .slice none 0 0] 95 (0, 0)) ∧ Frm (fun i => i = w.heap.size) w2 W) (five_set HX.out.1 _ _ _ _ _) ?_
   clear b0 b1 b2 b3 b4 hfz
   rintro w9 ⟨h9, hf9⟩
   obtain ⟨k0, k1, k2, k3, k4⟩ := box5 h9
   refine bodyPost_ret (v := .agg #[.int .i64 0, .int .i64 0, str [], .slice none 0 0, .slice none 0 0]) (by simp [results, Tryz.results108, go_sem, k0, k1, k2, k3, k4]) rfl ?_
   exact rv_flat (JSt.grow HX.out.2 hf9 (fun i e => by have := HZ.out.2; omega)) hPl (by rw [HRR.out]; exact ⟨rfl, by decide⟩)
 have m1 : ((P : Int) == (t.length : Int)) = false := by rw [beq_eq_false_iff_ne]; omega
 have m2 : (P : Int) < (t.length : Int) := by omega
 have hPlt : P < t.length := by omega
 obtain ⟨D, hD⟩ : ∃ D, D = dgs (t.drop P) := ⟨_, rfl⟩
 have hDin : ∀ k, k < D.length → ∃ hk : P + k < t.length, t[P + k] = D.getD k 0 ∧ dgAt t (P + k) = true ∧ dgJ (D.getD k 0) = true := by
  intro k hk
  rw [hD] at hk ⊢
  rw [List.getD_eq_getElem?_getD, List.getElem?_eq_getElem hk]
  exact dgAt_in hk
 have HIN := Lib.hid hDin
 have HOUT : Hid (dgAt t (P + D.length) = false) := Lib.hid (by rw [hD]; exact dgAt_out t P)
 have HCAP : Hid (CapRel (rcapF D 0) (capF D 0)) := Lib.hid (by rw [hD]; exact cap_dgs _)
 have HDL : Hid (P + D.length ≤ t.length) := Lib.hid (by
  rw [hD]
  have := dgs_le (t.drop P)
  rw [List.length_drop] at this
  omega)
 have HDG := Lib.hid hD
 obtain ⟨n, hn⟩ : ∃ n, n = D.length := ⟨_, rfl⟩
 have HNN := Lib.hid hn
 obtain ⟨dg0, hdg0⟩ : ∃ x, x = dgAt t P := ⟨_, rfl⟩
 have CD0 := Lib.hid (fun W (hj : JRb W b t P 0) => rdigit_any t b P 0 W hj hPl)
 rw [← hdg0] at CD0
 by_cases hn0 : n = 0
 · have e : dg0 = false := by
    rw [hdg0]
    have := HOUT.out
    rw [← hn, hn0] at this
    exact this
   subst e
   have HE : Hid (r = .err 4) := Lib.hid (by rw [HRR.out, digP_form hpe (.inl (by rw [← hD, ← hn]; exact hn0))]; rfl)
   clear HRR
   have HRR := HE
   clear hD hDin hn hn0 hdg0 HIN HOUT HCAP HDL HDG HNN
   go_wp2_with fail
   go_quiet (fail)
   go_wp2_with fail
   refine (CD0.out _ (HS.out.1.drewN _).1).mono ?_
   rintro e wd ⟨rfl, nd, rfl⟩
   have HS2 : Hid (JSt w b t P 0 ((wc.drewN nq).drewN nd) ∧ ((wc.drewN nq).drewN nd).heap[w.heap.size]? = some (.cells #[.int .i64 0, .int .i64 0, str [], .slice none 0 0, .slice none 0 0] 95 (0, 0))) := Lib.hid ⟨(HS.out.1.drewN _).drewN _, box_up (box_up HS.out.2 (Below.drewsN (Below.refl _ _) _)) (Below.drewsN (Below.refl _ _) _)⟩
   generalize (wc.drewN nq).drewN nd = w5 at *
   go_wp2_with fail
   refine (rfail_first 4 HS2.out.1.1).mono ?_
   rintro e w2 ⟨rfl, hs2⟩
   have hz := box_frm HS2.out.2 hs2.2 (by have := HZ.out.2; omega)
   have HX := Lib.hid (And.intro hz (HS2.out.1.trans hs2))
   obtain ⟨b0, b1, b2, b3, b4⟩ := box5 hz
   have hfz := box_fr hz
   clear hz hs2
   go_wp2_with fail
   refine bodyPost_any_world (fun W => W.heap[w.heap.size]? = some (.cells #[.int .i64 0, .int .i64 0, str [], .slice none 0 0, .slice none 0 0] 95 (0, 0)) ∧ Frm (fun i => i = w.heap.size) w2 W) (five_set HX.out.1 _ _ _ _ _) ?_
   clear b0 b1 b2 b3 b4 hfz
   rintro w9 ⟨h9, hf9⟩
   obtain ⟨k0, k1, k2, k3, k4⟩ := box5 h9
   refine bodyPost_ret (v := .agg #[.int .i64 0, .int .i64 0, str [], .slice none 0 0, .slice none 0 0]) (by simp [results, Tryz.results108, go_sem, k0, k1, k2, k3, k4]) rfl ?_
   exact rv_flat (JSt.grow HX.out.2 hf9 (fun i e => by have := HZ.out.2; omega)) hPl (by rw [HRR.out]; exact ⟨rfl, by decide⟩)
 have e : dg0 = true := by
  rw [hdg0]
  exact (hDin 0 (by omega)).2.2.1
 subst e
 obtain ⟨x0, hx0⟩ : ∃ x, x = t[P] := ⟨_, rfl⟩
 have hgx0 : (ByteArray.mk t.toArray)[P]'(by simpa [ByteArray.size] using hPlt) = x0 := hx0.symm
 obtain ⟨ZB, hZB⟩ : ∃ ZB, ZB = (x0 == 48) := ⟨_, rfl⟩
 have t48 : ((x0.toNat : Int) == 48) = ZB := by rw [hZB]; exact tst x0 48 rfl
 have HZB : Hid (ZB = true ↔ t[P]? = some 48) := Lib.hid (by
  rw [hZB, List.getElem?_eq_getElem hPlt, ← hx0]
  simp)
 have hnI : (n : Int) ≤ 1000000 := by have := HDL.out; omega
 clear hD hDin hn hdg0 hZB hx0
 go_wp2_with fail
 go_quiet (fail)
 go_wp2_with fail
 refine (CD0.out _ (HS.out.1.drewN _).1).mono ?_
 rintro e wd ⟨rfl, nd, rfl⟩
 have HS2 : Hid (JSt w b t P 0 ((wc.drewN nq).drewN nd) ∧ ((wc.drewN nq).drewN nd).heap[w.heap.size]? = some (.cells #[.int .i64 0, .int .i64 0, str [], .slice none 0 0, .slice none 0 0] 95 (0, 0))) := Lib.hid ⟨(HS.out.1.drewN _).drewN _, box_up (box_up HS.out.2 (Below.drewsN (Below.refl _ _) _)) (Below.drewsN (Below.refl _ _) _)⟩
 generalize (wc.drewN nq).drewN nd = w5 at *
 clear HS c0 c1 f1
 have c0 := HS2.out.1.1.c0
 have c1 := HS2.out.1.1.c1
 go_wp2_with fail
 go_quiet (fail)
 go_wp2_with fail
 go_loopw [5, 6] (fun v5 v6 wr => ∃ (k : Nat) (X : Int), k ≤ n ∧ v6 = .int .i64 (k : Int) ∧ v5 = .int .i64 X ∧ Hid (X = (rcapF (D.take k) 0 : Nat) ∧ 0 ≤ X ∧ X ≤ 288230376151711744) ∧ Hid (ZB = true → k ≤ 1) ∧ Hid (JSt w b t (P + k) 0 wr ∧ wr.heap[w.heap.size]? = some (.cells #[.int .i64 0, .int .i64 0, str [], .slice none 0 0, .slice none 0 0] 95 (0, 0)))) (fun _ v6 _ => n - (intOf v6).toNat)
 case atStart => exact ⟨0, 0, Nat.zero_le _, rfl, rfl, Lib.hid ⟨rfl, by decide, by decide⟩, Lib.hid (fun _ => Nat.zero_le _), Lib.hid ⟨HS2.out.1.drewN _, box_up HS2.out.2 (Below.drewsN (Below.refl _ _) _)⟩⟩
 case round =>
  obtain ⟨k, X, hk, rfl, rfl, HX0, HZ1, HS⟩ := hrel
  clear HS2 c0 c1 CD0 hgx0 t48
  obtain ⟨q, hq⟩ : ∃ q, q = P + k := ⟨_, rfl⟩
  rw [← hq] at HS
  have HQ := Lib.hid hq
  have hql : q ≤ t.length := by have := HDL.out; have := HNN.out; omega
  have q0 : (0 : Int) ≤ (q : Int) := by omega
  have q1 : (q : Int) ≤ 1000000 := by omega
  have kI : (k : Int) ≤ 1000000 := by omega
  have k0 : (0 : Int) ≤ (k : Int) := by omega
  have c0 := HS.out.1.1.c0
  have c1 := HS.out.1.1.c1
  have f1 := HS.out.1.1.fr 1
  have CD := Lib.hid (rdigit_any t b q 0 wr HS.out.1.1 hql)
  by_cases hlt : k < n
  · obtain ⟨hkl, hx, hdt, hdj⟩ := HIN.out k (by have := HNN.out; omega)
    obtain ⟨x, hxx⟩ : ∃ x, x = D.getD k 0 := ⟨_, rfl⟩
    have hqlt : q < t.length := by omega
    have hgx : (ByteArray.mk t.toArray)[q]'(by simpa [ByteArray.size] using hqlt) = x := by
     rw [hxx, ← hx]
     show t[q] = _
     congr 1
    rw [← hq] at hdt
    rw [hdt] at CD
    rw [← hxx, dgJ_iff] at hdj
    have x3 : (48 : Int) ≤ (x.toNat : Int) := by omega
    have x4 : (x.toNat : Int) ≤ 57 := by omega
    have q2 : (q : Int) < (t.length : Int) := by omega
    have w1 : IntKind.i64.wrap (10 * X) = 10 * X := IntWalk.i64_in _ ⟨by have := HX0.out; omega, by have := HX0.out; omega⟩
    have w2 : IntKind.i64.wrap (10 * X + ((x.toNat : Int) - 48)) = 10 * X + ((x.toNat : Int) - 48) := IntWalk.i64_in _ ⟨by have := HX0.out; omega, by have := HX0.out; omega⟩
    have HT : Hid (min (10 * X + ((x.toNat : Int) - 48)) 288230376151711744 = ((rcapF (D.take (k + 1)) 0 : Nat) : Int) ∧ 0 ≤ min (10 * X + ((x.toNat : Int) - 48)) 288230376151711744 ∧ min (10 * X + ((x.toNat : Int) - 48)) 288230376151711744 ≤ 288230376151711744) := Lib.hid (by
     have hkD : k < D.length := by have := HNN.out; omega
     have e : D.take (k + 1) = D.take k ++ [x] := by
      rw [List.take_add_one, List.getElem?_eq_getElem hkD, hxx, List.getD_eq_getElem?_getD, List.getElem?_eq_getElem hkD]
      rfl
     rw [e, rcapF_snoc]
     have := HX0.out
     omega)
    have HLT := Lib.hid hlt
    clear hx hdt hdj hxx hlt hkl hq
    by_cases hz : ZB = true ∧ 0 < k
    · obtain ⟨hz1, hz2⟩ := hz
      subst hz1
      have k1 : (0 : Int) < (k : Int) := by omega
      have HE : Hid (r = .err 4) := Lib.hid (by rw [HRR.out, digP_form hpe (.inr ⟨HZB.out.1 rfl, by rw [← HDG.out, ← HNN.out]; have := HLT.out; omega⟩)]; rfl)
      clear HRR
      have HRR := HE
      clear HT w1 w2
      go_wp2_with fail
      refine CD.out.mono ?_
      rintro e wd ⟨rfl, nd, rfl⟩
      go_wp2_with fail
      refine (rfail_first 4 (HS.out.1.drewN _).1).mono ?_
      rintro e w2 ⟨rfl, hs2⟩
      have hz := box_frm (box_up HS.out.2 (Below.drewsN (Below.refl _ _) _)) hs2.2 (by have := HZ.out.2; omega)
      have HX := Lib.hid (And.intro hz ((HS.out.1.drewN _).trans hs2))
      obtain ⟨b0, b1, b2, b3, b4⟩ := box5 hz
      have hfz := box_fr hz
      clear hz hs2
      go_wp2_with fail
      refine bodyPost_any_world (fun W => W.heap[w.heap.size]? = some (.cells #[.int .i64 0, .int .i64 0, str [], .slice none 0 0, .slice none 0 0] 95 (0, 0)) ∧ Frm (fun i => i = w.heap.size) w2 W) (five_set HX.out.1 _ _ _ _ _) ?_
      clear b0 b1 b2 b3 b4 hfz
      rintro w9 ⟨h9, hf9⟩
      obtain ⟨k0, k1, k2, k3, k4⟩ := box5 h9
      refine bodyPost_ret (v := .agg #[.int .i64 0, .int .i64 0, str [], .slice none 0 0, .slice none 0 0]) (by simp [results, Tryz.results108, go_sem, k0, k1, k2, k3, k4]) rfl ?_
      exact rv_flat (JSt.grow HX.out.2 hf9 (fun i e => by have := HZ.out.2; omega)) hql (by rw [HRR.out]; exact ⟨rfl, by decide⟩)
    have HZ2 : Hid (ZB = true → k + 1 ≤ 1) := Lib.hid (fun g => by have : ¬ 0 < k := fun y => hz ⟨g, y⟩; omega)
    have kz : ZB = true → ¬ (0 : Int) < (k : Int) := fun g => by have : ¬ 0 < k := fun y => hz ⟨g, y⟩; omega
    clear hz
    cases ZB with
    | true =>
     have k1 := kz rfl
     clear kz
     go_wp2_with fail
     refine CD.out.mono ?_
     rintro e wd ⟨rfl, nd, rfl⟩
     go_wp2_with fail
     go_quiet (fail)
     go_wp2_with fail
     go_roundw
     case rel => exact ⟨k + 1, _, by have := HLT.out; omega, by go_num, rfl, HT, HZ2, Lib.hid ⟨by rw [show P + (k + 1) = q + 1 by have := HQ.out; omega]; exact JSt.setAt (HS.out.1.drewN _) (q + 1) ((q : Int) + 1) (by omega), box_far _ (box_up HS.out.2 (Below.drewsN (Below.refl _ _) _)) (by have := HZ.out.2; omega)⟩⟩
     case measure => have := HLT.out; simp [intOf]; omega
    | false =>
     clear kz
     go_wp2_with fail
     refine CD.out.mono ?_
     rintro e wd ⟨rfl, nd, rfl⟩
     go_wp2_with fail
     go_quiet (fail)
     go_wp2_with fail
     go_roundw
     case rel => exact ⟨k + 1, _, by have := HLT.out; omega, by go_num, rfl, HT, HZ2, Lib.hid ⟨by rw [show P + (k + 1) = q + 1 by have := HQ.out; omega]; exact JSt.setAt (HS.out.1.drewN _) (q + 1) ((q : Int) + 1) (by omega), box_far _ (box_up HS.out.2 (Below.drewsN (Below.refl _ _) _)) (by have := HZ.out.2; omega)⟩⟩
     case measure => have := HLT.out; simp [intOf]; omega
  obtain rfl : k = n := by omega
  have hdt : dgAt t q = false := by rw [hq, HNN.out]; exact HOUT.out
  rw [hdt] at CD
  have HXN : Hid (X = ((rcapF D 0 : Nat) : Int)) := Lib.hid (by rw [HX0.out.1, HNN.out, List.take_length])
  have hform : ¬ ((dgs (t.drop P)).length = 0 ∨ (t[P]? = some 48 ∧ 1 < (dgs (t.drop P)).length)) := by
   rw [← HDG.out, ← HNN.out]
   rintro (g | ⟨g1, g2⟩)
   · exact hn0 g
   have := HZ1.out (HZB.out.2 g1)
   omega
  have HFORM := Lib.hid hform
  obtain ⟨PT, hPT⟩ : ∃ PT, PT = decide (∃ c, t[q]? = some c ∧ (c = 46 ∨ c = 101 ∨ c = 69)) := ⟨_, rfl⟩
  have HPT : Hid (PT = true ↔ ∃ c, t[P + (dgs (t.drop P)).length]? = some c ∧ (c = 46 ∨ c = 101 ∨ c = 69)) := Lib.hid (by
   rw [hPT, decide_eq_true_eq, ← HDG.out, ← HNN.out, ← hq])
  clear hdt hform hlt
  go_wp2_with fail
  refine CD.out.mono ?_
  rintro e wd ⟨rfl, nd, rfl⟩
  have HS3 : Hid (JSt w b t q 0 (wr.drewN nd) ∧ (wr.drewN nd).heap[w.heap.size]? = some (.cells #[.int .i64 0, .int .i64 0, str [], .slice none 0 0, .slice none 0 0] 95 (0, 0))) := Lib.hid ⟨HS.out.1.drewN _, box_up HS.out.2 (Below.drewsN (Below.refl _ _) _)⟩
  generalize wr.drewN nd = w6 at *
  clear c0 c1 f1 CD
  have c0 := HS3.out.1.1.c0
  have c1 := HS3.out.1.1.c1
  go_upto_region 17 with fail
  go_cut [130] from 85 to 129 (fun v wc2 => v = .bool PT ∧ Hid (JSt w b t q 0 wc2 ∧ wc2.heap[w.heap.size]? = some (.cells #[.int .i64 0, .int .i64 0, str [], .slice none 0 0, .slice none 0 0] 95 (0, 0))))
  case first =>
   by_cases hqlt : q < t.length
   · have q2 : (q : Int) < (t.length : Int) := by omega
     obtain ⟨x, hx⟩ : ∃ x, x = t[q] := ⟨_, rfl⟩
     have hgx : (ByteArray.mk t.toArray)[q]'(by simpa [ByteArray.size] using hqlt) = x := hx.symm
     have hpt : PT = (x == 46 || x == 101 || x == 69) := by
      rw [hPT, List.getElem?_eq_getElem hqlt, ← hx]
      by_cases g1 : x = 46
      · rw [decide_eq_true ⟨x, rfl, .inl g1⟩, eq_of g1]; rfl
      by_cases g2 : x = 101
      · rw [decide_eq_true ⟨x, rfl, .inr (.inl g2)⟩, ne_of g1, eq_of g2]; rfl
      by_cases g3 : x = 69
      · rw [decide_eq_true ⟨x, rfl, .inr (.inr g3)⟩, ne_of g1, ne_of g2, eq_of g3]; rfl
      rw [ne_of g1, ne_of g2, ne_of g3]
      exact decide_eq_false (by rintro ⟨y, e, g⟩; cases e; rcases g with g | g | g <;> contradiction)
     have u1 := tst x 46 (z := 46) rfl
     have u2 := tst x 101 (z := 101) rfl
     have u3 := tst x 69 (z := 69) rfl
     clear hPT hx hq
     have ways : ((x == 46) = true ∧ PT = true) ∨ ((x == 46) = false ∧ (x == 101) = true ∧ PT = true) ∨ ((x == 46) = false ∧ (x == 101) = false ∧ (x == 69) = true ∧ PT = true) ∨ ((x == 46) = false ∧ (x == 101) = false ∧ (x == 69) = false ∧ PT = false) := by
      rw [hpt]
      cases (x == 46) <;> cases (x == 101) <;> cases (x == 69) <;> simp
     clear hpt
     rcases ways with ⟨y1, rfl⟩ | ⟨y1, y2, rfl⟩ | ⟨y1, y2, y3, rfl⟩ | ⟨y1, y2, y3, rfl⟩
     · rw [y1] at u1
       clear u2 u3 y1
       go_wp2_with fail
       go_quiet (fail)
       go_wp2_with fail
       go_meet
       case rel => exact ⟨rfl, Lib.hid ⟨HS3.out.1.drewN _, box_up HS3.out.2 (Below.drewsN (Below.refl _ _) _)⟩⟩
     · rw [y1] at u1
       rw [y2] at u2
       clear u3 y1 y2
       go_wp2_with fail
       go_quiet (fail)
       go_wp2_with fail
       go_meet
       case rel => exact ⟨rfl, Lib.hid ⟨HS3.out.1.drewN _, box_up HS3.out.2 (Below.drewsN (Below.refl _ _) _)⟩⟩
     · rw [y1] at u1
       rw [y2] at u2
       rw [y3] at u3
       clear y1 y2 y3
       go_wp2_with fail
       go_quiet (fail)
       go_wp2_with fail
       go_meet
       case rel => exact ⟨rfl, Lib.hid ⟨HS3.out.1.drewN _, box_up HS3.out.2 (Below.drewsN (Below.refl _ _) _)⟩⟩
     rw [y1] at u1
     rw [y2] at u2
     rw [y3] at u3
     clear y1 y2 y3
     go_wp2_with fail
     go_quiet (fail)
     go_wp2_with fail
     go_meet
     case rel => exact ⟨rfl, Lib.hid ⟨HS3.out.1.drewN _, box_up HS3.out.2 (Below.drewsN (Below.refl _ _) _)⟩⟩
   obtain rfl : PT = false := by
    rw [hPT, List.getElem?_eq_none (by omega)]
    exact decide_eq_false (by rintro ⟨y, e, _⟩; cases e)
   have hqe : q = t.length := by omega
   have HQE := Lib.hid hqe
   clear hPT hq HNN HDG HIN HOUT HCAP HDL HXN HFORM HPT HX0 HZ1 HZB
   subst hqe
   have q3 : decide ((t.length : Int) < (t.length : Int)) = false := decide_eq_false (by omega)
   have q2 : ¬ (t.length : Int) < (t.length : Int) := by omega
   clear hqlt hql hlI q1 q0
   go_wp2_with fail
   go_quiet (fail)
   go_wp2_with fail
   go_meet
   case rel => exact ⟨rfl, Lib.hid ⟨HS3.out.1.drewN _, box_up HS3.out.2 (Below.drewsN (Below.refl _ _) _)⟩⟩
  case rest =>
  clear c0 c1 hPT
  obtain ⟨rfl, HS4⟩ := hcut
  clear HS3 HS
  cases PT with
  | true =>
   have HE : Hid (r = .err 4) := Lib.hid (by rw [HRR.out, digP_point hpe HFORM.out (HPT.out.1 rfl)]; rfl)
   clear HRR
   have HRR := HE
   go_wp2_with fail
   refine (rfail_first 4 HS4.out.1.1).mono ?_
   rintro e w2 ⟨rfl, hs2⟩
   have hz := box_frm HS4.out.2 hs2.2 (by have := HZ.out.2; omega)
   have HX := Lib.hid (And.intro hz (HS4.out.1.trans hs2))
   obtain ⟨b0, b1, b2, b3, b4⟩ := box5 hz
   have hfz := box_fr hz
   clear hz hs2
   go_wp2_with fail
   refine bodyPost_any_world (fun W => W.heap[w.heap.size]? = some (.cells #[.int .i64 0, .int .i64 0, str [], .slice none 0 0, .slice none 0 0] 95 (0, 0)) ∧ Frm (fun i => i = w.heap.size) w2 W) (five_set HX.out.1 _ _ _ _ _) ?_
   clear b0 b1 b2 b3 b4 hfz
   rintro w9 ⟨h9, hf9⟩
   obtain ⟨k0, k1, k2, k3, k4⟩ := box5 h9
   refine bodyPost_ret (v := .agg #[.int .i64 0, .int .i64 0, str [], .slice none 0 0, .slice none 0 0]) (by simp [results, Tryz.results108, go_sem, k0, k1, k2, k3, k4]) rfl ?_
   exact rv_flat (JSt.grow HX.out.2 hf9 (fun i e => by have := HZ.out.2; omega)) hql (by rw [HRR.out]; exact ⟨rfl, by decide⟩)
  | false =>
   have HNP : Hid (¬ ∃ c, t[P + (dgs (t.drop P)).length]? = some c ∧ (c = 46 ∨ c = 101 ∨ c = 69)) := Lib.hid (fun g => by have := HPT.out.2 g; cases this)
   by_cases hbig : 9007199254740991 < X
   · have HE : Hid (r = .err 1) := Lib.hid (by
      rw [HRR.out, digP_range hpe HFORM.out HNP.out (by rw [← HDG.out]; have := HCAP.out; have := HXN.out; unfold CapRel at *; omega)]; rfl)
     clear HRR
     have HRR := HE
     go_wp2_with fail
     refine (rfail_first 1 HS4.out.1.1).mono ?_
     rintro e w2 ⟨rfl, hs2⟩
     have hz := box_frm HS4.out.2 hs2.2 (by have := HZ.out.2; omega)
     have HX := Lib.hid (And.intro hz (HS4.out.1.trans hs2))
     obtain ⟨b0, b1, b2, b3, b4⟩ := box5 hz
     have hfz := box_fr hz
     clear hz hs2
     go_wp2_with fail
     refine bodyPost_any_world (fun W => W.heap[w.heap.size]? = some (.cells #[.int .i64 0, .int .i64 0, str [], .slice none 0 0, .slice none 0 0] 95 (0, 0)) ∧ Frm (fun i => i = w.heap.size) w2 W) (five_set HX.out.1 _ _ _ _ _) ?_
     clear b0 b1 b2 b3 b4 hfz
     rintro w9 ⟨h9, hf9⟩
     obtain ⟨k0, k1, k2, k3, k4⟩ := box5 h9
     refine bodyPost_ret (v := .agg #[.int .i64 0, .int .i64 0, str [], .slice none 0 0, .slice none 0 0]) (by simp [results, Tryz.results108, go_sem, k0, k1, k2, k3, k4]) rfl ?_
     exact rv_flat (JSt.grow HX.out.2 hf9 (fun i e => by have := HZ.out.2; omega)) hql (by rw [HRR.out]; exact ⟨rfl, by decide⟩)
   have HE : Hid (r = .ok (.mk 4 (sg * X) [] [] []) q) := Lib.hid (by
    rw [HRR.out, digP_ok hpe HFORM.out HNP.out (by rw [← HDG.out]; have := HCAP.out; have := HXN.out; unfold CapRel at *; omega)]
    have e1 : ((capF (dgs (t.drop P)) 0 : Nat) : Int) = X := by rw [← HDG.out]; have := HCAP.out; have := HXN.out; unfold CapRel at *; omega
    rw [e1, ← HDG.out, ← HNN.out, ← HQ.out]
    rfl)
   clear HRR
   have HRR := HE
   have hz := HS4.out.2
   have HX := Lib.hid (And.intro hz HS4.out.1)
   cases NB with
   | true =>
    have e : sg * X = -X := by rw [show sg = -1 by simpa using HG1.out]; omega
    have w1 : IntKind.i64.wrap (-X) = -X := IntWalk.i64_in _ ⟨by have := HX0.out; omega, by have := HX0.out; omega⟩
    rw [e] at HRR
    clear e
    obtain ⟨b0, b1, b2, b3, b4⟩ := box5 hz
    have hfz := box_fr hz
    clear hz
    go_wp2_with fail
    refine bodyPost_any_world (fun W => W.heap[w.heap.size]? = some (.cells #[.int .i64 4, .int .i64 (-X), str [], .slice none 0 0, .slice none 0 0] 95 (0, 0)) ∧ Frm (fun i => i = w.heap.size) wc W) (five_set HX.out.1 _ _ _ _ _) ?_
    clear b0 b1 b2 b3 b4 hfz
    rintro w9 ⟨h9, hf9⟩
    obtain ⟨k0, k1, k2, k3, k4⟩ := box5 h9
    refine bodyPost_ret (v := .agg #[.int .i64 4, .int .i64 (-X), str [], .slice none 0 0, .slice none 0 0]) (by simp [results, Tryz.results108, go_sem, k0, k1, k2, k3, k4]) rfl ?_
    exact rv_flat (JSt.grow HX.out.2 hf9 (fun i e => by have := HZ.out.2; omega)) hql (by rw [HRR.out]; exact ⟨rfl, rfl, rfl⟩)
   | false =>
    have e : sg * X = X := by rw [show sg = 1 by simpa using HG2.out]; omega
    rw [e] at HRR
    clear e
    obtain ⟨b0, b1, b2, b3, b4⟩ := box5 hz
    have hfz := box_fr hz
    clear hz
    go_wp2_with fail
    refine bodyPost_any_world (fun W => W.heap[w.heap.size]? = some (.cells #[.int .i64 4, .int .i64 X, str [], .slice none 0 0, .slice none 0 0] 95 (0, 0)) ∧ Frm (fun i => i = w.heap.size) wc W) (five_set HX.out.1 _ _ _ _ _) ?_
    clear b0 b1 b2 b3 b4 hfz
    rintro w9 ⟨h9, hf9⟩
    obtain ⟨k0, k1, k2, k3, k4⟩ := box5 h9
    refine bodyPost_ret (v := .agg #[.int .i64 4, .int .i64 X, str [], .slice none 0 0, .slice none 0 0]) (by simp [results, Tryz.results108, go_sem, k0, k1, k2, k3, k4]) rfl ?_
    exact rv_flat (JSt.grow HX.out.2 hf9 (fun i e => by have := HZ.out.2; omega)) hql (by rw [HRR.out]; exact ⟨rfl, rfl, rfl⟩)
end Go.Proofs.YtegblhmcfemfgaaGreatDoor
