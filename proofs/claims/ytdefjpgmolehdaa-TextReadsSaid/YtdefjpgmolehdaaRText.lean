/- hblref1's Hex, Digit, short, Text, four by their contracts. -/
import Derived.Test.YtdefjpgmolehdaaRSign
import Derived.Test.YtdefjpgmolehdaaTSigns
import Derived.Deep.RegionHeld3
namespace Go.Proofs.Ytdefjpgmolehdaa
open Go.RowKit

set_option maxHeartbeats 1600000 in
theorem refHex_any (x : Value) (l : List UInt8) (w : World) (hx : Rd w x l) (hl : l.length ≤ 70368744177664) :
    Calls Try.prog 21 #[x] w fun e w' => e = .returned (str (hexL l)) ∧ Below w.heap.size w w' := by
  obtain ⟨a, cap, rfl, hc1, hc2, hc3, hc4⟩ := hx
  have H4 := Lib.hid hc4
  clear hc4 hc3
  go_enter Try.func21, Try.ntmps21
  go_wp2_with fail
  go_loopw [4, 5] (fun v i wr => ∃ k : Nat, k ≤ l.length ∧ i = .int .i64 k ∧ Own 5 wr w.heap.size v (hexL (l.take k)) ∧ Below w.heap.size w wr)
    (fun _ i _ => l.length - (intOf i).toNat)
  case atStart => exact ⟨0, Nat.zero_le _, rfl, Own.nil _ _ _, Below.refl _ _⟩
  case round =>
    obtain ⟨k, hk, rfl, hown, hb⟩ := hrel
    by_cases hlt : k < l.length
    · have hlt' : (k : Int) < (l.length : Int) := by omega
      have hk0 : (0 : Int) ≤ (k : Int) := by omega
      obtain ⟨b, off, rfl, hcell⟩ := H4.out (by intro e; subst e; simp at hlt)
      have hc := hcell k hlt
      have hbl : b < w.heap.size := World.block_lt_of_cell? w _ hc
      rw [← hb.cell (p := ⟨b, off + k, none⟩) hbl] at hc
      obtain ⟨c, hce⟩ : ∃ c, c = l[k] := ⟨_, rfl⟩
      rw [← hce] at hc
      unfold bv at hc
      have hts : l.take (k + 1) = l.take k ++ [c] := by rw [hce]; exact List.take_succ_eq_append_getElem hlt
      have HTS := Lib.hid hts
      have ha := and15 c
      have hc255 := c.toNat_lt
      clear hcell hce hts
      have q1 : (0 : Int) ≤ (c.toNat : Int) / 16 := by omega
      have q2 : (c.toNat : Int) / 16 < 16 := by omega
      have q3 : (0 : Int) ≤ (c.toNat : Int) % 16 := by omega
      have q4 : (c.toNat : Int) % 16 < 16 := by omega
      have hsz := hb.size
      have hL := hexL_length (l.take k)
      have hLt : (l.take k).length = k := by simp; omega
      rw [hLt] at hL
      have HL := Lib.hid hL
      clear hL hLt
      go_wp2_with fail
      go_region_held3 (fun w' => w'.cell? ⟨b, off + k, none⟩ = some (.int .u8 (c.toNat : Int)))
        (first
          | go_keep
          | (rw [hg10.cell_far ⟨b, off + k, none⟩ (by show b < _; simp; omega) (fun e => by have := (hown.base b e.symm).1; omega)]; first | assumption | go_keep))
        ((first
          | (refine bt.stepAppend (by rfl) _ _ (by rfl) w.heap.size u4 (hexL (l.take k)) [hexS (c.toNat / 16), hexS (c.toNat % 16)] (by rfl) ?_ ?_ ?_ ?_ ?_
             · exact (hown.alloc _)
             · exact Rd.two _ _ _ _ _ _ _ (hex_at _ (by omega) _ _ (by omega)) (hex_at _ (by omega) _ _ (by omega)) (by simp)
             · rw [HL.out]; simp; omega
             · simp; omega
             intro v10 w10 ho10 hg10)
          | fail))
      all_goals
        have hbX : Below w.heap.size w w10 := by
          refine Below.grown ?_ hg10 (by simp; omega) (fun b e => (hown.base b e).1)
          exact (hb.drew.alloc (by simp; omega) _)
        go_wp2_with fail
        go_roundw
        case rel => exact ⟨k + 1, by omega, by go_num, by rw [HTS.out, hexL_snoc]; exact ho10, hbX⟩
        case measure => simp [intOf]; omega
    · have hlt' : ¬ (k : Int) < (l.length : Int) := by omega
      obtain rfl : k = l.length := by omega
      rw [List.take_length] at hown
      have hconv := bt.toString (w := wr) (S := 9) Try.underlying9 hown.rd
      go_wp2_with fail
      go_ret
      exact ⟨rfl, hb⟩

theorem refDigit_any (c : UInt8) (w : World) : Calls Try.prog 35 #[.int .u8 (c.toNat : Int)] w fun e w' => e = refDE c ∧ w' = w := by
  have hc := c.toNat_lt
  have key : (∃ v : Int, refDE c = .returned (.int .i64 v) ∧ (((48 : Int) ≤ (c.toNat : Int) ∧ (c.toNat : Int) ≤ 57 ∧ v = (c.toNat : Int) - 48) ∨ ((97 : Int) ≤ (c.toNat : Int) ∧ (c.toNat : Int) ≤ 102 ∧ v = (c.toNat : Int) - 97 + 10) ∨
      ((65 : Int) ≤ (c.toNat : Int) ∧ (c.toNat : Int) ≤ 70 ∧ v = (c.toNat : Int) - 65 + 10) ∨ (((c.toNat : Int) < 48 ∨ (57 < (c.toNat : Int) ∧ (c.toNat : Int) < 65) ∨ (70 < (c.toNat : Int) ∧ (c.toNat : Int) < 97) ∨ 102 < (c.toNat : Int)) ∧ v = -1))) := by
    refine ⟨refD c, rfl, ?_⟩
    unfold refD
    split
    · omega
    · split
      · omega
      · split <;> omega
  obtain ⟨v, hv, hcase⟩ := key
  have HV := Lib.hid hv
  clear hv
  rcases hcase with ⟨h1, h2, rfl⟩ | ⟨h1, h2, rfl⟩ | ⟨h1, h2, rfl⟩ | ⟨h, rfl⟩
  · go_enter Try.func35, Try.ntmps35
    go_wp2
    go_ret
    exact ⟨HV.out.symm, rfl⟩
  · have h3 : (48 : Int) ≤ (c.toNat : Int) := by omega
    have h4 : ¬ (c.toNat : Int) ≤ 57 := by omega
    go_enter Try.func35, Try.ntmps35
    go_wp2
    go_ret
    exact ⟨HV.out.symm, rfl⟩
  · have h3 : (48 : Int) ≤ (c.toNat : Int) := by omega
    have h4 : ¬ (c.toNat : Int) ≤ 57 := by omega
    have h5 : ¬ (97 : Int) ≤ (c.toNat : Int) := by omega
    go_enter Try.func35, Try.ntmps35
    go_wp2
    go_ret
    exact ⟨HV.out.symm, rfl⟩
  · rcases h with h | ⟨h1, h2⟩ | ⟨h1, h2⟩ | h
    · have h4 : ¬ (48 : Int) ≤ (c.toNat : Int) := by omega
      have h5 : ¬ (97 : Int) ≤ (c.toNat : Int) := by omega
      have h6 : ¬ (65 : Int) ≤ (c.toNat : Int) := by omega
      go_enter Try.func35, Try.ntmps35
      go_wp2
      go_ret
      exact ⟨HV.out.symm, rfl⟩
    · have h3 : (48 : Int) ≤ (c.toNat : Int) := by omega
      have h4 : ¬ (c.toNat : Int) ≤ 57 := by omega
      have h5 : ¬ (97 : Int) ≤ (c.toNat : Int) := by omega
      have h6 : ¬ (65 : Int) ≤ (c.toNat : Int) := by omega
      go_enter Try.func35, Try.ntmps35
      go_wp2
      go_ret
      exact ⟨HV.out.symm, rfl⟩
    · have h3 : (48 : Int) ≤ (c.toNat : Int) := by omega
      have h4 : ¬ (c.toNat : Int) ≤ 57 := by omega
      have h5 : ¬ (97 : Int) ≤ (c.toNat : Int) := by omega
      have h6 : (65 : Int) ≤ (c.toNat : Int) := by omega
      have h7 : ¬ (c.toNat : Int) ≤ 70 := by omega
      go_enter Try.func35, Try.ntmps35
      go_wp2
      go_ret
      exact ⟨HV.out.symm, rfl⟩
    · have h3 : (48 : Int) ≤ (c.toNat : Int) := by omega
      have h4 : ¬ (c.toNat : Int) ≤ 57 := by omega
      have h5 : (97 : Int) ≤ (c.toNat : Int) := by omega
      have h5' : ¬ (c.toNat : Int) ≤ 102 := by omega
      have h6 : (65 : Int) ≤ (c.toNat : Int) := by omega
      have h7 : ¬ (c.toNat : Int) ≤ 70 := by omega
      go_enter Try.func35, Try.ntmps35
      go_wp2
      go_ret
      exact ⟨HV.out.symm, rfl⟩
theorem refDigit_ret (c : UInt8) (w : World) : Calls Try.prog 35 #[.int .u8 (c.toNat : Int)] w fun e w' => e = .returned (.int .i64 (refD c)) ∧ w' = w := refDigit_any c w
theorem refShort_any (c : UInt8) (w : World) : Calls Try.prog 20 #[.int .u8 (c.toNat : Int)] w fun e w' => e = .returned (.int .u8 ((shB c).toNat : Int)) ∧ w' = w := by
  by_cases h34 : c.toNat = 34
  · rw [show shB c = 34 by simp [shB, h34], show (c.toNat : Int) = 34 by omega]
    go_enter Try.func20, Try.ntmps20
    go_wp2
    go_ret
    exact ⟨rfl, rfl⟩
  by_cases h92 : c.toNat = 92
  · rw [show shB c = 92 by simp [shB, h92], show (c.toNat : Int) = 92 by omega]
    go_enter Try.func20, Try.ntmps20
    go_wp2
    go_ret
    exact ⟨rfl, rfl⟩
  by_cases h8 : c.toNat = 8
  · rw [show shB c = 98 by simp [shB, h8], show (c.toNat : Int) = 8 by omega]
    go_enter Try.func20, Try.ntmps20
    go_wp2
    go_ret
    exact ⟨rfl, rfl⟩
  by_cases h12 : c.toNat = 12
  · rw [show shB c = 102 by simp [shB, h12], show (c.toNat : Int) = 12 by omega]
    go_enter Try.func20, Try.ntmps20
    go_wp2
    go_ret
    exact ⟨rfl, rfl⟩
  by_cases h10 : c.toNat = 10
  · rw [show shB c = 110 by simp [shB, h10], show (c.toNat : Int) = 10 by omega]
    go_enter Try.func20, Try.ntmps20
    go_wp2
    go_ret
    exact ⟨rfl, rfl⟩
  by_cases h13 : c.toNat = 13
  · rw [show shB c = 114 by simp [shB, h13], show (c.toNat : Int) = 13 by omega]
    go_enter Try.func20, Try.ntmps20
    go_wp2
    go_ret
    exact ⟨rfl, rfl⟩
  by_cases h9 : c.toNat = 9
  · rw [show shB c = 116 by simp [shB, h9], show (c.toNat : Int) = 9 by omega]
    go_enter Try.func20, Try.ntmps20
    go_wp2
    go_ret
    exact ⟨rfl, rfl⟩
  have e34 : ((c.toNat : Int) == 34) = false := by rw [beq_eq_false_iff_ne]; omega
  have e92 : ((c.toNat : Int) == 92) = false := by rw [beq_eq_false_iff_ne]; omega
  have e8 : ((c.toNat : Int) == 8) = false := by rw [beq_eq_false_iff_ne]; omega
  have e12 : ((c.toNat : Int) == 12) = false := by rw [beq_eq_false_iff_ne]; omega
  have e10 : ((c.toNat : Int) == 10) = false := by rw [beq_eq_false_iff_ne]; omega
  have e13 : ((c.toNat : Int) == 13) = false := by rw [beq_eq_false_iff_ne]; omega
  have e9 : ((c.toNat : Int) == 9) = false := by rw [beq_eq_false_iff_ne]; omega
  have hs : shB c = 0 := by simp [shB, h34, h92, h8, h12, h10, h13, h9]
  rw [hs]
  clear hs h34 h92 h8 h12 h10 h13 h9
  go_enter Try.func20, Try.ntmps20
  go_wp2_with fail
  go_ret
  exact ⟨rfl, rfl⟩


set_option maxHeartbeats 3200000 in
theorem refText_any (c : Int) (w : World) (_h1 : -9223372036854775808 ≤ c) (_h2 : c ≤ 9223372036854775807) :
    Calls Try.prog 14 #[.int .i64 c] w fun e w' => e = signE (signR c) ∧ Below w.heap.size w w' := by
  by_cases hbad : bad c
  · rw [signR_bad c hbad]
    have key : c < 0 ∨ (¬ c < 0 ∧ 1114111 < c) ∨ (¬ c < 0 ∧ ¬ 1114111 < c ∧ 55296 ≤ c ∧ c ≤ 57343) := by unfold bad at hbad; omega
    clear hbad
    rcases key with k1 | ⟨k1, k2⟩ | ⟨k1, k2, k3, k4⟩
    all_goals
      go_enter Try.func14, Try.ntmps14
      go_wp2_with fail
      go_ret2
      exact ⟨rfl, Below.refl _ _⟩
  obtain ⟨n, hn⟩ : ∃ n : Nat, (n : Int) = c := ⟨c.toNat, by unfold bad at hbad; omega⟩
  have hsg : signB n = true := (signB_iff n).2 (by unfold bad at hbad; omega)
  have hsr : signR c = (sb n, true) := by rw [← hn]; exact signR_good n hsg
  rw [hsr]
  have k1 : ¬ c < 0 := by unfold bad at hbad; omega
  have k2 : ¬ 1114111 < c := by unfold bad at hbad; omega
  have k3 : ¬ 55296 ≤ c ∨ (55296 ≤ c ∧ ¬ c ≤ 57343) := by unfold bad at hbad; omega
  have HN := Lib.hid hn
  clear hsr hbad hsg
  have hcs : c < 128 ∨ (¬ c < 128 ∧ c < 2048) ∨ (¬ c < 128 ∧ ¬ c < 2048 ∧ c < 65536) ∨ (¬ c < 128 ∧ ¬ c < 2048 ∧ ¬ c < 65536) := by omega
  rcases hcs with m1 | ⟨m1, m2⟩ | ⟨m1, m2, m3⟩ | ⟨m1, m2, m3⟩
  · have hsb : sb n = [UInt8.ofNat n] := by rw [sb, if_pos (by omega)]
    have HSB := Lib.hid hsb
    have hw1 : IntKind.u8.wrap c = ((UInt8.ofNat n).toNat : Int) := by rw [oN n (by omega), hn]; exact IntWalk.u8_in _ ⟨by omega, by omega⟩
    obtain ⟨z, hz⟩ : ∃ z, z = UInt8.ofNat n := ⟨_, rfl⟩
    rw [← hz] at hw1
    have HSB1 : Hid (sb n = [z]) := by rw [hz]; exact HSB
    have hconv := fun W => bt.toString (S := 9) Try.underlying9 (Rd.one 5 W z _ rfl)
    clear hsb hn hz HSB
    rcases k3 with k3 | ⟨k3, k4⟩
    all_goals try (exfalso; omega)
    all_goals
      go_enter Try.func14, Try.ntmps14
      go_wp2_with fail
      go_ret2
      exact ⟨by rw [HSB1.out]; rfl, below_alloc _ _⟩
  · have hsb : sb n = [UInt8.ofNat (192 + n / 64), UInt8.ofNat (128 + n % 64)] := by rw [sb, if_neg (by omega), if_pos (by omega)]
    have HSB := Lib.hid hsb
    have o0 : bits .or .i64 192 (c / 64) = ((192 + n / 64 : Nat) : Int) := by
      rw [← hn, show ((n : Int) / 64) = ((n / 64 : Nat) : Int) by omega]
      exact orI 192 3 6 _ (by decide) (by omega) (by omega)
    have v0 : IntKind.u8.wrap ((192 + n / 64 : Nat) : Int) = ((UInt8.ofNat (192 + n / 64)).toNat : Int) := by rw [oN _ (by omega)]; exact IntWalk.u8_in _ ⟨by omega, by omega⟩
    have a9 : bits .and .i64 c 63 = ((n % 64 : Nat) : Int) := by
      rw [← hn]
      exact andI n 63 6 (by decide) (by omega) (by decide)
    have o9 : bits .or .i64 128 ((n % 64 : Nat) : Int) = ((128 + n % 64 : Nat) : Int) := orI 128 1 7 _ (by decide) (by omega) (by omega)
    have v9 : IntKind.u8.wrap ((128 + n % 64 : Nat) : Int) = ((UInt8.ofNat (128 + n % 64)).toNat : Int) := by rw [oN _ (by omega)]; exact IntWalk.u8_in _ ⟨by omega, by omega⟩
    obtain ⟨r9, hr9⟩ : ∃ r, r = n % 64 := ⟨_, rfl⟩
    obtain ⟨s0, hs0⟩ : ∃ r, r = 192 + n / 64 := ⟨_, rfl⟩
    rw [← hs0] at o0 v0
    rw [← hr9] at a9 o9 v9
    obtain ⟨s9, hs9⟩ : ∃ r, r = 128 + r9 := ⟨_, rfl⟩
    rw [← hs9] at o9 v9
    obtain ⟨z0, hz0⟩ : ∃ z, z = UInt8.ofNat s0 := ⟨_, rfl⟩
    rw [← hz0] at v0
    obtain ⟨z9, hz9⟩ : ∃ z, z = UInt8.ofNat s9 := ⟨_, rfl⟩
    rw [← hz9] at v9
    have hconv := fun W => bt.toString (S := 9) Try.underlying9 (Rd.two 5 W z0 z9 _ _ W.heap.size rfl rfl rfl)
    have HSB2 : Hid (sb n = [z0, z9]) := by
      have h := HSB.out
      rw [← hs0, ← hr9, ← hs9, ← hz0, ← hz9] at h
      exact h
    clear hsb hn hz0 hz9 hs0 hs9 hr9 HSB
    unfold bv at hconv
    rcases k3 with k3 | ⟨k3, k4⟩
    all_goals try (exfalso; omega)
    all_goals
      go_enter Try.func14, Try.ntmps14
      go_wp2_with fail
      go_ret2
      exact ⟨by rw [HSB2.out]; rfl, below_alloc _ _⟩
  · have hsb : sb n = [UInt8.ofNat (224 + n / 4096), UInt8.ofNat (128 + n / 64 % 64), UInt8.ofNat (128 + n % 64)] := by rw [sb, if_neg (by omega), if_neg (by omega), if_pos (by omega)]
    have HSB := Lib.hid hsb
    have o0 : bits .or .i64 224 (c / 4096) = ((224 + n / 4096 : Nat) : Int) := by
      rw [← hn, show ((n : Int) / 4096) = ((n / 4096 : Nat) : Int) by omega]
      exact orI 224 7 5 _ (by decide) (by omega) (by omega)
    have v0 : IntKind.u8.wrap ((224 + n / 4096 : Nat) : Int) = ((UInt8.ofNat (224 + n / 4096)).toNat : Int) := by rw [oN _ (by omega)]; exact IntWalk.u8_in _ ⟨by omega, by omega⟩
    have a1 : bits .and .i64 (c / 64) 63 = ((n / 64 % 64 : Nat) : Int) := by
      rw [← hn, show ((n : Int) / 64) = ((n / 64 : Nat) : Int) by omega]
      exact andI (n / 64) 63 6 (by decide) (by omega) (by decide)
    have o1 : bits .or .i64 128 ((n / 64 % 64 : Nat) : Int) = ((128 + n / 64 % 64 : Nat) : Int) := orI 128 1 7 _ (by decide) (by omega) (by omega)
    have v1 : IntKind.u8.wrap ((128 + n / 64 % 64 : Nat) : Int) = ((UInt8.ofNat (128 + n / 64 % 64)).toNat : Int) := by rw [oN _ (by omega)]; exact IntWalk.u8_in _ ⟨by omega, by omega⟩
    have a9 : bits .and .i64 c 63 = ((n % 64 : Nat) : Int) := by
      rw [← hn]
      exact andI n 63 6 (by decide) (by omega) (by decide)
    have o9 : bits .or .i64 128 ((n % 64 : Nat) : Int) = ((128 + n % 64 : Nat) : Int) := orI 128 1 7 _ (by decide) (by omega) (by omega)
    have v9 : IntKind.u8.wrap ((128 + n % 64 : Nat) : Int) = ((UInt8.ofNat (128 + n % 64)).toNat : Int) := by rw [oN _ (by omega)]; exact IntWalk.u8_in _ ⟨by omega, by omega⟩
    obtain ⟨r1, hr1⟩ : ∃ r, r = n / 64 % 64 := ⟨_, rfl⟩
    obtain ⟨r9, hr9⟩ : ∃ r, r = n % 64 := ⟨_, rfl⟩
    obtain ⟨s0, hs0⟩ : ∃ r, r = 224 + n / 4096 := ⟨_, rfl⟩
    rw [← hs0] at o0 v0
    rw [← hr1] at a1 o1 v1
    obtain ⟨s1, hs1⟩ : ∃ r, r = 128 + r1 := ⟨_, rfl⟩
    rw [← hs1] at o1 v1
    rw [← hr9] at a9 o9 v9
    obtain ⟨s9, hs9⟩ : ∃ r, r = 128 + r9 := ⟨_, rfl⟩
    rw [← hs9] at o9 v9
    obtain ⟨z0, hz0⟩ : ∃ z, z = UInt8.ofNat s0 := ⟨_, rfl⟩
    rw [← hz0] at v0
    obtain ⟨z1, hz1⟩ : ∃ z, z = UInt8.ofNat s1 := ⟨_, rfl⟩
    rw [← hz1] at v1
    obtain ⟨z9, hz9⟩ : ∃ z, z = UInt8.ofNat s9 := ⟨_, rfl⟩
    rw [← hz9] at v9
    have hconv := fun W => bt.toString (S := 9) Try.underlying9 (Rd.three 5 W z0 z1 z9 _ _ _ W.heap.size rfl rfl rfl rfl)
    have HSB2 : Hid (sb n = [z0, z1, z9]) := by
      have h := HSB.out
      rw [← hs0, ← hr1, ← hs1, ← hr9, ← hs9, ← hz0, ← hz1, ← hz9] at h
      exact h
    clear hsb hn hz0 hz1 hz9 hs0 hs1 hs9 hr1 hr9 HSB
    unfold bv at hconv
    rcases k3 with k3 | ⟨k3, k4⟩
    all_goals try (exfalso; omega)
    all_goals
      go_enter Try.func14, Try.ntmps14
      go_wp2_with fail
      go_ret2
      exact ⟨by rw [HSB2.out]; rfl, below_alloc _ _⟩
  · have hsb : sb n = [UInt8.ofNat (240 + n / 262144), UInt8.ofNat (128 + n / 4096 % 64), UInt8.ofNat (128 + n / 64 % 64), UInt8.ofNat (128 + n % 64)] := by rw [sb, if_neg (by omega), if_neg (by omega), if_neg (by omega)]
    have HSB := Lib.hid hsb
    have o0 : bits .or .i64 240 (c / 262144) = ((240 + n / 262144 : Nat) : Int) := by
      rw [← hn, show ((n : Int) / 262144) = ((n / 262144 : Nat) : Int) by omega]
      exact orI 240 15 4 _ (by decide) (by omega) (by omega)
    have v0 : IntKind.u8.wrap ((240 + n / 262144 : Nat) : Int) = ((UInt8.ofNat (240 + n / 262144)).toNat : Int) := by rw [oN _ (by omega)]; exact IntWalk.u8_in _ ⟨by omega, by omega⟩
    have a1 : bits .and .i64 (c / 4096) 63 = ((n / 4096 % 64 : Nat) : Int) := by
      rw [← hn, show ((n : Int) / 4096) = ((n / 4096 : Nat) : Int) by omega]
      exact andI (n / 4096) 63 6 (by decide) (by omega) (by decide)
    have o1 : bits .or .i64 128 ((n / 4096 % 64 : Nat) : Int) = ((128 + n / 4096 % 64 : Nat) : Int) := orI 128 1 7 _ (by decide) (by omega) (by omega)
    have v1 : IntKind.u8.wrap ((128 + n / 4096 % 64 : Nat) : Int) = ((UInt8.ofNat (128 + n / 4096 % 64)).toNat : Int) := by rw [oN _ (by omega)]; exact IntWalk.u8_in _ ⟨by omega, by omega⟩
    have a2 : bits .and .i64 (c / 64) 63 = ((n / 64 % 64 : Nat) : Int) := by
      rw [← hn, show ((n : Int) / 64) = ((n / 64 : Nat) : Int) by omega]
      exact andI (n / 64) 63 6 (by decide) (by omega) (by decide)
    have o2 : bits .or .i64 128 ((n / 64 % 64 : Nat) : Int) = ((128 + n / 64 % 64 : Nat) : Int) := orI 128 1 7 _ (by decide) (by omega) (by omega)
    have v2 : IntKind.u8.wrap ((128 + n / 64 % 64 : Nat) : Int) = ((UInt8.ofNat (128 + n / 64 % 64)).toNat : Int) := by rw [oN _ (by omega)]; exact IntWalk.u8_in _ ⟨by omega, by omega⟩
    have a9 : bits .and .i64 c 63 = ((n % 64 : Nat) : Int) := by
      rw [← hn]
      exact andI n 63 6 (by decide) (by omega) (by decide)
    have o9 : bits .or .i64 128 ((n % 64 : Nat) : Int) = ((128 + n % 64 : Nat) : Int) := orI 128 1 7 _ (by decide) (by omega) (by omega)
    have v9 : IntKind.u8.wrap ((128 + n % 64 : Nat) : Int) = ((UInt8.ofNat (128 + n % 64)).toNat : Int) := by rw [oN _ (by omega)]; exact IntWalk.u8_in _ ⟨by omega, by omega⟩
    obtain ⟨r1, hr1⟩ : ∃ r, r = n / 4096 % 64 := ⟨_, rfl⟩
    obtain ⟨r2, hr2⟩ : ∃ r, r = n / 64 % 64 := ⟨_, rfl⟩
    obtain ⟨r9, hr9⟩ : ∃ r, r = n % 64 := ⟨_, rfl⟩
    obtain ⟨s0, hs0⟩ : ∃ r, r = 240 + n / 262144 := ⟨_, rfl⟩
    rw [← hs0] at o0 v0
    rw [← hr1] at a1 o1 v1
    obtain ⟨s1, hs1⟩ : ∃ r, r = 128 + r1 := ⟨_, rfl⟩
    rw [← hs1] at o1 v1
    rw [← hr2] at a2 o2 v2
    obtain ⟨s2, hs2⟩ : ∃ r, r = 128 + r2 := ⟨_, rfl⟩
    rw [← hs2] at o2 v2
    rw [← hr9] at a9 o9 v9
    obtain ⟨s9, hs9⟩ : ∃ r, r = 128 + r9 := ⟨_, rfl⟩
    rw [← hs9] at o9 v9
    obtain ⟨z0, hz0⟩ : ∃ z, z = UInt8.ofNat s0 := ⟨_, rfl⟩
    rw [← hz0] at v0
    obtain ⟨z1, hz1⟩ : ∃ z, z = UInt8.ofNat s1 := ⟨_, rfl⟩
    rw [← hz1] at v1
    obtain ⟨z2, hz2⟩ : ∃ z, z = UInt8.ofNat s2 := ⟨_, rfl⟩
    rw [← hz2] at v2
    obtain ⟨z9, hz9⟩ : ∃ z, z = UInt8.ofNat s9 := ⟨_, rfl⟩
    rw [← hz9] at v9
    have hconv := fun W => bt.toString (S := 9) Try.underlying9 (Rd.four 5 W z0 z1 z2 z9 _ _ _ _ W.heap.size rfl rfl rfl rfl rfl)
    have HSB2 : Hid (sb n = [z0, z1, z2, z9]) := by
      have h := HSB.out
      rw [← hs0, ← hr1, ← hs1, ← hr2, ← hs2, ← hr9, ← hs9, ← hz0, ← hz1, ← hz2, ← hz9] at h
      exact h
    clear hsb hn hz0 hz1 hz2 hz9 hs0 hs1 hs2 hs9 hr1 hr2 hr9 HSB
    unfold bv at hconv
    rcases k3 with k3 | ⟨k3, k4⟩
    all_goals try (exfalso; omega)
    all_goals
      go_enter Try.func14, Try.ntmps14
      go_wp2_with fail
      go_ret2
      exact ⟨by rw [HSB2.out]; rfl, below_alloc _ _⟩
end Go.Proofs.Ytdefjpgmolehdaa
