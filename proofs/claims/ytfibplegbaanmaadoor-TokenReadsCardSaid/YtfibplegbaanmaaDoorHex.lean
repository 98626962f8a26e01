/- num.Hex, num.Unhex, num.digit by their contracts. -/
import Derived.Test.YtfibplegbaanmaaDoorVar
import Derived.Test.YtfibplegbaanmaaDoorHexMath
import Derived.Deep.RegionHeld3
import Derived.Deep.QuietTactic
import Derived.BigQuiet
namespace Go.Proofs.YtfibplegbaanmaaDoor
open Go.RowKit

/-- What a small digit of 16 says, -1 if it is none. -/
def hexD (c : UInt8) : Int := if 48 ≤ c.toNat ∧ c.toNat ≤ 57 then (c.toNat : Int) - 48 else if 97 ≤ c.toNat ∧ c.toNat ≤ 102 then (c.toNat : Int) - 97 + 10 else -1
def hexDE (c : UInt8) : Ending := .returned (.int .i64 (hexD c))

theorem digit_any (c : UInt8) (w : World) : Calls Tryd.prog 33 #[.int .u8 (c.toNat : Int)] w fun e w' => e = hexDE c ∧ w' = w := by
  have hc := c.toNat_lt
  by_cases h1 : 48 ≤ c.toNat ∧ c.toNat ≤ 57
  · have e : hexDE c = .returned (.int .i64 ((c.toNat : Int) - 48)) := by unfold hexDE hexD; rw [if_pos h1]
    have H := Lib.hid e
    obtain ⟨h1, h2⟩ := h1
    have h1' : (48 : Int) ≤ (c.toNat : Int) := by omega
    have h2' : (c.toNat : Int) ≤ 57 := by omega
    clear e
    go_enter Tryd.func33, Tryd.ntmps33
    go_wp2
    go_ret
    exact ⟨H.out.symm, rfl⟩
  · by_cases h3 : 97 ≤ c.toNat ∧ c.toNat ≤ 102
    · have e : hexDE c = .returned (.int .i64 ((c.toNat : Int) - 97 + 10)) := by unfold hexDE hexD; rw [if_neg h1, if_pos h3]
      have H := Lib.hid e
      obtain ⟨h1, h2⟩ := h3
      have h0' : (48 : Int) ≤ (c.toNat : Int) := by omega
      have h0'' : ¬ (c.toNat : Int) ≤ 57 := by omega
      have h1' : (97 : Int) ≤ (c.toNat : Int) := by omega
      have h2' : (c.toNat : Int) ≤ 102 := by omega
      clear e
      go_enter Tryd.func33, Tryd.ntmps33
      go_wp2
      go_ret
      exact ⟨H.out.symm, rfl⟩
    · have e : hexDE c = .returned (.int .i64 (-1)) := by unfold hexDE hexD; rw [if_neg h1, if_neg h3]
      have H := Lib.hid e
      clear e
      by_cases a1 : (48 : Int) ≤ (c.toNat : Int)
      · have a2 : ¬ (c.toNat : Int) ≤ 57 := by omega
        by_cases a3 : (97 : Int) ≤ (c.toNat : Int)
        · have a4 : ¬ (c.toNat : Int) ≤ 102 := by omega
          clear h1 h3
          go_enter Tryd.func33, Tryd.ntmps33
          go_wp2
          go_ret
          exact ⟨H.out.symm, rfl⟩
        · clear h1 h3
          go_enter Tryd.func33, Tryd.ntmps33
          go_wp2
          go_ret
          exact ⟨H.out.symm, rfl⟩
      · have a3 : ¬ (97 : Int) ≤ (c.toNat : Int) := by omega
        clear h1 h3
        go_enter Tryd.func33, Tryd.ntmps33
        go_wp2
        go_ret
        exact ⟨H.out.symm, rfl⟩

set_option maxHeartbeats 800000 in
theorem hex_any (x : Value) (l : List UInt8) (w : World) (hx : Rd w x l) (hl : l.length ≤ 70368744177664) :
    Calls Tryd.prog 18 #[x] w fun e w' => e = .returned (str (hexL l)) ∧ Below w.heap.size w w' := by
  obtain ⟨a, cap, rfl, hc1, hc2, hc3, hc4⟩ := hx
  have H4 := Lib.hid hc4
  clear hc4 hc3
  go_enter Tryd.func18, Tryd.ntmps18
  go_wp2_with (at_make; refine hold ?_)
  intro _
  refine bt.make0 rfl _ _ rfl (2 * l.length) _ (by omega) rfl rfl (by omega) ?_
  intro w1 hown1 hg1
  have hb1 : Below w.heap.size w w1 := (Below.refl _ _).grown hg1 (Nat.le_refl _) (by simp)
  go_wp2_with fail
  go_loopw [3, 12] (fun v i wr => ∃ k : Nat, k ≤ l.length ∧ i = .int .i64 k ∧ Own 5 wr w.heap.size v (hexL (l.take k)) ∧ Below w.heap.size w wr)
    (fun _ i _ => l.length - (intOf i).toNat)
  case atStart => exact ⟨0, Nat.zero_le _, rfl, hown1, hb1⟩
  case round =>
    obtain ⟨k, hk, rfl, hown, hb⟩ := hrel
    by_cases hlt : k < l.length
    · have hlt' : (k : Int) < (l.length : Int) := by omega
      obtain ⟨b, off, rfl, hcell⟩ := H4.out (by intro e; subst e; simp at hlt)
      have hc := hcell k hlt
      rw [← hb.cell (p := ⟨b, off + k, none⟩) (World.block_lt_of_cell? w _ hc)] at hc
      obtain ⟨c, hce⟩ : ∃ c, c = l[k] := ⟨_, rfl⟩
      rw [← hce] at hc
      unfold bv at hc
      have hts : l.take (k + 1) = l.take k ++ [c] := by rw [hce]; exact List.take_succ_eq_append_getElem hlt
      have HTS := Lib.hid hts
      have ha := and15 c
      have hc255 := c.toNat_lt
      clear hcell hce hts
      go_wp2_with fail
      have q1 : (0 : Int) ≤ (c.toNat : Int) / 16 := by omega
      have q2 : (c.toNat : Int) / 16 < 16 := by omega
      have q3 : (0 : Int) ≤ (c.toNat : Int) % 16 := by omega
      have q4 : (c.toNat : Int) % 16 < 16 := by omega
      have hsz := hb.size
      have hL := hexL_length (l.take k)
      have hLt : (l.take k).length = k := by simp; omega
      rw [hLt] at hL
      have HL := Lib.hid hL
      clear hL hLt
      go_region_held3 (fun _ => True) (trivial)
        ((first
          | (refine bt.stepAppend (by rfl) _ _ (by rfl) w.heap.size u3 (hexL (l.take k)) [hexS (c.toNat / 16), hexS (c.toNat % 16)] (by rfl) ?_ ?_ ?_ ?_ ?_
             · exact (hown.alloc _)
             · exact Rd.two _ _ _ _ _ _ _ (hex_at _ (by omega) _ _ (by omega)) (hex_at _ (by omega) _ _ (by omega)) (by simp)
             · rw [HL.out]; simp; omega
             · simp; omega
             intro v10 w10 ho10 hg10)
          | fail))
      all_goals
        have hbX : Below w.heap.size w w10 := by
          refine Below.grown ?_ hg10 (by simp; omega) (fun b e => (hown.base b e).1)
          exact (hb.drew.alloc (by simp; omega) _)
        go_wp2_with fail
        go_roundw
        case rel => exact ⟨k + 1, by omega, by go_num, by rw [HTS.out, hexL_snoc]; exact ho10, hbX⟩
        case measure => simp [intOf]; omega
    · have hlt' : ¬ (k : Int) < (l.length : Int) := by omega
      obtain rfl : k = l.length := by omega
      rw [List.take_length] at hown
      have hconv := bt.toString (w := wr) (S := 9) Tryd.underlying9 hown.rd
      go_wp2_with fail
      go_ret
      exact ⟨rfl, hb⟩
end Go.Proofs.YtfibplegbaanmaaDoor
