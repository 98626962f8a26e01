/- hblref1.Hex, Digit by their contracts: the answers of ours. -/
import Derived.Test.YtonkfekjhbfelaaDoorUnhex
import Derived.Deep.RegionHeld3
namespace Go.Proofs.YtonkfekjhbfelaaDoor
open Go.RowKit

set_option maxHeartbeats 1600000 in
theorem refHex_any (x : Value) (l : List UInt8) (w : World) (hx : Rd w x l) (hl : l.length ≤ 70368744177664) :
    Calls Tryd.prog 33 #[x] w fun e w' => e = .returned (str (hexL l)) ∧ Below w.heap.size w w' := by
  obtain ⟨a, cap, rfl, hc1, hc2, hc3, hc4⟩ := hx
  have H4 := Lib.hid hc4
  clear hc4 hc3
  go_enter Tryd.func33, Tryd.ntmps33
  go_wp2_with fail
  go_loopw [4, 5] (fun v i wr => ∃ k : Nat, k ≤ l.length ∧ i = .int .i64 k ∧ Own 5 wr w.heap.size v (hexL (l.take k)) ∧ Below w.heap.size w wr)
    (fun _ i _ => l.length - (intOf i).toNat)
  case atStart => exact ⟨0, Nat.zero_le _, rfl, Own.nil _ _ _, Below.refl _ _⟩
  case round =>
    obtain ⟨k, hk, rfl, hown, hb⟩ := hrel
    by_cases hlt : k < l.length
    · have hlt' : (k : Int) < (l.length : Int) := by omega
      have hk0 : (0 : Int) ≤ (k : Int) := by omega
      obtain ⟨b, off, rfl, hcell⟩ := H4.out (by intro e; subst e; simp at hlt)
      have hc := hcell k hlt
      have hbl : b < w.heap.size := World.block_lt_of_cell? w _ hc
      rw [← hb.cell (p := ⟨b, off + k, none⟩) hbl] at hc
      obtain ⟨c, hce⟩ : ∃ c, c = l[k] := ⟨_, rfl⟩
      rw [← hce] at hc
      unfold bv at hc
      have hts : l.take (k + 1) = l.take k ++ [c] := by rw [hce]; exact List.take_succ_eq_append_getElem hlt
      have HTS := Lib.hid hts
      have ha := and15 c
      have hc255 := c.toNat_lt
      clear hcell hce hts
      have q1 : (0 : Int) ≤ (c.toNat : Int) / 16 := by omega
      have q2 : (c.toNat : Int) / 16 < 16 := by omega
      have q3 : (0 : Int) ≤ (c.toNat : Int) % 16 := by omega
      have q4 : (c.toNat : Int) % 16 < 16 := by omega
      have hsz := hb.size
      have hL := hexL_length (l.take k)
      have hLt : (l.take k).length = k := by simp; omega
      rw [hLt] at hL
      have HL := Lib.hid hL
      clear hL hLt
      go_wp2_with fail
      go_region_held3 (fun w' => w'.cell? ⟨b, off + k, none⟩ = some (.int .u8 (c.toNat : Int)))
        (first
          | go_keep
          | (rw [hg10.cell_far ⟨b, off + k, none⟩ (by show b < _; simp; omega) (fun e => by have := (hown.base b e.symm).1; omega)]; first | assumption | go_keep))
        ((first
          | (refine bt.stepAppend (by rfl) _ _ (by rfl) w.heap.size u4 (hexL (l.take k)) [hexS (c.toNat / 16), hexS (c.toNat % 16)] (by rfl) ?_ ?_ ?_ ?_ ?_
             · exact (hown.alloc _)
             · exact Rd.two _ _ _ _ _ _ _ (hex_at _ (by omega) _ _ (by omega)) (hex_at _ (by omega) _ _ (by omega)) (by simp)
             · rw [HL.out]; simp; omega
             · simp; omega
             intro v10 w10 ho10 hg10)
          | fail))
      all_goals
        have hbX : Below w.heap.size w w10 := by
          refine Below.grown ?_ hg10 (by simp; omega) (fun b e => (hown.base b e).1)
          exact (hb.drew.alloc (by simp; omega) _)
        go_wp2_with fail
        go_roundw
        case rel => exact ⟨k + 1, by omega, by go_num, by rw [HTS.out, hexL_snoc]; exact ho10, hbX⟩
        case measure => simp [intOf]; omega
    · have hlt' : ¬ (k : Int) < (l.length : Int) := by omega
      obtain rfl : k = l.length := by omega
      rw [List.take_length] at hown
      have hconv := bt.toString (w := wr) (S := 9) Tryd.underlying9 hown.rd
      go_wp2_with fail
      go_ret
      exact ⟨rfl, hb⟩

/-- What a digit of 16, great or small, says. -/
def refD (c : UInt8) : Int := if 48 ≤ c.toNat ∧ c.toNat ≤ 57 then (c.toNat : Int) - 48 else if 97 ≤ c.toNat ∧ c.toNat ≤ 102 then (c.toNat : Int) - 97 + 10 else if 65 ≤ c.toNat ∧ c.toNat ≤ 70 then (c.toNat : Int) - 65 + 10 else -1
def refDE (c : UInt8) : Ending := .returned (.int .i64 (refD c))

theorem refDigit_any (c : UInt8) (w : World) : Calls Tryd.prog 40 #[.int .u8 (c.toNat : Int)] w fun e w' => e = refDE c ∧ w' = w := by
  have hc := c.toNat_lt
  have key : (∃ v : Int, refDE c = .returned (.int .i64 v) ∧ (((48 : Int) ≤ (c.toNat : Int) ∧ (c.toNat : Int) ≤ 57 ∧ v = (c.toNat : Int) - 48) ∨ ((97 : Int) ≤ (c.toNat : Int) ∧ (c.toNat : Int) ≤ 102 ∧ v = (c.toNat : Int) - 97 + 10) ∨
      ((65 : Int) ≤ (c.toNat : Int) ∧ (c.toNat : Int) ≤ 70 ∧ v = (c.toNat : Int) - 65 + 10) ∨ (((c.toNat : Int) < 48 ∨ (57 < (c.toNat : Int) ∧ (c.toNat : Int) < 65) ∨ (70 < (c.toNat : Int) ∧ (c.toNat : Int) < 97) ∨ 102 < (c.toNat : Int)) ∧ v = -1))) := by
    refine ⟨refD c, rfl, ?_⟩
    unfold refD
    split
    · omega
    · split
      · omega
      · split <;> omega
  obtain ⟨v, hv, hcase⟩ := key
  have HV := Lib.hid hv
  clear hv
  rcases hcase with ⟨h1, h2, rfl⟩ | ⟨h1, h2, rfl⟩ | ⟨h1, h2, rfl⟩ | ⟨h, rfl⟩
  · go_enter Tryd.func40, Tryd.ntmps40
    go_wp2
    go_ret
    exact ⟨HV.out.symm, rfl⟩
  · have h3 : (48 : Int) ≤ (c.toNat : Int) := by omega
    have h4 : ¬ (c.toNat : Int) ≤ 57 := by omega
    go_enter Tryd.func40, Tryd.ntmps40
    go_wp2
    go_ret
    exact ⟨HV.out.symm, rfl⟩
  · have h3 : (48 : Int) ≤ (c.toNat : Int) := by omega
    have h4 : ¬ (c.toNat : Int) ≤ 57 := by omega
    have h5 : ¬ (97 : Int) ≤ (c.toNat : Int) := by omega
    go_enter Tryd.func40, Tryd.ntmps40
    go_wp2
    go_ret
    exact ⟨HV.out.symm, rfl⟩
  · rcases h with h | ⟨h1, h2⟩ | ⟨h1, h2⟩ | h
    · have h4 : ¬ (48 : Int) ≤ (c.toNat : Int) := by omega
      have h5 : ¬ (97 : Int) ≤ (c.toNat : Int) := by omega
      have h6 : ¬ (65 : Int) ≤ (c.toNat : Int) := by omega
      go_enter Tryd.func40, Tryd.ntmps40
      go_wp2
      go_ret
      exact ⟨HV.out.symm, rfl⟩
    · have h3 : (48 : Int) ≤ (c.toNat : Int) := by omega
      have h4 : ¬ (c.toNat : Int) ≤ 57 := by omega
      have h5 : ¬ (97 : Int) ≤ (c.toNat : Int) := by omega
      have h6 : ¬ (65 : Int) ≤ (c.toNat : Int) := by omega
      go_enter Tryd.func40, Tryd.ntmps40
      go_wp2
      go_ret
      exact ⟨HV.out.symm, rfl⟩
    · have h3 : (48 : Int) ≤ (c.toNat : Int) := by omega
      have h4 : ¬ (c.toNat : Int) ≤ 57 := by omega
      have h5 : ¬ (97 : Int) ≤ (c.toNat : Int) := by omega
      have h6 : (65 : Int) ≤ (c.toNat : Int) := by omega
      have h7 : ¬ (c.toNat : Int) ≤ 70 := by omega
      go_enter Tryd.func40, Tryd.ntmps40
      go_wp2
      go_ret
      exact ⟨HV.out.symm, rfl⟩
    · have h3 : (48 : Int) ≤ (c.toNat : Int) := by omega
      have h4 : ¬ (c.toNat : Int) ≤ 57 := by omega
      have h5 : (97 : Int) ≤ (c.toNat : Int) := by omega
      have h5' : ¬ (c.toNat : Int) ≤ 102 := by omega
      have h6 : (65 : Int) ≤ (c.toNat : Int) := by omega
      have h7 : ¬ (c.toNat : Int) ≤ 70 := by omega
      go_enter Tryd.func40, Tryd.ntmps40
      go_wp2
      go_ret
      exact ⟨HV.out.symm, rfl⟩
theorem refDigit_ret (c : UInt8) (w : World) : Calls Tryd.prog 40 #[.int .u8 (c.toNat : Int)] w fun e w' => e = .returned (.int .i64 (refD c)) ∧ w' = w := refDigit_any c w
end Go.Proofs.YtonkfekjhbfelaaDoor
