/- num.Hex, num.Unhex, num.digit by their contracts. -/
import Derived.Test.YtaelkgebnaeimaaDoorFirst
import Derived.Deep.RegionHeld3
import Derived.Deep.QuietTactic
import Derived.BigQuiet
namespace Go.Proofs.YtaelkgebnaeimaaDoor
open Go.RowKit

/-- Two new bytes in a block of their own. -/
theorem Rd.two (E : TypeId) (w : World) (c d : UInt8) (x y : Value) (b : Nat) (hx : x = bv c) (hy : y = bv d) (hb : b = w.heap.size) : Rd (w.alloc (.cells #[x, y] E)) (.slice (some ⟨b, 0, none⟩) 2 2) [c, d] := by
  subst hb hx hy
  refine ⟨_, 2, rfl, by simp, by decide, (fun h => by cases h), fun _ => ⟨w.heap.size, 0, rfl, fun i hi => ?_⟩⟩
  simp at hi
  rcases (show i = 0 ∨ i = 1 by omega) with rfl | rfl <;> simp

/-- What a small digit of 16 says, -1 if it is none. -/
def hexD (c : UInt8) : Int := if 48 ≤ c.toNat ∧ c.toNat ≤ 57 then (c.toNat : Int) - 48 else if 97 ≤ c.toNat ∧ c.toNat ≤ 102 then (c.toNat : Int) - 97 + 10 else -1
def hexDE (c : UInt8) : Ending := .returned (.int .i64 (hexD c))

theorem digit_any (c : UInt8) (w : World) : Calls Tryd.prog 17 #[.int .u8 (c.toNat : Int)] w fun e w' => e = hexDE c ∧ w' = w := by
  have hc := c.toNat_lt
  by_cases h1 : 48 ≤ c.toNat ∧ c.toNat ≤ 57
  · have e : hexDE c = .returned (.int .i64 ((c.toNat : Int) - 48)) := by unfold hexDE hexD; rw [if_pos h1]
    have H := Lib.hid e
    obtain ⟨h1, h2⟩ := h1
    have h1' : (48 : Int) ≤ (c.toNat : Int) := by omega
    have h2' : (c.toNat : Int) ≤ 57 := by omega
    clear e
    go_enter Tryd.func17, Tryd.ntmps17
    go_wp2
    go_ret
    exact ⟨H.out.symm, rfl⟩
  · by_cases h3 : 97 ≤ c.toNat ∧ c.toNat ≤ 102
    · have e : hexDE c = .returned (.int .i64 ((c.toNat : Int) - 97 + 10)) := by unfold hexDE hexD; rw [if_neg h1, if_pos h3]
      have H := Lib.hid e
      obtain ⟨h1, h2⟩ := h3
      have h0' : (48 : Int) ≤ (c.toNat : Int) := by omega
      have h0'' : ¬ (c.toNat : Int) ≤ 57 := by omega
      have h1' : (97 : Int) ≤ (c.toNat : Int) := by omega
      have h2' : (c.toNat : Int) ≤ 102 := by omega
      clear e
      go_enter Tryd.func17, Tryd.ntmps17
      go_wp2
      go_ret
      exact ⟨H.out.symm, rfl⟩
    · have e : hexDE c = .returned (.int .i64 (-1)) := by unfold hexDE hexD; rw [if_neg h1, if_neg h3]
      have H := Lib.hid e
      clear e
      by_cases a1 : (48 : Int) ≤ (c.toNat : Int)
      · have a2 : ¬ (c.toNat : Int) ≤ 57 := by omega
        by_cases a3 : (97 : Int) ≤ (c.toNat : Int)
        · have a4 : ¬ (c.toNat : Int) ≤ 102 := by omega
          clear h1 h3
          go_enter Tryd.func17, Tryd.ntmps17
          go_wp2
          go_ret
          exact ⟨H.out.symm, rfl⟩
        · clear h1 h3
          go_enter Tryd.func17, Tryd.ntmps17
          go_wp2
          go_ret
          exact ⟨H.out.symm, rfl⟩
      · have a3 : ¬ (97 : Int) ≤ (c.toNat : Int) := by omega
        clear h1 h3
        go_enter Tryd.func17, Tryd.ntmps17
        go_wp2
        go_ret
        exact ⟨H.out.symm, rfl⟩

/-- A byte told in two digits of 16. -/
def hexSigns : List UInt8 := [48, 49, 50, 51, 52, 53, 54, 55, 56, 57, 97, 98, 99, 100, 101, 102]
def hexS (n : Nat) : UInt8 := hexSigns.getD n 0
def hexL (l : List UInt8) : List UInt8 := l.flatMap fun c => [hexS (c.toNat / 16), hexS (c.toNat % 16)]
theorem hexL_nil : hexL [] = [] := rfl
theorem hexL_snoc (l : List UInt8) (c : UInt8) : hexL (l ++ [c]) = hexL l ++ [hexS (c.toNat / 16), hexS (c.toNat % 16)] := by simp [hexL]
theorem hexL_length (l : List UInt8) : (hexL l).length = 2 * l.length := by
  induction l with
  | nil => rfl
  | cons c t ih => simp only [hexL, List.flatMap_cons, List.length_append, List.length_cons] at ih ⊢; simp only [List.length_nil]; omega
theorem and15 (c : UInt8) : bits .and .u8 (c.toNat : Int) 15 = ((c.toNat % 16 : Nat) : Int) := by
  rw [show (15 : Int) = ((15 : Nat) : Int) from rfl, u8_and_nat _ _ (by have := c.toNat_lt; omega) (by omega), nat_mask4]

theorem hex_all : ∀ m : Fin 16, ((ByteArray.mk #[48, 49, 50, 51, 52, 53, 54, 55, 56, 57, 97, 98, 99, 100, 101, 102])[m.val]'(by have := m.isLt; exact this)).toNat = (hexS m.val).toNat := by decide
theorem hex_at (n : Nat) (h : n < 16) (i : Nat) (hi : i < (ByteArray.mk #[48, 49, 50, 51, 52, 53, 54, 55, 56, 57, 97, 98, 99, 100, 101, 102]).size) (e : i = n) :
    Value.int .u8 (((ByteArray.mk #[48, 49, 50, 51, 52, 53, 54, 55, 56, 57, 97, 98, 99, 100, 101, 102])[i]'hi).toNat : Int) = bv (hexS n) := by
  subst e
  unfold bv
  rw [← hex_all ⟨i, h⟩]

set_option maxHeartbeats 800000 in
theorem hex_any (x : Value) (l : List UInt8) (w : World) (hx : Rd w x l) (hl : l.length ≤ 70368744177664) :
    Calls Tryd.prog 8 #[x] w fun e w' => e = .returned (str (hexL l)) ∧ Below w.heap.size w w' := by
  obtain ⟨a, cap, rfl, hc1, hc2, hc3, hc4⟩ := hx
  have H4 := Lib.hid hc4
  clear hc4 hc3
  go_enter Tryd.func8, Tryd.ntmps8
  go_wp2_with (at_make; refine hold ?_)
  intro _
  refine bt.make0 rfl _ _ rfl (2 * l.length) _ (by omega) rfl rfl (by omega) ?_
  intro w1 hown1 hg1
  have hb1 : Below w.heap.size w w1 := (Below.refl _ _).grown hg1 (Nat.le_refl _) (by simp)
  go_wp2_with fail
  go_loopw [3, 12] (fun v i wr => ∃ k : Nat, k ≤ l.length ∧ i = .int .i64 k ∧ Own 5 wr w.heap.size v (hexL (l.take k)) ∧ Below w.heap.size w wr)
    (fun _ i _ => l.length - (intOf i).toNat)
  case atStart => exact ⟨0, Nat.zero_le _, rfl, hown1, hb1⟩
  case round =>
    obtain ⟨k, hk, rfl, hown, hb⟩ := hrel
    by_cases hlt : k < l.length
    · have hlt' : (k : Int) < (l.length : Int) := by omega
      obtain ⟨b, off, rfl, hcell⟩ := H4.out (by intro e; subst e; simp at hlt)
      have hc := hcell k hlt
      rw [← hb.cell (p := ⟨b, off + k, none⟩) (World.block_lt_of_cell? w _ hc)] at hc
      obtain ⟨c, hce⟩ : ∃ c, c = l[k] := ⟨_, rfl⟩
      rw [← hce] at hc
      unfold bv at hc
      have hts : l.take (k + 1) = l.take k ++ [c] := by rw [hce]; exact List.take_succ_eq_append_getElem hlt
      have HTS := Lib.hid hts
      have ha := and15 c
      have hc255 := c.toNat_lt
      clear hcell hce hts
      go_wp2_with fail
      have q1 : (0 : Int) ≤ (c.toNat : Int) / 16 := by omega
      have q2 : (c.toNat : Int) / 16 < 16 := by omega
      have q3 : (0 : Int) ≤ (c.toNat : Int) % 16 := by omega
      have q4 : (c.toNat : Int) % 16 < 16 := by omega
      have hsz := hb.size
      have hL := hexL_length (l.take k)
      have hLt : (l.take k).length = k := by simp; omega
      rw [hLt] at hL
      have HL := Lib.hid hL
      clear hL hLt
      go_region_held3 (fun _ => True) (trivial)
        ((first
          | (refine bt.stepAppend (by rfl) _ _ (by rfl) w.heap.size u3 (hexL (l.take k)) [hexS (c.toNat / 16), hexS (c.toNat % 16)] (by rfl) ?_ ?_ ?_ ?_ ?_
             · exact (hown.alloc _)
             · exact Rd.two _ _ _ _ _ _ _ (hex_at _ (by omega) _ _ (by omega)) (hex_at _ (by omega) _ _ (by omega)) (by simp)
             · rw [HL.out]; simp; omega
             · simp; omega
             intro v10 w10 ho10 hg10)
          | fail))
      all_goals
        have hbX : Below w.heap.size w w10 := by
          refine Below.grown ?_ hg10 (by simp; omega) (fun b e => (hown.base b e).1)
          exact (hb.drew.alloc (by simp; omega) _)
        go_wp2_with fail
        go_roundw
        case rel => exact ⟨k + 1, by omega, by go_num, by rw [HTS.out, hexL_snoc]; exact ho10, hbX⟩
        case measure => simp [intOf]; omega
    · have hlt' : ¬ (k : Int) < (l.length : Int) := by omega
      obtain rfl : k = l.length := by omega
      rw [List.take_length] at hown
      have hconv := bt.toString (w := wr) (S := 9) Tryd.underlying9 hown.rd
      go_wp2_with fail
      go_ret
      exact ⟨rfl, hb⟩
end Go.Proofs.YtaelkgebnaeimaaDoor
