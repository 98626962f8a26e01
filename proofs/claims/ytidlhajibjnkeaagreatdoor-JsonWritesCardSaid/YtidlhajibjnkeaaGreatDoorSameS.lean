/- Two lists held against one another, of string. -/
import Derived.Test.YtidlhajibjnkeaaGreatDoorRdV
import Derived.Test.YtidlhajibjnkeaaGreatDoorRows
import Derived.Deep.QuietTactic
import Derived.BigQuiet
namespace Go.Proofs.YtidlhajibjnkeaaGreatDoor
open Go.RowKit

set_option maxHeartbeats 2000000 in
theorem sameS_any (a b : Value) (la lb : List (List UInt8)) (w : World) (ha : RdV w a (la.map str)) (hb : RdV w b (lb.map str)) :
    Calls Tryz.prog 23 #[a, b] w fun e w' => e = .returned (.bool (decide (la = lb))) ∧ ∃ n, w' = w.drewN n := by
  obtain ⟨aa, ca, rfl, ha1, ha2⟩ := ha
  obtain ⟨ab, cb, rfl, hb1, hb2⟩ := hb
  simp only [List.length_map] at ha1 hb1 ⊢
  obtain ⟨R, hR⟩ : ∃ R, R = decide (la = lb) := ⟨_, rfl⟩
  rw [← hR]
  have HR := Lib.hid hR
  clear hR
  by_cases hlen : la.length = lb.length
  · rw [← hlen] at hb1 ⊢
    have HA := Lib.hid ha2
    have HB := Lib.hid hb2
    have HL := Lib.hid hlen
    clear ha2 hb2 hlen hb1
    go_enter Tryz.func23, Tryz.ntmps23
    go_wp2_with fail
    go_loopw [5] (fun i wr => ∃ k n : Nat, k ≤ la.length ∧ i = .int .i64 (k : Int) ∧ Hid (la.take k = lb.take k) ∧ wr = w.drewN n) (fun i _ => la.length - (intOf i).toNat)
    case atStart => exact ⟨0, 0, Nat.zero_le _, rfl, Lib.hid (by simp), rfl⟩
    case round =>
      obtain ⟨k, n, hk, rfl, HE, rfl⟩ := hrel
      by_cases hlt : k < la.length
      · have g1 : (k : Int) < (la.length : Int) := by omega
        have g2 : (0 : Int) ≤ (k : Int) := by omega
        obtain ⟨bA, oA, rfl, hA⟩ := HA.out (by intro e; simp at e; rw [e] at hlt; simp at hlt)
        obtain ⟨bB, oB, rfl, hB⟩ := HB.out (by intro e; simp at e; have := HL.out; rw [e] at this; simp at this; rw [this] at hlt; simp at hlt)
        obtain ⟨x, hx⟩ : ∃ x, x = la[k] := ⟨_, rfl⟩
        obtain ⟨y, hy⟩ : ∃ y, y = lb[k]'(by have := HL.out; omega) := ⟨_, rfl⟩
        have c1 := hA k (by simp; exact hlt)
        have c2 := hB k (by simp; have := HL.out; omega)
        simp only [List.getElem_map] at c1 c2
        rw [← hx] at c1
        rw [← hy] at c2
        have HX := Lib.hid hx
        have HY := Lib.hid hy
        clear hA hB hx hy
        by_cases hxy : x = y
        · subst hxy
          have t1 : (x == x) = true := by simp
          go_wp2_with fail
          go_quiet (fail)
          go_wp2_with fail
          go_roundw
          case rel =>
            refine ⟨k + 1, n + nq, by omega, by go_num, Lib.hid ?_, rfl⟩
            rw [List.take_add_one, List.take_add_one, HE.out, List.getElem?_eq_getElem hlt, List.getElem?_eq_getElem (by have := HL.out; omega), ← HX.out, ← HY.out]
          case measure => simp [intOf]; omega
        · have t1 : (x == y) = false := by simpa using hxy
          have t2 : decide (x = y) = false := by simpa using hxy
          go_wp2_with fail
          go_quiet (fail)
          go_wp2_with fail
          go_ret
          refine ⟨?_, n + nq, by first | rfl | simp | (unfold World.drewN; simp [Nat.add_assoc])⟩
          have e : R = false := by
            rw [HR.out]
            simp only [decide_eq_false_iff_not]
            intro e
            apply hxy
            rw [HX.out, HY.out]
            simp [e]
          rw [e]; rfl
      · obtain rfl : k = la.length := by omega
        have g1 : ¬ (la.length : Int) < (la.length : Int) := by omega
        have e : true = R := by
          have := HE.out
          rw [List.take_length, HL.out, List.take_length] at this
          rw [HR.out, this]; simp
        subst e
        go_wp2_with fail
        go_ret
        exact ⟨rfl, n, rfl⟩
  · have e : false = R := by
      rw [HR.out]; symm; simp only [decide_eq_false_iff_not]
      intro e; rw [e] at hlen; exact hlen rfl
    subst e
    have g : ((la.length : Int) == (lb.length : Int)) = false := by simp; omega
    have g' : ¬ ((la.length : Int) = (lb.length : Int)) := by omega
    clear hlen HR ha2 hb2
    go_enter Tryz.func23, Tryz.ntmps23
    go_wp2_with fail
    go_ret
    exact ⟨rfl, 0, rfl⟩
end Go.Proofs.YtidlhajibjnkeaaGreatDoor
