/- hbllaw21.few; hblref.Pairs. -/
import Derived.Test.YteibiaplmmdppaaRdV
import Derived.Test.YteibiaplmmdppaaMrgMath
import Derived.Test.YteibiaplmmdppaaRowsF
import Derived.Test.YteibiaplmmdppaaKit
import Derived.Deep.QuietTactic
import Derived.BigQuiet
namespace Go.Proofs.Yteibiaplmmdppaa
open Go.RowKit

set_option maxHeartbeats 4000000 in
/-- Two lists of pairs that read alike. -/
theorem samepairs_any (va vb : Value) (L : List PairT) (w : World) (ha : RdP w va L) (hb : RdP w vb L) :
    Calls Try.prog 21 #[va, vb] w fun e w' => e = .returned (.bool true) ∧ Below w.heap.size w w' := by
  obtain ⟨aa, ca, rfl, hl⟩ := ha.form
  obtain ⟨ab, cb, rfl, _⟩ := hb.form
  have HA := Lib.hid ha
  have HB := Lib.hid hb
  clear ha hb
  go_enter Try.func21, Try.ntmps21
  go_wp2_with fail
  go_loopw [5] (fun i wr => ∃ (k q : Nat), k ≤ L.length ∧ i = .int .i64 (k : Int) ∧ wr = w.drewN q) (fun i _ => L.length - (intOf i).toNat)
  case atStart => exact ⟨0, 0, Nat.zero_le _, rfl, rfl⟩
  case round =>
    obtain ⟨k, q, hk, rfl, rfl⟩ := hrel
    by_cases hlt : k < L.length
    · have g3 : (k : Int) < (L.length : Int) := by omega
      have g4 : (0 : Int) ≤ (k : Int) := by omega
      obtain ⟨bA, oA, rfl, c0, c1⟩ := HA.out.get hlt
      obtain ⟨bB, oB, rfl, e0, e1⟩ := HB.out.get hlt
      obtain ⟨⟨ck, cv⟩, hc⟩ : ∃ c, c = L[k] := ⟨_, rfl⟩
      rw [← hc] at c0 c1 e0 e1
      dsimp only at c0 c1 e0 e1
      have n1 : (ck != ck) = false := bne_self_eq_false _
      have n2 : (cv != cv) = false := bne_self_eq_false _
      clear hc HA HB
      go_wp2_with fail
      go_quiet (fail)
      go_wp2_with fail
      go_roundw
      case rel => exact ⟨k + 1, _, by omega, by go_num, rfl⟩
      case measure => simp [intOf]; omega
    · obtain rfl : k = L.length := by omega
      have g3 : ¬ (L.length : Int) < (L.length : Int) := by omega
      go_wp2_with fail
      go_ret
      exact ⟨rfl, Below.drewsN (Below.refl _ w) q⟩
/-- What few tells. -/
def FewP (l : List PairT) (w : World) (e : Ending) (w' : World) : Prop := ∃ b : Bool, e = .returned (.bool b) ∧ (b = true → l.length ≤ 200) ∧ Below w.heap.size w w'
set_option maxHeartbeats 8000000 in
theorem few_any (v : Value) (L : List PairT) (w : World) (hv : RdP w v L) (hs : ∀ p ∈ L, p.1.length ≤ 9223372036854775807 ∧ p.2.length ≤ 9223372036854775807) : Calls Try.prog 9 #[v] w (FewP L w) := by
  obtain ⟨av, cv, rfl, hl⟩ := hv.form
  have HV := Lib.hid hv
  have HS := Lib.hid hs
  clear hv hs
  go_enter Try.func9, Try.ntmps9
  go_wp2_with fail
  go_loopw [3, 4] (fun n i wr => ∃ (k q N : Nat), k ≤ L.length ∧ k ≤ 200 ∧ N ≤ 20000 ∧ i = .int .i64 (k : Int) ∧ n = .int .i64 (N : Int) ∧ wr = w.drewN q) (fun _ i _ => L.length - (intOf i).toNat)
  case atStart => exact ⟨0, 0, 0, Nat.zero_le _, by omega, by omega, rfl, rfl, rfl⟩
  case round =>
    obtain ⟨k, q, N, hk, hk2, hN, rfl, rfl, rfl⟩ := hrel
    by_cases hlt : k < L.length
    · have g3 : (k : Int) < (L.length : Int) := by omega
      have g4 : (0 : Int) ≤ (k : Int) := by omega
      by_cases h200 : k < 200
      · have g5 : (k : Int) < 200 := by omega
        obtain ⟨bA, oA, rfl, c0, c1⟩ := HV.out.get hlt
        obtain ⟨hs1, hs2⟩ := HS.out _ (List.getElem_mem hlt)
        obtain ⟨⟨ck, cv⟩, hc⟩ : ∃ c, c = L[k] := ⟨_, rfl⟩
        rw [← hc] at c0 c1 hs1 hs2
        dsimp only at c0 c1 hs1 hs2
        clear hc HV HS
        go_wp2_with fail
        have m1 : (¬ (20001 : Int) < (ck.length : Int)) ∨ (20001 : Int) < (ck.length : Int) := by omega
        have m2 : (¬ (20001 : Int) < (cv.length : Int)) ∨ (20001 : Int) < (cv.length : Int) := by omega
        rcases m1 with d1 | d1
        · rcases m2 with d2 | d2
          · go_quiet (fail)
            by_cases g20 : N + ck.length + cv.length ≤ 20000
            · have g7 : ¬ (20000 : Int) < (N : Int) + (ck.length : Int) + (cv.length : Int) := by omega
              go_wp2_with fail
              go_roundw
              case rel => exact ⟨k + 1, _, N + ck.length + cv.length, by omega, by omega, by omega, by go_num, by simp, rfl⟩
              case measure => simp [intOf]; omega
            · have g7 : (20000 : Int) < (N : Int) + (ck.length : Int) + (cv.length : Int) := by omega
              go_wp2_with fail
              go_ret
              exact ⟨_, rfl, fun h => (by cases h), Below.drewsN (Below.refl _ w) _⟩
          · go_quiet (fail)
            have g7 : (20000 : Int) < (N : Int) + (ck.length : Int) + 20001 := by omega
            go_wp2_with fail
            go_ret
            exact ⟨_, rfl, fun h => (by cases h), Below.drewsN (Below.refl _ w) _⟩
        · rcases m2 with d2 | d2
          · go_quiet (fail)
            have g7 : (20000 : Int) < (N : Int) + 20001 + (cv.length : Int) := by omega
            go_wp2_with fail
            go_ret
            exact ⟨_, rfl, fun h => (by cases h), Below.drewsN (Below.refl _ w) _⟩
          · go_quiet (fail)
            have g7 : (20000 : Int) < (N : Int) + 20001 + 20001 := by omega
            go_wp2_with fail
            go_ret
            exact ⟨_, rfl, fun h => (by cases h), Below.drewsN (Below.refl _ w) _⟩
      · have g5 : ¬ (k : Int) < 200 := by omega
        have g6 : decide ((k : Int) < 200) = false := by simp; omega
        go_wp2_with fail
        go_ret
        exact ⟨_, rfl, fun h => by simp at h; omega, Below.drewsN (Below.refl _ w) q⟩
    · obtain rfl : k = L.length := by omega
      have g3 : ¬ (L.length : Int) < (L.length : Int) := by omega
      have g6 : decide ((L.length : Int) < (L.length : Int)) = false := by simp
      have g7 : (L.length : Int) ≤ 200 := by omega
      go_wp2_with fail
      go_ret
      exact ⟨_, rfl, fun _ => by omega, Below.drewsN (Below.refl _ w) q⟩
end Go.Proofs.Yteibiaplmmdppaa
