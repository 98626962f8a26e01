/- Layer 5: the document's two, place. -/
import Derived.Test.YtnaafdennieedaaRDig
namespace Go.Proofs.Ytnaafdennieedaa
open Go.RowKit

theorem rtwo_any (n : Nat) (z : Int) (w : World) (hz : z = (n : Int)) (hn : n ≤ 9999) : Calls Try.prog 43 #[.int .i64 z] w fun e w' => e = .returned (str (digL n 2)) ∧ Below w.heap.size w w' := by
  subst hz
  have b0 : (0 : Int) ≤ (n : Int) := by omega
  have b1 : (n : Int) ≤ 9999 := by omega
  have hconv : (convert 31 9 (.slice (some ⟨w.heap.size, 0, none⟩) 2 2)).run Try.prog (w.alloc (.cells #[.int .u8 (48 + (n : Int) / 10 % 10), .int .u8 (48 + (n : Int) % 10)] 5)) =
      .ok (str (digL n 2)) (w.alloc (.cells #[.int .u8 (48 + (n : Int) / 10 % 10), .int .u8 (48 + (n : Int) % 10)] 5)) := by
    have e : #[.int .u8 (48 + (n : Int) / 10 % 10), .int .u8 (48 + (n : Int) % 10)] = ((digL n 2).map bv).toArray := by
      rw [digL_succ, digL_succ]
      show _ = ([db n 1, db n 0].map bv).toArray
      simp only [List.map_cons, List.map_nil]
      unfold bv
      rw [db_toNat, db_toNat, Nat.pow_one, Nat.pow_zero, Nat.div_one]
      push_cast
      rfl
    have hl : (digL n 2).length = 2 := digL_length _ _
    rw [e]
    have := bt.toString (S := 9) Try.underlying9 (Rd.row 5 w (digL n 2) (by omega))
    rw [hl] at this
    exact this
  go_enter Try.func43, Try.ntmps43
  go_wp2_with fail
  go_ret
  exact ⟨rfl, below_alloc _ _⟩

/-- A row of texts in a block. -/
def SB (w : World) (b : Nat) (l : List (List UInt8)) : Prop := ∀ i (h : i < l.length), w.cell? ⟨b, i, none⟩ = some (str l[i])
/-- The place of a text in a row; -1: it is not there. -/
def plF (s : List UInt8) : List (List UInt8) → Int → Int
  | [], _ => -1
  | x :: t, i => if x = s then i else plF s t (i + 1)
set_option maxHeartbeats 800000 in
theorem rplace_any (b : Nat) (l : List (List UInt8)) (s : List UInt8) (w : World) (c : Nat) (h : SB w b l) (hl : l.length ≤ 1000) :
    Calls Try.prog 29 #[.slice (some ⟨b, 0, none⟩) l.length c, str s] w fun e w' => e = .returned (.int .i64 (plF s l 0)) ∧ w' = w := by
  obtain ⟨R, hR⟩ : ∃ R, R = plF s l 0 := ⟨_, rfl⟩
  rw [← hR]
  have HR := Lib.hid hR
  have HB := Lib.hid h
  clear hR h
  go_enter Try.func29, Try.ntmps29
  go_wp2_with fail
  go_loop [5] (fun i => ∃ k : Nat, k ≤ l.length ∧ i = .int .i64 (k : Int) ∧ Hid (plF s (l.drop k) (k : Int) = R)) (fun i => l.length - (intOf i).toNat)
  case atStart => exact ⟨0, Nat.zero_le _, rfl, Lib.hid HR.out.symm⟩
  case round =>
    obtain ⟨k, hk, rfl, HE⟩ := hrel
    by_cases hlt : k < l.length
    · have g1 : (k : Int) < (l.length : Int) := by omega
      have g2 : (0 : Int) ≤ (k : Int) := by omega
      obtain ⟨x, hx⟩ : ∃ x, x = l[k] := ⟨_, rfl⟩
      have hc := HB.out k hlt
      rw [← hx] at hc
      have e := HE.out
      rw [List.drop_eq_getElem_cons hlt, ← hx] at e
      unfold plF at e
      clear hx
      by_cases hs : x = s
      · rw [if_pos hs] at e
        subst e
        have t1 : (x == s) = true := by rw [hs]; simp
        clear hs
        go_wp2_with fail
        go_ret
        exact ⟨rfl, rfl⟩
      · rw [if_neg hs] at e
        have t1 : (x == s) = false := by simpa using hs
        have HE2 := Lib.hid e
        clear hs e
        go_wp2_with fail
        go_round
        case rel => exact ⟨k + 1, by omega, by go_num, Lib.hid (by rw [← HE2.out]; rfl)⟩
        case measure => simp [intOf]; omega
    · obtain rfl : k = l.length := by omega
      have e := HE.out
      rw [List.drop_length] at e
      have e' : (-1 : Int) = R := e
      subst e'
      clear e
      have g1 : ¬ (l.length : Int) < (l.length : Int) := by omega
      go_wp2_with fail
      go_ret
      exact ⟨rfl, rfl⟩
end Go.Proofs.Ytnaafdennieedaa
