/- hbllaw11's operations: how they lie; few; put. -/
import Derived.Test.YtdlacjdddjebgaaV11StayM
namespace Go.Proofs.Ytdlacjdddjebgaa
open Go.RowKit

/-- An operation: its kind, its time, three texts. -/
structure Op11 where
  kind : Int
  at1 : Int
  key : List UInt8
  v : List UInt8
  hi : List UInt8
instance inhOp11 : Inhabited Op11 := ⟨⟨0, 0, [], [], []⟩⟩
def Op11.ok (o : Op11) : Prop := (-9223372036854775808 ≤ o.kind ∧ o.kind ≤ 9223372036854775807) ∧ (-9223372036854775808 ≤ o.at1 ∧ o.at1 ≤ 9223372036854775807) ∧ o.key.length ≤ 9223372036854775807 ∧ o.v.length ≤ 9223372036854775807 ∧ o.hi.length ≤ 9223372036854775807
def cells11 (o : Op11) : List Value := [.int .i64 o.kind, .int .i64 o.at1, str o.key, str o.v, str o.hi]
abbrev enc11 (o : Op11) : Value := .agg #[.int .i64 o.kind, .int .i64 o.at1, str o.key, str o.v, str o.hi]
def Rd11 (w : World) (v : Value) (l : List Op11) : Prop := RdF 5 w v (l.map cells11)
theorem Rd11.up {w w' : World} {v : Value} {l : List Op11} (h : Rd11 w v l) (hb : Below w.heap.size w w') : Rd11 w' v l := RdF.below h hb (Nat.le_refl _)
theorem Rd11.form {w : World} {v : Value} {l : List Op11} (h : Rd11 w v l) : ∃ a cap, v = .slice a l.length cap ∧ l.length ≤ 9223372036854775807 := by
  obtain ⟨a, cap, hv, h1, _⟩ := h
  rw [List.length_map] at hv h1
  exact ⟨a, cap, hv, h1⟩
theorem Rd11.get {w : World} {a : Option Addr} {n cap : Nat} {l : List Op11} (h : Rd11 w (.slice a n cap) l) {i : Nat} (hi : i < l.length) : ∃ b off, a = some ⟨b, off, none⟩ ∧ w.cell? ⟨b, off + i * 5, none⟩ = some (.int .i64 l[i].kind) ∧ w.cell? ⟨b, off + i * 5 + 1, none⟩ = some (.int .i64 l[i].at1) ∧ w.cell? ⟨b, off + i * 5 + 2, none⟩ = some (str l[i].key) ∧ w.cell? ⟨b, off + i * 5 + 3, none⟩ = some (str l[i].v) ∧ w.cell? ⟨b, off + i * 5 + 4, none⟩ = some (str l[i].hi) := by
  obtain ⟨a', c', he, _, _, _, h4⟩ := h
  simp only [Value.slice.injEq] at he
  obtain ⟨rfl, _, rfl⟩ := he
  obtain ⟨b, off, ha, hc⟩ := h4 (by intro e; rw [List.map_eq_nil_iff] at e; rw [e] at hi; simp at hi)
  have hi' : i < (l.map cells11).length := by simpa using hi
  exact ⟨b, off, ha, hc i hi' 0 _ (by simp [cells11]), hc i hi' 1 _ (by simp [cells11]), hc i hi' 2 _ (by simp [cells11]), hc i hi' 3 _ (by simp [cells11]), hc i hi' 4 _ (by simp [cells11])⟩
/-- What few tells. -/
def FewP11 (l : List Op11) (w : World) (e : Ending) (w' : World) : Prop := ∃ b : Bool, e = .returned (.bool b) ∧ (b = true → l.length ≤ 300) ∧ w = w'
set_option maxHeartbeats 4000000 in
theorem few11_any (v : Value) (l : List Op11) (w : World) (hv : Rd11 w v l) (hs : ∀ o ∈ l, o.ok) : Calls Try.prog 10 #[v] w (FewP11 l w) := by
  obtain ⟨av, cv, rfl, hl⟩ := hv.form
  have HV := Lib.hid hv
  have HS := Lib.hid hs
  clear hv hs
  go_enter Try.func10, Try.ntmps10
  go_wp2_with fail
  go_loopw [3] (fun i wr => ∃ k : Nat, k ≤ l.length ∧ k ≤ 300 ∧ i = .int .i64 (k : Int) ∧ wr = w) (fun i _ => l.length - (intOf i).toNat)
  case atStart => exact ⟨0, Nat.zero_le _, by omega, rfl, rfl⟩
  case round =>
    obtain ⟨k, hk, hk3, rfl, rfl⟩ := hrel
    by_cases hlt : k < l.length
    · have g3 : (k : Int) < (l.length : Int) := by omega
      have g3' : decide ((k : Int) < (l.length : Int)) = true := decide_eq_true g3
      have g4 : (0 : Int) ≤ (k : Int) := by omega
      by_cases h300 : k < 300
      · have g5 : decide ((k : Int) < 300) = true := decide_eq_true (by omega)
        obtain ⟨bA, oA, rfl, _, _, c2, c3, c4⟩ := HV.out.get hlt
        obtain ⟨_, _, z2, z3, z4⟩ := HS.out _ (List.getElem_mem hlt)
        obtain ⟨o, ho⟩ : ∃ o, o = l[k] := ⟨_, rfl⟩
        rw [← ho] at c2 c3 c4 z2 z3 z4
        obtain ⟨ok, oa, ky, ov, oh⟩ := o
        dsimp only at c2 c3 c4 z2 z3 z4
        clear ho HV HS
        by_cases q2 : (1000 : Int) < (ky.length : Int)
        · have d2 : decide ((1000 : Int) < (ky.length : Int)) = true := decide_eq_true q2
          go_wp2_with fail
          go_ret
          exact ⟨_, rfl, fun h => (by cases h), rfl⟩
        have d2 : decide ((1000 : Int) < (ky.length : Int)) = false := decide_eq_false q2
        by_cases q3 : (1000 : Int) < (ov.length : Int)
        · have d3 : decide ((1000 : Int) < (ov.length : Int)) = true := decide_eq_true q3
          go_wp2_with fail
          go_ret
          exact ⟨_, rfl, fun h => (by cases h), rfl⟩
        have d3 : decide ((1000 : Int) < (ov.length : Int)) = false := decide_eq_false q3
        by_cases q4 : (1000 : Int) < (oh.length : Int)
        · have d4 : decide ((1000 : Int) < (oh.length : Int)) = true := decide_eq_true q4
          go_wp2_with fail
          go_ret
          exact ⟨_, rfl, fun h => (by cases h), rfl⟩
        have d4 : decide ((1000 : Int) < (oh.length : Int)) = false := decide_eq_false q4
        go_wp2_with fail
        go_roundw
        case rel => exact ⟨k + 1, by omega, by omega, by go_num, trivial⟩
        case measure => simp [intOf]; omega
      · have g5 : decide ((k : Int) < 300) = false := decide_eq_false (by omega)
        have g6 : decide ((l.length : Int) ≤ 300) = false := decide_eq_false (by omega)
        go_wp2_with fail
        go_ret
        exact ⟨_, rfl, fun h => (by cases h), rfl⟩
    · obtain rfl : k = l.length := by omega
      have g3 : decide ((l.length : Int) < (l.length : Int)) = false := decide_eq_false (by omega)
      have g6 : decide ((l.length : Int) ≤ 300) = true := decide_eq_true (by omega)
      go_wp2_with fail
      go_ret
      exact ⟨_, rfl, fun _ => hk3, rfl⟩
end Go.Proofs.Ytdlacjdddjebgaa
