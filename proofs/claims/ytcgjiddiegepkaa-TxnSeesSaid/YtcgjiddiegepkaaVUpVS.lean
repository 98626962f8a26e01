import Derived.Test.YtcgjiddiegepkaaRdV
import Derived.Test.YtcgjiddiegepkaaMrgMath
import Derived.Test.YtcgjiddiegepkaaRowsF
import Derived.Test.YtcgjiddiegepkaaKit
import Derived.Test.YtcgjiddiegepkaaRows
import Derived.Deep.QuietTactic
import Derived.BigQuiet
import Derived.IntWalk
/- Versions: how many are not above a time: plain facts. -/
namespace Go.Proofs.Ytcgjiddiegepkaa
open Go.RowKit

/-- How many are not above a time. -/
def upN (l : List Int) (t : Int) : Nat := (l.filter (fun a => decide (a ≤ t))).length
/-- Times rise. -/
def RisT (l : List Int) : Prop := l.Pairwise (fun a b => a < b)
theorem upN_is {l : List Int} {t : Int} {n : Nat} (hn : n ≤ l.length) (h1 : ∀ p (h : p < l.length), p < n → l[p] ≤ t) (h2 : ∀ p (h : p < l.length), n ≤ p → t < l[p]) : upN l t = n := by
  unfold upN
  rw [← List.take_append_drop n l, List.filter_append, List.filter_eq_self.2, List.filter_eq_nil_iff.2]
  · simp; omega
  · intro a ha
    obtain ⟨i, hi, rfl⟩ := List.mem_iff_getElem.1 ha
    rw [List.length_drop] at hi
    rw [List.getElem_drop]
    have := h2 (n + i) (by omega) (by omega)
    simp; omega
  · intro a ha
    obtain ⟨i, hi, rfl⟩ := List.mem_iff_getElem.1 ha
    rw [List.length_take] at hi
    rw [List.getElem_take]
    have := h1 i (by omega) (by omega)
    simpa using this
theorem upN_le (l : List Int) (t : Int) : upN l t ≤ l.length := List.length_filter_le _ _
theorem risT_at {l : List Int} (h : RisT l) {i j : Nat} (hi : i < l.length) (hj : j < l.length) (hij : i < j) : l[i] < l[j] := List.pairwise_iff_getElem.1 h i j hi hj hij
/-- In a rising list they are the first ones. -/
theorem upN_spec : ∀ {l : List Int} (_ : RisT l) (t : Int), (∀ p (h : p < l.length), p < upN l t → l[p] ≤ t) ∧ (∀ p (h : p < l.length), upN l t ≤ p → t < l[p])
  | [], _, t => ⟨fun p h => absurd h (Nat.not_lt_zero _), fun p h => absurd h (Nat.not_lt_zero _)⟩
  | a :: l, hr, t => by
    obtain ⟨r1, r2⟩ := List.pairwise_cons.1 hr
    obtain ⟨i1, i2⟩ := upN_spec (l := l) r2 t
    by_cases ha : a ≤ t
    · have e : upN (a :: l) t = upN l t + 1 := by unfold upN; simp [ha]
      rw [e]
      refine ⟨fun p h hp => ?_, fun p h hp => ?_⟩
      · match p, h with
        | 0, _ => exact ha
        | p + 1, h => exact i1 p (by simpa using h) (by omega)
      · match p, h with
        | 0, _ => omega
        | p + 1, h => exact i2 p (by simpa using h) (by omega)
    · have e0 : upN l t = 0 := by
        unfold upN
        rw [List.length_eq_zero_iff, List.filter_eq_nil_iff]
        intro b hb
        have := r1 b hb
        simp; omega
      have e : upN (a :: l) t = 0 := by unfold upN at e0 ⊢; simp [ha]; simpa using e0
      rw [e]
      refine ⟨fun p h hp => by omega, fun p h hp => ?_⟩
      match p, h with
      | 0, _ => simp; omega
      | p + 1, h => exact i2 p (by simpa using h) (by omega)
end Go.Proofs.Ytcgjiddiegepkaa

/- Versions of string: upTo, seen, dropped. -/
namespace Go.Proofs.Ytcgjiddiegepkaa
open Go.RowKit

/-- A version: its time, its value, whether it is gone. -/
abbrev VerVS := Int × (List UInt8) × Bool
def cellsVS (v : VerVS) : List Value := [.int .i64 v.1, str v.2.1, .bool v.2.2]
abbrev encVS (v : VerVS) : Value := .agg #[.int .i64 v.1, str v.2.1, .bool v.2.2]
theorem cellsVS_len (l : List VerVS) : ∀ r ∈ l.map cellsVS, r.length = 3 := by
  intro r hr; obtain ⟨p, _, rfl⟩ := List.mem_map.1 hr; rfl
theorem infoVS : (Try.prog.info? 90).map (fun i => (i.zero, i.size, i.bytes)) = some (some (.agg #[.int .i64 0, str [], .bool false]), 3, 32) := by kernel_rfl
/-- A slice that reads as versions. -/
def RdVS (w : World) (v : Value) (l : List VerVS) : Prop := RdF 3 w v (l.map cellsVS)
theorem RdVS.up {w w' : World} {v : Value} {l : List VerVS} (h : RdVS w v l) (hb : Below w.heap.size w w') : RdVS w' v l := RdF.below h hb (Nat.le_refl _)
theorem RdVS.form {w : World} {v : Value} {l : List VerVS} (h : RdVS w v l) : ∃ a cap, v = .slice a l.length cap ∧ l.length ≤ 9223372036854775807 := by
  obtain ⟨a, cap, hv, h1, _⟩ := h
  rw [List.length_map] at hv h1
  exact ⟨a, cap, hv, h1⟩
theorem RdVS.get {w : World} {a : Option Addr} {n cap : Nat} {l : List VerVS} (h : RdVS w (.slice a n cap) l) {i : Nat} (hi : i < l.length) : ∃ b off, a = some ⟨b, off, none⟩ ∧ w.cell? ⟨b, off + i * 3, none⟩ = some (.int .i64 l[i].1) ∧ w.cell? ⟨b, off + i * 3 + 1, none⟩ = some (str l[i].2.1) ∧ w.cell? ⟨b, off + i * 3 + 2, none⟩ = some (.bool l[i].2.2) := by
  obtain ⟨a', c', he, _, _, _, h4⟩ := h
  simp only [Value.slice.injEq] at he
  obtain ⟨rfl, _, rfl⟩ := he
  obtain ⟨b, off, ha, hc⟩ := h4 (by intro e; rw [List.map_eq_nil_iff] at e; rw [e] at hi; simp at hi)
  have hi' : i < (l.map cellsVS).length := by simpa using hi
  exact ⟨b, off, ha, hc i hi' 0 _ (by simp [cellsVS]), hc i hi' 1 _ (by simp [cellsVS]), hc i hi' 2 _ (by simp [cellsVS])⟩
/-- The times of versions. -/
def timesVS (l : List VerVS) : List Int := l.map (fun v => v.1)
theorem cloUpVS (v : VerVS) (t : Int) (w : World) : Calls Try.prog 89 #[encVS v, .int .i64 t] w fun e w' => e = .returned (.int .i64 (if v.1 ≤ t then -1 else 1)) ∧ Below w.heap.size w w' := by
  obtain ⟨a, b, c⟩ := v
  have HB := Lib.hid (below_alloc w (.cells #[.int .i64 a, str b, .bool c] 90))
  dsimp only
  by_cases h : a ≤ t
  · rw [if_pos h]
    go_enter Try.func89, Try.ntmps89
    go_wp2_with fail
    go_ret
    exact ⟨rfl, HB.out⟩
  · rw [if_neg h]
    go_enter Try.func89, Try.ntmps89
    go_wp2_with fail
    go_ret
    exact ⟨rfl, HB.out⟩
set_option maxRecDepth 100000 in
set_option maxHeartbeats 2000000 in
theorem bsVS_any (v : Value) (l : List VerVS) (t : Int) (w : World) (hv : RdVS w v l) (hr : RisT (timesVS l)) (hl : l.length ≤ 1000000) :
    Calls Try.prog 88 #[v, .int .i64 t, .func (.func 89) #[] #[]] w fun e w' => e = .returned (.tuple #[.int .i64 (upN (timesVS l) t : Int), .bool false]) ∧ Below w.heap.size w w' := by
  obtain ⟨av, cv, rfl, _⟩ := hv.form
  have HV := Lib.hid hv
  have HR := Lib.hid hr
  have eg : ∀ args w, (callFunc 89 args).run Try.prog w = .ok (.enter 89 args) w := enters_of Try.func89 (by kernel_rfl) rfl
  have CU := Lib.hid (fun W v => cloUpVS v t W)
  clear hv hr
  go_enter Try.func88, Try.ntmps88
  go_wp2_with fail
  go_loopw [9, 10] (fun vi vj wr => ∃ i j : Nat, i ≤ j ∧ j ≤ l.length ∧ vi = .int .i64 (i : Int) ∧ vj = .int .i64 (j : Int) ∧ Hid (Below w.heap.size w wr ∧ (∀ p (h : p < (timesVS l).length), p < i → (timesVS l)[p] ≤ t) ∧ (∀ p (h : p < (timesVS l).length), j ≤ p → t < (timesVS l)[p]))) (fun i j _ => (intOf j).toNat - (intOf i).toNat)
  case atStart => exact ⟨0, l.length, Nat.zero_le _, Nat.le_refl _, rfl, rfl, Lib.hid ⟨Below.refl _ _, fun p _ h => absurd h (Nat.not_lt_zero _), fun p h h2 => by unfold timesVS at h; rw [List.length_map] at h; omega⟩⟩
  case round =>
    obtain ⟨i, j, hij, hj, rfl, rfl, HW⟩ := hrel
    by_cases hlt : i < j
    · obtain ⟨h, hh⟩ : ∃ h : Nat, h = (i + j) / 2 := ⟨_, rfl⟩
      have e2 : ((i : Int) + (j : Int)) / 2 = (h : Int) := by omega
      have hlh : h < l.length := by omega
      have g3 : (i : Int) < (j : Int) := by omega
      have g4 : (h : Int) < (l.length : Int) := by omega
      have g5 : (0 : Int) ≤ (h : Int) := by omega
      have hi1 : i ≤ h := by omega
      have hi2 : h < j := by omega
      obtain ⟨bA, oA, rfl, c0, c1, c2⟩ := HV.out.get hlh
      have HT : Hid (∀ p (q : p < (timesVS l).length), (p ≤ h → (timesVS l)[p] ≤ l[h].1) ∧ (h ≤ p → l[h].1 ≤ (timesVS l)[p])) := Lib.hid (fun p q => by
        have hq : h < (timesVS l).length := by unfold timesVS; simpa using hlh
        have e : (timesVS l)[h] = l[h].1 := by simp [timesVS]
        rw [← e]
        constructor
        · intro hp
          rcases Nat.lt_or_eq_of_le hp with hp | rfl
          · exact Int.le_of_lt (risT_at HR.out q hq hp)
          · exact Int.le_refl _
        · intro hp
          rcases Nat.lt_or_eq_of_le hp with hp | rfl
          · exact Int.le_of_lt (risT_at HR.out hq q hp)
          · exact Int.le_refl _)
      obtain ⟨x, hx⟩ : ∃ x, x = l[h] := ⟨_, rfl⟩
      rw [← hx] at c0 c1 c2 HT
      obtain ⟨a, b, c⟩ := x
      dsimp only at c0 c1 c2 HT
      have hlA := World.block_lt_of_cell? w _ c0
      have d0 : wr.cell? ⟨bA, oA + h * 3, none⟩ = some (.int .i64 a) := (HW.out.1.cell (p := ⟨bA, oA + h * 3, none⟩) hlA).trans c0
      have d1 : wr.cell? ⟨bA, oA + h * 3 + 1, none⟩ = some (str b) := (HW.out.1.cell (p := ⟨bA, oA + h * 3 + 1, none⟩) hlA).trans c1
      have d2 : wr.cell? ⟨bA, oA + h * 3 + 2, none⟩ = some (.bool c) := (HW.out.1.cell (p := ⟨bA, oA + h * 3 + 2, none⟩) hlA).trans c2
      have hc := CU.out wr (a, b, c)
      dsimp only at hc
      by_cases ha : a ≤ t
      · rw [if_pos ha] at hc
        have HC := Lib.hid hc
        have HN : Hid (∀ p (q : p < (timesVS l).length), p < h + 1 → (timesVS l)[p] ≤ t) := Lib.hid (fun p q hp => Int.le_trans ((HT.out p q).1 (by omega)) ha)
        clear hc c0 c1 c2 hx hlA HT HV hh ha
        go_wp2_with fail
        refine HC.out.mono ?_
        rintro e w5 ⟨rfl, hb5⟩
        have HX : Hid (Below w.heap.size w w5 ∧ (∀ p (q : p < (timesVS l).length), p < h + 1 → (timesVS l)[p] ≤ t) ∧ (∀ p (h : p < (timesVS l).length), j ≤ p → t < (timesVS l)[p])) := Lib.hid ⟨HW.out.1.trans (hb5.mono HW.out.1.size), HN.out, HW.out.2.2⟩
        clear hb5 HC HN HW
        go_wp2_with fail
        go_roundw
        case rel => exact ⟨h + 1, j, by omega, by omega, by go_num, rfl, HX⟩
        case measure => simp [intOf]; omega
      · rw [if_neg ha] at hc
        have HC := Lib.hid hc
        have HN : Hid (∀ p (q : p < (timesVS l).length), h ≤ p → t < (timesVS l)[p]) := Lib.hid (fun p q hp => by have := (HT.out p q).2 hp; omega)
        clear hc c0 c1 c2 hx hlA HT HV hh ha
        go_wp2_with fail
        refine HC.out.mono ?_
        rintro e w5 ⟨rfl, hb5⟩
        have HX : Hid (Below w.heap.size w w5 ∧ (∀ p (q : p < (timesVS l).length), p < i → (timesVS l)[p] ≤ t) ∧ (∀ p (q : p < (timesVS l).length), h ≤ p → t < (timesVS l)[p])) := Lib.hid ⟨HW.out.1.trans (hb5.mono HW.out.1.size), HW.out.2.1, HN.out⟩
        clear hb5 HC HN HW
        go_wp2_with fail
        go_roundw
        case rel => exact ⟨i, h, by omega, by omega, rfl, rfl, HX⟩
        case measure => simp [intOf]; omega
    · obtain rfl : i = j := by omega
      have g3 : ¬ (i : Int) < (i : Int) := by omega
      have HE : Hid (upN (timesVS l) t = i) := Lib.hid (upN_is (by unfold timesVS; simpa using hj) HW.out.2.1 HW.out.2.2)
      by_cases hil : i < l.length
      · have g4 : (i : Int) < (l.length : Int) := by omega
        have g5 : (0 : Int) ≤ (i : Int) := by omega
        obtain ⟨bA, oA, rfl, c0, c1, c2⟩ := HV.out.get hil
        have hgt : t < l[i].1 := by
          have := HW.out.2.2 i (by unfold timesVS; simpa using hil) (Nat.le_refl _)
          simpa [timesVS] using this
        obtain ⟨x, hx⟩ : ∃ x, x = l[i] := ⟨_, rfl⟩
        rw [← hx] at c0 c1 c2 hgt
        obtain ⟨a, b, c⟩ := x
        dsimp only at c0 c1 c2 hgt
        have hlA := World.block_lt_of_cell? w _ c0
        have d0 : wr.cell? ⟨bA, oA + i * 3, none⟩ = some (.int .i64 a) := (HW.out.1.cell (p := ⟨bA, oA + i * 3, none⟩) hlA).trans c0
        have d1 : wr.cell? ⟨bA, oA + i * 3 + 1, none⟩ = some (str b) := (HW.out.1.cell (p := ⟨bA, oA + i * 3 + 1, none⟩) hlA).trans c1
        have d2 : wr.cell? ⟨bA, oA + i * 3 + 2, none⟩ = some (.bool c) := (HW.out.1.cell (p := ⟨bA, oA + i * 3 + 2, none⟩) hlA).trans c2
        have hc := CU.out wr (a, b, c)
        dsimp only at hc
        rw [if_neg (by omega)] at hc
        have HC := Lib.hid hc
        clear hc c0 c1 c2 hx hlA HV hgt
        go_wp2_with fail
        refine HC.out.mono ?_
        rintro e w5 ⟨rfl, hb5⟩
        have HX := Lib.hid (HW.out.1.trans (hb5.mono HW.out.1.size))
        clear hb5 HC
        go_wp2_with fail
        go_ret2
        exact ⟨by rw [HE.out]; rfl, HX.out⟩
      · obtain rfl : i = l.length := by omega
        have g4 : ¬ (l.length : Int) < (l.length : Int) := by omega
        go_wp2_with fail
        go_ret2
        exact ⟨by rw [HE.out]; rfl, HW.out.1⟩
set_option maxHeartbeats 1000000 in
theorem upVS_any (v : Value) (l : List VerVS) (t : Int) (w : World) (hv : RdVS w v l) (hr : RisT (timesVS l)) (hl : l.length ≤ 1000000) :
    Calls Try.prog 78 #[v, .int .i64 t] w fun e w' => e = .returned (.int .i64 (upN (timesVS l) t : Int)) ∧ Below w.heap.size w w' := by
  have C := Lib.hid (bsVS_any v l t w hv hr hl)
  obtain ⟨N, hN⟩ : ∃ N, N = upN (timesVS l) t := ⟨_, rfl⟩
  rw [← hN] at C ⊢
  clear hv hr hN
  go_enter Try.func78, Try.ntmps78
  go_wp2_with fail
  refine C.out.mono ?_
  rintro e w5 ⟨rfl, hb5⟩
  have HX := Lib.hid hb5
  clear hb5 C
  go_wp2_with fail
  go_ret
  exact ⟨rfl, HX.out⟩
/-- What the last of the first n says. -/
def lastVS (l : List VerVS) (n : Nat) : Option (List UInt8) :=
  match (l.take n).getLast? with
  | none => none
  | some v => if v.2.2 = true then none else some v.2.1
/-- What a key was at a time. -/
def seenVS (l : List VerVS) (t : Int) : Option (List UInt8) := lastVS l (upN (timesVS l) t)
theorem lastVS_zero (l : List VerVS) : lastVS l 0 = none := by simp [lastVS]
theorem lastVS_succ {l : List VerVS} {n : Nat} (h : n < l.length) : lastVS l (n + 1) = if l[n].2.2 = true then none else some l[n].2.1 := by
  unfold lastVS
  rw [List.take_succ_eq_append_getElem h, List.getLast?_concat]
/-- What Get tells of it. -/
def seenEVS (r : Option (List UInt8)) : Ending := .returned (.tuple #[str (r.getD []), .bool r.isSome])
set_option maxHeartbeats 1000000 in
theorem seenVS_any (v : Value) (l : List VerVS) (t : Int) (w : World) (hv : RdVS w v l) (hr : RisT (timesVS l)) (hl : l.length ≤ 1000000) :
    Calls Try.prog 58 #[v, .int .i64 t] w fun e w' => e = seenEVS (seenVS l t) ∧ Below w.heap.size w w' := by
  have C := Lib.hid (upVS_any v l t w hv hr hl)
  obtain ⟨av, cv, rfl, _⟩ := hv.form
  have HV := Lib.hid hv
  have hNl : upN (timesVS l) t ≤ l.length := Nat.le_trans (upN_le _ _) (by unfold timesVS; simp)
  obtain ⟨S, hS⟩ : ∃ S, S = seenVS l t := ⟨_, rfl⟩
  rw [← hS]
  unfold seenVS at hS
  obtain ⟨N, hN⟩ : ∃ N, N = upN (timesVS l) t := ⟨_, rfl⟩
  rw [← hN] at C hNl hS
  clear hv hr hN
  cases N with
  | zero =>
    rw [lastVS_zero] at hS
    subst hS
    go_enter Try.func58, Try.ntmps58
    go_wp2_with fail
    refine C.out.mono ?_
    rintro e w5 ⟨rfl, hb5⟩
    have HX := Lib.hid hb5
    clear hb5 C
    go_wp2_with fail
    go_ret2
    exact ⟨rfl, HX.out⟩
  | succ n =>
    have hln : n < l.length := by omega
    rw [lastVS_succ hln] at hS
    obtain ⟨bA, oA, rfl, c0, c1, c2⟩ := HV.out.get hln
    obtain ⟨x, hx⟩ : ∃ x, x = l[n] := ⟨_, rfl⟩
    rw [← hx] at c0 c1 c2 hS
    obtain ⟨a, b, c⟩ := x
    dsimp only at c0 c1 c2 hS
    have hlA := World.block_lt_of_cell? w _ c0
    have HC3 : Hid (∀ W, Below w.heap.size w W → W.cell? ⟨bA, oA + n * 3 + 1, none⟩ = some (str b) ∧ W.cell? ⟨bA, oA + n * 3 + 2, none⟩ = some (.bool c)) := Lib.hid (fun W h => ⟨(h.cell (p := ⟨bA, oA + n * 3 + 1, none⟩) hlA).trans c1, (h.cell (p := ⟨bA, oA + n * 3 + 2, none⟩) hlA).trans c2⟩)
    obtain ⟨M, hM⟩ : ∃ M : Nat, M = n + 1 := ⟨_, rfl⟩
    rw [← hM] at C
    have hz : decide ((M : Int) = 0) = false := by simp; omega
    have hz2 : ((M : Int) == 0) = false := by simp; omega
    have tm : IntKind.i64.wrap ((M : Int) - 1) = (n : Int) := by rw [show (M : Int) - 1 = (n : Int) by omega]; exact IntWalk.i64_in _ (by omega)
    have tm2 : (M : Int) - 1 = (n : Int) := by omega
    have g4 : (n : Int) < (l.length : Int) := by omega
    have g5 : (0 : Int) ≤ (n : Int) := by omega
    clear hx c0 c1 c2 hlA HV hM hNl
    cases c with
    | true =>
      rw [if_pos rfl] at hS
      subst hS
      go_enter Try.func58, Try.ntmps58
      go_wp2_with fail
      refine C.out.mono ?_
      rintro e w5 ⟨rfl, hb5⟩
      obtain ⟨d1, d2⟩ := HC3.out w5 hb5
      have HX := Lib.hid hb5
      clear hb5 C
      go_wp2_with fail
      go_ret2
      exact ⟨rfl, HX.out⟩
    | false =>
      rw [if_neg (by decide)] at hS
      subst hS
      go_enter Try.func58, Try.ntmps58
      go_wp2_with fail
      refine C.out.mono ?_
      rintro e w5 ⟨rfl, hb5⟩
      obtain ⟨d1, d2⟩ := HC3.out w5 hb5
      have HX := Lib.hid hb5
      clear hb5 C
      go_wp2_with fail
      go_ret2
      exact ⟨rfl, HX.out⟩
end Go.Proofs.Ytcgjiddiegepkaa
