/- hblref1.may, May: the document's words on values. -/
import Derived.Test.YtidlhajibjnkeaaGreatDoorJMay
import Derived.Test.YtidlhajibjnkeaaGreatDoorRSign
import Derived.Deep.CutRange
namespace Go.Proofs.YtidlhajibjnkeaaGreatDoor
open Go.RowKit

mutual
/-- No text of a value is too long to be. -/
def stV : JV → Prop
  | .mk _ _ s l m => s.length ≤ 9223372036854775807 ∧ stL l ∧ stM m
def stL : List JV → Prop
  | [] => True
  | v :: t => stV v ∧ stL t
def stM : List (List UInt8 × JV) → Prop
  | [] => True
  | (nm, v) :: t => nm.length ≤ 9223372036854775807 ∧ stV v ∧ stM t
end
theorem stL_mem : ∀ {l : List JV} {x : JV}, stL l → x ∈ l → stV x
  | v :: t, x, h, hx => by
    unfold stL at h
    rcases List.mem_cons.1 hx with rfl | hx
    · exact h.1
    · exact stL_mem h.2 hx
theorem stM_mem : ∀ {l : List MemT} {x : MemT}, stM l → x ∈ l → x.1.length ≤ 9223372036854775807 ∧ stV x.2
  | (a, v) :: t, x, h, hx => by
    unfold stM at h
    rcases List.mem_cons.1 hx with rfl | hx
    · exact ⟨h.1, h.2.1⟩
    · exact stM_mem h.2.2 hx
theorem stV_open {v : JV} (h : stV v) : v.s.length ≤ 9223372036854775807 ∧ stL v.l ∧ stM v.m := by
  obtain ⟨k, n, s, l, m⟩ := v
  unfold stV at h
  exact h
/-- The first tests, in their order. -/
def e1B (a1 a2 a3 b4 c4 b5 c5 b6 c6 b7 c7 : Bool) : Bool := a1 || a2 || a3 || (b4 && c4) || (b5 && !c5) || (b6 && c6) || (b7 && c7)
def e2B (q3 q4 qv q8 : Bool) : Bool := q3 || q4 || !qv || q8
theorem lt_dec (d : Nat) : decide (0 < d) = !(decide ((d : Int) < 1)) := by
  rw [← decide_not]; congr 1; exact propext (by omega)
theorem pos_dec (l : Nat) : decide (l = 0) = !(decide ((0 : Int) < (l : Int))) := by
  rw [← decide_not]; congr 1; exact propext (by omega)
theorem may_e (v : JV) (d : Nat) : mayV v d = (!(e1B (decide ((d : Int) < 1)) (decide (v.kind < 1)) (decide (7 < v.kind)) (v.kind != 4) (v.n != 0) (v.kind != 5) v.s.isEmpty (v.kind != 6) (decide ((0 : Int) < (v.l.length : Int))) (v.kind != 7) (decide ((0 : Int) < (v.m.length : Int)))) && !(e2B (decide (v.n < -9007199254740991)) (decide (9007199254740991 < v.n)) (validB v.s) (decide ((8000 : Int) < (v.s.length : Int)))) && (mayL v.l (d - 1) && mayM v.m none (d - 1))) := by
  rw [mayV_mk]
  unfold fitV txF e1B e2B
  have e0 : decide (0 < d) = !(decide ((d : Int) < 1)) := lt_dec d
  have e1 : decide (1 ≤ v.kind) = !(decide (v.kind < 1)) := by rw [← decide_not]; congr 1; exact propext Int.not_lt.symm
  have e2 : decide (v.kind ≤ 7) = !(decide (7 < v.kind)) := by rw [← decide_not]; congr 1; exact propext Int.not_lt.symm
  have e3 : decide (-9007199254740991 ≤ v.n) = !(decide (v.n < -9007199254740991)) := by rw [← decide_not]; congr 1; exact propext Int.not_lt.symm
  have e4 : decide (v.n ≤ 9007199254740991) = !(decide (9007199254740991 < v.n)) := by rw [← decide_not]; congr 1; exact propext Int.not_lt.symm
  have e5 : decide (v.s = []) = v.s.isEmpty := by cases v.s <;> rfl
  have e6 : decide (v.s.length ≤ 8000) = !(decide ((8000 : Int) < (v.s.length : Int))) := by rw [← decide_not]; congr 1; exact propext (by omega)
  rw [e0, e1, e2, e3, e4, e5, e6, ne_dec v.kind 4, ne_dec v.n 0, ne_dec v.kind 5, ne_dec v.kind 6, ne_dec v.kind 7, pos_dec, pos_dec]
  generalize decide ((d : Int) < 1) = x1
  generalize decide (v.kind < 1) = x2
  generalize decide (7 < v.kind) = x3
  generalize (v.kind != 4) = x4
  generalize (v.n != 0) = x5
  generalize (v.kind != 5) = x6
  generalize v.s.isEmpty = x7
  generalize (v.kind != 6) = x8
  generalize decide ((0 : Int) < (v.l.length : Int)) = x9
  generalize (v.kind != 7) = y1
  generalize decide ((0 : Int) < (v.m.length : Int)) = y2
  generalize decide (v.n < -9007199254740991) = y3
  generalize decide (9007199254740991 < v.n) = y4
  generalize validB v.s = y5
  generalize decide ((8000 : Int) < (v.s.length : Int)) = y6
  generalize mayL v.l (d - 1) = y7
  generalize mayM v.m none (d - 1) = y8
  cases x1 <;> cases x2 <;> cases x3 <;> cases y3 <;> cases y4 <;> cases y5 <;> cases y6 <;> simp <;> (cases x4 <;> cases x5 <;> cases x6 <;> cases x7 <;> simp [Bool.and_assoc])
/-- What may tells of a value, wherever it lies. -/
def RMayC (v : JV) : Prop := stV v → ∀ (F : Nat → Prop) (w : World) (cs : List Value) (d : Nat) (D : Int), D = (d : Int) → d ≤ 1000 → RdJ w F v cs →
  Calls Tryz.prog 37 #[.agg cs.toArray, .int .i64 D] w fun e w' => e = .returned (.bool (mayV v d)) ∧ Below w.heap.size w w'
set_option maxRecDepth 100000 in
set_option maxHeartbeats 64000000 in
theorem rjmay_step (v : JV) (IHL : ∀ x ∈ v.l, RMayC x) (IHM : ∀ x ∈ v.m, RMayC x.2) : RMayC v := by
  intro hst F w cs d D hD hd h
  obtain ⟨hs1, hs2, hs3⟩ := stV_open hst
  obtain ⟨al, ll, cl, am, lm, cm, rfl, ⟨rl, hrl, hll, rfl⟩, rm, hrm, hmm, rfl⟩ := h.open
  have g0 : v.l.length ≤ 9223372036854775807 := (hrl.lens).2.1
  have g1 : v.m.length ≤ 9223372036854775807 := (hrm.lens).2.1
  obtain ⟨W1, hW1⟩ : ∃ W1, W1 = w.alloc (.cells #[.int .i64 v.kind, .int .i64 v.n, str v.s, .slice al v.l.length cl, .slice am v.m.length cm] 35) := ⟨_, rfl⟩
  have hb1 : Below w.heap.size w W1 := by rw [hW1]; exact below_alloc _ _
  have hbx : W1.heap[w.heap.size]? = some (.cells #[.int .i64 v.kind, .int .i64 v.n, str v.s, .slice al v.l.length cl, .slice am v.m.length cm] 35 (0, 0)) := by rw [hW1]; exact heap_alloc_new _ _
  have HB := Lib.hid (And.intro hb1 hbx)
  obtain ⟨RES, hRES⟩ : ∃ RES, RES = mayV v d := ⟨_, rfl⟩
  rw [← hRES]
  rw [may_e] at hRES
  have HL := Lib.hid (And.intro hrl (And.intro hll (And.intro hrm hmm)))
  have IL : Hid (∀ x ∈ v.l, ∀ (F : Nat → Prop) (w : World) (cs : List Value) (d : Nat) (D : Int), D = (d : Int) → d ≤ 1000 → RdJ w F x cs → Calls Tryz.prog 37 #[.agg cs.toArray, .int .i64 D] w fun e w' => e = .returned (.bool (mayV x d)) ∧ Below w.heap.size w w') := Lib.hid (fun x hx => IHL x hx (stL_mem hs2 hx))
  have IM : Hid (∀ x ∈ v.m, x.1.length ≤ 9223372036854775807 ∧ ∀ (F : Nat → Prop) (w : World) (cs : List Value) (d : Nat) (D : Int), D = (d : Int) → d ≤ 1000 → RdJ w F x.2 cs → Calls Tryz.prog 37 #[.agg cs.toArray, .int .i64 D] w fun e w' => e = .returned (.bool (mayV x.2 d)) ∧ Below w.heap.size w w') := Lib.hid (fun x hx => ⟨(stM_mem hs3 hx).1, IHM x hx (stM_mem hs3 hx).2⟩)
  clear IHL IHM hst hs2 hs3 hrl hll hrm hmm h hb1 hbx
  have CV : Hid (∀ W, Calls Tryz.prog 60 #[str v.s] W fun e w' => e = .returned (.bool (validB v.s)) ∧ w' = W) := Lib.hid (fun W => refValid_any v.s W hs1)
  clear hs1
  rw [← hD] at hRES
  obtain ⟨a1, ha1⟩ : ∃ b, b = decide (D < 1) := ⟨_, rfl⟩
  obtain ⟨a2, ha2⟩ : ∃ b, b = decide (v.kind < 1) := ⟨_, rfl⟩
  obtain ⟨a3, ha3⟩ : ∃ b, b = decide (7 < v.kind) := ⟨_, rfl⟩
  obtain ⟨b4, hb4⟩ : ∃ b, b = (v.kind != 4) := ⟨_, rfl⟩
  obtain ⟨c4, hc4⟩ : ∃ b, b = (v.n != 0) := ⟨_, rfl⟩
  obtain ⟨b5, hb5⟩ : ∃ b, b = (v.kind != 5) := ⟨_, rfl⟩
  obtain ⟨b6, hb6⟩ : ∃ b, b = (v.kind != 6) := ⟨_, rfl⟩
  obtain ⟨c6, hc6⟩ : ∃ b, b = decide ((0 : Int) < (v.l.length : Int)) := ⟨_, rfl⟩
  obtain ⟨b7, hb7⟩ : ∃ b, b = (v.kind != 7) := ⟨_, rfl⟩
  obtain ⟨c7, hc7⟩ : ∃ b, b = decide ((0 : Int) < (v.m.length : Int)) := ⟨_, rfl⟩
  obtain ⟨q3, hq3⟩ : ∃ b, b = decide (v.n < -9007199254740991) := ⟨_, rfl⟩
  obtain ⟨q4, hq4⟩ : ∃ b, b = decide (9007199254740991 < v.n) := ⟨_, rfl⟩
  obtain ⟨qv, hqv⟩ : ∃ b, b = validB v.s := ⟨_, rfl⟩
  obtain ⟨q8, hq8⟩ : ∃ b, b = decide ((8000 : Int) < (v.s.length : Int)) := ⟨_, rfl⟩
  rw [← ha1, ← ha2, ← ha3, ← hb4, ← hc4, ← hb5, ← hb6, ← hc6, ← hb7, ← hc7, ← hq3, ← hq4, ← hqv, ← hq8] at hRES
  obtain ⟨B1, hB1⟩ : ∃ B1, B1 = e1B a1 a2 a3 b4 c4 b5 v.s.isEmpty b6 c6 b7 c7 := ⟨_, rfl⟩
  obtain ⟨B2, hB2⟩ : ∃ B2, B2 = e2B q3 q4 qv q8 := ⟨_, rfl⟩
  rw [← hB1, ← hB2] at hRES
  have HRES := Lib.hid hRES
  have HB1 := Lib.hid hB1
  have HB2 := Lib.hid hB2
  have HA1 : Hid (a1 = decide (D < 1)) := Lib.hid ha1
  have HDD := Lib.hid (And.intro hD hd)
  rw [← hqv] at CV
  clear hRES hB1 hB2 hqv hD hd
  by_cases h1 : D < 1
  · have y1 : decide (D < 1) = true := decide_eq_true h1
    have HF : Hid (RES = false) := Lib.hid (by rw [HRES.out, HB1.out, ha1, y1]; rfl)
    clear ha1 ha2 ha3 hb4 hc4 hb5 hb6 hc6 hb7 hc7 hq3 hq4 hq8 HRES HB1 HB2 HA1 IL IM HL CV h1
    go_enter Tryz.func37, Tryz.ntmps37
    go_wp2_with fail
    rw [← hW1]
    go_ret
    exact ⟨by rw [HF.out]; rfl, HB.out.1⟩
  · have y1 : decide (D < 1) = false := decide_eq_false h1
    obtain ⟨d1, hdd⟩ : ∃ d1, d = d1 + 1 := ⟨d - 1, by have := HDD.out.1; omega⟩
    obtain ⟨D1, hD1⟩ : ∃ D1 : Int, D1 = (d1 : Int) := ⟨_, rfl⟩
    have tm : IntKind.i64.wrap (D - 1) = D1 := by
      have := HDD.out
      rw [show D - 1 = (d1 : Int) by omega, hD1]
      exact IntWalk.i64_in _ (by omega)
    have HD1 : Hid (D1 = (d1 : Int) ∧ d1 ≤ 1000 ∧ d - 1 = d1) := Lib.hid ⟨hD1, by have := HDD.out; omega, by omega⟩
    rw [y1] at ha1
    subst ha1
    have HP2 : Hid (v.s = v.s) := Lib.hid rfl
    have HAA := Lib.hid (And.intro ha2 (And.intro ha3 (And.intro hb4 (And.intro hc4 (And.intro hb5 (And.intro hb6 (And.intro hc6 (And.intro hb7 hc7))))))))
    have HQQ := Lib.hid (And.intro hq3 (And.intro hq4 hq8))
    clear ha2 ha3 hb4 hc4 hb5 hb6 hc6 hb7 hc7 hq3 hq4 hq8 hdd hD1 h1 HA1 HDD
    go_enter Tryz.func37, Tryz.ntmps37
    go_upto_region 1 with fail
    rw [← hW1]
    clear hW1
    generalize (Value.agg #[.int .i64 v.kind, .int .i64 v.n, str v.s, .slice al v.l.length cl, .slice am v.m.length cm]) = A0
    go_cut [60] from 7 to 60 (fun v60 wc => v60 = .bool B1 ∧ W1 = wc)
    case first =>
      have p0 := box_cell HB.out.2 0
      have p1 := box_cell HB.out.2 1
      have p2 := box_cell HB.out.2 2
      have p3 := box_cell HB.out.2 3
      have p4 := box_cell HB.out.2 4
      obtain ⟨ha2, ha3, hb4, hc4, hb5, hb6, hc6, hb7, hc7⟩ := HAA.out
      replace ha2 := ha2.symm
      replace ha3 := ha3.symm
      replace hb4 := hb4.symm
      replace hc4 := hc4.symm
      replace hb5 := hb5.symm
      replace hb6 := hb6.symm
      replace hc6 := hc6.symm
      have hn6 : decide (0 < v.l.length) = c6 := by rw [← hc6]; congr 1; exact propext (by omega)
      replace hb7 := hb7.symm
      replace hc7 := hc7.symm
      have hn7 : decide (0 < v.m.length) = c7 := by rw [← hc7]; congr 1; exact propext (by omega)
      clear HAA HQQ HRES HB2 IL IM HL CV tm HD1 HB
      cases a2 with
      | false =>
        cases a3 with
        | false =>
          cases b4 with
          | false =>
            cases b5 with
            | false =>
              cases b6 with
              | false =>
                cases b7 with
                | false =>
                  as_aux_lemma =>
                    go_wp2_with fail
                    go_meet
                    case rel => exact ⟨congrArg Value.bool (by rw [HB1.out]; rfl), rfl⟩
                | true =>
                  cases c7 with
                  | false =>
                    as_aux_lemma =>
                      go_wp2_with fail
                      go_meet
                      case rel => exact ⟨congrArg Value.bool (by rw [HB1.out]; rfl), rfl⟩
                  | true =>
                    as_aux_lemma =>
                      go_wp2_with fail
                      go_meet
                      case rel => exact ⟨congrArg Value.bool (by rw [HB1.out]; rfl), rfl⟩
              | true =>
                cases c6 with
                | false =>
                  cases b7 with
                  | false =>
                    as_aux_lemma =>
                      go_wp2_with fail
                      go_meet
                      case rel => exact ⟨congrArg Value.bool (by rw [HB1.out]; rfl), rfl⟩
                  | true =>
                    cases c7 with
                    | false =>
                      as_aux_lemma =>
                        go_wp2_with fail
                        go_meet
                        case rel => exact ⟨congrArg Value.bool (by rw [HB1.out]; rfl), rfl⟩
                    | true =>
                      as_aux_lemma =>
                        go_wp2_with fail
                        go_meet
                        case rel => exact ⟨congrArg Value.bool (by rw [HB1.out]; rfl), rfl⟩
                | true =>
                  as_aux_lemma =>
                    go_wp2_with fail
                    go_meet
                    case rel => exact ⟨congrArg Value.bool (by rw [HB1.out]; rfl), rfl⟩
            | true =>
              cases hs : v.s with
              | nil =>
                rw [hs] at HP2 HB1
                cases b6 with
                | false =>
                  cases b7 with
                  | false =>
                    as_aux_lemma =>
                      go_wp2_with fail
                      go_meet
                      case rel => exact ⟨congrArg Value.bool (by rw [HB1.out]; rfl), rfl⟩
                  | true =>
                    cases c7 with
                    | false =>
                      as_aux_lemma =>
                        go_wp2_with fail
                        go_meet
                        case rel => exact ⟨congrArg Value.bool (by rw [HB1.out]; rfl), rfl⟩
                    | true =>
                      as_aux_lemma =>
                        go_wp2_with fail
                        go_meet
                        case rel => exact ⟨congrArg Value.bool (by rw [HB1.out]; rfl), rfl⟩
                | true =>
                  cases c6 with
                  | false =>
                    cases b7 with
                    | false =>
                      as_aux_lemma =>
                        go_wp2_with fail
                        go_meet
                        case rel => exact ⟨congrArg Value.bool (by rw [HB1.out]; rfl), rfl⟩
                    | true =>
                      cases c7 with
                      | false =>
                        as_aux_lemma =>
                          go_wp2_with fail
                          go_meet
                          case rel => exact ⟨congrArg Value.bool (by rw [HB1.out]; rfl), rfl⟩
                      | true =>
                        as_aux_lemma =>
                          go_wp2_with fail
                          go_meet
                          case rel => exact ⟨congrArg Value.bool (by rw [HB1.out]; rfl), rfl⟩
                  | true =>
                    as_aux_lemma =>
                      go_wp2_with fail
                      go_meet
                      case rel => exact ⟨congrArg Value.bool (by rw [HB1.out]; rfl), rfl⟩
              | cons c0 s0 =>
                rw [hs] at HP2 HB1
                as_aux_lemma =>
                  go_wp2_with fail
                  go_meet
                  case rel => exact ⟨congrArg Value.bool (by rw [HB1.out]; rfl), rfl⟩
          | true =>
            cases c4 with
            | false =>
              cases b5 with
              | false =>
                cases b6 with
                | false =>
                  cases b7 with
                  | false =>
                    as_aux_lemma =>
                      go_wp2_with fail
                      go_meet
                      case rel => exact ⟨congrArg Value.bool (by rw [HB1.out]; rfl), rfl⟩
                  | true =>
                    cases c7 with
                    | false =>
                      as_aux_lemma =>
                        go_wp2_with fail
                        go_meet
                        case rel => exact ⟨congrArg Value.bool (by rw [HB1.out]; rfl), rfl⟩
                    | true =>
                      as_aux_lemma =>
                        go_wp2_with fail
                        go_meet
                        case rel => exact ⟨congrArg Value.bool (by rw [HB1.out]; rfl), rfl⟩
                | true =>
                  cases c6 with
                  | false =>
                    cases b7 with
                    | false =>
                      as_aux_lemma =>
                        go_wp2_with fail
                        go_meet
                        case rel => exact ⟨congrArg Value.bool (by rw [HB1.out]; rfl), rfl⟩
                    | true =>
                      cases c7 with
                      | false =>
                        as_aux_lemma =>
                          go_wp2_with fail
                          go_meet
                          case rel => exact ⟨congrArg Value.bool (by rw [HB1.out]; rfl), rfl⟩
                      | true =>
                        as_aux_lemma =>
                          go_wp2_with fail
                          go_meet
                          case rel => exact ⟨congrArg Value.bool (by rw [HB1.out]; rfl), rfl⟩
                  | true =>
                    as_aux_lemma =>
                      go_wp2_with fail
                      go_meet
                      case rel => exact ⟨congrArg Value.bool (by rw [HB1.out]; rfl), rfl⟩
              | true =>
                cases hs : v.s with
                | nil =>
                  rw [hs] at HP2 HB1
                  cases b6 with
                  | false =>
                    cases b7 with
                    | false =>
                      as_aux_lemma =>
                        go_wp2_with fail
                        go_meet
                        case rel => exact ⟨congrArg Value.bool (by rw [HB1.out]; rfl), rfl⟩
                    | true =>
                      cases c7 with
                      | false =>
                        as_aux_lemma =>
                          go_wp2_with fail
                          go_meet
                          case rel => exact ⟨congrArg Value.bool (by rw [HB1.out]; rfl), rfl⟩
                      | true =>
                        as_aux_lemma =>
                          go_wp2_with fail
                          go_meet
                          case rel => exact ⟨congrArg Value.bool (by rw [HB1.out]; rfl), rfl⟩
                  | true =>
                    cases c6 with
                    | false =>
                      cases b7 with
                      | false =>
                        as_aux_lemma =>
                          go_wp2_with fail
                          go_meet
                          case rel => exact ⟨congrArg Value.bool (by rw [HB1.out]; rfl), rfl⟩
                      | true =>
                        cases c7 with
                        | false =>
                          as_aux_lemma =>
                            go_wp2_with fail
                            go_meet
                            case rel => exact ⟨congrArg Value.bool (by rw [HB1.out]; rfl), rfl⟩
                        | true =>
                          as_aux_lemma =>
                            go_wp2_with fail
                            go_meet
                            case rel => exact ⟨congrArg Value.bool (by rw [HB1.out]; rfl), rfl⟩
                    | true =>
                      as_aux_lemma =>
                        go_wp2_with fail
                        go_meet
                        case rel => exact ⟨congrArg Value.bool (by rw [HB1.out]; rfl), rfl⟩
                | cons c0 s0 =>
                  rw [hs] at HP2 HB1
                  as_aux_lemma =>
                    go_wp2_with fail
                    go_meet
                    case rel => exact ⟨congrArg Value.bool (by rw [HB1.out]; rfl), rfl⟩
            | true =>
              as_aux_lemma =>
                go_wp2_with fail
                go_meet
                case rel => exact ⟨congrArg Value.bool (by rw [HB1.out]; rfl), rfl⟩
        | true =>
          as_aux_lemma =>
            go_wp2_with fail
            go_meet
            case rel => exact ⟨congrArg Value.bool (by rw [HB1.out]; rfl), rfl⟩
      | true =>
        as_aux_lemma =>
          go_wp2_with fail
          go_meet
          case rel => exact ⟨congrArg Value.bool (by rw [HB1.out]; rfl), rfl⟩
    case rest =>
    obtain ⟨rfl, rfl⟩ := hcut
    clear HAA HB1 HP2
    cases B1 with
    | true =>
      have HF : Hid (RES = false) := Lib.hid (by rw [HRES.out]; rfl)
      clear HQQ HRES HB2 IL IM HL CV tm HD1
      go_wp2_with fail
      go_ret
      exact ⟨by rw [HF.out]; rfl, HB.out.1⟩
    | false =>
      go_upto_region 3 with fail
      go_cut [80] from 61 to 80 (fun v80 wc => v80 = .bool B2 ∧ W1 = wc)
      case first =>
        have p1 := box_cell HB.out.2 1
        have p2 := box_cell HB.out.2 2
        obtain ⟨hq3, hq4, hq8⟩ := HQQ.out
        replace hq3 := hq3.symm
        replace hq4 := hq4.symm
        replace hq8 := hq8.symm
        clear HQQ HRES IL IM HL tm HD1 HB
        cases q3 with
        | false =>
          cases q4 with
          | false =>
            cases qv with
            | false =>
              as_aux_lemma =>
                go_wp2_with (go_at_call 60; refine (CV.out _).mono ?_; rintro e w' ⟨rfl, rfl⟩)
                go_meet
                case rel => exact ⟨congrArg Value.bool (by rw [HB2.out]; rfl), rfl⟩
            | true =>
              cases q8 with
              | false =>
                as_aux_lemma =>
                  go_wp2_with (go_at_call 60; refine (CV.out _).mono ?_; rintro e w' ⟨rfl, rfl⟩)
                  go_meet
                  case rel => exact ⟨congrArg Value.bool (by rw [HB2.out]; rfl), rfl⟩
              | true =>
                as_aux_lemma =>
                  go_wp2_with (go_at_call 60; refine (CV.out _).mono ?_; rintro e w' ⟨rfl, rfl⟩)
                  go_meet
                  case rel => exact ⟨congrArg Value.bool (by rw [HB2.out]; rfl), rfl⟩
          | true =>
            as_aux_lemma =>
              go_wp2_with (go_at_call 60; refine (CV.out _).mono ?_; rintro e w' ⟨rfl, rfl⟩)
              go_meet
              case rel => exact ⟨congrArg Value.bool (by rw [HB2.out]; rfl), rfl⟩
        | true =>
          as_aux_lemma =>
            go_wp2_with (go_at_call 60; refine (CV.out _).mono ?_; rintro e w' ⟨rfl, rfl⟩)
            go_meet
            case rel => exact ⟨congrArg Value.bool (by rw [HB2.out]; rfl), rfl⟩
      case rest =>
      obtain ⟨rfl, rfl⟩ := hcut
      clear HQQ HB2 CV
      cases B2 with
      | true =>
        have HF : Hid (RES = false) := Lib.hid (by rw [HRES.out]; rfl)
        clear HRES IL IM HL tm HD1
        go_wp2_with fail
        go_ret
        exact ⟨by rw [HF.out]; rfl, HB.out.1⟩
      | false =>
        have HR : Hid (RES = (mayL v.l d1 && mayM v.m none d1)) := Lib.hid (by rw [HRES.out, HD1.out.2.2]; rfl)
        clear HRES
        go_wp2_with fail
        go_loopw [5] (fun v5 wr => ∃ k : Nat, k ≤ v.l.length ∧ v5 = .int .i64 (k : Int) ∧ Hid (RES = (mayL (v.l.drop k) d1 && mayM v.m none d1)) ∧ Hid (Below W1.heap.size W1 wr)) (fun v5 _ => v.l.length - (intOf v5).toNat)
        case atStart => exact ⟨0, Nat.zero_le _, rfl, Lib.hid (by simpa using HR.out), Lib.hid (Below.refl _ _)⟩
        case round =>
          obtain ⟨k, hk, rfl, HK, HW⟩ := hrel
          have HWW := Lib.hid (HB.out.1.trans (HW.out.mono HB.out.1.size))
          have b3 := box_cell (box_up HB.out.2 HW.out) 3
          clear HR
          by_cases hlt : k < v.l.length
          · have n1 : (k : Int) < (v.l.length : Int) := by omega
            have n3 : (0 : Int) ≤ (k : Int) := by omega
            obtain ⟨b, off, a, n, c, a', n', c', rfl, _, hbw, hx, c0, c1, c2, c3, c4⟩ := RdJ.part HL.out.1 HL.out.2.1 hlt
            have HM : Hid (v.l[k] ∈ v.l) := Lib.hid (List.getElem_mem hlt)
            have HK2 := HK.out
            rw [mayL_at hlt] at HK2
            have HK3 := Lib.hid HK2
            clear HK2 HK
            obtain ⟨x, hxx⟩ : ∃ x, x = v.l[k] := ⟨_, rfl⟩
            rw [← hxx] at hx c0 c1 c2 HK3 HM
            clear hxx
            have e0 : wr.cell? ⟨b, off + k * 5, none⟩ = some (.int .i64 x.kind) := (HWW.out.cell (p := ⟨b, off + k * 5, none⟩) hbw).trans c0
            have e1 : wr.cell? ⟨b, off + k * 5 + 1, none⟩ = some (.int .i64 x.n) := (HWW.out.cell (p := ⟨b, off + k * 5 + 1, none⟩) hbw).trans c1
            have e2 : wr.cell? ⟨b, off + k * 5 + 2, none⟩ = some (str x.s) := (HWW.out.cell (p := ⟨b, off + k * 5 + 2, none⟩) hbw).trans c2
            have e3 : wr.cell? ⟨b, off + k * 5 + 3, none⟩ = some (.slice a n c) := (HWW.out.cell (p := ⟨b, off + k * 5 + 3, none⟩) hbw).trans c3
            have e4 : wr.cell? ⟨b, off + k * 5 + 4, none⟩ = some (.slice a' n' c') := (HWW.out.cell (p := ⟨b, off + k * 5 + 4, none⟩) hbw).trans c4
            have CM : Hid (Calls Tryz.prog 37 #[.agg #[.int .i64 x.kind, .int .i64 x.n, str x.s, .slice a n c, .slice a' n' c'], .int .i64 D1] wr fun e w' => e = .returned (.bool (mayV x d1)) ∧ Below wr.heap.size wr w') := Lib.hid (IL.out x HM.out F wr _ d1 D1 HD1.out.1 HD1.out.2.1 (hx.up HWW.out))
            clear hx c0 c1 c2 c3 c4 hbw
            cases hB : mayV x d1 with
            | false =>
              have HE : Hid (RES = false) := Lib.hid (by rw [HK3.out, hB]; rfl)
              rw [hB] at CM
              clear hB HK3
              go_wp2_with fail
              refine CM.out.mono ?_
              rintro e w2 ⟨rfl, hb2⟩
              have HX := Lib.hid (HWW.out.trans (hb2.mono HWW.out.size))
              clear hb2 CM
              go_wp2_with fail
              go_ret
              exact ⟨by rw [HE.out]; rfl, HX.out⟩
            | true =>
              have HE : Hid (RES = (mayL (v.l.drop (k + 1)) d1 && mayM v.m none d1)) := Lib.hid (by rw [HK3.out, hB, Bool.true_and])
              rw [hB] at CM
              clear hB HK3
              go_wp2_with fail
              refine CM.out.mono ?_
              rintro e w2 ⟨rfl, hb2⟩
              have HX := Lib.hid (HW.out.trans (hb2.mono HW.out.size))
              clear hb2 CM
              go_wp2_with fail
              go_roundw
              case rel => exact ⟨k + 1, by omega, by go_num, HE, HX⟩
              case measure => simp [intOf]; omega
          · obtain rfl : k = v.l.length := by omega
            have n2 : ¬ (v.l.length : Int) < (v.l.length : Int) := by omega
            have HR2 : Hid (RES = mayM v.m none d1) := Lib.hid (by rw [HK.out, List.drop_length, mayL, Bool.true_and])
            have HW0 := Lib.hid HW.out
            clear HK HW
            go_wp2_with fail
            clear b3
            go_loopw [6] (fun v6 wr => ∃ k : Nat, k ≤ v.m.length ∧ v6 = .int .i64 (k : Int) ∧ Hid (RES = mayM (v.m.drop k) (prvN v.m k) d1) ∧ Hid (Below W1.heap.size W1 wr)) (fun v6 _ => v.m.length - (intOf v6).toNat)
            case atStart => exact ⟨0, Nat.zero_le _, rfl, Lib.hid (by rw [List.drop_zero]; exact HR2.out), HW0⟩
            case round =>
              obtain ⟨k, hk, rfl, HK, HW⟩ := hrel
              have HWW2 := Lib.hid (HB.out.1.trans (HW.out.mono HB.out.1.size))
              have b4 := box_cell (box_up HB.out.2 HW.out) 4
              clear HR2 HW0 HWW
              by_cases hlt : k < v.m.length
              · have n1 : (k : Int) < (v.m.length : Int) := by omega
                have n3 : (0 : Int) ≤ (k : Int) := by omega
                obtain ⟨b, off, a, n, c, a', n', c', rfl, _, hbw, hx, c0, c1, c2, c3, c4, c5⟩ := RdJ.memb HL.out.2.2.1 HL.out.2.2.2 hlt
                have HM : Hid (v.m[k] ∈ v.m) := Lib.hid (List.getElem_mem hlt)
                have HK2 := HK.out
                rw [mayM_at hlt] at HK2
                have HNX : Hid (prvN v.m (k + 1) = some v.m[k].1) := Lib.hid (prvN_succ v.m k hlt)
                obtain ⟨x, hxx⟩ : ∃ x, x = v.m[k] := ⟨_, rfl⟩
                rw [← hxx] at hx c0 c1 c2 c3 HK2 HM HNX
                clear hxx HK
                obtain ⟨nm, x⟩ := x
                dsimp only at hx c0 c1 c2 c3 c4 c5 HK2 HNX
                have z0 : Hid (∀ p : BelowBy wr, p.W.cell? ⟨b, off + k * 6, none⟩ = some (str nm)) := Lib.hid (fun p : BelowBy wr => BelowBy.cell ((HWW2.out.cell (p := ⟨b, off + k * 6, none⟩) hbw).trans c0) p)
                have z1 : Hid (∀ p : BelowBy wr, p.W.cell? ⟨b, off + k * 6 + 1, none⟩ = some (.int .i64 x.kind)) := Lib.hid (fun p : BelowBy wr => BelowBy.cell ((HWW2.out.cell (p := ⟨b, off + k * 6 + 1, none⟩) hbw).trans c1) p)
                have z2 : Hid (∀ p : BelowBy wr, p.W.cell? ⟨b, off + k * 6 + 2, none⟩ = some (.int .i64 x.n)) := Lib.hid (fun p : BelowBy wr => BelowBy.cell ((HWW2.out.cell (p := ⟨b, off + k * 6 + 2, none⟩) hbw).trans c2) p)
                have z3 : Hid (∀ p : BelowBy wr, p.W.cell? ⟨b, off + k * 6 + 3, none⟩ = some (str x.s)) := Lib.hid (fun p : BelowBy wr => BelowBy.cell ((HWW2.out.cell (p := ⟨b, off + k * 6 + 3, none⟩) hbw).trans c3) p)
                have z4 : Hid (∀ p : BelowBy wr, p.W.cell? ⟨b, off + k * 6 + 4, none⟩ = some (.slice a n c)) := Lib.hid (fun p : BelowBy wr => BelowBy.cell ((HWW2.out.cell (p := ⟨b, off + k * 6 + 4, none⟩) hbw).trans c4) p)
                have z5 : Hid (∀ p : BelowBy wr, p.W.cell? ⟨b, off + k * 6 + 5, none⟩ = some (.slice a' n' c')) := Lib.hid (fun p : BelowBy wr => BelowBy.cell ((HWW2.out.cell (p := ⟨b, off + k * 6 + 5, none⟩) hbw).trans c5) p)
                have zb : Hid (∀ p : BelowBy wr, p.W.cell? ⟨w.heap.size, 4, none⟩ = some (.slice (some ⟨b, off, none⟩) v.m.length cm)) := Lib.hid (fun p : BelowBy wr => BelowBy.cell (box_cell (box_up HB.out.2 HW.out) 4) p)
                have HWB := Lib.hid (And.intro HWW2.out (And.intro HW.out (And.intro HWW2.out.size HW.out.size)))
                have hln := (IM.out (nm, x) HM.out).1
                have CT : Hid (∀ W, Calls Tryz.prog 60 #[str nm] W fun e w' => e = .returned (.bool (validB nm)) ∧ Below W.heap.size W w') := Lib.hid (fun W => (refValid_any nm W hln).mono fun e w' ⟨h1, h2⟩ => ⟨h1, by rw [h2]; exact Below.refl _ _⟩)
                have CM : Hid (∀ p : BelowBy wr, Calls Tryz.prog 37 #[.agg #[.int .i64 x.kind, .int .i64 x.n, str x.s, .slice a n c, .slice a' n' c'], .int .i64 D1] p.W fun e w' => e = .returned (.bool (mayV x d1)) ∧ Below p.W.heap.size p.W w') := Lib.hid (fun p => (IM.out (nm, x) HM.out).2 F p.W _ d1 D1 HD1.out.1 HD1.out.2.1 ((hx.up HWW2.out).up p.h))
                have HTX : Hid (txF nm = (decide (nm.length ≤ 8000) && validB nm)) := Lib.hid rfl
                clear hx c0 c1 c2 c3 c4 c5 HM hln hbw
                cases hV : validB nm with
                | false =>
                  have HF : Hid (RES = false) := Lib.hid (by rw [HK2, HTX.out, hV, Bool.and_false, Bool.and_false]; rfl)
                  rw [hV] at CT
                  clear hV HK2
                  go_wp2_with fail
                  refine wp_region_quiet_below (by kernel_rfl) (by kernel_rfl) ?_
                  repeat (first | go_big_quiet_skip | (go_big_quiet_want; go_big_quiet_op; first | go_big_quiet_on | (simp only [zb.out, z0.out, Result.andThen, true_and, forall_const, exists_eq_left']; go_big_quiet_on) | go_big_quiet_call (first | (go_at_call 60; exact Calls.below_of (CT.out _)) | (go_at_call 37; exact Calls.below_of (CM.out _)))) | fail)
                  refine wpQuiet_nil ?_
                  rintro w3 ⟨⟨_, hb3⟩, rfl⟩
                  have HX := Lib.hid (HWB.out.1.trans (hb3.mono HWB.out.2.2.1))
                  clear hb3 CM CT
                  go_wp2_with fail
                  go_ret
                  exact ⟨by rw [HF.out]; rfl, HX.out⟩
                | true =>
                  rw [hV] at CT
                  by_cases h8 : nm.length ≤ 8000
                  · have hL8 : decide (nm.length ≤ 8000) = true := decide_eq_true h8
                    have y8 : decide ((8000 : Int) < (nm.length : Int)) = false := decide_eq_false (by omega)
                    clear h8
                    by_cases h0 : k = 0
                    · have y1 : decide ((0 : Int) < (k : Int)) = false := decide_eq_false (by omega)
                      have y2 : decide (0 < k) = false := decide_eq_false (by omega)
                      have HA : Hid (aftB (prvN v.m k) nm = true) := Lib.hid (by rw [h0]; rfl)
                      clear h0
                      cases hB : mayV x d1 with
                      | false =>
                        have HF : Hid (RES = false) := Lib.hid (by rw [HK2, HA.out, HTX.out, hV, hL8, hB]; rfl)
                        rw [hB] at CM
                        clear hB HK2 HA
                        go_wp2_with fail
                        refine wp_region_quiet_below (by kernel_rfl) (by kernel_rfl) ?_
                        repeat (first | go_big_quiet_skip | (go_big_quiet_want; go_big_quiet_op; first | go_big_quiet_on | (simp only [zb.out, z0.out, z1.out, z2.out, z3.out, z4.out, z5.out, Result.andThen, true_and, forall_const, exists_eq_left']; go_big_quiet_on) | go_big_quiet_call (first | (go_at_call 60; exact Calls.below_of (CT.out _)) | (go_at_call 37; exact Calls.below_of (CM.out _)))) | fail)
                        refine wpQuiet_nil ?_
                        rintro w3 ⟨⟨_, hb3⟩, rfl⟩
                        have HX := Lib.hid (HWB.out.1.trans (hb3.mono HWB.out.2.2.1))
                        clear hb3 CM CT
                        go_wp2_with fail
                        go_ret
                        exact ⟨by rw [HF.out]; rfl, HX.out⟩
                      | true =>
                        have HF : Hid (RES = mayM (v.m.drop (k + 1)) (prvN v.m (k + 1)) d1) := Lib.hid (by rw [HK2, HA.out, HTX.out, hV, hL8, hB, HNX.out]; rfl)
                        rw [hB] at CM
                        clear hB HK2 HA
                        go_wp2_with fail
                        refine wp_region_quiet_below (by kernel_rfl) (by kernel_rfl) ?_
                        repeat (first | go_big_quiet_skip | (go_big_quiet_want; go_big_quiet_op; first | go_big_quiet_on | (simp only [zb.out, z0.out, z1.out, z2.out, z3.out, z4.out, z5.out, Result.andThen, true_and, forall_const, exists_eq_left']; go_big_quiet_on) | go_big_quiet_call (first | (go_at_call 60; exact Calls.below_of (CT.out _)) | (go_at_call 37; exact Calls.below_of (CM.out _)))) | fail)
                        refine wpQuiet_nil ?_
                        rintro w3 ⟨⟨_, hb3⟩, rfl⟩
                        have HX := Lib.hid (HWB.out.2.1.trans (hb3.mono HWB.out.2.2.2))
                        clear hb3 CM CT
                        go_wp2_with fail
                        go_roundw
                        case rel => exact ⟨k + 1, by omega, by go_num, HF, HX⟩
                        case measure => simp [intOf]; omega
                    · have y1 : decide ((0 : Int) < (k : Int)) = true := decide_eq_true (by omega)
                      have y2 : decide (0 < k) = true := decide_eq_true (by omega)
                      obtain ⟨j, rfl⟩ : ∃ j, k = j + 1 := ⟨k - 1, by omega⟩
                      have hjl : j < v.m.length := by omega
                      have tj : IntKind.i64.wrap (((j + 1 : Nat) : Int) - 1) = (j : Int) := by rw [show (((j + 1 : Nat) : Int)) - 1 = (j : Int) by omega]; exact IntWalk.i64_in _ (by omega)
                      have tj' : IntKind.i64.wrap ((j : Int) + 1 - 1) = (j : Int) := by rw [show (j : Int) + 1 - 1 = (j : Int) by omega]; exact IntWalk.i64_in _ (by omega)
                      have gm : (j : Int) < (v.m.length : Int) := by omega
                      have gm0 : (0 : Int) ≤ (j : Int) := by omega
                      obtain ⟨b', off', _, _, _, _, _, _, hE, _, hbw', _, c0, _⟩ := RdJ.memb HL.out.2.2.1 HL.out.2.2.2 hjl
                      cases hE
                      have HPV : Hid (prvN v.m (j + 1) = some v.m[j].1) := Lib.hid (prvN_succ v.m j hjl)
                      obtain ⟨q, hq⟩ : ∃ q, q = v.m[j].1 := ⟨_, rfl⟩
                      rw [← hq] at c0 HPV
                      have zq := Lib.hid (fun p : BelowBy wr => BelowBy.cell ((HWB.out.1.cell (p := ⟨b, off + j * 6, none⟩) hbw').trans c0) p)
                      clear c0 hq hbw'
                      cases u1 : Op.bytesLess nm q with
                      | true =>
                        have u2 : (nm == q) = false := by rw [beq_eq_false_iff_ne]; rintro rfl; rw [bl_irr] at u1; cases u1
                        have HA : Hid (aftB (prvN v.m (j + 1)) nm = false) := Lib.hid (by
                          rw [HPV.out]
                          show Op.bytesLess q nm = false
                          cases h2 : Op.bytesLess q nm with
                          | false => rfl
                          | true => have := bl_tr _ _ _ u1 h2; rw [bl_irr] at this; cases this)
                        have HF : Hid (RES = false) := Lib.hid (by rw [HK2, HA.out]; rfl)
                        clear HK2 HA
                        go_wp2_with fail
                        refine wp_region_quiet_below (by kernel_rfl) (by kernel_rfl) ?_
                        repeat (first | go_big_quiet_skip | (go_big_quiet_want; go_big_quiet_op; first | go_big_quiet_on | (simp only [zb.out, z0.out, zq.out, Result.andThen, true_and, forall_const, exists_eq_left']; go_big_quiet_on) | go_big_quiet_call (first | (go_at_call 60; exact Calls.below_of (CT.out _)) | (go_at_call 37; exact Calls.below_of (CM.out _)))) | fail)
                        refine wpQuiet_nil ?_
                        rintro w3 ⟨⟨_, hb3⟩, rfl⟩
                        have HX := Lib.hid (HWB.out.1.trans (hb3.mono HWB.out.2.2.1))
                        clear hb3 CM CT
                        go_wp2_with fail
                        go_ret
                        exact ⟨by rw [HF.out]; rfl, HX.out⟩
                      | false =>
                        cases u2 : (nm == q) with
                        | true =>
                          have HA : Hid (aftB (prvN v.m (j + 1)) nm = false) := Lib.hid (by
                            rw [HPV.out]
                            show Op.bytesLess q nm = false
                            rw [eq_of_beq u2]
                            exact bl_irr _)
                          have HF : Hid (RES = false) := Lib.hid (by rw [HK2, HA.out]; rfl)
                          clear HK2 HA
                          go_wp2_with fail
                          refine wp_region_quiet_below (by kernel_rfl) (by kernel_rfl) ?_
                          repeat (first | go_big_quiet_skip | (go_big_quiet_want; go_big_quiet_op; first | go_big_quiet_on | (simp only [zb.out, z0.out, zq.out, Result.andThen, true_and, forall_const, exists_eq_left']; go_big_quiet_on) | go_big_quiet_call (first | (go_at_call 60; exact Calls.below_of (CT.out _)) | (go_at_call 37; exact Calls.below_of (CM.out _)))) | fail)
                          refine wpQuiet_nil ?_
                          rintro w3 ⟨⟨_, hb3⟩, rfl⟩
                          have HX := Lib.hid (HWB.out.1.trans (hb3.mono HWB.out.2.2.1))
                          clear hb3 CM CT
                          go_wp2_with fail
                          go_ret
                          exact ⟨by rw [HF.out]; rfl, HX.out⟩
                        | false =>
                          have hqn : ¬ nm = q := by intro e; rw [e, beq_self_eq_true] at u2; cases u2
                          have HA : Hid (aftB (prvN v.m (j + 1)) nm = true) := Lib.hid (by
                            rw [HPV.out]
                            show Op.bytesLess q nm = true
                            cases h2 : Op.bytesLess q nm with
                      | true => rfl
                      | false => exact absurd (bl_tot _ _ u1 h2) hqn)
                          clear hqn
                          cases hB : mayV x d1 with
                          | false =>
                            have HF : Hid (RES = false) := Lib.hid (by rw [HK2, HA.out, HTX.out, hV, hL8, hB]; rfl)
                            rw [hB] at CM
                            clear hB HK2 HA
                            go_wp2_with fail
                            refine wp_region_quiet_below (by kernel_rfl) (by kernel_rfl) ?_
                            repeat (first | go_big_quiet_skip | (go_big_quiet_want; go_big_quiet_op; first | go_big_quiet_on | (simp only [zb.out, z0.out, z1.out, z2.out, z3.out, z4.out, z5.out, zq.out, Result.andThen, true_and, forall_const, exists_eq_left']; go_big_quiet_on) | go_big_quiet_call (first | (go_at_call 60; exact Calls.below_of (CT.out _)) | (go_at_call 37; exact Calls.below_of (CM.out _)))) | fail)
                            refine wpQuiet_nil ?_
                            rintro w3 ⟨⟨_, hb3⟩, rfl⟩
                            have HX := Lib.hid (HWB.out.1.trans (hb3.mono HWB.out.2.2.1))
                            clear hb3 CM CT
                            go_wp2_with fail
                            go_ret
                            exact ⟨by rw [HF.out]; rfl, HX.out⟩
                          | true =>
                            have HF : Hid (RES = mayM (v.m.drop ((j + 1) + 1)) (prvN v.m ((j + 1) + 1)) d1) := Lib.hid (by rw [HK2, HA.out, HTX.out, hV, hL8, hB, HNX.out]; rfl)
                            rw [hB] at CM
                            clear hB HK2 HA
                            go_wp2_with fail
                            refine wp_region_quiet_below (by kernel_rfl) (by kernel_rfl) ?_
                            repeat (first | go_big_quiet_skip | (go_big_quiet_want; go_big_quiet_op; first | go_big_quiet_on | (simp only [zb.out, z0.out, z1.out, z2.out, z3.out, z4.out, z5.out, zq.out, Result.andThen, true_and, forall_const, exists_eq_left']; go_big_quiet_on) | go_big_quiet_call (first | (go_at_call 60; exact Calls.below_of (CT.out _)) | (go_at_call 37; exact Calls.below_of (CM.out _)))) | fail)
                            refine wpQuiet_nil ?_
                            rintro w3 ⟨⟨_, hb3⟩, rfl⟩
                            have HX := Lib.hid (HWB.out.2.1.trans (hb3.mono HWB.out.2.2.2))
                            clear hb3 CM CT
                            go_wp2_with fail
                            go_roundw
                            case rel => exact ⟨(j + 1) + 1, by omega, by go_num, HF, HX⟩
                            case measure => simp [intOf]; omega
                  · have y8 : decide ((8000 : Int) < (nm.length : Int)) = true := decide_eq_true (by omega)
                    have HF : Hid (RES = false) := Lib.hid (by rw [HK2, HTX.out, decide_eq_false h8, Bool.false_and, Bool.and_false]; rfl)
                    clear HK2 hV h8
                    go_wp2_with fail
                    refine wp_region_quiet_below (by kernel_rfl) (by kernel_rfl) ?_
                    repeat (first | go_big_quiet_skip | (go_big_quiet_want; go_big_quiet_op; first | go_big_quiet_on | (simp only [zb.out, z0.out, Result.andThen, true_and, forall_const, exists_eq_left']; go_big_quiet_on) | go_big_quiet_call (first | (go_at_call 60; exact Calls.below_of (CT.out _)) | (go_at_call 37; exact Calls.below_of (CM.out _)))) | fail)
                    refine wpQuiet_nil ?_
                    rintro w3 ⟨⟨_, hb3⟩, rfl⟩
                    have HX := Lib.hid (HWB.out.1.trans (hb3.mono HWB.out.2.2.1))
                    clear hb3 CM CT
                    go_wp2_with fail
                    go_ret
                    exact ⟨by rw [HF.out]; rfl, HX.out⟩
              · obtain rfl : k = v.m.length := by omega
                have n2 : ¬ (v.m.length : Int) < (v.m.length : Int) := by omega
                have HE : Hid (RES = true) := Lib.hid (by rw [HK.out, List.drop_length]; rfl)
                go_wp2_with fail
                go_ret
                exact ⟨by rw [HE.out]; rfl, HWW2.out⟩
theorem rjmay_all (v : JV) : RMayC v := JV.ind rjmay_step v
/-- May tells a value that may be. -/
theorem rMay_any (v : JV) (hst : stV v) (F : Nat → Prop) (w : World) (cs : List Value) (h : RdJ w F v cs) : Calls Tryz.prog 22 #[.agg cs.toArray] w fun e w' => e = .returned (.bool (mayV v 64)) ∧ Below w.heap.size w w' := by
  have C := Lib.hid (fun W (hb : Below w.heap.size w W) => rjmay_all v hst F W cs 64 64 rfl (by omega) (h.up hb))
  obtain ⟨a1, n1, c1, a2, n2, c2, rfl, _, _⟩ := h.open
  obtain ⟨R, hR⟩ : ∃ R, R = mayV v 64 := ⟨_, rfl⟩
  rw [← hR] at C ⊢
  clear hst h hR
  go_enter Tryz.func22, Tryz.ntmps22
  go_wp2_with fail
  refine (C.out _ ?_).mono ?_
  · first | exact Below.refl _ _ | exact below_alloc _ _
  rintro e w2 ⟨rfl, hb2⟩
  have HX : Hid (Below w.heap.size w w2) := Lib.hid (by first | exact hb2 | exact (below_alloc w _).trans (hb2.mono (below_alloc w _).size))
  clear hb2 C
  go_wp2_with fail
  go_ret
  exact ⟨rfl, HX.out⟩
end Go.Proofs.YtidlhajibjnkeaaGreatDoor
