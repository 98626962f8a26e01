import Derived.Test.YtegblhmcfemfgaaGreatDoorWTake
import Derived.Test.YtegblhmcfemfgaaGreatDoorJMay
import Derived.Test.YtegblhmcfemfgaaGreatDoorRSign
import Derived.Deep.CutRange
import Derived.Test.YtegblhmcfemfgaaGreatDoorSignAt
import Derived.Test.YtegblhmcfemfgaaGreatDoorTLaw
import Derived.Lib.ItoaNum
import Derived.Deep.RegionWith
import Derived.Test.YtegblhmcfemfgaaGreatDoorRQuo
import Derived.Test.YtegblhmcfemfgaaGreatDoorJPrn
import Derived.Test.YtegblhmcfemfgaaGreatDoorJStr
import Derived.Deep.LoopGhost
import Derived.Test.YtegblhmcfemfgaaGreatDoorKeys
import Derived.Test.YtegblhmcfemfgaaGreatDoorRwPut2
import Derived.Deep.RegionHeld3
namespace Go.Proofs.YtegblhmcfemfgaaGreatDoor
open Go.RowKit

mutual
def stV : JV → Prop
 | .mk _ _ s l m => s.length ≤ 9223372036854775807 ∧ stL l ∧ stM m
def stL : List JV → Prop
 | [] => True
 | v :: t => stV v ∧ stL t
def stM : List (List UInt8 × JV) → Prop
 | [] => True
 | (nm, v) :: t => nm.length ≤ 9223372036854775807 ∧ stV v ∧ stM t
end
theorem stL_mem : ∀ {l : List JV} {x : JV}, stL l → x ∈ l → stV x
 | v :: t, x, h, hx => by
   unfold stL at h
   rcases List.mem_cons.1 hx with rfl | hx
   · exact h.1
   exact stL_mem h.2 hx
theorem stM_mem : ∀ {l : List MemT} {x : MemT}, stM l → x ∈ l → x.1.length ≤ 9223372036854775807 ∧ stV x.2
 | (a, v) :: t, x, h, hx => by
   unfold stM at h
   rcases List.mem_cons.1 hx with rfl | hx
   · exact ⟨h.1, h.2.1⟩
   exact stM_mem h.2.2 hx
theorem stV_open {v : JV} (h : stV v) : v.s.length ≤ 9223372036854775807 ∧ stL v.l ∧ stM v.m := by
 obtain ⟨k, n, s, l, m⟩ := v
 unfold stV at h
 exact h
def e1B (a1 a2 a3 b4 c4 b5 c5 b6 c6 b7 c7 : Bool) : Bool := a1 || a2 || a3 || (b4 && c4) || (b5 && !c5) || (b6 && c6) || (b7 && c7)
def e2B (q3 q4 qv q8 : Bool) : Bool := q3 || q4 || !qv || q8
theorem lt_dec (d : Nat) : decide (0 < d) = !(decide ((d : Int) < 1)) := by
 rw [← decide_not]; congr 1; exact propext (by omega)
theorem pos_dec (l : Nat) : decide (l = 0) = !(decide ((0 : Int) < (l : Int))) := by
 rw [← decide_not]; congr 1; exact propext (by omega)
theorem may_e (v : JV) (d : Nat) : mayV v d = (!(e1B (decide ((d : Int) < 1)) (decide (v.kind < 1)) (decide (7 < v.kind)) (v.kind != 4) (v.n != 0) (v.kind != 5) v.s.isEmpty (v.kind != 6) (decide ((0 : Int) < (v.l.length : Int))) (v.kind != 7) (decide ((0 : Int) < (v.m.length : Int)))) && !(e2B (decide (v.n < -9007199254740991)) (decide (9007199254740991 < v.n)) (validB v.s) (decide ((8000 : Int) < (v.s.length : Int)))) && (mayL v.l (d - 1) && mayM v.m none (d - 1))) := by
 rw [mayV_mk]
 unfold fitV txF e1B e2B
 have e0 : decide (0 < d) = !(decide ((d : Int) < 1)) := lt_dec d
 have e1 : decide (1 ≤ v.kind) = !(decide (v.kind < 1)) := by rw [← decide_not]; congr 1; exact propext Int.not_lt.symm
 have e2 : decide (v.kind ≤ 7) = !(decide (7 < v.kind)) := by rw [← decide_not]; congr 1; exact propext Int.not_lt.symm
 have e3 : decide (-9007199254740991 ≤ v.n) = !(decide (v.n < -9007199254740991)) := by rw [← decide_not]; congr 1; exact propext Int.not_lt.symm
 have e4 : decide (v.n ≤ 9007199254740991) = !(decide (9007199254740991 < v.n)) := by rw [← decide_not]; congr 1; exact propext Int.not_lt.symm
 have e5 : decide (v.s = []) = v.s.isEmpty := by cases v.s <;> rfl
 have e6 : decide (v.s.length ≤ 8000) = !(decide ((8000 : Int) < (v.s.length : Int))) := by rw [← decide_not]; congr 1; exact propext (by omega)
 rw [e0, e1, e2, e3, e4, e5, e6, ne_dec v.kind 4, ne_dec v.n 0, ne_dec v.kind 5, ne_dec v.kind 6, ne_dec v.kind 7, pos_dec, pos_dec]
 generalize decide ((d : Int) < 1) = x1
 generalize decide (v.kind < 1) = x2
 generalize decide (7 < v.kind) = x3
 generalize (v.kind != 4) = x4
 generalize (v.n != 0) = x5
 generalize (v.kind != 5) = x6
 generalize v.s.isEmpty = x7
 generalize (v.kind != 6) = x8
 generalize decide ((0 : Int) < (v.l.length : Int)) = x9
 generalize (v.kind != 7) = y1
 generalize decide ((0 : Int) < (v.m.length : Int)) = y2
 generalize decide (v.n < -9007199254740991) = y3
 generalize decide (9007199254740991 < v.n) = y4
 generalize validB v.s = y5
 generalize decide ((8000 : Int) < (v.s.length : Int)) = y6
 generalize mayL v.l (d - 1) = y7
 generalize mayM v.m none (d - 1) = y8
 cases x1 <;> cases x2 <;> cases x3 <;> cases y3 <;> cases y4 <;> cases y5 <;> cases y6 <;> simp <;> (cases x4 <;> cases x5 <;> cases x6 <;> cases x7 <;> simp [Bool.and_assoc])
def RMayC (v : JV) : Prop := stV v → ∀ (F : Nat → Prop) (w : World) (cs : List Value) (d : Nat) (D : Int), D = (d : Int) → d ≤ 1000 → RdJ w F v cs →
 Calls Tryz.prog 133 #[.agg cs.toArray, .int .i64 D] w fun e w' => e = .returned (.bool (mayV v d)) ∧ Below w.heap.size w w'
set_option maxRecDepth 100000 in
set_option maxHeartbeats 64000000 in
theorem rjmay_step (v : JV) (IHL : ∀ x ∈ v.l, RMayC x) (IHM : ∀ x ∈ v.m, RMayC x.2) : RMayC v := by
 intro hst F w cs d D hD hd h
 obtain ⟨hs1, hs2, hs3⟩ := stV_open hst
 obtain ⟨al, ll, cl, am, lm, cm, rfl, ⟨rl, hrl, hll, rfl⟩, rm, hrm, hmm, rfl⟩ := h.open
 have g0 : v.l.length ≤ 9223372036854775807 := (hrl.lens).2.1
 have g1 : v.m.length ≤ 9223372036854775807 := (hrm.lens).2.1
 obtain ⟨W1, hW1⟩ : ∃ W1, W1 = w.alloc (.cells #[.int .i64 v.kind, .int .i64 v.n, str v.s, .slice al v.l.length cl, .slice am v.m.length cm] 95) := ⟨_, rfl⟩
 have hb1 : Below w.heap.size w W1 := by rw [hW1]; exact below_alloc _ _
 have hbx : W1.heap[w.heap.size]? = some (.cells #[.int .i64 v.kind, .int .i64 v.n, str v.s, .slice al v.l.length cl, .slice am v.m.length cm] 95 (0, 0)) := by rw [hW1]; exact heap_alloc_new _ _
 have HB := Lib.hid (And.intro hb1 hbx)
 obtain ⟨RES, hRES⟩ : ∃ RES, RES = mayV v d := ⟨_, rfl⟩
 rw [← hRES]
 rw [may_e] at hRES
 have HL := Lib.hid (And.intro hrl (And.intro hll (And.intro hrm hmm)))
 have IL : Hid (∀ x ∈ v.l, ∀ (F : Nat → Prop) (w : World) (cs : List Value) (d : Nat) (D : Int), D = (d : Int) → d ≤ 1000 → RdJ w F x cs → Calls Tryz.prog 133 #[.agg cs.toArray, .int .i64 D] w fun e w' => e = .returned (.bool (mayV x d)) ∧ Below w.heap.size w w') := Lib.hid (fun x hx => IHL x hx (stL_mem hs2 hx))
 have IM : Hid (∀ x ∈ v.m, x.1.length ≤ 9223372036854775807 ∧ ∀ (F : Nat → Prop) (w : World) (cs : List Value) (d : Nat) (D : Int), D = (d : Int) → d ≤ 1000 → RdJ w F x.2 cs → Calls Tryz.prog 133 #[.agg cs.toArray, .int .i64 D] w fun e w' => e = .returned (.bool (mayV x.2 d)) ∧ Below w.heap.size w w') := Lib.hid (fun x hx => ⟨(stM_mem hs3 hx).1, IHM x hx (stM_mem hs3 hx).2⟩)
 clear IHL IHM hst hs2 hs3 hrl hll hrm hmm h hb1 hbx
 have CV : Hid (∀ W, Calls Tryz.prog 79 #[str v.s] W fun e w' => e = .returned (.bool (validB v.s)) ∧ w' = W) := Lib.hid (fun W => refValid_any v.s W hs1)
 clear hs1
 rw [← hD] at hRES
 obtain ⟨a1, ha1⟩ : ∃ b, b = decide (D < 1) := ⟨_, rfl⟩
 obtain ⟨a2, ha2⟩ : ∃ b, b = decide (v.kind < 1) := ⟨_, rfl⟩
 obtain ⟨a3, ha3⟩ : ∃ b, b = decide (7 < v.kind) := ⟨_, rfl⟩
 obtain ⟨b4, hb4⟩ : ∃ b, b = (v.kind != 4) := ⟨_, rfl⟩
 obtain ⟨c4, hc4⟩ : ∃ b, b = (v.n != 0) := ⟨_, rfl⟩
 obtain ⟨b5, hb5⟩ : ∃ b, b = (v.kind != 5) := ⟨_, rfl⟩
 obtain ⟨b6, hb6⟩ : ∃ b, b = (v.kind != 6) := ⟨_, rfl⟩
 obtain ⟨c6, hc6⟩ : ∃ b, b = decide ((0 : Int) < (v.l.length : Int)) := ⟨_, rfl⟩
 obtain ⟨b7, hb7⟩ : ∃ b, b = (v.kind != 7) := ⟨_, rfl⟩
 obtain ⟨c7, hc7⟩ : ∃ b, b = decide ((0 : Int) < (v.m.length : Int)) := ⟨_, rfl⟩
 obtain ⟨q3, hq3⟩ : ∃ b, b = decide (v.n < -9007199254740991) := ⟨_, rfl⟩
 obtain ⟨q4, hq4⟩ : ∃ b, b = decide (9007199254740991 < v.n) := ⟨_, rfl⟩
 obtain ⟨qv, hqv⟩ : ∃ b, b = validB v.s := ⟨_, rfl⟩
 obtain ⟨q8, hq8⟩ : ∃ b, b = decide ((8000 : Int) < (v.s.length : Int)) := ⟨_, rfl⟩
 rw [← ha1, ← ha2, ← ha3, ← hb4, ← hc4, ← hb5, ← hb6, ← hc6, ← hb7, ← hc7, ← hq3, ← hq4, ← hqv, ← hq8] at hRES
 obtain ⟨B1, hB1⟩ : ∃ B1, B1 = e1B a1 a2 a3 b4 c4 b5 v.s.isEmpty b6 c6 b7 c7 := ⟨_, rfl⟩
 obtain ⟨B2, hB2⟩ : ∃ B2, B2 = e2B q3 q4 qv q8 := ⟨_, rfl⟩
 rw [← hB1, ← hB2] at hRES
 have HRES := Lib.hid hRES
 have HB1 := Lib.hid hB1
 have HB2 := Lib.hid hB2
 have HA1 : Hid (a1 = decide (D < 1)) := Lib.hid ha1
 have HDD := Lib.hid (And.intro hD hd)
 rw [← hqv] at CV
 clear hRES hB1 hB2 hqv hD hd
 by_cases h1 : D < 1
 · have y1 : decide (D < 1) = true := decide_eq_true h1
   have HF : Hid (RES = false) := Lib.hid (by rw [HRES.out, HB1.out, ha1, y1]; rfl)
   clear ha1 ha2 ha3 hb4 hc4 hb5 hb6 hc6 hb7 hc7 hq3 hq4 hq8 HRES HB1 HB2 HA1 IL IM HL CV h1
   go_enter Tryz.func133, Tryz.ntmps133
   go_wp2_with fail
   rw [← hW1]
   go_ret
   exact ⟨by rw [HF.out]; rfl, HB.out.1⟩
 have y1 : decide (D < 1) = false := decide_eq_false h1
 obtain ⟨d1, hdd⟩ : ∃ d1, d = d1 + 1 := ⟨d - 1, by have := HDD.out.1; omega⟩
 obtain ⟨D1, hD1⟩ : ∃ D1 : Int, D1 = (d1 : Int) := ⟨_, rfl⟩
 have tm : IntKind.i64.wrap (D - 1) = D1 := by
  have := HDD.out
  rw [show D - 1 = (d1 : Int) by omega, hD1]
  exact IntWalk.i64_in _ (by omega)
 have HD1 : Hid (D1 = (d1 : Int) ∧ d1 ≤ 1000 ∧ d - 1 = d1) := Lib.hid ⟨hD1, by have := HDD.out; omega, by omega⟩
 rw [y1] at ha1
 subst ha1
 have HP2 : Hid (v.s = v.s) := Lib.hid rfl
 have HAA := Lib.hid (And.intro ha2 (And.intro ha3 (And.intro hb4 (And.intro hc4 (And.intro hb5 (And.intro hb6 (And.intro hc6 (And.intro hb7 hc7))))))))
 have HQQ := Lib.hid (And.intro hq3 (And.intro hq4 hq8))
 clear ha2 ha3 hb4 hc4 hb5 hb6 hc6 hb7 hc7 hq3 hq4 hq8 hdd hD1 h1 HA1 HDD
 go_enter Tryz.func133, Tryz.ntmps133
 go_upto_region 1 with fail
 rw [← hW1]
 clear hW1
 generalize (Value.agg #[.int .i64 v.kind, .int .i64 v.n, str v.s, .slice al v.l.length cl, .slice am v.m.length cm]) = A0
 go_cut [60] from 7 to 60 (fun v60 wc => v60 = .bool B1 ∧ W1 = wc)
 case first =>
  obtain ⟨p0, p1, p2, p3, p4⟩ := box5 HB.out.2
  obtain ⟨ha2, ha3, hb4, hc4, hb5, hb6, hc6, hb7, hc7⟩ := HAA.out
  replace ha2 := ha2.symm
  replace ha3 := ha3.symm
  replace hb4 := hb4.symm
  replace hc4 := hc4.symm
  replace hb5 := hb5.symm
  replace hb6 := hb6.symm
  replace hc6 := hc6.symm
  have hn6 : decide (0 < v.l.length) = c6 := by rw [← hc6]; congr 1; exact propext (by omega)
  replace hb7 := hb7.symm
  replace hc7 := hc7.symm
  have hn7 : decide (0 < v.m.length) = c7 := by rw [← hc7]; congr 1; exact propext (by omega)
  clear HAA HQQ HRES HB2 IL IM HL CV tm HD1 HB
  cases a2 with
  | false =>
   cases a3 with
   | false =>
    cases b4 with
    | false =>
     cases b5 with
     | false =>
      cases b6 with
      | false =>
       cases b7 with
       | false =>
        as_aux_lemma =>
         go_wp2_with fail
         go_meet
         case rel => exact ⟨congrArg Value.bool (by rw [HB1.out]; rfl), rfl⟩
       | true =>
        cases c7 with
        | false =>
         as_aux_lemma =>
          go_wp2_with fail
          go_meet
          case rel => exact ⟨congrArg Value.bool (by rw [HB1.out]; rfl), rfl⟩
        | true =>
         as_aux_lemma =>
          go_wp2_with fail
          go_meet
          case rel => exact ⟨congrArg Value.bool (by rw [HB1.out]; rfl), rfl⟩
      | true =>
       cases c6 with
       | false =>
        cases b7 with
        | false =>
         as_aux_lemma =>
          go_wp2_with fail
          go_meet
          case rel => exact ⟨congrArg Value.bool (by rw [HB1.out]; rfl), rfl⟩
        | true =>
         cases c7 with
         | false =>
          as_aux_lemma =>
           go_wp2_with fail
           go_meet
           case rel => exact ⟨congrArg Value.bool (by rw [HB1.out]; rfl), rfl⟩
         | true =>
          as_aux_lemma =>
           go_wp2_with fail
           go_meet
           case rel => exact ⟨congrArg Value.bool (by rw [HB1.out]; rfl), rfl⟩
       | true =>
        as_aux_lemma =>
         go_wp2_with fail
         go_meet
         case rel => exact ⟨congrArg Value.bool (by rw [HB1.out]; rfl), rfl⟩
     | true =>
      cases hs : v.s with
      | nil =>
       rw [hs] at HP2 HB1
       cases b6 with
       | false =>
        cases b7 with
        | false =>
         as_aux_lemma =>
          go_wp2_with fail
          go_meet
          case rel => exact ⟨congrArg Value.bool (by rw [HB1.out]; rfl), rfl⟩
        | true =>
         cases c7 with
         | false =>
          as_aux_lemma =>
           go_wp2_with fail
           go_meet
           case rel => exact ⟨congrArg Value.bool (by rw [HB1.out]; rfl), rfl⟩
         | true =>
          as_aux_lemma =>
           go_wp2_with fail
           go_meet
           case rel => exact ⟨congrArg Value.bool (by rw [HB1.out]; rfl), rfl⟩
       | true =>
        cases c6 with
        | false =>
         cases b7 with
         | false =>
          as_aux_lemma =>
           go_wp2_with fail
           go_meet
           case rel => exact ⟨congrArg Value.bool (by rw [HB1.out]; rfl), rfl⟩
         | true =>
          cases c7 with
          | false =>
           as_aux_lemma =>
            go_wp2_with fail
            go_meet
            case rel => exact ⟨congrArg Value.bool (by rw [HB1.out]; rfl), rfl⟩
          | true =>
           as_aux_lemma =>
            go_wp2_with fail
            go_meet
            case rel => exact ⟨congrArg Value.bool (by rw [HB1.out]; rfl), rfl⟩
        | true =>
         as_aux_lemma =>
          go_wp2_with fail
          go_meet
          case rel => exact ⟨congrArg Value.bool (by rw [HB1.out]; rfl), rfl⟩
      | cons c0 s0 =>
       rw [hs] at HP2 HB1
       as_aux_lemma =>
        go_wp2_with fail
        go_meet
        case rel => exact ⟨congrArg Value.bool (by rw [HB1.out]; rfl), rfl⟩
    | true =>
     cases c4 with
     | false =>
      cases b5 with
      | false =>
       cases b6 with
       | false =>
        cases b7 with
        | false =>
         as_aux_lemma =>
          go_wp2_with fail
          go_meet
          case rel => exact ⟨congrArg Value.bool (by rw [HB1.out]; rfl), rfl⟩
        | true =>
         cases c7 with
         | false =>
          as_aux_lemma =>
           go_wp2_with fail
           go_meet
           case rel => exact ⟨congrArg Value.bool (by rw [HB1.out]; rfl), rfl⟩
         | true =>
          as_aux_lemma =>
           go_wp2_with fail
           go_meet
           case rel => exact ⟨congrArg Value.bool (by rw [HB1.out]; rfl), rfl⟩
       | true =>
        cases c6 with
        | false =>
         cases b7 with
         | false =>
          as_aux_lemma =>
           go_wp2_with fail
           go_meet
           case rel => exact ⟨congrArg Value.bool (by rw [HB1.out]; rfl), rfl⟩
         | true =>
          cases c7 with
          | false =>
           as_aux_lemma =>
            go_wp2_with fail
            go_meet
            case rel => exact ⟨congrArg Value.bool (by rw [HB1.out]; rfl), rfl⟩
          | true =>
           as_aux_lemma =>
            go_wp2_with fail
            go_meet
            case rel => exact ⟨congrArg Value.bool (by rw [HB1.out]; rfl), rfl⟩
        | true =>
         as_aux_lemma =>
          go_wp2_with fail
          go_meet
          case rel => exact ⟨congrArg Value.bool (by rw [HB1.out]; rfl), rfl⟩
      | true =>
       cases hs : v.s with
       | nil =>
        rw [hs] at HP2 HB1
        cases b6 with
        | false =>
         cases b7 with
         | false =>
          as_aux_lemma =>
           go_wp2_with fail
           go_meet
           case rel => exact ⟨congrArg Value.bool (by rw [HB1.out]; rfl), rfl⟩
         | true =>
          cases c7 with
          | false =>
           as_aux_lemma =>
            go_wp2_with fail
            go_meet
            case rel => exact ⟨congrArg Value.bool (by rw [HB1.out]; rfl), rfl⟩
          | true =>
           as_aux_lemma =>
            go_wp2_with fail
            go_meet
            case rel => exact ⟨congrArg Value.bool (by rw [HB1.out]; rfl), rfl⟩
        | true =>
         cases c6 with
         | false =>
          cases b7 with
          | false =>
           as_aux_lemma =>
            go_wp2_with fail
            go_meet
            case rel => exact ⟨congrArg Value.bool (by rw [HB1.out]; rfl), rfl⟩
          | true =>
           cases c7 with
           | false =>
            as_aux_lemma =>
             go_wp2_with fail
             go_meet
             case rel => exact ⟨congrArg Value.bool (by rw [HB1.out]; rfl), rfl⟩
           | true =>
            as_aux_lemma =>
             go_wp2_with fail
             go_meet
             case rel => exact ⟨congrArg Value.bool (by rw [HB1.out]; rfl), rfl⟩
         | true =>
          as_aux_lemma =>
           go_wp2_with fail
           go_meet
           case rel => exact ⟨congrArg Value.bool (by rw [HB1.out]; rfl), rfl⟩
       | cons c0 s0 =>
        rw [hs] at HP2 HB1
        as_aux_lemma =>
         go_wp2_with fail
         go_meet
         case rel => exact ⟨congrArg Value.bool (by rw [HB1.out]; rfl), rfl⟩
     | true =>
      as_aux_lemma =>
       go_wp2_with fail
       go_meet
       case rel => exact ⟨congrArg Value.bool (by rw [HB1.out]; rfl), rfl⟩
   | true =>
    as_aux_lemma =>
     go_wp2_with fail
     go_meet
     case rel => exact ⟨congrArg Value.bool (by rw [HB1.out]; rfl), rfl⟩
  | true =>
   as_aux_lemma =>
    go_wp2_with fail
    go_meet
    case rel => exact ⟨congrArg Value.bool (by rw [HB1.out]; rfl), rfl⟩
 case rest =>
 obtain ⟨rfl, rfl⟩ := hcut
 clear HAA HB1 HP2
 cases B1 with
 | true =>
  have HF : Hid (RES = false) := Lib.hid (by rw [HRES.out]; rfl)
  clear HQQ HRES HB2 IL IM HL CV tm HD1
  go_wp2_with fail
  go_ret
  exact ⟨by rw [HF.out]; rfl, HB.out.1⟩
 | false =>
  go_upto_region 3 with fail
  go_cut [80] from 61 to 80 (fun v80 wc => v80 = .bool B2 ∧ W1 = wc)
  case first =>
   have p1 := box_cell HB.out.2 1
   have p2 := box_cell HB.out.2 2
   obtain ⟨hq3, hq4, hq8⟩ := HQQ.out
   replace hq3 := hq3.symm
   replace hq4 := hq4.symm
   replace hq8 := hq8.symm
   clear HQQ HRES IL IM HL tm HD1 HB
   cases q3 with
   | false =>
    cases q4 with
    | false =>
     cases qv with
     | false =>
      as_aux_lemma =>
       go_wp2_with (go_at_call 79; refine (CV.out _).mono ?_; rintro e w' ⟨rfl, rfl⟩)
       go_meet
       case rel => exact ⟨congrArg Value.bool (by rw [HB2.out]; rfl), rfl⟩
     | true =>
      cases q8 with
      | false =>
       as_aux_lemma =>
        go_wp2_with (go_at_call 79; refine (CV.out _).mono ?_; rintro e w' ⟨rfl, rfl⟩)
        go_meet
        case rel => exact ⟨congrArg Value.bool (by rw [HB2.out]; rfl), rfl⟩
      | true =>
       as_aux_lemma =>
        go_wp2_with (go_at_call 79; refine (CV.out _).mono ?_; rintro e w' ⟨rfl, rfl⟩)
        go_meet
        case rel => exact ⟨congrArg Value.bool (by rw [HB2.out]; rfl), rfl⟩
    | true =>
     as_aux_lemma =>
      go_wp2_with (go_at_call 79; refine (CV.out _).mono ?_; rintro e w' ⟨rfl, rfl⟩)
      go_meet
      case rel => exact ⟨congrArg Value.bool (by rw [HB2.out]; rfl), rfl⟩
   | true =>
    as_aux_lemma =>
     go_wp2_with (go_at_call 79; refine (CV.out _).mono ?_; rintro e w' ⟨rfl, rfl⟩)
     go_meet
     case rel => exact ⟨congrArg Value.bool (by rw [HB2.out]; rfl), rfl⟩
  case rest =>
  obtain ⟨rfl, rfl⟩ := hcut
  clear HQQ HB2 CV
  cases B2 with
  | true =>
   have HF : Hid (RES = false) := Lib.hid (by rw [HRES.out]; rfl)
   clear HRES IL IM HL tm HD1
   go_wp2_with fail
   go_ret
   exact ⟨by rw [HF.out]; rfl, HB.out.1⟩
  | false =>
   have HR : Hid (RES = (mayL v.l d1 && mayM v.m none d1)) := Lib.hid (by rw [HRES.out, HD1.out.2.2]; rfl)
   clear HRES
   go_wp2_with fail
   go_loopw [5] (fun v5 wr => ∃ k : Nat, k ≤ v.l.length ∧ v5 = .int .i64 (k : Int) ∧ Hid (RES = (mayL (v.l.drop k) d1 && mayM v.m none d1)) ∧ Hid (Below W1.heap.size W1 wr)) (fun v5 _ => v.l.length - (intOf v5).toNat)
   case atStart => exact ⟨0, Nat.zero_le _, rfl, Lib.hid (by simpa using HR.out), Lib.hid (Below.refl _ _)⟩
   case round =>
    obtain ⟨k, hk, rfl, HK, HW⟩ := hrel
    have HWW := Lib.hid (HB.out.1.trans (HW.out.mono HB.out.1.size))
    have b3 := box_cell (box_up HB.out.2 HW.out) 3
    clear HR
    by_cases hlt : k < v.l.length
    · have n1 : (k : Int) < (v.l.length : Int) := by omega
      have n3 : (0 : Int) ≤ (k : Int) := by omega
      obtain ⟨b, off, a, n, c, a', n', c', rfl, _, hbw, hx, c0, c1, c2, c3, c4⟩ := RdJ.part HL.out.1 HL.out.2.1 hlt
      have HM : Hid (v.l[k] ∈ v.l) := Lib.hid (List.getElem_mem hlt)
      have HK2 := HK.out
      rw [mayL_at hlt] at HK2
      have HK3 := Lib.hid HK2
      clear HK2 HK
      obtain ⟨x, hxx⟩ : ∃ x, x = v.l[k] := ⟨_, rfl⟩
      rw [← hxx] at hx c0 c1 c2 HK3 HM
      clear hxx
      have e0 : wr.cell? ⟨b, off + k * 5, none⟩ = some (.int .i64 x.kind) := (HWW.out.cell (p := ⟨b, off + k * 5, none⟩) hbw).trans c0
      have e1 : wr.cell? ⟨b, off + k * 5 + 1, none⟩ = some (.int .i64 x.n) := (HWW.out.cell (p := ⟨b, off + k * 5 + 1, none⟩) hbw).trans c1
      have e2 : wr.cell? ⟨b, off + k * 5 + 2, none⟩ = some (str x.s) := (HWW.out.cell (p := ⟨b, off + k * 5 + 2, none⟩) hbw).trans c2
      have e3 : wr.cell? ⟨b, off + k * 5 + 3, none⟩ = some (.slice a n c) := (HWW.out.cell (p := ⟨b, off + k * 5 + 3, none⟩) hbw).trans c3
      have e4 : wr.cell? ⟨b, off + k * 5 + 4, none⟩ = some (.slice a' n' c') := (HWW.out.cell (p := ⟨b, off + k * 5 + 4, none⟩) hbw).trans c4
      have CM : Hid (Calls Tryz.prog 133 #[.agg #[.int .i64 x.kind, .int .i64 x.n, str x.s, .slice a n c, .slice a' n' c'], .int .i64 D1] wr fun e w' => e = .returned (.bool (mayV x d1)) ∧ Below wr.heap.size wr w') := Lib.hid (IL.out x HM.out F wr _ d1 D1 HD1.out.1 HD1.out.2.1 (hx.up HWW.out))
      clear hx c0 c1 c2 c3 c4 hbw
      cases hB : mayV x d1 with
      | false =>
       have HE : Hid (RES = false) := Lib.hid (by rw [HK3.out, hB]; rfl)
       rw [hB] at CM
       clear hB HK3
       go_wp2_with fail
       refine CM.out.mono ?_
       rintro e w2 ⟨rfl, hb2⟩
       have HX := Lib.hid (HWW.out.trans (hb2.mono HWW.out.size))
       clear hb2 CM
       go_wp2_with fail
       go_ret
       exact ⟨by rw [HE.out]; rfl, HX.out⟩
      | true =>
       have HE : Hid (RES = (mayL (v.l.drop (k + 1)) d1 && mayM v.m none d1)) := Lib.hid (by rw [HK3.out, hB, Bool.true_and])
       rw [hB] at CM
       clear hB HK3
       go_wp2_with fail
       refine CM.out.mono ?_
       rintro e w2 ⟨rfl, hb2⟩
       have HX := Lib.hid (HW.out.trans (hb2.mono HW.out.size))
       clear hb2 CM
       go_wp2_with fail
       go_roundw
       case rel => exact ⟨k + 1, by omega, by go_num, HE, HX⟩
       case measure => simp [intOf]; omega
    obtain rfl : k = v.l.length := by omega
    have n2 : ¬ (v.l.length : Int) < (v.l.length : Int) := by omega
    have HR2 : Hid (RES = mayM v.m none d1) := Lib.hid (by rw [HK.out, List.drop_length, mayL, Bool.true_and])
    have HW0 := Lib.hid HW.out
    clear HK HW
    go_wp2_with fail
    clear b3
    go_loopw [6] (fun v6 wr => ∃ k : Nat, k ≤ v.m.length ∧ v6 = .int .i64 (k : Int) ∧ Hid (RES = mayM (v.m.drop k) (prvN v.m k) d1) ∧ Hid (Below W1.heap.size W1 wr)) (fun v6 _ => v.m.length - (intOf v6).toNat)
    case atStart => exact ⟨0, Nat.zero_le _, rfl, Lib.hid (by rw [List.drop_zero]; exact HR2.out), HW0⟩
    case round =>
     obtain ⟨k, hk, rfl, HK, HW⟩ := hrel
     have HWW2 := Lib.hid (HB.out.1.trans (HW.out.mono HB.out.1.size))
     have b4 := box_cell (box_up HB.out.2 HW.out) 4
     clear HR2 HW0 HWW
     by_cases hlt : k < v.m.length
     · have n1 : (k : Int) < (v.m.length : Int) := by omega
       have n3 : (0 : Int) ≤ (k : Int) := by omega
       obtain ⟨b, off, a, n, c, a', n', c', rfl, _, hbw, hx, c0, c1, c2, c3, c4, c5⟩ := RdJ.memb HL.out.2.2.1 HL.out.2.2.2 hlt
       have HM : Hid (v.m[k] ∈ v.m) := Lib.hid (List.getElem_mem hlt)
       have HK2 := HK.out
       rw [mayM_at hlt] at HK2
       have HNX : Hid (prvN v.m (k + 1) = some v.m[k].1) := Lib.hid (prvN_succ v.m k hlt)
       obtain ⟨x, hxx⟩ : ∃ x, x = v.m[k] := ⟨_, rfl⟩
       rw [← hxx] at hx c0 c1 c2 c3 HK2 HM HNX
       clear hxx HK
       obtain ⟨nm, x⟩ := x
       dsimp only at hx c0 c1 c2 c3 c4 c5 HK2 HNX
       have z0 : Hid (∀ p : BelowBy wr, p.W.cell? ⟨b, off + k * 6, none⟩ = some (str nm)) := Lib.hid (fun p : BelowBy wr => BelowBy.cell ((HWW2.out.cell (p := ⟨b, off + k * 6, none⟩) hbw).trans c0) p)
       have z1 : Hid (∀ p : BelowBy wr, p.W.cell? ⟨b, off + k * 6 + 1, none⟩ = some (.int .i64 x.kind)) := Lib.hid (fun p : BelowBy wr => BelowBy.cell ((HWW2.out.cell (p := ⟨b, off + k * 6 + 1, none⟩) hbw).trans c1) p)
       have z2 : Hid (∀ p : BelowBy wr, p.W.cell? ⟨b, off + k * 6 + 2, none⟩ = some (.int .i64 x.n)) := Lib.hid (fun p : BelowBy wr => BelowBy.cell ((HWW2.out.cell (p := ⟨b, off + k * 6 + 2, none⟩) hbw).trans c2) p)
       have z3 : Hid (∀ p : BelowBy wr, p.W.cell? ⟨b, off + k * 6 + 3, none⟩ = some (str x.s)) := Lib.hid (fun p : BelowBy wr => BelowBy.cell ((HWW2.out.cell (p := ⟨b, off + k * 6 + 3, none⟩) hbw).trans c3) p)
       have z4 : Hid (∀ p : BelowBy wr, p.W.cell? ⟨b, off + k * 6 + 4, none⟩ = some (.slice a n c)) := Lib.hid (fun p : BelowBy wr => BelowBy.cell ((HWW2.out.cell (p := ⟨b, off + k * 6 + 4, none⟩) hbw).trans c4) p)
       have z5 : Hid (∀ p : BelowBy wr, p.W.cell? ⟨b, off + k * 6 + 5, none⟩ = some (.slice a' n' c')) := Lib.hid (fun p : BelowBy wr => BelowBy.cell ((HWW2.out.cell (p := ⟨b, off + k * 6 + 5, none⟩) hbw).trans c5) p)
       have zb : Hid (∀ p : BelowBy wr, p.W.cell? ⟨w.heap.size, 4, none⟩ = some (.slice (some ⟨b, off, none⟩) v.m.length cm)) := Lib.hid (fun p : BelowBy wr => BelowBy.cell (box_cell (box_up HB.out.2 HW.out) 4) p)
       have HWB := Lib.hid (And.intro HWW2.out (And.intro HW.out (And.intro HWW2.out.size HW.out.size)))
       have hln := (IM.out (nm, x) HM.out).1
       have CT : Hid (∀ W, Calls Tryz.prog 79 #[str nm] W fun e w' => e = .returned (.bool (validB nm)) ∧ Below W.heap.size W w') := Lib.hid (fun W => (refValid_any nm W hln).mono fun e w' ⟨h1, h2⟩ => ⟨h1, by rw [h2]; exact Below.refl _ _⟩)
       have CM : Hid (∀ p : BelowBy wr, Calls Tryz.prog 133 #[.agg #[.int .i64 x.kind, .int .i64 x.n, str x.s, .slice a n c, .slice a' n' c'], .int .i64 D1] p.W fun e w' => e = .returned (.bool (mayV x d1)) ∧ Below p.W.heap.size p.W w') := Lib.hid (fun p => (IM.out (nm, x) HM.out).2 F p.W _ d1 D1 HD1.out.1 HD1.out.2.1 ((hx.up HWW2.out).up p.h))
       have HTX : Hid (txF nm = (decide (nm.length ≤ 8000) && validB nm)) := Lib.hid rfl
       clear hx c0 c1 c2 c3 c4 c5 HM hln hbw
       cases hV : validB nm with
       | false =>
        have HF : Hid (RES = false) := Lib.hid (by rw [HK2, HTX.out, hV, Bool.and_false, Bool.and_false]; rfl)
        rw [hV] at CT
        clear hV HK2
        go_wp2_with fail
        refine wp_region_quiet_below (by kernel_rfl) (by kernel_rfl) ?_
        repeat (first | go_big_quiet_skip | (go_big_quiet_want; go_big_quiet_op; first | go_big_quiet_on | (simp only [zb.out, z0.out, Result.andThen, true_and, forall_const, exists_eq_left']; go_big_quiet_on) | go_big_quiet_call (first | (go_at_call 79; exact Calls.below_of (CT.out _)) | (go_at_call 133; exact Calls.below_of (CM.out _)))) | fail)
        refine wpQuiet_nil ?_
        rintro w3 ⟨⟨_, hb3⟩, rfl⟩
        have HX := Lib.hid (HWB.out.1.trans (hb3.mono HWB.out.2.2.1))
        clear hb3 CM CT
        go_wp2_with fail
        go_ret
        exact ⟨by rw [HF.out]; rfl, HX.out⟩
       | true =>
        rw [hV] at CT
        by_cases h8 : nm.length ≤ 8000
        · have hL8 : decide (nm.length ≤ 8000) = true := decide_eq_true h8
          have y8 : decide ((8000 : Int) < (nm.length : Int)) = false := decide_eq_false (by omega)
          clear h8
          by_cases h0 : k = 0
          · have y1 : decide ((0 : Int) < (k : Int)) = false := decide_eq_false (by omega)
            have y2 : decide (0 < k) = false := decide_eq_false (by omega)
            have HA : Hid (aftB (prvN v.m k) nm = true) := Lib.hid (by rw [h0]; rfl)
            clear h0
            cases hB : mayV x d1 with
            | false =>
             have HF : Hid (RES = false) := Lib.hid (by rw [HK2, HA.out, HTX.out, hV, hL8, hB]; rfl)
             rw [hB] at CM
             clear hB HK2 HA
             go_wp2_with fail
             refine wp_region_quiet_below (by kernel_rfl) (by kernel_rfl) ?_
             repeat (first | go_big_quiet_skip | (go_big_quiet_want; go_big_quiet_op; first | go_big_quiet_on | (simp only [zb.out, z0.out, z1.out, z2.out, z3.out, z4.out, z5.out, Result.andThen, true_and, forall_const, exists_eq_left']; go_big_quiet_on) | go_big_quiet_call (first | (go_at_call 79; exact Calls.below_of (CT.out _)) | (go_at_call 133; exact Calls.below_of (CM.out _)))) | fail)
             refine wpQuiet_nil ?_
             rintro w3 ⟨⟨_, hb3⟩, rfl⟩
             have HX := Lib.hid (HWB.out.1.trans (hb3.mono HWB.out.2.2.1))
             clear hb3 CM CT
             go_wp2_with fail
             go_ret
             exact ⟨by rw [HF.out]; rfl, HX.out⟩
            | true =>
             have HF : Hid (RES = mayM (v.m.drop (k + 1)) (prvN v.m (k + 1)) d1) := Lib.hid (by rw [HK2, HA.out, HTX.out, hV, hL8, hB, HNX.out]; rfl)
             rw [hB] at CM
             clear hB HK2 HA
             go_wp2_with fail
             refine wp_region_quiet_below (by kernel_rfl) (by kernel_rfl) ?_
             repeat (first | go_big_quiet_skip | (go_big_quiet_want; go_big_quiet_op; first | go_big_quiet_on | (simp only [zb.out, z0.out, z1.out, z2.out, z3.out, z4.out, z5.out, Result.andThen, true_and, forall_const, exists_eq_left']; go_big_quiet_on) | go_big_quiet_call (first | (go_at_call 79; exact Calls.below_of (CT.out _)) | (go_at_call 133; exact Calls.below_of (CM.out _)))) | fail)
             refine wpQuiet_nil ?_
             rintro w3 ⟨⟨_, hb3⟩, rfl⟩
             have HX := Lib.hid (HWB.out.2.1.trans (hb3.mono HWB.out.2.2.2))
             clear hb3 CM CT
             go_wp2_with fail
             go_roundw
             case rel => exact ⟨k + 1, by omega, by go_num, HF, HX⟩
             case measure => simp [intOf]; omega
          have y1 : decide ((0 : Int) < (k : Int)) = true := decide_eq_true (by omega)
          have y2 : decide (0 < k) = true := decide_eq_true (by omega)
          obtain ⟨j, rfl⟩ : ∃ j, k = j + 1 := ⟨k - 1, by omega⟩
          have hjl : j < v.m.length := by omega
          have tj : IntKind.i64.wrap (((j + 1 : Nat) : Int) - 1) = (j : Int) := by rw [show (((j + 1 : Nat) : Int)) - 1 = (j : Int) by omega]; exact IntWalk.i64_in _ (by omega)
          have tj' : IntKind.i64.wrap ((j : Int) + 1 - 1) = (j : Int) := by rw [show (j : Int) + 1 - 1 = (j : Int) by omega]; exact IntWalk.i64_in _ (by omega)
          have gm : (j : Int) < (v.m.length : Int) := by omega
          have gm0 : (0 : Int) ≤ (j : Int) := by omega
          obtain ⟨b', off', _, _, _, _, _, _, hE, _, hbw', _, c0, _⟩ := RdJ.memb HL.out.2.2.1 HL.out.2.2.2 hjl
          cases hE
          have HPV : Hid (prvN v.m (j + 1) = some v.m[j].1) := Lib.hid (prvN_succ v.m j hjl)
          obtain ⟨q, hq⟩ : ∃ q, q = v.m[j].1 := ⟨_, rfl⟩
          rw [← hq] at c0 HPV
          have zq := Lib.hid (fun p : BelowBy wr => BelowBy.cell ((HWB.out.1.cell (p := ⟨b, off + j * 6, none⟩) hbw').trans c0) p)
          clear c0 hq hbw'
          cases u1 : Op.bytesLess nm q with
          | true =>
           have u2 : (nm == q) = false := by rw [beq_eq_false_iff_ne]; rintro rfl; rw [bl_irr] at u1; cases u1
           have HA : Hid (aftB (prvN v.m (j + 1)) nm = false) := Lib.hid (by
            rw [HPV.out]
            show Op.bytesLess q nm = false
            cases h2 : Op.bytesLess q nm with
            | false => rfl
            | true => have := bl_tr _ _ _ u1 h2; rw [bl_irr] at this; cases this)
           have HF : Hid (RES = false) := Lib.hid (by rw [HK2, HA.out]; rfl)
           clear HK2 HA
           go_wp2_with fail
           refine wp_region_quiet_below (by kernel_rfl) (by kernel_rfl) ?_
           repeat (first | go_big_quiet_skip | (go_big_quiet_want; go_big_quiet_op; first | go_big_quiet_on | (simp only [zb.out, z0.out, zq.out, Result.andThen, true_and, forall_const, exists_eq_left']; go_big_quiet_on) | go_big_quiet_call (first | (go_at_call 79; exact Calls.below_of (CT.out _)) | (go_at_call 133; exact Calls.below_of (CM.out _)))) | fail)
           refine wpQuiet_nil ?_
           rintro w3 ⟨⟨_, hb3⟩, rfl⟩
           have HX := Lib.hid (HWB.out.1.trans (hb3.mono HWB.out.2.2.1))
           clear hb3 CM CT
           go_wp2_with fail
           go_ret
           exact ⟨by rw [HF.out]; rfl, HX.out⟩
          | false =>
           cases u2 : (nm == q) with
           | true =>
            have HA : Hid (aftB (prvN v.m (j + 1)) nm = false) := Lib.hid (by
             rw [HPV.out]
             show Op.bytesLess q nm = false
             rw [eq_of_beq u2]
             exact bl_irr _)
            have HF : Hid (RES = false) := Lib.hid (by rw [HK2, HA.out]; rfl)
            clear HK2 HA
            go_wp2_with fail
            refine wp_region_quiet_below (by kernel_rfl) (by kernel_rfl) ?_
            repeat (first | go_big_quiet_skip | (go_big_quiet_want; go_big_quiet_op; first | go_big_quiet_on | (simp only [zb.out, z0.out, zq.out, Result.andThen, true_and, forall_const, exists_eq_left']; go_big_quiet_on) | go_big_quiet_call (first | (go_at_call 79; exact Calls.below_of (CT.out _)) | (go_at_call 133; exact Calls.below_of (CM.out _)))) | fail)
            refine wpQuiet_nil ?_
            rintro w3 ⟨⟨_, hb3⟩, rfl⟩
            have HX := Lib.hid (HWB.out.1.trans (hb3.mono HWB.out.2.2.1))
            clear hb3 CM CT
            go_wp2_with fail
            go_ret
            exact ⟨by rw [HF.out]; rfl, HX.out⟩
           | false =>
            have hqn : ¬ nm = q := by intro e; rw [e, beq_self_eq_true] at u2; cases u2
            have HA : Hid (aftB (prvN v.m (j + 1)) nm = true) := Lib.hid (by
             rw [HPV.out]
             show Op.bytesLess q nm = true
             cases h2 : Op.bytesLess q nm with
             | true => rfl
             | false => exact absurd (bl_tot _ _ u1 h2) hqn)
            clear hqn
            cases hB : mayV x d1 with
            | false =>
             have HF : Hid (RES = false) := Lib.hid (by rw [HK2, HA.out, HTX.out, hV, hL8, hB]; rfl)
             rw [hB] at CM
             clear hB HK2 HA
             go_wp2_with fail
             refine wp_region_quiet_below (by kernel_rfl) (by kernel_rfl) ?_
             repeat (first | go_big_quiet_skip | (go_big_quiet_want; go_big_quiet_op; first | go_big_quiet_on | (simp only [zb.out, z0.out, z1.out, z2.out, z3.out, z4.out, z5.out, zq.out, Result.andThen, true_and, forall_const, exists_eq_left']; go_big_quiet_on) | go_big_quiet_call (first | (go_at_call 79; exact Calls.below_of (CT.out _)) | (go_at_call 133; exact Calls.below_of (CM.out _)))) | fail)
             refine wpQuiet_nil ?_
             rintro w3 ⟨⟨_, hb3⟩, rfl⟩
             have HX := Lib.hid (HWB.out.1.trans (hb3.mono HWB.out.2.2.1))
             clear hb3 CM CT
             go_wp2_with fail
             go_ret
             exact ⟨by rw [HF.out]; rfl, HX.out⟩
            | true =>
             have HF : Hid (RES = mayM (v.m.drop ((j + 1) + 1)) (prvN v.m ((j + 1) + 1)) d1) := Lib.hid (by rw [HK2, HA.out, HTX.out, hV, hL8, hB, HNX.out]; rfl)
             rw [hB] at CM
             clear hB HK2 HA
             go_wp2_with fail
             refine wp_region_quiet_below (by kernel_rfl) (by kernel_rfl) ?_
             repeat (first | go_big_quiet_skip | (go_big_quiet_want; go_big_quiet_op; first | go_big_quiet_on | (simp only [zb.out, z0.out, z1.out, z2.out, z3.out, z4.out, z5.out, zq.out, Result.andThen, true_and, forall_const, exists_eq_left']; go_big_quiet_on) | go_big_quiet_call (first | (go_at_call 79; exact Calls.below_of (CT.out _)) | (go_at_call 133; exact Calls.below_of (CM.out _)))) | fail)
             refine wpQuiet_nil ?_
             rintro w3 ⟨⟨_, hb3⟩, rfl⟩
             have HX := Lib.hid (HWB.out.2.1.trans (hb3.mono HWB.out.2.2.2))
             clear hb3 CM CT
             go_wp2_with fail
             go_roundw
             case rel => exact ⟨(j + 1) + 1, by omega, by go_num, HF, HX⟩
             case measure => simp [intOf]; omega
        have y8 : decide ((8000 : Int) < (nm.length : Int)) = true := decide_eq_true (by omega)
        have HF : Hid (RES = false) := Lib.hid (by rw [HK2, HTX.out, decide_eq_false h8, Bool.false_and, Bool.and_false]; rfl)
        clear HK2 hV h8
        go_wp2_with fail
        refine wp_region_quiet_below (by kernel_rfl) (by kernel_rfl) ?_
        repeat (first | go_big_quiet_skip | (go_big_quiet_want; go_big_quiet_op; first | go_big_quiet_on | (simp only [zb.out, z0.out, Result.andThen, true_and, forall_const, exists_eq_left']; go_big_quiet_on) | go_big_quiet_call (first | (go_at_call 79; exact Calls.below_of (CT.out _)) | (go_at_call 133; exact Calls.below_of (CM.out _)))) | fail)
        refine wpQuiet_nil ?_
        rintro w3 ⟨⟨_, hb3⟩, rfl⟩
        have HX := Lib.hid (HWB.out.1.trans (hb3.mono HWB.out.2.2.1))
        clear hb3 CM CT
        go_wp2_with fail
        go_ret
        exact ⟨by rw [HF.out]; rfl, HX.out⟩
     obtain rfl : k = v.m.length := by omega
     have n2 : ¬ (v.m.length : Int) < (v.m.length : Int) := by omega
     have HE : Hid (RES = true) := Lib.hid (by rw [HK.out, List.drop_length]; rfl)
     go_wp2_with fail
     go_ret
     exact ⟨by rw [HE.out]; rfl, HWW2.out⟩
theorem rjmay_all (v : JV) : RMayC v := JV.ind rjmay_step v
theorem rMay_any (v : JV) (hst : stV v) (F : Nat → Prop) (w : World) (cs : List Value) (h : RdJ w F v cs) : Calls Tryz.prog 109 #[.agg cs.toArray] w fun e w' => e = .returned (.bool (mayV v 64)) ∧ Below w.heap.size w w' := by
 have C := Lib.hid (fun W (hb : Below w.heap.size w W) => rjmay_all v hst F W cs 64 64 rfl (by omega) (h.up hb))
 obtain ⟨a1, n1, c1, a2, n2, c2, rfl, _, _⟩ := h.open
 obtain ⟨R, hR⟩ : ∃ R, R = mayV v 64 := ⟨_, rfl⟩
 rw [← hR] at C ⊢
 clear hst h hR
 go_enter Tryz.func109, Tryz.ntmps109
 go_wp2_with fail
 refine (C.out _ ?_).mono ?_
 · first | exact Below.refl _ _ | exact below_alloc _ _
 rintro e w2 ⟨rfl, hb2⟩
 have HX : Hid (Below w.heap.size w w2) := Lib.hid (by first | exact hb2 | exact (below_alloc w _).trans (hb2.mono (below_alloc w _).size))
 clear hb2 C
 go_wp2_with fail
 go_ret
 exact ⟨rfl, HX.out⟩
end Go.Proofs.YtegblhmcfemfgaaGreatDoor

set_option maxRecDepth 100000
set_option maxHeartbeats 1000000
namespace Go.Proofs.YtegblhmcfemfgaaGreatDoor
open Go.RowKit
attribute [local go_sem] str_cat

theorem itoa_nat (u : Nat) : Lib.itoa (u : Int) = Lib.decDigits u := by unfold Lib.itoa; rw [if_neg (by omega)]; rfl
theorem dec_small {u : Nat} (h : u < 10) : Lib.decDigits u = [UInt8.ofNat (48 + u)] := Lib.decDigits_one h
theorem dec_big {u : Nat} (h : ¬ u < 10) : Lib.decDigits u = Lib.decDigits (u / 10) ++ [UInt8.ofNat (48 + u % 10)] := by rw [Lib.decDigits, dif_neg h]
theorem dec_len {u : Nat} (h : u < 18446744073709551616) : (Lib.decDigits u).length ≤ 20 := by
 rw [Lib.decDigits_length]
 have h2 : ∀ k u : Nat, u < 10 ^ k → 1 ≤ k → Lib.nDigits u ≤ k := by
  intro k
  induction k with
  | zero => intro u _ h; omega
  | succ k ih =>
   intro u hu _
   by_cases hs : u < 10
   · rw [Lib.nDigits_small hs]; omega
   rw [Lib.nDigits_big hs]
   have hk : 1 ≤ k := by
    rcases k with _ | k
    · simp at hu; omega
    omega
   have := ih (u / 10) (by rw [Nat.pow_succ] at hu; omega) hk
   omega
 exact h2 20 u (by omega) (by omega)
theorem Below.undrew {B : Nat} {w w' : World} (h : Below B w.drew w') : Below B w w' := ⟨h.os, h.tape, h.output, h.size, h.block⟩
theorem conv_one (c : UInt8) (n : Int) (hn : n = (c.toNat : Int)) (w W : World) (hb : Below (w.heap.size + 1) (w.alloc (.cells #[.int .u8 n] 5)) W) :
 (convert 106 9 (.slice (some ⟨w.heap.size, 0, none⟩) 1 1)).run Tryz.prog W = .ok (str [c]) W :=
 bt.toString (S := 9) Tryz.underlying9 ((Rd.one 5 w c n hn).below hb (by simp))
theorem dec_any : ∀ (u : Nat), u < 9223372036854775808 → ∀ w : World, Calls Tryz.prog 134 #[.int .i64 (u : Int)] w fun e w' => e = .returned (str (Lib.decDigits u)) ∧ Below w.heap.size w w' := by
 intro u
 induction u using Nat.strongRecOn with
 | ind u ih =>
  intro hu w
  have n0 : ¬ (u : Int) < 0 := by omega
  by_cases hs : u < 10
  · rw [dec_small hs]
    have n1 : (u : Int) < 10 := by omega
    obtain ⟨c, hc⟩ : ∃ c, c = UInt8.ofNat (48 + u) := ⟨_, rfl⟩
    have hcn : ((48 : Int) + (u : Int)) = (c.toNat : Int) := by rw [hc, UInt8.toNat_ofNat']; omega
    rw [← hc]
    have k1 := conv_one c _ hcn w _ (Below.refl _ _)
    clear hc hs ih
    have HN := Lib.hid hcn
    clear hcn
    go_enter Tryz.func134, Tryz.ntmps134
    go_wp2
    go_ret
    exact ⟨rfl, below_alloc _ _⟩
  rw [dec_big hs]
  have n1 : ¬ (u : Int) < 10 := by omega
  obtain ⟨q, hq⟩ : ∃ q, q = u / 10 := ⟨_, rfl⟩
  obtain ⟨r, hr⟩ : ∃ r, r = u % 10 := ⟨_, rfl⟩
  have HD := Lib.hid (ih (u / 10) (by omega) (by omega))
  have hl := dec_len (u := u / 10) (by omega)
  rw [← hq] at HD hl ⊢
  rw [← hr]
  obtain ⟨D, hD⟩ : ∃ D, D = Lib.decDigits q := ⟨_, rfl⟩
  rw [← hD] at HD hl ⊢
  obtain ⟨c, hc⟩ : ∃ c, c = UInt8.ofNat (48 + r) := ⟨_, rfl⟩
  have hr10 : r < 10 := by omega
  have hcn : (48 : Int) + (r : Int) = (c.toNat : Int) := by rw [hc, UInt8.toNat_ofNat']; omega
  rw [← hc]
  have e0 : (u : Int) / 10 = (q : Int) := by omega
  have e0' : Int.tdiv (u : Int) 10 = (q : Int) := by rw [Int.tdiv_eq_ediv_of_nonneg (by omega)]; omega
  have e1 : (u : Int) % 10 = (r : Int) := by omega
  have e1' : Int.tmod (u : Int) 10 = (r : Int) := by rw [Int.tmod_eq_emod_of_nonneg (by omega)]; omega
  have e2 : IntKind.i64.wrap (c.toNat : Int) = (c.toNat : Int) := IntWalk.i64_in _ (by have := c.toNat_lt; omega)
  have e4 : IntKind.i64.wrap (q : Int) = (q : Int) := IntWalk.i64_in _ (by omega)
  have e3 : (c.toNat : Int) % 256 = (c.toNat : Int) := by have := c.toNat_lt; omega
  have e3' : IntKind.u8.wrap (c.toNat : Int) = (c.toNat : Int) := by have := c.toNat_lt; show (c.toNat : Int) % 256 = _; omega
  have hlen : ¬ (9223372036854775807 < D.length + 1) := by omega
  clear hD hc hs ih hq hr
  have HCA : Hid (Calls Tryz.prog 134 #[.int .i64 (q : Int)] ((w.alloc (.cells #[.int .u8 (c.toNat : Int)] 5)).drew) fun e w' => e = .returned (str D) ∧ Below w.heap.size w w' ∧ (convert 106 9 (.slice (some ⟨w.heap.size, 0, none⟩) 1 1)).run Tryz.prog w' = .ok (str [c]) w') := Lib.hid ((HD.out _).mono (fun e w' ⟨h1, h2⟩ => ⟨h1, (below_alloc w _).trans ((Below.undrew h2).mono (by simp)), conv_one c _ rfl w w' (by simpa using Below.undrew h2)⟩))
  have HCB : Hid (∀ W, Calls Tryz.prog 134 #[.int .i64 (q : Int)] W fun e w' => e = .returned (str D) ∧ Below W.heap.size W w') := HD
  have k0 : ∀ W : World, (convert 106 9 (.slice (some ⟨W.heap.size, 0, none⟩) 1 1)).run Tryz.prog (W.alloc (.cells #[.int .u8 (c.toNat : Int)] 5)) = .ok (str [c]) (W.alloc (.cells #[.int .u8 (c.toNat : Int)] 5)) := fun W => conv_one c _ rfl W _ (Below.refl _ _)
  have k1 : ∀ W : World, (convert 106 9 (.slice (some ⟨W.heap.size, 0, none⟩) 1 1)).run Tryz.prog (W.alloc (.cells #[.int .u8 (c.toNat : Int)] 5)).drew = .ok (str [c]) (W.alloc (.cells #[.int .u8 (c.toNat : Int)] 5)).drew := fun W => conv_one c _ rfl W _ (Below.drewsN (Below.refl _ _) 1)
  go_enter Tryz.func134, Tryz.ntmps134
  go_wp2_with fail
  go_region_with (first
   | (go_at_call 134
      (with_reducible refine HCA.out.mono ?_)
      rintro e w1 ⟨rfl, hb1, hk1⟩)
   | (go_at_call 134
      (with_reducible refine (HCB.out _).mono ?_)
      rintro e w1 ⟨rfl, hb1⟩)
   | fail)
  all_goals
   go_wp2_with fail
   go_ret
   first
    | exact ⟨rfl, hb1⟩
    | exact ⟨rfl, (Below.undrew hb1).trans ((below_alloc w1 _).mono (Below.undrew hb1).size)⟩
    | exact ⟨rfl, Below.drewsN ((Below.undrew hb1).trans ((below_alloc w1 _).mono (Below.undrew hb1).size)) 1⟩
theorem decN_any (n : Int) (h : -9223372036854775808 ≤ n ∧ n ≤ 9223372036854775807) (w : World) : Calls Tryz.prog 134 #[.int .i64 n] w fun e w' => e = .returned (str (Lib.itoa n)) ∧ Below w.heap.size w w' := by
 by_cases h0 : 0 ≤ n
 · obtain ⟨u, rfl⟩ : ∃ u : Nat, n = (u : Int) := ⟨n.toNat, by omega⟩
   rw [itoa_nat]
   exact dec_any u (by omega) w
 obtain ⟨u, rfl⟩ : ∃ u : Nat, n = -(u : Int) := ⟨(-n).toNat, by omega⟩
 have hu : 0 < u ∧ u ≤ 9223372036854775808 := by omega
 have hit : Lib.itoa (-(u : Int)) = 45 :: Lib.decDigits u := by
  unfold Lib.itoa
  rw [if_pos (by omega), Int.natAbs_neg, Int.natAbs_natCast]
 rw [hit]
 obtain ⟨q, hq⟩ : ∃ q, q = u / 10 := ⟨_, rfl⟩
 obtain ⟨r, hr⟩ : ∃ r, r = u % 10 := ⟨_, rfl⟩
 obtain ⟨c, hc⟩ : ∃ c, c = UInt8.ofNat (48 + r) := ⟨_, rfl⟩
 have hr10 : r < 10 := by omega
 obtain ⟨z, hz⟩ : ∃ z : Int, z = -(r : Int) := ⟨_, rfl⟩
 obtain ⟨p, hp⟩ : ∃ p : Int, p = -(q : Int) := ⟨_, rfl⟩
 have hcn : (48 : Int) - z = (c.toNat : Int) := by rw [hz, hc, UInt8.toNat_ofNat']; omega
 have e0' : Int.tdiv (-(u : Int)) 10 = p := by rw [hp, Int.neg_tdiv, Int.tdiv_eq_ediv_of_nonneg (by omega)]; omega
 have e1' : Int.tmod (-(u : Int)) 10 = z := by rw [hz, Int.neg_tmod, Int.tmod_eq_emod_of_nonneg (by omega)]; omega
 obtain ⟨m, hm⟩ : ∃ m : Int, m = -(u : Int) := ⟨_, rfl⟩
 rw [← hm] at e0' e1' ⊢
 have n0 : m < 0 := by omega
 have e2 : IntKind.i64.wrap (c.toNat : Int) = (c.toNat : Int) := IntWalk.i64_in _ (by have := c.toNat_lt; omega)
 have e3 : (c.toNat : Int) % 256 = (c.toNat : Int) := by have := c.toNat_lt; omega
 have e3' : IntKind.u8.wrap (c.toNat : Int) = (c.toNat : Int) := by have := c.toNat_lt; show (c.toNat : Int) % 256 = _; omega
 by_cases hs : u < 10
 · have hd : Lib.decDigits u = [c] := by rw [dec_small hs, hc, hr, Nat.mod_eq_of_lt hs]
   rw [hd]
   have hq0 : p = 0 := by omega
   rw [hq0] at e0'
   have k1 := conv_one c _ rfl w _ (Below.refl _ _)
   have z1 : IntKind.i64.wrap 0 = 0 := rfl
   clear hd hs hq0 hp hz hm hc hr hq hit hu h0 h
   go_enter Tryz.func134, Tryz.ntmps134
   go_wp2
   go_ret
   exact ⟨rfl, below_alloc _ _⟩
 have hd : Lib.decDigits u = Lib.decDigits q ++ [c] := by rw [dec_big hs, hc, hr, hq]
 rw [hd]
 have HD := Lib.hid (dec_any q (by omega))
 have hl := dec_len (u := q) (by omega)
 obtain ⟨D, hD⟩ : ∃ D, D = Lib.decDigits q := ⟨_, rfl⟩
 rw [← hD] at HD hl ⊢
 have hp0 : (p == 0) = false := by rw [beq_eq_false_iff_ne]; omega
 have hpn : -p = (q : Int) := by omega
 have e4 : IntKind.i64.wrap (q : Int) = (q : Int) := IntWalk.i64_in _ (by omega)
 have e5 : IntKind.i64.wrap p = p := IntWalk.i64_in _ (by omega)
 have hlen : ¬ (9223372036854775807 < D.length + 1 + 1) := by omega
 have hlen2 : ¬ (9223372036854775807 < D.length + 1) := by omega
 clear hD hc hs hq hr hd hit hu h0 h hp hz hm
 have HCA : Hid (Calls Tryz.prog 134 #[.int .i64 (q : Int)] ((w.alloc (.cells #[.int .u8 (c.toNat : Int)] 5)).drew) fun e w' => e = .returned (str D) ∧ Below w.heap.size w w' ∧ (convert 106 9 (.slice (some ⟨w.heap.size, 0, none⟩) 1 1)).run Tryz.prog w' = .ok (str [c]) w') := Lib.hid ((HD.out _).mono (fun e w' ⟨h1, h2⟩ => ⟨h1, (below_alloc w _).trans ((Below.undrew h2).mono (by simp)), conv_one c _ rfl w w' (by simpa using Below.undrew h2)⟩))
 have HCB : Hid (∀ W, Calls Tryz.prog 134 #[.int .i64 (q : Int)] W fun e w' => e = .returned (str D) ∧ Below W.heap.size W w') := HD
 have k0 : ∀ W : World, (convert 106 9 (.slice (some ⟨W.heap.size, 0, none⟩) 1 1)).run Tryz.prog (W.alloc (.cells #[.int .u8 (c.toNat : Int)] 5)) = .ok (str [c]) (W.alloc (.cells #[.int .u8 (c.toNat : Int)] 5)) := fun W => conv_one c _ rfl W _ (Below.refl _ _)
 have k1 : ∀ W : World, (convert 106 9 (.slice (some ⟨W.heap.size, 0, none⟩) 1 1)).run Tryz.prog (W.alloc (.cells #[.int .u8 (c.toNat : Int)] 5)).drew = .ok (str [c]) (W.alloc (.cells #[.int .u8 (c.toNat : Int)] 5)).drew := fun W => conv_one c _ rfl W _ (Below.drewsN (Below.refl _ _) 1)
 go_enter Tryz.func134, Tryz.ntmps134
 go_wp2_with fail
 go_region_with (first
  | (go_at_call 134
     (with_reducible refine HCA.out.mono ?_)
     rintro e w1 ⟨rfl, hb1, hk1⟩)
  | (go_at_call 134
     (with_reducible refine (HCB.out _).mono ?_)
     rintro e w1 ⟨rfl, hb1⟩)
  | fail)
 all_goals
  go_wp2_with fail
  go_ret
  first
   | exact ⟨rfl, hb1⟩
   | exact ⟨rfl, (Below.undrew hb1).trans ((below_alloc w1 _).mono (Below.undrew hb1).size)⟩
   | exact ⟨rfl, Below.drewsN ((Below.undrew hb1).trans ((below_alloc w1 _).mono (Below.undrew hb1).size)) 1⟩
end Go.Proofs.YtegblhmcfemfgaaGreatDoor

namespace Go.Proofs.YtegblhmcfemfgaaGreatDoor
open Go.RowKit

theorem rquote_yes (s : List UInt8) (hv : txF s = true) (w : World) : Calls Tryz.prog 135 #[str s] w fun e w' => e = .returned (.tuple #[str (quo s), .int .i64 0]) ∧ Below w.heap.size w w' := by
 unfold txF at hv
 rw [Bool.and_eq_true] at hv
 have hl := of_decide_eq_true hv.1
 have hq : quoteE s = .returned (.tuple #[str (quo s), .int .i64 0]) := by rw [quoteE, hv.2]; rfl
 have := refQuote_any s w (by omega)
 rw [hq] at this
 exact this
theorem may_parts {v : JV} {d : Nat} (h : mayV v d = true) : (1 ≤ v.kind ∧ v.kind ≤ 7) ∧ (-9007199254740991 ≤ v.n ∧ v.n ≤ 9007199254740991) ∧ txF v.s = true ∧ mayL v.l (d - 1) = true ∧ mayM v.m none (d - 1) = true := by
 rw [mayV_mk] at h
 simp only [fitV, Bool.and_eq_true, decide_eq_true_eq] at h
 obtain ⟨⟨⟨⟨⟨_, h1⟩, h2⟩, h3⟩, h4⟩, h5⟩ := h
 exact ⟨⟨h1, h2⟩, ⟨h3.1.1.1.1.1.2, h3.1.1.1.1.2⟩, h3.1.1.2, h4, h5⟩
theorem pr_kind (v : JV) : prV v = if v.kind = 1 then [110, 117, 108, 108] else if v.kind = 2 then [102, 97, 108, 115, 101] else if v.kind = 3 then [116, 114, 117, 101] else if v.kind = 4 then Lib.itoa v.n else if v.kind = 5 then quo v.s else if v.kind = 6 then 91 :: (lsT v.l v.l.length ++ [93]) else 123 :: (obT v.m v.m.length ++ [125]) := by
 obtain ⟨k, n, s, l, m⟩ := v
 rw [lsT_all, obT_all, prV]
 rfl
theorem prT_mem {l : List JV} {x : JV} (h : x ∈ l) : (prV x).length ≤ ((prT l).drop 1).length := by
 induction l with
 | nil => cases h
 | cons y t ih =>
  rw [prT]
  rcases List.mem_cons.1 h with rfl | h
  · simp
  have := ih h
  simp at this ⊢
  omega
theorem prU_mem {m : List MemT} {x : MemT} (h : x ∈ m) : (quo x.1).length + (prV x.2).length ≤ ((prU m).drop 1).length := by
 induction m with
 | nil => cases h
 | cons y t ih =>
  obtain ⟨a, b⟩ := y
  rw [prU]
  rcases List.mem_cons.1 h with rfl | h
  · simp; omega
  have := ih h
  simp at this ⊢
  omega
def RPrnC (v : JV) : Prop := ∀ (d : Nat), mayV v d = true → (prV v).length ≤ 1000000000 → ∀ (F : Nat → Prop) (w : World) (cs : List Value), RdJ w F v cs →
 Calls Tryz.prog 110 #[.agg cs.toArray] w fun e w' => e = .returned (str (prV v)) ∧ Below w.heap.size w w'
attribute [local go_sem] str_cat
set_option maxRecDepth 100000 in
set_option maxHeartbeats 32000000 in
theorem rjprn_step (v : JV) (IHL : ∀ x ∈ v.l, RPrnC x) (IHM : ∀ x ∈ v.m, RPrnC x.2) : RPrnC v := by
 intro d hm hlen F w cs h
 have HM := Lib.hid (may_parts hm)
 obtain ⟨al, ll, cl, am, lm, cm, rfl, ⟨rl, hrl, hll, rfl⟩, rm, hrm, hmm, rfl⟩ := h.open
 have g0 : v.l.length ≤ 9223372036854775807 := (hrl.lens).2.1
 have g1 : v.m.length ≤ 9223372036854775807 := (hrm.lens).2.1
 obtain ⟨W1, hW1⟩ : ∃ W1, W1 = w.alloc (.cells #[.int .i64 v.kind, .int .i64 v.n, str v.s, .slice al v.l.length cl, .slice am v.m.length cm] 95) := ⟨_, rfl⟩
 have hb1 : Below w.heap.size w W1 := by rw [hW1]; exact below_alloc _ _
 have hbx : W1.heap[w.heap.size]? = some (.cells #[.int .i64 v.kind, .int .i64 v.n, str v.s, .slice al v.l.length cl, .slice am v.m.length cm] 95 (0, 0)) := by rw [hW1]; exact heap_alloc_new _ _
 have HB := Lib.hid (And.intro hb1 hbx)
 have HL := Lib.hid (And.intro hrl (And.intro hll (And.intro hrm hmm)))
 have IL := Lib.hid IHL
 have IM := Lib.hid IHM
 have hkk : v.kind = 1 ∨ v.kind = 2 ∨ v.kind = 3 ∨ v.kind = 4 ∨ v.kind = 5 ∨ v.kind = 6 ∨ v.kind = 7 := by have := HM.out.1; omega
 clear IHL IHM hm hrl hll hrm hmm h hb1 hbx
 rcases hkk with hk | hk | hk | hk | hk | hk | hk
 · as_aux_lemma =>
   have y1 : (v.kind == 1) = true := by rw [hk]; rfl
   have HE : Hid (prV v = [110, 117, 108, 108]) := Lib.hid (by rw [pr_kind, hk]; rfl)
   clear hk IL IM HL HM
   go_enter Tryz.func110, Tryz.ntmps110
   go_upto_region 1 with fail
   rw [← hW1]
   clear hW1
   have p0 := box_cell HB.out.2 0
   go_wp2_with fail
   go_ret
   exact ⟨by rw [HE.out]; rfl, HB.out.1⟩
 · as_aux_lemma =>
   have y1 : (v.kind == 1) = false := by rw [hk]; rfl
   have y2 : (v.kind == 2) = true := by rw [hk]; rfl
   have HE : Hid (prV v = [102, 97, 108, 115, 101]) := Lib.hid (by rw [pr_kind, hk]; rfl)
   clear hk IL IM HL HM
   go_enter Tryz.func110, Tryz.ntmps110
   go_upto_region 1 with fail
   rw [← hW1]
   clear hW1
   have p0 := box_cell HB.out.2 0
   go_wp2_with fail
   go_ret
   exact ⟨by rw [HE.out]; rfl, HB.out.1⟩
 · as_aux_lemma =>
   have y1 : (v.kind == 1) = false := by rw [hk]; rfl
   have y2 : (v.kind == 2) = false := by rw [hk]; rfl
   have y3 : (v.kind == 3) = true := by rw [hk]; rfl
   have HE : Hid (prV v = [116, 114, 117, 101]) := Lib.hid (by rw [pr_kind, hk]; rfl)
   clear hk IL IM HL HM
   go_enter Tryz.func110, Tryz.ntmps110
   go_upto_region 1 with fail
   rw [← hW1]
   clear hW1
   have p0 := box_cell HB.out.2 0
   go_wp2_with fail
   go_ret
   exact ⟨by rw [HE.out]; rfl, HB.out.1⟩
 · as_aux_lemma =>
   have y1 : (v.kind == 1) = false := by rw [hk]; rfl
   have y2 : (v.kind == 2) = false := by rw [hk]; rfl
   have y3 : (v.kind == 3) = false := by rw [hk]; rfl
   have y4 : (v.kind == 4) = true := by rw [hk]; rfl
   have HE : Hid (prV v = Lib.itoa v.n) := Lib.hid (by rw [pr_kind, hk]; rfl)
   have CD := Lib.hid (fun W => decN_any v.n (by have := HM.out.2.1; omega) W)
   clear hk IL IM HL HM
   go_enter Tryz.func110, Tryz.ntmps110
   go_upto_region 1 with fail
   rw [← hW1]
   clear hW1
   obtain ⟨p0, p1⟩ := box2 HB.out.2
   go_wp2_with fail
   refine (CD.out _).mono ?_
   rintro e w2 ⟨rfl, hb2⟩
   have HX := Lib.hid (HB.out.1.trans (hb2.mono HB.out.1.size))
   clear hb2 CD p0 p1
   go_wp2_with fail
   go_ret
   exact ⟨by rw [HE.out]; rfl, HX.out⟩
 · as_aux_lemma =>
   have y1 : (v.kind == 1) = false := by rw [hk]; rfl
   have y2 : (v.kind == 2) = false := by rw [hk]; rfl
   have y3 : (v.kind == 3) = false := by rw [hk]; rfl
   have y4 : (v.kind == 4) = false := by rw [hk]; rfl
   have y5 : (v.kind == 5) = true := by rw [hk]; rfl
   have HE : Hid (prV v = quo v.s) := Lib.hid (by rw [pr_kind, hk]; rfl)
   have CD := Lib.hid (rquote_yes v.s HM.out.2.2.1)
   clear hk IL IM HL HM
   go_enter Tryz.func110, Tryz.ntmps110
   go_upto_region 1 with fail
   rw [← hW1]
   clear hW1
   have p0 := box_cell HB.out.2 0
   have p2 := box_cell HB.out.2 2
   go_wp2_with fail
   refine (CD.out _).mono ?_
   rintro e w2 ⟨rfl, hb2⟩
   have HX := Lib.hid (HB.out.1.trans (hb2.mono HB.out.1.size))
   clear hb2 CD p0 p2
   go_wp2_with fail
   go_ret
   exact ⟨by rw [HE.out]; rfl, HX.out⟩
 · as_aux_lemma =>
   have y1 : (v.kind == 1) = false := by rw [hk]; rfl
   have y2 : (v.kind == 2) = false := by rw [hk]; rfl
   have y3 : (v.kind == 3) = false := by rw [hk]; rfl
   have y4 : (v.kind == 4) = false := by rw [hk]; rfl
   have y5 : (v.kind == 5) = false := by rw [hk]; rfl
   have y6 : (v.kind == 6) = true := by rw [hk]; rfl
   have HE : Hid (prV v = 91 :: (lsT v.l v.l.length ++ [93])) := Lib.hid (by rw [pr_kind, hk]; rfl)
   have HLL : Hid (∀ k, k ≤ v.l.length → (lsT v.l k).length ≤ 1000000000) := Lib.hid (fun k hk' => by
    have h1 := lsT_le v.l hk'
    rw [HE.out] at hlen
    rw [← lsT_all] at h1
    simp at hlen
    omega)
   have IX : Hid (∀ x ∈ v.l, ∀ (F : Nat → Prop) (w : World) (cs : List Value), RdJ w F x cs → Calls Tryz.prog 110 #[.agg cs.toArray] w fun e w' => e = .returned (str (prV x)) ∧ Below w.heap.size w w') := Lib.hid (fun x hx F w cs h => IL.out x hx (d - 1) (mayL_mem HM.out.2.2.2.1 x hx) (by
    have h1 := prT_mem hx
    rw [HE.out] at hlen
    rw [← lsT_all] at h1
    simp at hlen
    omega) F w cs h)
   have HXL : Hid (∀ x ∈ v.l, (prV x).length ≤ 1000000000) := Lib.hid (fun x hx => by
    have h1 := prT_mem hx
    rw [HE.out] at hlen
    rw [← lsT_all] at h1
    simp at hlen
    omega)
   clear hk IL IM HM hlen
   go_enter Tryz.func110, Tryz.ntmps110
   go_upto_region 1 with fail
   rw [← hW1]
   clear hW1
   have p0 := box_cell HB.out.2 0
   go_wp2_with fail
   clear p0
   go_loopw [5, 6] (fun v5 v6 wr => ∃ (k : Nat) (A : List UInt8), k ≤ v.l.length ∧ v5 = str A ∧ v6 = .int .i64 (k : Int) ∧ Hid (A = 91 :: lsT v.l k) ∧ Hid (Below W1.heap.size W1 wr)) (fun _ v6 _ => v.l.length - (intOf v6).toNat)
   case atStart => exact ⟨0, [91], Nat.zero_le _, rfl, rfl, Lib.hid rfl, Lib.hid (Below.refl _ _)⟩
   case round =>
    obtain ⟨k, A, hk, rfl, rfl, HA, HW⟩ := hrel
    have HWW := Lib.hid (HB.out.1.trans (HW.out.mono HB.out.1.size))
    have b3 := box_cell (box_up HB.out.2 HW.out) 3
    have hAl : A.length ≤ 1000000001 := by have := HLL.out k hk; rw [HA.out]; simp; omega
    have l1 : ¬ 9223372036854775807 < A.length + 1 := by omega
    by_cases hlt : k < v.l.length
    · have n1 : (k : Int) < (v.l.length : Int) := by omega
      have n3 : (0 : Int) ≤ (k : Int) := by omega
      obtain ⟨b, off, a, n, c, a', n', c', rfl, _, hbw, hx, c0, c1, c2, c3, c4⟩ := RdJ.part HL.out.1 HL.out.2.1 hlt
      have HN : Hid (∀ h0 : k ≠ 0, lsT v.l (k + 1) = lsT v.l k ++ 44 :: prV v.l[k]) := Lib.hid (fun h0 => lsT_succ hlt h0)
      have HN0 : Hid (k = 0 → lsT v.l (k + 1) = prV v.l[k]) := Lib.hid (fun h0 => by subst h0; exact lsT_one hlt)
      have hxl := HXL.out _ (List.getElem_mem hlt)
      have CI := IX.out _ (List.getElem_mem hlt)
      obtain ⟨x, hxx⟩ : ∃ x, x = v.l[k] := ⟨_, rfl⟩
      rw [← hxx] at hx c0 c1 c2 HN HN0 hxl CI
      clear hxx
      have e0 : wr.cell? ⟨b, off + k * 5, none⟩ = some (.int .i64 x.kind) := (HWW.out.cell (p := ⟨b, off + k * 5, none⟩) hbw).trans c0
      have e1 : wr.cell? ⟨b, off + k * 5 + 1, none⟩ = some (.int .i64 x.n) := (HWW.out.cell (p := ⟨b, off + k * 5 + 1, none⟩) hbw).trans c1
      have e2 : wr.cell? ⟨b, off + k * 5 + 2, none⟩ = some (str x.s) := (HWW.out.cell (p := ⟨b, off + k * 5 + 2, none⟩) hbw).trans c2
      have e3 : wr.cell? ⟨b, off + k * 5 + 3, none⟩ = some (.slice a n c) := (HWW.out.cell (p := ⟨b, off + k * 5 + 3, none⟩) hbw).trans c3
      have e4 : wr.cell? ⟨b, off + k * 5 + 4, none⟩ = some (.slice a' n' c') := (HWW.out.cell (p := ⟨b, off + k * 5 + 4, none⟩) hbw).trans c4
      have CP := CI F wr _ (hx.up HWW.out)
      obtain ⟨X, hX⟩ : ∃ X, X = prV x := ⟨_, rfl⟩
      rw [← hX] at CP HN HN0 hxl
      have CP := Lib.hid CP
      clear hx c0 c1 c2 c3 c4 hbw hX CI
      have l2 : ¬ 9223372036854775807 < A.length + 1 + X.length := by omega
      have l3 : ¬ 9223372036854775807 < A.length + (1 + X.length) := by omega
      have l4 : ¬ 9223372036854775807 < A.length + X.length := by omega
      have l5 : ¬ 9223372036854775807 < A.length + (X.length + 1) := by omega
      clear hAl hxl
      by_cases h0 : k = 0
      · have y7 : decide ((0 : Int) < (k : Int)) = false := decide_eq_false (by omega)
        have y8 : decide (0 < k) = false := decide_eq_false (by omega)
        have y9 : ¬ 0 < k := by omega
        have y10 : ¬ (0 : Int) < (k : Int) := by omega
        have hz : lsT v.l k = [] := by rw [h0]; rfl
        have HQ : Hid (A ++ X = 91 :: lsT v.l (k + 1)) := Lib.hid (by rw [HA.out, HN0.out h0, hz]; simp)
        clear h0 HN HN0 hz
        go_wp2_with fail
        refine CP.out.mono ?_
        rintro e w2 ⟨rfl, hb2⟩
        have HX := Lib.hid (HW.out.trans (hb2.mono HW.out.size))
        clear hb2 CP
        go_wp2_with fail
        go_roundw
        case rel => exact ⟨k + 1, A ++ X, by omega, rfl, by go_num, HQ, HX⟩
        case measure => simp [intOf]; omega
      have y7 : decide ((0 : Int) < (k : Int)) = true := decide_eq_true (by omega)
      have y8 : decide (0 < k) = true := decide_eq_true (by omega)
      have y9 : 0 < k := by omega
      have y10 : (0 : Int) < (k : Int) := by omega
      have HQ : Hid (A ++ 44 :: X = 91 :: lsT v.l (k + 1)) := Lib.hid (by rw [HA.out, HN.out h0]; simp)
      clear h0 HN HN0
      go_wp2_with fail
      refine CP.out.mono ?_
      rintro e w2 ⟨rfl, hb2⟩
      have HX := Lib.hid (HW.out.trans (hb2.mono HW.out.size))
      clear hb2 CP
      go_wp2_with fail
      go_roundw
      case rel => exact ⟨k + 1, A ++ 44 :: X, by omega, rfl, by go_num, HQ, HX⟩
      case measure => simp [intOf]; omega
    obtain rfl : k = v.l.length := by omega
    have n2 : ¬ (v.l.length : Int) < (v.l.length : Int) := by omega
    clear hAl
    go_wp2_with fail
    go_ret
    exact ⟨by rw [HE.out, HA.out]; rfl, HWW.out⟩
 as_aux_lemma =>
 have y6 : (v.kind == 6) = false := by rw [hk]; rfl
 have y1 : (v.kind == 1) = false := by rw [hk]; rfl
 have y2 : (v.kind == 2) = false := by rw [hk]; rfl
 have y3 : (v.kind == 3) = false := by rw [hk]; rfl
 have y4 : (v.kind == 4) = false := by rw [hk]; rfl
 have y5 : (v.kind == 5) = false := by rw [hk]; rfl
 have HE : Hid (prV v = 123 :: (obT v.m v.m.length ++ [125])) := Lib.hid (by rw [pr_kind, hk]; rfl)
 have HLL : Hid (∀ k, k ≤ v.m.length → (obT v.m k).length ≤ 1000000000) := Lib.hid (fun k hk' => by
  have h1 := obT_le v.m hk'
  rw [HE.out] at hlen
  rw [← obT_all] at h1
  simp at hlen
  omega)
 have HXL : Hid (∀ x ∈ v.m, (quo x.1).length + (prV x.2).length ≤ 1000000000) := Lib.hid (fun x hx => by
  have h1 := prU_mem hx
  rw [HE.out] at hlen
  rw [← obT_all] at h1
  simp at hlen
  omega)
 have IX : Hid (∀ x ∈ v.m, txF x.1 = true ∧ ∀ (F : Nat → Prop) (w : World) (cs : List Value), RdJ w F x.2 cs → Calls Tryz.prog 110 #[.agg cs.toArray] w fun e w' => e = .returned (str (prV x.2)) ∧ Below w.heap.size w w') := Lib.hid (fun x hx => ⟨(mayM_mem HM.out.2.2.2.2 x hx).1, fun F w cs h => IM.out x hx (d - 1) (mayM_mem HM.out.2.2.2.2 x hx).2 (by have := HXL.out x hx; omega) F w cs h⟩)
 clear hk IL IM HM hlen
 go_enter Tryz.func110, Tryz.ntmps110
 go_upto_region 1 with fail
 rw [← hW1]
 clear hW1
 have p0 := box_cell HB.out.2 0
 go_wp2_with fail
 clear p0
 go_loopw [7, 8] (fun v7 v8 wr => ∃ (k : Nat) (A : List UInt8), k ≤ v.m.length ∧ v7 = str A ∧ v8 = .int .i64 (k : Int) ∧ Hid (A = 123 :: obT v.m k) ∧ Hid (Below W1.heap.size W1 wr)) (fun _ v8 _ => v.m.length - (intOf v8).toNat)
 case atStart => exact ⟨0, [123], Nat.zero_le _, rfl, rfl, Lib.hid rfl, Lib.hid (Below.refl _ _)⟩
 case round =>
  obtain ⟨k, A, hk, rfl, rfl, HA, HW⟩ := hrel
  have HWW := Lib.hid (HB.out.1.trans (HW.out.mono HB.out.1.size))
  have b4 := box_cell (box_up HB.out.2 HW.out) 4
  have hAl : A.length ≤ 1000000001 := by have := HLL.out k hk; rw [HA.out]; simp; omega
  have l1 : ¬ 9223372036854775807 < A.length + 1 := by omega
  by_cases hlt : k < v.m.length
  · have n1 : (k : Int) < (v.m.length : Int) := by omega
    have n3 : (0 : Int) ≤ (k : Int) := by omega
    obtain ⟨b, off, a, n, c, a', n', c', rfl, _, hbw, hx, c0, c1, c2, c3, c4, c5⟩ := RdJ.memb HL.out.2.2.1 HL.out.2.2.2 hlt
    have HN : Hid (∀ h0 : k ≠ 0, obT v.m (k + 1) = obT v.m k ++ 44 :: (quo v.m[k].1 ++ 58 :: prV v.m[k].2)) := Lib.hid (fun h0 => obT_succ hlt h0)
    have HN0 : Hid (k = 0 → obT v.m (k + 1) = quo v.m[k].1 ++ 58 :: prV v.m[k].2) := Lib.hid (fun h0 => by subst h0; exact obT_one hlt)
    have hxl := HXL.out _ (List.getElem_mem hlt)
    have CI := IX.out _ (List.getElem_mem hlt)
    obtain ⟨x, hxx⟩ : ∃ x, x = v.m[k] := ⟨_, rfl⟩
    rw [← hxx] at hx c0 c1 c2 c3 HN HN0 hxl CI
    clear hxx
    obtain ⟨nm, x⟩ := x
    dsimp only at hx c0 c1 c2 c3 c4 c5 HN HN0 hxl CI
    have e0 : wr.cell? ⟨b, off + k * 6, none⟩ = some (str nm) := (HWW.out.cell (p := ⟨b, off + k * 6, none⟩) hbw).trans c0
    have e1 : wr.cell? ⟨b, off + k * 6 + 1, none⟩ = some (.int .i64 x.kind) := (HWW.out.cell (p := ⟨b, off + k * 6 + 1, none⟩) hbw).trans c1
    have e2 : wr.cell? ⟨b, off + k * 6 + 2, none⟩ = some (.int .i64 x.n) := (HWW.out.cell (p := ⟨b, off + k * 6 + 2, none⟩) hbw).trans c2
    have e3 : wr.cell? ⟨b, off + k * 6 + 3, none⟩ = some (str x.s) := (HWW.out.cell (p := ⟨b, off + k * 6 + 3, none⟩) hbw).trans c3
    have e4 : wr.cell? ⟨b, off + k * 6 + 4, none⟩ = some (.slice a n c) := (HWW.out.cell (p := ⟨b, off + k * 6 + 4, none⟩) hbw).trans c4
    have e5 : wr.cell? ⟨b, off + k * 6 + 5, none⟩ = some (.slice a' n' c') := (HWW.out.cell (p := ⟨b, off + k * 6 + 5, none⟩) hbw).trans c5
    have CQ := rquote_yes nm CI.1
    have CP : Hid (∀ W, Below wr.heap.size wr W → Calls Tryz.prog 110 #[.agg #[.int .i64 x.kind, .int .i64 x.n, str x.s, .slice a n c, .slice a' n' c']] W fun e w' => e = .returned (str (prV x)) ∧ Below W.heap.size W w') := Lib.hid (fun W h => CI.2 F W _ ((hx.up HWW.out).up h))
    obtain ⟨X, hX⟩ : ∃ X, X = prV x := ⟨_, rfl⟩
    obtain ⟨QN, hQN⟩ : ∃ QN, QN = quo nm := ⟨_, rfl⟩
    rw [← hX] at CP HN HN0 hxl
    rw [← hQN] at CQ HN HN0 hxl
    have CQ := Lib.hid CQ
    have hql : QN.length ≤ 1000000000 := by omega
    replace hxl : X.length ≤ 1000000000 := by omega
    clear hx c0 c1 c2 c3 c4 c5 hbw hX hQN CI
    by_cases h0 : k = 0
    · have y7 : decide ((0 : Int) < (k : Int)) = false := decide_eq_false (by omega)
      have y8 : decide (0 < k) = false := decide_eq_false (by omega)
      have y9 : ¬ 0 < k := by omega
      have y10 : ¬ (0 : Int) < (k : Int) := by omega
      have hz : obT v.m k = [] := by rw [h0]; rfl
      have HQ : Hid (A ++ (QN ++ 58 :: X) = 123 :: obT v.m (k + 1)) := Lib.hid (by rw [HA.out, HN0.out h0, hz]; simp)
      clear h0 HN HN0 hz
      go_upto_region 28 with fail
      obtain ⟨A2, hA2⟩ : ∃ A2, A2 = A := ⟨_, rfl⟩
      have h2l : A2.length ≤ 1000000002 := by rw [hA2]; first | omega | (simp; omega)
      rw [← hA2] at HQ
      subst hA2
      have l2 : ¬ 9223372036854775807 < QN.length + 1 := by omega
      have l3 : ¬ 9223372036854775807 < QN.length + 1 + X.length := by omega
      have l4 : ¬ 9223372036854775807 < QN.length + (1 + X.length) := by omega
      have l5 : ¬ 9223372036854775807 < QN.length + (X.length + 1) := by omega
      have l6 : ¬ 9223372036854775807 < A2.length + (QN.length + (X.length + 1)) := by omega
      have l7 : ¬ 9223372036854775807 < A2.length + (QN.length + 1 + X.length) := by omega
      have l8 : ¬ 9223372036854775807 < A2.length + (QN.length + (1 + X.length)) := by omega
      clear hAl hxl hql h2l l1
      go_wp2_with fail
      refine (CQ.out _).mono ?_
      rintro e w2 ⟨rfl, hb2⟩
      have HW2 := Lib.hid (HW.out.trans (hb2.mono HW.out.size))
      have HW3 := Lib.hid hb2
      have CP2 := Lib.hid (CP.out w2 HW3.out)
      have b4 := box_cell (box_up HB.out.2 HW2.out) 4
      replace e0 := (HW3.out.cell (p := ⟨b, off + k * 6, none⟩) (World.block_lt_of_cell? wr _ e0)).trans e0
      replace e1 := (HW3.out.cell (p := ⟨b, off + k * 6 + 1, none⟩) (World.block_lt_of_cell? wr _ e1)).trans e1
      replace e2 := (HW3.out.cell (p := ⟨b, off + k * 6 + 2, none⟩) (World.block_lt_of_cell? wr _ e2)).trans e2
      replace e3 := (HW3.out.cell (p := ⟨b, off + k * 6 + 3, none⟩) (World.block_lt_of_cell? wr _ e3)).trans e3
      replace e4 := (HW3.out.cell (p := ⟨b, off + k * 6 + 4, none⟩) (World.block_lt_of_cell? wr _ e4)).trans e4
      replace e5 := (HW3.out.cell (p := ⟨b, off + k * 6 + 5, none⟩) (World.block_lt_of_cell? wr _ e5)).trans e5
      clear hb2 CQ CP
      go_wp2_with fail
      refine CP2.out.mono ?_
      rintro e w3 ⟨rfl, hb3⟩
      have HX := Lib.hid (HW2.out.trans (hb3.mono HW2.out.size))
      clear hb3 CP2
      go_wp2_with fail
      go_roundw
      case rel => exact ⟨k + 1, A2 ++ (QN ++ 58 :: X), by omega, rfl, by go_num, HQ, HX⟩
      case measure => simp [intOf]; omega
    have y7 : decide ((0 : Int) < (k : Int)) = true := decide_eq_true (by omega)
    have y8 : decide (0 < k) = true := decide_eq_true (by omega)
    have y9 : 0 < k := by omega
    have y10 : (0 : Int) < (k : Int) := by omega
    have HQ : Hid ((A ++ [44]) ++ (QN ++ 58 :: X) = 123 :: obT v.m (k + 1)) := Lib.hid (by rw [HA.out, HN.out h0]; simp)
    clear h0 HN HN0
    go_upto_region 28 with fail
    obtain ⟨A2, hA2⟩ : ∃ A2, A2 = (A ++ [44]) := ⟨_, rfl⟩
    have h2l : A2.length ≤ 1000000002 := by rw [hA2]; first | omega | (simp; omega)
    rw [← hA2] at HQ
    rw [← hA2]
    clear hA2
    have l2 : ¬ 9223372036854775807 < QN.length + 1 := by omega
    have l3 : ¬ 9223372036854775807 < QN.length + 1 + X.length := by omega
    have l4 : ¬ 9223372036854775807 < QN.length + (1 + X.length) := by omega
    have l5 : ¬ 9223372036854775807 < QN.length + (X.length + 1) := by omega
    have l6 : ¬ 9223372036854775807 < A2.length + (QN.length + (X.length + 1)) := by omega
    have l7 : ¬ 9223372036854775807 < A2.length + (QN.length + 1 + X.length) := by omega
    have l8 : ¬ 9223372036854775807 < A2.length + (QN.length + (1 + X.length)) := by omega
    clear hAl hxl hql h2l l1
    go_wp2_with fail
    refine (CQ.out _).mono ?_
    rintro e w2 ⟨rfl, hb2⟩
    have HW2 := Lib.hid (HW.out.trans (hb2.mono HW.out.size))
    have HW3 := Lib.hid hb2
    have CP2 := Lib.hid (CP.out w2 HW3.out)
    have b4 := box_cell (box_up HB.out.2 HW2.out) 4
    replace e0 := (HW3.out.cell (p := ⟨b, off + k * 6, none⟩) (World.block_lt_of_cell? wr _ e0)).trans e0
    replace e1 := (HW3.out.cell (p := ⟨b, off + k * 6 + 1, none⟩) (World.block_lt_of_cell? wr _ e1)).trans e1
    replace e2 := (HW3.out.cell (p := ⟨b, off + k * 6 + 2, none⟩) (World.block_lt_of_cell? wr _ e2)).trans e2
    replace e3 := (HW3.out.cell (p := ⟨b, off + k * 6 + 3, none⟩) (World.block_lt_of_cell? wr _ e3)).trans e3
    replace e4 := (HW3.out.cell (p := ⟨b, off + k * 6 + 4, none⟩) (World.block_lt_of_cell? wr _ e4)).trans e4
    replace e5 := (HW3.out.cell (p := ⟨b, off + k * 6 + 5, none⟩) (World.block_lt_of_cell? wr _ e5)).trans e5
    clear hb2 CQ CP
    go_wp2_with fail
    refine CP2.out.mono ?_
    rintro e w3 ⟨rfl, hb3⟩
    have HX := Lib.hid (HW2.out.trans (hb3.mono HW2.out.size))
    clear hb3 CP2
    go_wp2_with fail
    go_roundw
    case rel => exact ⟨k + 1, A2 ++ (QN ++ 58 :: X), by omega, rfl, by go_num, HQ, HX⟩
    case measure => simp [intOf]; omega
  obtain rfl : k = v.m.length := by omega
  have n2 : ¬ (v.m.length : Int) < (v.m.length : Int) := by omega
  clear hAl
  go_wp2_with fail
  go_ret
  exact ⟨by rw [HE.out, HA.out]; rfl, HWW.out⟩
theorem rjprn_all (v : JV) : RPrnC v := JV.ind rjprn_step v
end Go.Proofs.YtegblhmcfemfgaaGreatDoor

namespace Go.Proofs.YtegblhmcfemfgaaGreatDoor
open Go.RowKit
theorem rname_any (l : List UInt8) (w : World) (hl : l.length ≤ 9223372036854775807) :
 Calls Tryz.prog 66 #[str l] w fun e w' => e = .returned (.bool (nameB l)) ∧ w' = w := by
 go_enter Tryz.func66, Tryz.ntmps66
 go_wp2_with fail
 go_loop [3, 4] (fun i _ => ∃ k : Nat, k ≤ l.length ∧ i = .int .i64 (k : Int) ∧ (l.take k).all nmB = true) (fun i _ => l.length - (intOf i).toNat)
 case atStart => exact ⟨0, Nat.zero_le _, rfl, rfl⟩
 case round =>
  obtain ⟨k, hk, rfl, hall⟩ := hrel
  have HALL := Lib.hid hall
  clear hall
  by_cases hlt : k < l.length
  · have n1 : (k : Int) < (l.length : Int) := by omega
    obtain ⟨d, hd⟩ : ∃ d, d = l[k] := ⟨_, rfl⟩
    have hgd : (ByteArray.mk l.toArray)[k]'(by simpa [ByteArray.size] using hlt) = d := hd.symm
    have hts : l.take (k + 1) = l.take k ++ [d] := by rw [hd]; exact List.take_succ_eq_append_getElem hlt
    have hno : nmB d = false → nameB l = false := fun h => nameB_no k hlt (by rw [← hd]; exact h)
    have hyes : nmB d = true → (l.take (k + 1)).all nmB = true := fun h => by rw [hts, List.all_append, HALL.out]; simp [h]
    have HNO := Lib.hid hno
    have HYES := Lib.hid hyes
    have hnm : nmB d = ((decide (97 ≤ d.toNat) && decide (d.toNat ≤ 122)) || (decide (48 ≤ d.toNat) && decide (d.toNat ≤ 57)) || decide (d.toNat = 45)) := rfl
    have HNM := Lib.hid hnm
    clear hd hts hno hyes hnm
    have key : (122 < d.toNat ∨ (57 < d.toNat ∧ d.toNat < 97) ∨ (d.toNat < 48 ∧ d.toNat ≠ 45)) ∨ ((97 ≤ d.toNat ∧ d.toNat ≤ 122) ∨ (48 ≤ d.toNat ∧ d.toNat ≤ 57) ∨ d.toNat = 45) := by omega
    rcases key with hb | hg
    · have hf : nameB l = false := HNO.out (by rw [HNM.out]; simp; omega)
      have HF := Lib.hid hf
      clear hf
      have hb' : ((122 : Int) < (d.toNat : Int) ∧ ¬ (d.toNat : Int) < 97 ∧ ¬ (d.toNat : Int) < 48 ∧ (57 : Int) < (d.toNat : Int) ∧ ((d.toNat : Int) != 45) = true) ∨ (¬ (122 : Int) < (d.toNat : Int) ∧ (d.toNat : Int) < 97 ∧ ¬ (d.toNat : Int) < 48 ∧ (57 : Int) < (d.toNat : Int) ∧ ((d.toNat : Int) != 45) = true) ∨
       (¬ (122 : Int) < (d.toNat : Int) ∧ (d.toNat : Int) < 97 ∧ (d.toNat : Int) < 48 ∧ ¬ (57 : Int) < (d.toNat : Int) ∧ ((d.toNat : Int) != 45) = true) := by
       simp only [bne_iff_ne]; omega
      clear hb
      rcases hb' with ⟨x1, x2, x3, x4, x5⟩ | ⟨x1, x2, x3, x4, x5⟩ | ⟨x1, x2, x3, x4, x5⟩
      all_goals
       go_wp2_with fail
       go_ret
       exact ⟨by rw [HF.out]; rfl, rfl⟩
    have hy := HYES.out (by rw [HNM.out]; simp; omega)
    have HY := Lib.hid hy
    clear hy
    have hb' : (¬ (122 : Int) < (d.toNat : Int) ∧ ¬ (d.toNat : Int) < 97 ∧ ¬ (d.toNat : Int) < 48) ∨ (¬ (122 : Int) < (d.toNat : Int) ∧ (d.toNat : Int) < 97 ∧ ¬ (d.toNat : Int) < 48 ∧ ¬ (57 : Int) < (d.toNat : Int)) ∨
     (¬ (122 : Int) < (d.toNat : Int) ∧ (d.toNat : Int) < 97 ∧ (d.toNat : Int) < 48 ∧ ((d.toNat : Int) != 45) = false) := by
     simp only [bne_eq_false_iff_eq]; omega
    clear hg
    rcases hb' with ⟨x1, x2, x3⟩ | ⟨x1, x2, x3, x4⟩ | ⟨x1, x2, x3, x4⟩
    all_goals
     go_wp2_with fail
     go_round
     case rel => exact ⟨k + 1, by omega, by go_num, HY.out⟩
     case measure => simp [intOf]; omega
  obtain rfl : k = l.length := by omega
  have n1 : ¬ (l.length : Int) < (l.length : Int) := by omega
  have hn : nameB l = (decide (1 ≤ l.length) && decide (l.length ≤ 20)) := by
   have := HALL.out
   rw [List.take_length] at this
   rw [nameB, this]; rfl
  have HN := Lib.hid hn
  clear hn
  have key : ((1 : Int) ≤ (l.length : Int) ∧ (l.length : Int) ≤ 20) ∨ ¬ (1 : Int) ≤ (l.length : Int) ∨ ((1 : Int) ≤ (l.length : Int) ∧ ¬ (l.length : Int) ≤ 20) := by omega
  rcases key with ⟨k1, k2⟩ | k1 | ⟨k1, k2⟩
  · have hv : nameB l = true := by rw [HN.out]; simp; omega
    have HV := Lib.hid hv
    clear hv
    go_wp2_with fail
    go_ret
    exact ⟨by rw [HV.out]; rfl, rfl⟩
  · have hv : nameB l = false := by rw [HN.out]; simp; omega
    have HV := Lib.hid hv
    clear hv
    go_wp2_with fail
    go_ret
    exact ⟨by rw [HV.out]; rfl, rfl⟩
  have hv : nameB l = false := by rw [HN.out]; simp; omega
  have HV := Lib.hid hv
  clear hv
  go_wp2_with fail
  go_ret
  exact ⟨by rw [HV.out]; rfl, rfl⟩
end Go.Proofs.YtegblhmcfemfgaaGreatDoor

namespace Go.Proofs.YtegblhmcfemfgaaGreatDoor
open Go.RowKit

set_option maxRecDepth 100000 in
set_option maxHeartbeats 4000000 in
theorem rPrint_any (v : JV) (hst : stV v) (hlen : mayV v 64 = true → (prV v).length ≤ 1000000) (F : Nat → Prop) (w : World) (cs : List Value) (h : RdJ w F v cs) :
 Calls Tryz.prog 78 #[.agg cs.toArray] w fun e w' => ∃ u, e = .returned (.tuple #[u, .int .i64 (if mayV v 64 = true then 0 else 4)]) ∧ Rd w' u (if mayV v 64 = true then prV v else []) ∧ Below w.heap.size w w' := by
 have CM : Hid (∀ W, Below w.heap.size w W → Calls Tryz.prog 109 #[.agg cs.toArray] W fun e w' => e = .returned (.bool (mayV v 64)) ∧ Below W.heap.size W w') := Lib.hid (fun W hb => rMay_any v hst F W cs (h.up hb))
 have CP : Hid (mayV v 64 = true → ∀ W, Below w.heap.size w W → Calls Tryz.prog 110 #[.agg cs.toArray] W fun e w' => e = .returned (str (prV v)) ∧ Below W.heap.size W w') := Lib.hid (fun hm W hb => rjprn_all v 64 hm (by have := hlen hm; omega) F W cs (h.up hb))
 have HLN := Lib.hid hlen
 obtain ⟨a1, n1, c1, a2, n2, c2, rfl, _, _⟩ := h.open
 obtain ⟨W1, hW1⟩ : ∃ W1, W1 = w.alloc (.cells #[.int .i64 v.kind, .int .i64 v.n, str v.s, .slice a1 n1 c1, .slice a2 n2 c2] 95) := ⟨_, rfl⟩
 have hb1 : Below w.heap.size w W1 := by rw [hW1]; exact below_alloc _ _
 have hbx : W1.heap[w.heap.size]? = some (.cells #[.int .i64 v.kind, .int .i64 v.n, str v.s, .slice a1 n1 c1, .slice a2 n2 c2] 95 (0, 0)) := by rw [hW1]; exact heap_alloc_new _ _
 have HB := Lib.hid (And.intro hb1 hbx)
 replace CM := Lib.hid (CM.out W1 hb1)
 clear hst hlen h hb1
 obtain ⟨p0, p1, p2, p3, p4⟩ := box5 hbx
 clear hbx
 cases hm : mayV v 64 with
 | false =>
  rw [hm] at CM
  clear hm CP HLN
  go_enter Tryz.func78, Tryz.ntmps78
  go_upto_region 1 with fail
  rw [← hW1]
  clear hW1
  go_wp2_with fail
  refine CM.out.mono ?_
  rintro e w2 ⟨rfl, hb2⟩
  have HX := Lib.hid (HB.out.1.trans (hb2.mono HB.out.1.size))
  clear hb2 CM p0 p1 p2 p3 p4
  go_wp2_with fail
  go_ret2
  exact ⟨_, rfl, Rd.nil _, HX.out⟩
 | true =>
  rw [hm] at CM
  have CP2 := Lib.hid (CP.out hm)
  have hl := HLN.out hm
  obtain ⟨T, hT⟩ : ∃ T, T = prV v := ⟨_, rfl⟩
  rw [← hT] at CP2 hl ⊢
  have HL9 := Lib.hid hl
  clear hm CP HLN hT hl
  go_enter Tryz.func78, Tryz.ntmps78
  go_upto_region 1 with fail
  rw [← hW1]
  clear hW1
  go_wp2_with fail
  refine CM.out.mono ?_
  rintro e w2 ⟨rfl, hb2⟩
  have H2 := Lib.hid (And.intro (HB.out.1.trans (hb2.mono HB.out.1.size)) (box_up HB.out.2 hb2))
  clear hb2 CM p0 p1 p2 p3 p4
  obtain ⟨p0, p1, p2, p3, p4⟩ := box5 H2.out.2
  have CP3 := Lib.hid (CP2.out w2 H2.out.1)
  go_wp2_with fail
  refine CP3.out.mono ?_
  rintro e w3 ⟨rfl, hb3⟩
  obtain ⟨cap, w4, hconv, hrd, hb4⟩ := bytes_run T w3 HL9.out
  have HX := Lib.hid (And.intro hrd ((H2.out.1.trans (hb3.mono H2.out.1.size)).trans (hb4.mono (Nat.le_trans H2.out.1.size hb3.size))))
  clear hb3 hrd hb4 CP2 CP3 p0 p1 p2 p3 p4
  go_wp2_with fail
  go_ret2
  exact ⟨_, rfl, HX.out.1, HX.out.2⟩
end Go.Proofs.YtegblhmcfemfgaaGreatDoor

set_option maxRecDepth 100000
set_option maxHeartbeats 4000000
namespace Go.Proofs.YtegblhmcfemfgaaGreatDoor
open Go.RowKit

def refO (ms : List MemT) (ok : Bool) : List UInt8 × Int := if ok = true then objR ms else ([], 4)
def shortB (s : List UInt8) : Bool := decide (s.length ≤ 500) && validB s
theorem rshort_any (s : List UInt8) (w : World) (hl : s.length ≤ 9223372036854775807) : Calls Tryz.prog 65 #[str s] w fun e w' => e = .returned (.bool (shortB s)) ∧ w' = w := by
 have CV := Lib.hid (fun W => refValid_any s W hl)
 unfold shortB
 by_cases h : s.length ≤ 500
 · have d1 : decide ((s.length : Int) ≤ 500) = true := decide_eq_true (by omega)
   have d2 : decide (s.length ≤ 500) = true := decide_eq_true h
   rw [d2, Bool.true_and]
   clear h hl
   go_enter Tryz.func65, Tryz.ntmps65
   go_wp2_with fail
   refine (CV.out _).mono ?_
   rintro e w' ⟨rfl, rfl⟩
   go_wp2_with fail
   go_ret
   exact ⟨rfl, rfl⟩
 have d1 : decide ((s.length : Int) ≤ 500) = false := decide_eq_false (by omega)
 have d2 : decide (s.length ≤ 500) = false := decide_eq_false h
 rw [d2, Bool.false_and]
 clear h hl
 go_enter Tryz.func65, Tryz.ntmps65
 go_wp2_with fail
 go_ret
 exact ⟨rfl, rfl⟩
theorem robj_any (a : Option Addr) (n c : Nat) (w : World) : Calls Tryz.prog 62 #[.slice a n c] w fun e w' => e = .returned (.agg #[.int .i64 7, .int .i64 0, str [], .slice none 0 0, .slice a n c]) ∧ Below w.heap.size w w' := by
 go_enter Tryz.func62, Tryz.ntmps62
 go_wp2_with fail
 exact bodyPost_ret (v := .agg #[.int .i64 7, .int .i64 0, str [], .slice none 0 0, .slice a n c]) (by simp [results, Tryz.results62, go_sem]) rfl ⟨rfl, below_alloc _ _⟩
theorem rnum1_any (n : Int) (w : World) : Calls Tryz.prog 63 #[.int .i64 n] w fun e w' => e = .returned (.agg #[.int .i64 4, .int .i64 n, str [], .slice none 0 0, .slice none 0 0]) ∧ Below w.heap.size w w' := by
 go_enter Tryz.func63, Tryz.ntmps63
 go_wp2_with fail
 exact bodyPost_ret (v := .agg #[.int .i64 4, .int .i64 n, str [], .slice none 0 0, .slice none 0 0]) (by simp [results, Tryz.results63, go_sem]) rfl ⟨rfl, below_alloc _ _⟩
theorem rtext1_any (s : List UInt8) (w : World) : Calls Tryz.prog 64 #[str s] w fun e w' => e = .returned (.agg #[.int .i64 5, .int .i64 0, str s, .slice none 0 0, .slice none 0 0]) ∧ Below w.heap.size w w' := by
 go_enter Tryz.func64, Tryz.ntmps64
 go_wp2_with fail
 exact bodyPost_ret (v := .agg #[.int .i64 5, .int .i64 0, str s, .slice none 0 0, .slice none 0 0]) (by simp [results, Tryz.results64, go_sem]) rfl ⟨rfl, below_alloc _ _⟩
theorem rprinted_any (ms : List MemT) (ok : Bool) (hst : stM ms) (hlen : mayV (.mk 7 0 [] [] ms) 64 = true → (prV (.mk 7 0 [] [] ms)).length ≤ 1000000) (F : Nat → Prop) (w : World) (cs : List Value) (h : RdJ w F (.mk 7 0 [] [] ms) cs) :
 Calls Tryz.prog 61 #[.agg cs.toArray, .bool ok] w fun e w' => e = .returned (.tuple #[str (refO ms ok).1, .int .i64 (refO ms ok).2]) ∧ Below w.heap.size w w' := by
 have hsv : stV (.mk 7 0 [] [] ms) := by unfold stV; exact ⟨by simp, by unfold stL; trivial, hst⟩
 have CP : Hid (∀ W, Below w.heap.size w W → Calls Tryz.prog 78 #[.agg cs.toArray] W fun e w' => ∃ u, e = .returned (.tuple #[u, .int .i64 (if mayV (.mk 7 0 [] [] ms) 64 = true then 0 else 4)]) ∧ Rd w' u (if mayV (.mk 7 0 [] [] ms) 64 = true then prV (.mk 7 0 [] [] ms) else []) ∧ Below W.heap.size W w') := Lib.hid (fun W hb => rPrint_any _ hsv hlen F W cs (h.up hb))
 obtain ⟨a1, n1, c1, a2, n2, c2, rfl, _, _⟩ := h.open
 unfold refO objR
 obtain ⟨V, hV⟩ : ∃ V : JV, V = .mk 7 0 [] [] ms := ⟨_, rfl⟩
 rw [← hV] at CP ⊢
 obtain ⟨W1, hW1⟩ : ∃ W1, W1 = w.alloc (.cells #[.int .i64 V.kind, .int .i64 V.n, str V.s, .slice a1 n1 c1, .slice a2 n2 c2] 95) := ⟨_, rfl⟩
 have hb1 : Below w.heap.size w W1 := by rw [hW1]; exact below_alloc _ _
 have hbx : W1.heap[w.heap.size]? = some (.cells #[.int .i64 V.kind, .int .i64 V.n, str V.s, .slice a1 n1 c1, .slice a2 n2 c2] 95 (0, 0)) := by rw [hW1]; exact heap_alloc_new _ _
 obtain ⟨p0, p1, p2, p3, p4⟩ := box5 hbx
 replace CP := Lib.hid (CP.out W1 hb1)
 have HB := Lib.hid hb1
 clear hbx hb1 h hsv hlen hst hV
 obtain ⟨T, hT⟩ : ∃ T, T = prV V := ⟨_, rfl⟩
 rw [← hT] at CP ⊢
 clear hT
 cases hm : mayV V 64 with
 | false =>
  rw [hm] at CP
  have HE : Hid ((if ok = true then (if false = true then (T, 0) else ([], 4)) else (([], 4) : List UInt8 × Int)) = ([], 4)) := Lib.hid (by cases ok <;> rfl)
  rw [HE.out]
  clear hm HE
  cases ok with
  | false =>
   go_enter Tryz.func61, Tryz.ntmps61
   go_upto_region 1 with fail
   rw [← hW1]
   clear hW1
   go_wp2_with fail
   refine CP.out.mono ?_
   rintro e w2 ⟨u, rfl, hu, hb2⟩
   have HX := Lib.hid (HB.out.trans (hb2.mono HB.out.size))
   clear hb2 hu CP p0 p1 p2 p3 p4
   go_wp2_with fail
   go_ret2
   exact ⟨rfl, HX.out⟩
  | true =>
   go_enter Tryz.func61, Tryz.ntmps61
   go_upto_region 1 with fail
   rw [← hW1]
   clear hW1
   go_wp2_with fail
   refine CP.out.mono ?_
   rintro e w2 ⟨u, rfl, hu, hb2⟩
   have HX := Lib.hid (HB.out.trans (hb2.mono HB.out.size))
   clear hb2 hu CP p0 p1 p2 p3 p4
   go_wp2_with fail
   go_ret2
   exact ⟨rfl, HX.out⟩
 | true =>
  rw [hm] at CP
  clear hm
  cases ok with
  | false =>
   go_enter Tryz.func61, Tryz.ntmps61
   go_upto_region 1 with fail
   rw [← hW1]
   clear hW1
   go_wp2_with fail
   refine CP.out.mono ?_
   rintro e w2 ⟨u, rfl, hu, hb2⟩
   have HX := Lib.hid (HB.out.trans (hb2.mono HB.out.size))
   clear hb2 hu CP p0 p1 p2 p3 p4
   go_wp2_with fail
   go_ret2
   exact ⟨rfl, HX.out⟩
  | true =>
   go_enter Tryz.func61, Tryz.ntmps61
   go_upto_region 1 with fail
   rw [← hW1]
   clear hW1
   go_wp2_with fail
   refine CP.out.mono ?_
   rintro e w2 ⟨u, rfl, hu, hb2⟩
   have hu : Rd w2 u T := hu
   have hform : ∃ au cu, u = .slice au T.length cu := by obtain ⟨a, c, h, _⟩ := hu; exact ⟨a, c, h⟩
   obtain ⟨au, cu, rfl⟩ := hform
   have hconv := bt.toString Tryz.underlying9 hu
   have HX := Lib.hid (HB.out.trans (hb2.mono HB.out.size))
   clear hb2 CP p0 p1 p2 p3 p4
   go_wp2_with fail
   go_ret2
   exact ⟨rfl, HX.out⟩
end Go.Proofs.YtegblhmcfemfgaaGreatDoor

namespace Go.Proofs.YtegblhmcfemfgaaGreatDoor
open Go.RowKit

theorem objR_no {ms : List MemT} (h : mayV (.mk 7 0 [] [] ms) 64 = false) : objR ms = ([], 4) := by unfold objR; rw [if_neg (by rw [h]; simp)]
theorem mem_valid {ms : List MemT} {nm s : List UInt8} (hm : (nm, JV.mk 5 0 s [] []) ∈ ms) (hv : txF s = false) : mayV (.mk 7 0 [] [] ms) 64 = false := by
 cases h : mayV (.mk 7 0 [] [] ms) 64 with
 | false => rfl
 | true =>
  have h1 : mayM ms none 63 = true := (may_parts h).2.2.2.2
  have h2 := (mayM_mem h1 _ hm).2
  have h3 : txF s = true := (may_parts h2).2.2.1
  rw [hv] at h3
  cases h3
theorem refO_sub (s : List UInt8) : refO (subMs s) (decide (s = []) || nameB s) = putSubR s := by
 unfold refO putSubR
 by_cases h : s = []
 · rw [decide_eq_true h, Bool.true_or, if_pos rfl, if_neg (by simp [h])]
 rw [decide_eq_false h, Bool.false_or]
 cases hn : nameB s with
 | false => rw [if_neg (by simp), if_pos ⟨h, rfl⟩]
 | true => rw [if_pos rfl, if_neg (by simp)]
theorem refO_feed (t : List UInt8) (n : Int) : refO (feedMs t n) (decide (0 ≤ n) && decide (n ≤ 1000000) && shortB t) = putFeedR t n := by
 unfold refO putFeedR
 by_cases h1 : 0 ≤ n
 · by_cases h2 : n ≤ 1000000
   · rw [decide_eq_true h1, decide_eq_true h2, Bool.true_and, Bool.true_and]
     unfold shortB
     by_cases h3 : t.length ≤ 500
     · have hb : ¬ badF t n := by unfold badF; omega
       rw [decide_eq_true h3, Bool.true_and, if_neg hb]
       cases hv : validB t with
       | true => exact if_pos rfl
       | false =>
        refine (if_neg (by simp)).trans (objR_no (mem_valid (nm := titleN) (s := t) (by simp [feedMs]) ?_)).symm
        unfold txF
        rw [hv, Bool.and_false]
     rw [decide_eq_false h3, Bool.false_and, if_neg (by simp), if_pos (by unfold badF; omega)]
   rw [decide_eq_false h2, Bool.and_false, Bool.false_and, if_neg (by simp), if_pos (by unfold badF; omega)]
 rw [decide_eq_false h1, Bool.false_and, Bool.false_and, if_neg (by simp), if_pos (by unfold badF; omega)]
theorem refO_state (a b : Int) : refO (stateMs a b) (decide (0 ≤ a) && decide (a ≤ 2) && (decide (b = 0) || decide (b = 1)) && decide (0 < a + b)) = putStateR a b := by
 unfold refO putStateR
 by_cases h : badS a b
 · rw [if_pos h]
   have hb := h
   unfold badS at hb
   by_cases h1 : 0 ≤ a
   · by_cases h2 : a ≤ 2
     · by_cases h3 : b = 0 ∨ b = 1
       · have h4 : ¬ 0 < a + b := by omega
         rw [decide_eq_false h4, Bool.and_false, if_neg (by simp)]
       rw [decide_eq_false (show ¬ b = 0 by omega), decide_eq_false (show ¬ b = 1 by omega)]
       simp
     rw [decide_eq_false h2]; simp
   rw [decide_eq_false h1]; simp
 rw [if_neg h]
 have hb := h
 unfold badS at hb
 have h3 : (decide (b = 0) || decide (b = 1)) = true := by
  rcases (show b = 0 ∨ b = 1 by omega) with h | h
  · rw [decide_eq_true h, Bool.true_or]
  rw [decide_eq_true h, Bool.or_true]
 rw [decide_eq_true (show 0 ≤ a by omega), decide_eq_true (show a ≤ 2 by omega), h3, decide_eq_true (show 0 < a + b by omega)]
 rfl
def ObjAt (W1 : World) (cs : Array Value) (B : Nat) (W : World) : Prop := Below W1.heap.size W1 W ∧ W.heap[B]? = some (.cells cs 121 (0, 0))
theorem ObjAt.new {W1 w : World} (cs : Array Value) (h : Below W1.heap.size W1 w) : ObjAt W1 cs w.heap.size (w.alloc (.cells cs 121)) := ⟨h.trans ((below_alloc _ _).mono h.size), heap_alloc_new _ _⟩
theorem ObjAt.to {W1 w w' : World} {cs : Array Value} {B : Nat} (h : ObjAt W1 cs B w) (h1 : Below W1.heap.size W1 w') (hb : Below w.heap.size w w') : ObjAt W1 cs B w' := ⟨h1, box_up h.2 hb⟩
theorem feed_st {t : List UInt8} {n : Int} (h : t.length ≤ 9223372036854775807) : stM (feedMs t n) := by
 unfold feedMs
 simp [stM, stV, stL, titleN, h]
theorem state_st {a b : Int} : stM (stateMs a b) := by
 unfold stateMs
 simp [stM, stV, stL, readN, starN]
theorem feed_lenM {t : List UInt8} {n : Int} (h : mayV (.mk 7 0 [] [] (feedMs t n)) 64 = true) : (prV (.mk 7 0 [] [] (feedMs t n))).length ≤ 1000000 := by
 have hm := mayM_mem (may_parts h).2.2.2.2
 have hx : txF t = true := (may_parts (hm (titleN, .mk 5 0 t [] []) (by show _ ∈ feedMs t n; simp [feedMs])).2).2.2.1
 have hn : -9007199254740991 ≤ n ∧ n ≤ 9007199254740991 := (may_parts (hm ([110], .mk 4 n [] [] []) (by show _ ∈ feedMs t n; simp [feedMs])).2).2.1
 have h1 := quo_len t hx
 have h2 : (quo titleN).length = 7 := by decide
 have h3 : (quo [110]).length = 3 := by decide
 have h4 := itoa_len (n := n) (by omega)
 have e1 : prV (.mk 5 0 t [] []) = quo t := rfl
 have e2 : prV (.mk 4 n [] [] []) = Lib.itoa n := rfl
 have e : prV (.mk 7 0 [] [] (feedMs t n)) = 123 :: ((prU (feedMs t n)).drop 1 ++ [125]) := rfl
 rw [e]
 simp [feedMs, prU, e1, e2, h2, h3]
 omega
theorem state_lenM {a b : Int} (h : mayV (.mk 7 0 [] [] (stateMs a b)) 64 = true) : (prV (.mk 7 0 [] [] (stateMs a b))).length ≤ 1000000 := by
 have hm := mayM_mem (may_parts h).2.2.2.2
 have ha : -9007199254740991 ≤ a ∧ a ≤ 9007199254740991 := (may_parts (hm (readN, .mk 4 a [] [] []) (by show _ ∈ stateMs a b; simp [stateMs])).2).2.1
 have hb : -9007199254740991 ≤ b ∧ b ≤ 9007199254740991 := (may_parts (hm (starN, .mk 4 b [] [] []) (by show _ ∈ stateMs a b; simp [stateMs])).2).2.1
 have h2 : (quo readN).length = 6 := by decide
 have h3 : (quo starN).length = 6 := by decide
 have h4 := itoa_len (n := a) (by omega)
 have h5 := itoa_len (n := b) (by omega)
 have e1 : prV (.mk 4 a [] [] []) = Lib.itoa a := rfl
 have e2 : prV (.mk 4 b [] [] []) = Lib.itoa b := rfl
 have e : prV (.mk 7 0 [] [] (stateMs a b)) = 123 :: ((prU (stateMs a b)).drop 1 ++ [125]) := rfl
 rw [e]
 simp [stateMs, prU, e1, e2, h2, h3]
 omega
set_option maxRecDepth 100000 in
set_option maxHeartbeats 4000000 in
theorem rputSub_any (s : List UInt8) (w : World) (hl : s.length ≤ 9223372036854775807) : Calls Tryz.prog 45 #[str s] w fun e w' => e = .returned (.tuple #[str (putSubR s).1, .int .i64 (putSubR s).2]) ∧ Below w.heap.size w w' := by
 rw [← refO_sub]
 have CT := Lib.hid (rtext1_any s w)
 have CN := Lib.hid (fun W => rname_any s W hl)
 have CP : Hid (∀ ok W B, Hid (ObjAt w #[str [102, 111, 108, 100, 101, 114], .int .i64 5, .int .i64 0, str s, .slice none 0 0, .slice none 0 0] B W) → Calls Tryz.prog 61 #[.agg #[.int .i64 7, .int .i64 0, str [], .slice none 0 0, .slice (some ⟨B, 0, none⟩) 1 1], .bool ok] W fun e w' => e = .returned (.tuple #[str (refO (subMs s) ok).1, .int .i64 (refO (subMs s) ok).2]) ∧ Below w.heap.size w w') := Lib.hid (fun ok W B h => by
  refine (rprinted_any (subMs s) ok (by unfold subMs stM; refine ⟨by decide, ⟨by unfold stV; exact ⟨hl, by unfold stL; trivial, by unfold stM; trivial⟩, by unfold stM; trivial⟩⟩) sub_len (fun _ => True) W _ (RdJ.mk0 (v := .mk 7 0 [] [] (subMs s)) (RdFB.nil _ _ _) (by unfold RdL; trivial) (RdFB.lit6 [[str [102, 111, 108, 100, 101, 114], .int .i64 5, .int .i64 0, str s, .slice none 0 0, .slice none 0 0]] (by simp) h.out.2 rfl (by simp) trivial) (by
   show RdM W (fun _ => True) (subMs s) _
   unfold subMs RdM
   refine ⟨⟨_, rfl, plainJ _ _ _ _ _⟩, ?_⟩
   unfold RdM
   trivial))).mono ?_
  rintro e w' ⟨rfl, h'⟩
  exact ⟨rfl, h.out.1.trans (h'.mono h.out.1.size)⟩)
 by_cases h0 : s = []
 · subst h0
   rw [decide_eq_true rfl, Bool.true_or]
   clear hl CN
   go_enter Tryz.func45, Tryz.ntmps45
   go_wp2_with fail
   refine CT.out.mono ?_
   rintro e w1 ⟨rfl, hb1⟩
   obtain ⟨W2, hW2⟩ : ∃ W2, W2 = w1.alloc (.cells #[str [102, 111, 108, 100, 101, 114], .int .i64 5, .int .i64 0, str [], .slice none 0 0, .slice none 0 0] 121) := ⟨_, rfl⟩
   have hb2 : Below w.heap.size w W2 := by rw [hW2]; exact hb1.trans ((below_alloc _ _).mono hb1.size)
   have hbx : W2.heap[w1.heap.size]? = some (.cells #[str [102, 111, 108, 100, 101, 114], .int .i64 5, .int .i64 0, str [], .slice none 0 0, .slice none 0 0] 121 (0, 0)) := by rw [hW2]; exact heap_alloc_new _ _
   have CO := Lib.hid (robj_any (some ⟨w1.heap.size, 0, none⟩) 1 1 W2)
   have H2 := Lib.hid (And.intro hb2 hbx)
   clear hb1 hb2 hbx CT
   go_wp2_with fail
   rw [← hW2]
   clear hW2
   refine CO.out.mono ?_
   rintro e w3 ⟨rfl, hb3⟩
   have HO : Hid (ObjAt w #[str [102, 111, 108, 100, 101, 114], .int .i64 5, .int .i64 0, str [], .slice none 0 0, .slice none 0 0] w1.heap.size w3) := Lib.hid ⟨H2.out.1.trans (hb3.mono H2.out.1.size), box_up H2.out.2 hb3⟩
   have CP2 := Lib.hid (CP.out true w3 w1.heap.size HO)
   clear hb3 CO CP
   go_wp2_with fail
   refine CP2.out.mono ?_
   rintro e w4 ⟨rfl, hb4⟩
   have HX := Lib.hid hb4
   clear hb4 CP2
   go_wp2_with fail
   go_ret2
   exact ⟨rfl, HX.out⟩
 have g0 : (s == []) = false := by rw [beq_eq_false_iff_ne]; exact h0
 rw [decide_eq_false h0, Bool.false_or]
 obtain ⟨N, hN⟩ : ∃ N, N = nameB s := ⟨_, rfl⟩
 rw [← hN] at CN ⊢
 clear hl h0 hN
 go_enter Tryz.func45, Tryz.ntmps45
 go_wp2_with fail
 refine CT.out.mono ?_
 rintro e w1 ⟨rfl, hb1⟩
 obtain ⟨W2, hW2⟩ : ∃ W2, W2 = w1.alloc (.cells #[str [102, 111, 108, 100, 101, 114], .int .i64 5, .int .i64 0, str s, .slice none 0 0, .slice none 0 0] 121) := ⟨_, rfl⟩
 have hb2 : Below w.heap.size w W2 := by rw [hW2]; exact hb1.trans ((below_alloc _ _).mono hb1.size)
 have hbx : W2.heap[w1.heap.size]? = some (.cells #[str [102, 111, 108, 100, 101, 114], .int .i64 5, .int .i64 0, str s, .slice none 0 0, .slice none 0 0] 121 (0, 0)) := by rw [hW2]; exact heap_alloc_new _ _
 have CO := Lib.hid (robj_any (some ⟨w1.heap.size, 0, none⟩) 1 1 W2)
 have H2 := Lib.hid (And.intro hb2 hbx)
 clear hb1 hb2 hbx CT
 go_wp2_with fail
 rw [← hW2]
 clear hW2
 refine CO.out.mono ?_
 rintro e w3 ⟨rfl, hb3⟩
 have HO : Hid (ObjAt w #[str [102, 111, 108, 100, 101, 114], .int .i64 5, .int .i64 0, str s, .slice none 0 0, .slice none 0 0] w1.heap.size w3) := Lib.hid ⟨H2.out.1.trans (hb3.mono H2.out.1.size), box_up H2.out.2 hb3⟩
 have CP2 := Lib.hid (CP.out N w3 w1.heap.size HO)
 clear hb3 CO CP
 go_wp2_with fail
 refine (CN.out _).mono ?_
 rintro e w9 ⟨rfl, rfl⟩
 go_wp2_with fail
 refine CP2.out.mono ?_
 rintro e w4 ⟨rfl, hb4⟩
 have HX := Lib.hid hb4
 clear hb4 CP2
 go_wp2_with fail
 go_ret2
 exact ⟨rfl, HX.out⟩
end Go.Proofs.YtegblhmcfemfgaaGreatDoor
