/- token.May, pack.Number, pack.Text by their contracts. -/
import Derived.Test.YtfibplegbaanmaaDoorKeys
import Derived.Test.YtfibplegbaanmaaDoorPut
import Derived.Test.YtfibplegbaanmaaDoorHex
import Derived.Test.YtfibplegbaanmaaDoorCrc
import Derived.Lib.AppendStr
namespace Go.Proofs.YtfibplegbaanmaaDoor
open Go.RowKit

theorem strCells_map (l : List UInt8) : Lib.strCells ⟨l.toArray⟩ = l.map bv := by
  simp [Lib.strCells, bv]
section
variable {P : Program} {T U E : TypeId} {ops : Array Oper} {rest : List Oper} {o : Oper} {a : Act} {Q : Exit → Act → World → Prop} {w : World}
/-- 'append(b, s...)', s a string. -/
theorem BT.appendStr (B : BT P T E) (hU : P.underlying U = some .string) (hgd : o.guard = none) (s x : Operand) (ho : o.op = .call { callee := .builtin .append, args := #[s, x], argTypes := #[T, U] })
    (base : Nat) (v : Value) (l m : List UInt8) (hown : Own E w base v l) (hs : a.eval s = v) (hx : a.eval x = str m) (hlen : l.length + m.length ≤ 140737488355328) (hbase : base ≤ w.heap.size)
    (h : ∀ v' w', Own E w' base v' (l ++ m) → w.grownBy w' v.ownBlock → wpList P ops Q rest (a.put o.dst v') w') :
    wpList P ops Q (o :: rest) a w := by
  obtain ⟨i, hi, h1, h2, h3⟩ := info_parts B.info
  refine Lib.wpList_append_own_string w hgd s x T U ho base E i B.t hU hi h1 h2 h3 v l.length (l.map bv) hs hown ⟨m.toArray⟩ hx (by unfold maxLen; simp [ByteArray.size]; omega) (by simpa [ByteArray.size] using hlen) hbase ?_
  intro v' w' h1 h2 _
  refine h v' w' ?_ h2
  unfold Own
  rw [strCells_map] at h1
  simpa [ByteArray.size] using h1
end

/-- Whether a token may be. -/
def mayB (u : List UInt8) (f t : Int) (k : List UInt8) : Bool :=
  nameB u && (decide (0 ≤ f) && decide (f ≤ 1099511627776)) && (if t = 0 then k == [] else (decide (max f 1 ≤ t) && decide (t ≤ 1099511627776)) && (k != [] && decide (k.length ≤ 100)))
abbrev tok (u : List UInt8) (f t : Int) (k : List UInt8) : Value := .agg #[str u, .int .i64 f, .int .i64 t, str k]

set_option maxHeartbeats 3200000 in
theorem may_any (u k : List UInt8) (f t : Int) (w : World) (hu : u.length ≤ 9223372036854775807) (hk : k.length ≤ 9223372036854775807) (hf : -9223372036854775808 ≤ f ∧ f ≤ 9223372036854775807) (ht : -9223372036854775808 ≤ t ∧ t ≤ 9223372036854775807) :
    Calls Tryd.prog 12 #[tok u f t k] w fun e w' => e = .returned (.bool (mayB u f t k)) ∧ Below w.heap.size w w' := by
  have HN := Lib.hid (fun W => name_any u W hu)
  cases hn : nameB u
  · have hv : mayB u f t k = false := by rw [mayB, hn]; rfl
    have HV := Lib.hid hv
    have HB := Lib.hid hn
    clear hv hn
    go_enter Tryd.func12, Tryd.ntmps12
    go_wp2_with fail
    refine (HN.out _).mono ?_
    rintro e w' ⟨rfl, rfl⟩
    rw [HB.out]
    go_wp2_with fail
    go_ret
    exact ⟨by rw [HV.out]; rfl, below_alloc _ _⟩
  have HB := Lib.hid hn
  by_cases hf1 : f < 0 ∨ 1099511627776 < f
  · have hv : mayB u f t k = false := by
      rw [mayB, hn]
      have : (decide (0 ≤ f) && decide (f ≤ 1099511627776)) = false := by simp; omega
      rw [this]; rfl
    have HV := Lib.hid hv
    have key : f < 0 ∨ (¬ f < 0 ∧ 1099511627776 < f) := by omega
    clear hv hn hf1
    rcases key with k1 | ⟨k1, k2⟩
    all_goals
      go_enter Tryd.func12, Tryd.ntmps12
      go_wp2_with fail
      refine (HN.out _).mono ?_
      rintro e w' ⟨rfl, rfl⟩
      rw [HB.out]
      go_wp2_with fail
      go_ret
      exact ⟨by rw [HV.out]; rfl, below_alloc _ _⟩
  have f1 : ¬ f < 0 := by omega
  have f2 : ¬ 1099511627776 < f := by omega
  have hm : mayB u f t k = (if t = 0 then k == [] else (decide (max f 1 ≤ t) && decide (t ≤ 1099511627776)) && (k != [] && decide (k.length ≤ 100))) := by
    rw [mayB, hn]
    have : (decide (0 ≤ f) && decide (f ≤ 1099511627776)) = true := by simp; omega
    rw [this]; rfl
  have HM := Lib.hid hm
  clear hm hn hf1
  by_cases ht0 : t = 0
  · subst ht0
    cases hk0 : k == []
    · have hv : mayB u f 0 k = false := by rw [HM.out, if_pos rfl, hk0]
      have HV := Lib.hid hv
      clear hv
      go_enter Tryd.func12, Tryd.ntmps12
      go_wp2_with fail
      refine (HN.out _).mono ?_
      rintro e w' ⟨rfl, rfl⟩
      rw [HB.out]
      go_wp2_with fail
      go_ret
      exact ⟨by rw [HV.out]; rfl, below_alloc _ _⟩
    · obtain rfl : k = [] := by simpa using hk0
      have hv : mayB u f 0 [] = true := by rw [HM.out, if_pos rfl]; rfl
      have HV := Lib.hid hv
      clear hv hk0
      go_enter Tryd.func12, Tryd.ntmps12
      go_wp2_with fail
      refine (HN.out _).mono ?_
      rintro e w' ⟨rfl, rfl⟩
      rw [HB.out]
      go_wp2_with fail
      go_ret
      exact ⟨by rw [HV.out]; rfl, below_alloc _ _⟩
  · have t0 : (t == 0) = false := by rw [beq_eq_false_iff_ne]; exact ht0
    have HT0 := Lib.hid ht0
    clear ht0
    have hmax : (f < 1 ∧ max f 1 = 1) ∨ (¬ f < 1 ∧ max f 1 = f) := by omega
    have fin : ∀ b, (if t = 0 then k == [] else (decide (max f 1 ≤ t) && decide (t ≤ 1099511627776)) && (k != [] && decide (k.length ≤ 100))) = b → mayB u f t k = b := fun b h => by rw [HM.out]; exact h
    have FIN := Lib.hid fin
    clear fin
    by_cases ha : max f 1 ≤ t ∧ t ≤ 1099511627776
    · by_cases hk2 : k = []
      · subst hk2
        have hv : mayB u f t [] = false := FIN.out _ (by rw [if_neg HT0.out]; simp)
        have HV := Lib.hid hv
        have key : (f < 1 ∧ 1 ≤ t ∧ t ≤ 1099511627776) ∨ (¬ f < 1 ∧ f ≤ t ∧ t ≤ 1099511627776) := by omega
        clear hv ha hmax
        rcases key with ⟨k1, k2, k3⟩ | ⟨k1, k2, k3⟩
        all_goals
          go_enter Tryd.func12, Tryd.ntmps12
          go_wp2_with fail
          refine (HN.out _).mono ?_
          rintro e w' ⟨rfl, rfl⟩
          rw [HB.out]
          go_wp2_with fail
          go_ret
          exact ⟨by rw [HV.out]; rfl, below_alloc _ _⟩
      · have hkb : (k == []) = false := by simpa using hk2
        have hkl : ((k.length : Int) ≤ 100 ∧ k.length ≤ 100) ∨ (¬ (k.length : Int) ≤ 100 ∧ ¬ k.length ≤ 100) := by omega
        rcases hkl with ⟨l1, l2⟩ | ⟨l1, l2⟩
        · have hv : mayB u f t k = true := FIN.out _ (by rw [if_neg HT0.out]; simp [hk2, l2]; omega)
          have HV := Lib.hid hv
          have key : (f < 1 ∧ 1 ≤ t ∧ t ≤ 1099511627776) ∨ (¬ f < 1 ∧ f ≤ t ∧ t ≤ 1099511627776) := by omega
          have hkn : (k != []) = true := by simpa using hk2
          have HK2 := Lib.hid hk2
          clear hv ha hmax hk2
          rcases key with ⟨k1, k2, k3⟩ | ⟨k1, k2, k3⟩
          all_goals
            go_enter Tryd.func12, Tryd.ntmps12
            go_wp2_with fail
            refine (HN.out _).mono ?_
            rintro e w' ⟨rfl, rfl⟩
            rw [HB.out]
            go_wp2_with fail
            go_ret
            exact ⟨by rw [HV.out]; rfl, below_alloc _ _⟩
        · have hv : mayB u f t k = false := FIN.out _ (by rw [if_neg HT0.out]; simp [l2])
          have HV := Lib.hid hv
          have key : (f < 1 ∧ 1 ≤ t ∧ t ≤ 1099511627776) ∨ (¬ f < 1 ∧ f ≤ t ∧ t ≤ 1099511627776) := by omega
          have hkn : (k != []) = true := by simpa using hk2
          have HK2 := Lib.hid hk2
          have l3 : decide ((k.length : Int) ≤ 100) = false := by simpa using l1
          clear hv ha hmax hk2
          rcases key with ⟨k1, k2, k3⟩ | ⟨k1, k2, k3⟩
          all_goals
            go_enter Tryd.func12, Tryd.ntmps12
            go_wp2_with fail
            refine (HN.out _).mono ?_
            rintro e w' ⟨rfl, rfl⟩
            rw [HB.out]
            go_wp2_with fail
            go_ret
            exact ⟨by rw [HV.out]; rfl, below_alloc _ _⟩
    · have hv : mayB u f t k = false := FIN.out _ (by
        rw [if_neg HT0.out]
        have : (decide (max f 1 ≤ t) && decide (t ≤ 1099511627776)) = false := by simp; omega
        rw [this]; rfl)
      have HV := Lib.hid hv
      have key : (f < 1 ∧ ¬ 1 ≤ t) ∨ (f < 1 ∧ 1 ≤ t ∧ ¬ t ≤ 1099511627776) ∨ (¬ f < 1 ∧ ¬ f ≤ t) ∨ (¬ f < 1 ∧ f ≤ t ∧ ¬ t ≤ 1099511627776) := by omega
      clear hv ha hmax
      rcases key with ⟨k1, k2⟩ | ⟨k1, k2, k3⟩ | ⟨k1, k2⟩ | ⟨k1, k2, k3⟩
      all_goals
        go_enter Tryd.func12, Tryd.ntmps12
        go_wp2_with fail
        refine (HN.out _).mono ?_
        rintro e w' ⟨rfl, rfl⟩
        rw [HB.out]
        go_wp2_with fail
        go_ret
        exact ⟨by rw [HV.out]; rfl, below_alloc _ _⟩

/-- 'pack.Number', behind bytes of the call's own. -/
theorem number_any (v : Value) (l : List UInt8) (n : Nat) (w : World) (base : Nat) (hown : Own 5 w base v l) (hbase : base ≤ w.heap.size) (hl : l.length ≤ 70368744177664) (hn : n ≤ 72057594037927935) :
    Calls Tryd.prog 14 #[v, .int .i64 (n : Int)] w fun e w' => ∃ v', e = .returned v' ∧ Own 5 w' base v' (l ++ varL n) ∧ Below base w w' := by
  have hvl : (varL n).length ≤ 8 := varL_len 7 n (by omega)
  have HV := Lib.hid hvl
  clear hvl
  go_enter Tryd.func14, Tryd.ntmps14
  go_wp2_with fail
  refine (var_ok n _ hn).mono ?_
  rintro e w2 ⟨v2, rfl, hown2, hb2⟩
  have hown1 := hown.below hb2 (Nat.le_refl _)
  have hB2 := hb2.mono hbase
  go_wp2_with (at_builtin; refine hold ?_)
  intro _
  refine bt.appendS rfl _ _ rfl base _ _ l (varL n) hown1 hown2.rd rfl rfl (by have := HV.out; omega) (Nat.le_trans hbase hb2.size) ?_
  intro v4 w4 hown4 hg4
  have hB4 := hB2.grown hg4 (Nat.le_trans hbase hb2.size) (fun b e => (hown1.base b e).1)
  go_wp2_with fail
  go_ret
  exact ⟨v4, rfl, hown4, hB4⟩
/-- 'pack.Text', behind bytes of the call's own. -/
theorem text_any (v : Value) (l s : List UInt8) (w : World) (base : Nat) (hown : Own 5 w base v l) (hbase : base ≤ w.heap.size) (hl : l.length ≤ 35184372088832) (hs : s.length ≤ 35184372088832) :
    Calls Tryd.prog 15 #[v, str s] w fun e w' => ∃ v', e = .returned v' ∧ Own 5 w' base v' (l ++ (varL s.length ++ s)) ∧ Below base w w' := by
  have hvl : (varL s.length).length ≤ 8 := varL_len 7 s.length (by omega)
  have HV := Lib.hid hvl
  clear hvl
  go_enter Tryd.func15, Tryd.ntmps15
  go_wp2_with fail
  refine (number_any v l s.length _ base hown hbase (by omega) (by omega)).mono ?_
  rintro e w2 ⟨v2, rfl, hown2, hb2⟩
  go_wp2_with (at_builtin; refine hold ?_)
  intro _
  refine bt.appendStr Tryd.underlying9 rfl _ _ rfl base _ _ s hown2 rfl rfl (by have := HV.out; rw [List.length_append]; omega) (Nat.le_trans hbase hb2.size) ?_
  intro v4 w4 hown4 hg4
  have hB4 := hb2.grown hg4 (Nat.le_trans hbase hb2.size) (fun b e => (hown2.base b e).1)
  go_wp2_with fail
  go_ret
  exact ⟨v4, rfl, by rw [List.append_assoc] at hown4; exact hown4, hB4⟩
end Go.Proofs.YtfibplegbaanmaaDoor
