/- JSON: textFits, fieldsFit. -/
import Derived.Test.YtidlhajibjnkeaaGreatDoorJDef
namespace Go.Proofs.YtidlhajibjnkeaaGreatDoor
open Go.RowKit

theorem textFits_any (s : List UInt8) (w : World) : Calls Tryz.prog 59 #[str s] w fun e w' => e = .returned (.bool (txF s)) ∧ w' = w := by
  unfold txF
  by_cases h : s.length ≤ 8000
  · have CV : Hid (∀ W, Calls Tryz.prog 77 #[str s] W fun e w' => e = .returned (.bool (validB s)) ∧ w' = W) := Lib.hid (fun W => valid_any s W (by omega))
    have d1 : decide ((s.length : Int) ≤ 8000) = true := decide_eq_true (by omega)
    rw [decide_eq_true h, Bool.true_and]
    go_enter Tryz.func59, Tryz.ntmps59
    go_wp2_with (go_at_call 77; refine (CV.out _).mono ?_; rintro e w' ⟨rfl, rfl⟩)
    go_ret
    exact ⟨rfl, rfl⟩
  · have d1 : decide ((s.length : Int) ≤ 8000) = false := decide_eq_false (by omega)
    rw [decide_eq_false h, Bool.false_and]
    go_enter Tryz.func59, Tryz.ntmps59
    go_wp2_with fail
    go_ret
    exact ⟨rfl, rfl⟩
/-- What fieldsFit tells, test by test. -/
def fitE (b1 b2 b3 b4 b5 b6 b7 b8 b9 b10 b11 : Bool) : Bool := !((b1 && b2) || b3 || b4) && !((b5 && !b6) || !b7) && (b8 || b9) && (b10 || b11)
set_option maxRecDepth 100000 in
set_option maxHeartbeats 40000000 in
theorem fit_walk (k n : Int) (s : List UInt8) (al am : Option Addr) (ll cl lm cm : Nat) (w : World) (b1 b2 b3 b4 b5 b7 b8 b9 b10 b11 : Bool) (q1 : (k != 4) = b1) (q2 : (n != 0) = b2) (q3 : decide (n < -9007199254740991) = b3) (q4 : decide (9007199254740991 < n) = b4)
    (q5 : (k != 5) = b5) (CT : Hid (∀ W, Calls Tryz.prog 59 #[str s] W fun e w' => e = .returned (.bool b7) ∧ w' = W)) (q8 : (k == 6) = b8) (q9 : ((ll : Int) == 0) = b9) (q10 : (k == 7) = b10) (q11 : ((lm : Int) == 0) = b11) :
    Calls Tryz.prog 58 #[.agg #[.int .i64 k, .int .i64 n, str s, .slice al ll cl, .slice am lm cm]] w fun e w' => e = .returned (.bool (fitE b1 b2 b3 b4 b5 s.isEmpty b7 b8 b9 b10 b11)) ∧ Below w.heap.size w w' := by
  cases b1 with
  | false =>
    cases b3 with
    | false =>
      cases b4 with
      | false =>
        cases b5 with
        | false =>
          cases b7 with
          | false =>
            as_aux_lemma =>
              go_enter Tryz.func58, Tryz.ntmps58
              go_wp2_with (go_at_call 59; refine (CT.out _).mono ?_; rintro e w' ⟨rfl, rfl⟩)
              go_ret
              exact ⟨rfl, below_alloc _ _⟩
          | true =>
            cases b8 with
            | false =>
              cases b9 with
              | false =>
                as_aux_lemma =>
                  go_enter Tryz.func58, Tryz.ntmps58
                  go_wp2_with (go_at_call 59; refine (CT.out _).mono ?_; rintro e w' ⟨rfl, rfl⟩)
                  go_ret
                  exact ⟨rfl, below_alloc _ _⟩
              | true =>
                cases b10 with
                | false =>
                  cases b11 with
                  | false =>
                    as_aux_lemma =>
                      go_enter Tryz.func58, Tryz.ntmps58
                      go_wp2_with (go_at_call 59; refine (CT.out _).mono ?_; rintro e w' ⟨rfl, rfl⟩)
                      go_ret
                      exact ⟨rfl, below_alloc _ _⟩
                  | true =>
                    as_aux_lemma =>
                      go_enter Tryz.func58, Tryz.ntmps58
                      go_wp2_with (go_at_call 59; refine (CT.out _).mono ?_; rintro e w' ⟨rfl, rfl⟩)
                      go_ret
                      exact ⟨rfl, below_alloc _ _⟩
                | true =>
                  as_aux_lemma =>
                    go_enter Tryz.func58, Tryz.ntmps58
                    go_wp2_with (go_at_call 59; refine (CT.out _).mono ?_; rintro e w' ⟨rfl, rfl⟩)
                    go_ret
                    exact ⟨rfl, below_alloc _ _⟩
            | true =>
              cases b10 with
              | false =>
                cases b11 with
                | false =>
                  as_aux_lemma =>
                    go_enter Tryz.func58, Tryz.ntmps58
                    go_wp2_with (go_at_call 59; refine (CT.out _).mono ?_; rintro e w' ⟨rfl, rfl⟩)
                    go_ret
                    exact ⟨rfl, below_alloc _ _⟩
                | true =>
                  as_aux_lemma =>
                    go_enter Tryz.func58, Tryz.ntmps58
                    go_wp2_with (go_at_call 59; refine (CT.out _).mono ?_; rintro e w' ⟨rfl, rfl⟩)
                    go_ret
                    exact ⟨rfl, below_alloc _ _⟩
              | true =>
                as_aux_lemma =>
                  go_enter Tryz.func58, Tryz.ntmps58
                  go_wp2_with (go_at_call 59; refine (CT.out _).mono ?_; rintro e w' ⟨rfl, rfl⟩)
                  go_ret
                  exact ⟨rfl, below_alloc _ _⟩
        | true =>
          cases s with
          | nil =>
            cases b7 with
            | false =>
              as_aux_lemma =>
                go_enter Tryz.func58, Tryz.ntmps58
                go_wp2_with (go_at_call 59; refine (CT.out _).mono ?_; rintro e w' ⟨rfl, rfl⟩)
                go_ret
                exact ⟨rfl, below_alloc _ _⟩
            | true =>
              cases b8 with
              | false =>
                cases b9 with
                | false =>
                  as_aux_lemma =>
                    go_enter Tryz.func58, Tryz.ntmps58
                    go_wp2_with (go_at_call 59; refine (CT.out _).mono ?_; rintro e w' ⟨rfl, rfl⟩)
                    go_ret
                    exact ⟨rfl, below_alloc _ _⟩
                | true =>
                  cases b10 with
                  | false =>
                    cases b11 with
                    | false =>
                      as_aux_lemma =>
                        go_enter Tryz.func58, Tryz.ntmps58
                        go_wp2_with (go_at_call 59; refine (CT.out _).mono ?_; rintro e w' ⟨rfl, rfl⟩)
                        go_ret
                        exact ⟨rfl, below_alloc _ _⟩
                    | true =>
                      as_aux_lemma =>
                        go_enter Tryz.func58, Tryz.ntmps58
                        go_wp2_with (go_at_call 59; refine (CT.out _).mono ?_; rintro e w' ⟨rfl, rfl⟩)
                        go_ret
                        exact ⟨rfl, below_alloc _ _⟩
                  | true =>
                    as_aux_lemma =>
                      go_enter Tryz.func58, Tryz.ntmps58
                      go_wp2_with (go_at_call 59; refine (CT.out _).mono ?_; rintro e w' ⟨rfl, rfl⟩)
                      go_ret
                      exact ⟨rfl, below_alloc _ _⟩
              | true =>
                cases b10 with
                | false =>
                  cases b11 with
                  | false =>
                    as_aux_lemma =>
                      go_enter Tryz.func58, Tryz.ntmps58
                      go_wp2_with (go_at_call 59; refine (CT.out _).mono ?_; rintro e w' ⟨rfl, rfl⟩)
                      go_ret
                      exact ⟨rfl, below_alloc _ _⟩
                  | true =>
                    as_aux_lemma =>
                      go_enter Tryz.func58, Tryz.ntmps58
                      go_wp2_with (go_at_call 59; refine (CT.out _).mono ?_; rintro e w' ⟨rfl, rfl⟩)
                      go_ret
                      exact ⟨rfl, below_alloc _ _⟩
                | true =>
                  as_aux_lemma =>
                    go_enter Tryz.func58, Tryz.ntmps58
                    go_wp2_with (go_at_call 59; refine (CT.out _).mono ?_; rintro e w' ⟨rfl, rfl⟩)
                    go_ret
                    exact ⟨rfl, below_alloc _ _⟩
          | cons c0 s0 =>
            as_aux_lemma =>
              go_enter Tryz.func58, Tryz.ntmps58
              go_wp2_with (go_at_call 59; refine (CT.out _).mono ?_; rintro e w' ⟨rfl, rfl⟩)
              go_ret
              exact ⟨rfl, below_alloc _ _⟩
      | true =>
        as_aux_lemma =>
          go_enter Tryz.func58, Tryz.ntmps58
          go_wp2_with (go_at_call 59; refine (CT.out _).mono ?_; rintro e w' ⟨rfl, rfl⟩)
          go_ret
          exact ⟨rfl, below_alloc _ _⟩
    | true =>
      as_aux_lemma =>
        go_enter Tryz.func58, Tryz.ntmps58
        go_wp2_with (go_at_call 59; refine (CT.out _).mono ?_; rintro e w' ⟨rfl, rfl⟩)
        go_ret
        exact ⟨rfl, below_alloc _ _⟩
  | true =>
    cases b2 with
    | false =>
      cases b3 with
      | false =>
        cases b4 with
        | false =>
          cases b5 with
          | false =>
            cases b7 with
            | false =>
              as_aux_lemma =>
                go_enter Tryz.func58, Tryz.ntmps58
                go_wp2_with (go_at_call 59; refine (CT.out _).mono ?_; rintro e w' ⟨rfl, rfl⟩)
                go_ret
                exact ⟨rfl, below_alloc _ _⟩
            | true =>
              cases b8 with
              | false =>
                cases b9 with
                | false =>
                  as_aux_lemma =>
                    go_enter Tryz.func58, Tryz.ntmps58
                    go_wp2_with (go_at_call 59; refine (CT.out _).mono ?_; rintro e w' ⟨rfl, rfl⟩)
                    go_ret
                    exact ⟨rfl, below_alloc _ _⟩
                | true =>
                  cases b10 with
                  | false =>
                    cases b11 with
                    | false =>
                      as_aux_lemma =>
                        go_enter Tryz.func58, Tryz.ntmps58
                        go_wp2_with (go_at_call 59; refine (CT.out _).mono ?_; rintro e w' ⟨rfl, rfl⟩)
                        go_ret
                        exact ⟨rfl, below_alloc _ _⟩
                    | true =>
                      as_aux_lemma =>
                        go_enter Tryz.func58, Tryz.ntmps58
                        go_wp2_with (go_at_call 59; refine (CT.out _).mono ?_; rintro e w' ⟨rfl, rfl⟩)
                        go_ret
                        exact ⟨rfl, below_alloc _ _⟩
                  | true =>
                    as_aux_lemma =>
                      go_enter Tryz.func58, Tryz.ntmps58
                      go_wp2_with (go_at_call 59; refine (CT.out _).mono ?_; rintro e w' ⟨rfl, rfl⟩)
                      go_ret
                      exact ⟨rfl, below_alloc _ _⟩
              | true =>
                cases b10 with
                | false =>
                  cases b11 with
                  | false =>
                    as_aux_lemma =>
                      go_enter Tryz.func58, Tryz.ntmps58
                      go_wp2_with (go_at_call 59; refine (CT.out _).mono ?_; rintro e w' ⟨rfl, rfl⟩)
                      go_ret
                      exact ⟨rfl, below_alloc _ _⟩
                  | true =>
                    as_aux_lemma =>
                      go_enter Tryz.func58, Tryz.ntmps58
                      go_wp2_with (go_at_call 59; refine (CT.out _).mono ?_; rintro e w' ⟨rfl, rfl⟩)
                      go_ret
                      exact ⟨rfl, below_alloc _ _⟩
                | true =>
                  as_aux_lemma =>
                    go_enter Tryz.func58, Tryz.ntmps58
                    go_wp2_with (go_at_call 59; refine (CT.out _).mono ?_; rintro e w' ⟨rfl, rfl⟩)
                    go_ret
                    exact ⟨rfl, below_alloc _ _⟩
          | true =>
            cases s with
            | nil =>
              cases b7 with
              | false =>
                as_aux_lemma =>
                  go_enter Tryz.func58, Tryz.ntmps58
                  go_wp2_with (go_at_call 59; refine (CT.out _).mono ?_; rintro e w' ⟨rfl, rfl⟩)
                  go_ret
                  exact ⟨rfl, below_alloc _ _⟩
              | true =>
                cases b8 with
                | false =>
                  cases b9 with
                  | false =>
                    as_aux_lemma =>
                      go_enter Tryz.func58, Tryz.ntmps58
                      go_wp2_with (go_at_call 59; refine (CT.out _).mono ?_; rintro e w' ⟨rfl, rfl⟩)
                      go_ret
                      exact ⟨rfl, below_alloc _ _⟩
                  | true =>
                    cases b10 with
                    | false =>
                      cases b11 with
                      | false =>
                        as_aux_lemma =>
                          go_enter Tryz.func58, Tryz.ntmps58
                          go_wp2_with (go_at_call 59; refine (CT.out _).mono ?_; rintro e w' ⟨rfl, rfl⟩)
                          go_ret
                          exact ⟨rfl, below_alloc _ _⟩
                      | true =>
                        as_aux_lemma =>
                          go_enter Tryz.func58, Tryz.ntmps58
                          go_wp2_with (go_at_call 59; refine (CT.out _).mono ?_; rintro e w' ⟨rfl, rfl⟩)
                          go_ret
                          exact ⟨rfl, below_alloc _ _⟩
                    | true =>
                      as_aux_lemma =>
                        go_enter Tryz.func58, Tryz.ntmps58
                        go_wp2_with (go_at_call 59; refine (CT.out _).mono ?_; rintro e w' ⟨rfl, rfl⟩)
                        go_ret
                        exact ⟨rfl, below_alloc _ _⟩
                | true =>
                  cases b10 with
                  | false =>
                    cases b11 with
                    | false =>
                      as_aux_lemma =>
                        go_enter Tryz.func58, Tryz.ntmps58
                        go_wp2_with (go_at_call 59; refine (CT.out _).mono ?_; rintro e w' ⟨rfl, rfl⟩)
                        go_ret
                        exact ⟨rfl, below_alloc _ _⟩
                    | true =>
                      as_aux_lemma =>
                        go_enter Tryz.func58, Tryz.ntmps58
                        go_wp2_with (go_at_call 59; refine (CT.out _).mono ?_; rintro e w' ⟨rfl, rfl⟩)
                        go_ret
                        exact ⟨rfl, below_alloc _ _⟩
                  | true =>
                    as_aux_lemma =>
                      go_enter Tryz.func58, Tryz.ntmps58
                      go_wp2_with (go_at_call 59; refine (CT.out _).mono ?_; rintro e w' ⟨rfl, rfl⟩)
                      go_ret
                      exact ⟨rfl, below_alloc _ _⟩
            | cons c0 s0 =>
              as_aux_lemma =>
                go_enter Tryz.func58, Tryz.ntmps58
                go_wp2_with (go_at_call 59; refine (CT.out _).mono ?_; rintro e w' ⟨rfl, rfl⟩)
                go_ret
                exact ⟨rfl, below_alloc _ _⟩
        | true =>
          as_aux_lemma =>
            go_enter Tryz.func58, Tryz.ntmps58
            go_wp2_with (go_at_call 59; refine (CT.out _).mono ?_; rintro e w' ⟨rfl, rfl⟩)
            go_ret
            exact ⟨rfl, below_alloc _ _⟩
      | true =>
        as_aux_lemma =>
          go_enter Tryz.func58, Tryz.ntmps58
          go_wp2_with (go_at_call 59; refine (CT.out _).mono ?_; rintro e w' ⟨rfl, rfl⟩)
          go_ret
          exact ⟨rfl, below_alloc _ _⟩
    | true =>
      as_aux_lemma =>
        go_enter Tryz.func58, Tryz.ntmps58
        go_wp2_with (go_at_call 59; refine (CT.out _).mono ?_; rintro e w' ⟨rfl, rfl⟩)
        go_ret
        exact ⟨rfl, below_alloc _ _⟩
theorem ne_dec (k m : Int) : decide (k = m) = !(k != m) := by
  by_cases h : k = m
  · subst h; rw [decide_eq_true rfl, bne_self_eq_false]; rfl
  · rw [decide_eq_false h, bne_iff_ne.2 h]; rfl
theorem eq_dec (k m : Int) : decide (k = m) = (k == m) := by
  by_cases h : k = m
  · subst h; rw [decide_eq_true rfl, beq_self_eq_true]
  · rw [decide_eq_false h, beq_eq_false_iff_ne.2 h]
theorem zero_dec (l : Nat) : decide (l = 0) = ((l : Int) == 0) := by
  rw [← eq_dec]
  by_cases h : l = 0
  · rw [decide_eq_true h, decide_eq_true (by omega)]
  · rw [decide_eq_false h, decide_eq_false (by omega)]
theorem fit_eq (k n : Int) (s : List UInt8) (l m : Nat) : fitV k n s l m = fitE (k != 4) (n != 0) (decide (n < -9007199254740991)) (decide (9007199254740991 < n)) (k != 5) s.isEmpty (txF s) (k == 6) ((l : Int) == 0) (k == 7) ((m : Int) == 0) := by
  have e1 : decide (k = 4) = !(k != 4) := ne_dec _ _
  have e2 : decide (n = 0) = !(n != 0) := ne_dec _ _
  have e3 : decide (-9007199254740991 ≤ n) = !(decide (n < -9007199254740991)) := by rw [← decide_not]; congr 1; exact propext Int.not_lt.symm
  have e4 : decide (n ≤ 9007199254740991) = !(decide (9007199254740991 < n)) := by rw [← decide_not]; congr 1; exact propext Int.not_lt.symm
  have e5 : decide (k = 5) = !(k != 5) := ne_dec _ _
  have e6 : decide (s = []) = s.isEmpty := by cases s <;> rfl
  have e8 : decide (k = 6) = (k == 6) := eq_dec _ _
  have e9 : decide (l = 0) = ((l : Int) == 0) := zero_dec l
  have e10 : decide (k = 7) = (k == 7) := eq_dec _ _
  have e11 : decide (m = 0) = ((m : Int) == 0) := zero_dec m
  unfold fitV fitE
  rw [e1, e2, e3, e4, e5, e6, e8, e9, e10, e11]
  generalize (k != 4) = b1
  generalize (n != 0) = b2
  generalize decide (n < -9007199254740991) = b3
  generalize decide (9007199254740991 < n) = b4
  generalize (k != 5) = b5
  generalize s.isEmpty = b6
  generalize txF s = b7
  generalize (k == 6) = b8
  generalize ((l : Int) == 0) = b9
  generalize (k == 7) = b10
  generalize ((m : Int) == 0) = b11
  cases b1 <;> cases b2 <;> cases b3 <;> cases b4 <;> cases b5 <;> cases b6 <;> cases b7 <;> simp
theorem fieldsFit_any (k n : Int) (s : List UInt8) (al am : Option Addr) (ll cl lm cm : Nat) (w : World) :
    Calls Tryz.prog 58 #[.agg #[.int .i64 k, .int .i64 n, str s, .slice al ll cl, .slice am lm cm]] w fun e w' => e = .returned (.bool (fitV k n s ll lm)) ∧ Below w.heap.size w w' := by
  rw [fit_eq]
  exact fit_walk k n s al am ll cl lm cm w _ _ _ _ _ _ _ _ _ _ rfl rfl rfl rfl rfl (Lib.hid (fun W => textFits_any s W)) rfl rfl rfl rfl
end Go.Proofs.YtidlhajibjnkeaaGreatDoor
