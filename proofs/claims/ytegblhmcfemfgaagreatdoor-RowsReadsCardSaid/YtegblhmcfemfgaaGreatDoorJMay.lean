import Derived.Test.YtegblhmcfemfgaaGreatDoorJDef
import Derived.Test.YtegblhmcfemfgaaGreatDoorBx
import Derived.Test.YtegblhmcfemfgaaGreatDoorQuietB
import Derived.Test.YtegblhmcfemfgaaGreatDoorBl
import Derived.Laws.Cover1
namespace Go.Proofs.YtegblhmcfemfgaaGreatDoor
open Go.RowKit
theorem textFits_any (s : List UInt8) (w : World) : Calls Tryz.prog 118 #[str s] w fun e w' => e = .returned (.bool (txF s)) ∧ w' = w := by
 unfold txF
 by_cases h : s.length ≤ 8000
 · have CV : Hid (∀ W, Calls Tryz.prog 138 #[str s] W fun e w' => e = .returned (.bool (validB s)) ∧ w' = W) := Lib.hid (fun W => valid_any s W (by omega))
   have d1 : decide ((s.length : Int) ≤ 8000) = true := decide_eq_true (by omega)
   rw [decide_eq_true h, Bool.true_and]
   go_enter Tryz.func118, Tryz.ntmps118
   go_wp2_with (go_at_call 138; refine (CV.out _).mono ?_; rintro e w' ⟨rfl, rfl⟩)
   go_ret
   exact ⟨rfl, rfl⟩
 have d1 : decide ((s.length : Int) ≤ 8000) = false := decide_eq_false (by omega)
 rw [decide_eq_false h, Bool.false_and]
 go_enter Tryz.func118, Tryz.ntmps118
 go_wp2_with fail
 go_ret
 exact ⟨rfl, rfl⟩
def fitE (b1 b2 b3 b4 b5 b6 b7 b8 b9 b10 b11 : Bool) : Bool := !((b1 && b2) || b3 || b4) && !((b5 && !b6) || !b7) && (b8 || b9) && (b10 || b11)
set_option maxRecDepth 100000 in
set_option maxHeartbeats 40000000 in
theorem fit_walk (k n : Int) (s : List UInt8) (al am : Option Addr) (ll cl lm cm : Nat) (w : World) (b1 b2 b3 b4 b5 b7 b8 b9 b10 b11 : Bool) (q1 : (k != 4) = b1) (q2 : (n != 0) = b2) (q3 : decide (n < -9007199254740991) = b3) (q4 : decide (9007199254740991 < n) = b4)
 (q5 : (k != 5) = b5) (CT : Hid (∀ W, Calls Tryz.prog 118 #[str s] W fun e w' => e = .returned (.bool b7) ∧ w' = W)) (q8 : (k == 6) = b8) (q9 : ((ll : Int) == 0) = b9) (q10 : (k == 7) = b10) (q11 : ((lm : Int) == 0) = b11) :
 Calls Tryz.prog 117 #[.agg #[.int .i64 k, .int .i64 n, str s, .slice al ll cl, .slice am lm cm]] w fun e w' => e = .returned (.bool (fitE b1 b2 b3 b4 b5 s.isEmpty b7 b8 b9 b10 b11)) ∧ Below w.heap.size w w' := by
 cases b1 with
 | false =>
  cases b3 with
  | false =>
   cases b4 with
   | false =>
    cases b5 with
    | false =>
     cases b7 with
     | false =>
      as_aux_lemma =>
       go_enter Tryz.func117, Tryz.ntmps117
       go_wp2_with (go_at_call 118; refine (CT.out _).mono ?_; rintro e w' ⟨rfl, rfl⟩)
       go_ret
       exact ⟨rfl, below_alloc _ _⟩
     | true =>
      cases b8 with
      | false =>
       cases b9 with
       | false =>
        as_aux_lemma =>
         go_enter Tryz.func117, Tryz.ntmps117
         go_wp2_with (go_at_call 118; refine (CT.out _).mono ?_; rintro e w' ⟨rfl, rfl⟩)
         go_ret
         exact ⟨rfl, below_alloc _ _⟩
       | true =>
        cases b10 with
        | false =>
         cases b11 with
         | false =>
          as_aux_lemma =>
           go_enter Tryz.func117, Tryz.ntmps117
           go_wp2_with (go_at_call 118; refine (CT.out _).mono ?_; rintro e w' ⟨rfl, rfl⟩)
           go_ret
           exact ⟨rfl, below_alloc _ _⟩
         | true =>
          as_aux_lemma =>
           go_enter Tryz.func117, Tryz.ntmps117
           go_wp2_with (go_at_call 118; refine (CT.out _).mono ?_; rintro e w' ⟨rfl, rfl⟩)
           go_ret
           exact ⟨rfl, below_alloc _ _⟩
        | true =>
         as_aux_lemma =>
          go_enter Tryz.func117, Tryz.ntmps117
          go_wp2_with (go_at_call 118; refine (CT.out _).mono ?_; rintro e w' ⟨rfl, rfl⟩)
          go_ret
          exact ⟨rfl, below_alloc _ _⟩
      | true =>
       cases b10 with
       | false =>
        cases b11 with
        | false =>
         as_aux_lemma =>
          go_enter Tryz.func117, Tryz.ntmps117
          go_wp2_with (go_at_call 118; refine (CT.out _).mono ?_; rintro e w' ⟨rfl, rfl⟩)
          go_ret
          exact ⟨rfl, below_alloc _ _⟩
        | true =>
         as_aux_lemma =>
          go_enter Tryz.func117, Tryz.ntmps117
          go_wp2_with (go_at_call 118; refine (CT.out _).mono ?_; rintro e w' ⟨rfl, rfl⟩)
          go_ret
          exact ⟨rfl, below_alloc _ _⟩
       | true =>
        as_aux_lemma =>
         go_enter Tryz.func117, Tryz.ntmps117
         go_wp2_with (go_at_call 118; refine (CT.out _).mono ?_; rintro e w' ⟨rfl, rfl⟩)
         go_ret
         exact ⟨rfl, below_alloc _ _⟩
    | true =>
     cases s with
     | nil =>
      cases b7 with
      | false =>
       as_aux_lemma =>
        go_enter Tryz.func117, Tryz.ntmps117
        go_wp2_with (go_at_call 118; refine (CT.out _).mono ?_; rintro e w' ⟨rfl, rfl⟩)
        go_ret
        exact ⟨rfl, below_alloc _ _⟩
      | true =>
       cases b8 with
       | false =>
        cases b9 with
        | false =>
         as_aux_lemma =>
          go_enter Tryz.func117, Tryz.ntmps117
          go_wp2_with (go_at_call 118; refine (CT.out _).mono ?_; rintro e w' ⟨rfl, rfl⟩)
          go_ret
          exact ⟨rfl, below_alloc _ _⟩
        | true =>
         cases b10 with
         | false =>
          cases b11 with
          | false =>
           as_aux_lemma =>
            go_enter Tryz.func117, Tryz.ntmps117
            go_wp2_with (go_at_call 118; refine (CT.out _).mono ?_; rintro e w' ⟨rfl, rfl⟩)
            go_ret
            exact ⟨rfl, below_alloc _ _⟩
          | true =>
           as_aux_lemma =>
            go_enter Tryz.func117, Tryz.ntmps117
            go_wp2_with (go_at_call 118; refine (CT.out _).mono ?_; rintro e w' ⟨rfl, rfl⟩)
            go_ret
            exact ⟨rfl, below_alloc _ _⟩
         | true =>
          as_aux_lemma =>
           go_enter Tryz.func117, Tryz.ntmps117
           go_wp2_with (go_at_call 118; refine (CT.out _).mono ?_; rintro e w' ⟨rfl, rfl⟩)
           go_ret
           exact ⟨rfl, below_alloc _ _⟩
       | true =>
        cases b10 with
        | false =>
         cases b11 with
         | false =>
          as_aux_lemma =>
           go_enter Tryz.func117, Tryz.ntmps117
           go_wp2_with (go_at_call 118; refine (CT.out _).mono ?_; rintro e w' ⟨rfl, rfl⟩)
           go_ret
           exact ⟨rfl, below_alloc _ _⟩
         | true =>
          as_aux_lemma =>
           go_enter Tryz.func117, Tryz.ntmps117
           go_wp2_with (go_at_call 118; refine (CT.out _).mono ?_; rintro e w' ⟨rfl, rfl⟩)
           go_ret
           exact ⟨rfl, below_alloc _ _⟩
        | true =>
         as_aux_lemma =>
          go_enter Tryz.func117, Tryz.ntmps117
          go_wp2_with (go_at_call 118; refine (CT.out _).mono ?_; rintro e w' ⟨rfl, rfl⟩)
          go_ret
          exact ⟨rfl, below_alloc _ _⟩
     | cons c0 s0 =>
      as_aux_lemma =>
       go_enter Tryz.func117, Tryz.ntmps117
       go_wp2_with (go_at_call 118; refine (CT.out _).mono ?_; rintro e w' ⟨rfl, rfl⟩)
       go_ret
       exact ⟨rfl, below_alloc _ _⟩
   | true =>
    as_aux_lemma =>
     go_enter Tryz.func117, Tryz.ntmps117
     go_wp2_with (go_at_call 118; refine (CT.out _).mono ?_; rintro e w' ⟨rfl, rfl⟩)
     go_ret
     exact ⟨rfl, below_alloc _ _⟩
  | true =>
   as_aux_lemma =>
    go_enter Tryz.func117, Tryz.ntmps117
    go_wp2_with (go_at_call 118; refine (CT.out _).mono ?_; rintro e w' ⟨rfl, rfl⟩)
    go_ret
    exact ⟨rfl, below_alloc _ _⟩
 | true =>
  cases b2 with
  | false =>
   cases b3 with
   | false =>
    cases b4 with
    | false =>
     cases b5 with
     | false =>
      cases b7 with
      | false =>
       as_aux_lemma =>
        go_enter Tryz.func117, Tryz.ntmps117
        go_wp2_with (go_at_call 118; refine (CT.out _).mono ?_; rintro e w' ⟨rfl, rfl⟩)
        go_ret
        exact ⟨rfl, below_alloc _ _⟩
      | true =>
       cases b8 with
       | false =>
        cases b9 with
        | false =>
         as_aux_lemma =>
          go_enter Tryz.func117, Tryz.ntmps117
          go_wp2_with (go_at_call 118; refine (CT.out _).mono ?_; rintro e w' ⟨rfl, rfl⟩)
          go_ret
          exact ⟨rfl, below_alloc _ _⟩
        | true =>
         cases b10 with
         | false =>
          cases b11 with
          | false =>
           as_aux_lemma =>
            go_enter Tryz.func117, Tryz.ntmps117
            go_wp2_with (go_at_call 118; refine (CT.out _).mono ?_; rintro e w' ⟨rfl, rfl⟩)
            go_ret
            exact ⟨rfl, below_alloc _ _⟩
          | true =>
           as_aux_lemma =>
            go_enter Tryz.func117, Tryz.ntmps117
            go_wp2_with (go_at_call 118; refine (CT.out _).mono ?_; rintro e w' ⟨rfl, rfl⟩)
            go_ret
            exact ⟨rfl, below_alloc _ _⟩
         | true =>
          as_aux_lemma =>
           go_enter Tryz.func117, Tryz.ntmps117
           go_wp2_with (go_at_call 118; refine (CT.out _).mono ?_; rintro e w' ⟨rfl, rfl⟩)
           go_ret
           exact ⟨rfl, below_alloc _ _⟩
       | true =>
        cases b10 with
        | false =>
         cases b11 with
         | false =>
          as_aux_lemma =>
           go_enter Tryz.func117, Tryz.ntmps117
           go_wp2_with (go_at_call 118; refine (CT.out _).mono ?_; rintro e w' ⟨rfl, rfl⟩)
           go_ret
           exact ⟨rfl, below_alloc _ _⟩
         | true =>
          as_aux_lemma =>
           go_enter Tryz.func117, Tryz.ntmps117
           go_wp2_with (go_at_call 118; refine (CT.out _).mono ?_; rintro e w' ⟨rfl, rfl⟩)
           go_ret
           exact ⟨rfl, below_alloc _ _⟩
        | true =>
         as_aux_lemma =>
          go_enter Tryz.func117, Tryz.ntmps117
          go_wp2_with (go_at_call 118; refine (CT.out _).mono ?_; rintro e w' ⟨rfl, rfl⟩)
          go_ret
          exact ⟨rfl, below_alloc _ _⟩
     | true =>
      cases s with
      | nil =>
       cases b7 with
       | false =>
        as_aux_lemma =>
         go_enter Tryz.func117, Tryz.ntmps117
         go_wp2_with (go_at_call 118; refine (CT.out _).mono ?_; rintro e w' ⟨rfl, rfl⟩)
         go_ret
         exact ⟨rfl, below_alloc _ _⟩
       | true =>
        cases b8 with
        | false =>
         cases b9 with
         | false =>
          as_aux_lemma =>
           go_enter Tryz.func117, Tryz.ntmps117
           go_wp2_with (go_at_call 118; refine (CT.out _).mono ?_; rintro e w' ⟨rfl, rfl⟩)
           go_ret
           exact ⟨rfl, below_alloc _ _⟩
         | true =>
          cases b10 with
          | false =>
           cases b11 with
           | false =>
            as_aux_lemma =>
             go_enter Tryz.func117, Tryz.ntmps117
             go_wp2_with (go_at_call 118; refine (CT.out _).mono ?_; rintro e w' ⟨rfl, rfl⟩)
             go_ret
             exact ⟨rfl, below_alloc _ _⟩
           | true =>
            as_aux_lemma =>
             go_enter Tryz.func117, Tryz.ntmps117
             go_wp2_with (go_at_call 118; refine (CT.out _).mono ?_; rintro e w' ⟨rfl, rfl⟩)
             go_ret
             exact ⟨rfl, below_alloc _ _⟩
          | true =>
           as_aux_lemma =>
            go_enter Tryz.func117, Tryz.ntmps117
            go_wp2_with (go_at_call 118; refine (CT.out _).mono ?_; rintro e w' ⟨rfl, rfl⟩)
            go_ret
            exact ⟨rfl, below_alloc _ _⟩
        | true =>
         cases b10 with
         | false =>
          cases b11 with
          | false =>
           as_aux_lemma =>
            go_enter Tryz.func117, Tryz.ntmps117
            go_wp2_with (go_at_call 118; refine (CT.out _).mono ?_; rintro e w' ⟨rfl, rfl⟩)
            go_ret
            exact ⟨rfl, below_alloc _ _⟩
          | true =>
           as_aux_lemma =>
            go_enter Tryz.func117, Tryz.ntmps117
            go_wp2_with (go_at_call 118; refine (CT.out _).mono ?_; rintro e w' ⟨rfl, rfl⟩)
            go_ret
            exact ⟨rfl, below_alloc _ _⟩
         | true =>
          as_aux_lemma =>
           go_enter Tryz.func117, Tryz.ntmps117
           go_wp2_with (go_at_call 118; refine (CT.out _).mono ?_; rintro e w' ⟨rfl, rfl⟩)
           go_ret
           exact ⟨rfl, below_alloc _ _⟩
      | cons c0 s0 =>
       as_aux_lemma =>
        go_enter Tryz.func117, Tryz.ntmps117
        go_wp2_with (go_at_call 118; refine (CT.out _).mono ?_; rintro e w' ⟨rfl, rfl⟩)
        go_ret
        exact ⟨rfl, below_alloc _ _⟩
    | true =>
     as_aux_lemma =>
      go_enter Tryz.func117, Tryz.ntmps117
      go_wp2_with (go_at_call 118; refine (CT.out _).mono ?_; rintro e w' ⟨rfl, rfl⟩)
      go_ret
      exact ⟨rfl, below_alloc _ _⟩
   | true =>
    as_aux_lemma =>
     go_enter Tryz.func117, Tryz.ntmps117
     go_wp2_with (go_at_call 118; refine (CT.out _).mono ?_; rintro e w' ⟨rfl, rfl⟩)
     go_ret
     exact ⟨rfl, below_alloc _ _⟩
  | true =>
   as_aux_lemma =>
    go_enter Tryz.func117, Tryz.ntmps117
    go_wp2_with (go_at_call 118; refine (CT.out _).mono ?_; rintro e w' ⟨rfl, rfl⟩)
    go_ret
    exact ⟨rfl, below_alloc _ _⟩
theorem ne_dec (k m : Int) : decide (k = m) = !(k != m) := by
 by_cases h : k = m
 · subst h; rw [decide_eq_true rfl, bne_self_eq_false]; rfl
 rw [decide_eq_false h, bne_iff_ne.2 h]; rfl
theorem eq_dec (k m : Int) : decide (k = m) = (k == m) := by
 by_cases h : k = m
 · subst h; rw [decide_eq_true rfl, beq_self_eq_true]
 rw [decide_eq_false h, beq_eq_false_iff_ne.2 h]
theorem zero_dec (l : Nat) : decide (l = 0) = ((l : Int) == 0) := by
 rw [← eq_dec]
 by_cases h : l = 0
 · rw [decide_eq_true h, decide_eq_true (by omega)]
 rw [decide_eq_false h, decide_eq_false (by omega)]
theorem fit_eq (k n : Int) (s : List UInt8) (l m : Nat) : fitV k n s l m = fitE (k != 4) (n != 0) (decide (n < -9007199254740991)) (decide (9007199254740991 < n)) (k != 5) s.isEmpty (txF s) (k == 6) ((l : Int) == 0) (k == 7) ((m : Int) == 0) := by
 have e1 : decide (k = 4) = !(k != 4) := ne_dec _ _
 have e2 : decide (n = 0) = !(n != 0) := ne_dec _ _
 have e3 : decide (-9007199254740991 ≤ n) = !(decide (n < -9007199254740991)) := by rw [← decide_not]; congr 1; exact propext Int.not_lt.symm
 have e4 : decide (n ≤ 9007199254740991) = !(decide (9007199254740991 < n)) := by rw [← decide_not]; congr 1; exact propext Int.not_lt.symm
 have e5 : decide (k = 5) = !(k != 5) := ne_dec _ _
 have e6 : decide (s = []) = s.isEmpty := by cases s <;> rfl
 have e8 : decide (k = 6) = (k == 6) := eq_dec _ _
 have e9 : decide (l = 0) = ((l : Int) == 0) := zero_dec l
 have e10 : decide (k = 7) = (k == 7) := eq_dec _ _
 have e11 : decide (m = 0) = ((m : Int) == 0) := zero_dec m
 unfold fitV fitE
 rw [e1, e2, e3, e4, e5, e6, e8, e9, e10, e11]
 generalize (k != 4) = b1
 generalize (n != 0) = b2
 generalize decide (n < -9007199254740991) = b3
 generalize decide (9007199254740991 < n) = b4
 generalize (k != 5) = b5
 generalize s.isEmpty = b6
 generalize txF s = b7
 generalize (k == 6) = b8
 generalize ((l : Int) == 0) = b9
 generalize (k == 7) = b10
 generalize ((m : Int) == 0) = b11
 cases b1 <;> cases b2 <;> cases b3 <;> cases b4 <;> cases b5 <;> cases b6 <;> cases b7 <;> simp
theorem fieldsFit_any (k n : Int) (s : List UInt8) (al am : Option Addr) (ll cl lm cm : Nat) (w : World) :
 Calls Tryz.prog 117 #[.agg #[.int .i64 k, .int .i64 n, str s, .slice al ll cl, .slice am lm cm]] w fun e w' => e = .returned (.bool (fitV k n s ll lm)) ∧ Below w.heap.size w w' := by
 rw [fit_eq]
 exact fit_walk k n s al am ll cl lm cm w _ _ _ _ _ _ _ _ _ _ rfl rfl rfl rfl rfl (Lib.hid (fun W => textFits_any s W)) rfl rfl rfl rfl
def MayC (v : JV) : Prop := ∀ (F : Nat → Prop) (w : World) (cs : List Value) (dp : Nat), RdJ w F v cs → 1 ≤ dp → dp ≤ 65 →
 Calls Tryz.prog 90 #[.agg cs.toArray, .int .i64 (dp : Int)] w fun e w' => e = .returned (.bool (mayV v (65 - dp))) ∧ Below w.heap.size w w'
theorem RdFB.row {F : Nat → Prop} {sz : Nat} {w : World} {a : Option Addr} {n cap : Nat} {L : List (List Value)} (h : RdFB F sz w (.slice a n cap) L) {i : Nat} (hi : i < L.length) :
 ∃ b off, a = some ⟨b, off, none⟩ ∧ F b ∧ ∀ (j : Nat) (u : Value), L[i][j]? = some u → w.cell? ⟨b, off + i * sz + j, none⟩ = some u := by
 obtain ⟨a', cap', hv, h1, h2, h3, h4⟩ := h
 simp only [Value.slice.injEq] at hv
 obtain ⟨rfl, rfl, rfl⟩ := hv
 obtain ⟨b, off, ha, hF, hc⟩ := h4 (by intro e; subst e; simp at hi)
 exact ⟨b, off, ha, hF, hc i hi⟩
theorem RdFB.lens {F : Nat → Prop} {sz : Nat} {w : World} {a : Option Addr} {n cap : Nat} {L : List (List Value)} (h : RdFB F sz w (.slice a n cap) L) : n = L.length ∧ n ≤ 9223372036854775807 ∧ n ≤ cap ∧ cap ≤ 9223372036854775807 := by
 obtain ⟨a', cap', hv, h1, h2, h3, h4⟩ := h
 simp only [Value.slice.injEq] at hv
 obtain ⟨rfl, rfl, rfl⟩ := hv
 exact ⟨rfl, h1, h2, h3⟩
theorem RdJ.part {W : World} {F : Nat → Prop} {al : Option Addr} {ll cl : Nat} {l : List JV} {rows : List (List Value)} (h1 : RdFB F 5 W (.slice al ll cl) rows) (h2 : RdL W F l rows) {k : Nat} (hk : k < l.length) :
 ∃ (b off : Nat) (a : Option Addr) (n c : Nat) (a' : Option Addr) (n' c' : Nat), al = some ⟨b, off, none⟩ ∧ F b ∧ b < W.heap.size ∧ RdJ W F l[k] [.int .i64 l[k].kind, .int .i64 l[k].n, str l[k].s, .slice a n c, .slice a' n' c'] ∧
   W.cell? ⟨b, off + k * 5, none⟩ = some (.int .i64 l[k].kind) ∧ W.cell? ⟨b, off + k * 5 + 1, none⟩ = some (.int .i64 l[k].n) ∧ W.cell? ⟨b, off + k * 5 + 2, none⟩ = some (str l[k].s) ∧ W.cell? ⟨b, off + k * 5 + 3, none⟩ = some (.slice a n c) ∧ W.cell? ⟨b, off + k * 5 + 4, none⟩ = some (.slice a' n' c') := by
 have hr := (RdL.rows h2).1
 have hj := RdL.at h2 k hk (by omega)
 obtain ⟨b, off, rfl, hF, hc⟩ := h1.row (i := k) (by omega)
 obtain ⟨a, n, c, a', n', c', e, _, _⟩ := hj.open
 rw [e] at hj hc
 have c0 := hc 0 _ rfl
 refine ⟨b, off, a, n, c, a', n', c', rfl, hF, World.block_lt_of_cell? W _ c0, hj, c0, hc 1 _ rfl, hc 2 _ rfl, hc 3 _ rfl, hc 4 _ rfl⟩
theorem RdJ.memb {W : World} {F : Nat → Prop} {am : Option Addr} {lm cm : Nat} {m : List MemT} {rows : List (List Value)} (h1 : RdFB F 6 W (.slice am lm cm) rows) (h2 : RdM W F m rows) {k : Nat} (hk : k < m.length) :
 ∃ (b off : Nat) (a : Option Addr) (n c : Nat) (a' : Option Addr) (n' c' : Nat), am = some ⟨b, off, none⟩ ∧ F b ∧ b < W.heap.size ∧ RdJ W F m[k].2 [.int .i64 m[k].2.kind, .int .i64 m[k].2.n, str m[k].2.s, .slice a n c, .slice a' n' c'] ∧
   W.cell? ⟨b, off + k * 6, none⟩ = some (str m[k].1) ∧ W.cell? ⟨b, off + k * 6 + 1, none⟩ = some (.int .i64 m[k].2.kind) ∧ W.cell? ⟨b, off + k * 6 + 2, none⟩ = some (.int .i64 m[k].2.n) ∧ W.cell? ⟨b, off + k * 6 + 3, none⟩ = some (str m[k].2.s) ∧ W.cell? ⟨b, off + k * 6 + 4, none⟩ = some (.slice a n c) ∧ W.cell? ⟨b, off + k * 6 + 5, none⟩ = some (.slice a' n' c') := by
 have hr := (RdM.rows h2).1
 obtain ⟨cs, e0, hj⟩ := RdM.at h2 k hk (by omega)
 obtain ⟨b, off, rfl, hF, hc⟩ := h1.row (i := k) (by omega)
 obtain ⟨a, n, c, a', n', c', e, _, _⟩ := hj.open
 rw [e] at hj
 rw [e0, e] at hc
 have c0 := hc 0 _ rfl
 refine ⟨b, off, a, n, c, a', n', c', rfl, hF, World.block_lt_of_cell? W _ c0, hj, c0, hc 1 _ rfl, hc 2 _ rfl, hc 3 _ rfl, hc 4 _ rfl, hc 5 _ rfl⟩
theorem mayL_at {l : List JV} {d k : Nat} (h : k < l.length) : mayL (l.drop k) d = (mayV l[k] d && mayL (l.drop (k + 1)) d) := by
 rw [List.drop_eq_getElem_cons h, mayL]
theorem mayM_at {m : List MemT} {d k : Nat} {p : Option (List UInt8)} (h : k < m.length) : mayM (m.drop k) p d = (aftB p m[k].1 && txF m[k].1 && mayV m[k].2 d && mayM (m.drop (k + 1)) (some m[k].1) d) := by
 rw [List.drop_eq_getElem_cons h]
 obtain ⟨a, b⟩ := m[k]
 rfl
def prvN (m : List MemT) (k : Nat) : Option (List UInt8) := if k = 0 then none else some (m.getD (k - 1) ([], default)).1
theorem prvN_succ (m : List MemT) (k : Nat) (h : k < m.length) : prvN m (k + 1) = some m[k].1 := by
 unfold prvN
 rw [if_neg (by omega)]
 simp [List.getD, h]
theorem mayV_mk (v : JV) (d : Nat) : mayV v d = (decide (0 < d) && decide (1 ≤ v.kind) && decide (v.kind ≤ 7) && fitV v.kind v.n v.s v.l.length v.m.length && mayL v.l (d - 1) && mayM v.m none (d - 1)) := by
 obtain ⟨k, n, s, l, m⟩ := v
 rw [mayV]
 rfl
set_option maxRecDepth 100000 in
set_option maxHeartbeats 16000000 in
theorem may_step (v : JV) (IHL : ∀ x ∈ v.l, MayC x) (IHM : ∀ x ∈ v.m, MayC x.2) : MayC v := by
 intro F w cs dp h hd1 hd2
 obtain ⟨al, ll, cl, am, lm, cm, rfl, ⟨rl, hrl, hll, rfl⟩, rm, hrm, hmm, rfl⟩ := h.open
 rw [mayV_mk]
 by_cases hd : dp = 65
 · subst hd
   have t1 : decide (64 < ((65 : Nat) : Int)) = true := rfl
   clear IHL IHM hrl hll hrm hmm h
   go_enter Tryz.func90, Tryz.ntmps90
   go_wp2_with fail
   go_ret
   exact ⟨rfl, below_alloc _ _⟩
 obtain ⟨d, hdd⟩ : ∃ d, 65 - dp = d + 1 := ⟨64 - dp, by omega⟩
 rw [hdd]
 have t1 : decide (64 < (dp : Int)) = false := decide_eq_false (by omega)
 have tz : decide (0 < d + 1) = true := rfl
 rw [tz, Bool.true_and, Nat.add_sub_cancel]
 by_cases hk1 : v.kind < 1
 · have t2 : decide (v.kind < 1) = true := decide_eq_true hk1
   have e : decide (1 ≤ v.kind) = false := decide_eq_false (by omega)
   rw [e]
   clear hk1 e IHL IHM hrl hll hrm hmm h
   go_enter Tryz.func90, Tryz.ntmps90
   go_wp2_with fail
   go_ret
   exact ⟨rfl, below_alloc _ _⟩
 have t2 : decide (v.kind < 1) = false := decide_eq_false hk1
 have e : decide (1 ≤ v.kind) = true := decide_eq_true (by omega)
 rw [e, Bool.true_and]
 clear e
 by_cases hk7 : 7 < v.kind
 · have t3 : decide (7 < v.kind) = true := decide_eq_true hk7
   have e : decide (v.kind ≤ 7) = false := decide_eq_false (by omega)
   rw [e]
   clear hk1 hk7 e IHL IHM hrl hll hrm hmm h
   go_enter Tryz.func90, Tryz.ntmps90
   go_wp2_with fail
   go_ret
   exact ⟨rfl, below_alloc _ _⟩
 have t3 : decide (7 < v.kind) = false := decide_eq_false hk7
 have e : decide (v.kind ≤ 7) = true := decide_eq_true (by omega)
 rw [e, Bool.true_and]
 clear e hk1 hk7
 have CF : Hid (∀ W, Calls Tryz.prog 117 #[.agg #[.int .i64 v.kind, .int .i64 v.n, str v.s, .slice al v.l.length cl, .slice am v.m.length cm]] W fun e w' => e = .returned (.bool (fitV v.kind v.n v.s v.l.length v.m.length)) ∧ Below W.heap.size W w') := Lib.hid (fun W => fieldsFit_any _ _ _ _ _ _ _ _ _ W)
 cases hf : fitV v.kind v.n v.s v.l.length v.m.length with
 | false =>
  rw [hf] at CF
  clear hf IHL IHM hrl hll hrm hmm h
  go_enter Tryz.func90, Tryz.ntmps90
  go_wp2_with (go_at_call 117; refine (CF.out _).mono ?_; rintro e w' ⟨rfl, hb⟩)
  go_ret
  exact ⟨rfl, (below_alloc w _).trans (hb.mono (by simp))⟩
 | true =>
  rw [Bool.true_and]
  rw [hf] at CF
  have g0 : v.l.length ≤ 9223372036854775807 := (hrl.lens).2.1
  have g1 : v.m.length ≤ 9223372036854775807 := (hrm.lens).2.1
  obtain ⟨R, hR⟩ : ∃ R, R = (mayL v.l d && mayM v.m none d) := ⟨_, rfl⟩
  rw [← hR]
  have HR := Lib.hid hR
  have HL := Lib.hid (And.intro hrl (And.intro hll (And.intro hrm hmm)))
  have IL := Lib.hid IHL
  have IM := Lib.hid IHM
  have HDD : Hid (65 - (dp + 1) = d) := Lib.hid (by omega)
  clear hf hR IHL IHM hrl hll hrm hmm h hdd
  go_enter Tryz.func90, Tryz.ntmps90
  go_wp2_with fail
  refine (CF.out _).mono ?_
  rintro e w1 ⟨rfl, hb⟩
  have HB : Hid (Below w.heap.size w w1 ∧ w1.heap[w.heap.size]? = some (.cells #[.int .i64 v.kind, .int .i64 v.n, str v.s, .slice al v.l.length cl, .slice am v.m.length cm] 72 (0, 0))) := Lib.hid ⟨(below_alloc w _).trans (hb.mono (by simp)), box_up (heap_alloc_new w _) hb⟩
  have b3 := box_cell HB.out.2 3
  clear hb CF
  go_wp2_with fail
  clear b3
  go_loopw [29] (fun v29 wr => ∃ k : Nat, k ≤ v.l.length ∧ v29 = .int .i64 (k : Int) ∧ Hid (R = (mayL (v.l.drop k) d && mayM v.m none d)) ∧ Hid (Below w1.heap.size w1 wr)) (fun v29 _ => v.l.length - (intOf v29).toNat)
  case atStart => exact ⟨0, Nat.zero_le _, rfl, Lib.hid (by simpa using HR.out), Lib.hid (Below.refl _ _)⟩
  case round =>
   obtain ⟨k, hk, rfl, HK, HW⟩ := hrel
   have HWW := Lib.hid (HB.out.1.trans (HW.out.mono HB.out.1.size))
   by_cases hlt : k < v.l.length
   · have n1 : (k : Int) < (v.l.length : Int) := by omega
     have n3 : (0 : Int) ≤ (k : Int) := by omega
     obtain ⟨b, off, a, n, c, a', n', c', rfl, _, hbw, hx, c0, c1, c2, c3, c4⟩ := RdJ.part HL.out.1 HL.out.2.1 hlt
     have HM : Hid (v.l[k] ∈ v.l) := Lib.hid (List.getElem_mem hlt)
     have HK2 := HK.out
     rw [mayL_at hlt] at HK2
     have HK3 := Lib.hid HK2
     clear HK2 HK
     obtain ⟨x, hxx⟩ : ∃ x, x = v.l[k] := ⟨_, rfl⟩
     rw [← hxx] at hx c0 c1 c2 HK3 HM
     clear hxx
     have e0 : wr.cell? ⟨b, off + k * 5, none⟩ = some (.int .i64 x.kind) := (HWW.out.cell (p := ⟨b, off + k * 5, none⟩) hbw).trans c0
     have e1 : wr.cell? ⟨b, off + k * 5 + 1, none⟩ = some (.int .i64 x.n) := (HWW.out.cell (p := ⟨b, off + k * 5 + 1, none⟩) hbw).trans c1
     have e2 : wr.cell? ⟨b, off + k * 5 + 2, none⟩ = some (str x.s) := (HWW.out.cell (p := ⟨b, off + k * 5 + 2, none⟩) hbw).trans c2
     have e3 : wr.cell? ⟨b, off + k * 5 + 3, none⟩ = some (.slice a n c) := (HWW.out.cell (p := ⟨b, off + k * 5 + 3, none⟩) hbw).trans c3
     have e4 : wr.cell? ⟨b, off + k * 5 + 4, none⟩ = some (.slice a' n' c') := (HWW.out.cell (p := ⟨b, off + k * 5 + 4, none⟩) hbw).trans c4
     have CM : Hid (Calls Tryz.prog 90 #[.agg #[.int .i64 x.kind, .int .i64 x.n, str x.s, .slice a n c, .slice a' n' c'], .int .i64 ((dp : Int) + 1)] (wr.alloc (.cells #[.int .i64 x.kind, .int .i64 x.n, str x.s, .slice a n c, .slice a' n' c'] 72)) fun e w' => e = .returned (.bool (mayV x d)) ∧ Below (wr.heap.size + 1) (wr.alloc (.cells #[.int .i64 x.kind, .int .i64 x.n, str x.s, .slice a n c, .slice a' n' c'] 72)) w') := Lib.hid (by
      have h1 := IL.out x HM.out F (wr.alloc (.cells #[.int .i64 x.kind, .int .i64 x.n, str x.s, .slice a n c, .slice a' n' c'] 72)) [.int .i64 x.kind, .int .i64 x.n, str x.s, .slice a n c, .slice a' n' c'] (dp + 1) ((hx.up HWW.out).up (below_alloc wr _)) (by omega) (by omega)
      rw [HDD.out] at h1
      simpa using h1)
     clear hx c0 c1 c2 c3 c4 hbw
     cases hB : mayV x d with
     | false =>
      have HE : Hid (R = false) := Lib.hid (by rw [HK3.out, hB]; rfl)
      rw [hB] at CM
      clear hB HK3
      go_wp2_with fail
      refine CM.out.mono ?_
      rintro e w2 ⟨rfl, hb2⟩
      have HX := Lib.hid ((HWW.out.trans ((below_alloc wr _).mono HWW.out.size)).trans (hb2.mono (by have := HWW.out.size; omega)))
      clear hb2 CM
      go_wp2_with fail
      go_ret
      exact ⟨by rw [HE.out]; rfl, HX.out⟩
     | true =>
      have HE : Hid (R = (mayL (v.l.drop (k + 1)) d && mayM v.m none d)) := Lib.hid (by rw [HK3.out, hB, Bool.true_and])
      rw [hB] at CM
      clear hB HK3
      go_wp2_with fail
      refine CM.out.mono ?_
      rintro e w2 ⟨rfl, hb2⟩
      have HX := Lib.hid ((HW.out.trans ((below_alloc wr _).mono HW.out.size)).trans (hb2.mono (by have := HW.out.size; omega)))
      clear hb2 CM
      go_wp2_with fail
      go_roundw
      case rel => exact ⟨k + 1, by omega, by go_num, HE, HX⟩
      case measure => simp [intOf]; omega
   obtain rfl : k = v.l.length := by omega
   have n2 : ¬ (v.l.length : Int) < (v.l.length : Int) := by omega
   have HR2 : Hid (R = mayM v.m none d) := Lib.hid (by rw [HK.out, List.drop_length, mayL, Bool.true_and])
   have b4 := box_cell (box_up HB.out.2 HW.out) 4
   have HW0 := Lib.hid HW.out
   clear HK HR HW
   go_wp2_with fail
   clear b4
   go_loopw [42] (fun v42 wr => ∃ k : Nat, k ≤ v.m.length ∧ v42 = .int .i64 (k : Int) ∧ Hid (R = mayM (v.m.drop k) (prvN v.m k) d) ∧ Hid (Below w1.heap.size w1 wr)) (fun v42 _ => v.m.length - (intOf v42).toNat)
   case atStart => exact ⟨0, Nat.zero_le _, rfl, Lib.hid (by rw [List.drop_zero]; exact HR2.out), HW0⟩
   case round =>
    obtain ⟨k, hk, rfl, HK, HW⟩ := hrel
    have HWW2 := Lib.hid (HB.out.1.trans (HW.out.mono HB.out.1.size))
    clear HR2 HW0 HWW
    by_cases hlt : k < v.m.length
    · have n1 : (k : Int) < (v.m.length : Int) := by omega
      have n3 : (0 : Int) ≤ (k : Int) := by omega
      obtain ⟨b, off, a, n, c, a', n', c', rfl, _, hbw, hx, c0, c1, c2, c3, c4, c5⟩ := RdJ.memb HL.out.2.2.1 HL.out.2.2.2 hlt
      have HM : Hid (v.m[k] ∈ v.m) := Lib.hid (List.getElem_mem hlt)
      have HK2 := HK.out
      rw [mayM_at hlt] at HK2
      have HNX : Hid (prvN v.m (k + 1) = some v.m[k].1) := Lib.hid (prvN_succ v.m k hlt)
      obtain ⟨x, hxx⟩ : ∃ x, x = v.m[k] := ⟨_, rfl⟩
      rw [← hxx] at hx c0 c1 c2 c3 HK2 HM HNX
      clear hxx HK
      obtain ⟨nm, x⟩ := x
      dsimp only at hx c0 c1 c2 c3 c4 c5 HK2 HNX
      have e0 : wr.cell? ⟨b, off + k * 6, none⟩ = some (str nm) := (HWW2.out.cell (p := ⟨b, off + k * 6, none⟩) hbw).trans c0
      have e1 : wr.cell? ⟨b, off + k * 6 + 1, none⟩ = some (.int .i64 x.kind) := (HWW2.out.cell (p := ⟨b, off + k * 6 + 1, none⟩) hbw).trans c1
      have e2 : wr.cell? ⟨b, off + k * 6 + 2, none⟩ = some (.int .i64 x.n) := (HWW2.out.cell (p := ⟨b, off + k * 6 + 2, none⟩) hbw).trans c2
      have e3 : wr.cell? ⟨b, off + k * 6 + 3, none⟩ = some (str x.s) := (HWW2.out.cell (p := ⟨b, off + k * 6 + 3, none⟩) hbw).trans c3
      have e4 : wr.cell? ⟨b, off + k * 6 + 4, none⟩ = some (.slice a n c) := (HWW2.out.cell (p := ⟨b, off + k * 6 + 4, none⟩) hbw).trans c4
      have e5 : wr.cell? ⟨b, off + k * 6 + 5, none⟩ = some (.slice a' n' c') := (HWW2.out.cell (p := ⟨b, off + k * 6 + 5, none⟩) hbw).trans c5
      obtain ⟨W2, hW2⟩ : ∃ W2, W2 = wr.alloc (.cells #[str nm, .int .i64 x.kind, .int .i64 x.n, str x.s, .slice a n c, .slice a' n' c'] 74) := ⟨_, rfl⟩
      have hB2 : Below wr.heap.size wr W2 := by rw [hW2]; exact below_alloc _ _
      have hx2 : W2.heap[wr.heap.size]? = some (.cells #[str nm, .int .i64 x.kind, .int .i64 x.n, str x.s, .slice a n c, .slice a' n' c'] 74 (0, 0)) := by rw [hW2]; exact heap_alloc_new wr _
      have z0 : Hid (∀ p : BelowBy W2, p.W.cell? ⟨wr.heap.size, 0, none⟩ = some (str nm)) := Lib.hid (fun p : BelowBy W2 => BelowBy.cell (box_cell hx2 0) p)
      have z1 : Hid (∀ p : BelowBy W2, p.W.cell? ⟨wr.heap.size, 1, none⟩ = some (.int .i64 x.kind)) := Lib.hid (fun p : BelowBy W2 => BelowBy.cell (box_cell hx2 1) p)
      have z2 : Hid (∀ p : BelowBy W2, p.W.cell? ⟨wr.heap.size, 2, none⟩ = some (.int .i64 x.n)) := Lib.hid (fun p : BelowBy W2 => BelowBy.cell (box_cell hx2 2) p)
      have z3 : Hid (∀ p : BelowBy W2, p.W.cell? ⟨wr.heap.size, 3, none⟩ = some (str x.s)) := Lib.hid (fun p : BelowBy W2 => BelowBy.cell (box_cell hx2 3) p)
      have z4 : Hid (∀ p : BelowBy W2, p.W.cell? ⟨wr.heap.size, 4, none⟩ = some (.slice a n c)) := Lib.hid (fun p : BelowBy W2 => BelowBy.cell (box_cell hx2 4) p)
      have z5 : Hid (∀ p : BelowBy W2, p.W.cell? ⟨wr.heap.size, 5, none⟩ = some (.slice a' n' c')) := Lib.hid (fun p : BelowBy W2 => BelowBy.cell (box_cell hx2 5) p)
      have zb : Hid (∀ p : BelowBy W2, p.W.cell? ⟨w.heap.size, 4, none⟩ = some (.slice (some ⟨b, off, none⟩) v.m.length cm)) := Lib.hid (fun p : BelowBy W2 => BelowBy.cell (box_cell (box_up (box_up HB.out.2 HW.out) hB2) 4) p)
      have HWB := Lib.hid (And.intro (HWW2.out.trans (hB2.mono HWW2.out.size)) (And.intro (HW.out.trans (hB2.mono HW.out.size)) (And.intro (Nat.le_trans HWW2.out.size hB2.size) (Nat.le_trans HW.out.size hB2.size))))
      have CT : Hid (∀ W, Calls Tryz.prog 118 #[str nm] W fun e w' => e = .returned (.bool (txF nm)) ∧ Below W.heap.size W w') := Lib.hid (fun W => (textFits_any nm W).mono fun e w' ⟨h1, h2⟩ => ⟨h1, by rw [h2]; exact Below.refl _ _⟩)
      have CM : Hid (∀ p : BelowBy W2, Calls Tryz.prog 90 #[.agg #[.int .i64 x.kind, .int .i64 x.n, str x.s, .slice a n c, .slice a' n' c'], .int .i64 ((dp : Int) + 1)] p.W fun e w' => e = .returned (.bool (mayV x d)) ∧ Below p.W.heap.size p.W w') := Lib.hid (fun p => by
       have h1 := IM.out (nm, x) HM.out F p.W [.int .i64 x.kind, .int .i64 x.n, str x.s, .slice a n c, .slice a' n' c'] (dp + 1) (((hx.up HWW2.out).up hB2).up p.h) (by omega) (by omega)
       rw [HDD.out] at h1
       simpa using h1)
      clear hx c0 c1 c2 c3 c4 c5 hx2 hB2 HM
      by_cases h0 : k = 0
      · have y1 : decide ((0 : Int) < (k : Int)) = false := decide_eq_false (by omega)
        have y2 : decide (0 < k) = false := decide_eq_false (by omega)
        have HA : Hid (aftB (prvN v.m k) nm = true) := Lib.hid (by rw [h0]; rfl)
        clear h0 zb
        cases hT : txF nm with
        | false =>
         have HF : Hid (R = false) := Lib.hid (by rw [HK2, HA.out, hT]; rfl)
         rw [hT] at CT
         clear hT HK2 HA
         go_wp2_with fail
         rw [← hW2]
         clear hW2
         refine wp_region_quiet_below (by kernel_rfl) (by kernel_rfl) ?_
         repeat (first | go_big_quiet_skip | (go_big_quiet_want; go_big_quiet_op; first | go_big_quiet_on | (simp only [z0.out, Result.andThen, true_and, forall_const, exists_eq_left']; go_big_quiet_on) | go_big_quiet_call (first | (go_at_call 118; exact Calls.below_of (CT.out _)) | (go_at_call 90; exact Calls.below_of (CM.out _)))) | fail)
         refine wpQuiet_nil ?_
         rintro w3 ⟨⟨_, hb3⟩, rfl⟩
         have HX := Lib.hid (HWB.out.1.trans (hb3.mono HWB.out.2.2.1))
         clear hb3 CM CT
         go_wp2_with fail
         go_ret
         exact ⟨by rw [HF.out]; rfl, HX.out⟩
        | true =>
         rw [hT] at CT
         cases hB : mayV x d with
         | false =>
          have HF : Hid (R = false) := Lib.hid (by rw [HK2, HA.out, hT, hB]; rfl)
          rw [hB] at CM
          clear hT hB HK2 HA
          go_wp2_with fail
          rw [← hW2]
          clear hW2
          refine wp_region_quiet_below (by kernel_rfl) (by kernel_rfl) ?_
          repeat (first | go_big_quiet_skip | (go_big_quiet_want; go_big_quiet_op; first | go_big_quiet_on | (simp only [z0.out, z1.out, z2.out, z3.out, z4.out, z5.out, Result.andThen, true_and, forall_const, exists_eq_left']; go_big_quiet_on) | go_big_quiet_call (first | (go_at_call 118; exact Calls.below_of (CT.out _)) | (go_at_call 90; exact Calls.below_of (CM.out _)))) | fail)
          refine wpQuiet_nil ?_
          rintro w3 ⟨⟨_, hb3⟩, rfl⟩
          have HX := Lib.hid (HWB.out.1.trans (hb3.mono HWB.out.2.2.1))
          clear hb3 CM CT
          go_wp2_with fail
          go_ret
          exact ⟨by rw [HF.out]; rfl, HX.out⟩
         | true =>
          have HF : Hid (R = mayM (v.m.drop (k + 1)) (prvN v.m (k + 1)) d) := Lib.hid (by rw [HK2, HA.out, hT, hB, HNX.out]; rfl)
          rw [hB] at CM
          clear hT hB HK2 HA
          go_wp2_with fail
          rw [← hW2]
          clear hW2
          refine wp_region_quiet_below (by kernel_rfl) (by kernel_rfl) ?_
          repeat (first | go_big_quiet_skip | (go_big_quiet_want; go_big_quiet_op; first | go_big_quiet_on | (simp only [z0.out, z1.out, z2.out, z3.out, z4.out, z5.out, Result.andThen, true_and, forall_const, exists_eq_left']; go_big_quiet_on) | go_big_quiet_call (first | (go_at_call 118; exact Calls.below_of (CT.out _)) | (go_at_call 90; exact Calls.below_of (CM.out _)))) | fail)
          refine wpQuiet_nil ?_
          rintro w3 ⟨⟨_, hb3⟩, rfl⟩
          have HX := Lib.hid (HWB.out.2.1.trans (hb3.mono HWB.out.2.2.2))
          clear hb3 CM CT
          go_wp2_with fail
          go_roundw
          case rel => exact ⟨k + 1, by omega, by go_num, HF, HX⟩
          case measure => simp [intOf]; omega
      have y1 : decide ((0 : Int) < (k : Int)) = true := decide_eq_true (by omega)
      have y2 : decide (0 < k) = true := decide_eq_true (by omega)
      obtain ⟨j, rfl⟩ : ∃ j, k = j + 1 := ⟨k - 1, by omega⟩
      have hjl : j < v.m.length := by omega
      have tm : IntKind.i64.wrap (((j + 1 : Nat) : Int) - 1) = (j : Int) := by rw [show (((j + 1 : Nat) : Int)) - 1 = (j : Int) by omega]; exact IntWalk.i64_in _ (by omega)
      have tm' : IntKind.i64.wrap ((j : Int) + 1 - 1) = (j : Int) := by rw [show (j : Int) + 1 - 1 = (j : Int) by omega]; exact IntWalk.i64_in _ (by omega)
      have gm : (j : Int) < (v.m.length : Int) := by omega
      have gm0 : (0 : Int) ≤ (j : Int) := by omega
      obtain ⟨b', off', _, _, _, _, _, _, hE, _, hbw', _, c0, _⟩ := RdJ.memb HL.out.2.2.1 HL.out.2.2.2 hjl
      cases hE
      have HPV : Hid (prvN v.m (j + 1) = some v.m[j].1) := Lib.hid (prvN_succ v.m j hjl)
      obtain ⟨q, hq⟩ : ∃ q, q = v.m[j].1 := ⟨_, rfl⟩
      rw [← hq] at c0 HPV
      have zq := Lib.hid (fun p : BelowBy W2 => BelowBy.cell ((HWB.out.1.cell (p := ⟨b, off + j * 6, none⟩) hbw').trans c0) p)
      clear c0 hq hbw'
      cases u1 : Op.bytesLess nm q with
      | true =>
       have u2 : (nm == q) = false := by rw [beq_eq_false_iff_ne]; rintro rfl; rw [bl_irr] at u1; cases u1
       have HA : Hid (aftB (prvN v.m (j + 1)) nm = false) := Lib.hid (by
        rw [HPV.out]
        show Op.bytesLess q nm = false
        cases h2 : Op.bytesLess q nm with
        | false => rfl
        | true => have := bl_tr _ _ _ u1 h2; rw [bl_irr] at this; cases this)
       have HF : Hid (R = false) := Lib.hid (by rw [HK2, HA.out]; rfl)
       clear HK2 HA
       go_wp2_with fail
       rw [← hW2]
       clear hW2
       refine wp_region_quiet_below (by kernel_rfl) (by kernel_rfl) ?_
       repeat (first | go_big_quiet_skip | (go_big_quiet_want; go_big_quiet_op; first | go_big_quiet_on | (simp only [z0.out, zb.out, zq.out, Result.andThen, true_and, forall_const, exists_eq_left']; go_big_quiet_on) | go_big_quiet_call (first | (go_at_call 118; exact Calls.below_of (CT.out _)) | (go_at_call 90; exact Calls.below_of (CM.out _)))) | fail)
       refine wpQuiet_nil ?_
       rintro w3 ⟨⟨_, hb3⟩, rfl⟩
       have HX := Lib.hid (HWB.out.1.trans (hb3.mono HWB.out.2.2.1))
       clear hb3 CM CT
       go_wp2_with fail
       go_ret
       exact ⟨by rw [HF.out]; rfl, HX.out⟩
      | false =>
       by_cases hqn : nm = q
       · have u2 : (nm == q) = true := by rw [hqn]; exact beq_self_eq_true _
         have HA : Hid (aftB (prvN v.m (j + 1)) nm = false) := Lib.hid (by rw [HPV.out, hqn]; exact bl_irr _)
         clear hqn
         have HF : Hid (R = false) := Lib.hid (by rw [HK2, HA.out]; rfl)
         clear HK2 HA
         go_wp2_with fail
         rw [← hW2]
         clear hW2
         refine wp_region_quiet_below (by kernel_rfl) (by kernel_rfl) ?_
         repeat (first | go_big_quiet_skip | (go_big_quiet_want; go_big_quiet_op; first | go_big_quiet_on | (simp only [z0.out, zb.out, zq.out, Result.andThen, true_and, forall_const, exists_eq_left']; go_big_quiet_on) | go_big_quiet_call (first | (go_at_call 118; exact Calls.below_of (CT.out _)) | (go_at_call 90; exact Calls.below_of (CM.out _)))) | fail)
         refine wpQuiet_nil ?_
         rintro w3 ⟨⟨_, hb3⟩, rfl⟩
         have HX := Lib.hid (HWB.out.1.trans (hb3.mono HWB.out.2.2.1))
         clear hb3 CM CT
         go_wp2_with fail
         go_ret
         exact ⟨by rw [HF.out]; rfl, HX.out⟩
       have u2 : (nm == q) = false := beq_eq_false_iff_ne.2 hqn
       have HA : Hid (aftB (prvN v.m (j + 1)) nm = true) := Lib.hid (by
        rw [HPV.out]
        show Op.bytesLess q nm = true
        cases h2 : Op.bytesLess q nm with
        | true => rfl
        | false => exact absurd (bl_tot _ _ u1 h2) hqn)
       clear hqn
       cases hT : txF nm with
       | false =>
        have HF : Hid (R = false) := Lib.hid (by rw [HK2, HA.out, hT]; rfl)
        rw [hT] at CT
        clear hT HK2 HA
        go_wp2_with fail
        rw [← hW2]
        clear hW2
        refine wp_region_quiet_below (by kernel_rfl) (by kernel_rfl) ?_
        repeat (first | go_big_quiet_skip | (go_big_quiet_want; go_big_quiet_op; first | go_big_quiet_on | (simp only [z0.out, zb.out, zq.out, Result.andThen, true_and, forall_const, exists_eq_left']; go_big_quiet_on) | go_big_quiet_call (first | (go_at_call 118; exact Calls.below_of (CT.out _)) | (go_at_call 90; exact Calls.below_of (CM.out _)))) | fail)
        refine wpQuiet_nil ?_
        rintro w3 ⟨⟨_, hb3⟩, rfl⟩
        have HX := Lib.hid (HWB.out.1.trans (hb3.mono HWB.out.2.2.1))
        clear hb3 CM CT
        go_wp2_with fail
        go_ret
        exact ⟨by rw [HF.out]; rfl, HX.out⟩
       | true =>
        rw [hT] at CT
        cases hB : mayV x d with
        | false =>
         have HF : Hid (R = false) := Lib.hid (by rw [HK2, HA.out, hT, hB]; rfl)
         rw [hB] at CM
         clear hT hB HK2 HA
         go_wp2_with fail
         rw [← hW2]
         clear hW2
         refine wp_region_quiet_below (by kernel_rfl) (by kernel_rfl) ?_
         repeat (first | go_big_quiet_skip | (go_big_quiet_want; go_big_quiet_op; first | go_big_quiet_on | (simp only [z0.out, z1.out, z2.out, z3.out, z4.out, z5.out, zb.out, zq.out, Result.andThen, true_and, forall_const, exists_eq_left']; go_big_quiet_on) | go_big_quiet_call (first | (go_at_call 118; exact Calls.below_of (CT.out _)) | (go_at_call 90; exact Calls.below_of (CM.out _)))) | fail)
         refine wpQuiet_nil ?_
         rintro w3 ⟨⟨_, hb3⟩, rfl⟩
         have HX := Lib.hid (HWB.out.1.trans (hb3.mono HWB.out.2.2.1))
         clear hb3 CM CT
         go_wp2_with fail
         go_ret
         exact ⟨by rw [HF.out]; rfl, HX.out⟩
        | true =>
         have HF : Hid (R = mayM (v.m.drop ((j + 1) + 1)) (prvN v.m ((j + 1) + 1)) d) := Lib.hid (by rw [HK2, HA.out, hT, hB, HNX.out]; rfl)
         rw [hB] at CM
         clear hT hB HK2 HA
         go_wp2_with fail
         rw [← hW2]
         clear hW2
         refine wp_region_quiet_below (by kernel_rfl) (by kernel_rfl) ?_
         repeat (first | go_big_quiet_skip | (go_big_quiet_want; go_big_quiet_op; first | go_big_quiet_on | (simp only [z0.out, z1.out, z2.out, z3.out, z4.out, z5.out, zb.out, zq.out, Result.andThen, true_and, forall_const, exists_eq_left']; go_big_quiet_on) | go_big_quiet_call (first | (go_at_call 118; exact Calls.below_of (CT.out _)) | (go_at_call 90; exact Calls.below_of (CM.out _)))) | fail)
         refine wpQuiet_nil ?_
         rintro w3 ⟨⟨_, hb3⟩, rfl⟩
         have HX := Lib.hid (HWB.out.2.1.trans (hb3.mono HWB.out.2.2.2))
         clear hb3 CM CT
         go_wp2_with fail
         go_roundw
         case rel => exact ⟨(j + 1) + 1, by omega, by go_num, HF, HX⟩
         case measure => simp [intOf]; omega
    obtain rfl : k = v.m.length := by omega
    have n2 : ¬ (v.m.length : Int) < (v.m.length : Int) := by omega
    have HE : Hid (R = true) := Lib.hid (by rw [HK.out, List.drop_length]; rfl)
    clear HK
    go_wp2_with fail
    go_ret
    exact ⟨by rw [HE.out]; rfl, HWW2.out⟩
theorem mayBe_any (v : JV) : MayC v := JV.ind may_step v
theorem jmay_any {F : Nat → Prop} {w : World} {v : JV} {cs : List Value} (h : RdJ w F v cs) : Calls Tryz.prog 71 #[.agg cs.toArray] w fun e w' => e = .returned (.bool (mayV v 64)) ∧ Below w.heap.size w w' := by
 obtain ⟨al, ll, cl, am, lm, cm, rfl, _, _⟩ := h.open
 have CM : Hid (∀ W, Below w.heap.size w W → Calls Tryz.prog 90 #[.agg #[.int .i64 v.kind, .int .i64 v.n, str v.s, .slice al ll cl, .slice am lm cm], .int .i64 1] W fun e w' => e = .returned (.bool (mayV v 64)) ∧ Below W.heap.size W w') := Lib.hid (fun W hb => mayBe_any v F W _ 1 (h.up hb) (by omega) (by omega))
 clear h
 go_enter Tryz.func71, Tryz.ntmps71
 go_wp2_with fail
 refine (CM.out _ (below_alloc w _)).mono ?_
 rintro e w1 ⟨rfl, hb⟩
 have HX := Lib.hid ((below_alloc w _).trans (hb.mono (by simp)))
 clear hb CM
 go_wp2_with fail
 go_ret
 exact ⟨rfl, HX.out⟩
end Go.Proofs.YtegblhmcfemfgaaGreatDoor
