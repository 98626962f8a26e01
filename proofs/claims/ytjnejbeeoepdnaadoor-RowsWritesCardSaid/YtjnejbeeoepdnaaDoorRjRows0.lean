/- hblref14's rows: plain facts, PutSub. -/
import Derived.Test.YtjnejbeeoepdnaaDoorRjPut
import Derived.Deep.RegionHeld3
namespace Go.Proofs.YtjnejbeeoepdnaaDoor
open Go.RowKit

theorem objR_no {ms : List MemT} (h : mayV (.mk 7 0 [] [] ms) 64 = false) : objR ms = ([], 4) := by unfold objR; rw [if_neg (by rw [h]; simp)]
theorem mem_valid {ms : List MemT} {nm s : List UInt8} (hm : (nm, JV.mk 5 0 s [] []) ∈ ms) (hv : txF s = false) : mayV (.mk 7 0 [] [] ms) 64 = false := by
  cases h : mayV (.mk 7 0 [] [] ms) 64 with
  | false => rfl
  | true =>
    have h1 : mayM ms none 63 = true := (may_parts h).2.2.2.2
    have h2 := (mayM_mem h1 _ hm).2
    have h3 : txF s = true := (may_parts h2).2.2.1
    rw [hv] at h3
    cases h3
theorem refO_sub (s : List UInt8) : refO (subMs s) (decide (s = []) || nameB s) = putSubR s := by
  unfold refO putSubR
  by_cases h : s = []
  · rw [decide_eq_true h, Bool.true_or, if_pos rfl, if_neg (by simp [h])]
  · rw [decide_eq_false h, Bool.false_or]
    cases hn : nameB s with
    | false => rw [if_neg (by simp), if_pos ⟨h, rfl⟩]
    | true => rw [if_pos rfl, if_neg (by simp)]
theorem refO_feed (t : List UInt8) (n : Int) : refO (feedMs t n) (decide (0 ≤ n) && decide (n ≤ 1000000) && shortB t) = putFeedR t n := by
  unfold refO putFeedR
  by_cases h1 : 0 ≤ n
  · by_cases h2 : n ≤ 1000000
    · rw [decide_eq_true h1, decide_eq_true h2, Bool.true_and, Bool.true_and]
      unfold shortB
      by_cases h3 : t.length ≤ 500
      · have hb : ¬ badF t n := by unfold badF; omega
        rw [decide_eq_true h3, Bool.true_and, if_neg hb]
        cases hv : validB t with
        | true => exact if_pos rfl
        | false =>
          refine (if_neg (by simp)).trans (objR_no (mem_valid (nm := titleN) (s := t) (by simp [feedMs]) ?_)).symm
          unfold txF
          rw [hv, Bool.and_false]
      · rw [decide_eq_false h3, Bool.false_and, if_neg (by simp), if_pos (by unfold badF; omega)]
    · rw [decide_eq_false h2, Bool.and_false, Bool.false_and, if_neg (by simp), if_pos (by unfold badF; omega)]
  · rw [decide_eq_false h1, Bool.false_and, Bool.false_and, if_neg (by simp), if_pos (by unfold badF; omega)]
theorem refO_state (a b : Int) : refO (stateMs a b) (decide (0 ≤ a) && decide (a ≤ 2) && (decide (b = 0) || decide (b = 1)) && decide (0 < a + b)) = putStateR a b := by
  unfold refO putStateR
  by_cases h : badS a b
  · rw [if_pos h]
    have hb := h
    unfold badS at hb
    by_cases h1 : 0 ≤ a
    · by_cases h2 : a ≤ 2
      · by_cases h3 : b = 0 ∨ b = 1
        · have h4 : ¬ 0 < a + b := by omega
          rw [decide_eq_false h4, Bool.and_false, if_neg (by simp)]
        · rw [decide_eq_false (show ¬ b = 0 by omega), decide_eq_false (show ¬ b = 1 by omega)]
          simp
      · rw [decide_eq_false h2]; simp
    · rw [decide_eq_false h1]; simp
  · rw [if_neg h]
    have hb := h
    unfold badS at hb
    have h3 : (decide (b = 0) || decide (b = 1)) = true := by
      rcases (show b = 0 ∨ b = 1 by omega) with h | h
      · rw [decide_eq_true h, Bool.true_or]
      · rw [decide_eq_true h, Bool.or_true]
    rw [decide_eq_true (show 0 ≤ a by omega), decide_eq_true (show a ≤ 2 by omega), h3, decide_eq_true (show 0 < a + b by omega)]
    rfl
/-- A row of members in a block of its own, and all else as it lay. -/
def ObjAt (W1 : World) (cs : Array Value) (B : Nat) (W : World) : Prop := Below W1.heap.size W1 W ∧ W.heap[B]? = some (.cells cs 67 (0, 0))
theorem feed_st {t : List UInt8} {n : Int} (h : t.length ≤ 9223372036854775807) : stM (feedMs t n) := by
  unfold feedMs
  simp [stM, stV, stL, titleN, h]
theorem state_st {a b : Int} : stM (stateMs a b) := by
  unfold stateMs
  simp [stM, stV, stL, readN, starN]
theorem feed_lenM {t : List UInt8} {n : Int} (h : mayV (.mk 7 0 [] [] (feedMs t n)) 64 = true) : (prV (.mk 7 0 [] [] (feedMs t n))).length ≤ 1000000 := by
  have hm := mayM_mem (may_parts h).2.2.2.2
  have hx : txF t = true := (may_parts (hm (titleN, .mk 5 0 t [] []) (by show _ ∈ feedMs t n; simp [feedMs])).2).2.2.1
  have hn : -9007199254740991 ≤ n ∧ n ≤ 9007199254740991 := (may_parts (hm ([110], .mk 4 n [] [] []) (by show _ ∈ feedMs t n; simp [feedMs])).2).2.1
  have h1 := quo_len t hx
  have h2 : (quo titleN).length = 7 := by decide
  have h3 : (quo [110]).length = 3 := by decide
  have h4 := itoa_len (n := n) (by omega)
  have e1 : prV (.mk 5 0 t [] []) = quo t := rfl
  have e2 : prV (.mk 4 n [] [] []) = Lib.itoa n := rfl
  have e : prV (.mk 7 0 [] [] (feedMs t n)) = 123 :: ((prU (feedMs t n)).drop 1 ++ [125]) := rfl
  rw [e]
  simp [feedMs, prU, e1, e2, h2, h3]
  omega
theorem state_lenM {a b : Int} (h : mayV (.mk 7 0 [] [] (stateMs a b)) 64 = true) : (prV (.mk 7 0 [] [] (stateMs a b))).length ≤ 1000000 := by
  have hm := mayM_mem (may_parts h).2.2.2.2
  have ha : -9007199254740991 ≤ a ∧ a ≤ 9007199254740991 := (may_parts (hm (readN, .mk 4 a [] [] []) (by show _ ∈ stateMs a b; simp [stateMs])).2).2.1
  have hb : -9007199254740991 ≤ b ∧ b ≤ 9007199254740991 := (may_parts (hm (starN, .mk 4 b [] [] []) (by show _ ∈ stateMs a b; simp [stateMs])).2).2.1
  have h2 : (quo readN).length = 6 := by decide
  have h3 : (quo starN).length = 6 := by decide
  have h4 := itoa_len (n := a) (by omega)
  have h5 := itoa_len (n := b) (by omega)
  have e1 : prV (.mk 4 a [] [] []) = Lib.itoa a := rfl
  have e2 : prV (.mk 4 b [] [] []) = Lib.itoa b := rfl
  have e : prV (.mk 7 0 [] [] (stateMs a b)) = 123 :: ((prU (stateMs a b)).drop 1 ++ [125]) := rfl
  rw [e]
  simp [stateMs, prU, e1, e2, h2, h3]
  omega
set_option maxRecDepth 100000 in
set_option maxHeartbeats 4000000 in
theorem rputSub_any (s : List UInt8) (w : World) (hl : s.length ≤ 9223372036854775807) : Calls Tryd.prog 10 #[str s] w fun e w' => e = .returned (.tuple #[str (putSubR s).1, .int .i64 (putSubR s).2]) ∧ Below w.heap.size w w' := by
  rw [← refO_sub]
  have CT := Lib.hid (rtext1_any s w)
  have CN := Lib.hid (fun W => rname_any s W hl)
  have CP : Hid (∀ ok W B, Hid (ObjAt w #[str [102, 111, 108, 100, 101, 114], .int .i64 5, .int .i64 0, str s, .slice none 0 0, .slice none 0 0] B W) → Calls Tryd.prog 21 #[.agg #[.int .i64 7, .int .i64 0, str [], .slice none 0 0, .slice (some ⟨B, 0, none⟩) 1 1], .bool ok] W fun e w' => e = .returned (.tuple #[str (refO (subMs s) ok).1, .int .i64 (refO (subMs s) ok).2]) ∧ Below w.heap.size w w') := Lib.hid (fun ok W B h => by
    refine (rprinted_any (subMs s) ok (by unfold subMs stM; refine ⟨by decide, ⟨by unfold stV; exact ⟨hl, by unfold stL; trivial, by unfold stM; trivial⟩, by unfold stM; trivial⟩⟩) sub_len (fun _ => True) W _ (RdJ.mk0 (v := .mk 7 0 [] [] (subMs s)) (RdFB.nil _ _ _) (by unfold RdL; trivial) (RdFB.lit6 [[str [102, 111, 108, 100, 101, 114], .int .i64 5, .int .i64 0, str s, .slice none 0 0, .slice none 0 0]] (by simp) h.out.2 rfl (by simp) trivial) (by
      show RdM W (fun _ => True) (subMs s) _
      unfold subMs RdM
      refine ⟨⟨_, rfl, plainJ _ _ _ _ _⟩, ?_⟩
      unfold RdM
      trivial))).mono ?_
    rintro e w' ⟨rfl, h'⟩
    exact ⟨rfl, h.out.1.trans (h'.mono h.out.1.size)⟩)
  by_cases h0 : s = []
  · subst h0
    rw [decide_eq_true rfl, Bool.true_or]
    clear hl CN
    go_enter Tryd.func10, Tryd.ntmps10
    go_wp2_with fail
    refine CT.out.mono ?_
    rintro e w1 ⟨rfl, hb1⟩
    obtain ⟨W2, hW2⟩ : ∃ W2, W2 = w1.alloc (.cells #[str [102, 111, 108, 100, 101, 114], .int .i64 5, .int .i64 0, str [], .slice none 0 0, .slice none 0 0] 67) := ⟨_, rfl⟩
    have hb2 : Below w.heap.size w W2 := by rw [hW2]; exact hb1.trans ((below_alloc _ _).mono hb1.size)
    have hbx : W2.heap[w1.heap.size]? = some (.cells #[str [102, 111, 108, 100, 101, 114], .int .i64 5, .int .i64 0, str [], .slice none 0 0, .slice none 0 0] 67 (0, 0)) := by rw [hW2]; exact heap_alloc_new _ _
    have CO := Lib.hid (robj_any (some ⟨w1.heap.size, 0, none⟩) 1 1 W2)
    have H2 := Lib.hid (And.intro hb2 hbx)
    clear hb1 hb2 hbx CT
    go_wp2_with fail
    rw [← hW2]
    clear hW2
    refine CO.out.mono ?_
    rintro e w3 ⟨rfl, hb3⟩
    have HO : Hid (ObjAt w #[str [102, 111, 108, 100, 101, 114], .int .i64 5, .int .i64 0, str [], .slice none 0 0, .slice none 0 0] w1.heap.size w3) := Lib.hid ⟨H2.out.1.trans (hb3.mono H2.out.1.size), box_up H2.out.2 hb3⟩
    have CP2 := Lib.hid (CP.out true w3 w1.heap.size HO)
    clear hb3 CO CP
    go_wp2_with fail
    refine CP2.out.mono ?_
    rintro e w4 ⟨rfl, hb4⟩
    have HX := Lib.hid hb4
    clear hb4 CP2
    go_wp2_with fail
    go_ret2
    exact ⟨rfl, HX.out⟩
  · have g0 : (s == []) = false := by rw [beq_eq_false_iff_ne]; exact h0
    rw [decide_eq_false h0, Bool.false_or]
    obtain ⟨N, hN⟩ : ∃ N, N = nameB s := ⟨_, rfl⟩
    rw [← hN] at CN ⊢
    clear hl h0 hN
    go_enter Tryd.func10, Tryd.ntmps10
    go_wp2_with fail
    refine CT.out.mono ?_
    rintro e w1 ⟨rfl, hb1⟩
    obtain ⟨W2, hW2⟩ : ∃ W2, W2 = w1.alloc (.cells #[str [102, 111, 108, 100, 101, 114], .int .i64 5, .int .i64 0, str s, .slice none 0 0, .slice none 0 0] 67) := ⟨_, rfl⟩
    have hb2 : Below w.heap.size w W2 := by rw [hW2]; exact hb1.trans ((below_alloc _ _).mono hb1.size)
    have hbx : W2.heap[w1.heap.size]? = some (.cells #[str [102, 111, 108, 100, 101, 114], .int .i64 5, .int .i64 0, str s, .slice none 0 0, .slice none 0 0] 67 (0, 0)) := by rw [hW2]; exact heap_alloc_new _ _
    have CO := Lib.hid (robj_any (some ⟨w1.heap.size, 0, none⟩) 1 1 W2)
    have H2 := Lib.hid (And.intro hb2 hbx)
    clear hb1 hb2 hbx CT
    go_wp2_with fail
    rw [← hW2]
    clear hW2
    refine CO.out.mono ?_
    rintro e w3 ⟨rfl, hb3⟩
    have HO : Hid (ObjAt w #[str [102, 111, 108, 100, 101, 114], .int .i64 5, .int .i64 0, str s, .slice none 0 0, .slice none 0 0] w1.heap.size w3) := Lib.hid ⟨H2.out.1.trans (hb3.mono H2.out.1.size), box_up H2.out.2 hb3⟩
    have CP2 := Lib.hid (CP.out N w3 w1.heap.size HO)
    clear hb3 CO CP
    go_wp2_with fail
    refine (CN.out _).mono ?_
    rintro e w9 ⟨rfl, rfl⟩
    go_wp2_with fail
    refine CP2.out.mono ?_
    rintro e w4 ⟨rfl, hb4⟩
    have HX := Lib.hid hb4
    clear hb4 CP2
    go_wp2_with fail
    go_ret2
    exact ⟨rfl, HX.out⟩
end Go.Proofs.YtjnejbeeoepdnaaDoor
