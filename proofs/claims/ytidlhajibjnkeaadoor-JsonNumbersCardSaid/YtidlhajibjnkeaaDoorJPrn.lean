/- JSON: appendValue, Print. -/
import Derived.Test.YtidlhajibjnkeaaDoorJPrint
namespace Go.Proofs.YtidlhajibjnkeaaDoor
open Go.RowKit

set_option maxRecDepth 100000 in
set_option maxHeartbeats 8000000 in
theorem app_step (v : JV) (IHL : ∀ x ∈ v.l, AppC x) (IHM : ∀ x ∈ v.m, AppC x.2) : AppC v := by
  intro d F w cs vb out base hm h hF hown hb hl ht
  obtain ⟨al, ll, cl, am, lm, cm, rfl, ⟨rl, hrl, hll, rfl⟩, rm, hrm, hmm, rfl⟩ := h.open
  clear h
  obtain ⟨ad, n0, cp, rfl⟩ := hown.form
  rw [mayV_mk] at hm
  obtain ⟨k, n, s, l, m⟩ := v
  dsimp only [JV.kind, JV.n, JV.s, JV.l, JV.m] at *
  simp only [Bool.and_eq_true, decide_eq_true_eq] at hm
  have hk : k = 1 ∨ k = 2 ∨ k = 3 ∨ k = 4 ∨ k = 5 ∨ k = 6 ∨ k = 7 := by
    have h1 := of_decide_eq_true hm.1.1.1.1.2
    have h2 := of_decide_eq_true hm.1.1.1.2
    omega
  have HO := Lib.hid hown
  clear hown
  rcases hk with rfl | rfl | rfl | rfl | rfl | rfl | rfl
  · have e1 : prV (.mk 1 n s l m) = [110, 117, 108, 108] := rfl
    rw [e1] at hl ⊢
    clear e1 ht hF hrl hll hrm hmm IHL IHM hm
    go_enter Tryd.func19, Tryd.ntmps19
    go_wp2_with (at_builtin; refine hold ?_)
    intro _
    refine bt.appendT Tryd.underlying9 rfl _ _ rfl base _ out [110, 117, 108, 108] (HO.out.alloc _) rfl rfl (by simp at hl ⊢; omega) (by simp; omega) ?_
    intro v2 w2 hown2 hg2
    have HX := Lib.hid (And.intro hown2 ((Kp.alloc _ hb).trans (Kp.grown (HO.out.alloc _) hg2 (Nat.le_refl _) (by simp; omega))))
    clear hg2 hown2
    go_wp2_with fail
    go_ret
    exact ⟨_, rfl, HX.out.1, HX.out.2⟩
  · have e1 : prV (.mk 2 n s l m) = [102, 97, 108, 115, 101] := rfl
    rw [e1] at hl ⊢
    clear e1 ht hF hrl hll hrm hmm IHL IHM hm
    go_enter Tryd.func19, Tryd.ntmps19
    go_wp2_with (at_builtin; refine hold ?_)
    intro _
    refine bt.appendT Tryd.underlying9 rfl _ _ rfl base _ out [102, 97, 108, 115, 101] (HO.out.alloc _) rfl rfl (by simp at hl ⊢; omega) (by simp; omega) ?_
    intro v2 w2 hown2 hg2
    have HX := Lib.hid (And.intro hown2 ((Kp.alloc _ hb).trans (Kp.grown (HO.out.alloc _) hg2 (Nat.le_refl _) (by simp; omega))))
    clear hg2 hown2
    go_wp2_with fail
    go_ret
    exact ⟨_, rfl, HX.out.1, HX.out.2⟩
  · have e1 : prV (.mk 3 n s l m) = [116, 114, 117, 101] := rfl
    rw [e1] at hl ⊢
    clear e1 ht hF hrl hll hrm hmm IHL IHM hm
    go_enter Tryd.func19, Tryd.ntmps19
    go_wp2_with (at_builtin; refine hold ?_)
    intro _
    refine bt.appendT Tryd.underlying9 rfl _ _ rfl base _ out [116, 114, 117, 101] (HO.out.alloc _) rfl rfl (by simp at hl ⊢; omega) (by simp; omega) ?_
    intro v2 w2 hown2 hg2
    have HX := Lib.hid (And.intro hown2 ((Kp.alloc _ hb).trans (Kp.grown (HO.out.alloc _) hg2 (Nat.le_refl _) (by simp; omega))))
    clear hg2 hown2
    go_wp2_with fail
    go_ret
    exact ⟨_, rfl, HX.out.1, HX.out.2⟩
  · have e1 : prV (.mk 4 n s l m) = Lib.itoa n := rfl
    rw [e1] at hl ⊢
    have hfit := hm.1.1.2
    simp only [fitV, Bool.and_eq_true, decide_eq_true_eq] at hfit
    have hn1 : -9007199254740991 ≤ n := hfit.1.1.1.1.1.2
    have hn2 : n ≤ 9007199254740991 := hfit.1.1.1.1.2
    have CI := Lib.hid (Tryd.strconv_AppendInt_10 base out.length n (by omega) (by omega) (.slice ad n0 cp) (out.map bv) _ (HO.out.alloc (.cells #[.int .i64 4, .int .i64 n, str s, .slice al l.length cl, .slice am m.length cm] 25)) (by simp; omega) (by omega) (ht.on (Kp.alloc _ hb).1))
    clear e1 ht hF hrl hll hrm hmm IHL IHM hm hfit hn1 hn2
    go_enter Tryd.func19, Tryd.ntmps19
    go_wp2_with fail
    refine CI.out.mono ?_
    rintro e w2 ⟨v2, rfl, hown2, hb2, hk2⟩
    have HX : Hid (Own 5 w2 base v2 (out ++ Lib.itoa n) ∧ Kp base w w2) := Lib.hid ⟨by
      unfold Own
      have e2 : Lib.byteCells (Lib.itoa n) = (Lib.itoa n).map bv := rfl
      rw [e2] at hown2
      simpa using hown2, (Kp.alloc _ hb).trans ⟨hb2, hk2⟩⟩
    clear hown2 hb2 hk2 CI
    go_wp2_with fail
    go_ret
    exact ⟨_, rfl, HX.out.1, HX.out.2⟩
  · have e1 : prV (.mk 5 n s l m) = quo s := rfl
    rw [e1] at hl ⊢
    have hfit := hm.1.1.2
    simp only [fitV, Bool.and_eq_true, decide_eq_true_eq] at hfit
    have hx : txF s = true := hfit.1.1.2
    have CI := Lib.hid (appText_any s out (.slice ad n0 cp) base _ hx (HO.out.alloc (.cells #[.int .i64 5, .int .i64 n, str s, .slice al l.length cl, .slice am m.length cm] 25)) (by simp; omega) (by omega))
    clear e1 ht hF hrl hll hrm hmm IHL IHM hm hfit hx
    go_enter Tryd.func19, Tryd.ntmps19
    go_wp2_with fail
    refine CI.out.mono ?_
    rintro e w2 ⟨v2, rfl, hown2, hk2⟩
    have HX := Lib.hid (And.intro hown2 ((Kp.alloc _ hb).trans hk2))
    clear hown2 hk2 CI
    go_wp2_with fail
    go_ret
    exact ⟨_, rfl, HX.out.1, HX.out.2⟩
  · have e1 : prV (.mk 6 n s l m) = 91 :: ((prT l).drop 1 ++ [93]) := rfl
    rw [e1] at hl ⊢
    have ka : Kp base w (w.alloc (.cells #[.int .i64 6, .int .i64 n, str s, .slice al l.length cl, .slice am m.length cm] 25)) := Kp.alloc _ hb
    have hg : ∀ i, F i → ¬ (base ≤ i) := fun i hi e => by have := hF i hi; omega
    have fr : Frm (fun i => base ≤ i) w (w.alloc (.cells #[.int .i64 6, .int .i64 n, str s, .slice al l.length cl, .slice am m.length cm] 25)) := Frm.of_below (below_alloc _ _)
    have CI := Lib.hid (appList_any l IHL (d - 1) F _ al cl _ (.slice ad n0 cp) out base hm.1.2 (hrl.frm fr hg) (hll.frm fr hg) hF (HO.out.alloc _) (by simp; omega) hl (ht.on ka.1))
    clear e1 ht hF hrl hll hrm hmm IHL IHM hm ka hg fr
    go_enter Tryd.func19, Tryd.ntmps19
    go_wp2_with fail
    refine CI.out.mono ?_
    rintro e w2 ⟨v2, rfl, hown2, hk2⟩
    have HX := Lib.hid (And.intro hown2 ((Kp.alloc _ hb).trans hk2))
    clear hown2 hk2 CI
    go_wp2_with fail
    go_ret
    exact ⟨_, rfl, HX.out.1, HX.out.2⟩
  · have e1 : prV (.mk 7 n s l m) = 123 :: ((prU m).drop 1 ++ [125]) := rfl
    rw [e1] at hl ⊢
    have ka : Kp base w (w.alloc (.cells #[.int .i64 7, .int .i64 n, str s, .slice al l.length cl, .slice am m.length cm] 25)) := Kp.alloc _ hb
    have hg : ∀ i, F i → ¬ (base ≤ i) := fun i hi e => by have := hF i hi; omega
    have fr : Frm (fun i => base ≤ i) w (w.alloc (.cells #[.int .i64 7, .int .i64 n, str s, .slice al l.length cl, .slice am m.length cm] 25)) := Frm.of_below (below_alloc _ _)
    have CI := Lib.hid (appObj_any m IHM (d - 1) none F _ am cm _ (.slice ad n0 cp) out base hm.2 (hrm.frm fr hg) (hmm.frm fr hg) hF (HO.out.alloc _) (by simp; omega) hl (ht.on ka.1))
    clear e1 ht hF hrl hll hrm hmm IHL IHM hm ka hg fr
    go_enter Tryd.func19, Tryd.ntmps19
    go_wp2_with fail
    refine CI.out.mono ?_
    rintro e w2 ⟨v2, rfl, hown2, hk2⟩
    have HX := Lib.hid (And.intro hown2 ((Kp.alloc _ hb).trans hk2))
    clear hown2 hk2 CI
    go_wp2_with fail
    go_ret
    exact ⟨_, rfl, HX.out.1, HX.out.2⟩
theorem appValue_any (v : JV) : AppC v := JV.ind app_step v
theorem print_no {F : Nat → Prop} {w : World} {v : JV} {cs : List Value} (h : RdJ w F v cs) (hm : mayV v 64 = false) :
    Calls Tryd.prog 10 #[.agg cs.toArray] w fun e w' => e = .returned (.tuple #[.slice none 0 0, .int .i64 4]) ∧ Below w.heap.size w w' := by
  obtain ⟨al, ll, cl, am, lm, cm, rfl, _, _⟩ := h.open
  have CM := Lib.hid (jmay_any (h.up (below_alloc w (.cells #[.int .i64 v.kind, .int .i64 v.n, str v.s, .slice al ll cl, .slice am lm cm] 25))))
  rw [hm] at CM
  clear h hm
  go_enter Tryd.func10, Tryd.ntmps10
  go_wp2_with fail
  refine CM.out.mono ?_
  rintro e w1 ⟨rfl, hb⟩
  have HX := Lib.hid ((below_alloc w _).trans (hb.mono (by simp)))
  clear hb CM
  go_wp2_with fail
  go_ret2
  exact ⟨rfl, HX.out⟩
theorem print_yes {F : Nat → Prop} {w : World} {v : JV} {cs : List Value} (h : RdJ w F v cs) (hm : mayV v 64 = true) (hl : (prV v).length ≤ 70368744177664) (ht : TabJ w.heap.size w) :
    Calls Tryd.prog 10 #[.agg cs.toArray] w fun e w' => ∃ v', e = .returned (.tuple #[v', .int .i64 0]) ∧ Own 5 w' w.heap.size v' (prV v) ∧ Below w.heap.size w w' := by
  obtain ⟨al, ll, cl, am, lm, cm, rfl, _, _⟩ := h.open
  have CM := Lib.hid (jmay_any (h.up (below_alloc w (.cells #[.int .i64 v.kind, .int .i64 v.n, str v.s, .slice al ll cl, .slice am lm cm] 25))))
  rw [hm] at CM
  have hh := h.mono (G := fun i => i < w.heap.size) (fun i hi _ => hi)
  have HJ := Lib.hid (And.intro hh (And.intro hm (And.intro hl ht)))
  clear h hm hh hl ht
  go_enter Tryd.func10, Tryd.ntmps10
  go_wp2_with fail
  refine CM.out.mono ?_
  rintro e w1 ⟨rfl, hb⟩
  have hb1 := (below_alloc w (.cells #[.int .i64 v.kind, .int .i64 v.n, str v.s, .slice al ll cl, .slice am lm cm] 25)).trans (hb.mono (by simp))
  have hx := box_up (heap_alloc_new w (.cells #[.int .i64 v.kind, .int .i64 v.n, str v.s, .slice al ll cl, .slice am lm cm] 25)) hb
  have b0 := box_cell hx 0
  have b1 := box_cell hx 1
  have b2 := box_cell hx 2
  have b3 := box_cell hx 3
  have b4 := box_cell hx 4
  have CA := Lib.hid (appValue_any v 64 (fun i => i < w.heap.size) w1 _ (.slice none 0 0) [] w.heap.size HJ.out.2.1 (HJ.out.1.up hb1) (fun _ h => h) (Own.nil _ _ _) hb1.size (by simpa using HJ.out.2.2.1) (HJ.out.2.2.2.on hb1))
  have HB1 := Lib.hid hb1
  clear hb hx hb1 CM
  go_wp2_with fail
  refine CA.out.mono ?_
  rintro e w2 ⟨v2, rfl, hown, hk⟩
  have HX := Lib.hid (And.intro hown (HB1.out.trans hk.1))
  clear hown hk CA b0 b1 b2 b3 b4
  go_wp2_with fail
  go_ret2
  exact ⟨_, rfl, HX.out.1, HX.out.2⟩
end Go.Proofs.YtidlhajibjnkeaaDoor
