/- hblref1.Parse, whole. -/
import Derived.Test.YtidlhajibjnkeaaGreatDoorRpVal
import Derived.Test.YtidlhajibjnkeaaGreatDoorJParse
namespace Go.Proofs.YtidlhajibjnkeaaGreatDoor
open Go.RowKit

set_option maxRecDepth 100000 in
set_option maxHeartbeats 8000000 in
theorem rparse_any {t : List UInt8} {vb : Value} {w : World} (hv : Rd w vb t) (hl : t.length ≤ 140737488351232) : Calls Tryz.prog 8 #[vb] w (ParJ w (parP t)) := by
  obtain ⟨a, cap, rfl, _⟩ := id hv
  obtain ⟨Wa, hWa, hba, hbx, hsz⟩ := zero_box w
  obtain ⟨R, hR⟩ : ∃ R, R = parP t := ⟨_, rfl⟩
  rw [← hR]
  by_cases hlen : 20000 < t.length
  · have hE : R = .err 3 := by rw [hR]; unfold parP; rw [if_pos hlen]
    subst hE
    have g1 : (20000 : Int) < (t.length : Int) := by omega
    have HA := Lib.hid (And.intro hba hbx)
    clear hR hba hbx hsz hlen hv
    go_enter Tryz.func8, Tryz.ntmps8
    go_upto_region 1 with fail
    rw [← hWa]
    clear hWa
    have hz := HA.out.2
    have b0 := box_cell hz 0
    have b1 := box_cell hz 1
    have b2 := box_cell hz 2
    have b3 := box_cell hz 3
    have b4 := box_cell hz 4
    have hfz := box_fr hz
    clear hz
    go_wp2_with fail
    refine bodyPost_any_world (fun W => W.heap[w.heap.size]? = some (.cells #[.int .i64 0, .int .i64 0, str [], .slice none 0 0, .slice none 0 0] 35 (0, 0)) ∧ Frm (fun i => i = w.heap.size) Wa W) (five_set HA.out.2 _ _ _ _ _) ?_
    clear b0 b1 b2 b3 b4 hfz
    rintro w9 ⟨h9, hf9⟩
    have k0 := box_cell h9 0
    have k1 := box_cell h9 1
    have k2 := box_cell h9 2
    have k3 := box_cell h9 3
    have k4 := box_cell h9 4
    refine bodyPost_ret (v := .tuple #[.agg #[.int .i64 0, .int .i64 0, str [], .slice none 0 0, .slice none 0 0], .int .i64 3]) (by simp [results, Tryz.results8, go_sem, k0, k1, k2, k3, k4]) rfl ?_
    exact ⟨rfl, by decide, ((Frm.of_below (F := fun i => i = w.heap.size) HA.out.1).trans hf9 (fun i hi e => e)).below (Nat.le_refl _) (fun i h => by omega)⟩
  · have g1 : ¬ (20000 : Int) < (t.length : Int) := by omega
    have hconv := bt.toString (w := Wa) Tryz.underlying9 (hv.below hba (Nat.le_refl _))
    have HL : Hid (t.length ≤ 20000) := Lib.hid (by omega)
    have HR : Hid (R = match valP t 64 0 with
      | .err e => .err e
      | .ok v q => if skp t q < t.length then .err 4 else .ok v t.length) := Lib.hid (by rw [hR]; unfold parP; rw [if_neg hlen]; rfl)
    obtain ⟨V, hV⟩ : ∃ V, V = valP t 64 0 := ⟨_, rfl⟩
    rw [← hV] at HR
    have HV := Lib.hid hV
    have HA := Lib.hid (And.intro hba (And.intro hbx hsz))
    clear hR hV hba hbx hsz hlen hv
    go_enter Tryz.func8, Tryz.ntmps8
    go_upto_region 1 with fail
    rw [← hWa]
    clear hWa
    go_upto_region 4 with fail
    refine wp_any_world (fun W => JRb W Wa.heap.size t 0 0 ∧ Below Wa.heap.size Wa W) ⟨JRb.made Wa t 0 0 rfl rfl 70, below_alloc _ _⟩ ?_
    clear hconv
    rintro Wb ⟨hj, hbb⟩
    have HB : Hid (Below w.heap.size w Wb ∧ Wb.heap[w.heap.size]? = some (.cells #[.int .i64 0, .int .i64 0, str [], .slice none 0 0, .slice none 0 0] 35 (0, 0)) ∧ w.heap.size < Wa.heap.size ∧ Wa.heap.size < Wb.heap.size) := Lib.hid ⟨HA.out.1.trans (hbb.mono HA.out.1.size), box_up HA.out.2.1 hbb, by have := HA.out.2.2; omega, hj.lt⟩
    have CV := Lib.hid (rvalue_any t Wa.heap.size HL.out 64 0 0 Wb hj (Nat.zero_le _) rfl)
    obtain ⟨b, hb⟩ : ∃ b, b = Wa.heap.size := ⟨_, rfl⟩
    rw [← hb] at CV HB ⊢
    clear hj hbb hb HA
    go_wp2_with fail
    refine CV.out.mono ?_
    rintro e w1 ⟨v, cs, q, x, rfl, hv1, hs1, hq, hres⟩
    rw [← HV.out] at hres
    obtain ⟨al, ll, cl, am, lm, cm, rfl, _, _⟩ := hv1.open
    have hz1 := box_frm HB.out.2.1 hs1.2 (by have := HB.out; omega)
    have H1 := Lib.hid (And.intro hs1 (And.intro hz1 (And.intro hv1 (And.intro hq hres))))
    clear hs1 hz1 hv1 hq hres CV HV
    go_upto_region 5 with fail
    refine wp_any_world (fun W => Below w1.heap.size w1 W ∧ W.heap[w1.heap.size]? = some (.cells #[.int .i64 v.kind, .int .i64 v.n, str v.s, .slice al ll cl, .slice am lm cm] 35 (0, 0))) ⟨below_alloc _ _, heap_alloc_new _ _⟩ ?_
    rintro w2 ⟨hb2, hx2⟩
    have CB := Lib.hid (rskip_any t b q x w2 (H1.out.1.1.below hb2) H1.out.2.2.2.1 (by have := HL.out; omega))
    have H2 : Hid (JSt Wb b t q x w2 ∧ w2.heap[w.heap.size]? = some (.cells #[.int .i64 0, .int .i64 0, str [], .slice none 0 0, .slice none 0 0] 35 (0, 0)) ∧ w2.heap[w1.heap.size]? = some (.cells #[.int .i64 v.kind, .int .i64 v.n, str v.s, .slice al ll cl, .slice am lm cm] 35 (0, 0)) ∧ RdJ w2 (fun i => b < i ∧ i < w1.heap.size) v [.int .i64 v.kind, .int .i64 v.n, str v.s, .slice al ll cl, .slice am lm cm] ∧ b < w1.heap.size) := Lib.hid ⟨H1.out.1.below hb2, box_up H1.out.2.1 hb2, hx2, by
      have hbs := HB.out.2.2.2
      exact ((H1.out.2.2.1.mono (G := fun i => b < i ∧ i < w1.heap.size) (fun i hi hF => ⟨by have : Wb.heap.size ≤ i := hF; omega, hi⟩)).up hb2), by have := HB.out.2.2.2; have := H1.out.1.2.size; omega⟩
    have HQ := Lib.hid (And.intro H1.out.2.2.2.1 H1.out.2.2.2.2)
    clear hb2 hx2 H1
    go_wp2_with fail
    refine CB.out.mono ?_
    rintro e w3 ⟨rfl, hs3⟩
    have H3 : Hid (JSt Wb b t (skp t q) x w3 ∧ w3.heap[w.heap.size]? = some (.cells #[.int .i64 0, .int .i64 0, str [], .slice none 0 0, .slice none 0 0] 35 (0, 0)) ∧ w3.heap[w1.heap.size]? = some (.cells #[.int .i64 v.kind, .int .i64 v.n, str v.s, .slice al ll cl, .slice am lm cm] 35 (0, 0)) ∧ RdJ w3 (fun i => b < i ∧ i < w1.heap.size) v [.int .i64 v.kind, .int .i64 v.n, str v.s, .slice al ll cl, .slice am lm cm] ∧ b < w1.heap.size) :=
      Lib.hid ⟨H2.out.1.trans hs3, box_frm H2.out.2.1 hs3.2 (by have := HB.out; omega), box_frm H2.out.2.2.1 hs3.2 (by have := H2.out.2.2.2.2; omega), H2.out.2.2.2.1.frm hs3.2 (fun i hi e => by omega), H2.out.2.2.2.2⟩
    clear hs3 CB H2
    obtain ⟨z, hz⟩ : ∃ z, z = skp t q := ⟨_, rfl⟩
    rw [← hz] at H3
    have HZ := Lib.hid hz
    have hzl : z ≤ t.length := by rw [hz]; exact skp_le t HQ.out.1
    clear hz
    have c0 := H3.out.1.1.c0
    have c1 := H3.out.1.1.c1
    have c2 := H3.out.1.1.c2
    have z0 : (0 : Int) ≤ (z : Int) := by omega
    by_cases hx : x = 0
    · subst hx
      have e0 : (((0 : Nat) : Int) == 0) = true := rfl
      by_cases hzt : z < t.length
      · have g2 : (z : Int) < (t.length : Int) := by omega
        have HE : Hid (R = .err 4) := Lib.hid (by
          rw [HR.out]
          have h := HQ.out.2
          cases V with
          | err c => exact absurd h.1.symm h.2
          | ok v0 q0 =>
            obtain ⟨rfl, rfl, _⟩ := h
            dsimp only
            rw [← HZ.out, if_pos hzt])
        clear hzt
        go_wp2_with fail
        go_quiet (fail)
        go_wp2_with fail
        refine (rfail_first 4 (H3.out.1.drewN _).1).mono ?_
        rintro e w4 ⟨rfl, hs4⟩
        have H4 : Hid (JSt Wb b t z 4 w4 ∧ w4.heap[w.heap.size]? = some (.cells #[.int .i64 0, .int .i64 0, str [], .slice none 0 0, .slice none 0 0] 35 (0, 0))) := Lib.hid ⟨(H3.out.1.drewN _).trans hs4, box_frm (box_up H3.out.2.1 (Below.drewsN (Below.refl _ _) _)) hs4.2 (by have := HB.out; omega)⟩
        have HY : Hid (4 ≠ 0 ∧ R = .err 4) := Lib.hid ⟨by decide, HE.out⟩
        clear c0 c1 c2 hs4 H3
        have c2 := H4.out.1.1.c2
        have e1 : (((4 : Nat) : Int) != 0) = true := rfl
        go_upto_region 9 with fail
        obtain ⟨wc, hwc⟩ : ∃ x, x = w4.drew := ⟨_, rfl⟩
        have H5 : Hid (JSt Wb b t z 4 wc ∧ wc.heap[w.heap.size]? = some (.cells #[.int .i64 0, .int .i64 0, str [], .slice none 0 0, .slice none 0 0] 35 (0, 0))) := Lib.hid (by rw [hwc]; exact ⟨H4.out.1.drewN 1, box_up H4.out.2 (Below.drewsN (Below.refl _ _) 1)⟩)
        refine wp_region_held_drew (S := (fun W => W.cell? ⟨b, 2, none⟩ = some (.int .i64 ((4 : Nat) : Int)))) (by kernel_rfl) (by rw [← hwc]; exact H5.out.1.1.c2) (fun hHeld => ?_)
        rw [← hwc] at hHeld ⊢
        clear hwc c2
        have hz := H5.out.2
        have b0 := box_cell hz 0
        have b1 := box_cell hz 1
        have b2 := box_cell hz 2
        have b3 := box_cell hz 3
        have b4 := box_cell hz 4
        have hfz := box_fr hz
        clear hz
        refine wpAnyH_take (i := 0) (v := ?v1) rfl (by kernel_rfl) (by kernel_rfl) (by kernel_rfl) (fun _ _ _ h => h) (Or.inl ⟨by rfl, ?hy1⟩) (by assumption) ?_
        case hy1 => (intro w hSw; clear hSw; go_simp; try with_reducible rfl)
        go_simp
        refine wpAnyH_take (i := 1) (v := ?v2) rfl (by kernel_rfl) (by kernel_rfl) (by kernel_rfl) (fun _ _ _ h => h) (Or.inl ⟨by rfl, ?hy2⟩) (by assumption) ?_
        case hy2 => (intro w hSw; clear hSw; go_simp; try with_reducible rfl)
        go_simp
        refine wpAnyH_take (i := 2) (v := ?v3) rfl (by kernel_rfl) (by kernel_rfl) (by kernel_rfl) (fun _ _ _ h => h) (Or.inl ⟨by rfl, ?hy3⟩) (by assumption) ?_
        case hy3 => (intro w hSw; clear hSw; go_simp; try with_reducible rfl)
        go_simp
        refine wpAnyH_take (i := 3) (v := ?v4) rfl (by kernel_rfl) (by kernel_rfl) (by kernel_rfl) (fun _ _ _ h => h) (Or.inl ⟨by rfl, ?hy4⟩) (by assumption) ?_
        case hy4 => (intro w hSw; clear hSw; go_simp; try with_reducible rfl)
        go_simp
        refine wpAnyH_take (i := 4) (v := ?v5) rfl (by kernel_rfl) (by kernel_rfl) (by kernel_rfl) (fun _ _ _ h => h) (Or.inl ⟨by rfl, ?hy5⟩) (by assumption) ?_
        case hy5 => (intro w hSw; have hs0 := hSw; go_simp; try with_reducible rfl)
        go_simp
        refine wpAnyH_ready (rs := [5]) (by kernel_rfl) (by simp) (AllReadyH.cons rfl (fun K hK => ?_) AllReadyH.nil)
        go_simp
        have HF5 := five_set H5.out.2 (.int .i64 0) (.int .i64 0) (str []) (.slice none 0 0) (.slice none 0 0)
        generalize (((((wc.setCell ⟨w.heap.size, 0, none⟩ (.int .i64 0)).setCell ⟨w.heap.size, 1, none⟩ (.int .i64 0)).setCell ⟨w.heap.size, 2, none⟩ (str [])).setCell ⟨w.heap.size, 3, none⟩ (.slice none 0 0)).setCell ⟨w.heap.size, 4, none⟩ (.slice none 0 0)) = wg at HF5 ⊢
        obtain ⟨h9, hf9⟩ := HF5
        have H9 := Lib.hid (And.intro h9 hf9)
        clear h9 hf9 b0 b1 b2 b3 b4 hfz
        refine hK.out _ _ (by have h := cell_frm H9.out.2 (b := b) (off := 2) (by have := HB.out; omega) H5.out.1.1.c2; exact h) (fun hHeld => ?_)
        clear hK K
        refine wpAnyH_take (i := 6) (v := ?v6) rfl (by kernel_rfl) (by kernel_rfl) (by kernel_rfl) (fun _ _ _ h => h) (Or.inl ⟨by rfl, ?hy6⟩) (by assumption) ?_
        case hy6 => (intro w hSw; clear hSw; go_simp; try with_reducible rfl)
        go_simp
        refine wpAnyH_done (by kernel_rfl) ?_ _
        obtain ⟨h9, hf9⟩ := H9.out
        have k0 := box_cell h9 0
        have k1 := box_cell h9 1
        have k2 := box_cell h9 2
        have k3 := box_cell h9 3
        have k4 := box_cell h9 4
        have HX9 := Lib.hid hf9
        clear h9 hf9
        go_wp2_with fail
        refine bodyPost_ret (v := .tuple #[.agg #[.int .i64 0, .int .i64 0, str [], .slice none 0 0, .slice none 0 0], .int .i64 ((4 : Nat) : Int)]) (by simp [results, Tryz.results8, go_sem, k0, k1, k2, k3, k4]) rfl ?_
        rw [HY.out.2]
        exact ⟨rfl, HY.out.1, ((Frm.of_below (F := fun i => i = b ∨ i = w.heap.size) HB.out.1).trans ((H5.out.1.2.mono (G := fun i => i = b ∨ i = w.heap.size) (fun _ _ h => .inl h)).trans HX9.out (fun _ _ e => .inr e)) (fun _ _ e => e)).below (Nat.le_refl _) (fun i h => by have := HB.out; omega)⟩
      · obtain rfl : z = t.length := by omega
        have g2 : ¬ (t.length : Int) < (t.length : Int) := by omega
        have g3 : decide ((t.length : Int) < (t.length : Int)) = false := decide_eq_false (by omega)
        have e1 : (((0 : Nat) : Int) != 0) = false := rfl
        have HE : Hid (R = .ok v t.length) := Lib.hid (by
          rw [HR.out]
          have h := HQ.out.2
          cases V with
          | err c => exact absurd h.1.symm h.2
          | ok v0 q0 =>
            obtain ⟨rfl, rfl, _⟩ := h
            dsimp only
            rw [← HZ.out, if_neg hzt])
        clear hzt hzl
        go_wp2_with fail
        go_quiet (fail)
        have H4 : Hid (JSt Wb b t t.length 0 (w3.drewN nq) ∧ (w3.drewN nq).heap[w.heap.size]? = some (.cells #[.int .i64 0, .int .i64 0, str [], .slice none 0 0, .slice none 0 0] 35 (0, 0)) ∧ (w3.drewN nq).heap[w1.heap.size]? = some (.cells #[.int .i64 v.kind, .int .i64 v.n, str v.s, .slice al ll cl, .slice am lm cm] 35 (0, 0)) ∧ RdJ (w3.drewN nq) (fun i => b < i ∧ i < w1.heap.size) v [.int .i64 v.kind, .int .i64 v.n, str v.s, .slice al ll cl, .slice am lm cm]) :=
          Lib.hid ⟨H3.out.1.drewN _, box_up H3.out.2.1 (Below.drewsN (Below.refl _ _) _), box_up H3.out.2.2.1 (Below.drewsN (Below.refl _ _) _), H3.out.2.2.2.1.up (Below.drewsN (Below.refl _ _) _)⟩
        generalize w3.drewN nq = w4 at *
        clear c0 c1 c2
        have c2 := H4.out.1.1.c2
        have hx4 := H4.out.2.2.1
        have x0 := box_cell hx4 0
        have x1 := box_cell hx4 1
        have x2 := box_cell hx4 2
        have x3 := box_cell hx4 3
        have x4 := box_cell hx4 4
        have hz := H4.out.2.1
        have b0 := box_cell hz 0
        have b1 := box_cell hz 1
        have b2 := box_cell hz 2
        have b3 := box_cell hz 3
        have b4 := box_cell hz 4
        have hfz := box_fr hz
        clear hz hx4
        go_wp2_with fail
        refine bodyPost_any_world (fun W => W.heap[w.heap.size]? = some (.cells #[.int .i64 v.kind, .int .i64 v.n, str v.s, .slice al ll cl, .slice am lm cm] 35 (0, 0)) ∧ Frm (fun i => i = w.heap.size) w4 W) (five_set H4.out.2.1 _ _ _ _ _) ?_
        clear b0 b1 b2 b3 b4 hfz
        rintro w9 ⟨h9, hf9⟩
        have k0 := box_cell h9 0
        have k1 := box_cell h9 1
        have k2 := box_cell h9 2
        have k3 := box_cell h9 3
        have k4 := box_cell h9 4
        refine bodyPost_ret (v := .tuple #[.agg #[.int .i64 v.kind, .int .i64 v.n, str v.s, .slice al ll cl, .slice am lm cm], .int .i64 0]) (by simp [results, Tryz.results8, go_sem, k0, k1, k2, k3, k4]) rfl ?_
        rw [HE.out]
        exact ⟨_, rfl, (H4.out.2.2.2.frm hf9 (fun i hi e => by have := HB.out; omega)).mono (fun i _ hi => by have := HB.out; omega), ((Frm.of_below (F := fun i => i = b ∨ i = w.heap.size) HB.out.1).trans ((H4.out.1.2.mono (G := fun i => i = b ∨ i = w.heap.size) (fun _ _ h => .inl h)).trans hf9 (fun _ _ e => .inr e)) (fun _ _ e => e)).below (Nat.le_refl _) (fun i h => by have := HB.out; omega)⟩
    · have e0 : ((x : Int) == 0) = false := by rw [beq_eq_false_iff_ne]; omega
      have e1 : ((x : Int) != 0) = true := by rw [bne_iff_ne]; omega
      have HY : Hid (x ≠ 0 ∧ R = .err x) := Lib.hid ⟨hx, by
        rw [HR.out]
        have h := HQ.out.2
        cases V with
        | err c => rw [h.1]
        | ok v0 q0 => exact absurd h.2.2 hx⟩
      clear hx
      go_wp2_with fail
      go_quiet (fail)
      have H4 : Hid (JSt Wb b t z x (w3.drewN nq) ∧ (w3.drewN nq).heap[w.heap.size]? = some (.cells #[.int .i64 0, .int .i64 0, str [], .slice none 0 0, .slice none 0 0] 35 (0, 0))) := Lib.hid ⟨H3.out.1.drewN _, box_up H3.out.2.1 (Below.drewsN (Below.refl _ _) _)⟩
      generalize w3.drewN nq = w4 at *
      clear c0 c1 c2 H3
      have c2 := H4.out.1.1.c2
      go_upto_region 9 with fail
      obtain ⟨wc, hwc⟩ : ∃ x, x = w4.drew := ⟨_, rfl⟩
      have H5 : Hid (JSt Wb b t z x wc ∧ wc.heap[w.heap.size]? = some (.cells #[.int .i64 0, .int .i64 0, str [], .slice none 0 0, .slice none 0 0] 35 (0, 0))) := Lib.hid (by rw [hwc]; exact ⟨H4.out.1.drewN 1, box_up H4.out.2 (Below.drewsN (Below.refl _ _) 1)⟩)
      refine wp_region_held_drew (S := (fun W => W.cell? ⟨b, 2, none⟩ = some (.int .i64 ((x : Nat) : Int)))) (by kernel_rfl) (by rw [← hwc]; exact H5.out.1.1.c2) (fun hHeld => ?_)
      rw [← hwc] at hHeld ⊢
      clear hwc c2
      have hz := H5.out.2
      have b0 := box_cell hz 0
      have b1 := box_cell hz 1
      have b2 := box_cell hz 2
      have b3 := box_cell hz 3
      have b4 := box_cell hz 4
      have hfz := box_fr hz
      clear hz
      refine wpAnyH_take (i := 0) (v := ?v7) rfl (by kernel_rfl) (by kernel_rfl) (by kernel_rfl) (fun _ _ _ h => h) (Or.inl ⟨by rfl, ?hy7⟩) (by assumption) ?_
      case hy7 => (intro w hSw; clear hSw; go_simp; try with_reducible rfl)
      go_simp
      refine wpAnyH_take (i := 1) (v := ?v8) rfl (by kernel_rfl) (by kernel_rfl) (by kernel_rfl) (fun _ _ _ h => h) (Or.inl ⟨by rfl, ?hy8⟩) (by assumption) ?_
      case hy8 => (intro w hSw; clear hSw; go_simp; try with_reducible rfl)
      go_simp
      refine wpAnyH_take (i := 2) (v := ?v9) rfl (by kernel_rfl) (by kernel_rfl) (by kernel_rfl) (fun _ _ _ h => h) (Or.inl ⟨by rfl, ?hy9⟩) (by assumption) ?_
      case hy9 => (intro w hSw; clear hSw; go_simp; try with_reducible rfl)
      go_simp
      refine wpAnyH_take (i := 3) (v := ?v10) rfl (by kernel_rfl) (by kernel_rfl) (by kernel_rfl) (fun _ _ _ h => h) (Or.inl ⟨by rfl, ?hy10⟩) (by assumption) ?_
      case hy10 => (intro w hSw; clear hSw; go_simp; try with_reducible rfl)
      go_simp
      refine wpAnyH_take (i := 4) (v := ?v11) rfl (by kernel_rfl) (by kernel_rfl) (by kernel_rfl) (fun _ _ _ h => h) (Or.inl ⟨by rfl, ?hy11⟩) (by assumption) ?_
      case hy11 => (intro w hSw; have hs0 := hSw; go_simp; try with_reducible rfl)
      go_simp
      refine wpAnyH_ready (rs := [5]) (by kernel_rfl) (by simp) (AllReadyH.cons rfl (fun K hK => ?_) AllReadyH.nil)
      go_simp
      have HF5 := five_set H5.out.2 (.int .i64 0) (.int .i64 0) (str []) (.slice none 0 0) (.slice none 0 0)
      generalize (((((wc.setCell ⟨w.heap.size, 0, none⟩ (.int .i64 0)).setCell ⟨w.heap.size, 1, none⟩ (.int .i64 0)).setCell ⟨w.heap.size, 2, none⟩ (str [])).setCell ⟨w.heap.size, 3, none⟩ (.slice none 0 0)).setCell ⟨w.heap.size, 4, none⟩ (.slice none 0 0)) = wg at HF5 ⊢
      obtain ⟨h9, hf9⟩ := HF5
      have H9 := Lib.hid (And.intro h9 hf9)
      clear h9 hf9 b0 b1 b2 b3 b4 hfz
      refine hK.out _ _ (by have h := cell_frm H9.out.2 (b := b) (off := 2) (by have := HB.out; omega) H5.out.1.1.c2; exact h) (fun hHeld => ?_)
      clear hK K
      refine wpAnyH_take (i := 6) (v := ?v12) rfl (by kernel_rfl) (by kernel_rfl) (by kernel_rfl) (fun _ _ _ h => h) (Or.inl ⟨by rfl, ?hy12⟩) (by assumption) ?_
      case hy12 => (intro w hSw; clear hSw; go_simp; try with_reducible rfl)
      go_simp
      refine wpAnyH_done (by kernel_rfl) ?_ _
      obtain ⟨h9, hf9⟩ := H9.out
      have k0 := box_cell h9 0
      have k1 := box_cell h9 1
      have k2 := box_cell h9 2
      have k3 := box_cell h9 3
      have k4 := box_cell h9 4
      have HX9 := Lib.hid hf9
      clear h9 hf9
      go_wp2_with fail
      refine bodyPost_ret (v := .tuple #[.agg #[.int .i64 0, .int .i64 0, str [], .slice none 0 0, .slice none 0 0], .int .i64 ((x : Nat) : Int)]) (by simp [results, Tryz.results8, go_sem, k0, k1, k2, k3, k4]) rfl ?_
      rw [HY.out.2]
      exact ⟨rfl, HY.out.1, ((Frm.of_below (F := fun i => i = b ∨ i = w.heap.size) HB.out.1).trans ((H5.out.1.2.mono (G := fun i => i = b ∨ i = w.heap.size) (fun _ _ h => .inl h)).trans HX9.out (fun _ _ e => .inr e)) (fun _ _ e => e)).below (Nat.le_refl _) (fun i h => by have := HB.out; omega)⟩
end Go.Proofs.YtidlhajibjnkeaaGreatDoor
