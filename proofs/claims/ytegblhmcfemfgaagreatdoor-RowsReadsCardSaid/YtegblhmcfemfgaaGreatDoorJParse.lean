import Derived.Test.YtegblhmcfemfgaaGreatDoorWTake
import Derived.Test.YtegblhmcfemfgaaGreatDoorJValue
namespace Go.Proofs.YtegblhmcfemfgaaGreatDoor
open Go.RowKit
def ParJ (w : World) (r : JR JV) (e : Ending) (w' : World) : Prop :=
 match r with
 | .err c => e = .returned (.tuple #[.agg #[.int .i64 0, .int .i64 0, str [], .slice none 0 0, .slice none 0 0], .int .i64 (c : Int)]) ∧ c ≠ 0 ∧ Below w.heap.size w w'
 | .ok v _ => ∃ cs, e = .returned (.tuple #[.agg cs.toArray, .int .i64 0]) ∧ RdJ w' (fun i => w.heap.size ≤ i) v cs ∧ Below w.heap.size w w'
set_option maxRecDepth 100000 in
set_option maxHeartbeats 2000000 in
theorem parse_any {t : List UInt8} {vb : Value} {w : World} (hv : Rd w vb t) (hl : t.length ≤ 140737488351232) : Calls Tryz.prog 57 #[vb] w (ParJ w (parP t)) := by
 obtain ⟨a, cap, rfl, _⟩ := id hv
 obtain ⟨R, hR⟩ : ∃ R, R = parP t := ⟨_, rfl⟩
 rw [← hR]
 obtain ⟨Wa, hWa⟩ : ∃ Wa, Wa = w.alloc (.cells #[.int .i64 0, .int .i64 0, .string ⟨#[]⟩, .slice none 0 0, .slice none 0 0] 72) := ⟨_, rfl⟩
 have hba : Below w.heap.size w Wa := by rw [hWa]; exact below_alloc _ _
 have hbx : Wa.heap[w.heap.size]? = some (.cells #[.int .i64 0, .int .i64 0, str [], .slice none 0 0, .slice none 0 0] 72 (0, 0)) := by rw [hWa]; exact heap_alloc_new w _
 have hmz : Wa.heap.size = w.heap.size + 1 := by rw [hWa]; simp
 by_cases hlen : 20000 < t.length
 · have hE : R = .err 3 := by rw [hR]; unfold parP; rw [if_pos hlen]
   subst hE
   have g1 : decide ((20000 : Int) < (t.length : Int)) = true := decide_eq_true (by omega)
   have HA := Lib.hid (And.intro hba hbx)
   clear hR hba hbx hmz hlen hv
   go_enter Tryz.func57, Tryz.ntmps57
   go_wp2_with fail
   rw [← hWa]
   obtain ⟨k0, k1, k2, k3, k4⟩ := box5 HA.out.2
   refine bodyPost_ret (v := .tuple #[.agg #[.int .i64 0, .int .i64 0, str [], .slice none 0 0, .slice none 0 0], .int .i64 3]) (by simp [results, Tryz.results57, go_sem, k0, k1, k2, k3, k4]) rfl ?_
   exact ⟨rfl, by decide, HA.out.1⟩
 have g1 : decide ((20000 : Int) < (t.length : Int)) = false := decide_eq_false (by omega)
 have hconv := bt.toString (w := w.alloc (.cells #[.int .i64 0, .int .i64 0, .string ⟨#[]⟩, .slice none 0 0, .slice none 0 0] 72)) Tryz.underlying9 (hv.below (below_alloc _ _) (Nat.le_refl _))
 obtain ⟨Wb, hWb⟩ : ∃ Wb, Wb = Wa.alloc (.cells #[str t, .int .i64 0, .int .i64 0] 131) := ⟨_, rfl⟩
 have hjr : JRb Wb (w.heap.size + 1) t 0 0 := by
  have := JRb.made Wa t 0 0 rfl rfl 131
  rw [hmz, ← hWb] at this
  exact this
 have hbb : Below Wa.heap.size Wa Wb := by rw [hWb]; exact below_alloc _ _
 have HB : Hid (Below w.heap.size w Wb ∧ Wb.heap[w.heap.size]? = some (.cells #[.int .i64 0, .int .i64 0, str [], .slice none 0 0, .slice none 0 0] 72 (0, 0)) ∧ Wb.heap.size = w.heap.size + 2) := Lib.hid ⟨hba.trans (hbb.mono hba.size), box_up hbx hbb, by rw [hWb]; simp [hmz]⟩
 have CV := Lib.hid (value_any t (w.heap.size + 1) (by omega) 64 0 0 Wb hjr (Nat.zero_le _) rfl)
 have HR : Hid (R = match valP t 64 0 with
  | .err e => .err e
  | .ok v q => if skp t q < t.length then .err 4 else .ok v t.length) := Lib.hid (by rw [hR]; unfold parP; rw [if_neg hlen]; rfl)
 have HL : Hid (t.length ≤ 20000) := Lib.hid (by omega)
 clear hR hba hbx hmz hlen hv hjr hbb
 obtain ⟨V, hV⟩ : ∃ V, V = valP t 64 0 := ⟨_, rfl⟩
 rw [← hV] at CV HR
 clear hV
 go_enter Tryz.func57, Tryz.ntmps57
 go_wp2_with fail
 rw [← hWa, ← hWb]
 clear hWa hWb hconv
 cases V with
 | err c =>
  refine CV.out.mono ?_
  rintro e w1 ⟨v, cs, rfl, hc, hv1, q, o', hs⟩
  obtain ⟨al, ll, cl, am, lm, cm, rfl, _, _⟩ := hv1.open
  have hc0 : ((c : Int) != 0) = true := by rw [bne_iff_ne]; omega
  have HE : Hid (R = .err c) := Lib.hid HR.out
  have H1 : Hid (Frm (fun i => w.heap.size ≤ i) w w1 ∧ w1.heap[w.heap.size]? = some (.cells #[.int .i64 0, .int .i64 0, str [], .slice none 0 0, .slice none 0 0] 72 (0, 0)) ∧ c ≠ 0 ∧ w.heap.size < w1.heap.size) := Lib.hid ⟨(Frm.of_below HB.out.1).trans hs.2 (fun i hi e => by omega), box_frm HB.out.2.1 hs.2 (by omega), hc, by have := HB.out.2.2; have := hs.2.size; omega⟩
  clear hv1 hs hc CV HB
  go_upto_region 5 with fail
  refine wp_any_world (fun W => Below w1.heap.size w1 W ∧ W.heap[w1.heap.size]? = some (.cells #[.int .i64 v.kind, .int .i64 v.n, str v.s, .slice al ll cl, .slice am lm cm] 72 (0, 0))) ⟨below_alloc _ _, heap_alloc_new _ _⟩ ?_
  rintro w2 ⟨hb2, hx2⟩
  have H2 : Hid (Frm (fun i => w.heap.size ≤ i) w w2 ∧ w2.heap[w.heap.size]? = some (.cells #[.int .i64 0, .int .i64 0, str [], .slice none 0 0, .slice none 0 0] 72 (0, 0))) := Lib.hid ⟨H1.out.1.trans (Frm.of_below (F := fun _ => False) hb2) (fun _ _ e => e.elim), box_up H1.out.2.1 hb2⟩
  clear hb2 hx2
  have hbx1 := H2.out.2
  obtain ⟨d0, d1, d2, d3, d4⟩ := box5 hbx1
  have df := box_fr hbx1
  clear hbx1
  go_wp2_with fail
  refine bodyPost_any_world (fun X => X.heap[w.heap.size]? = some (.cells #[.int .i64 0, .int .i64 0, str [], .slice none 0 0, .slice none 0 0] 72 (0, 0)) ∧ Frm (fun i => i = w.heap.size) w2 X) (five_set H2.out.2 _ _ _ _ _) ?_
  clear d0 d1 d2 d3 d4 df
  rintro w9 ⟨h9, hf9⟩
  obtain ⟨k0, k1, k2, k3, k4⟩ := box5 h9
  refine bodyPost_ret (v := .tuple #[.agg #[.int .i64 0, .int .i64 0, str [], .slice none 0 0, .slice none 0 0], .int .i64 (c : Int)]) (by simp [results, Tryz.results57, go_sem, k0, k1, k2, k3, k4]) rfl ?_
  rw [HE.out]
  exact ⟨rfl, H1.out.2.2.1, (H2.out.1.trans hf9 (fun i hi e => by omega)).below (Nat.le_refl _) (fun i h => h)⟩
 | ok v q =>
  refine CV.out.mono ?_
  rintro e w1 ⟨cs, rfl, hv1, hs, hq⟩
  obtain ⟨al, ll, cl, am, lm, cm, rfl, _, _⟩ := hv1.open
  have H1 : Hid (Frm (fun i => w.heap.size ≤ i) w w1 ∧ w1.heap[w.heap.size]? = some (.cells #[.int .i64 0, .int .i64 0, str [], .slice none 0 0, .slice none 0 0] 72 (0, 0)) ∧ w.heap.size + 1 < w1.heap.size ∧ JRb w1 (w.heap.size + 1) t q 0 ∧ RdJ w1 (fun i => w.heap.size + 1 < i) v [.int .i64 v.kind, .int .i64 v.n, str v.s, .slice al ll cl, .slice am lm cm]) := Lib.hid ⟨(Frm.of_below HB.out.1).trans hs.2 (fun i hi e => by omega), box_frm HB.out.2.1 hs.2 (by omega), by have := HB.out.2.2; have := hs.2.size; omega, hs.1, hv1.mono (fun i _ hi => by have := HB.out.2.2; omega)⟩
  clear hv1 hs CV HB
  go_upto_region 5 with fail
  refine wp_any_world (fun W => Below w1.heap.size w1 W ∧ W.heap[w1.heap.size]? = some (.cells #[.int .i64 v.kind, .int .i64 v.n, str v.s, .slice al ll cl, .slice am lm cm] 72 (0, 0))) ⟨below_alloc _ _, heap_alloc_new _ _⟩ ?_
  rintro w2 ⟨hb2, hx2⟩
  have HQ := Lib.hid hq
  have CB := Lib.hid (blanks_any t (w.heap.size + 1) q 0 w2 (H1.out.2.2.2.1.below hb2) hq (by have := HL.out; omega))
  have H2 : Hid (Frm (fun i => w.heap.size ≤ i) w w2 ∧ w2.heap[w.heap.size]? = some (.cells #[.int .i64 0, .int .i64 0, str [], .slice none 0 0, .slice none 0 0] 72 (0, 0)) ∧ w2.heap[w1.heap.size]? = some (.cells #[.int .i64 v.kind, .int .i64 v.n, str v.s, .slice al ll cl, .slice am lm cm] 72 (0, 0)) ∧ RdJ w2 (fun i => w.heap.size + 1 < i ∧ i ≠ w1.heap.size) v [.int .i64 v.kind, .int .i64 v.n, str v.s, .slice al ll cl, .slice am lm cm]) := Lib.hid ⟨H1.out.1.trans (Frm.of_below (F := fun _ => False) hb2) (fun _ _ e => e.elim), box_up H1.out.2.1 hb2, hx2, by
   have h5 := H1.out.2.2.2.2
   refine RdJ.mono (F := fun i => w.heap.size + 1 < i ∧ i < w1.heap.size) ?_ (fun i _ hi => by omega)
   exact (h5.mono (G := fun i => w.heap.size + 1 < i ∧ i < w1.heap.size) (fun i hi hF => ⟨hF, hi⟩)).up hb2⟩
  clear hb2 hx2 hq
  go_wp2_with fail
  refine CB.out.mono ?_
  rintro e w3 ⟨rfl, hs3⟩
  have H3 : Hid (Frm (fun i => w.heap.size ≤ i) w w3 ∧ w3.heap[w.heap.size]? = some (.cells #[.int .i64 0, .int .i64 0, str [], .slice none 0 0, .slice none 0 0] 72 (0, 0)) ∧ w3.heap[w1.heap.size]? = some (.cells #[.int .i64 v.kind, .int .i64 v.n, str v.s, .slice al ll cl, .slice am lm cm] 72 (0, 0)) ∧ RdJ w3 (fun i => w.heap.size < i) v [.int .i64 v.kind, .int .i64 v.n, str v.s, .slice al ll cl, .slice am lm cm]) := Lib.hid ⟨H2.out.1.trans hs3.2 (fun i hi e => by omega), box_frm H2.out.2.1 hs3.2 (by omega), box_frm H2.out.2.2.1 hs3.2 (by have := H1.out.2.2.1; omega), (H2.out.2.2.2.frm hs3.2 (fun i hi e => by omega)).mono (fun i _ hi => by omega)⟩
  have c0 := hs3.1.c0
  have c1 := hs3.1.c1
  clear hs3 CB H2
  obtain ⟨z, hz⟩ : ∃ z, z = skp t q := ⟨_, rfl⟩
  rw [← hz] at c1 HR
  have hzl : z ≤ t.length := by rw [hz]; exact skp_le t HQ.out
  clear hz HQ
  by_cases hzt : z < t.length
  · have g2 : decide ((z : Int) < (t.length : Int)) = true := decide_eq_true (by omega)
    have g2' : decide (z < t.length) = true := decide_eq_true hzt
    have HE : Hid (R = .err 4) := Lib.hid (by rw [HR.out]; rw [if_pos hzt])
    clear hzt hzl HR
    have hbx1 := H3.out.2.1
    obtain ⟨d0, d1, d2, d3, d4⟩ := box5 hbx1
    have df := box_fr hbx1
    clear hbx1
    go_wp2_with fail
    refine bodyPost_any_world (fun X => X.heap[w.heap.size]? = some (.cells #[.int .i64 0, .int .i64 0, str [], .slice none 0 0, .slice none 0 0] 72 (0, 0)) ∧ Frm (fun i => i = w.heap.size) w3 X) (five_set H3.out.2.1 _ _ _ _ _) ?_
    clear d0 d1 d2 d3 d4 df
    rintro w9 ⟨h9, hf9⟩
    obtain ⟨k0, k1, k2, k3, k4⟩ := box5 h9
    refine bodyPost_ret (v := .tuple #[.agg #[.int .i64 0, .int .i64 0, str [], .slice none 0 0, .slice none 0 0], .int .i64 4]) (by simp [results, Tryz.results57, go_sem, k0, k1, k2, k3, k4]) rfl ?_
    rw [HE.out]
    exact ⟨rfl, by decide, (H3.out.1.trans hf9 (fun i hi e => by omega)).below (Nat.le_refl _) (fun i h => h)⟩
  obtain rfl : z = t.length := by omega
  have g2 : decide ((t.length : Int) < (t.length : Int)) = false := decide_eq_false (by omega)
  have g2' : decide (t.length < t.length) = false := decide_eq_false (by omega)
  have HE : Hid (R = .ok v t.length) := Lib.hid (by rw [HR.out]; rw [if_neg (by omega)])
  clear hzt hzl HR
  have hbx1 := H3.out.2.1
  obtain ⟨d0, d1, d2, d3, d4⟩ := box5 hbx1
  have df := box_fr hbx1
  clear hbx1
  have hbx2 := H3.out.2.2.1
  obtain ⟨b0, b1, b2, b3, b4⟩ := box5 hbx2
  clear hbx2
  go_wp2_with fail
  refine bodyPost_any_world (fun X => X.heap[w.heap.size]? = some (.cells #[.int .i64 v.kind, .int .i64 v.n, str v.s, .slice al ll cl, .slice am lm cm] 72 (0, 0)) ∧ Frm (fun i => i = w.heap.size) w3 X) (five_set H3.out.2.1 _ _ _ _ _) ?_
  clear d0 d1 d2 d3 d4 df b0 b1 b2 b3 b4
  rintro w9 ⟨h9, hf9⟩
  obtain ⟨k0, k1, k2, k3, k4⟩ := box5 h9
  refine bodyPost_ret (v := .tuple #[.agg #[.int .i64 v.kind, .int .i64 v.n, str v.s, .slice al ll cl, .slice am lm cm], .int .i64 0]) (by simp [results, Tryz.results57, go_sem, k0, k1, k2, k3, k4]) rfl ?_
  rw [HE.out]
  exact ⟨_, rfl, (H3.out.2.2.2.frm hf9 (fun i hi e => by omega)).mono (fun i _ hi => by omega), (H3.out.1.trans hf9 (fun i hi e => by omega)).below (Nat.le_refl _) (fun i h => h)⟩
end Go.Proofs.YtegblhmcfemfgaaGreatDoor
