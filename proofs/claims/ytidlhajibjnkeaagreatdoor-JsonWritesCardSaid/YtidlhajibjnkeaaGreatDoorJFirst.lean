import Derived.Test.YtidlhajibjnkeaaGreatDoorJValue
import Derived.Test.YtidlhajibjnkeaaGreatDoorJPr
import Derived.Test.YtidlhajibjnkeaaGreatDoorJPrn
import Derived.Lib.SlBytesConst
/- JSON: Parse. -/
namespace Go.Proofs.YtidlhajibjnkeaaGreatDoor
open Go.RowKit

/-- What Parse tells. -/
def ParJ (w : World) (r : JR JV) (e : Ending) (w' : World) : Prop :=
  match r with
  | .err c => e = .returned (.tuple #[.agg #[.int .i64 0, .int .i64 0, str [], .slice none 0 0, .slice none 0 0], .int .i64 (c : Int)]) ∧ c ≠ 0 ∧ Below w.heap.size w w'
  | .ok v _ => ∃ cs, e = .returned (.tuple #[.agg cs.toArray, .int .i64 0]) ∧ RdJ w' (fun i => w.heap.size ≤ i) v cs ∧ Below w.heap.size w w'
set_option maxRecDepth 100000 in
set_option maxHeartbeats 2000000 in
theorem parse_any {t : List UInt8} {vb : Value} {w : World} (hv : Rd w vb t) (hl : t.length ≤ 140737488351232) : Calls Tryz.prog 7 #[vb] w (ParJ w (parP t)) := by
  obtain ⟨a, cap, rfl, _⟩ := id hv
  obtain ⟨R, hR⟩ : ∃ R, R = parP t := ⟨_, rfl⟩
  rw [← hR]
  obtain ⟨Wa, hWa⟩ : ∃ Wa, Wa = w.alloc (.cells #[.int .i64 0, .int .i64 0, .string ⟨#[]⟩, .slice none 0 0, .slice none 0 0] 28) := ⟨_, rfl⟩
  have hba : Below w.heap.size w Wa := by rw [hWa]; exact below_alloc _ _
  have hbx : Wa.heap[w.heap.size]? = some (.cells #[.int .i64 0, .int .i64 0, str [], .slice none 0 0, .slice none 0 0] 28 (0, 0)) := by rw [hWa]; exact heap_alloc_new w _
  have hmz : Wa.heap.size = w.heap.size + 1 := by rw [hWa]; simp
  by_cases hlen : 20000 < t.length
  · have hE : R = .err 3 := by rw [hR]; unfold parP; rw [if_pos hlen]
    subst hE
    have g1 : decide ((20000 : Int) < (t.length : Int)) = true := decide_eq_true (by omega)
    have HA := Lib.hid (And.intro hba hbx)
    clear hR hba hbx hmz hlen hv
    go_enter Tryz.func7, Tryz.ntmps7
    go_wp2_with fail
    rw [← hWa]
    have k0 := box_cell HA.out.2 0
    have k1 := box_cell HA.out.2 1
    have k2 := box_cell HA.out.2 2
    have k3 := box_cell HA.out.2 3
    have k4 := box_cell HA.out.2 4
    refine bodyPost_ret (v := .tuple #[.agg #[.int .i64 0, .int .i64 0, str [], .slice none 0 0, .slice none 0 0], .int .i64 3]) (by simp [results, Tryz.results7, go_sem, k0, k1, k2, k3, k4]) rfl ?_
    exact ⟨rfl, by decide, HA.out.1⟩
  · have g1 : decide ((20000 : Int) < (t.length : Int)) = false := decide_eq_false (by omega)
    have hconv := bt.toString (w := w.alloc (.cells #[.int .i64 0, .int .i64 0, .string ⟨#[]⟩, .slice none 0 0, .slice none 0 0] 28)) Tryz.underlying9 (hv.below (below_alloc _ _) (Nat.le_refl _))
    obtain ⟨Wb, hWb⟩ : ∃ Wb, Wb = Wa.alloc (.cells #[str t, .int .i64 0, .int .i64 0] 66) := ⟨_, rfl⟩
    have hjr : JRb Wb (w.heap.size + 1) t 0 0 := by
      have := JRb.made Wa t 0 0 rfl rfl 66
      rw [hmz, ← hWb] at this
      exact this
    have hbb : Below Wa.heap.size Wa Wb := by rw [hWb]; exact below_alloc _ _
    have HB : Hid (Below w.heap.size w Wb ∧ Wb.heap[w.heap.size]? = some (.cells #[.int .i64 0, .int .i64 0, str [], .slice none 0 0, .slice none 0 0] 28 (0, 0)) ∧ Wb.heap.size = w.heap.size + 2) := Lib.hid ⟨hba.trans (hbb.mono hba.size), box_up hbx hbb, by rw [hWb]; simp [hmz]⟩
    have CV := Lib.hid (value_any t (w.heap.size + 1) (by omega) 64 0 0 Wb hjr (Nat.zero_le _) rfl)
    have HR : Hid (R = match valP t 64 0 with
      | .err e => .err e
      | .ok v q => if skp t q < t.length then .err 4 else .ok v t.length) := Lib.hid (by rw [hR]; unfold parP; rw [if_neg hlen]; rfl)
    have HL : Hid (t.length ≤ 20000) := Lib.hid (by omega)
    clear hR hba hbx hmz hlen hv hjr hbb
    obtain ⟨V, hV⟩ : ∃ V, V = valP t 64 0 := ⟨_, rfl⟩
    rw [← hV] at CV HR
    clear hV
    go_enter Tryz.func7, Tryz.ntmps7
    go_wp2_with fail
    rw [← hWa, ← hWb]
    clear hWa hWb hconv
    cases V with
    | err c =>
      refine CV.out.mono ?_
      rintro e w1 ⟨v, cs, rfl, hc, hv1, q, o', hs⟩
      obtain ⟨al, ll, cl, am, lm, cm, rfl, _, _⟩ := hv1.open
      have hc0 : ((c : Int) != 0) = true := by rw [bne_iff_ne]; omega
      have HE : Hid (R = .err c) := Lib.hid HR.out
      have H1 : Hid (Frm (fun i => w.heap.size ≤ i) w w1 ∧ w1.heap[w.heap.size]? = some (.cells #[.int .i64 0, .int .i64 0, str [], .slice none 0 0, .slice none 0 0] 28 (0, 0)) ∧ c ≠ 0 ∧ w.heap.size < w1.heap.size) := Lib.hid ⟨(Frm.of_below HB.out.1).trans hs.2 (fun i hi e => by omega), box_frm HB.out.2.1 hs.2 (by omega), hc, by have := HB.out.2.2; have := hs.2.size; omega⟩
      clear hv1 hs hc CV HB
      go_upto_region 5 with fail
      refine wp_any_world (fun W => Below w1.heap.size w1 W ∧ W.heap[w1.heap.size]? = some (.cells #[.int .i64 v.kind, .int .i64 v.n, str v.s, .slice al ll cl, .slice am lm cm] 28 (0, 0))) ⟨below_alloc _ _, heap_alloc_new _ _⟩ ?_
      rintro w2 ⟨hb2, hx2⟩
      have H2 : Hid (Frm (fun i => w.heap.size ≤ i) w w2 ∧ w2.heap[w.heap.size]? = some (.cells #[.int .i64 0, .int .i64 0, str [], .slice none 0 0, .slice none 0 0] 28 (0, 0))) := Lib.hid ⟨H1.out.1.trans (Frm.of_below (F := fun _ => False) hb2) (fun _ _ e => e.elim), box_up H1.out.2.1 hb2⟩
      clear hb2 hx2
      have hbx1 := H2.out.2
      have d0 := box_cell hbx1 0
      have d1 := box_cell hbx1 1
      have d2 := box_cell hbx1 2
      have d3 := box_cell hbx1 3
      have d4 := box_cell hbx1 4
      have df := box_fr hbx1
      clear hbx1
      go_wp2_with fail
      refine bodyPost_any_world (fun X => X.heap[w.heap.size]? = some (.cells #[.int .i64 0, .int .i64 0, str [], .slice none 0 0, .slice none 0 0] 28 (0, 0)) ∧ Frm (fun i => i = w.heap.size) w2 X) (five_set H2.out.2 _ _ _ _ _) ?_
      clear d0 d1 d2 d3 d4 df
      rintro w9 ⟨h9, hf9⟩
      have k0 := box_cell h9 0
      have k1 := box_cell h9 1
      have k2 := box_cell h9 2
      have k3 := box_cell h9 3
      have k4 := box_cell h9 4
      refine bodyPost_ret (v := .tuple #[.agg #[.int .i64 0, .int .i64 0, str [], .slice none 0 0, .slice none 0 0], .int .i64 (c : Int)]) (by simp [results, Tryz.results7, go_sem, k0, k1, k2, k3, k4]) rfl ?_
      rw [HE.out]
      exact ⟨rfl, H1.out.2.2.1, (H2.out.1.trans hf9 (fun i hi e => by omega)).below (Nat.le_refl _) (fun i h => h)⟩
    | ok v q =>
      refine CV.out.mono ?_
      rintro e w1 ⟨cs, rfl, hv1, hs, hq⟩
      obtain ⟨al, ll, cl, am, lm, cm, rfl, _, _⟩ := hv1.open
      have H1 : Hid (Frm (fun i => w.heap.size ≤ i) w w1 ∧ w1.heap[w.heap.size]? = some (.cells #[.int .i64 0, .int .i64 0, str [], .slice none 0 0, .slice none 0 0] 28 (0, 0)) ∧ w.heap.size + 1 < w1.heap.size ∧ JRb w1 (w.heap.size + 1) t q 0 ∧ RdJ w1 (fun i => w.heap.size + 1 < i) v [.int .i64 v.kind, .int .i64 v.n, str v.s, .slice al ll cl, .slice am lm cm]) := Lib.hid ⟨(Frm.of_below HB.out.1).trans hs.2 (fun i hi e => by omega), box_frm HB.out.2.1 hs.2 (by omega), by have := HB.out.2.2; have := hs.2.size; omega, hs.1, hv1.mono (fun i _ hi => by have := HB.out.2.2; omega)⟩
      clear hv1 hs CV HB
      go_upto_region 5 with fail
      refine wp_any_world (fun W => Below w1.heap.size w1 W ∧ W.heap[w1.heap.size]? = some (.cells #[.int .i64 v.kind, .int .i64 v.n, str v.s, .slice al ll cl, .slice am lm cm] 28 (0, 0))) ⟨below_alloc _ _, heap_alloc_new _ _⟩ ?_
      rintro w2 ⟨hb2, hx2⟩
      have HQ := Lib.hid hq
      have CB := Lib.hid (blanks_any t (w.heap.size + 1) q 0 w2 (H1.out.2.2.2.1.below hb2) hq (by have := HL.out; omega))
      have H2 : Hid (Frm (fun i => w.heap.size ≤ i) w w2 ∧ w2.heap[w.heap.size]? = some (.cells #[.int .i64 0, .int .i64 0, str [], .slice none 0 0, .slice none 0 0] 28 (0, 0)) ∧ w2.heap[w1.heap.size]? = some (.cells #[.int .i64 v.kind, .int .i64 v.n, str v.s, .slice al ll cl, .slice am lm cm] 28 (0, 0)) ∧ RdJ w2 (fun i => w.heap.size + 1 < i ∧ i ≠ w1.heap.size) v [.int .i64 v.kind, .int .i64 v.n, str v.s, .slice al ll cl, .slice am lm cm]) := Lib.hid ⟨H1.out.1.trans (Frm.of_below (F := fun _ => False) hb2) (fun _ _ e => e.elim), box_up H1.out.2.1 hb2, hx2, by
        have h5 := H1.out.2.2.2.2
        refine RdJ.mono (F := fun i => w.heap.size + 1 < i ∧ i < w1.heap.size) ?_ (fun i _ hi => by omega)
        exact (h5.mono (G := fun i => w.heap.size + 1 < i ∧ i < w1.heap.size) (fun i hi hF => ⟨hF, hi⟩)).up hb2⟩
      clear hb2 hx2 hq
      go_wp2_with fail
      refine CB.out.mono ?_
      rintro e w3 ⟨rfl, hs3⟩
      have H3 : Hid (Frm (fun i => w.heap.size ≤ i) w w3 ∧ w3.heap[w.heap.size]? = some (.cells #[.int .i64 0, .int .i64 0, str [], .slice none 0 0, .slice none 0 0] 28 (0, 0)) ∧ w3.heap[w1.heap.size]? = some (.cells #[.int .i64 v.kind, .int .i64 v.n, str v.s, .slice al ll cl, .slice am lm cm] 28 (0, 0)) ∧ RdJ w3 (fun i => w.heap.size < i) v [.int .i64 v.kind, .int .i64 v.n, str v.s, .slice al ll cl, .slice am lm cm]) := Lib.hid ⟨H2.out.1.trans hs3.2 (fun i hi e => by omega), box_frm H2.out.2.1 hs3.2 (by omega), box_frm H2.out.2.2.1 hs3.2 (by have := H1.out.2.2.1; omega), (H2.out.2.2.2.frm hs3.2 (fun i hi e => by omega)).mono (fun i _ hi => by omega)⟩
      have c0 := hs3.1.c0
      have c1 := hs3.1.c1
      clear hs3 CB H2
      obtain ⟨z, hz⟩ : ∃ z, z = skp t q := ⟨_, rfl⟩
      rw [← hz] at c1 HR
      have hzl : z ≤ t.length := by rw [hz]; exact skp_le t HQ.out
      clear hz HQ
      by_cases hzt : z < t.length
      · have g2 : decide ((z : Int) < (t.length : Int)) = true := decide_eq_true (by omega)
        have g2' : decide (z < t.length) = true := decide_eq_true hzt
        have HE : Hid (R = .err 4) := Lib.hid (by rw [HR.out]; rw [if_pos hzt])
        clear hzt hzl HR
        have hbx1 := H3.out.2.1
        have d0 := box_cell hbx1 0
        have d1 := box_cell hbx1 1
        have d2 := box_cell hbx1 2
        have d3 := box_cell hbx1 3
        have d4 := box_cell hbx1 4
        have df := box_fr hbx1
        clear hbx1
        go_wp2_with fail
        refine bodyPost_any_world (fun X => X.heap[w.heap.size]? = some (.cells #[.int .i64 0, .int .i64 0, str [], .slice none 0 0, .slice none 0 0] 28 (0, 0)) ∧ Frm (fun i => i = w.heap.size) w3 X) (five_set H3.out.2.1 _ _ _ _ _) ?_
        clear d0 d1 d2 d3 d4 df
        rintro w9 ⟨h9, hf9⟩
        have k0 := box_cell h9 0
        have k1 := box_cell h9 1
        have k2 := box_cell h9 2
        have k3 := box_cell h9 3
        have k4 := box_cell h9 4
        refine bodyPost_ret (v := .tuple #[.agg #[.int .i64 0, .int .i64 0, str [], .slice none 0 0, .slice none 0 0], .int .i64 4]) (by simp [results, Tryz.results7, go_sem, k0, k1, k2, k3, k4]) rfl ?_
        rw [HE.out]
        exact ⟨rfl, by decide, (H3.out.1.trans hf9 (fun i hi e => by omega)).below (Nat.le_refl _) (fun i h => h)⟩
      · obtain rfl : z = t.length := by omega
        have g2 : decide ((t.length : Int) < (t.length : Int)) = false := decide_eq_false (by omega)
        have g2' : decide (t.length < t.length) = false := decide_eq_false (by omega)
        have HE : Hid (R = .ok v t.length) := Lib.hid (by rw [HR.out]; rw [if_neg (by omega)])
        clear hzt hzl HR
        have hbx1 := H3.out.2.1
        have d0 := box_cell hbx1 0
        have d1 := box_cell hbx1 1
        have d2 := box_cell hbx1 2
        have d3 := box_cell hbx1 3
        have d4 := box_cell hbx1 4
        have df := box_fr hbx1
        clear hbx1
        have hbx2 := H3.out.2.2.1
        have b0 := box_cell hbx2 0
        have b1 := box_cell hbx2 1
        have b2 := box_cell hbx2 2
        have b3 := box_cell hbx2 3
        have b4 := box_cell hbx2 4
        clear hbx2
        go_wp2_with fail
        refine bodyPost_any_world (fun X => X.heap[w.heap.size]? = some (.cells #[.int .i64 v.kind, .int .i64 v.n, str v.s, .slice al ll cl, .slice am lm cm] 28 (0, 0)) ∧ Frm (fun i => i = w.heap.size) w3 X) (five_set H3.out.2.1 _ _ _ _ _) ?_
        clear d0 d1 d2 d3 d4 df b0 b1 b2 b3 b4
        rintro w9 ⟨h9, hf9⟩
        have k0 := box_cell h9 0
        have k1 := box_cell h9 1
        have k2 := box_cell h9 2
        have k3 := box_cell h9 3
        have k4 := box_cell h9 4
        refine bodyPost_ret (v := .tuple #[.agg #[.int .i64 v.kind, .int .i64 v.n, str v.s, .slice al ll cl, .slice am lm cm], .int .i64 0]) (by simp [results, Tryz.results7, go_sem, k0, k1, k2, k3, k4]) rfl ?_
        rw [HE.out]
        exact ⟨_, rfl, (H3.out.2.2.2.frm hf9 (fun i hi e => by omega)).mono (fun i _ hi => by omega), (H3.out.1.trans hf9 (fun i hi e => by omega)).below (Nat.le_refl _) (fun i h => h)⟩
end Go.Proofs.YtidlhajibjnkeaaGreatDoor

/- JSON: the first look of the statements. -/
namespace Go.Proofs.YtidlhajibjnkeaaGreatDoor
open Go.RowKit

theorem TabJ.up {w w1 : World} {B : Nat} (h : TabJ B w) (hb : Below B w w1) (hB : B ≤ w1.heap.size) : TabJ w1.heap.size w1 := fun w' h' => h w' (hb.trans (h'.mono hB))
/-- A row of bytes that was just laid. -/
theorem Rd.rowJ (E : TypeId) (w : World) (l : List UInt8) (hl : l.length ≤ 100000) (z : Nat × Nat) : Rd (w.alloc (.cells (l.map bv).toArray E z)) (.slice (some ⟨w.heap.size, 0, none⟩) l.length l.length) l := by
  refine ⟨_, l.length, rfl, Nat.le_refl _, by unfold maxLen; omega, (fun h => by cases h), fun _ => ⟨w.heap.size, 0, rfl, fun i hi => ?_⟩⟩
  have h := heap_alloc_new w (.cells (l.map bv).toArray E z)
  rw [Nat.zero_add, cell_of_row _ w.heap.size i _ E z h]
  simp [hi]
def jc1 : List UInt8 := [123, 34, 98, 34, 58, 49, 44, 34, 97, 34, 58, 91, 116, 114, 117, 101, 44, 110, 117, 108, 108, 93, 125]
def jv1 : JV := .mk 7 0 [] [] [([97], .mk 6 0 [] [.mk 3 0 [] [] [], .mk 1 0 [] [] []] []), ([98], .mk 4 1 [] [] [])]
theorem par1 : parP jc1 = .ok jv1 23 := by
  have h0 : valP jc1 64 0 = .ok jv1 23 := by
    rw [valP_at (c := 123) rfl (by decide)]
    simp only [casP]
    rw [if_neg (by decide), if_pos trivial, objP_eq]
    have h1 : mesR (valP jc1 63) jc1 0 = .ok [([98], .mk 4 1 [] [] []), ([97], .mk 6 0 [] [.mk 3 0 [] [] [], .mk 1 0 [] [] []] [])] 23 := by kernel_rfl
    have h2 : srtM [([98], .mk 4 1 [] [] []), ([97], .mk 6 0 [] [.mk 3 0 [] [] [], .mk 1 0 [] [] []] [])] = [([97], .mk 6 0 [] [.mk 3 0 [] [] [], .mk 1 0 [] [] []] []), ([98], .mk 4 1 [] [] [])] :=
      (srt_eq (List.Perm.swap _ _ _) (by simp [Op.bytesLess]) (by simp)).symm
    rw [h1]
    show objV (.ok (srtM _) 23) = _
    rw [h2]
    rfl
  unfold parP
  rw [if_neg (by decide), h0]
  dsimp only
  rw [if_neg (by decide)]
  rfl
theorem par2 : parP [49, 46, 53] = .err 4 := by kernel_rfl
theorem par3 : parP [123, 34, 97, 34, 58, 49, 44, 34, 97, 34, 58, 50, 125] = .err 4 := by kernel_rfl
theorem may1 : mayV jv1 64 = true := by kernel_rfl
theorem pr1 : prV jv1 = [123, 34, 97, 34, 58, 91, 116, 114, 117, 101, 44, 110, 117, 108, 108, 93, 44, 34, 98, 34, 58, 49, 125] := by
  have e : Lib.itoa 1 = [49] := by
    rw [Lib.itoa, if_neg (by decide)]
    exact Lib.decDigits_one (by decide)
  have e2 : prV (.mk 4 1 [] [] []) = [49] := e
  simp [jv1, prV, prU, prT, e, quo, qbL, qb, shB]
set_option maxRecDepth 100000 in
set_option maxHeartbeats 2000000 in
theorem jfirst_any (w : World) (ht : TabJ w.heap.size w) : Calls Tryz.prog 5 #[] w fun e w' => e = .returned (.bool true) ∧ Below w.heap.size w w' := by
  have C1 : Hid (∀ W : World, Calls Tryz.prog 7 #[.slice (some ⟨W.heap.size, 0, none⟩) 23 23] (W.alloc (.cells #[.int .u8 123, .int .u8 34, .int .u8 98, .int .u8 34, .int .u8 58, .int .u8 49, .int .u8 44, .int .u8 34, .int .u8 97, .int .u8 34, .int .u8 58, .int .u8 91, .int .u8 116, .int .u8 114, .int .u8 117, .int .u8 101, .int .u8 44, .int .u8 110, .int .u8 117, .int .u8 108, .int .u8 108, .int .u8 93, .int .u8 125] 5 (23, 23 + 1))) (ParJ (W.alloc (.cells #[.int .u8 123, .int .u8 34, .int .u8 98, .int .u8 34, .int .u8 58, .int .u8 49, .int .u8 44, .int .u8 34, .int .u8 97, .int .u8 34, .int .u8 58, .int .u8 91, .int .u8 116, .int .u8 114, .int .u8 117, .int .u8 101, .int .u8 44, .int .u8 110, .int .u8 117, .int .u8 108, .int .u8 108, .int .u8 93, .int .u8 125] 5 (23, 23 + 1))) (.ok jv1 23))) := Lib.hid (fun W => by
    have h := parse_any (Rd.rowJ 5 W jc1 (by decide) (23, 23 + 1)) (by decide)
    rw [par1] at h
    exact h)
  have C2 : Hid (∀ W : World, Calls Tryz.prog 7 #[.slice (some ⟨W.heap.size, 0, none⟩) 3 3] (W.alloc (.cells #[.int .u8 49, .int .u8 46, .int .u8 53] 5 (3, 3 + 1))) (ParJ (W.alloc (.cells #[.int .u8 49, .int .u8 46, .int .u8 53] 5 (3, 3 + 1))) (.err 4))) := Lib.hid (fun W => by
    have h := parse_any (Rd.rowJ 5 W [49, 46, 53] (by decide) (3, 3 + 1)) (by decide)
    rw [par2] at h
    exact h)
  have C3 : Hid (∀ W : World, Calls Tryz.prog 7 #[.slice (some ⟨W.heap.size, 0, none⟩) 13 13] (W.alloc (.cells #[.int .u8 123, .int .u8 34, .int .u8 97, .int .u8 34, .int .u8 58, .int .u8 49, .int .u8 44, .int .u8 34, .int .u8 97, .int .u8 34, .int .u8 58, .int .u8 50, .int .u8 125] 5 (13, 13 + 1))) (ParJ (W.alloc (.cells #[.int .u8 123, .int .u8 34, .int .u8 97, .int .u8 34, .int .u8 58, .int .u8 49, .int .u8 44, .int .u8 34, .int .u8 97, .int .u8 34, .int .u8 58, .int .u8 50, .int .u8 125] 5 (13, 13 + 1))) (.err 4))) := Lib.hid (fun W => by
    have h := parse_any (Rd.rowJ 5 W [123, 34, 97, 34, 58, 49, 44, 34, 97, 34, 58, 50, 125] (by decide) (13, 13 + 1)) (by decide)
    rw [par3] at h
    exact h)
  have HT := Lib.hid ht
  clear ht
  have kc := fun (w : World) (C : Array Value) (n c : Nat) => Lib.run_convert_bytes_const (P := Tryz.prog) w 22 5 C n c Tryz.underlying22 Tryz.underlying5
  go_enter Tryz.func5, Tryz.ntmps5
  go_wp2_with fail
  refine (C1.out w).mono ?_
  rintro e w1 ⟨cs, rfl, hv, hb⟩
  have hb1 := (below_alloc w _).trans (hb.mono (by simp))
  obtain ⟨al, ll, cl, am, lm, cm, rfl, _, _⟩ := hv.open
  obtain ⟨W2, hW2⟩ : ∃ W2, W2 = w1.alloc (.cells #[.int .i64 jv1.kind, .int .i64 jv1.n, str jv1.s, .slice al ll cl, .slice am lm cm] 28) := ⟨_, rfl⟩
  have hb2 : Below w.heap.size w W2 := by rw [hW2]; exact hb1.trans ((below_alloc w1 _).mono hb1.size)
  have hv1 := hv.mono (G := fun _ => True) (fun _ _ _ => trivial)
  have hv2 := hv1.up (show Below w1.heap.size w1 W2 by rw [hW2]; exact below_alloc w1 _)
  have CP := Lib.hid (print_yes hv2 may1 (by rw [pr1]; decide) (HT.out.up hb2 hb2.size))
  have HB2 := Lib.hid hb2
  clear hb hb1 hb2 hv hv1 hv2
  go_wp2_with fail
  rw [← hW2]
  clear hW2
  refine CP.out.mono ?_
  rintro e w3 ⟨v3, rfl, hown, hb3⟩
  rw [pr1] at hown
  obtain ⟨a3, n3, c3, rfl⟩ := hown.form
  have HR3 := Lib.hid hown.rd
  have HB3 := Lib.hid (HB2.out.trans (hb3.mono HB2.out.size))
  clear hown hb3 CP HB2
  go_wp2_with fail
  refine (C2.out w3).mono ?_
  rintro e w4 ⟨rfl, _, hb4⟩
  have hb4' := (below_alloc w3 (.cells #[.int .u8 49, .int .u8 46, .int .u8 53] 5 (3, 3 + 1))).trans (hb4.mono (by simp))
  have HR4 := Lib.hid ((HR3.out.below hb4' (Nat.le_refl _)).alloc (.cells #[.int .i64 0, .int .i64 0, str [], .slice none 0 0, .slice none 0 0] 28))
  have HB4 := Lib.hid ((HB3.out.trans (hb4'.mono HB3.out.size)).alloc (by have := HB3.out.size; have := hb4'.size; omega) (.cells #[.int .i64 0, .int .i64 0, str [], .slice none 0 0, .slice none 0 0] 28))
  clear hb4 hb4' HR3 HB3
  obtain ⟨w5, hw5⟩ : ∃ w5, w5 = w4.alloc (.cells #[.int .i64 0, .int .i64 0, str [], .slice none 0 0, .slice none 0 0] 28) := ⟨_, rfl⟩
  rw [← hw5] at HR4 HB4
  go_upto_region 4 with fail
  rw [← hw5]
  clear hw5
  go_wp2_with fail
  refine (C3.out w5).mono ?_
  rintro e w6 ⟨rfl, _, hb6⟩
  have hb6' := (below_alloc w5 (.cells #[.int .u8 123, .int .u8 34, .int .u8 97, .int .u8 34, .int .u8 58, .int .u8 49, .int .u8 44, .int .u8 34, .int .u8 97, .int .u8 34, .int .u8 58, .int .u8 50, .int .u8 125] 5 (13, 13 + 1))).trans (hb6.mono (by simp))
  have HR6 := Lib.hid ((HR4.out.below hb6' (Nat.le_refl _)).alloc (.cells #[.int .i64 0, .int .i64 0, str [], .slice none 0 0, .slice none 0 0] 28))
  have HB6 := Lib.hid ((HB4.out.trans (hb6'.mono HB4.out.size)).alloc (by have := HB4.out.size; have := hb6'.size; omega) (.cells #[.int .i64 0, .int .i64 0, str [], .slice none 0 0, .slice none 0 0] 28))
  clear hb6 hb6' HR4 HB4
  have hconv := bt.toString Tryz.underlying9 HR6.out
  go_wp2_with fail
  go_ret
  exact ⟨rfl, HB6.out⟩
end Go.Proofs.YtidlhajibjnkeaaGreatDoor
