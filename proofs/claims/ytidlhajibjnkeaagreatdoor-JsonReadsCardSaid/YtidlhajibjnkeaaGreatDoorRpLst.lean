/- hblref1.Parse: the document's reader: lists. -/
import Derived.Test.YtidlhajibjnkeaaGreatDoorRpNum
import Derived.Test.YtidlhajibjnkeaaGreatDoorAppN
import Derived.Deep.RegionHeld
import Derived.Deep.AppendLies
namespace Go.Proofs.YtidlhajibjnkeaaGreatDoor
open Go.RowKit

theorem infoRp : (Tryz.prog.info? 35).map (fun i => (i.zero, i.size, i.bytes)) = some (some (.agg #[.int .i64 0, .int .i64 0, str [], .slice none 0 0, .slice none 0 0]), 5, 80) := by kernel_rfl
/-- Values under way in a row of the call's own. -/
def RowRp (base : Nat) (acc : List JV) (vl : Value) (W : World) : Prop :=
  ∃ rows, W.ownsRow base 35 5 vl acc.length rows.flatten ∧ RdL W (fun i => base ≤ i ∧ i < W.heap.size ∧ vl.ownBlock ≠ some i) acc rows
theorem RowRp.up {base : Nat} {acc : List JV} {vl : Value} {W W' : World} (h : RowRp base acc vl W) (hb : Below W.heap.size W W') : RowRp base acc vl W' := by
  obtain ⟨rows, h1, h2⟩ := h
  exact ⟨rows, owns_below h1 hb (Nat.le_refl _), (h2.up hb).mono (fun i hi hF => ⟨hF.1, hi, hF.2.2⟩)⟩
theorem RowRp.add {base B0 : Nat} {acc : List JV} {vl : Value} {rows : List (List Value)} {W w4 : World} {g cap : Nat} {v : JV} {cs : List Value} {ob : Obj} (_ : W.ownsRow base 35 5 vl acc.length rows.flatten) (h4 : RdL W (fun i => base ≤ i ∧ i < W.heap.size ∧ vl.ownBlock ≠ some i) acc rows) (hB : base ≤ B0)
    (hvb : ∀ k, vl.ownBlock = some k → k < B0) (hv : RdJ W (fun i => B0 ≤ i) v cs)
    (ho : w4.ownsRow base 35 5 (.slice (some ⟨g, 0, none⟩) (acc.length + 1) cap) (acc.length + 1) (rows.flatten ++ cs)) (hg : (W.alloc ob).grownBy w4 vl.ownBlock) (hl : vl.ownBlock = some g ∨ g = W.heap.size + 1) :
    RowRp base (acc ++ [v]) (.slice (some ⟨g, 0, none⟩) (acc.length + 1) cap) w4 ∧ Frm (fun i => vl.ownBlock = some i) W w4 := by
  have f1 : Frm (fun i => vl.ownBlock = some i) W w4 := (Frm.of_below (below_alloc W ob)).trans (Frm.of_grown hg (fun k hk => hk)) (fun _ _ h => h)
  refine ⟨⟨rows ++ [cs], ?_, RdL.snoc ?_ ?_⟩, f1⟩
  · rw [List.flatten_append, List.length_append]
    simp only [List.flatten_cons, List.flatten_nil, List.append_nil, List.length_singleton]
    exact ho
  · refine RdJ.mono (F := fun i => B0 ≤ i ∧ i < W.heap.size) ?_ (fun i hi hF => ⟨by omega, hi, fun e => ?_⟩)
    · exact (hv.mono (G := fun i => B0 ≤ i ∧ i < W.heap.size) (fun i hi hF => ⟨hF, hi⟩)).frm f1 (fun i hi e => by have := hvb i e; omega)
    · simp only [Value.ownBlock, Option.some.injEq] at e
      subst e
      rcases hl with h | h
      · have := hvb _ h; omega
      · omega
  · have := h4.frm f1 (fun i hi e => hi.2.2 e)
    refine this.mono (fun i hi hF => ⟨hF.1, hi, fun e => ?_⟩)
    simp only [Value.ownBlock, Option.some.injEq] at e
    subst e
    rcases hl with h | h
    · exact hF.2.2 h
    · omega
theorem RowRp.frm {F : Nat → Prop} {base : Nat} {acc : List JV} {vl : Value} {W W' : World} (h : RowRp base acc vl W) (hf : Frm F W W') (hF : ∀ i, F i → i < base) : RowRp base acc vl W' := by
  obtain ⟨rows, h1, h2⟩ := h
  refine ⟨rows, owns_frm h1 hf (fun k hk e => by have := hF k e; have := (h1.lt k hk).1; omega), ?_⟩
  exact (h2.frm hf (fun i hi e => by have := hF i e; omega)).mono (fun i hi hF => ⟨hF.1, Nat.lt_of_lt_of_le hF.2.1 hf.size, hF.2.2⟩)
/-- A list under way: the reader, the result's box, the list's box, its parts. -/
structure LsR (w : World) (b : Nat) (t : List UInt8) (q x : Nat) (acc : List JV) (vl : Value) (W : World) : Prop where
  js : JSt w b t q x W
  z : W.heap[w.heap.size]? = some (.cells #[.int .i64 0, .int .i64 0, str [], .slice none 0 0, .slice none 0 0] 35 (0, 0))
  v : W.heap[w.heap.size + 1]? = some (.cells #[.int .i64 6, .int .i64 0, str [], vl, .slice none 0 0] 35 (0, 0))
  row : RowRp (w.heap.size + 2) acc vl W
  lt : b < w.heap.size
section
variable {w W W' : World} {b q x : Nat} {t : List UInt8} {acc : List JV} {vl : Value}
theorem LsR.sz (h : LsR w b t q x acc vl W) : w.heap.size + 2 ≤ W.heap.size := (Array.getElem?_eq_some_iff.1 h.v).1
theorem LsR.vb (h : LsR w b t q x acc vl W) : ∀ k, vl.ownBlock = some k → w.heap.size + 2 ≤ k ∧ k < W.heap.size := by
  obtain ⟨rows, h1, _⟩ := h.row
  exact fun k hk => h1.lt k hk
theorem LsR.up (h : LsR w b t q x acc vl W) (hb : Below W.heap.size W W') : LsR w b t q x acc vl W' :=
  ⟨h.js.below hb, box_up h.z hb, box_up h.v hb, h.row.up hb, h.lt⟩
theorem LsR.rd {q' x' : Nat} (h : LsR w b t q x acc vl W) (hs : JSt W b t q' x' W') : LsR w b t q' x' acc vl W' :=
  ⟨h.js.trans hs, box_frm h.z hs.2 (by have := h.lt; omega), box_frm h.v hs.2 (by have := h.lt; omega), h.row.frm hs.2 (fun i e => by have := h.lt; omega), h.lt⟩
/-- A part more. -/
theorem LsR.add {w4 : World} {g cap B0 : Nat} {v : JV} {cs : List Value} {rows : List (List Value)} {ob : Obj} (h : LsR w b t q x acc vl W) (h1 : W.ownsRow (w.heap.size + 2) 35 5 vl acc.length rows.flatten) (h4 : RdL W (fun i => w.heap.size + 2 ≤ i ∧ i < W.heap.size ∧ vl.ownBlock ≠ some i) acc rows)
    (hB0 : w.heap.size + 2 ≤ B0) (hvb : ∀ k, vl.ownBlock = some k → k < B0) (hv : RdJ W (fun i => B0 ≤ i) v cs)
    (ho : w4.ownsRow (w.heap.size + 2) 35 5 (.slice (some ⟨g, 0, none⟩) (acc.length + 1) cap) (acc.length + 1) (rows.flatten ++ cs)) (hg : (W.alloc ob).grownBy w4 vl.ownBlock) (hl : vl.ownBlock = some g ∨ g = W.heap.size + 1) :
    LsR w b t q x (acc ++ [v]) (.slice (some ⟨g, 0, none⟩) (acc.length + 1) cap) (w4.setCell ⟨w.heap.size + 1, 3, none⟩ (.slice (some ⟨g, 0, none⟩) (acc.length + 1) cap)) ∧ w4.cell? ⟨w.heap.size + 1, 3, none⟩ = some vl ∧ w4.frozen? ⟨w.heap.size + 1, 3, none⟩ = false := by
  obtain ⟨h5, h6⟩ := RowRp.add h1 h4 hB0 hvb hv ho hg hl
  have hvk := h.vb
  have hnv : ∀ i, i < w.heap.size + 2 → ¬ vl.ownBlock = some i := fun i hi e => by have := (hvk i e).1; omega
  have hbx : w4.heap[w.heap.size + 1]? = some (.cells #[.int .i64 6, .int .i64 0, str [], vl, .slice none 0 0] 35 (0, 0)) := box_frm h.v h6 (hnv _ (by omega))
  have hzx : w4.heap[w.heap.size]? = some (.cells #[.int .i64 0, .int .i64 0, str [], .slice none 0 0, .slice none 0 0] 35 (0, 0)) := box_frm h.z h6 (hnv _ (by omega))
  have hjs : JSt w b t q x w4 := h.js.grow h6 (fun i e => by have := (hvk i e).1; have := h.lt; omega)
  have f2 : Frm (fun i => i = w.heap.size + 1) w4 (w4.setCell ⟨w.heap.size + 1, 3, none⟩ (.slice (some ⟨g, 0, none⟩) (acc.length + 1) cap)) := Frm.set _ rfl
  refine ⟨⟨hjs.grow f2 (fun i e => by have := h.lt; omega), box_frm hzx f2 (by omega), ?_, h5.frm f2 (fun i e => by omega), h.lt⟩, by simp [World.cell?, hbx], frozen_of_row w4 (w.heap.size + 1) 3 _ _ hbx⟩
  exact box_set hbx 3 _
/-- What the list's box reads as. -/
theorem LsR.val (h : LsR w b t q x acc vl W) {W9 : World} (hf : Frm (fun i => i = w.heap.size) W W9) : ∃ a c, vl = .slice a acc.length c ∧ RdJ W9 (fun i => w.heap.size ≤ i) (.mk 6 0 [] acc []) [.int .i64 6, .int .i64 0, str [], .slice a acc.length c, .slice none 0 0] := by
  obtain ⟨rows, h3, h4⟩ := h.row
  obtain ⟨r1, r2⟩ := RdL.rows h4
  have hvk := h.vb
  obtain ⟨a, c, rfl⟩ := own_slice h3
  refine ⟨a, c, rfl, ?_⟩
  have h3' : RdFB (fun i => w.heap.size + 2 ≤ i) 5 W (.slice a acc.length c) rows := by
    rw [← r1] at h3 hvk ⊢
    exact RdFB.of_row r2 h3 (fun k hk => (hvk k hk).1)
  unfold RdJ
  refine ⟨_, _, rfl, ⟨rows, ?_, ?_⟩, [], RdFB.nil _ _ _, by unfold RdM; trivial⟩
  · exact (h3'.frm hf (fun i hi e => by omega)).mono (fun i _ hi => by omega) (fun r hr => by rw [r2 r hr]; omega)
  · exact (h4.frm hf (fun i hi e => by omega)).mono (fun i _ hi => by omega)
end
/-- What the loop of list keeps. -/
def LpR (t : List UInt8) (w : World) (b : Nat) (f : Nat → JR JV) (R : JR (List JV)) (n : Nat) (W : World) : Prop :=
  ∃ q acc vl, q ≤ t.length ∧ t.length - q < n ∧ acc.length + n ≤ t.length + 1 ∧ itsP f t n q acc = R ∧ LsR w b t q 0 acc vl W
set_option maxRecDepth 100000 in
set_option maxHeartbeats 8000000 in
theorem rlist_any (t : List UInt8) (b p : Nat) (op : Int) (w : World) (f : Nat → JR JV) (CV : ∀ W q, JRb W b t q 0 → q ≤ t.length → Calls Tryz.prog 26 #[.pointer (some ⟨b, 0, none⟩), .int .i64 op] W (RV t W b (f q)))
    (hf : ∀ q v q1, f q = .ok v q1 → q ≤ q1) (hfe : f t.length = .err 2) (h : JRb w b t p 0) (hp : p < t.length) (hl : t.length ≤ 1000000) :
    Calls Tryz.prog 49 #[.pointer (some ⟨b, 0, none⟩), .int .i64 op] w (RV t w b (lstV (lstP f t p))) := by
  obtain ⟨i0, hi, hz0, hz1, hz2⟩ := info_parts infoRp
  have CV := Lib.hid CV
  have HF := Lib.hid (And.intro hf hfe)
  obtain ⟨Wa, hWa, hba, hbx, hsz⟩ := zero_box w
  have hb := h.lt
  have ha := h.below hba
  obtain ⟨r, hr⟩ : ∃ r, r = lstV (lstP f t p) := ⟨_, rfl⟩
  rw [← hr]
  have HRR := Lib.hid hr
  have HA := Lib.hid (And.intro hba (And.intro hbx (And.intro hsz (And.intro ha hb))))
  clear hr hba hbx hsz ha hb h hf hfe
  go_enter Tryz.func49, Tryz.ntmps49
  go_upto_region 1 with fail
  rw [← hWa]
  clear hWa
  go_upto_region 2 with fail
  refine wp_any_world (fun W => W.heap[Wa.heap.size]? = some (.cells #[.int .i64 6, .int .i64 0, str [], .slice none 0 0, .slice none 0 0] 35 (0, 0)) ∧ Below Wa.heap.size Wa W) ⟨heap_alloc_new _ _, below_alloc _ _⟩ ?_
  rintro W1 ⟨hv1, hb1⟩
  have HL : Hid (LsR w b t p 0 [] (.slice none 0 0) W1) := Lib.hid (by
    obtain ⟨hba, hbx, hsz, ha, hb⟩ := HA.out
    rw [hsz] at hv1
    exact ⟨⟨ha.below hb1, (Frm.of_below hba).trans (Frm.of_below (F := fun i => i = b) hb1) (fun _ _ h => h)⟩, box_up hbx hb1, hv1, ⟨[], World.ownsRow_nil _ _ _ _, by unfold RdL; trivial⟩, hb⟩)
  rw [HA.out.2.2.1]
  clear hv1 hb1 HA
  have CE := Lib.hid (rempty_any t b p 0 93 W1 HL.out.js.1 hp (by omega))
  go_wp2_with fail
  refine CE.out.mono ?_
  rintro e W2 ⟨z, q, rfl, hq, hs2, hem⟩
  have HL2 := Lib.hid (HL.out.rd hs2)
  have HEM := Lib.hid hem
  clear CE hs2 hem HL
  cases z with
  | true =>
    have HE : Hid (r = .ok (.mk 6 0 [] [] []) q) := Lib.hid (by
      rw [HRR.out]
      have h := HEM.out
      unfold EmR at h
      unfold lstP
      cases hx : entP t 93 p with
      | err c => rw [hx] at h; cases h.1
      | ok d q0 =>
        rw [hx] at h
        cases d with
        | true => rw [h.2]; rfl
        | false => cases h.1)
    have hz := HL2.out.z
    have hv := HL2.out.v
    have v0 := box_cell hv 0
    have v1 := box_cell hv 1
    have v2 := box_cell hv 2
    have v3 := box_cell hv 3
    have v4 := box_cell hv 4
    have HX := Lib.hid (And.intro hz HL2.out.js)
    have b0 := box_cell hz 0
    have b1 := box_cell hz 1
    have b2 := box_cell hz 2
    have b3 := box_cell hz 3
    have b4 := box_cell hz 4
    have hfz := box_fr hz
    clear hz hv HEM HRR
    go_wp2_with fail
    refine bodyPost_any_world (fun W => W.heap[w.heap.size]? = some (.cells #[.int .i64 6, .int .i64 0, str [], .slice none 0 0, .slice none 0 0] 35 (0, 0)) ∧ Frm (fun i => i = w.heap.size) W2 W) (five_set HX.out.1 _ _ _ _ _) ?_
    clear b0 b1 b2 b3 b4 hfz
    rintro w9 ⟨h9, hf9⟩
    have k0 := box_cell h9 0
    have k1 := box_cell h9 1
    have k2 := box_cell h9 2
    have k3 := box_cell h9 3
    have k4 := box_cell h9 4
    refine bodyPost_ret (v := .agg #[.int .i64 6, .int .i64 0, str [], .slice none 0 0, .slice none 0 0]) (by simp [results, Tryz.results49, go_sem, k0, k1, k2, k3, k4]) rfl ?_
    obtain ⟨a, c, e, hv9⟩ := HL2.out.val hf9
    cases e
    exact ⟨_, _, q, 0, rfl, hv9, JSt.grow HX.out.2 hf9 (fun i e => by have := HL2.out.lt; omega), hq, by rw [HE.out]; exact ⟨rfl, rfl, rfl⟩⟩
  | false =>
    have HST : Hid (∃ R, r = lstV R ∧ LpR t w b f R (t.length + 1) W2) := Lib.hid (by
      have h := HEM.out
      unfold EmR at h
      have hr := HRR.out
      unfold lstP at hr
      cases hx : entP t 93 p with
      | err c =>
        rw [hx] at h hr
        refine ⟨.err 2, by rw [hr, h.2.2], t.length, [], _, Nat.le_refl _, by omega, by simp, ?_, by rw [← h.2.1]; exact HL2.out⟩
        rw [itsP, HF.out.2]
      | ok d q0 =>
        rw [hx] at h hr
        cases d with
        | true => cases h.1
        | false =>
          dsimp only at hr
          exact ⟨_, hr, q, [], _, hq, by omega, by simp, by rw [h.2], HL2.out⟩)
    obtain ⟨R, hrR, hst⟩ := HST.out
    have HR := Lib.hid hrR
    have HLP := Lib.hid hst
    clear hrR hst HST HEM HL2 HRR hq
    go_wp2_with fail
    go_loopg [] (t.length + 1) (fun n wr => Hid (LpR t w b f R n wr))
    case atStart => exact HLP
    case round =>
      obtain ⟨q, acc, vl, hq, hqn, han, hits, hls⟩ := hrel.out
      have HQ := Lib.hid (And.intro hq (And.intro hqn (And.intro han hits)))
      have hal : acc.length ≤ 1000000 := by omega
      obtain ⟨W0, hW0⟩ : ∃ W0, W0 = wr.drew := ⟨_, rfl⟩
      have HP : Hid (LsR w b t q 0 acc vl W0) := Lib.hid (by rw [hW0]; exact hls.up (Below.drewsN (Below.refl _ _) 1))
      have HW := Lib.hid hW0
      have HBX := Lib.hid HP.out.v
      clear hq hqn han hits hls hrel HLP
      go_wp2_with fail
      refine wp_region_held_drew (S := (fun _ => True)) (by kernel_rfl) trivial (fun hHeld => ?_)
      rw [← hW0]
      clear hHeld hW0
      have hHeld : (fun _ : World => True) W0 := trivial
      refine wpAnyH_take (i := 0) (v := ?v1) rfl (by kernel_rfl) (by kernel_rfl) (by kernel_rfl) (fun _ _ _ h => h) (Or.inl ⟨by rfl, ?hy1⟩) (by assumption) ?_
      case hy1 => (intro w hSw; clear hSw; go_simp; try with_reducible rfl)
      go_simp
      refine wpAnyH_take (i := 2) (v := ?v2) rfl (by kernel_rfl) (by kernel_rfl) (by kernel_rfl) (fun _ _ _ h => h) (Or.inl ⟨by rfl, ?hy2⟩) (by assumption) ?_
      case hy2 => (intro w hSw; clear hSw; go_simp; try with_reducible rfl)
      go_simp
      refine wpAnyH_take (i := 3) (v := ?v3) rfl (by kernel_rfl) (by kernel_rfl) (by kernel_rfl) (fun _ _ _ h => h) (Or.inl ⟨by rfl, ?hy3⟩) (by assumption) ?_
      case hy3 => (intro w hSw; clear hSw; go_simp; try with_reducible rfl)
      go_simp
      refine wpAnyH_ready (rs := [1, 4]) (by kernel_rfl) (by simp) (AllReadyH.cons rfl (fun K hK => ?_) (AllReadyH.cons rfl (fun K hK => ?_) AllReadyH.nil))
      · have cq := box_cell HBX.out 3
        go_simp
        clear cq
        refine hK.out _ _ (trivial) (fun hHeld => ?_)
        clear hK K
        refine wpAnyH_ready (rs := [4]) (by kernel_rfl) (by simp) (AllReadyH.cons rfl (fun K hK => ?_) AllReadyH.nil)
        go_simp
        refine (CV.out _ q HP.out.js.1 HQ.out.1).mono ?_
        rintro e wq ⟨v, cs, q1, x, rfl, hv, hs2, hq1, hres⟩
        have HV := Lib.hid hv
        obtain ⟨al, ll, cl, am, lm, cm, rfl, _, _⟩ := hv.open
        have HVB : Hid (∀ k, vl.ownBlock = some k → k < W0.heap.size) := Lib.hid (fun k hk => (HP.out.vb k hk).2)
        have HSZ : Hid (w.heap.size + 2 ≤ W0.heap.size) := Lib.hid HP.out.sz
        have HP := Lib.hid (HP.out.rd hs2)
        have HBX := Lib.hid HP.out.v
        have HQ1 := Lib.hid (And.intro hq1 hres)
        clear hs2 hv hq1 hres
        go_simp
        refine hK.out _ _ (trivial) (fun hHeld => ?_)
        clear hK K
        refine wpAnyH_ready (rs := [5]) (by kernel_rfl) (by simp) (AllReadyH.cons rfl (fun K hK => ?_) AllReadyH.nil)
        go_simp
        obtain ⟨WM, hWM⟩ : ∃ W, W = wq.alloc (.cells #[.int .i64 v.kind, .int .i64 v.n, str v.s, .slice al ll cl, .slice am lm cm] 35) := ⟨_, rfl⟩
        have HM1 := Lib.hid hWM
        have HBX := Lib.hid (box_up HP.out.v (w' := WM) (by rw [hWM]; exact below_alloc _ _))
        rw [← hWM]
        clear hWM
        refine hK.out _ _ (trivial) (fun hHeld => ?_)
        clear hK K
        refine wpAnyH_ready (rs := [6]) (by kernel_rfl) (by simp) (AllReadyH.cons rfl (fun K hK => ?_) AllReadyH.nil)
        obtain ⟨rows, ho0, hr0⟩ := HP.out.row
        refine step_append_lies _ (by rfl) _ _ 32 (by rfl) (w.heap.size + 2) 35 i0 _ 5 80 Tryz.underlying32 hi hz0 hz1 hz2 rfl (by decide) vl acc.length rows.flatten (by rfl) (owns_frm (F := fun _ => False) ho0 (Frm.of_below (by rw [HM1.out]; exact below_alloc _ _)) (fun _ _ h => h)) ⟨wq.heap.size, 0, none⟩ 1 1 [.int .i64 v.kind, .int .i64 v.n, str v.s, .slice al ll cl, .slice am lm cm] (by rfl) (by rfl) (World.news_of_block (by rw [HM1.out]; exact heap_alloc_new _ _)) (by simp [Value.oneCell']) (by decide) (by simp only [maxLen]; omega) (by omega) (by have := HP.out.sz; rw [HM1.out]; simp; omega) _ rfl ?_
        intro g cap w4 ho hg hl4 _
        rw [HM1.out] at hg hl4
        have HAD := Lib.hid (LsR.add HP.out ho0 hr0 HSZ.out HVB.out HV.out ho hg (by simpa using hl4))
        clear ho hg hl4 ho0 hr0
        go_simp
        refine hK.out _ _ (trivial) (fun hHeld => ?_)
        clear hK K
        refine wpAnyH_take (i := 7) (v := ?v4) rfl (by kernel_rfl) (by kernel_rfl) (by kernel_rfl) (fun _ _ _ h => h) (Or.inl ⟨by rfl, ?hy4⟩) (by assumption) ?_
        case hy4 => (intro w hSw; clear hSw; go_simp; try with_reducible rfl)
        go_simp
        refine wpAnyH_ready (rs := [8]) (by kernel_rfl) (by simp) (AllReadyH.cons rfl (fun K hK => ?_) AllReadyH.nil)
        have cq := HAD.out.2.1
        have fq := HAD.out.2.2
        go_simp
        clear cq fq
        refine hK.out _ _ (trivial) (fun hHeld => ?_)
        clear hK K
        refine wpAnyH_done (by kernel_rfl) ?_ _
        have HN := Lib.hid HAD.out.1
        clear HAD HP HVB HSZ HV HM1 HW HBX
        skip
        have CB := Lib.hid (rnext_any t b q1 x 93 _ HN.out.js.1 HQ1.out.1 (by omega) (by decide))
        go_wp2_with fail
        refine CB.out.mono ?_
        rintro e w7 ⟨z, q2, y, rfl, hq2, hs7, hnx⟩
        have HL7 := Lib.hid (HN.out.rd hs7)
        have HNX := Lib.hid (And.intro hq2 hnx)
        clear hq2 hs7 hnx HN CB
        cases z with
        | true =>
          have HST : Hid (∃ m, m < gk ∧ LpR t w b f R m w7) := Lib.hid (by
            obtain ⟨hq, hqn, han, hits⟩ := HQ.out
            obtain ⟨m, rfl⟩ : ∃ m, gk = m + 1 := ⟨gk - 1, by omega⟩
            have hx0 : x = 0 := Classical.byContradiction fun g => by have := (HNX.out.2.1 g).1; cases this
            have hn := HNX.out.2.2 hx0
            have hr := HQ1.out.2
            rw [itsP] at hits
            cases hfq : f q with
            | err c =>
              rw [hfq] at hr
              unfold Res at hr
              exact absurd (hr.1.symm.trans hx0) hr.2
            | ok v0 q0 =>
              rw [hfq] at hr hits
              unfold Res at hr
              obtain ⟨rfl, rfl, _⟩ := hr
              have hqq := HF.out.1 q v q1 hfq
              dsimp only at hits
              cases hbh : behP t 93 q1 with
              | err c => rw [hbh] at hn; cases hn.1
              | ok d0 r0 =>
                have hlt := behP_lt hbh
                rw [hbh] at hn hits
                cases d0 with
                | true => cases hn.1
                | false =>
                  obtain ⟨_, rfl, rfl⟩ := hn
                  exact ⟨m, by omega, q2, acc ++ [v], _, HNX.out.1, by have := HNX.out.1; omega, by simp; omega, hits, HL7.out⟩)
          obtain ⟨m, hm, hlp⟩ := HST.out
          have HM := Lib.hid hm
          have HLP2 := Lib.hid hlp
          clear hm hlp HST HL7 HNX HQ HQ1
          go_wp2_with fail
          go_roundg m
          case measure => exact HM.out
          case rel => exact HLP2
        | false =>
          have HE : Hid (Res r (.mk 6 0 [] (acc ++ [v]) []) q2 y) := Lib.hid (by
            obtain ⟨hq, hqn, han, hits⟩ := HQ.out
            obtain ⟨m, rfl⟩ : ∃ m, gk = m + 1 := ⟨gk - 1, by omega⟩
            rw [HR.out]
            rw [itsP] at hits
            have hr := HQ1.out.2
            cases hfq : f q with
            | err c =>
              rw [hfq] at hr hits
              unfold Res at hr
              rw [← hits]
              have hy := (HNX.out.2.1 (by rw [hr.1]; exact hr.2)).2
              exact ⟨by rw [hy, hr.1], hr.2⟩
            | ok v0 q0 =>
              rw [hfq] at hr hits
              unfold Res at hr
              obtain ⟨rfl, rfl, rfl⟩ := hr
              have hn := HNX.out.2.2 rfl
              dsimp only at hits
              cases hbh : behP t 93 q1 with
              | err c =>
                rw [hbh] at hn hits
                rw [← hits]
                exact ⟨hn.2.1, hn.2.2⟩
              | ok d0 r0 =>
                rw [hbh] at hn hits
                cases d0 with
                | true =>
                  obtain ⟨_, rfl, rfl⟩ := hn
                  rw [← hits]
                  exact ⟨rfl, rfl, rfl⟩
                | false => cases hn.1)
          have hz := HL7.out.z
          have hv := HL7.out.v
          have v0 := box_cell hv 0
          have v1 := box_cell hv 1
          have v2 := box_cell hv 2
          have v3 := box_cell hv 3
          have v4 := box_cell hv 4
          have HX := Lib.hid (And.intro hz HL7.out.js)
          have b0 := box_cell hz 0
          have b1 := box_cell hz 1
          have b2 := box_cell hz 2
          have b3 := box_cell hz 3
          have b4 := box_cell hz 4
          have hfz := box_fr hz
          clear hz hv
          go_wp2_with fail
          refine bodyPost_any_world (fun W => W.heap[w.heap.size]? = some (.cells #[.int .i64 6, .int .i64 0, str [], .slice (some ⟨g, 0, none⟩) (acc.length + 1) cap, .slice none 0 0] 35 (0, 0)) ∧ Frm (fun i => i = w.heap.size) w7 W) (five_set HX.out.1 _ _ _ _ _) ?_
          clear b0 b1 b2 b3 b4 hfz
          rintro w9 ⟨h9, hf9⟩
          have k0 := box_cell h9 0
          have k1 := box_cell h9 1
          have k2 := box_cell h9 2
          have k3 := box_cell h9 3
          have k4 := box_cell h9 4
          refine bodyPost_ret (v := .agg #[.int .i64 6, .int .i64 0, str [], .slice (some ⟨g, 0, none⟩) (acc.length + 1) cap, .slice none 0 0]) (by simp [results, Tryz.results49, go_sem, k0, k1, k2, k3, k4]) rfl ?_
          obtain ⟨a9, c9, e9, hv9⟩ := HL7.out.val hf9
          simp only [Value.slice.injEq] at e9
          obtain ⟨rfl, e10, rfl⟩ := e9
          rw [← e10] at hv9
          exact ⟨_, _, q2, y, rfl, hv9, JSt.grow HX.out.2 hf9 (fun i e => by have := HL7.out.lt; omega), HNX.out.1, HE.out⟩
      · go_simp
        refine (CV.out _ q HP.out.js.1 HQ.out.1).mono ?_
        rintro e wq ⟨v, cs, q1, x, rfl, hv, hs2, hq1, hres⟩
        have HV := Lib.hid hv
        obtain ⟨al, ll, cl, am, lm, cm, rfl, _, _⟩ := hv.open
        have HVB : Hid (∀ k, vl.ownBlock = some k → k < W0.heap.size) := Lib.hid (fun k hk => (HP.out.vb k hk).2)
        have HSZ : Hid (w.heap.size + 2 ≤ W0.heap.size) := Lib.hid HP.out.sz
        have HP := Lib.hid (HP.out.rd hs2)
        have HBX := Lib.hid HP.out.v
        have HQ1 := Lib.hid (And.intro hq1 hres)
        clear hs2 hv hq1 hres
        go_simp
        refine hK.out _ _ (trivial) (fun hHeld => ?_)
        clear hK K
        refine wpAnyH_ready (rs := [1, 5]) (by kernel_rfl) (by simp) (AllReadyH.cons rfl (fun K hK => ?_) (AllReadyH.cons rfl (fun K hK => ?_) AllReadyH.nil))
        · have cq := box_cell HBX.out 3
          go_simp
          clear cq
          refine hK.out _ _ (trivial) (fun hHeld => ?_)
          clear hK K
          refine wpAnyH_ready (rs := [5]) (by kernel_rfl) (by simp) (AllReadyH.cons rfl (fun K hK => ?_) AllReadyH.nil)
          go_simp
          obtain ⟨WM, hWM⟩ : ∃ W, W = wq.alloc (.cells #[.int .i64 v.kind, .int .i64 v.n, str v.s, .slice al ll cl, .slice am lm cm] 35) := ⟨_, rfl⟩
          have HM1 := Lib.hid hWM
          have HBX := Lib.hid (box_up HP.out.v (w' := WM) (by rw [hWM]; exact below_alloc _ _))
          rw [← hWM]
          clear hWM
          refine hK.out _ _ (trivial) (fun hHeld => ?_)
          clear hK K
          refine wpAnyH_ready (rs := [6]) (by kernel_rfl) (by simp) (AllReadyH.cons rfl (fun K hK => ?_) AllReadyH.nil)
          obtain ⟨rows, ho0, hr0⟩ := HP.out.row
          refine step_append_lies _ (by rfl) _ _ 32 (by rfl) (w.heap.size + 2) 35 i0 _ 5 80 Tryz.underlying32 hi hz0 hz1 hz2 rfl (by decide) vl acc.length rows.flatten (by rfl) (owns_frm (F := fun _ => False) ho0 (Frm.of_below (by rw [HM1.out]; exact below_alloc _ _)) (fun _ _ h => h)) ⟨wq.heap.size, 0, none⟩ 1 1 [.int .i64 v.kind, .int .i64 v.n, str v.s, .slice al ll cl, .slice am lm cm] (by rfl) (by rfl) (World.news_of_block (by rw [HM1.out]; exact heap_alloc_new _ _)) (by simp [Value.oneCell']) (by decide) (by simp only [maxLen]; omega) (by omega) (by have := HP.out.sz; rw [HM1.out]; simp; omega) _ rfl ?_
          intro g cap w4 ho hg hl4 _
          rw [HM1.out] at hg hl4
          have HAD := Lib.hid (LsR.add HP.out ho0 hr0 HSZ.out HVB.out HV.out ho hg (by simpa using hl4))
          clear ho hg hl4 ho0 hr0
          go_simp
          refine hK.out _ _ (trivial) (fun hHeld => ?_)
          clear hK K
          refine wpAnyH_take (i := 7) (v := ?v5) rfl (by kernel_rfl) (by kernel_rfl) (by kernel_rfl) (fun _ _ _ h => h) (Or.inl ⟨by rfl, ?hy5⟩) (by assumption) ?_
          case hy5 => (intro w hSw; clear hSw; go_simp; try with_reducible rfl)
          go_simp
          refine wpAnyH_ready (rs := [8]) (by kernel_rfl) (by simp) (AllReadyH.cons rfl (fun K hK => ?_) AllReadyH.nil)
          have cq := HAD.out.2.1
          have fq := HAD.out.2.2
          go_simp
          clear cq fq
          refine hK.out _ _ (trivial) (fun hHeld => ?_)
          clear hK K
          refine wpAnyH_done (by kernel_rfl) ?_ _
          have HN := Lib.hid HAD.out.1
          clear HAD HP HVB HSZ HV HM1 HW HBX
          skip
          have CB := Lib.hid (rnext_any t b q1 x 93 _ HN.out.js.1 HQ1.out.1 (by omega) (by decide))
          go_wp2_with fail
          refine CB.out.mono ?_
          rintro e w7 ⟨z, q2, y, rfl, hq2, hs7, hnx⟩
          have HL7 := Lib.hid (HN.out.rd hs7)
          have HNX := Lib.hid (And.intro hq2 hnx)
          clear hq2 hs7 hnx HN CB
          cases z with
          | true =>
            have HST : Hid (∃ m, m < gk ∧ LpR t w b f R m w7) := Lib.hid (by
              obtain ⟨hq, hqn, han, hits⟩ := HQ.out
              obtain ⟨m, rfl⟩ : ∃ m, gk = m + 1 := ⟨gk - 1, by omega⟩
              have hx0 : x = 0 := Classical.byContradiction fun g => by have := (HNX.out.2.1 g).1; cases this
              have hn := HNX.out.2.2 hx0
              have hr := HQ1.out.2
              rw [itsP] at hits
              cases hfq : f q with
              | err c =>
                rw [hfq] at hr
                unfold Res at hr
                exact absurd (hr.1.symm.trans hx0) hr.2
              | ok v0 q0 =>
                rw [hfq] at hr hits
                unfold Res at hr
                obtain ⟨rfl, rfl, _⟩ := hr
                have hqq := HF.out.1 q v q1 hfq
                dsimp only at hits
                cases hbh : behP t 93 q1 with
                | err c => rw [hbh] at hn; cases hn.1
                | ok d0 r0 =>
                  have hlt := behP_lt hbh
                  rw [hbh] at hn hits
                  cases d0 with
                  | true => cases hn.1
                  | false =>
                    obtain ⟨_, rfl, rfl⟩ := hn
                    exact ⟨m, by omega, q2, acc ++ [v], _, HNX.out.1, by have := HNX.out.1; omega, by simp; omega, hits, HL7.out⟩)
            obtain ⟨m, hm, hlp⟩ := HST.out
            have HM := Lib.hid hm
            have HLP2 := Lib.hid hlp
            clear hm hlp HST HL7 HNX HQ HQ1
            go_wp2_with fail
            go_roundg m
            case measure => exact HM.out
            case rel => exact HLP2
          | false =>
            have HE : Hid (Res r (.mk 6 0 [] (acc ++ [v]) []) q2 y) := Lib.hid (by
              obtain ⟨hq, hqn, han, hits⟩ := HQ.out
              obtain ⟨m, rfl⟩ : ∃ m, gk = m + 1 := ⟨gk - 1, by omega⟩
              rw [HR.out]
              rw [itsP] at hits
              have hr := HQ1.out.2
              cases hfq : f q with
              | err c =>
                rw [hfq] at hr hits
                unfold Res at hr
                rw [← hits]
                have hy := (HNX.out.2.1 (by rw [hr.1]; exact hr.2)).2
                exact ⟨by rw [hy, hr.1], hr.2⟩
              | ok v0 q0 =>
                rw [hfq] at hr hits
                unfold Res at hr
                obtain ⟨rfl, rfl, rfl⟩ := hr
                have hn := HNX.out.2.2 rfl
                dsimp only at hits
                cases hbh : behP t 93 q1 with
                | err c =>
                  rw [hbh] at hn hits
                  rw [← hits]
                  exact ⟨hn.2.1, hn.2.2⟩
                | ok d0 r0 =>
                  rw [hbh] at hn hits
                  cases d0 with
                  | true =>
                    obtain ⟨_, rfl, rfl⟩ := hn
                    rw [← hits]
                    exact ⟨rfl, rfl, rfl⟩
                  | false => cases hn.1)
            have hz := HL7.out.z
            have hv := HL7.out.v
            have v0 := box_cell hv 0
            have v1 := box_cell hv 1
            have v2 := box_cell hv 2
            have v3 := box_cell hv 3
            have v4 := box_cell hv 4
            have HX := Lib.hid (And.intro hz HL7.out.js)
            have b0 := box_cell hz 0
            have b1 := box_cell hz 1
            have b2 := box_cell hz 2
            have b3 := box_cell hz 3
            have b4 := box_cell hz 4
            have hfz := box_fr hz
            clear hz hv
            go_wp2_with fail
            refine bodyPost_any_world (fun W => W.heap[w.heap.size]? = some (.cells #[.int .i64 6, .int .i64 0, str [], .slice (some ⟨g, 0, none⟩) (acc.length + 1) cap, .slice none 0 0] 35 (0, 0)) ∧ Frm (fun i => i = w.heap.size) w7 W) (five_set HX.out.1 _ _ _ _ _) ?_
            clear b0 b1 b2 b3 b4 hfz
            rintro w9 ⟨h9, hf9⟩
            have k0 := box_cell h9 0
            have k1 := box_cell h9 1
            have k2 := box_cell h9 2
            have k3 := box_cell h9 3
            have k4 := box_cell h9 4
            refine bodyPost_ret (v := .agg #[.int .i64 6, .int .i64 0, str [], .slice (some ⟨g, 0, none⟩) (acc.length + 1) cap, .slice none 0 0]) (by simp [results, Tryz.results49, go_sem, k0, k1, k2, k3, k4]) rfl ?_
            obtain ⟨a9, c9, e9, hv9⟩ := HL7.out.val hf9
            simp only [Value.slice.injEq] at e9
            obtain ⟨rfl, e10, rfl⟩ := e9
            rw [← e10] at hv9
            exact ⟨_, _, q2, y, rfl, hv9, JSt.grow HX.out.2 hf9 (fun i e => by have := HL7.out.lt; omega), HNX.out.1, HE.out⟩
        · go_simp
          obtain ⟨WM, hWM⟩ : ∃ W, W = wq.alloc (.cells #[.int .i64 v.kind, .int .i64 v.n, str v.s, .slice al ll cl, .slice am lm cm] 35) := ⟨_, rfl⟩
          have HM1 := Lib.hid hWM
          have HBX := Lib.hid (box_up HP.out.v (w' := WM) (by rw [hWM]; exact below_alloc _ _))
          rw [← hWM]
          clear hWM
          refine hK.out _ _ (trivial) (fun hHeld => ?_)
          clear hK K
          refine wpAnyH_ready (rs := [1]) (by kernel_rfl) (by simp) (AllReadyH.cons rfl (fun K hK => ?_) AllReadyH.nil)
          have cq := box_cell HBX.out 3
          go_simp
          clear cq
          refine hK.out _ _ (trivial) (fun hHeld => ?_)
          clear hK K
          refine wpAnyH_ready (rs := [6]) (by kernel_rfl) (by simp) (AllReadyH.cons rfl (fun K hK => ?_) AllReadyH.nil)
          obtain ⟨rows, ho0, hr0⟩ := HP.out.row
          refine step_append_lies _ (by rfl) _ _ 32 (by rfl) (w.heap.size + 2) 35 i0 _ 5 80 Tryz.underlying32 hi hz0 hz1 hz2 rfl (by decide) vl acc.length rows.flatten (by rfl) (owns_frm (F := fun _ => False) ho0 (Frm.of_below (by rw [HM1.out]; exact below_alloc _ _)) (fun _ _ h => h)) ⟨wq.heap.size, 0, none⟩ 1 1 [.int .i64 v.kind, .int .i64 v.n, str v.s, .slice al ll cl, .slice am lm cm] (by rfl) (by rfl) (World.news_of_block (by rw [HM1.out]; exact heap_alloc_new _ _)) (by simp [Value.oneCell']) (by decide) (by simp only [maxLen]; omega) (by omega) (by have := HP.out.sz; rw [HM1.out]; simp; omega) _ rfl ?_
          intro g cap w4 ho hg hl4 _
          rw [HM1.out] at hg hl4
          have HAD := Lib.hid (LsR.add HP.out ho0 hr0 HSZ.out HVB.out HV.out ho hg (by simpa using hl4))
          clear ho hg hl4 ho0 hr0
          go_simp
          refine hK.out _ _ (trivial) (fun hHeld => ?_)
          clear hK K
          refine wpAnyH_take (i := 7) (v := ?v6) rfl (by kernel_rfl) (by kernel_rfl) (by kernel_rfl) (fun _ _ _ h => h) (Or.inl ⟨by rfl, ?hy6⟩) (by assumption) ?_
          case hy6 => (intro w hSw; clear hSw; go_simp; try with_reducible rfl)
          go_simp
          refine wpAnyH_ready (rs := [8]) (by kernel_rfl) (by simp) (AllReadyH.cons rfl (fun K hK => ?_) AllReadyH.nil)
          have cq := HAD.out.2.1
          have fq := HAD.out.2.2
          go_simp
          clear cq fq
          refine hK.out _ _ (trivial) (fun hHeld => ?_)
          clear hK K
          refine wpAnyH_done (by kernel_rfl) ?_ _
          have HN := Lib.hid HAD.out.1
          clear HAD HP HVB HSZ HV HM1 HW HBX
          skip
          have CB := Lib.hid (rnext_any t b q1 x 93 _ HN.out.js.1 HQ1.out.1 (by omega) (by decide))
          go_wp2_with fail
          refine CB.out.mono ?_
          rintro e w7 ⟨z, q2, y, rfl, hq2, hs7, hnx⟩
          have HL7 := Lib.hid (HN.out.rd hs7)
          have HNX := Lib.hid (And.intro hq2 hnx)
          clear hq2 hs7 hnx HN CB
          cases z with
          | true =>
            have HST : Hid (∃ m, m < gk ∧ LpR t w b f R m w7) := Lib.hid (by
              obtain ⟨hq, hqn, han, hits⟩ := HQ.out
              obtain ⟨m, rfl⟩ : ∃ m, gk = m + 1 := ⟨gk - 1, by omega⟩
              have hx0 : x = 0 := Classical.byContradiction fun g => by have := (HNX.out.2.1 g).1; cases this
              have hn := HNX.out.2.2 hx0
              have hr := HQ1.out.2
              rw [itsP] at hits
              cases hfq : f q with
              | err c =>
                rw [hfq] at hr
                unfold Res at hr
                exact absurd (hr.1.symm.trans hx0) hr.2
              | ok v0 q0 =>
                rw [hfq] at hr hits
                unfold Res at hr
                obtain ⟨rfl, rfl, _⟩ := hr
                have hqq := HF.out.1 q v q1 hfq
                dsimp only at hits
                cases hbh : behP t 93 q1 with
                | err c => rw [hbh] at hn; cases hn.1
                | ok d0 r0 =>
                  have hlt := behP_lt hbh
                  rw [hbh] at hn hits
                  cases d0 with
                  | true => cases hn.1
                  | false =>
                    obtain ⟨_, rfl, rfl⟩ := hn
                    exact ⟨m, by omega, q2, acc ++ [v], _, HNX.out.1, by have := HNX.out.1; omega, by simp; omega, hits, HL7.out⟩)
            obtain ⟨m, hm, hlp⟩ := HST.out
            have HM := Lib.hid hm
            have HLP2 := Lib.hid hlp
            clear hm hlp HST HL7 HNX HQ HQ1
            go_wp2_with fail
            go_roundg m
            case measure => exact HM.out
            case rel => exact HLP2
          | false =>
            have HE : Hid (Res r (.mk 6 0 [] (acc ++ [v]) []) q2 y) := Lib.hid (by
              obtain ⟨hq, hqn, han, hits⟩ := HQ.out
              obtain ⟨m, rfl⟩ : ∃ m, gk = m + 1 := ⟨gk - 1, by omega⟩
              rw [HR.out]
              rw [itsP] at hits
              have hr := HQ1.out.2
              cases hfq : f q with
              | err c =>
                rw [hfq] at hr hits
                unfold Res at hr
                rw [← hits]
                have hy := (HNX.out.2.1 (by rw [hr.1]; exact hr.2)).2
                exact ⟨by rw [hy, hr.1], hr.2⟩
              | ok v0 q0 =>
                rw [hfq] at hr hits
                unfold Res at hr
                obtain ⟨rfl, rfl, rfl⟩ := hr
                have hn := HNX.out.2.2 rfl
                dsimp only at hits
                cases hbh : behP t 93 q1 with
                | err c =>
                  rw [hbh] at hn hits
                  rw [← hits]
                  exact ⟨hn.2.1, hn.2.2⟩
                | ok d0 r0 =>
                  rw [hbh] at hn hits
                  cases d0 with
                  | true =>
                    obtain ⟨_, rfl, rfl⟩ := hn
                    rw [← hits]
                    exact ⟨rfl, rfl, rfl⟩
                  | false => cases hn.1)
            have hz := HL7.out.z
            have hv := HL7.out.v
            have v0 := box_cell hv 0
            have v1 := box_cell hv 1
            have v2 := box_cell hv 2
            have v3 := box_cell hv 3
            have v4 := box_cell hv 4
            have HX := Lib.hid (And.intro hz HL7.out.js)
            have b0 := box_cell hz 0
            have b1 := box_cell hz 1
            have b2 := box_cell hz 2
            have b3 := box_cell hz 3
            have b4 := box_cell hz 4
            have hfz := box_fr hz
            clear hz hv
            go_wp2_with fail
            refine bodyPost_any_world (fun W => W.heap[w.heap.size]? = some (.cells #[.int .i64 6, .int .i64 0, str [], .slice (some ⟨g, 0, none⟩) (acc.length + 1) cap, .slice none 0 0] 35 (0, 0)) ∧ Frm (fun i => i = w.heap.size) w7 W) (five_set HX.out.1 _ _ _ _ _) ?_
            clear b0 b1 b2 b3 b4 hfz
            rintro w9 ⟨h9, hf9⟩
            have k0 := box_cell h9 0
            have k1 := box_cell h9 1
            have k2 := box_cell h9 2
            have k3 := box_cell h9 3
            have k4 := box_cell h9 4
            refine bodyPost_ret (v := .agg #[.int .i64 6, .int .i64 0, str [], .slice (some ⟨g, 0, none⟩) (acc.length + 1) cap, .slice none 0 0]) (by simp [results, Tryz.results49, go_sem, k0, k1, k2, k3, k4]) rfl ?_
            obtain ⟨a9, c9, e9, hv9⟩ := HL7.out.val hf9
            simp only [Value.slice.injEq] at e9
            obtain ⟨rfl, e10, rfl⟩ := e9
            rw [← e10] at hv9
            exact ⟨_, _, q2, y, rfl, hv9, JSt.grow HX.out.2 hf9 (fun i e => by have := HL7.out.lt; omega), HNX.out.1, HE.out⟩
end Go.Proofs.YtidlhajibjnkeaaGreatDoor
