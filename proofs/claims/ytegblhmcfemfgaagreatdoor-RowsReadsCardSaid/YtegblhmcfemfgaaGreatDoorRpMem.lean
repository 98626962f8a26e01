import Derived.Test.YtegblhmcfemfgaaGreatDoorWTake
import Derived.Test.YtegblhmcfemfgaaGreatDoorRpNum
import Derived.Test.YtegblhmcfemfgaaGreatDoorAppN
import Derived.Deep.RegionHeld
import Derived.Deep.AppendLies
import Derived.Laws.AppendOwnNone
import Derived.Laws.OwnMore
namespace Go.Proofs.YtegblhmcfemfgaaGreatDoor
open Go.RowKit
theorem infoRp : (Tryz.prog.info? 95).map (fun i => (i.zero, i.size, i.bytes)) = some (some (.agg #[.int .i64 0, .int .i64 0, str [], .slice none 0 0, .slice none 0 0]), 5, 80) := by kernel_rfl
def RowRp (base : Nat) (acc : List JV) (vl : Value) (W : World) : Prop :=
 ∃ rows, W.ownsRow base 95 5 vl acc.length rows.flatten ∧ RdL W (fun i => base ≤ i ∧ i < W.heap.size ∧ vl.ownBlock ≠ some i) acc rows
theorem RowRp.up {base : Nat} {acc : List JV} {vl : Value} {W W' : World} (h : RowRp base acc vl W) (hb : Below W.heap.size W W') : RowRp base acc vl W' := by
 obtain ⟨rows, h1, h2⟩ := h
 exact ⟨rows, owns_below h1 hb (Nat.le_refl _), (h2.up hb).mono (fun i hi hF => ⟨hF.1, hi, hF.2.2⟩)⟩
theorem RowRp.add {base B0 : Nat} {acc : List JV} {vl : Value} {rows : List (List Value)} {W w4 : World} {g cap : Nat} {v : JV} {cs : List Value} {ob : Obj} (_ : W.ownsRow base 95 5 vl acc.length rows.flatten) (h4 : RdL W (fun i => base ≤ i ∧ i < W.heap.size ∧ vl.ownBlock ≠ some i) acc rows) (hB : base ≤ B0)
 (hvb : ∀ k, vl.ownBlock = some k → k < B0) (hv : RdJ W (fun i => B0 ≤ i) v cs)
 (ho : w4.ownsRow base 95 5 (.slice (some ⟨g, 0, none⟩) (acc.length + 1) cap) (acc.length + 1) (rows.flatten ++ cs)) (hg : (W.alloc ob).grownBy w4 vl.ownBlock) (hl : vl.ownBlock = some g ∨ g = W.heap.size + 1) :
 RowRp base (acc ++ [v]) (.slice (some ⟨g, 0, none⟩) (acc.length + 1) cap) w4 ∧ Frm (fun i => vl.ownBlock = some i) W w4 := by
 have f1 : Frm (fun i => vl.ownBlock = some i) W w4 := (Frm.of_below (below_alloc W ob)).trans (Frm.of_grown hg (fun k hk => hk)) (fun _ _ h => h)
 refine ⟨⟨rows ++ [cs], ?_, RdL.snoc ?_ ?_⟩, f1⟩
 · rw [List.flatten_append, List.length_append]
   simp only [List.flatten_cons, List.flatten_nil, List.append_nil, List.length_singleton]
   exact ho
 · refine RdJ.mono (F := fun i => B0 ≤ i ∧ i < W.heap.size) ?_ (fun i hi hF => ⟨by omega, hi, fun e => ?_⟩)
   · exact (hv.mono (G := fun i => B0 ≤ i ∧ i < W.heap.size) (fun i hi hF => ⟨hF, hi⟩)).frm f1 (fun i hi e => by have := hvb i e; omega)
   simp only [Value.ownBlock, Option.some.injEq] at e
   subst e
   rcases hl with h | h
   · have := hvb _ h; omega
   omega
 have := h4.frm f1 (fun i hi e => hi.2.2 e)
 refine this.mono (fun i hi hF => ⟨hF.1, hi, fun e => ?_⟩)
 simp only [Value.ownBlock, Option.some.injEq] at e
 subst e
 rcases hl with h | h
 · exact hF.2.2 h
 omega
theorem RowRp.frm {F : Nat → Prop} {base : Nat} {acc : List JV} {vl : Value} {W W' : World} (h : RowRp base acc vl W) (hf : Frm F W W') (hF : ∀ i, F i → i < base) : RowRp base acc vl W' := by
 obtain ⟨rows, h1, h2⟩ := h
 refine ⟨rows, owns_frm h1 hf (fun k hk e => by have := hF k e; have := (h1.lt k hk).1; omega), ?_⟩
 exact (h2.frm hf (fun i hi e => by have := hF i e; omega)).mono (fun i hi hF => ⟨hF.1, Nat.lt_of_lt_of_le hF.2.1 hf.size, hF.2.2⟩)
structure LsR (w : World) (b : Nat) (t : List UInt8) (q x : Nat) (acc : List JV) (vl : Value) (W : World) : Prop where
 js : JSt w b t q x W
 z : W.heap[w.heap.size]? = some (.cells #[.int .i64 0, .int .i64 0, str [], .slice none 0 0, .slice none 0 0] 95 (0, 0))
 v : W.heap[w.heap.size + 1]? = some (.cells #[.int .i64 6, .int .i64 0, str [], vl, .slice none 0 0] 95 (0, 0))
 row : RowRp (w.heap.size + 2) acc vl W
 lt : b < w.heap.size
section
variable {w W W' : World} {b q x : Nat} {t : List UInt8} {acc : List JV} {vl : Value}
theorem LsR.sz (h : LsR w b t q x acc vl W) : w.heap.size + 2 ≤ W.heap.size := (Array.getElem?_eq_some_iff.1 h.v).1
theorem LsR.vb (h : LsR w b t q x acc vl W) : ∀ k, vl.ownBlock = some k → w.heap.size + 2 ≤ k ∧ k < W.heap.size := by
 obtain ⟨rows, h1, _⟩ := h.row
 exact fun k hk => h1.lt k hk
theorem LsR.up (h : LsR w b t q x acc vl W) (hb : Below W.heap.size W W') : LsR w b t q x acc vl W' :=
 ⟨h.js.below hb, box_up h.z hb, box_up h.v hb, h.row.up hb, h.lt⟩
theorem LsR.rd {q' x' : Nat} (h : LsR w b t q x acc vl W) (hs : JSt W b t q' x' W') : LsR w b t q' x' acc vl W' :=
 ⟨h.js.trans hs, box_frm h.z hs.2 (by have := h.lt; omega), box_frm h.v hs.2 (by have := h.lt; omega), h.row.frm hs.2 (fun i e => by have := h.lt; omega), h.lt⟩
theorem LsR.add {w4 : World} {g cap B0 : Nat} {v : JV} {cs : List Value} {rows : List (List Value)} {ob : Obj} (h : LsR w b t q x acc vl W) (h1 : W.ownsRow (w.heap.size + 2) 95 5 vl acc.length rows.flatten) (h4 : RdL W (fun i => w.heap.size + 2 ≤ i ∧ i < W.heap.size ∧ vl.ownBlock ≠ some i) acc rows)
 (hB0 : w.heap.size + 2 ≤ B0) (hvb : ∀ k, vl.ownBlock = some k → k < B0) (hv : RdJ W (fun i => B0 ≤ i) v cs)
 (ho : w4.ownsRow (w.heap.size + 2) 95 5 (.slice (some ⟨g, 0, none⟩) (acc.length + 1) cap) (acc.length + 1) (rows.flatten ++ cs)) (hg : (W.alloc ob).grownBy w4 vl.ownBlock) (hl : vl.ownBlock = some g ∨ g = W.heap.size + 1) :
 LsR w b t q x (acc ++ [v]) (.slice (some ⟨g, 0, none⟩) (acc.length + 1) cap) (w4.setCell ⟨w.heap.size + 1, 3, none⟩ (.slice (some ⟨g, 0, none⟩) (acc.length + 1) cap)) ∧ w4.cell? ⟨w.heap.size + 1, 3, none⟩ = some vl ∧ w4.frozen? ⟨w.heap.size + 1, 3, none⟩ = false := by
 obtain ⟨h5, h6⟩ := RowRp.add h1 h4 hB0 hvb hv ho hg hl
 have hvk := h.vb
 have hnv : ∀ i, i < w.heap.size + 2 → ¬ vl.ownBlock = some i := fun i hi e => by have := (hvk i e).1; omega
 have hbx : w4.heap[w.heap.size + 1]? = some (.cells #[.int .i64 6, .int .i64 0, str [], vl, .slice none 0 0] 95 (0, 0)) := box_frm h.v h6 (hnv _ (by omega))
 have hzx : w4.heap[w.heap.size]? = some (.cells #[.int .i64 0, .int .i64 0, str [], .slice none 0 0, .slice none 0 0] 95 (0, 0)) := box_frm h.z h6 (hnv _ (by omega))
 have hjs : JSt w b t q x w4 := h.js.grow h6 (fun i e => by have := (hvk i e).1; have := h.lt; omega)
 have f2 : Frm (fun i => i = w.heap.size + 1) w4 (w4.setCell ⟨w.heap.size + 1, 3, none⟩ (.slice (some ⟨g, 0, none⟩) (acc.length + 1) cap)) := Frm.set _ rfl
 refine ⟨⟨hjs.grow f2 (fun i e => by have := h.lt; omega), box_frm hzx f2 (by omega), ?_, h5.frm f2 (fun i e => by omega), h.lt⟩, by simp [World.cell?, hbx], frozen_of_row w4 (w.heap.size + 1) 3 _ _ hbx⟩
 exact box_set hbx 3 _
theorem LsR.val (h : LsR w b t q x acc vl W) {W9 : World} (hf : Frm (fun i => i = w.heap.size) W W9) : ∃ a c, vl = .slice a acc.length c ∧ RdJ W9 (fun i => w.heap.size ≤ i) (.mk 6 0 [] acc []) [.int .i64 6, .int .i64 0, str [], .slice a acc.length c, .slice none 0 0] := by
 obtain ⟨rows, h3, h4⟩ := h.row
 obtain ⟨r1, r2⟩ := RdL.rows h4
 have hvk := h.vb
 obtain ⟨a, c, rfl⟩ := own_slice h3
 refine ⟨a, c, rfl, ?_⟩
 have h3' : RdFB (fun i => w.heap.size + 2 ≤ i) 5 W (.slice a acc.length c) rows := by
  rw [← r1] at h3 hvk ⊢
  exact RdFB.of_row r2 h3 (fun k hk => (hvk k hk).1)
 unfold RdJ
 refine ⟨_, _, rfl, ⟨rows, ?_, ?_⟩, [], RdFB.nil _ _ _, by unfold RdM; trivial⟩
 · exact (h3'.frm hf (fun i hi e => by omega)).mono (fun i _ hi => by omega) (fun r hr => by rw [r2 r hr]; omega)
 exact (h4.frm hf (fun i hi e => by omega)).mono (fun i _ hi => by omega)
end
def LpR (t : List UInt8) (w : World) (b : Nat) (f : Nat → JR JV) (R : JR (List JV)) (n : Nat) (W : World) : Prop :=
 ∃ q acc vl, q ≤ t.length ∧ t.length - q < n ∧ acc.length + n ≤ t.length + 1 ∧ itsP f t n q acc = R ∧ LsR w b t q 0 acc vl W
set_option maxRecDepth 100000 in
set_option maxHeartbeats 8000000 in
theorem rlist_any (t : List UInt8) (b p : Nat) (op : Int) (w : World) (f : Nat → JR JV) (CV : ∀ W q, JRb W b t q 0 → q ≤ t.length → Calls Tryz.prog 75 #[.pointer (some ⟨b, 0, none⟩), .int .i64 op] W (RV t W b (f q)))
 (hf : ∀ q v q1, f q = .ok v q1 → q ≤ q1) (hfe : f t.length = .err 2) (h : JRb w b t p 0) (hp : p < t.length) (hl : t.length ≤ 1000000) :
 Calls Tryz.prog 106 #[.pointer (some ⟨b, 0, none⟩), .int .i64 op] w (RV t w b (lstV (lstP f t p))) := by
 obtain ⟨i0, hi, hz0, hz1, hz2⟩ := info_parts infoRp
 have CV := Lib.hid CV
 have HF := Lib.hid (And.intro hf hfe)
 obtain ⟨Wa, hWa, hba, hbx, hsz⟩ := zero_box w
 have hb := h.lt
 have ha := h.below hba
 obtain ⟨r, hr⟩ : ∃ r, r = lstV (lstP f t p) := ⟨_, rfl⟩
 rw [← hr]
 have HRR := Lib.hid hr
 have HA := Lib.hid (And.intro hba (And.intro hbx (And.intro hsz (And.intro ha hb))))
 clear hr hba hbx hsz ha hb h hf hfe
 go_enter Tryz.func106, Tryz.ntmps106
 go_upto_region 1 with fail
 rw [← hWa]
 clear hWa
 go_upto_region 2 with fail
 refine wp_any_world (fun W => W.heap[Wa.heap.size]? = some (.cells #[.int .i64 6, .int .i64 0, str [], .slice none 0 0, .slice none 0 0] 95 (0, 0)) ∧ Below Wa.heap.size Wa W) ⟨heap_alloc_new _ _, below_alloc _ _⟩ ?_
 rintro W1 ⟨hv1, hb1⟩
 have HL : Hid (LsR w b t p 0 [] (.slice none 0 0) W1) := Lib.hid (by
  obtain ⟨hba, hbx, hsz, ha, hb⟩ := HA.out
  rw [hsz] at hv1
  exact ⟨⟨ha.below hb1, (Frm.of_below hba).trans (Frm.of_below (F := fun i => i = b) hb1) (fun _ _ h => h)⟩, box_up hbx hb1, hv1, ⟨[], World.ownsRow_nil _ _ _ _, by unfold RdL; trivial⟩, hb⟩)
 rw [HA.out.2.2.1]
 clear hv1 hb1 HA
 have CE := Lib.hid (rempty_any t b p 0 93 W1 HL.out.js.1 hp (by omega))
 go_wp2_with fail
 refine CE.out.mono ?_
 rintro e W2 ⟨z, q, rfl, hq, hs2, hem⟩
 have HL2 := Lib.hid (HL.out.rd hs2)
 have HEM := Lib.hid hem
 clear CE hs2 hem HL
 cases z with
 | true =>
  have HE : Hid (r = .ok (.mk 6 0 [] [] []) q) := Lib.hid (by
   rw [HRR.out]
   have h := HEM.out
   unfold EmR at h
   unfold lstP
   cases hx : entP t 93 p with
   | err c => rw [hx] at h; cases h.1
   | ok d q0 =>
    rw [hx] at h
    cases d with
    | true => rw [h.2]; rfl
    | false => cases h.1)
  have hz := HL2.out.z
  have hv := HL2.out.v
  obtain ⟨v0, v1, v2, v3, v4⟩ := box5 hv
  have HX := Lib.hid (And.intro hz HL2.out.js)
  obtain ⟨b0, b1, b2, b3, b4⟩ := box5 hz
  have hfz := box_fr hz
  clear hz hv HEM HRR
  go_wp2_with fail
  refine bodyPost_any_world (fun W => W.heap[w.heap.size]? = some (.cells #[.int .i64 6, .int .i64 0, str [], .slice none 0 0, .slice none 0 0] 95 (0, 0)) ∧ Frm (fun i => i = w.heap.size) W2 W) (five_set HX.out.1 _ _ _ _ _) ?_
  clear b0 b1 b2 b3 b4 hfz
  rintro w9 ⟨h9, hf9⟩
  obtain ⟨k0, k1, k2, k3, k4⟩ := box5 h9
  refine bodyPost_ret (v := .agg #[.int .i64 6, .int .i64 0, str [], .slice none 0 0, .slice none 0 0]) (by simp [results, Tryz.results106, go_sem, k0, k1, k2, k3, k4]) rfl ?_
  obtain ⟨a, c, e, hv9⟩ := HL2.out.val hf9
  cases e
  exact ⟨_, _, q, 0, rfl, hv9, JSt.grow HX.out.2 hf9 (fun i e => by have := HL2.out.lt; omega), hq, by rw [HE.out]; exact ⟨rfl, rfl, rfl⟩⟩
 | false =>
  have HST : Hid (∃ R, r = lstV R ∧ LpR t w b f R (t.length + 1) W2) := Lib.hid (by
   have h := HEM.out
   unfold EmR at h
   have hr := HRR.out
   unfold lstP at hr
   cases hx : entP t 93 p with
   | err c =>
    rw [hx] at h hr
    refine ⟨.err 2, by rw [hr, h.2.2], t.length, [], _, Nat.le_refl _, by omega, by simp, ?_, by rw [← h.2.1]; exact HL2.out⟩
    rw [itsP, HF.out.2]
   | ok d q0 =>
    rw [hx] at h hr
    cases d with
    | true => cases h.1
    | false =>
     dsimp only at hr
     exact ⟨_, hr, q, [], _, hq, by omega, by simp, by rw [h.2], HL2.out⟩)
  obtain ⟨R, hrR, hst⟩ := HST.out
  have HR := Lib.hid hrR
  have HLP := Lib.hid hst
  clear hrR hst HST HEM HL2 HRR hq
  go_wp2_with fail
  go_loopg [] (t.length + 1) (fun n wr => Hid (LpR t w b f R n wr))
  case atStart => exact HLP
  case round =>
   obtain ⟨q, acc, vl, hq, hqn, han, hits, hls⟩ := hrel.out
   have HQ := Lib.hid (And.intro hq (And.intro hqn (And.intro han hits)))
   have hal : acc.length ≤ 1000000 := by omega
   obtain ⟨W0, hW0⟩ : ∃ W0, W0 = wr.drew := ⟨_, rfl⟩
   have HP : Hid (LsR w b t q 0 acc vl W0) := Lib.hid (by rw [hW0]; exact hls.up (Below.drewsN (Below.refl _ _) 1))
   have HW := Lib.hid hW0
   have HBX := Lib.hid HP.out.v
   clear hq hqn han hits hls hrel HLP
   go_wp2_with fail
   refine wp_region_held_drew (S := (fun _ => True)) (by kernel_rfl) trivial (fun hHeld => ?_)
   rw [← hW0]
   clear hHeld hW0
   have hHeld : (fun _ : World => True) W0 := trivial
   refine wtk 0 rfl ?_; go_simp
   refine wtk 2 rfl ?_; go_simp
   refine wtk 3 rfl ?_; go_simp
   refine wpAnyH_ready (rs := [1, 4]) (by kernel_rfl) (by simp) (AllReadyH.cons rfl (fun K hK => ?_) (AllReadyH.cons rfl (fun K hK => ?_) AllReadyH.nil))
   · have cq := box_cell HBX.out 3
     go_simp
     clear cq
     refine hK.out _ _ (trivial) (fun hHeld => ?_)
     clear hK K
     refine wrd 4 rfl fun K hK => ?_
     go_simp
     refine (CV.out _ q HP.out.js.1 HQ.out.1).mono ?_
     rintro e wq ⟨v, cs, q1, x, rfl, hv, hs2, hq1, hres⟩
     have HV := Lib.hid hv
     obtain ⟨al, ll, cl, am, lm, cm, rfl, _, _⟩ := hv.open
     have HVB : Hid (∀ k, vl.ownBlock = some k → k < W0.heap.size) := Lib.hid (fun k hk => (HP.out.vb k hk).2)
     have HSZ : Hid (w.heap.size + 2 ≤ W0.heap.size) := Lib.hid HP.out.sz
     have HP := Lib.hid (HP.out.rd hs2)
     have HBX := Lib.hid HP.out.v
     have HQ1 := Lib.hid (And.intro hq1 hres)
     clear hs2 hv hq1 hres
     go_simp
     refine hK.out _ _ (trivial) (fun hHeld => ?_)
     clear hK K
     refine wrd 5 rfl fun K hK => ?_
     go_simp
     obtain ⟨WM, hWM⟩ : ∃ W, W = wq.alloc (.cells #[.int .i64 v.kind, .int .i64 v.n, str v.s, .slice al ll cl, .slice am lm cm] 95) := ⟨_, rfl⟩
     have HM1 := Lib.hid hWM
     have HBX := Lib.hid (box_up HP.out.v (w' := WM) (by rw [hWM]; exact below_alloc _ _))
     rw [← hWM]
     clear hWM
     refine hK.out _ _ (trivial) (fun hHeld => ?_)
     clear hK K
     refine wrd 6 rfl fun K hK => ?_
     obtain ⟨rows, ho0, hr0⟩ := HP.out.row
     refine step_append_lies _ (by rfl) _ _ 92 (by rfl) (w.heap.size + 2) 95 i0 _ 5 80 Tryz.underlying92 hi hz0 hz1 hz2 rfl (by decide) vl acc.length rows.flatten (by rfl) (owns_frm (F := fun _ => False) ho0 (Frm.of_below (by rw [HM1.out]; exact below_alloc _ _)) (fun _ _ h => h)) ⟨wq.heap.size, 0, none⟩ 1 1 [.int .i64 v.kind, .int .i64 v.n, str v.s, .slice al ll cl, .slice am lm cm] (by rfl) (by rfl) (World.news_of_block (by rw [HM1.out]; exact heap_alloc_new _ _)) (by simp [Value.oneCell']) (by decide) (by simp only [maxLen]; omega) (by omega) (by have := HP.out.sz; rw [HM1.out]; simp; omega) _ rfl ?_
     intro g cap w4 ho hg hl4 _
     rw [HM1.out] at hg hl4
     have HAD := Lib.hid (LsR.add HP.out ho0 hr0 HSZ.out HVB.out HV.out ho hg (by simpa using hl4))
     clear ho hg hl4 ho0 hr0
     go_simp
     refine hK.out _ _ (trivial) (fun hHeld => ?_)
     clear hK K
     refine wtk 7 rfl ?_; go_simp
     refine wrd 8 rfl fun K hK => ?_
     have cq := HAD.out.2.1
     have fq := HAD.out.2.2
     go_simp
     clear cq fq
     refine hK.out _ _ (trivial) (fun hHeld => ?_)
     clear hK K
     refine wpAnyH_done (by kernel_rfl) ?_ _
     have HN := Lib.hid HAD.out.1
     clear HAD HP HVB HSZ HV HM1 HW HBX
     skip
     have CB := Lib.hid (rnext_any t b q1 x 93 _ HN.out.js.1 HQ1.out.1 (by omega) (by decide))
     go_wp2_with fail
     refine CB.out.mono ?_
     rintro e w7 ⟨z, q2, y, rfl, hq2, hs7, hnx⟩
     have HL7 := Lib.hid (HN.out.rd hs7)
     have HNX := Lib.hid (And.intro hq2 hnx)
     clear hq2 hs7 hnx HN CB
     cases z with
     | true =>
      have HST : Hid (∃ m, m < gk ∧ LpR t w b f R m w7) := Lib.hid (by
       obtain ⟨hq, hqn, han, hits⟩ := HQ.out
       obtain ⟨m, rfl⟩ : ∃ m, gk = m + 1 := ⟨gk - 1, by omega⟩
       have hx0 : x = 0 := Classical.byContradiction fun g => by have := (HNX.out.2.1 g).1; cases this
       have hn := HNX.out.2.2 hx0
       have hr := HQ1.out.2
       rw [itsP] at hits
       cases hfq : f q with
       | err c =>
        rw [hfq] at hr
        unfold Res at hr
        exact absurd (hr.1.symm.trans hx0) hr.2
       | ok v0 q0 =>
        rw [hfq] at hr hits
        unfold Res at hr
        obtain ⟨rfl, rfl, _⟩ := hr
        have hqq := HF.out.1 q v q1 hfq
        dsimp only at hits
        cases hbh : behP t 93 q1 with
        | err c => rw [hbh] at hn; cases hn.1
        | ok d0 r0 =>
         have hlt := behP_lt hbh
         rw [hbh] at hn hits
         cases d0 with
         | true => cases hn.1
         | false =>
          obtain ⟨_, rfl, rfl⟩ := hn
          exact ⟨m, by omega, q2, acc ++ [v], _, HNX.out.1, by have := HNX.out.1; omega, by simp; omega, hits, HL7.out⟩)
      obtain ⟨m, hm, hlp⟩ := HST.out
      have HM := Lib.hid hm
      have HLP2 := Lib.hid hlp
      clear hm hlp HST HL7 HNX HQ HQ1
      go_wp2_with fail
      go_roundg m
      case measure => exact HM.out
      case rel => exact HLP2
     | false =>
      have HE : Hid (Res r (.mk 6 0 [] (acc ++ [v]) []) q2 y) := Lib.hid (by
       obtain ⟨hq, hqn, han, hits⟩ := HQ.out
       obtain ⟨m, rfl⟩ : ∃ m, gk = m + 1 := ⟨gk - 1, by omega⟩
       rw [HR.out]
       rw [itsP] at hits
       have hr := HQ1.out.2
       cases hfq : f q with
       | err c =>
        rw [hfq] at hr hits
        unfold Res at hr
        rw [← hits]
        have hy := (HNX.out.2.1 (by rw [hr.1]; exact hr.2)).2
        exact ⟨by rw [hy, hr.1], hr.2⟩
       | ok v0 q0 =>
        rw [hfq] at hr hits
        unfold Res at hr
        obtain ⟨rfl, rfl, rfl⟩ := hr
        have hn := HNX.out.2.2 rfl
        dsimp only at hits
        cases hbh : behP t 93 q1 with
        | err c =>
         rw [hbh] at hn hits
         rw [← hits]
         exact ⟨hn.2.1, hn.2.2⟩
        | ok d0 r0 =>
         rw [hbh] at hn hits
         cases d0 with
         | true =>
          obtain ⟨_, rfl, rfl⟩ := hn
          rw [← hits]
          exact ⟨rfl, rfl, rfl⟩
         | false => cases hn.1)
      have hz := HL7.out.z
      have hv := HL7.out.v
      obtain ⟨v0, v1, v2, v3, v4⟩ := box5 hv
      have HX := Lib.hid (And.intro hz HL7.out.js)
      obtain ⟨b0, b1, b2, b3, b4⟩ := box5 hz
      have hfz := box_fr hz
      clear hz hv
      go_wp2_with fail
      refine bodyPost_any_world (fun W => W.heap[w.heap.size]? = some (.cells #[.int .i64 6, .int .i64 0, str [], .slice (some ⟨g, 0, none⟩) (acc.length + 1) cap, .slice none 0 0] 95 (0, 0)) ∧ Frm (fun i => i = w.heap.size) w7 W) (five_set HX.out.1 _ _ _ _ _) ?_
      clear b0 b1 b2 b3 b4 hfz
      rintro w9 ⟨h9, hf9⟩
      obtain ⟨k0, k1, k2, k3, k4⟩ := box5 h9
      refine bodyPost_ret (v := .agg #[.int .i64 6, .int .i64 0, str [], .slice (some ⟨g, 0, none⟩) (acc.length + 1) cap, .slice none 0 0]) (by simp [results, Tryz.results106, go_sem, k0, k1, k2, k3, k4]) rfl ?_
      obtain ⟨a9, c9, e9, hv9⟩ := HL7.out.val hf9
      simp only [Value.slice.injEq] at e9
      obtain ⟨rfl, e10, rfl⟩ := e9
      rw [← e10] at hv9
      exact ⟨_, _, q2, y, rfl, hv9, JSt.grow HX.out.2 hf9 (fun i e => by have := HL7.out.lt; omega), HNX.out.1, HE.out⟩
   go_simp
   refine (CV.out _ q HP.out.js.1 HQ.out.1).mono ?_
   rintro e wq ⟨v, cs, q1, x, rfl, hv, hs2, hq1, hres⟩
   have HV := Lib.hid hv
   obtain ⟨al, ll, cl, am, lm, cm, rfl, _, _⟩ := hv.open
   have HVB : Hid (∀ k, vl.ownBlock = some k → k < W0.heap.size) := Lib.hid (fun k hk => (HP.out.vb k hk).2)
   have HSZ : Hid (w.heap.size + 2 ≤ W0.heap.size) := Lib.hid HP.out.sz
   have HP := Lib.hid (HP.out.rd hs2)
   have HBX := Lib.hid HP.out.v
   have HQ1 := Lib.hid (And.intro hq1 hres)
   clear hs2 hv hq1 hres
   go_simp
   refine hK.out _ _ (trivial) (fun hHeld => ?_)
   clear hK K
   refine wpAnyH_ready (rs := [1, 5]) (by kernel_rfl) (by simp) (AllReadyH.cons rfl (fun K hK => ?_) (AllReadyH.cons rfl (fun K hK => ?_) AllReadyH.nil))
   · have cq := box_cell HBX.out 3
     go_simp
     clear cq
     refine hK.out _ _ (trivial) (fun hHeld => ?_)
     clear hK K
     refine wrd 5 rfl fun K hK => ?_
     go_simp
     obtain ⟨WM, hWM⟩ : ∃ W, W = wq.alloc (.cells #[.int .i64 v.kind, .int .i64 v.n, str v.s, .slice al ll cl, .slice am lm cm] 95) := ⟨_, rfl⟩
     have HM1 := Lib.hid hWM
     have HBX := Lib.hid (box_up HP.out.v (w' := WM) (by rw [hWM]; exact below_alloc _ _))
     rw [← hWM]
     clear hWM
     refine hK.out _ _ (trivial) (fun hHeld => ?_)
     clear hK K
     refine wrd 6 rfl fun K hK => ?_
     obtain ⟨rows, ho0, hr0⟩ := HP.out.row
     refine step_append_lies _ (by rfl) _ _ 92 (by rfl) (w.heap.size + 2) 95 i0 _ 5 80 Tryz.underlying92 hi hz0 hz1 hz2 rfl (by decide) vl acc.length rows.flatten (by rfl) (owns_frm (F := fun _ => False) ho0 (Frm.of_below (by rw [HM1.out]; exact below_alloc _ _)) (fun _ _ h => h)) ⟨wq.heap.size, 0, none⟩ 1 1 [.int .i64 v.kind, .int .i64 v.n, str v.s, .slice al ll cl, .slice am lm cm] (by rfl) (by rfl) (World.news_of_block (by rw [HM1.out]; exact heap_alloc_new _ _)) (by simp [Value.oneCell']) (by decide) (by simp only [maxLen]; omega) (by omega) (by have := HP.out.sz; rw [HM1.out]; simp; omega) _ rfl ?_
     intro g cap w4 ho hg hl4 _
     rw [HM1.out] at hg hl4
     have HAD := Lib.hid (LsR.add HP.out ho0 hr0 HSZ.out HVB.out HV.out ho hg (by simpa using hl4))
     clear ho hg hl4 ho0 hr0
     go_simp
     refine hK.out _ _ (trivial) (fun hHeld => ?_)
     clear hK K
     refine wtk 7 rfl ?_; go_simp
     refine wrd 8 rfl fun K hK => ?_
     have cq := HAD.out.2.1
     have fq := HAD.out.2.2
     go_simp
     clear cq fq
     refine hK.out _ _ (trivial) (fun hHeld => ?_)
     clear hK K
     refine wpAnyH_done (by kernel_rfl) ?_ _
     have HN := Lib.hid HAD.out.1
     clear HAD HP HVB HSZ HV HM1 HW HBX
     skip
     have CB := Lib.hid (rnext_any t b q1 x 93 _ HN.out.js.1 HQ1.out.1 (by omega) (by decide))
     go_wp2_with fail
     refine CB.out.mono ?_
     rintro e w7 ⟨z, q2, y, rfl, hq2, hs7, hnx⟩
     have HL7 := Lib.hid (HN.out.rd hs7)
     have HNX := Lib.hid (And.intro hq2 hnx)
     clear hq2 hs7 hnx HN CB
     cases z with
     | true =>
      have HST : Hid (∃ m, m < gk ∧ LpR t w b f R m w7) := Lib.hid (by
       obtain ⟨hq, hqn, han, hits⟩ := HQ.out
       obtain ⟨m, rfl⟩ : ∃ m, gk = m + 1 := ⟨gk - 1, by omega⟩
       have hx0 : x = 0 := Classical.byContradiction fun g => by have := (HNX.out.2.1 g).1; cases this
       have hn := HNX.out.2.2 hx0
       have hr := HQ1.out.2
       rw [itsP] at hits
       cases hfq : f q with
       | err c =>
        rw [hfq] at hr
        unfold Res at hr
        exact absurd (hr.1.symm.trans hx0) hr.2
       | ok v0 q0 =>
        rw [hfq] at hr hits
        unfold Res at hr
        obtain ⟨rfl, rfl, _⟩ := hr
        have hqq := HF.out.1 q v q1 hfq
        dsimp only at hits
        cases hbh : behP t 93 q1 with
        | err c => rw [hbh] at hn; cases hn.1
        | ok d0 r0 =>
         have hlt := behP_lt hbh
         rw [hbh] at hn hits
         cases d0 with
         | true => cases hn.1
         | false =>
          obtain ⟨_, rfl, rfl⟩ := hn
          exact ⟨m, by omega, q2, acc ++ [v], _, HNX.out.1, by have := HNX.out.1; omega, by simp; omega, hits, HL7.out⟩)
      obtain ⟨m, hm, hlp⟩ := HST.out
      have HM := Lib.hid hm
      have HLP2 := Lib.hid hlp
      clear hm hlp HST HL7 HNX HQ HQ1
      go_wp2_with fail
      go_roundg m
      case measure => exact HM.out
      case rel => exact HLP2
     | false =>
      have HE : Hid (Res r (.mk 6 0 [] (acc ++ [v]) []) q2 y) := Lib.hid (by
       obtain ⟨hq, hqn, han, hits⟩ := HQ.out
       obtain ⟨m, rfl⟩ : ∃ m, gk = m + 1 := ⟨gk - 1, by omega⟩
       rw [HR.out]
       rw [itsP] at hits
       have hr := HQ1.out.2
       cases hfq : f q with
       | err c =>
        rw [hfq] at hr hits
        unfold Res at hr
        rw [← hits]
        have hy := (HNX.out.2.1 (by rw [hr.1]; exact hr.2)).2
        exact ⟨by rw [hy, hr.1], hr.2⟩
       | ok v0 q0 =>
        rw [hfq] at hr hits
        unfold Res at hr
        obtain ⟨rfl, rfl, rfl⟩ := hr
        have hn := HNX.out.2.2 rfl
        dsimp only at hits
        cases hbh : behP t 93 q1 with
        | err c =>
         rw [hbh] at hn hits
         rw [← hits]
         exact ⟨hn.2.1, hn.2.2⟩
        | ok d0 r0 =>
         rw [hbh] at hn hits
         cases d0 with
         | true =>
          obtain ⟨_, rfl, rfl⟩ := hn
          rw [← hits]
          exact ⟨rfl, rfl, rfl⟩
         | false => cases hn.1)
      have hz := HL7.out.z
      have hv := HL7.out.v
      obtain ⟨v0, v1, v2, v3, v4⟩ := box5 hv
      have HX := Lib.hid (And.intro hz HL7.out.js)
      obtain ⟨b0, b1, b2, b3, b4⟩ := box5 hz
      have hfz := box_fr hz
      clear hz hv
      go_wp2_with fail
      refine bodyPost_any_world (fun W => W.heap[w.heap.size]? = some (.cells #[.int .i64 6, .int .i64 0, str [], .slice (some ⟨g, 0, none⟩) (acc.length + 1) cap, .slice none 0 0] 95 (0, 0)) ∧ Frm (fun i => i = w.heap.size) w7 W) (five_set HX.out.1 _ _ _ _ _) ?_
      clear b0 b1 b2 b3 b4 hfz
      rintro w9 ⟨h9, hf9⟩
      obtain ⟨k0, k1, k2, k3, k4⟩ := box5 h9
      refine bodyPost_ret (v := .agg #[.int .i64 6, .int .i64 0, str [], .slice (some ⟨g, 0, none⟩) (acc.length + 1) cap, .slice none 0 0]) (by simp [results, Tryz.results106, go_sem, k0, k1, k2, k3, k4]) rfl ?_
      obtain ⟨a9, c9, e9, hv9⟩ := HL7.out.val hf9
      simp only [Value.slice.injEq] at e9
      obtain ⟨rfl, e10, rfl⟩ := e9
      rw [← e10] at hv9
      exact ⟨_, _, q2, y, rfl, hv9, JSt.grow HX.out.2 hf9 (fun i e => by have := HL7.out.lt; omega), HNX.out.1, HE.out⟩
   go_simp
   obtain ⟨WM, hWM⟩ : ∃ W, W = wq.alloc (.cells #[.int .i64 v.kind, .int .i64 v.n, str v.s, .slice al ll cl, .slice am lm cm] 95) := ⟨_, rfl⟩
   have HM1 := Lib.hid hWM
   have HBX := Lib.hid (box_up HP.out.v (w' := WM) (by rw [hWM]; exact below_alloc _ _))
   rw [← hWM]
   clear hWM
   refine hK.out _ _ (trivial) (fun hHeld => ?_)
   clear hK K
   refine wrd 1 rfl fun K hK => ?_
   have cq := box_cell HBX.out 3
   go_simp
   clear cq
   refine hK.out _ _ (trivial) (fun hHeld => ?_)
   clear hK K
   refine wrd 6 rfl fun K hK => ?_
   obtain ⟨rows, ho0, hr0⟩ := HP.out.row
   refine step_append_lies _ (by rfl) _ _ 92 (by rfl) (w.heap.size + 2) 95 i0 _ 5 80 Tryz.underlying92 hi hz0 hz1 hz2 rfl (by decide) vl acc.length rows.flatten (by rfl) (owns_frm (F := fun _ => False) ho0 (Frm.of_below (by rw [HM1.out]; exact below_alloc _ _)) (fun _ _ h => h)) ⟨wq.heap.size, 0, none⟩ 1 1 [.int .i64 v.kind, .int .i64 v.n, str v.s, .slice al ll cl, .slice am lm cm] (by rfl) (by rfl) (World.news_of_block (by rw [HM1.out]; exact heap_alloc_new _ _)) (by simp [Value.oneCell']) (by decide) (by simp only [maxLen]; omega) (by omega) (by have := HP.out.sz; rw [HM1.out]; simp; omega) _ rfl ?_
   intro g cap w4 ho hg hl4 _
   rw [HM1.out] at hg hl4
   have HAD := Lib.hid (LsR.add HP.out ho0 hr0 HSZ.out HVB.out HV.out ho hg (by simpa using hl4))
   clear ho hg hl4 ho0 hr0
   go_simp
   refine hK.out _ _ (trivial) (fun hHeld => ?_)
   clear hK K
   refine wtk 7 rfl ?_; go_simp
   refine wrd 8 rfl fun K hK => ?_
   have cq := HAD.out.2.1
   have fq := HAD.out.2.2
   go_simp
   clear cq fq
   refine hK.out _ _ (trivial) (fun hHeld => ?_)
   clear hK K
   refine wpAnyH_done (by kernel_rfl) ?_ _
   have HN := Lib.hid HAD.out.1
   clear HAD HP HVB HSZ HV HM1 HW HBX
   skip
   have CB := Lib.hid (rnext_any t b q1 x 93 _ HN.out.js.1 HQ1.out.1 (by omega) (by decide))
   go_wp2_with fail
   refine CB.out.mono ?_
   rintro e w7 ⟨z, q2, y, rfl, hq2, hs7, hnx⟩
   have HL7 := Lib.hid (HN.out.rd hs7)
   have HNX := Lib.hid (And.intro hq2 hnx)
   clear hq2 hs7 hnx HN CB
   cases z with
   | true =>
    have HST : Hid (∃ m, m < gk ∧ LpR t w b f R m w7) := Lib.hid (by
     obtain ⟨hq, hqn, han, hits⟩ := HQ.out
     obtain ⟨m, rfl⟩ : ∃ m, gk = m + 1 := ⟨gk - 1, by omega⟩
     have hx0 : x = 0 := Classical.byContradiction fun g => by have := (HNX.out.2.1 g).1; cases this
     have hn := HNX.out.2.2 hx0
     have hr := HQ1.out.2
     rw [itsP] at hits
     cases hfq : f q with
     | err c =>
      rw [hfq] at hr
      unfold Res at hr
      exact absurd (hr.1.symm.trans hx0) hr.2
     | ok v0 q0 =>
      rw [hfq] at hr hits
      unfold Res at hr
      obtain ⟨rfl, rfl, _⟩ := hr
      have hqq := HF.out.1 q v q1 hfq
      dsimp only at hits
      cases hbh : behP t 93 q1 with
      | err c => rw [hbh] at hn; cases hn.1
      | ok d0 r0 =>
       have hlt := behP_lt hbh
       rw [hbh] at hn hits
       cases d0 with
       | true => cases hn.1
       | false =>
        obtain ⟨_, rfl, rfl⟩ := hn
        exact ⟨m, by omega, q2, acc ++ [v], _, HNX.out.1, by have := HNX.out.1; omega, by simp; omega, hits, HL7.out⟩)
    obtain ⟨m, hm, hlp⟩ := HST.out
    have HM := Lib.hid hm
    have HLP2 := Lib.hid hlp
    clear hm hlp HST HL7 HNX HQ HQ1
    go_wp2_with fail
    go_roundg m
    case measure => exact HM.out
    case rel => exact HLP2
   | false =>
    have HE : Hid (Res r (.mk 6 0 [] (acc ++ [v]) []) q2 y) := Lib.hid (by
     obtain ⟨hq, hqn, han, hits⟩ := HQ.out
     obtain ⟨m, rfl⟩ : ∃ m, gk = m + 1 := ⟨gk - 1, by omega⟩
     rw [HR.out]
     rw [itsP] at hits
     have hr := HQ1.out.2
     cases hfq : f q with
     | err c =>
      rw [hfq] at hr hits
      unfold Res at hr
      rw [← hits]
      have hy := (HNX.out.2.1 (by rw [hr.1]; exact hr.2)).2
      exact ⟨by rw [hy, hr.1], hr.2⟩
     | ok v0 q0 =>
      rw [hfq] at hr hits
      unfold Res at hr
      obtain ⟨rfl, rfl, rfl⟩ := hr
      have hn := HNX.out.2.2 rfl
      dsimp only at hits
      cases hbh : behP t 93 q1 with
      | err c =>
       rw [hbh] at hn hits
       rw [← hits]
       exact ⟨hn.2.1, hn.2.2⟩
      | ok d0 r0 =>
       rw [hbh] at hn hits
       cases d0 with
       | true =>
        obtain ⟨_, rfl, rfl⟩ := hn
        rw [← hits]
        exact ⟨rfl, rfl, rfl⟩
       | false => cases hn.1)
    have hz := HL7.out.z
    have hv := HL7.out.v
    obtain ⟨v0, v1, v2, v3, v4⟩ := box5 hv
    have HX := Lib.hid (And.intro hz HL7.out.js)
    obtain ⟨b0, b1, b2, b3, b4⟩ := box5 hz
    have hfz := box_fr hz
    clear hz hv
    go_wp2_with fail
    refine bodyPost_any_world (fun W => W.heap[w.heap.size]? = some (.cells #[.int .i64 6, .int .i64 0, str [], .slice (some ⟨g, 0, none⟩) (acc.length + 1) cap, .slice none 0 0] 95 (0, 0)) ∧ Frm (fun i => i = w.heap.size) w7 W) (five_set HX.out.1 _ _ _ _ _) ?_
    clear b0 b1 b2 b3 b4 hfz
    rintro w9 ⟨h9, hf9⟩
    obtain ⟨k0, k1, k2, k3, k4⟩ := box5 h9
    refine bodyPost_ret (v := .agg #[.int .i64 6, .int .i64 0, str [], .slice (some ⟨g, 0, none⟩) (acc.length + 1) cap, .slice none 0 0]) (by simp [results, Tryz.results106, go_sem, k0, k1, k2, k3, k4]) rfl ?_
    obtain ⟨a9, c9, e9, hv9⟩ := HL7.out.val hf9
    simp only [Value.slice.injEq] at e9
    obtain ⟨rfl, e10, rfl⟩ := e9
    rw [← e10] at hv9
    exact ⟨_, _, q2, y, rfl, hv9, JSt.grow HX.out.2 hf9 (fun i e => by have := HL7.out.lt; omega), HNX.out.1, HE.out⟩
theorem flat_take (sz : Nat) : ∀ (L : List (List Value)) (_ : ∀ r ∈ L, r.length = sz) (k : Nat), L.flatten.take (k * sz) = (L.take k).flatten
 | [], _, k => by simp
 | r :: t, _, 0 => by simp
 | r :: t, hr, k + 1 => by
   have e := hr r (by simp)
   have ih := flat_take sz t (fun r hr' => hr r (by simp [hr'])) k
   rw [List.flatten_cons, List.take_succ_cons, List.flatten_cons, List.take_append, List.take_of_length_le (by rw [e, Nat.succ_mul]; omega), e, show (k + 1) * sz - sz = k * sz by rw [Nat.succ_mul]; omega, ih]
theorem row_takeF {W : World} {base g n cap sz : Nat} {e : TypeId} {xs : List Value} (h : W.ownsRow base e sz (.slice (some ⟨g, 0, none⟩) n cap) n xs) {k : Nat} (hk : k ≤ n) : W.ownsRow base e sz (.slice (some ⟨g, 0, none⟩) k cap) k (xs.take (k * sz)) := by
 have hl := h.1
 have hm : k * sz ≤ n * sz := Nat.mul_le_mul_right sz hk
 rcases h.2 with ⟨h', _⟩ | ⟨g', cap', cur, h', hb, hg, h1, h2, h3, h4⟩
 · simp at h'
 simp only [Value.slice.injEq, Option.some.injEq, Addr.mk.injEq, and_true] at h'
 obtain ⟨rfl, _, rfl⟩ := h'
 refine ⟨by simp; omega, .inr ⟨g, cap, cur, rfl, hb, hg, by omega, h2, h3, ?_⟩⟩
 rw [← h4, List.take_take, Nat.min_eq_left hm]
theorem row_cap {W : World} {base g n cap sz : Nat} {e : TypeId} {k : Nat} {xs : List Value} (h : W.ownsRow base e sz (.slice (some ⟨g, 0, none⟩) n cap) k xs) : n = k ∧ n ≤ cap ∧ cap ≤ 9223372036854775807 := by
 rcases h.2 with ⟨h', _⟩ | ⟨g', cap', cur, h', hb, hg, h1, h2, h3, h4⟩
 · simp at h'
 simp only [Value.slice.injEq, Option.some.injEq, Addr.mk.injEq, and_true] at h'
 obtain ⟨rfl, rfl, rfl⟩ := h'
 simp only [maxLen] at h2
 exact ⟨rfl, h1, by omega⟩
theorem RdF.drop {sz : Nat} {w : World} {g off n c : Nat} {L : List (List Value)} (h : RdF sz w (.slice (some ⟨g, off, none⟩) n c) L) (k : Nat) (hk : k ≤ L.length) : RdF sz w (.slice (some ⟨g, off + k * sz, none⟩) (n - k) (c - k)) (L.drop k) := by
 obtain ⟨a', c', he, h1, h2, h3, h4⟩ := h
 simp only [Value.slice.injEq] at he
 obtain ⟨ha, rfl, rfl⟩ := he
 refine ⟨_, c - k, by rw [List.length_drop], by rw [List.length_drop]; omega, by rw [List.length_drop]; omega, by omega, fun hne => ⟨g, off + k * sz, rfl, fun i hi j u hu => ?_⟩⟩
 obtain ⟨b, o, hb, hc⟩ := h4 (by intro e; apply hne; simp [e])
 rw [← ha] at hb
 simp only [Option.some.injEq, Addr.mk.injEq, and_true] at hb
 obtain ⟨rfl, rfl⟩ := hb
 have hi' : k + i < L.length := by rw [List.length_drop] at hi; omega
 have := hc (k + i) hi' j u (by rw [List.getElem_drop] at hu; exact hu)
 rw [show off + k * sz + i * sz + j = off + (k + i) * sz + j by rw [Nat.add_mul]; omega]
 exact this
theorem RdF.empty {sz : Nat} {w : World} {a : Addr} {c : Nat} (hc : c ≤ 9223372036854775807) : RdF sz w (.slice (some a) 0 c) [] := ⟨_, c, rfl, by simp, by simp, hc, fun h => absurd rfl h⟩
theorem rdf_behind {W : World} {base g cap sz p : Nat} {e : TypeId} {L : List (List Value)} (hr : ∀ r ∈ L, r.length = sz) (h : W.ownsRow base e sz (.slice (some ⟨g, 0, none⟩) L.length cap) L.length L.flatten) (hp : p ≤ L.length)
 {A : Option Addr} (hA : (if cap = p then (some ⟨g, 0, none⟩ : Option Addr) else some ⟨g, p * sz, none⟩) = A) : RdF sz W (.slice A (L.length - p) (cap - p)) (L.drop p) := by
 obtain ⟨_, h1, h2⟩ := row_cap h
 by_cases hc : cap = p
 · rw [if_pos hc] at hA
   have e1 : L.length - p = 0 := by omega
   rw [← hA, e1, List.drop_eq_nil_of_le (by omega)]
   exact RdF.empty (by omega)
 rw [if_neg hc] at hA
 rw [← hA]
 have := (RdF.of_row hr h).drop p hp
 simpa using this
theorem run_append_rows {P : Program} {w : World} (t ty : TypeId) (base : Nat) (e : TypeId) (i : TypeInfo) (z : Value) (size bytes : Nat) (ht : P.underlying t = some (.slice e)) (hi : P.info? e = some i) (hz : i.zero = some z)
 (hsize : i.size = size) (hby : i.bytes = bytes) (hzs : z.cells.size = size) (hsz : 0 < size) (g cap n : Nat) (xs : List Value) (hown : w.ownsRow base e size (.slice (some ⟨g, 0, none⟩) n cap) n xs)
 (y : Value) (L : List (List Value)) (hL : ∀ r ∈ L, r.length = size) (hone : ∀ u ∈ L.flatten, u.oneCell' = true) (hy : RdF size w y L) (hnil : ∀ c, y = .slice none 0 c → c = 0)
 (h63 : n + L.length ≤ maxLen) (hbytes : (n + L.length) * bytes ≤ 140737488355328) (hbase : base ≤ w.heap.size) :
 ∃ g' cap' w', (Builtin.append_ #[t, t] ty #[.slice (some ⟨g, 0, none⟩) n cap, y]).run P w = .ok (.slice (some ⟨g', 0, none⟩) (n + L.length) cap') w' ∧ w'.ownsRow base e size (.slice (some ⟨g', 0, none⟩) (n + L.length) cap') (n + L.length) (xs ++ L.flatten) ∧ w.grownBy w' (some g) := by
 obtain ⟨ad, c, rfl, h1, h2, h3, h4⟩ := hy
 by_cases hne : L = []
 · subst hne
   cases ad with
   | none =>
    obtain rfl := hnil c rfl
    exact ⟨g, cap, w, run_append_owned_none (P := P) (w := w) base t ty e i size ht hi _ n xs hown, by simpa using hown, rfl, rfl, rfl, Nat.le_refl _, fun _ _ _ => rfl⟩
   | some ad =>
    subst hsize
    rcases hown.2 with ⟨h', _⟩ | ⟨g', cap', cur, h', hbg, hgb, hnc, hcm, hcs, htake⟩
    · simp at h'
    simp only [Value.slice.injEq, Option.some.injEq, Addr.mk.injEq, and_true] at h'
    obtain ⟨rfl, _, rfl⟩ := h'
    have hr := run_append_room (P := P) w t ty e i ht hi g n cap cur hgb ad 0 c [] (by simp) (by simp) (by simp) (by omega) (by rw [hcs]; simpa using Nat.mul_le_mul_right _ hnc)
    refine ⟨g, cap, _, hr, ⟨by simpa using hown.1, .inr ⟨g, cap, _, rfl, hbg, setRow_heap w g cur _ e _ hgb, hnc, hcm, ?_, ?_⟩⟩, ⟨rfl, rfl, rfl, by simp, fun k _ hk => setRow_other w g k _ (fun e => hk (by rw [e]))⟩⟩
    · have hle : n * i.size ≤ cur.size := by rw [hcs]; exact Nat.mul_le_mul_right _ hnc
      simp only [List.size_toArray, List.length_append, List.length_take, List.length_drop, Array.length_toList, List.append_nil, List.length_nil, Nat.add_zero]
      have := hown.1
      omega
    rw [htake, List.flatten_nil, List.append_nil]
    have : n * i.size = xs.length := hown.1.symm
    simp [this]
 obtain ⟨b, off, rfl, hc⟩ := h4 hne
 obtain ⟨v', w', q1, q2, q3, _⟩ := run_append_own (P := P) w base t ty e i z size bytes ht hi hz hsize hby hzs hsz _ n xs hown ⟨b, off, none⟩ L.length c L.flatten (flat_len size L hL) (fun j u hj => by
  have hjl : j < L.length * size := by
   have := (List.getElem?_eq_some_iff.1 hj).1
   rwa [flat_len size L hL] at this
  have hq : j / size < L.length := Nat.div_lt_of_lt_mul (by rwa [Nat.mul_comm] at hjl)
  have hr : j % size < size := Nat.mod_lt _ hsz
  have ej : j = j / size * size + j % size := by rw [Nat.mul_comm]; exact (Nat.div_add_mod j size).symm
  have hf := flat_at size L hL (j / size) hq (j % size) hr
  rw [← ej, hj] at hf
  have := hc (j / size) hq (j % size) u hf.symm
  rw [Addr.add_lit]
  rw [show off + j = off + j / size * size + j % size by rw [Nat.add_assoc, ← ej]]
  exact this) hone h63 hbytes hbase
 have hpos : 0 < L.length := List.length_pos_iff.2 hne
 rcases q2.2 with ⟨_, h0⟩ | ⟨g', c', _, h2', _⟩
 · omega
 subst h2'
 exact ⟨g', c', w', q1, q2, q3⟩
theorem step_appendG {P : Program} {w : World} {ops : Array Oper} {o : Oper} {a : Act} {K : Act → World → Prop} {Q : Exit → Act → World → Prop} {N : Prop} (hgd : o.guard = none) (s x : Operand) (t : TypeId)
 (ho : o.op = .call { callee := .builtin .append, args := #[s, x], argTypes := #[t, t] }) (base : Nat) (e : TypeId) (i : TypeInfo) (z : Value) (size bytes : Nat) (ht : P.underlying t = some (.slice e)) (hi : P.info? e = some i) (hz : i.zero = some z)
 (hsize : i.size = size) (hby : i.bytes = bytes) (hzs : z.cells.size = size) (hsz : 0 < size) (g cap n : Nat) (xs : List Value) (hs : a.eval s = .slice (some ⟨g, 0, none⟩) n cap) (hown : w.ownsRow base e size (.slice (some ⟨g, 0, none⟩) n cap) n xs)
 (y : Value) (L : List (List Value)) (hL : ∀ r ∈ L, r.length = size) (hone : ∀ u ∈ L.flatten, u.oneCell' = true) (hx : a.eval x = y) (hy : RdF size w y L) (hnil : ∀ c, y = .slice none 0 c → c = 0)
 (h63 : n + L.length ≤ maxLen) (hbytes : (n + L.length) * bytes ≤ 140737488355328) (hbase : base ≤ w.heap.size)
 (hK : ∀ g' cap' w', w'.ownsRow base e size (.slice (some ⟨g', 0, none⟩) (n + L.length) cap') (n + L.length) (xs ++ L.flatten) → w.grownBy w' (some g) → K (a.put o.dst (.slice (some ⟨g', 0, none⟩) (n + L.length) cap')) w') :
 if Region.wanted o (yielded ops a.tmps) = true then Oper.wp P o a w K Q else N := by
 have hw : Region.wanted o (yielded ops a.tmps) = true := by simp [Region.wanted, hgd]
 rw [if_pos hw]
 obtain ⟨g', cap', w', hrun, r1, r2⟩ := run_append_rows (P := P) (w := w) t o.type base e i z size bytes ht hi hz hsize hby hzs hsz g cap n xs hown y L hL hone hy hnil h63 hbytes hbase
 unfold Oper.wp
 simp [execOp, ho, resolve, invoke, builtin, hs, hx, hrun, Result.andThen]
 exact hK g' cap' w' r1 r2
theorem infoRpM : (Tryz.prog.info? 121).map (fun i => (i.zero, i.size, i.bytes)) = some (some (.agg #[str [], .int .i64 0, .int .i64 0, str [], .slice none 0 0, .slice none 0 0]), 6, 96) := by kernel_rfl
section
variable {W : World} {F : Nat → Prop}
theorem RdM.append : ∀ {l1 l2 : List MemT} {r1 r2 : List (List Value)}, RdM W F l1 r1 → RdM W F l2 r2 → RdM W F (l1 ++ l2) (r1 ++ r2)
 | [], _, [], _, _, h => h
 | (n, v) :: t, _, r :: rs, _, h1, h2 => by
   unfold RdM at h1
   show RdM W F ((n, v) :: (t ++ _)) (r :: (rs ++ _))
   unfold RdM
   exact ⟨h1.1, RdM.append h1.2 h2⟩
 | [], _, _ :: _, _, h, _ => by unfold RdM at h; exact h.elim
 | _ :: _, _, [], _, h, _ => by unfold RdM at h; exact h.elim
theorem RdM.take : ∀ {l : List MemT} {r : List (List Value)} (k : Nat), RdM W F l r → RdM W F (l.take k) (r.take k)
 | _, _, 0, _ => by simp only [List.take_zero]; unfold RdM; trivial
 | [], [], k + 1, h => by simpa using h
 | (n, v) :: t, r :: rs, k + 1, h => by
   unfold RdM at h
   rw [List.take_succ_cons, List.take_succ_cons]
   unfold RdM
   exact ⟨h.1, RdM.take k h.2⟩
 | [], _ :: _, _ + 1, h => by unfold RdM at h; exact h.elim
 | _ :: _, [], _ + 1, h => by unfold RdM at h; exact h.elim
theorem RdM.drop : ∀ {l : List MemT} {r : List (List Value)} (k : Nat), RdM W F l r → RdM W F (l.drop k) (r.drop k)
 | _, _, 0, h => by simpa using h
 | [], [], k + 1, h => by simpa using h
 | (n, v) :: t, r :: rs, k + 1, h => by
   unfold RdM at h
   rw [List.drop_succ_cons, List.drop_succ_cons]
   exact RdM.drop k h.2
 | [], _ :: _, _ + 1, h => by unfold RdM at h; exact h.elim
 | _ :: _, [], _ + 1, h => by unfold RdM at h; exact h.elim
theorem RdJ.one {v : JV} {cs : List Value} (h : RdJ W F v cs) : ∀ u ∈ cs, u.oneCell' = true := by
 obtain ⟨al, ll, cl, am, lm, cm, rfl, _⟩ := h.open
 intro u hu
 simp only [List.mem_cons, List.not_mem_nil, or_false] at hu
 rcases hu with rfl | rfl | rfl | rfl | rfl <;> rfl
theorem RdM.one : ∀ {l : List MemT} {r : List (List Value)}, RdM W F l r → ∀ u ∈ r.flatten, u.oneCell' = true
 | [], [], _, u, hu => by simp at hu
 | (n, v) :: t, r :: rs, h, u, hu => by
   unfold RdM at h
   obtain ⟨⟨cs, rfl, hc⟩, h2⟩ := h
   rw [List.flatten_cons, List.mem_append, List.mem_cons] at hu
   rcases hu with (rfl | hu) | hu
   · rfl
   · exact RdJ.one hc u hu
   exact RdM.one h2 u hu
 | [], _ :: _, h, _, _ => by unfold RdM at h; exact h.elim
 | _ :: _, [], h, _, _ => by unfold RdM at h; exact h.elim
end
def RowM (base : Nat) (d : List MemT) (vm : Value) (W : World) : Prop :=
 ∃ rows, W.ownsRow base 121 6 vm d.length rows.flatten ∧ RdM W (fun i => base ≤ i ∧ i < W.heap.size ∧ vm.ownBlock ≠ some i) d rows
theorem RowM.up {base : Nat} {d : List MemT} {vm : Value} {W W' : World} (h : RowM base d vm W) (hb : Below W.heap.size W W') : RowM base d vm W' := by
 obtain ⟨rows, h1, h2⟩ := h
 exact ⟨rows, owns_below h1 hb (Nat.le_refl _), (h2.up hb).mono (fun i hi hF => ⟨hF.1, hi, hF.2.2⟩)⟩
theorem RowM.frm {F : Nat → Prop} {base : Nat} {d : List MemT} {vm : Value} {W W' : World} (h : RowM base d vm W) (hf : Frm F W W') (hF : ∀ i, F i → i < base ∨ W.heap.size ≤ i) : RowM base d vm W' := by
 obtain ⟨rows, h1, h2⟩ := h
 refine ⟨rows, owns_frm h1 hf (fun k hk e => by have := hF k e; have := h1.lt k hk; omega), ?_⟩
 exact (h2.frm hf (fun i hi e => by have := hF i e; omega)).mono (fun i hi hF => ⟨hF.1, Nat.lt_of_lt_of_le hF.2.1 hf.size, hF.2.2⟩)
theorem RowM.ins {base B0 k g cap : Nat} {d : List MemT} {vm : Value} {nm : List UInt8} {v : JV} {cs : List Value} {rows : List (List Value)} {W w9 : World} (_h1 : W.ownsRow base 121 6 vm d.length rows.flatten)
 (h2 : RdM W (fun i => base ≤ i ∧ i < W.heap.size ∧ vm.ownBlock ≠ some i) d rows) (hk : k ≤ d.length) (hB : base ≤ B0) (hvb : ∀ j, vm.ownBlock = some j → j < B0) (hv : RdJ W (fun i => B0 ≤ i) v cs)
 (hf : Frm (fun i => vm.ownBlock = some i ∨ W.heap.size ≤ i) W w9) (ho : w9.ownsRow base 121 6 (.slice (some ⟨g, 0, none⟩) (d.length + 1) cap) (d.length + 1) ((rows.take k).flatten ++ ((str nm :: cs) :: rows.drop k).flatten))
 (hl : vm.ownBlock = some g ∨ W.heap.size ≤ g) : RowM base (d.take k ++ (nm, v) :: d.drop k) (.slice (some ⟨g, 0, none⟩) (d.length + 1) cap) w9 := by
 have hlen : (d.take k ++ (nm, v) :: d.drop k).length = d.length + 1 := by simp; omega
 have hown : ∀ i, base ≤ i → i < W.heap.size → vm.ownBlock ≠ some i → Value.ownBlock (.slice (some ⟨g, 0, none⟩) (d.length + 1) cap) ≠ some i := by
  intro i _ hi hne e
  simp only [Value.ownBlock, Option.some.injEq] at e
  subst e
  rcases hl with h | h
  · exact hne h
  omega
 have hm : RdM w9 (fun i => base ≤ i ∧ i < w9.heap.size ∧ Value.ownBlock (.slice (some ⟨g, 0, none⟩) (d.length + 1) cap) ≠ some i) d rows :=
  (h2.frm hf (fun i hi e => by rcases e with e | e; exact hi.2.2 e; omega)).mono (fun i hi hF => ⟨hF.1, hi, hown i hF.1 hF.2.1 hF.2.2⟩)
 have hj : RdJ w9 (fun i => base ≤ i ∧ i < w9.heap.size ∧ Value.ownBlock (.slice (some ⟨g, 0, none⟩) (d.length + 1) cap) ≠ some i) v cs := by
  have h3 : RdJ W (fun i => B0 ≤ i ∧ i < W.heap.size) v cs := hv.mono (fun i hi hF => ⟨hF, hi⟩)
  refine (h3.frm hf (fun i hi e => ?_)).mono (fun i hi hF => ⟨by omega, hi, hown i (by omega) hF.2 (fun e => by have := hvb i e; omega)⟩)
  rcases e with e | e
  · have := hvb i e; omega
  omega
 refine ⟨rows.take k ++ (str nm :: cs) :: rows.drop k, ?_, RdM.append (hm.take k) ?_⟩
 · rw [hlen, List.flatten_append]
   exact ho
 show RdM w9 _ ((nm, v) :: d.drop k) ((str nm :: cs) :: rows.drop k)
 unfold RdM
 exact ⟨⟨cs, rfl, hj⟩, hm.drop k⟩
theorem RowM.get {base k : Nat} {d : List MemT} {vm : Value} {W : World} (h : RowM base d vm W) (hk : k < d.length) : ∃ g c, vm = .slice (some ⟨g, 0, none⟩) d.length c ∧ W.cell? ⟨g, k * 6, none⟩ = some (str d[k].1) := by
 obtain ⟨rows, h1, h2⟩ := h
 obtain ⟨r1, r2⟩ := RdM.rows h2
 obtain ⟨g, c, rfl, _, _⟩ := World.ownsRow.form h1 (by omega)
 refine ⟨g, c, rfl, ?_⟩
 obtain ⟨cs, e, _⟩ := RdM.at h2 k hk (by omega)
 have h3 : W.ownsRow base 121 6 (.slice (some ⟨g, 0, none⟩) rows.length c) rows.length rows.flatten := by rw [r1]; exact h1
 obtain ⟨b', c', hv, _, _, _, h4⟩ := RdF.of_row r2 h3
 obtain ⟨b, off, hb, hc⟩ := h4 (fun e => by rw [e] at r1; simp at r1; omega)
 simp only [Value.slice.injEq] at hv
 obtain ⟨ha, _⟩ := hv
 rw [hb] at ha
 cases ha
 have := hc k (by omega) 0 (str d[k].1) (by rw [e]; rfl)
 simpa using this
structure ObR (w : World) (b : Nat) (t : List UInt8) (q x : Nat) (d : List MemT) (vm : Value) (W : World) : Prop where
 js : JSt w b t q x W
 z : W.heap[w.heap.size]? = some (.cells #[.int .i64 0, .int .i64 0, str [], .slice none 0 0, .slice none 0 0] 95 (0, 0))
 v : W.heap[w.heap.size + 1]? = some (.cells #[.int .i64 7, .int .i64 0, str [], .slice none 0 0, vm] 95 (0, 0))
 row : RowM (w.heap.size + 2) d vm W
 lt : b < w.heap.size
section
variable {w W W' : World} {b q x : Nat} {t : List UInt8} {d : List MemT} {vm : Value}
theorem ObR.sz (h : ObR w b t q x d vm W) : w.heap.size + 2 ≤ W.heap.size := (Array.getElem?_eq_some_iff.1 h.v).1
theorem ObR.vb (h : ObR w b t q x d vm W) : ∀ k, vm.ownBlock = some k → w.heap.size + 2 ≤ k ∧ k < W.heap.size := by
 obtain ⟨rows, h1, _⟩ := h.row
 exact fun k hk => h1.lt k hk
theorem ObR.up (h : ObR w b t q x d vm W) (hb : Below W.heap.size W W') : ObR w b t q x d vm W' :=
 ⟨h.js.below hb, box_up h.z hb, box_up h.v hb, h.row.up hb, h.lt⟩
theorem ObR.rd {q' x' : Nat} (h : ObR w b t q x d vm W) (hs : JSt W b t q' x' W') : ObR w b t q' x' d vm W' :=
 ⟨h.js.trans hs, box_frm h.z hs.2 (by have := h.lt; omega), box_frm h.v hs.2 (by have := h.lt; omega), h.row.frm hs.2 (fun i e => by have := h.lt; omega), h.lt⟩
theorem ObR.setAt (h : ObR w b t q x d vm W) (q' : Nat) (n : Int) (hn : n = (q' : Int)) : ObR w b t q' x d vm (W.setCell ⟨b, 1, none⟩ (.int .i64 n)) :=
 ⟨h.js.setAt q' n hn, box_far _ h.z (by have := h.lt; omega), box_far _ h.v (by have := h.lt; omega), h.row.frm (Frm.set (F := fun i => i = b) _ rfl) (fun i e => by have := h.lt; omega), h.lt⟩
theorem ObR.val (h : ObR w b t q x d vm W) {W9 : World} (hf : Frm (fun i => i = w.heap.size) W W9) : ∃ a c, vm = .slice a d.length c ∧ RdJ W9 (fun i => w.heap.size ≤ i) (.mk 7 0 [] [] d) [.int .i64 7, .int .i64 0, str [], .slice none 0 0, .slice a d.length c] := by
 obtain ⟨rows, h3, h4⟩ := h.row
 obtain ⟨r1, r2⟩ := RdM.rows h4
 have hvk := h.vb
 obtain ⟨a, c, rfl⟩ := own_slice h3
 refine ⟨a, c, rfl, ?_⟩
 have h3' : RdFB (fun i => w.heap.size + 2 ≤ i) 6 W (.slice a d.length c) rows := by
  rw [← r1] at h3 hvk ⊢
  exact RdFB.of_row r2 h3 (fun k hk => (hvk k hk).1)
 unfold RdJ
 refine ⟨_, _, rfl, ⟨[], RdFB.nil _ _ _, by unfold RdL; trivial⟩, rows, ?_, ?_⟩
 · exact (h3'.frm hf (fun i hi e => by omega)).mono (fun i _ hi => by omega) (fun r hr => by rw [r2 r hr]; omega)
 exact (h4.frm hf (fun i hi e => by omega)).mono (fun i _ hi => by omega)
theorem ObR.ins {w9 : World} {k g cap B0 : Nat} {nm : List UInt8} {v : JV} {cs : List Value} {rows : List (List Value)} (h : ObR w b t q x d vm W) (h1 : W.ownsRow (w.heap.size + 2) 121 6 vm d.length rows.flatten)
 (h2 : RdM W (fun i => w.heap.size + 2 ≤ i ∧ i < W.heap.size ∧ vm.ownBlock ≠ some i) d rows) (hk : k ≤ d.length) (hB : w.heap.size + 2 ≤ B0) (hvb : ∀ j, vm.ownBlock = some j → j < B0) (hv : RdJ W (fun i => B0 ≤ i) v cs)
 (hf : Frm (fun i => vm.ownBlock = some i ∨ W.heap.size ≤ i) W w9) (ho : w9.ownsRow (w.heap.size + 2) 121 6 (.slice (some ⟨g, 0, none⟩) (d.length + 1) cap) (d.length + 1) ((rows.take k).flatten ++ ((str nm :: cs) :: rows.drop k).flatten))
 (hl : vm.ownBlock = some g ∨ W.heap.size ≤ g) : ObR w b t q x (d.take k ++ (nm, v) :: d.drop k) (.slice (some ⟨g, 0, none⟩) (d.length + 1) cap) (w9.setCell ⟨w.heap.size + 1, 4, none⟩ (.slice (some ⟨g, 0, none⟩) (d.length + 1) cap)) ∧ w9.cell? ⟨w.heap.size + 1, 4, none⟩ = some vm ∧ w9.frozen? ⟨w.heap.size + 1, 4, none⟩ = false := by
 have hr := RowM.ins h1 h2 hk hB hvb hv hf ho hl
 have hvk := h.vb
 have hsz := h.sz
 have hlt := h.lt
 have hno : ∀ i, i < w.heap.size + 2 → ¬ (vm.ownBlock = some i ∨ W.heap.size ≤ i) := fun i hi e => by
  rcases e with e | e
  · have := (hvk i e).1; omega
  omega
 have hbx := box_frm h.v hf (hno _ (by omega))
 have hzx := box_frm h.z hf (hno _ (by omega))
 have hjs : JSt w b t q x w9 := h.js.grow hf (fun i e => by
  rcases e with e | e
  · have := (hvk i e).1; omega
  omega)
 have f2 : Frm (fun i => i = w.heap.size + 1) w9 (w9.setCell ⟨w.heap.size + 1, 4, none⟩ (.slice (some ⟨g, 0, none⟩) (d.length + 1) cap)) := Frm.set _ rfl
 refine ⟨⟨hjs.grow f2 (fun i e => by omega), box_frm hzx f2 (by omega), box_set hbx 4 _, hr.frm f2 (fun i e => by omega), h.lt⟩, by simp [World.cell?, hbx], frozen_of_row w9 (w.heap.size + 1) 4 _ _ hbx⟩
end
theorem step_appendJ {P : Program} {w : World} {ops : Array Oper} {o : Oper} {a : Act} {K : Act → World → Prop} {Q : Exit → Act → World → Prop} {N : Prop} (hgd : o.guard = none) (s x : Operand) (t : TypeId)
 (ho : o.op = .call { callee := .builtin .append, args := #[s, x], argTypes := #[t, t] }) (base : Nat) (e : TypeId) (i : TypeInfo) (z : Value) (size bytes : Nat) (ht : P.underlying t = some (.slice e)) (hi : P.info? e = some i) (hz : i.zero = some z)
 (hsize : i.size = size) (hby : i.bytes = bytes) (hzs : z.cells.size = size) (hsz : 0 < size) (v : Value) (n : Nat) (xs : List Value) (hs : a.eval s = v) (hown : w.ownsRow base e size v n xs)
 (y : Value) (L : List (List Value)) (hL : ∀ r ∈ L, r.length = size) (hone : ∀ u ∈ L.flatten, u.oneCell' = true) (hx : a.eval x = y) (hy : RdF size w y L) (hne : L ≠ [])
 (h63 : n + L.length ≤ maxLen) (hbytes : (n + L.length) * bytes ≤ 140737488355328) (hbase : base ≤ w.heap.size)
 (hK : ∀ g' cap' w', w'.ownsRow base e size (.slice (some ⟨g', 0, none⟩) (n + L.length) cap') (n + L.length) (xs ++ L.flatten) → w.grownBy w' v.ownBlock → (v.ownBlock = some g' ∨ g' = w.heap.size) → K (a.put o.dst (.slice (some ⟨g', 0, none⟩) (n + L.length) cap')) w') :
 if Region.wanted o (yielded ops a.tmps) = true then Oper.wp P o a w K Q else N := by
 obtain ⟨ad, c, rfl, h1, h2, h3, h4⟩ := hy
 obtain ⟨b, off, rfl, hc⟩ := h4 hne
 refine step_append_lies w hgd s x t ho base e i z size bytes ht hi hz hsize hby hzs hsz v n xs hs hown ⟨b, off, none⟩ L.length c L.flatten hx (flat_len size L hL) (fun j u hj => ?_) hone (List.length_pos_iff.2 hne) h63 hbytes hbase w.heap.size rfl (fun g cap w' g1 g2 g3 _ => hK g cap w' g1 g2 g3)
 have hjl : j < L.length * size := by
  have := (List.getElem?_eq_some_iff.1 hj).1
  rwa [flat_len size L hL] at this
 have hq : j / size < L.length := Nat.div_lt_of_lt_mul (by rwa [Nat.mul_comm] at hjl)
 have hr : j % size < size := Nat.mod_lt _ hsz
 have ej : j = j / size * size + j % size := by rw [Nat.mul_comm]; exact (Nat.div_add_mod j size).symm
 have hf := flat_at size L hL (j / size) hq (j % size) hr
 rw [← ej, hj] at hf
 have := hc (j / size) hq (j % size) u hf.symm
 rw [Addr.add_lit]
 rw [show off + j = off + j / size * size + j % size by rw [Nat.add_assoc, ← ej]]
 exact this
theorem rm_behind {base k g cap : Nat} {d : List MemT} {rows : List (List Value)} {W : World} {F : Nat → Prop} (h1 : W.ownsRow base 121 6 (.slice (some ⟨g, 0, none⟩) d.length cap) d.length rows.flatten) (h2 : RdM W F d rows) (hk : k ≤ d.length) :
 RdF 6 W (.slice (if cap = k then (some ⟨g, 0, none⟩ : Option Addr) else some ⟨g, k * 6, none⟩) (d.length - k) (cap - k)) (rows.drop k) := by
 obtain ⟨r1, r2⟩ := RdM.rows h2
 rw [← r1] at h1 hk ⊢
 exact rdf_behind r2 h1 hk rfl
theorem rm_ahead {base k g cap : Nat} {d : List MemT} {rows : List (List Value)} {W : World} {F : Nat → Prop} (h1 : W.ownsRow base 121 6 (.slice (some ⟨g, 0, none⟩) d.length cap) d.length rows.flatten) (h2 : RdM W F d rows) (hk : k ≤ d.length) :
 W.ownsRow base 121 6 (.slice (some ⟨g, 0, none⟩) k cap) k (rows.take k).flatten := by
 have := row_takeF h1 hk
 rwa [flat_take 6 _ (RdM.rows h2).2] at this
theorem ite_noneR {g p cap n m c : Nat} (h : (Value.slice (if cap = p then (some ⟨g, 0, none⟩ : Option Addr) else some ⟨g, p * 6, none⟩) n m) = .slice none 0 c) : c = 0 := by
 split at h <;> simp at h
end Go.Proofs.YtegblhmcfemfgaaGreatDoor
