/- hbllaw4.JsonWrites: the walk. -/
import Derived.Test.YtidlhajibjnkeaaGreatDoorJWr
import Derived.Test.YtidlhajibjnkeaaGreatDoorJWrP
import Derived.Test.YtidlhajibjnkeaaGreatDoorJWrS
import Derived.Deep.RegionHeld
import Derived.Deep.CutRange
import Derived.Test.YtidlhajibjnkeaaGreatDoorJFirst
import Derived.Test.YtidlhajibjnkeaaGreatDoorJPrn
import Derived.Test.YtidlhajibjnkeaaGreatDoorJGet
import Derived.Test.YtidlhajibjnkeaaGreatDoorRjSame
import Derived.Test.YtidlhajibjnkeaaGreatDoorJCut
import Derived.Test.YtidlhajibjnkeaaGreatDoorSameS
import Derived.Test.YtidlhajibjnkeaaGreatDoorRjMem
namespace Go.Proofs.YtidlhajibjnkeaaGreatDoor
open Go.RowKit

theorem JwB.frm {w W W' : World} {cv cu : List Value} {b : Nat} (h : JwB w cv cu W) (hf : Frm (fun i => i = b) W W') (hb : w.heap.size + 2 ≤ b) : JwB w cv cu W' :=
  ⟨h.1.trans (hf.below h.1.size (fun k e => by omega)), box_frm h.2.1 hf (by omega), box_frm h.2.2 hf (by omega)⟩
theorem JwB.two {w W : World} {cv cu : List Value} (h : JwB w cv cu W) : w.heap.size + 2 ≤ W.heap.size := (Array.getElem?_eq_some_iff.1 h.2.2).1
/-- A value in memory of bounds. -/
def Vbd (W : World) (s S : Nat) (v : JV) (cs : List Value) : Prop := RdJ W (fun i => s ≤ i ∧ i < S) v cs ∧ S ≤ W.heap.size
theorem Vbd.up {W W' : World} {s S : Nat} {v : JV} {cs : List Value} (h : Vbd W s S v cs) (hb : Below W.heap.size W W') : Vbd W' s S v cs := ⟨h.1.up hb, Nat.le_trans h.2 hb.size⟩
theorem Vbd.frm {W W' : World} {s S b : Nat} {v : JV} {cs : List Value} (h : Vbd W s S v cs) (hf : Frm (fun i => i = b) W W') (hb : ¬ (s ≤ b ∧ b < S)) : Vbd W' s S v cs := ⟨h.1.frm hf (fun i hi e => hb (e ▸ hi)), Nat.le_trans h.2 hf.size⟩
/-- The two values for the document, in their boxes. -/
def JwX (w : World) (v u : JV) (cv cu : List Value) (bx bz : Nat) (cx cz : List Value) (W : World) : Prop :=
  JwB w cv cu W ∧ W.heap[bx]? = some (.cells cx.toArray 35 (0, 0)) ∧ W.heap[bz]? = some (.cells cz.toArray 35 (0, 0)) ∧ RdJ W (fun _ => True) v cx ∧ RdJ W (fun _ => True) u cz
theorem JwX.up {w : World} {v u : JV} {cv cu : List Value} {bx bz : Nat} {cx cz : List Value} {W W' : World} (h : JwX w v u cv cu bx bz cx cz W) (hb : Below W.heap.size W W') : JwX w v u cv cu bx bz cx cz W' :=
  ⟨h.1.up hb, box_up h.2.1 hb, box_up h.2.2.1 hb, h.2.2.2.1.up hb, h.2.2.2.2.up hb⟩
/-- The copy, its first part may have another number. -/
def JwD (s : Nat) (w9 : World) (v : JV) (a : Option Addr) (bd : Nat) (cd : List Value) (W : World) : Prop := Below s w9 W ∧ JwN s bd W v a ∧ W.heap[bd]? = some (.cells cd.toArray 28 (0, 0)) ∧ s ≤ bd
theorem names_one {v : JV} {B : Nat} {cs : List Value} {w : World} (hsz : szV v ≤ 1000000000) (hok : MemOk B v cs w) (n : Int) :
    Calls Tryz.prog 19 #[.func (.func 35) #[] #[.pointer (some ⟨B, 0, none⟩)], .int .i64 n] w (NmsP w ((memL v).take n.toNat)) := by
  by_cases h1 : 1 ≤ n
  · exact names_any hsz hok n h1
  refine (names_none _ n w ⟨_, _, rfl⟩ (by omega)).mono ?_
  rintro e w' ⟨rfl, hb⟩
  rw [show n.toNat = 0 by omega, List.take_zero]
  exact ⟨_, _, [], rfl, World.ownsRow_nil _ _ _ _, World.ownsRow_nil _ _ _ _, by simp [RdL], hb⟩
set_option maxRecDepth 100000 in
set_option maxHeartbeats 8000000 in
theorem jwrites_main (v u : JV) (cv cu : List Value) (nm : List UInt8) (n : Int) (w : World) (hv : RdJ w (fun _ => True) v cv) (hu : RdJ w (fun _ => True) u cu) (ht : TabJ w.heap.size w) (h1 : fewB v = true) (h2 : fewB u = true) (h3 : nm.length ≤ 1000) :
    Calls Tryz.prog 4 #[.agg cv.toArray, .agg cu.toArray, str nm, .int .i64 n] w fun e w' => e = .returned (.bool true) ∧ Below w.heap.size w w' := by
  obtain ⟨al, ll, cl, am, lm, cm, hcv, _, _⟩ := hv.open
  obtain ⟨bl, ml, dl, bm, mm, dm, hcu, _, _⟩ := hu.open
  obtain ⟨kv, nv, sv, hk1, hn1, hs1⟩ : ∃ a b c, a = v.kind ∧ b = v.n ∧ c = v.s := ⟨_, _, _, rfl, rfl, rfl⟩
  obtain ⟨ku, nu, su, hk2, hn2, hs2⟩ : ∃ a b c, a = u.kind ∧ b = u.n ∧ c = u.s := ⟨_, _, _, rfl, rfl, rfl⟩
  rw [← hk1, ← hn1, ← hs1] at hcv
  rw [← hk2, ← hn2, ← hs2] at hcu
  subst hcv hcu
  obtain ⟨W0, hW0⟩ : ∃ W0, W0 = (w.alloc (.cells #[.int .i64 kv, .int .i64 nv, str sv, .slice al ll cl, .slice am lm cm] 28)).alloc (.cells #[.int .i64 ku, .int .i64 nu, str su, .slice bl ml dl, .slice bm mm dm] 28) := ⟨_, rfl⟩
  have H0 : Hid (JwB w [.int .i64 kv, .int .i64 nv, str sv, .slice al ll cl, .slice am lm cm] [.int .i64 ku, .int .i64 nu, str su, .slice bl ml dl, .slice bm mm dm] W0) := Lib.hid (by
    rw [hW0]
    refine ⟨((Below.refl _ _).alloc (Nat.le_refl _) _).alloc (by simp) _, box_up (heap_alloc_new w _) (below_alloc _ _), ?_⟩
    have := heap_alloc_new (w.alloc (.cells #[.int .i64 kv, .int .i64 nv, str sv, .slice al ll cl, .slice am lm cm] 28)) (.cells #[.int .i64 ku, .int .i64 nu, str su, .slice bl ml dl, .slice bm mm dm] 28)
    simpa using this)
  have HT := Lib.hid ht
  have HV := Lib.hid hv
  have HU := Lib.hid hu
  have CF := Lib.hid (jfirst_any W0 (ht.up H0.out.1 H0.out.1.size))
  have HK := Lib.hid (And.intro hk1 (And.intro hn1 (And.intro hs1 (And.intro hk2 (And.intro hn2 hs2)))))
  clear ht hv hu hk1 hn1 hs1 hk2 hn2 hs2
  have hf1 := Lib.hid h1
  have hf2 := Lib.hid h2
  have HZv : Hid (szV v ≤ 1000000000) := Lib.hid (by have := few_sz h1; omega)
  have HZu : Hid (szV u ≤ 1000000000) := Lib.hid (by have := few_sz h2; omega)
  have n3 : ¬ (1000 : Int) < (nm.length : Int) := by omega
  have HNM := Lib.hid h3
  clear h1 h2 h3
  go_enter Tryz.func4, Tryz.ntmps4
  go_upto_region 1 with fail
  rw [← hW0]
  clear hW0
  go_wp2_with fail
  refine CF.out.mono ?_
  rintro e w1 ⟨rfl, hb1⟩
  have H1 := Lib.hid (H0.out.up hb1)
  clear hb1 CF H0
  have CW := Lib.hid (few_any (HV.out.up H1.out.1))
  rw [hf1.out] at CW
  have q0 := box_cell H1.out.2.1 0
  have q1 := box_cell H1.out.2.1 1
  have q2 := box_cell H1.out.2.1 2
  have q3 := box_cell H1.out.2.1 3
  have q4 := box_cell H1.out.2.1 4
  go_wp2_with fail
  refine CW.out.mono ?_
  rintro e w2 ⟨rfl, hb2⟩
  have H2 := Lib.hid (H1.out.up hb2)
  clear hb2 CW q0 q1 q2 q3 q4 H1
  have CW := Lib.hid (few_any (HU.out.up H2.out.1))
  rw [hf2.out] at CW
  have q0 := box_cell H2.out.2.2 0
  have q1 := box_cell H2.out.2.2 1
  have q2 := box_cell H2.out.2.2 2
  have q3 := box_cell H2.out.2.2 3
  have q4 := box_cell H2.out.2.2 4
  go_wp2_with fail
  refine CW.out.mono ?_
  rintro e w3 ⟨rfl, hb3⟩
  have H3 := Lib.hid (H2.out.up hb3)
  clear hb3 CW q0 q1 q2 q3 q4 H2
  go_upto_region 5 with fail
  go_cut [9, 10] from 41 to 44 (fun v9 v10 wx => ∃ bx bz xa xl xc xb xm xd ya yl yc yb ym yd, v9 = .pointer (some ⟨bx, 0, none⟩) ∧ v10 = .pointer (some ⟨bz, 0, none⟩) ∧ Hid (JwX w v u [.int .i64 kv, .int .i64 nv, str sv, .slice al ll cl, .slice am lm cm] [.int .i64 ku, .int .i64 nu, str su, .slice bl ml dl, .slice bm mm dm] bx bz [.int .i64 kv, .int .i64 nv, str sv, .slice xa xl xc, .slice xb xm xd] [.int .i64 ku, .int .i64 nu, str su, .slice ya yl yc, .slice yb ym yd] wx))
  case first =>
    obtain ⟨wc, hwc⟩ : ∃ x, x = w3.drew := ⟨_, rfl⟩
    have HB := Lib.hid (show JwB w _ _ wc from by rw [hwc]; exact H3.out.up (Below.drewsN (Below.refl _ _) 1))
    refine wp_region_held_drew (S := (fun W => W.heap[w.heap.size]? = some (.cells #[.int .i64 kv, .int .i64 nv, str sv, .slice al ll cl, .slice am lm cm] 28 (0, 0)) ∧ W.heap[w.heap.size + 1]? = some (.cells #[.int .i64 ku, .int .i64 nu, str su, .slice bl ml dl, .slice bm mm dm] 28 (0, 0)))) (by kernel_rfl) (by rw [← hwc]; exact ⟨HB.out.2.1, HB.out.2.2⟩) (fun hHeld => ?_)
    rw [← hwc] at hHeld ⊢
    clear hwc
    refine wpAnyH_take (i := 0) (v := ?vq1) rfl (by kernel_rfl) (by kernel_rfl) (by kernel_rfl) (fun _ _ _ h => h) (Or.inl ⟨by rfl, ?hyq1⟩) (by assumption) ?_
    case hyq1 => (intro w; intro hSw; obtain ⟨g1, g2⟩ := hSw; have a0 := box_cell g1 0; have a1 := box_cell g1 1; have a2 := box_cell g1 2; have a3 := box_cell g1 3; have a4 := box_cell g1 4; have b0 := box_cell g2 0; have b1 := box_cell g2 1; have b2 := box_cell g2 2; have b3 := box_cell g2 3; have b4 := box_cell g2 4; go_simp; try with_reducible rfl)
    go_simp
    refine wpAnyH_take (i := 2) (v := ?vq2) rfl (by kernel_rfl) (by kernel_rfl) (by kernel_rfl) (fun _ _ _ h => h) (Or.inl ⟨by rfl, ?hyq2⟩) (by assumption) ?_
    case hyq2 => (intro w; intro hSw; obtain ⟨g1, g2⟩ := hSw; have a0 := box_cell g1 0; have a1 := box_cell g1 1; have a2 := box_cell g1 2; have a3 := box_cell g1 3; have a4 := box_cell g1 4; have b0 := box_cell g2 0; have b1 := box_cell g2 1; have b2 := box_cell g2 2; have b3 := box_cell g2 3; have b4 := box_cell g2 4; go_simp; try with_reducible rfl)
    go_simp
    refine wpAnyH_ready (rs := [1, 4, 5]) (by kernel_rfl) (by simp) (AllReadyH.cons rfl (fun K hK => ?_) (AllReadyH.cons rfl (fun K hK => ?_) (AllReadyH.cons rfl (fun K hK => ?_) AllReadyH.nil)))
    · go_simp
      refine (plain_any v HZv.out _ _ _ (HV.out.up HB.out.1)).mono ?_
      rintro e wq ⟨c9, rfl, hy, hb⟩
      obtain ⟨xa, xl, xc, xb, xm, xd, hc9, _, _⟩ := hy.open
      rw [← HK.out.1, ← HK.out.2.1, ← HK.out.2.2.1] at hc9
      subst hc9
      obtain ⟨s1, hs1⟩ : ∃ s, s = wc.heap.size := ⟨_, rfl⟩
      obtain ⟨S1, hS1⟩ : ∃ s, s = wq.heap.size := ⟨_, rfl⟩
      have PX9 : Vbd wq s1 S1 v _ := ⟨hy.mono (G := fun i => s1 ≤ i ∧ i < S1) (fun i h1 h2 => ⟨by omega, by omega⟩), by omega⟩
      have HB := Lib.hid (HB.out.up hb)
      have PX := Lib.hid PX9
      clear hb hy PX9 hs1 hS1
      rename World => wc
      go_simp
      refine hK.out _ _ ⟨HB.out.2.1, HB.out.2.2⟩ (fun hHeld => ?_)
      clear hK K
      refine wpAnyH_ready (rs := [3, 4, 5]) (by kernel_rfl) (by simp) (AllReadyH.cons rfl (fun K hK => ?_) (AllReadyH.cons rfl (fun K hK => ?_) (AllReadyH.cons rfl (fun K hK => ?_) AllReadyH.nil)))
      · go_simp
        refine (plain_any u HZu.out _ _ _ (HU.out.up HB.out.1)).mono ?_
        rintro e wq ⟨c9, rfl, hy, hb⟩
        obtain ⟨ya, yl, yc, yb, ym, yd, hc9, _, _⟩ := hy.open
        rw [← HK.out.2.2.2.1, ← HK.out.2.2.2.2.1, ← HK.out.2.2.2.2.2] at hc9
        subst hc9
        obtain ⟨s2, hs2⟩ : ∃ s, s = wc.heap.size := ⟨_, rfl⟩
        obtain ⟨S2, hS2⟩ : ∃ s, s = wq.heap.size := ⟨_, rfl⟩
        have PY9 : Vbd wq s2 S2 u _ := ⟨hy.mono (G := fun i => s2 ≤ i ∧ i < S2) (fun i h1 h2 => ⟨by omega, by omega⟩), by omega⟩
        have HB := Lib.hid (HB.out.up hb)
        have PX := Lib.hid (PX.out.up hb)
        have PY := Lib.hid PY9
        clear hb hy PY9 hs2 hS2
        rename World => wc
        go_simp
        refine hK.out _ _ ⟨HB.out.2.1, HB.out.2.2⟩ (fun hHeld => ?_)
        clear hK K
        refine wpAnyH_ready (rs := [4, 5]) (by kernel_rfl) (by simp) (AllReadyH.cons rfl (fun K hK => ?_) (AllReadyH.cons rfl (fun K hK => ?_) AllReadyH.nil))
        · go_simp
          obtain ⟨bx, hbx⟩ : ∃ b, b = wc.heap.size := ⟨_, rfl⟩
          obtain ⟨wq, hwq⟩ : ∃ x, x = wc.alloc (.cells #[.int .i64 0, .int .i64 0, .string ⟨#[]⟩, .slice none 0 0, .slice none 0 0] 35) := ⟨_, rfl⟩
          have hb : Below wc.heap.size wc wq := by rw [hwq]; exact below_alloc _ _
          have n9 : wq.heap[bx]? = some (.cells #[.int .i64 0, .int .i64 0, .string ⟨#[]⟩, .slice none 0 0, .slice none 0 0] 35 (0, 0)) := by rw [hwq, hbx]; exact heap_alloc_new wc _
          have Lbx := Lib.hid (show w.heap.size + 2 ≤ bx from by have := HB.out.two; omega)
          have DX1 := Lib.hid (show ¬ (s1 ≤ bx ∧ bx < S1) from by have := PX.out.2; omega)
          have DX3 := Lib.hid (show ¬ (s2 ≤ bx ∧ bx < S2) from by have := PY.out.2; omega)
          have HB := Lib.hid (HB.out.up hb)
          have PX := Lib.hid (PX.out.up hb)
          have PY := Lib.hid (PY.out.up hb)
          have NX := Lib.hid n9
          rw [← hwq, ← hbx]
          clear hb n9 hwq hbx
          rename World => wc
          refine hK.out _ _ ⟨HB.out.2.1, HB.out.2.2⟩ (fun hHeld => ?_)
          clear hK K
          refine wpAnyH_ready (rs := [5]) (by kernel_rfl) (by simp) (AllReadyH.cons rfl (fun K hK => ?_) AllReadyH.nil)
          go_simp
          obtain ⟨bz, hbz⟩ : ∃ b, b = wc.heap.size := ⟨_, rfl⟩
          obtain ⟨wq, hwq⟩ : ∃ x, x = wc.alloc (.cells #[.int .i64 0, .int .i64 0, .string ⟨#[]⟩, .slice none 0 0, .slice none 0 0] 35) := ⟨_, rfl⟩
          have hb : Below wc.heap.size wc wq := by rw [hwq]; exact below_alloc _ _
          have n9 : wq.heap[bz]? = some (.cells #[.int .i64 0, .int .i64 0, .string ⟨#[]⟩, .slice none 0 0, .slice none 0 0] 35 (0, 0)) := by rw [hwq, hbz]; exact heap_alloc_new wc _
          have Lbz := Lib.hid (show w.heap.size + 2 ≤ bz from by have := HB.out.two; omega)
          have DZ1 := Lib.hid (show ¬ (s1 ≤ bz ∧ bz < S1) from by have := PX.out.2; omega)
          have DZ3 := Lib.hid (show ¬ (s2 ≤ bz ∧ bz < S2) from by have := PY.out.2; omega)
          have NE := Lib.hid (show bx ≠ bz from by have := (Array.getElem?_eq_some_iff.1 NX.out).1; omega)
          have HB := Lib.hid (HB.out.up hb)
          have PX := Lib.hid (PX.out.up hb)
          have PY := Lib.hid (PY.out.up hb)
          have NX := Lib.hid (box_up NX.out hb)
          have NY := Lib.hid n9
          rw [← hwq, ← hbz]
          clear hb n9 hwq hbz
          rename World => wc
          refine hK.out _ _ ⟨HB.out.2.1, HB.out.2.2⟩ (fun hHeld => ?_)
          clear hK K
          refine wpAnyH_ready (rs := [6]) (by kernel_rfl) (by simp) (AllReadyH.cons rfl (fun K hK => ?_) AllReadyH.nil)
          have b0 := box_cell NX.out 0
          have b1 := box_cell NX.out 1
          have b2 := box_cell NX.out 2
          have b3 := box_cell NX.out 3
          have b4 := box_cell NX.out 4
          have hfz := box_fr NX.out
          go_simp
          have HF5 := five_set NX.out (.int .i64 kv) (.int .i64 nv) (str sv) (.slice xa xl xc) (.slice xb xm xd)
          generalize (((((wc.setCell ⟨bx, 0, none⟩ (.int .i64 kv)).setCell ⟨bx, 1, none⟩ (.int .i64 nv)).setCell ⟨bx, 2, none⟩ (str sv)).setCell ⟨bx, 3, none⟩ (.slice xa xl xc)).setCell ⟨bx, 4, none⟩ (.slice xb xm xd)) = wq at HF5 ⊢
          obtain ⟨h9, hf9⟩ := HF5
          have HB := Lib.hid (HB.out.frm hf9 Lbx.out)
          have PX := Lib.hid (PX.out.frm hf9 DX1.out)
          have PY := Lib.hid (PY.out.frm hf9 DX3.out)
          have NY := Lib.hid (box_frm NY.out hf9 (by have := NE.out; omega))
          have NX := Lib.hid h9
          clear h9 hf9 b0 b1 b2 b3 b4 hfz
          rename World => wc
          refine hK.out _ _ ⟨HB.out.2.1, HB.out.2.2⟩ (fun hHeld => ?_)
          clear hK K
          refine wpAnyH_ready (rs := [7]) (by kernel_rfl) (by simp) (AllReadyH.cons rfl (fun K hK => ?_) AllReadyH.nil)
          have b0 := box_cell NY.out 0
          have b1 := box_cell NY.out 1
          have b2 := box_cell NY.out 2
          have b3 := box_cell NY.out 3
          have b4 := box_cell NY.out 4
          have hfz := box_fr NY.out
          go_simp
          have HF5 := five_set NY.out (.int .i64 ku) (.int .i64 nu) (str su) (.slice ya yl yc) (.slice yb ym yd)
          generalize (((((wc.setCell ⟨bz, 0, none⟩ (.int .i64 ku)).setCell ⟨bz, 1, none⟩ (.int .i64 nu)).setCell ⟨bz, 2, none⟩ (str su)).setCell ⟨bz, 3, none⟩ (.slice ya yl yc)).setCell ⟨bz, 4, none⟩ (.slice yb ym yd)) = wq at HF5 ⊢
          obtain ⟨h9, hf9⟩ := HF5
          have HB := Lib.hid (HB.out.frm hf9 Lbz.out)
          have PX := Lib.hid (PX.out.frm hf9 DZ1.out)
          have PY := Lib.hid (PY.out.frm hf9 DZ3.out)
          have NX := Lib.hid (box_frm NX.out hf9 (by have := NE.out; omega))
          have NY := Lib.hid h9
          clear h9 hf9 b0 b1 b2 b3 b4 hfz
          rename World => wc
          refine hK.out _ _ ⟨HB.out.2.1, HB.out.2.2⟩ (fun hHeld => ?_)
          clear hK K
          refine wpAnyH_done (by kernel_rfl) ?_ _
          have HXX := Lib.hid (show JwX w v u _ _ bx bz _ _ wc from ⟨HB.out, NX.out, NY.out, PX.out.1.mono (fun _ _ _ => trivial), PY.out.1.mono (fun _ _ _ => trivial)⟩)
          go_wp2_with fail
          go_meet
          exact ⟨bx, bz, xa, xl, xc, xb, xm, xd, ya, yl, yc, yb, ym, yd, rfl, rfl, HXX⟩
        go_simp
        obtain ⟨bz, hbz⟩ : ∃ b, b = wc.heap.size := ⟨_, rfl⟩
        obtain ⟨wq, hwq⟩ : ∃ x, x = wc.alloc (.cells #[.int .i64 0, .int .i64 0, .string ⟨#[]⟩, .slice none 0 0, .slice none 0 0] 35) := ⟨_, rfl⟩
        have hb : Below wc.heap.size wc wq := by rw [hwq]; exact below_alloc _ _
        have n9 : wq.heap[bz]? = some (.cells #[.int .i64 0, .int .i64 0, .string ⟨#[]⟩, .slice none 0 0, .slice none 0 0] 35 (0, 0)) := by rw [hwq, hbz]; exact heap_alloc_new wc _
        have Lbz := Lib.hid (show w.heap.size + 2 ≤ bz from by have := HB.out.two; omega)
        have DZ1 := Lib.hid (show ¬ (s1 ≤ bz ∧ bz < S1) from by have := PX.out.2; omega)
        have DZ3 := Lib.hid (show ¬ (s2 ≤ bz ∧ bz < S2) from by have := PY.out.2; omega)
        have HB := Lib.hid (HB.out.up hb)
        have PX := Lib.hid (PX.out.up hb)
        have PY := Lib.hid (PY.out.up hb)
        have NY := Lib.hid n9
        rw [← hwq, ← hbz]
        clear hb n9 hwq hbz
        rename World => wc
        refine hK.out _ _ ⟨HB.out.2.1, HB.out.2.2⟩ (fun hHeld => ?_)
        clear hK K
        refine wpAnyH_ready (rs := [4]) (by kernel_rfl) (by simp) (AllReadyH.cons rfl (fun K hK => ?_) AllReadyH.nil)
        go_simp
        obtain ⟨bx, hbx⟩ : ∃ b, b = wc.heap.size := ⟨_, rfl⟩
        obtain ⟨wq, hwq⟩ : ∃ x, x = wc.alloc (.cells #[.int .i64 0, .int .i64 0, .string ⟨#[]⟩, .slice none 0 0, .slice none 0 0] 35) := ⟨_, rfl⟩
        have hb : Below wc.heap.size wc wq := by rw [hwq]; exact below_alloc _ _
        have n9 : wq.heap[bx]? = some (.cells #[.int .i64 0, .int .i64 0, .string ⟨#[]⟩, .slice none 0 0, .slice none 0 0] 35 (0, 0)) := by rw [hwq, hbx]; exact heap_alloc_new wc _
        have Lbx := Lib.hid (show w.heap.size + 2 ≤ bx from by have := HB.out.two; omega)
        have DX1 := Lib.hid (show ¬ (s1 ≤ bx ∧ bx < S1) from by have := PX.out.2; omega)
        have DX3 := Lib.hid (show ¬ (s2 ≤ bx ∧ bx < S2) from by have := PY.out.2; omega)
        have NE := Lib.hid (show bx ≠ bz from by have := (Array.getElem?_eq_some_iff.1 NY.out).1; omega)
        have HB := Lib.hid (HB.out.up hb)
        have PX := Lib.hid (PX.out.up hb)
        have PY := Lib.hid (PY.out.up hb)
        have NY := Lib.hid (box_up NY.out hb)
        have NX := Lib.hid n9
        rw [← hwq, ← hbx]
        clear hb n9 hwq hbx
        rename World => wc
        refine hK.out _ _ ⟨HB.out.2.1, HB.out.2.2⟩ (fun hHeld => ?_)
        clear hK K
        refine wpAnyH_ready (rs := [6]) (by kernel_rfl) (by simp) (AllReadyH.cons rfl (fun K hK => ?_) AllReadyH.nil)
        have b0 := box_cell NX.out 0
        have b1 := box_cell NX.out 1
        have b2 := box_cell NX.out 2
        have b3 := box_cell NX.out 3
        have b4 := box_cell NX.out 4
        have hfz := box_fr NX.out
        go_simp
        have HF5 := five_set NX.out (.int .i64 kv) (.int .i64 nv) (str sv) (.slice xa xl xc) (.slice xb xm xd)
        generalize (((((wc.setCell ⟨bx, 0, none⟩ (.int .i64 kv)).setCell ⟨bx, 1, none⟩ (.int .i64 nv)).setCell ⟨bx, 2, none⟩ (str sv)).setCell ⟨bx, 3, none⟩ (.slice xa xl xc)).setCell ⟨bx, 4, none⟩ (.slice xb xm xd)) = wq at HF5 ⊢
        obtain ⟨h9, hf9⟩ := HF5
        have HB := Lib.hid (HB.out.frm hf9 Lbx.out)
        have PX := Lib.hid (PX.out.frm hf9 DX1.out)
        have PY := Lib.hid (PY.out.frm hf9 DX3.out)
        have NY := Lib.hid (box_frm NY.out hf9 (by have := NE.out; omega))
        have NX := Lib.hid h9
        clear h9 hf9 b0 b1 b2 b3 b4 hfz
        rename World => wc
        refine hK.out _ _ ⟨HB.out.2.1, HB.out.2.2⟩ (fun hHeld => ?_)
        clear hK K
        refine wpAnyH_ready (rs := [7]) (by kernel_rfl) (by simp) (AllReadyH.cons rfl (fun K hK => ?_) AllReadyH.nil)
        have b0 := box_cell NY.out 0
        have b1 := box_cell NY.out 1
        have b2 := box_cell NY.out 2
        have b3 := box_cell NY.out 3
        have b4 := box_cell NY.out 4
        have hfz := box_fr NY.out
        go_simp
        have HF5 := five_set NY.out (.int .i64 ku) (.int .i64 nu) (str su) (.slice ya yl yc) (.slice yb ym yd)
        generalize (((((wc.setCell ⟨bz, 0, none⟩ (.int .i64 ku)).setCell ⟨bz, 1, none⟩ (.int .i64 nu)).setCell ⟨bz, 2, none⟩ (str su)).setCell ⟨bz, 3, none⟩ (.slice ya yl yc)).setCell ⟨bz, 4, none⟩ (.slice yb ym yd)) = wq at HF5 ⊢
        obtain ⟨h9, hf9⟩ := HF5
        have HB := Lib.hid (HB.out.frm hf9 Lbz.out)
        have PX := Lib.hid (PX.out.frm hf9 DZ1.out)
        have PY := Lib.hid (PY.out.frm hf9 DZ3.out)
        have NX := Lib.hid (box_frm NX.out hf9 (by have := NE.out; omega))
        have NY := Lib.hid h9
        clear h9 hf9 b0 b1 b2 b3 b4 hfz
        rename World => wc
        refine hK.out _ _ ⟨HB.out.2.1, HB.out.2.2⟩ (fun hHeld => ?_)
        clear hK K
        refine wpAnyH_done (by kernel_rfl) ?_ _
        have HXX := Lib.hid (show JwX w v u _ _ bx bz _ _ wc from ⟨HB.out, NX.out, NY.out, PX.out.1.mono (fun _ _ _ => trivial), PY.out.1.mono (fun _ _ _ => trivial)⟩)
        go_wp2_with fail
        go_meet
        exact ⟨bx, bz, xa, xl, xc, xb, xm, xd, ya, yl, yc, yb, ym, yd, rfl, rfl, HXX⟩
      · go_simp
        obtain ⟨bx, hbx⟩ : ∃ b, b = wc.heap.size := ⟨_, rfl⟩
        obtain ⟨wq, hwq⟩ : ∃ x, x = wc.alloc (.cells #[.int .i64 0, .int .i64 0, .string ⟨#[]⟩, .slice none 0 0, .slice none 0 0] 35) := ⟨_, rfl⟩
        have hb : Below wc.heap.size wc wq := by rw [hwq]; exact below_alloc _ _
        have n9 : wq.heap[bx]? = some (.cells #[.int .i64 0, .int .i64 0, .string ⟨#[]⟩, .slice none 0 0, .slice none 0 0] 35 (0, 0)) := by rw [hwq, hbx]; exact heap_alloc_new wc _
        have Lbx := Lib.hid (show w.heap.size + 2 ≤ bx from by have := HB.out.two; omega)
        have DX1 := Lib.hid (show ¬ (s1 ≤ bx ∧ bx < S1) from by have := PX.out.2; omega)
        have HB := Lib.hid (HB.out.up hb)
        have PX := Lib.hid (PX.out.up hb)
        have NX := Lib.hid n9
        rw [← hwq, ← hbx]
        clear hb n9 hwq hbx
        rename World => wc
        refine hK.out _ _ ⟨HB.out.2.1, HB.out.2.2⟩ (fun hHeld => ?_)
        clear hK K
        refine wpAnyH_ready (rs := [3, 5]) (by kernel_rfl) (by simp) (AllReadyH.cons rfl (fun K hK => ?_) (AllReadyH.cons rfl (fun K hK => ?_) AllReadyH.nil))
        · go_simp
          refine (plain_any u HZu.out _ _ _ (HU.out.up HB.out.1)).mono ?_
          rintro e wq ⟨c9, rfl, hy, hb⟩
          obtain ⟨ya, yl, yc, yb, ym, yd, hc9, _, _⟩ := hy.open
          rw [← HK.out.2.2.2.1, ← HK.out.2.2.2.2.1, ← HK.out.2.2.2.2.2] at hc9
          subst hc9
          obtain ⟨s2, hs2⟩ : ∃ s, s = wc.heap.size := ⟨_, rfl⟩
          obtain ⟨S2, hS2⟩ : ∃ s, s = wq.heap.size := ⟨_, rfl⟩
          have DX3 := Lib.hid (show ¬ (s2 ≤ bx ∧ bx < S2) from by have := (Array.getElem?_eq_some_iff.1 NX.out).1; omega)
          have PY9 : Vbd wq s2 S2 u _ := ⟨hy.mono (G := fun i => s2 ≤ i ∧ i < S2) (fun i h1 h2 => ⟨by omega, by omega⟩), by omega⟩
          have HB := Lib.hid (HB.out.up hb)
          have PX := Lib.hid (PX.out.up hb)
          have NX := Lib.hid (box_up NX.out hb)
          have PY := Lib.hid PY9
          clear hb hy PY9 hs2 hS2
          rename World => wc
          go_simp
          refine hK.out _ _ ⟨HB.out.2.1, HB.out.2.2⟩ (fun hHeld => ?_)
          clear hK K
          refine wpAnyH_ready (rs := [5]) (by kernel_rfl) (by simp) (AllReadyH.cons rfl (fun K hK => ?_) AllReadyH.nil)
          go_simp
          obtain ⟨bz, hbz⟩ : ∃ b, b = wc.heap.size := ⟨_, rfl⟩
          obtain ⟨wq, hwq⟩ : ∃ x, x = wc.alloc (.cells #[.int .i64 0, .int .i64 0, .string ⟨#[]⟩, .slice none 0 0, .slice none 0 0] 35) := ⟨_, rfl⟩
          have hb : Below wc.heap.size wc wq := by rw [hwq]; exact below_alloc _ _
          have n9 : wq.heap[bz]? = some (.cells #[.int .i64 0, .int .i64 0, .string ⟨#[]⟩, .slice none 0 0, .slice none 0 0] 35 (0, 0)) := by rw [hwq, hbz]; exact heap_alloc_new wc _
          have Lbz := Lib.hid (show w.heap.size + 2 ≤ bz from by have := HB.out.two; omega)
          have DZ1 := Lib.hid (show ¬ (s1 ≤ bz ∧ bz < S1) from by have := PX.out.2; omega)
          have DZ3 := Lib.hid (show ¬ (s2 ≤ bz ∧ bz < S2) from by have := PY.out.2; omega)
          have NE := Lib.hid (show bx ≠ bz from by have := (Array.getElem?_eq_some_iff.1 NX.out).1; omega)
          have HB := Lib.hid (HB.out.up hb)
          have PX := Lib.hid (PX.out.up hb)
          have PY := Lib.hid (PY.out.up hb)
          have NX := Lib.hid (box_up NX.out hb)
          have NY := Lib.hid n9
          rw [← hwq, ← hbz]
          clear hb n9 hwq hbz
          rename World => wc
          refine hK.out _ _ ⟨HB.out.2.1, HB.out.2.2⟩ (fun hHeld => ?_)
          clear hK K
          refine wpAnyH_ready (rs := [6]) (by kernel_rfl) (by simp) (AllReadyH.cons rfl (fun K hK => ?_) AllReadyH.nil)
          have b0 := box_cell NX.out 0
          have b1 := box_cell NX.out 1
          have b2 := box_cell NX.out 2
          have b3 := box_cell NX.out 3
          have b4 := box_cell NX.out 4
          have hfz := box_fr NX.out
          go_simp
          have HF5 := five_set NX.out (.int .i64 kv) (.int .i64 nv) (str sv) (.slice xa xl xc) (.slice xb xm xd)
          generalize (((((wc.setCell ⟨bx, 0, none⟩ (.int .i64 kv)).setCell ⟨bx, 1, none⟩ (.int .i64 nv)).setCell ⟨bx, 2, none⟩ (str sv)).setCell ⟨bx, 3, none⟩ (.slice xa xl xc)).setCell ⟨bx, 4, none⟩ (.slice xb xm xd)) = wq at HF5 ⊢
          obtain ⟨h9, hf9⟩ := HF5
          have HB := Lib.hid (HB.out.frm hf9 Lbx.out)
          have PX := Lib.hid (PX.out.frm hf9 DX1.out)
          have PY := Lib.hid (PY.out.frm hf9 DX3.out)
          have NY := Lib.hid (box_frm NY.out hf9 (by have := NE.out; omega))
          have NX := Lib.hid h9
          clear h9 hf9 b0 b1 b2 b3 b4 hfz
          rename World => wc
          refine hK.out _ _ ⟨HB.out.2.1, HB.out.2.2⟩ (fun hHeld => ?_)
          clear hK K
          refine wpAnyH_ready (rs := [7]) (by kernel_rfl) (by simp) (AllReadyH.cons rfl (fun K hK => ?_) AllReadyH.nil)
          have b0 := box_cell NY.out 0
          have b1 := box_cell NY.out 1
          have b2 := box_cell NY.out 2
          have b3 := box_cell NY.out 3
          have b4 := box_cell NY.out 4
          have hfz := box_fr NY.out
          go_simp
          have HF5 := five_set NY.out (.int .i64 ku) (.int .i64 nu) (str su) (.slice ya yl yc) (.slice yb ym yd)
          generalize (((((wc.setCell ⟨bz, 0, none⟩ (.int .i64 ku)).setCell ⟨bz, 1, none⟩ (.int .i64 nu)).setCell ⟨bz, 2, none⟩ (str su)).setCell ⟨bz, 3, none⟩ (.slice ya yl yc)).setCell ⟨bz, 4, none⟩ (.slice yb ym yd)) = wq at HF5 ⊢
          obtain ⟨h9, hf9⟩ := HF5
          have HB := Lib.hid (HB.out.frm hf9 Lbz.out)
          have PX := Lib.hid (PX.out.frm hf9 DZ1.out)
          have PY := Lib.hid (PY.out.frm hf9 DZ3.out)
          have NX := Lib.hid (box_frm NX.out hf9 (by have := NE.out; omega))
          have NY := Lib.hid h9
          clear h9 hf9 b0 b1 b2 b3 b4 hfz
          rename World => wc
          refine hK.out _ _ ⟨HB.out.2.1, HB.out.2.2⟩ (fun hHeld => ?_)
          clear hK K
          refine wpAnyH_done (by kernel_rfl) ?_ _
          have HXX := Lib.hid (show JwX w v u _ _ bx bz _ _ wc from ⟨HB.out, NX.out, NY.out, PX.out.1.mono (fun _ _ _ => trivial), PY.out.1.mono (fun _ _ _ => trivial)⟩)
          go_wp2_with fail
          go_meet
          exact ⟨bx, bz, xa, xl, xc, xb, xm, xd, ya, yl, yc, yb, ym, yd, rfl, rfl, HXX⟩
        go_simp
        obtain ⟨bz, hbz⟩ : ∃ b, b = wc.heap.size := ⟨_, rfl⟩
        obtain ⟨wq, hwq⟩ : ∃ x, x = wc.alloc (.cells #[.int .i64 0, .int .i64 0, .string ⟨#[]⟩, .slice none 0 0, .slice none 0 0] 35) := ⟨_, rfl⟩
        have hb : Below wc.heap.size wc wq := by rw [hwq]; exact below_alloc _ _
        have n9 : wq.heap[bz]? = some (.cells #[.int .i64 0, .int .i64 0, .string ⟨#[]⟩, .slice none 0 0, .slice none 0 0] 35 (0, 0)) := by rw [hwq, hbz]; exact heap_alloc_new wc _
        have Lbz := Lib.hid (show w.heap.size + 2 ≤ bz from by have := HB.out.two; omega)
        have DZ1 := Lib.hid (show ¬ (s1 ≤ bz ∧ bz < S1) from by have := PX.out.2; omega)
        have NE := Lib.hid (show bx ≠ bz from by have := (Array.getElem?_eq_some_iff.1 NX.out).1; omega)
        have HB := Lib.hid (HB.out.up hb)
        have PX := Lib.hid (PX.out.up hb)
        have NX := Lib.hid (box_up NX.out hb)
        have NY := Lib.hid n9
        rw [← hwq, ← hbz]
        clear hb n9 hwq hbz
        rename World => wc
        refine hK.out _ _ ⟨HB.out.2.1, HB.out.2.2⟩ (fun hHeld => ?_)
        clear hK K
        refine wpAnyH_ready (rs := [3]) (by kernel_rfl) (by simp) (AllReadyH.cons rfl (fun K hK => ?_) AllReadyH.nil)
        go_simp
        refine (plain_any u HZu.out _ _ _ (HU.out.up HB.out.1)).mono ?_
        rintro e wq ⟨c9, rfl, hy, hb⟩
        obtain ⟨ya, yl, yc, yb, ym, yd, hc9, _, _⟩ := hy.open
        rw [← HK.out.2.2.2.1, ← HK.out.2.2.2.2.1, ← HK.out.2.2.2.2.2] at hc9
        subst hc9
        obtain ⟨s2, hs2⟩ : ∃ s, s = wc.heap.size := ⟨_, rfl⟩
        obtain ⟨S2, hS2⟩ : ∃ s, s = wq.heap.size := ⟨_, rfl⟩
        have DX3 := Lib.hid (show ¬ (s2 ≤ bx ∧ bx < S2) from by have := (Array.getElem?_eq_some_iff.1 NX.out).1; omega)
        have DZ3 := Lib.hid (show ¬ (s2 ≤ bz ∧ bz < S2) from by have := (Array.getElem?_eq_some_iff.1 NY.out).1; omega)
        have PY9 : Vbd wq s2 S2 u _ := ⟨hy.mono (G := fun i => s2 ≤ i ∧ i < S2) (fun i h1 h2 => ⟨by omega, by omega⟩), by omega⟩
        have HB := Lib.hid (HB.out.up hb)
        have PX := Lib.hid (PX.out.up hb)
        have NX := Lib.hid (box_up NX.out hb)
        have NY := Lib.hid (box_up NY.out hb)
        have PY := Lib.hid PY9
        clear hb hy PY9 hs2 hS2
        rename World => wc
        go_simp
        refine hK.out _ _ ⟨HB.out.2.1, HB.out.2.2⟩ (fun hHeld => ?_)
        clear hK K
        refine wpAnyH_ready (rs := [6]) (by kernel_rfl) (by simp) (AllReadyH.cons rfl (fun K hK => ?_) AllReadyH.nil)
        have b0 := box_cell NX.out 0
        have b1 := box_cell NX.out 1
        have b2 := box_cell NX.out 2
        have b3 := box_cell NX.out 3
        have b4 := box_cell NX.out 4
        have hfz := box_fr NX.out
        go_simp
        have HF5 := five_set NX.out (.int .i64 kv) (.int .i64 nv) (str sv) (.slice xa xl xc) (.slice xb xm xd)
        generalize (((((wc.setCell ⟨bx, 0, none⟩ (.int .i64 kv)).setCell ⟨bx, 1, none⟩ (.int .i64 nv)).setCell ⟨bx, 2, none⟩ (str sv)).setCell ⟨bx, 3, none⟩ (.slice xa xl xc)).setCell ⟨bx, 4, none⟩ (.slice xb xm xd)) = wq at HF5 ⊢
        obtain ⟨h9, hf9⟩ := HF5
        have HB := Lib.hid (HB.out.frm hf9 Lbx.out)
        have PX := Lib.hid (PX.out.frm hf9 DX1.out)
        have PY := Lib.hid (PY.out.frm hf9 DX3.out)
        have NY := Lib.hid (box_frm NY.out hf9 (by have := NE.out; omega))
        have NX := Lib.hid h9
        clear h9 hf9 b0 b1 b2 b3 b4 hfz
        rename World => wc
        refine hK.out _ _ ⟨HB.out.2.1, HB.out.2.2⟩ (fun hHeld => ?_)
        clear hK K
        refine wpAnyH_ready (rs := [7]) (by kernel_rfl) (by simp) (AllReadyH.cons rfl (fun K hK => ?_) AllReadyH.nil)
        have b0 := box_cell NY.out 0
        have b1 := box_cell NY.out 1
        have b2 := box_cell NY.out 2
        have b3 := box_cell NY.out 3
        have b4 := box_cell NY.out 4
        have hfz := box_fr NY.out
        go_simp
        have HF5 := five_set NY.out (.int .i64 ku) (.int .i64 nu) (str su) (.slice ya yl yc) (.slice yb ym yd)
        generalize (((((wc.setCell ⟨bz, 0, none⟩ (.int .i64 ku)).setCell ⟨bz, 1, none⟩ (.int .i64 nu)).setCell ⟨bz, 2, none⟩ (str su)).setCell ⟨bz, 3, none⟩ (.slice ya yl yc)).setCell ⟨bz, 4, none⟩ (.slice yb ym yd)) = wq at HF5 ⊢
        obtain ⟨h9, hf9⟩ := HF5
        have HB := Lib.hid (HB.out.frm hf9 Lbz.out)
        have PX := Lib.hid (PX.out.frm hf9 DZ1.out)
        have PY := Lib.hid (PY.out.frm hf9 DZ3.out)
        have NX := Lib.hid (box_frm NX.out hf9 (by have := NE.out; omega))
        have NY := Lib.hid h9
        clear h9 hf9 b0 b1 b2 b3 b4 hfz
        rename World => wc
        refine hK.out _ _ ⟨HB.out.2.1, HB.out.2.2⟩ (fun hHeld => ?_)
        clear hK K
        refine wpAnyH_done (by kernel_rfl) ?_ _
        have HXX := Lib.hid (show JwX w v u _ _ bx bz _ _ wc from ⟨HB.out, NX.out, NY.out, PX.out.1.mono (fun _ _ _ => trivial), PY.out.1.mono (fun _ _ _ => trivial)⟩)
        go_wp2_with fail
        go_meet
        exact ⟨bx, bz, xa, xl, xc, xb, xm, xd, ya, yl, yc, yb, ym, yd, rfl, rfl, HXX⟩
      go_simp
      obtain ⟨bz, hbz⟩ : ∃ b, b = wc.heap.size := ⟨_, rfl⟩
      obtain ⟨wq, hwq⟩ : ∃ x, x = wc.alloc (.cells #[.int .i64 0, .int .i64 0, .string ⟨#[]⟩, .slice none 0 0, .slice none 0 0] 35) := ⟨_, rfl⟩
      have hb : Below wc.heap.size wc wq := by rw [hwq]; exact below_alloc _ _
      have n9 : wq.heap[bz]? = some (.cells #[.int .i64 0, .int .i64 0, .string ⟨#[]⟩, .slice none 0 0, .slice none 0 0] 35 (0, 0)) := by rw [hwq, hbz]; exact heap_alloc_new wc _
      have Lbz := Lib.hid (show w.heap.size + 2 ≤ bz from by have := HB.out.two; omega)
      have DZ1 := Lib.hid (show ¬ (s1 ≤ bz ∧ bz < S1) from by have := PX.out.2; omega)
      have HB := Lib.hid (HB.out.up hb)
      have PX := Lib.hid (PX.out.up hb)
      have NY := Lib.hid n9
      rw [← hwq, ← hbz]
      clear hb n9 hwq hbz
      rename World => wc
      refine hK.out _ _ ⟨HB.out.2.1, HB.out.2.2⟩ (fun hHeld => ?_)
      clear hK K
      refine wpAnyH_ready (rs := [3, 4]) (by kernel_rfl) (by simp) (AllReadyH.cons rfl (fun K hK => ?_) (AllReadyH.cons rfl (fun K hK => ?_) AllReadyH.nil))
      · go_simp
        refine (plain_any u HZu.out _ _ _ (HU.out.up HB.out.1)).mono ?_
        rintro e wq ⟨c9, rfl, hy, hb⟩
        obtain ⟨ya, yl, yc, yb, ym, yd, hc9, _, _⟩ := hy.open
        rw [← HK.out.2.2.2.1, ← HK.out.2.2.2.2.1, ← HK.out.2.2.2.2.2] at hc9
        subst hc9
        obtain ⟨s2, hs2⟩ : ∃ s, s = wc.heap.size := ⟨_, rfl⟩
        obtain ⟨S2, hS2⟩ : ∃ s, s = wq.heap.size := ⟨_, rfl⟩
        have DZ3 := Lib.hid (show ¬ (s2 ≤ bz ∧ bz < S2) from by have := (Array.getElem?_eq_some_iff.1 NY.out).1; omega)
        have PY9 : Vbd wq s2 S2 u _ := ⟨hy.mono (G := fun i => s2 ≤ i ∧ i < S2) (fun i h1 h2 => ⟨by omega, by omega⟩), by omega⟩
        have HB := Lib.hid (HB.out.up hb)
        have PX := Lib.hid (PX.out.up hb)
        have NY := Lib.hid (box_up NY.out hb)
        have PY := Lib.hid PY9
        clear hb hy PY9 hs2 hS2
        rename World => wc
        go_simp
        refine hK.out _ _ ⟨HB.out.2.1, HB.out.2.2⟩ (fun hHeld => ?_)
        clear hK K
        refine wpAnyH_ready (rs := [4]) (by kernel_rfl) (by simp) (AllReadyH.cons rfl (fun K hK => ?_) AllReadyH.nil)
        go_simp
        obtain ⟨bx, hbx⟩ : ∃ b, b = wc.heap.size := ⟨_, rfl⟩
        obtain ⟨wq, hwq⟩ : ∃ x, x = wc.alloc (.cells #[.int .i64 0, .int .i64 0, .string ⟨#[]⟩, .slice none 0 0, .slice none 0 0] 35) := ⟨_, rfl⟩
        have hb : Below wc.heap.size wc wq := by rw [hwq]; exact below_alloc _ _
        have n9 : wq.heap[bx]? = some (.cells #[.int .i64 0, .int .i64 0, .string ⟨#[]⟩, .slice none 0 0, .slice none 0 0] 35 (0, 0)) := by rw [hwq, hbx]; exact heap_alloc_new wc _
        have Lbx := Lib.hid (show w.heap.size + 2 ≤ bx from by have := HB.out.two; omega)
        have DX1 := Lib.hid (show ¬ (s1 ≤ bx ∧ bx < S1) from by have := PX.out.2; omega)
        have DX3 := Lib.hid (show ¬ (s2 ≤ bx ∧ bx < S2) from by have := PY.out.2; omega)
        have NE := Lib.hid (show bx ≠ bz from by have := (Array.getElem?_eq_some_iff.1 NY.out).1; omega)
        have HB := Lib.hid (HB.out.up hb)
        have PX := Lib.hid (PX.out.up hb)
        have PY := Lib.hid (PY.out.up hb)
        have NY := Lib.hid (box_up NY.out hb)
        have NX := Lib.hid n9
        rw [← hwq, ← hbx]
        clear hb n9 hwq hbx
        rename World => wc
        refine hK.out _ _ ⟨HB.out.2.1, HB.out.2.2⟩ (fun hHeld => ?_)
        clear hK K
        refine wpAnyH_ready (rs := [6]) (by kernel_rfl) (by simp) (AllReadyH.cons rfl (fun K hK => ?_) AllReadyH.nil)
        have b0 := box_cell NX.out 0
        have b1 := box_cell NX.out 1
        have b2 := box_cell NX.out 2
        have b3 := box_cell NX.out 3
        have b4 := box_cell NX.out 4
        have hfz := box_fr NX.out
        go_simp
        have HF5 := five_set NX.out (.int .i64 kv) (.int .i64 nv) (str sv) (.slice xa xl xc) (.slice xb xm xd)
        generalize (((((wc.setCell ⟨bx, 0, none⟩ (.int .i64 kv)).setCell ⟨bx, 1, none⟩ (.int .i64 nv)).setCell ⟨bx, 2, none⟩ (str sv)).setCell ⟨bx, 3, none⟩ (.slice xa xl xc)).setCell ⟨bx, 4, none⟩ (.slice xb xm xd)) = wq at HF5 ⊢
        obtain ⟨h9, hf9⟩ := HF5
        have HB := Lib.hid (HB.out.frm hf9 Lbx.out)
        have PX := Lib.hid (PX.out.frm hf9 DX1.out)
        have PY := Lib.hid (PY.out.frm hf9 DX3.out)
        have NY := Lib.hid (box_frm NY.out hf9 (by have := NE.out; omega))
        have NX := Lib.hid h9
        clear h9 hf9 b0 b1 b2 b3 b4 hfz
        rename World => wc
        refine hK.out _ _ ⟨HB.out.2.1, HB.out.2.2⟩ (fun hHeld => ?_)
        clear hK K
        refine wpAnyH_ready (rs := [7]) (by kernel_rfl) (by simp) (AllReadyH.cons rfl (fun K hK => ?_) AllReadyH.nil)
        have b0 := box_cell NY.out 0
        have b1 := box_cell NY.out 1
        have b2 := box_cell NY.out 2
        have b3 := box_cell NY.out 3
        have b4 := box_cell NY.out 4
        have hfz := box_fr NY.out
        go_simp
        have HF5 := five_set NY.out (.int .i64 ku) (.int .i64 nu) (str su) (.slice ya yl yc) (.slice yb ym yd)
        generalize (((((wc.setCell ⟨bz, 0, none⟩ (.int .i64 ku)).setCell ⟨bz, 1, none⟩ (.int .i64 nu)).setCell ⟨bz, 2, none⟩ (str su)).setCell ⟨bz, 3, none⟩ (.slice ya yl yc)).setCell ⟨bz, 4, none⟩ (.slice yb ym yd)) = wq at HF5 ⊢
        obtain ⟨h9, hf9⟩ := HF5
        have HB := Lib.hid (HB.out.frm hf9 Lbz.out)
        have PX := Lib.hid (PX.out.frm hf9 DZ1.out)
        have PY := Lib.hid (PY.out.frm hf9 DZ3.out)
        have NX := Lib.hid (box_frm NX.out hf9 (by have := NE.out; omega))
        have NY := Lib.hid h9
        clear h9 hf9 b0 b1 b2 b3 b4 hfz
        rename World => wc
        refine hK.out _ _ ⟨HB.out.2.1, HB.out.2.2⟩ (fun hHeld => ?_)
        clear hK K
        refine wpAnyH_done (by kernel_rfl) ?_ _
        have HXX := Lib.hid (show JwX w v u _ _ bx bz _ _ wc from ⟨HB.out, NX.out, NY.out, PX.out.1.mono (fun _ _ _ => trivial), PY.out.1.mono (fun _ _ _ => trivial)⟩)
        go_wp2_with fail
        go_meet
        exact ⟨bx, bz, xa, xl, xc, xb, xm, xd, ya, yl, yc, yb, ym, yd, rfl, rfl, HXX⟩
      go_simp
      obtain ⟨bx, hbx⟩ : ∃ b, b = wc.heap.size := ⟨_, rfl⟩
      obtain ⟨wq, hwq⟩ : ∃ x, x = wc.alloc (.cells #[.int .i64 0, .int .i64 0, .string ⟨#[]⟩, .slice none 0 0, .slice none 0 0] 35) := ⟨_, rfl⟩
      have hb : Below wc.heap.size wc wq := by rw [hwq]; exact below_alloc _ _
      have n9 : wq.heap[bx]? = some (.cells #[.int .i64 0, .int .i64 0, .string ⟨#[]⟩, .slice none 0 0, .slice none 0 0] 35 (0, 0)) := by rw [hwq, hbx]; exact heap_alloc_new wc _
      have Lbx := Lib.hid (show w.heap.size + 2 ≤ bx from by have := HB.out.two; omega)
      have DX1 := Lib.hid (show ¬ (s1 ≤ bx ∧ bx < S1) from by have := PX.out.2; omega)
      have NE := Lib.hid (show bx ≠ bz from by have := (Array.getElem?_eq_some_iff.1 NY.out).1; omega)
      have HB := Lib.hid (HB.out.up hb)
      have PX := Lib.hid (PX.out.up hb)
      have NY := Lib.hid (box_up NY.out hb)
      have NX := Lib.hid n9
      rw [← hwq, ← hbx]
      clear hb n9 hwq hbx
      rename World => wc
      refine hK.out _ _ ⟨HB.out.2.1, HB.out.2.2⟩ (fun hHeld => ?_)
      clear hK K
      refine wpAnyH_ready (rs := [3]) (by kernel_rfl) (by simp) (AllReadyH.cons rfl (fun K hK => ?_) AllReadyH.nil)
      go_simp
      refine (plain_any u HZu.out _ _ _ (HU.out.up HB.out.1)).mono ?_
      rintro e wq ⟨c9, rfl, hy, hb⟩
      obtain ⟨ya, yl, yc, yb, ym, yd, hc9, _, _⟩ := hy.open
      rw [← HK.out.2.2.2.1, ← HK.out.2.2.2.2.1, ← HK.out.2.2.2.2.2] at hc9
      subst hc9
      obtain ⟨s2, hs2⟩ : ∃ s, s = wc.heap.size := ⟨_, rfl⟩
      obtain ⟨S2, hS2⟩ : ∃ s, s = wq.heap.size := ⟨_, rfl⟩
      have DX3 := Lib.hid (show ¬ (s2 ≤ bx ∧ bx < S2) from by have := (Array.getElem?_eq_some_iff.1 NX.out).1; omega)
      have DZ3 := Lib.hid (show ¬ (s2 ≤ bz ∧ bz < S2) from by have := (Array.getElem?_eq_some_iff.1 NY.out).1; omega)
      have PY9 : Vbd wq s2 S2 u _ := ⟨hy.mono (G := fun i => s2 ≤ i ∧ i < S2) (fun i h1 h2 => ⟨by omega, by omega⟩), by omega⟩
      have HB := Lib.hid (HB.out.up hb)
      have PX := Lib.hid (PX.out.up hb)
      have NX := Lib.hid (box_up NX.out hb)
      have NY := Lib.hid (box_up NY.out hb)
      have PY := Lib.hid PY9
      clear hb hy PY9 hs2 hS2
      rename World => wc
      go_simp
      refine hK.out _ _ ⟨HB.out.2.1, HB.out.2.2⟩ (fun hHeld => ?_)
      clear hK K
      refine wpAnyH_ready (rs := [6]) (by kernel_rfl) (by simp) (AllReadyH.cons rfl (fun K hK => ?_) AllReadyH.nil)
      have b0 := box_cell NX.out 0
      have b1 := box_cell NX.out 1
      have b2 := box_cell NX.out 2
      have b3 := box_cell NX.out 3
      have b4 := box_cell NX.out 4
      have hfz := box_fr NX.out
      go_simp
      have HF5 := five_set NX.out (.int .i64 kv) (.int .i64 nv) (str sv) (.slice xa xl xc) (.slice xb xm xd)
      generalize (((((wc.setCell ⟨bx, 0, none⟩ (.int .i64 kv)).setCell ⟨bx, 1, none⟩ (.int .i64 nv)).setCell ⟨bx, 2, none⟩ (str sv)).setCell ⟨bx, 3, none⟩ (.slice xa xl xc)).setCell ⟨bx, 4, none⟩ (.slice xb xm xd)) = wq at HF5 ⊢
      obtain ⟨h9, hf9⟩ := HF5
      have HB := Lib.hid (HB.out.frm hf9 Lbx.out)
      have PX := Lib.hid (PX.out.frm hf9 DX1.out)
      have PY := Lib.hid (PY.out.frm hf9 DX3.out)
      have NY := Lib.hid (box_frm NY.out hf9 (by have := NE.out; omega))
      have NX := Lib.hid h9
      clear h9 hf9 b0 b1 b2 b3 b4 hfz
      rename World => wc
      refine hK.out _ _ ⟨HB.out.2.1, HB.out.2.2⟩ (fun hHeld => ?_)
      clear hK K
      refine wpAnyH_ready (rs := [7]) (by kernel_rfl) (by simp) (AllReadyH.cons rfl (fun K hK => ?_) AllReadyH.nil)
      have b0 := box_cell NY.out 0
      have b1 := box_cell NY.out 1
      have b2 := box_cell NY.out 2
      have b3 := box_cell NY.out 3
      have b4 := box_cell NY.out 4
      have hfz := box_fr NY.out
      go_simp
      have HF5 := five_set NY.out (.int .i64 ku) (.int .i64 nu) (str su) (.slice ya yl yc) (.slice yb ym yd)
      generalize (((((wc.setCell ⟨bz, 0, none⟩ (.int .i64 ku)).setCell ⟨bz, 1, none⟩ (.int .i64 nu)).setCell ⟨bz, 2, none⟩ (str su)).setCell ⟨bz, 3, none⟩ (.slice ya yl yc)).setCell ⟨bz, 4, none⟩ (.slice yb ym yd)) = wq at HF5 ⊢
      obtain ⟨h9, hf9⟩ := HF5
      have HB := Lib.hid (HB.out.frm hf9 Lbz.out)
      have PX := Lib.hid (PX.out.frm hf9 DZ1.out)
      have PY := Lib.hid (PY.out.frm hf9 DZ3.out)
      have NX := Lib.hid (box_frm NX.out hf9 (by have := NE.out; omega))
      have NY := Lib.hid h9
      clear h9 hf9 b0 b1 b2 b3 b4 hfz
      rename World => wc
      refine hK.out _ _ ⟨HB.out.2.1, HB.out.2.2⟩ (fun hHeld => ?_)
      clear hK K
      refine wpAnyH_done (by kernel_rfl) ?_ _
      have HXX := Lib.hid (show JwX w v u _ _ bx bz _ _ wc from ⟨HB.out, NX.out, NY.out, PX.out.1.mono (fun _ _ _ => trivial), PY.out.1.mono (fun _ _ _ => trivial)⟩)
      go_wp2_with fail
      go_meet
      exact ⟨bx, bz, xa, xl, xc, xb, xm, xd, ya, yl, yc, yb, ym, yd, rfl, rfl, HXX⟩
    · go_simp
      obtain ⟨bx, hbx⟩ : ∃ b, b = wc.heap.size := ⟨_, rfl⟩
      obtain ⟨wq, hwq⟩ : ∃ x, x = wc.alloc (.cells #[.int .i64 0, .int .i64 0, .string ⟨#[]⟩, .slice none 0 0, .slice none 0 0] 35) := ⟨_, rfl⟩
      have hb : Below wc.heap.size wc wq := by rw [hwq]; exact below_alloc _ _
      have n9 : wq.heap[bx]? = some (.cells #[.int .i64 0, .int .i64 0, .string ⟨#[]⟩, .slice none 0 0, .slice none 0 0] 35 (0, 0)) := by rw [hwq, hbx]; exact heap_alloc_new wc _
      have Lbx := Lib.hid (show w.heap.size + 2 ≤ bx from by have := HB.out.two; omega)
      have HB := Lib.hid (HB.out.up hb)
      have NX := Lib.hid n9
      rw [← hwq, ← hbx]
      clear hb n9 hwq hbx
      rename World => wc
      refine hK.out _ _ ⟨HB.out.2.1, HB.out.2.2⟩ (fun hHeld => ?_)
      clear hK K
      refine wpAnyH_ready (rs := [1, 5]) (by kernel_rfl) (by simp) (AllReadyH.cons rfl (fun K hK => ?_) (AllReadyH.cons rfl (fun K hK => ?_) AllReadyH.nil))
      · go_simp
        refine (plain_any v HZv.out _ _ _ (HV.out.up HB.out.1)).mono ?_
        rintro e wq ⟨c9, rfl, hy, hb⟩
        obtain ⟨xa, xl, xc, xb, xm, xd, hc9, _, _⟩ := hy.open
        rw [← HK.out.1, ← HK.out.2.1, ← HK.out.2.2.1] at hc9
        subst hc9
        obtain ⟨s1, hs1⟩ : ∃ s, s = wc.heap.size := ⟨_, rfl⟩
        obtain ⟨S1, hS1⟩ : ∃ s, s = wq.heap.size := ⟨_, rfl⟩
        have DX1 := Lib.hid (show ¬ (s1 ≤ bx ∧ bx < S1) from by have := (Array.getElem?_eq_some_iff.1 NX.out).1; omega)
        have PX9 : Vbd wq s1 S1 v _ := ⟨hy.mono (G := fun i => s1 ≤ i ∧ i < S1) (fun i h1 h2 => ⟨by omega, by omega⟩), by omega⟩
        have HB := Lib.hid (HB.out.up hb)
        have NX := Lib.hid (box_up NX.out hb)
        have PX := Lib.hid PX9
        clear hb hy PX9 hs1 hS1
        rename World => wc
        go_simp
        refine hK.out _ _ ⟨HB.out.2.1, HB.out.2.2⟩ (fun hHeld => ?_)
        clear hK K
        refine wpAnyH_ready (rs := [3, 5]) (by kernel_rfl) (by simp) (AllReadyH.cons rfl (fun K hK => ?_) (AllReadyH.cons rfl (fun K hK => ?_) AllReadyH.nil))
        · go_simp
          refine (plain_any u HZu.out _ _ _ (HU.out.up HB.out.1)).mono ?_
          rintro e wq ⟨c9, rfl, hy, hb⟩
          obtain ⟨ya, yl, yc, yb, ym, yd, hc9, _, _⟩ := hy.open
          rw [← HK.out.2.2.2.1, ← HK.out.2.2.2.2.1, ← HK.out.2.2.2.2.2] at hc9
          subst hc9
          obtain ⟨s2, hs2⟩ : ∃ s, s = wc.heap.size := ⟨_, rfl⟩
          obtain ⟨S2, hS2⟩ : ∃ s, s = wq.heap.size := ⟨_, rfl⟩
          have DX3 := Lib.hid (show ¬ (s2 ≤ bx ∧ bx < S2) from by have := (Array.getElem?_eq_some_iff.1 NX.out).1; omega)
          have PY9 : Vbd wq s2 S2 u _ := ⟨hy.mono (G := fun i => s2 ≤ i ∧ i < S2) (fun i h1 h2 => ⟨by omega, by omega⟩), by omega⟩
          have HB := Lib.hid (HB.out.up hb)
          have PX := Lib.hid (PX.out.up hb)
          have NX := Lib.hid (box_up NX.out hb)
          have PY := Lib.hid PY9
          clear hb hy PY9 hs2 hS2
          rename World => wc
          go_simp
          refine hK.out _ _ ⟨HB.out.2.1, HB.out.2.2⟩ (fun hHeld => ?_)
          clear hK K
          refine wpAnyH_ready (rs := [5]) (by kernel_rfl) (by simp) (AllReadyH.cons rfl (fun K hK => ?_) AllReadyH.nil)
          go_simp
          obtain ⟨bz, hbz⟩ : ∃ b, b = wc.heap.size := ⟨_, rfl⟩
          obtain ⟨wq, hwq⟩ : ∃ x, x = wc.alloc (.cells #[.int .i64 0, .int .i64 0, .string ⟨#[]⟩, .slice none 0 0, .slice none 0 0] 35) := ⟨_, rfl⟩
          have hb : Below wc.heap.size wc wq := by rw [hwq]; exact below_alloc _ _
          have n9 : wq.heap[bz]? = some (.cells #[.int .i64 0, .int .i64 0, .string ⟨#[]⟩, .slice none 0 0, .slice none 0 0] 35 (0, 0)) := by rw [hwq, hbz]; exact heap_alloc_new wc _
          have Lbz := Lib.hid (show w.heap.size + 2 ≤ bz from by have := HB.out.two; omega)
          have DZ1 := Lib.hid (show ¬ (s1 ≤ bz ∧ bz < S1) from by have := PX.out.2; omega)
          have DZ3 := Lib.hid (show ¬ (s2 ≤ bz ∧ bz < S2) from by have := PY.out.2; omega)
          have NE := Lib.hid (show bx ≠ bz from by have := (Array.getElem?_eq_some_iff.1 NX.out).1; omega)
          have HB := Lib.hid (HB.out.up hb)
          have PX := Lib.hid (PX.out.up hb)
          have PY := Lib.hid (PY.out.up hb)
          have NX := Lib.hid (box_up NX.out hb)
          have NY := Lib.hid n9
          rw [← hwq, ← hbz]
          clear hb n9 hwq hbz
          rename World => wc
          refine hK.out _ _ ⟨HB.out.2.1, HB.out.2.2⟩ (fun hHeld => ?_)
          clear hK K
          refine wpAnyH_ready (rs := [6]) (by kernel_rfl) (by simp) (AllReadyH.cons rfl (fun K hK => ?_) AllReadyH.nil)
          have b0 := box_cell NX.out 0
          have b1 := box_cell NX.out 1
          have b2 := box_cell NX.out 2
          have b3 := box_cell NX.out 3
          have b4 := box_cell NX.out 4
          have hfz := box_fr NX.out
          go_simp
          have HF5 := five_set NX.out (.int .i64 kv) (.int .i64 nv) (str sv) (.slice xa xl xc) (.slice xb xm xd)
          generalize (((((wc.setCell ⟨bx, 0, none⟩ (.int .i64 kv)).setCell ⟨bx, 1, none⟩ (.int .i64 nv)).setCell ⟨bx, 2, none⟩ (str sv)).setCell ⟨bx, 3, none⟩ (.slice xa xl xc)).setCell ⟨bx, 4, none⟩ (.slice xb xm xd)) = wq at HF5 ⊢
          obtain ⟨h9, hf9⟩ := HF5
          have HB := Lib.hid (HB.out.frm hf9 Lbx.out)
          have PX := Lib.hid (PX.out.frm hf9 DX1.out)
          have PY := Lib.hid (PY.out.frm hf9 DX3.out)
          have NY := Lib.hid (box_frm NY.out hf9 (by have := NE.out; omega))
          have NX := Lib.hid h9
          clear h9 hf9 b0 b1 b2 b3 b4 hfz
          rename World => wc
          refine hK.out _ _ ⟨HB.out.2.1, HB.out.2.2⟩ (fun hHeld => ?_)
          clear hK K
          refine wpAnyH_ready (rs := [7]) (by kernel_rfl) (by simp) (AllReadyH.cons rfl (fun K hK => ?_) AllReadyH.nil)
          have b0 := box_cell NY.out 0
          have b1 := box_cell NY.out 1
          have b2 := box_cell NY.out 2
          have b3 := box_cell NY.out 3
          have b4 := box_cell NY.out 4
          have hfz := box_fr NY.out
          go_simp
          have HF5 := five_set NY.out (.int .i64 ku) (.int .i64 nu) (str su) (.slice ya yl yc) (.slice yb ym yd)
          generalize (((((wc.setCell ⟨bz, 0, none⟩ (.int .i64 ku)).setCell ⟨bz, 1, none⟩ (.int .i64 nu)).setCell ⟨bz, 2, none⟩ (str su)).setCell ⟨bz, 3, none⟩ (.slice ya yl yc)).setCell ⟨bz, 4, none⟩ (.slice yb ym yd)) = wq at HF5 ⊢
          obtain ⟨h9, hf9⟩ := HF5
          have HB := Lib.hid (HB.out.frm hf9 Lbz.out)
          have PX := Lib.hid (PX.out.frm hf9 DZ1.out)
          have PY := Lib.hid (PY.out.frm hf9 DZ3.out)
          have NX := Lib.hid (box_frm NX.out hf9 (by have := NE.out; omega))
          have NY := Lib.hid h9
          clear h9 hf9 b0 b1 b2 b3 b4 hfz
          rename World => wc
          refine hK.out _ _ ⟨HB.out.2.1, HB.out.2.2⟩ (fun hHeld => ?_)
          clear hK K
          refine wpAnyH_done (by kernel_rfl) ?_ _
          have HXX := Lib.hid (show JwX w v u _ _ bx bz _ _ wc from ⟨HB.out, NX.out, NY.out, PX.out.1.mono (fun _ _ _ => trivial), PY.out.1.mono (fun _ _ _ => trivial)⟩)
          go_wp2_with fail
          go_meet
          exact ⟨bx, bz, xa, xl, xc, xb, xm, xd, ya, yl, yc, yb, ym, yd, rfl, rfl, HXX⟩
        go_simp
        obtain ⟨bz, hbz⟩ : ∃ b, b = wc.heap.size := ⟨_, rfl⟩
        obtain ⟨wq, hwq⟩ : ∃ x, x = wc.alloc (.cells #[.int .i64 0, .int .i64 0, .string ⟨#[]⟩, .slice none 0 0, .slice none 0 0] 35) := ⟨_, rfl⟩
        have hb : Below wc.heap.size wc wq := by rw [hwq]; exact below_alloc _ _
        have n9 : wq.heap[bz]? = some (.cells #[.int .i64 0, .int .i64 0, .string ⟨#[]⟩, .slice none 0 0, .slice none 0 0] 35 (0, 0)) := by rw [hwq, hbz]; exact heap_alloc_new wc _
        have Lbz := Lib.hid (show w.heap.size + 2 ≤ bz from by have := HB.out.two; omega)
        have DZ1 := Lib.hid (show ¬ (s1 ≤ bz ∧ bz < S1) from by have := PX.out.2; omega)
        have NE := Lib.hid (show bx ≠ bz from by have := (Array.getElem?_eq_some_iff.1 NX.out).1; omega)
        have HB := Lib.hid (HB.out.up hb)
        have PX := Lib.hid (PX.out.up hb)
        have NX := Lib.hid (box_up NX.out hb)
        have NY := Lib.hid n9
        rw [← hwq, ← hbz]
        clear hb n9 hwq hbz
        rename World => wc
        refine hK.out _ _ ⟨HB.out.2.1, HB.out.2.2⟩ (fun hHeld => ?_)
        clear hK K
        refine wpAnyH_ready (rs := [3]) (by kernel_rfl) (by simp) (AllReadyH.cons rfl (fun K hK => ?_) AllReadyH.nil)
        go_simp
        refine (plain_any u HZu.out _ _ _ (HU.out.up HB.out.1)).mono ?_
        rintro e wq ⟨c9, rfl, hy, hb⟩
        obtain ⟨ya, yl, yc, yb, ym, yd, hc9, _, _⟩ := hy.open
        rw [← HK.out.2.2.2.1, ← HK.out.2.2.2.2.1, ← HK.out.2.2.2.2.2] at hc9
        subst hc9
        obtain ⟨s2, hs2⟩ : ∃ s, s = wc.heap.size := ⟨_, rfl⟩
        obtain ⟨S2, hS2⟩ : ∃ s, s = wq.heap.size := ⟨_, rfl⟩
        have DX3 := Lib.hid (show ¬ (s2 ≤ bx ∧ bx < S2) from by have := (Array.getElem?_eq_some_iff.1 NX.out).1; omega)
        have DZ3 := Lib.hid (show ¬ (s2 ≤ bz ∧ bz < S2) from by have := (Array.getElem?_eq_some_iff.1 NY.out).1; omega)
        have PY9 : Vbd wq s2 S2 u _ := ⟨hy.mono (G := fun i => s2 ≤ i ∧ i < S2) (fun i h1 h2 => ⟨by omega, by omega⟩), by omega⟩
        have HB := Lib.hid (HB.out.up hb)
        have PX := Lib.hid (PX.out.up hb)
        have NX := Lib.hid (box_up NX.out hb)
        have NY := Lib.hid (box_up NY.out hb)
        have PY := Lib.hid PY9
        clear hb hy PY9 hs2 hS2
        rename World => wc
        go_simp
        refine hK.out _ _ ⟨HB.out.2.1, HB.out.2.2⟩ (fun hHeld => ?_)
        clear hK K
        refine wpAnyH_ready (rs := [6]) (by kernel_rfl) (by simp) (AllReadyH.cons rfl (fun K hK => ?_) AllReadyH.nil)
        have b0 := box_cell NX.out 0
        have b1 := box_cell NX.out 1
        have b2 := box_cell NX.out 2
        have b3 := box_cell NX.out 3
        have b4 := box_cell NX.out 4
        have hfz := box_fr NX.out
        go_simp
        have HF5 := five_set NX.out (.int .i64 kv) (.int .i64 nv) (str sv) (.slice xa xl xc) (.slice xb xm xd)
        generalize (((((wc.setCell ⟨bx, 0, none⟩ (.int .i64 kv)).setCell ⟨bx, 1, none⟩ (.int .i64 nv)).setCell ⟨bx, 2, none⟩ (str sv)).setCell ⟨bx, 3, none⟩ (.slice xa xl xc)).setCell ⟨bx, 4, none⟩ (.slice xb xm xd)) = wq at HF5 ⊢
        obtain ⟨h9, hf9⟩ := HF5
        have HB := Lib.hid (HB.out.frm hf9 Lbx.out)
        have PX := Lib.hid (PX.out.frm hf9 DX1.out)
        have PY := Lib.hid (PY.out.frm hf9 DX3.out)
        have NY := Lib.hid (box_frm NY.out hf9 (by have := NE.out; omega))
        have NX := Lib.hid h9
        clear h9 hf9 b0 b1 b2 b3 b4 hfz
        rename World => wc
        refine hK.out _ _ ⟨HB.out.2.1, HB.out.2.2⟩ (fun hHeld => ?_)
        clear hK K
        refine wpAnyH_ready (rs := [7]) (by kernel_rfl) (by simp) (AllReadyH.cons rfl (fun K hK => ?_) AllReadyH.nil)
        have b0 := box_cell NY.out 0
        have b1 := box_cell NY.out 1
        have b2 := box_cell NY.out 2
        have b3 := box_cell NY.out 3
        have b4 := box_cell NY.out 4
        have hfz := box_fr NY.out
        go_simp
        have HF5 := five_set NY.out (.int .i64 ku) (.int .i64 nu) (str su) (.slice ya yl yc) (.slice yb ym yd)
        generalize (((((wc.setCell ⟨bz, 0, none⟩ (.int .i64 ku)).setCell ⟨bz, 1, none⟩ (.int .i64 nu)).setCell ⟨bz, 2, none⟩ (str su)).setCell ⟨bz, 3, none⟩ (.slice ya yl yc)).setCell ⟨bz, 4, none⟩ (.slice yb ym yd)) = wq at HF5 ⊢
        obtain ⟨h9, hf9⟩ := HF5
        have HB := Lib.hid (HB.out.frm hf9 Lbz.out)
        have PX := Lib.hid (PX.out.frm hf9 DZ1.out)
        have PY := Lib.hid (PY.out.frm hf9 DZ3.out)
        have NX := Lib.hid (box_frm NX.out hf9 (by have := NE.out; omega))
        have NY := Lib.hid h9
        clear h9 hf9 b0 b1 b2 b3 b4 hfz
        rename World => wc
        refine hK.out _ _ ⟨HB.out.2.1, HB.out.2.2⟩ (fun hHeld => ?_)
        clear hK K
        refine wpAnyH_done (by kernel_rfl) ?_ _
        have HXX := Lib.hid (show JwX w v u _ _ bx bz _ _ wc from ⟨HB.out, NX.out, NY.out, PX.out.1.mono (fun _ _ _ => trivial), PY.out.1.mono (fun _ _ _ => trivial)⟩)
        go_wp2_with fail
        go_meet
        exact ⟨bx, bz, xa, xl, xc, xb, xm, xd, ya, yl, yc, yb, ym, yd, rfl, rfl, HXX⟩
      go_simp
      obtain ⟨bz, hbz⟩ : ∃ b, b = wc.heap.size := ⟨_, rfl⟩
      obtain ⟨wq, hwq⟩ : ∃ x, x = wc.alloc (.cells #[.int .i64 0, .int .i64 0, .string ⟨#[]⟩, .slice none 0 0, .slice none 0 0] 35) := ⟨_, rfl⟩
      have hb : Below wc.heap.size wc wq := by rw [hwq]; exact below_alloc _ _
      have n9 : wq.heap[bz]? = some (.cells #[.int .i64 0, .int .i64 0, .string ⟨#[]⟩, .slice none 0 0, .slice none 0 0] 35 (0, 0)) := by rw [hwq, hbz]; exact heap_alloc_new wc _
      have Lbz := Lib.hid (show w.heap.size + 2 ≤ bz from by have := HB.out.two; omega)
      have NE := Lib.hid (show bx ≠ bz from by have := (Array.getElem?_eq_some_iff.1 NX.out).1; omega)
      have HB := Lib.hid (HB.out.up hb)
      have NX := Lib.hid (box_up NX.out hb)
      have NY := Lib.hid n9
      rw [← hwq, ← hbz]
      clear hb n9 hwq hbz
      rename World => wc
      refine hK.out _ _ ⟨HB.out.2.1, HB.out.2.2⟩ (fun hHeld => ?_)
      clear hK K
      refine wpAnyH_ready (rs := [1]) (by kernel_rfl) (by simp) (AllReadyH.cons rfl (fun K hK => ?_) AllReadyH.nil)
      go_simp
      refine (plain_any v HZv.out _ _ _ (HV.out.up HB.out.1)).mono ?_
      rintro e wq ⟨c9, rfl, hy, hb⟩
      obtain ⟨xa, xl, xc, xb, xm, xd, hc9, _, _⟩ := hy.open
      rw [← HK.out.1, ← HK.out.2.1, ← HK.out.2.2.1] at hc9
      subst hc9
      obtain ⟨s1, hs1⟩ : ∃ s, s = wc.heap.size := ⟨_, rfl⟩
      obtain ⟨S1, hS1⟩ : ∃ s, s = wq.heap.size := ⟨_, rfl⟩
      have DX1 := Lib.hid (show ¬ (s1 ≤ bx ∧ bx < S1) from by have := (Array.getElem?_eq_some_iff.1 NX.out).1; omega)
      have DZ1 := Lib.hid (show ¬ (s1 ≤ bz ∧ bz < S1) from by have := (Array.getElem?_eq_some_iff.1 NY.out).1; omega)
      have PX9 : Vbd wq s1 S1 v _ := ⟨hy.mono (G := fun i => s1 ≤ i ∧ i < S1) (fun i h1 h2 => ⟨by omega, by omega⟩), by omega⟩
      have HB := Lib.hid (HB.out.up hb)
      have NX := Lib.hid (box_up NX.out hb)
      have NY := Lib.hid (box_up NY.out hb)
      have PX := Lib.hid PX9
      clear hb hy PX9 hs1 hS1
      rename World => wc
      go_simp
      refine hK.out _ _ ⟨HB.out.2.1, HB.out.2.2⟩ (fun hHeld => ?_)
      clear hK K
      refine wpAnyH_ready (rs := [3]) (by kernel_rfl) (by simp) (AllReadyH.cons rfl (fun K hK => ?_) AllReadyH.nil)
      go_simp
      refine (plain_any u HZu.out _ _ _ (HU.out.up HB.out.1)).mono ?_
      rintro e wq ⟨c9, rfl, hy, hb⟩
      obtain ⟨ya, yl, yc, yb, ym, yd, hc9, _, _⟩ := hy.open
      rw [← HK.out.2.2.2.1, ← HK.out.2.2.2.2.1, ← HK.out.2.2.2.2.2] at hc9
      subst hc9
      obtain ⟨s2, hs2⟩ : ∃ s, s = wc.heap.size := ⟨_, rfl⟩
      obtain ⟨S2, hS2⟩ : ∃ s, s = wq.heap.size := ⟨_, rfl⟩
      have DX3 := Lib.hid (show ¬ (s2 ≤ bx ∧ bx < S2) from by have := (Array.getElem?_eq_some_iff.1 NX.out).1; omega)
      have DZ3 := Lib.hid (show ¬ (s2 ≤ bz ∧ bz < S2) from by have := (Array.getElem?_eq_some_iff.1 NY.out).1; omega)
      have PY9 : Vbd wq s2 S2 u _ := ⟨hy.mono (G := fun i => s2 ≤ i ∧ i < S2) (fun i h1 h2 => ⟨by omega, by omega⟩), by omega⟩
      have HB := Lib.hid (HB.out.up hb)
      have PX := Lib.hid (PX.out.up hb)
      have NX := Lib.hid (box_up NX.out hb)
      have NY := Lib.hid (box_up NY.out hb)
      have PY := Lib.hid PY9
      clear hb hy PY9 hs2 hS2
      rename World => wc
      go_simp
      refine hK.out _ _ ⟨HB.out.2.1, HB.out.2.2⟩ (fun hHeld => ?_)
      clear hK K
      refine wpAnyH_ready (rs := [6]) (by kernel_rfl) (by simp) (AllReadyH.cons rfl (fun K hK => ?_) AllReadyH.nil)
      have b0 := box_cell NX.out 0
      have b1 := box_cell NX.out 1
      have b2 := box_cell NX.out 2
      have b3 := box_cell NX.out 3
      have b4 := box_cell NX.out 4
      have hfz := box_fr NX.out
      go_simp
      have HF5 := five_set NX.out (.int .i64 kv) (.int .i64 nv) (str sv) (.slice xa xl xc) (.slice xb xm xd)
      generalize (((((wc.setCell ⟨bx, 0, none⟩ (.int .i64 kv)).setCell ⟨bx, 1, none⟩ (.int .i64 nv)).setCell ⟨bx, 2, none⟩ (str sv)).setCell ⟨bx, 3, none⟩ (.slice xa xl xc)).setCell ⟨bx, 4, none⟩ (.slice xb xm xd)) = wq at HF5 ⊢
      obtain ⟨h9, hf9⟩ := HF5
      have HB := Lib.hid (HB.out.frm hf9 Lbx.out)
      have PX := Lib.hid (PX.out.frm hf9 DX1.out)
      have PY := Lib.hid (PY.out.frm hf9 DX3.out)
      have NY := Lib.hid (box_frm NY.out hf9 (by have := NE.out; omega))
      have NX := Lib.hid h9
      clear h9 hf9 b0 b1 b2 b3 b4 hfz
      rename World => wc
      refine hK.out _ _ ⟨HB.out.2.1, HB.out.2.2⟩ (fun hHeld => ?_)
      clear hK K
      refine wpAnyH_ready (rs := [7]) (by kernel_rfl) (by simp) (AllReadyH.cons rfl (fun K hK => ?_) AllReadyH.nil)
      have b0 := box_cell NY.out 0
      have b1 := box_cell NY.out 1
      have b2 := box_cell NY.out 2
      have b3 := box_cell NY.out 3
      have b4 := box_cell NY.out 4
      have hfz := box_fr NY.out
      go_simp
      have HF5 := five_set NY.out (.int .i64 ku) (.int .i64 nu) (str su) (.slice ya yl yc) (.slice yb ym yd)
      generalize (((((wc.setCell ⟨bz, 0, none⟩ (.int .i64 ku)).setCell ⟨bz, 1, none⟩ (.int .i64 nu)).setCell ⟨bz, 2, none⟩ (str su)).setCell ⟨bz, 3, none⟩ (.slice ya yl yc)).setCell ⟨bz, 4, none⟩ (.slice yb ym yd)) = wq at HF5 ⊢
      obtain ⟨h9, hf9⟩ := HF5
      have HB := Lib.hid (HB.out.frm hf9 Lbz.out)
      have PX := Lib.hid (PX.out.frm hf9 DZ1.out)
      have PY := Lib.hid (PY.out.frm hf9 DZ3.out)
      have NX := Lib.hid (box_frm NX.out hf9 (by have := NE.out; omega))
      have NY := Lib.hid h9
      clear h9 hf9 b0 b1 b2 b3 b4 hfz
      rename World => wc
      refine hK.out _ _ ⟨HB.out.2.1, HB.out.2.2⟩ (fun hHeld => ?_)
      clear hK K
      refine wpAnyH_done (by kernel_rfl) ?_ _
      have HXX := Lib.hid (show JwX w v u _ _ bx bz _ _ wc from ⟨HB.out, NX.out, NY.out, PX.out.1.mono (fun _ _ _ => trivial), PY.out.1.mono (fun _ _ _ => trivial)⟩)
      go_wp2_with fail
      go_meet
      exact ⟨bx, bz, xa, xl, xc, xb, xm, xd, ya, yl, yc, yb, ym, yd, rfl, rfl, HXX⟩
    go_simp
    obtain ⟨bz, hbz⟩ : ∃ b, b = wc.heap.size := ⟨_, rfl⟩
    obtain ⟨wq, hwq⟩ : ∃ x, x = wc.alloc (.cells #[.int .i64 0, .int .i64 0, .string ⟨#[]⟩, .slice none 0 0, .slice none 0 0] 35) := ⟨_, rfl⟩
    have hb : Below wc.heap.size wc wq := by rw [hwq]; exact below_alloc _ _
    have n9 : wq.heap[bz]? = some (.cells #[.int .i64 0, .int .i64 0, .string ⟨#[]⟩, .slice none 0 0, .slice none 0 0] 35 (0, 0)) := by rw [hwq, hbz]; exact heap_alloc_new wc _
    have Lbz := Lib.hid (show w.heap.size + 2 ≤ bz from by have := HB.out.two; omega)
    have HB := Lib.hid (HB.out.up hb)
    have NY := Lib.hid n9
    rw [← hwq, ← hbz]
    clear hb n9 hwq hbz
    rename World => wc
    refine hK.out _ _ ⟨HB.out.2.1, HB.out.2.2⟩ (fun hHeld => ?_)
    clear hK K
    refine wpAnyH_ready (rs := [1, 4]) (by kernel_rfl) (by simp) (AllReadyH.cons rfl (fun K hK => ?_) (AllReadyH.cons rfl (fun K hK => ?_) AllReadyH.nil))
    · go_simp
      refine (plain_any v HZv.out _ _ _ (HV.out.up HB.out.1)).mono ?_
      rintro e wq ⟨c9, rfl, hy, hb⟩
      obtain ⟨xa, xl, xc, xb, xm, xd, hc9, _, _⟩ := hy.open
      rw [← HK.out.1, ← HK.out.2.1, ← HK.out.2.2.1] at hc9
      subst hc9
      obtain ⟨s1, hs1⟩ : ∃ s, s = wc.heap.size := ⟨_, rfl⟩
      obtain ⟨S1, hS1⟩ : ∃ s, s = wq.heap.size := ⟨_, rfl⟩
      have DZ1 := Lib.hid (show ¬ (s1 ≤ bz ∧ bz < S1) from by have := (Array.getElem?_eq_some_iff.1 NY.out).1; omega)
      have PX9 : Vbd wq s1 S1 v _ := ⟨hy.mono (G := fun i => s1 ≤ i ∧ i < S1) (fun i h1 h2 => ⟨by omega, by omega⟩), by omega⟩
      have HB := Lib.hid (HB.out.up hb)
      have NY := Lib.hid (box_up NY.out hb)
      have PX := Lib.hid PX9
      clear hb hy PX9 hs1 hS1
      rename World => wc
      go_simp
      refine hK.out _ _ ⟨HB.out.2.1, HB.out.2.2⟩ (fun hHeld => ?_)
      clear hK K
      refine wpAnyH_ready (rs := [3, 4]) (by kernel_rfl) (by simp) (AllReadyH.cons rfl (fun K hK => ?_) (AllReadyH.cons rfl (fun K hK => ?_) AllReadyH.nil))
      · go_simp
        refine (plain_any u HZu.out _ _ _ (HU.out.up HB.out.1)).mono ?_
        rintro e wq ⟨c9, rfl, hy, hb⟩
        obtain ⟨ya, yl, yc, yb, ym, yd, hc9, _, _⟩ := hy.open
        rw [← HK.out.2.2.2.1, ← HK.out.2.2.2.2.1, ← HK.out.2.2.2.2.2] at hc9
        subst hc9
        obtain ⟨s2, hs2⟩ : ∃ s, s = wc.heap.size := ⟨_, rfl⟩
        obtain ⟨S2, hS2⟩ : ∃ s, s = wq.heap.size := ⟨_, rfl⟩
        have DZ3 := Lib.hid (show ¬ (s2 ≤ bz ∧ bz < S2) from by have := (Array.getElem?_eq_some_iff.1 NY.out).1; omega)
        have PY9 : Vbd wq s2 S2 u _ := ⟨hy.mono (G := fun i => s2 ≤ i ∧ i < S2) (fun i h1 h2 => ⟨by omega, by omega⟩), by omega⟩
        have HB := Lib.hid (HB.out.up hb)
        have PX := Lib.hid (PX.out.up hb)
        have NY := Lib.hid (box_up NY.out hb)
        have PY := Lib.hid PY9
        clear hb hy PY9 hs2 hS2
        rename World => wc
        go_simp
        refine hK.out _ _ ⟨HB.out.2.1, HB.out.2.2⟩ (fun hHeld => ?_)
        clear hK K
        refine wpAnyH_ready (rs := [4]) (by kernel_rfl) (by simp) (AllReadyH.cons rfl (fun K hK => ?_) AllReadyH.nil)
        go_simp
        obtain ⟨bx, hbx⟩ : ∃ b, b = wc.heap.size := ⟨_, rfl⟩
        obtain ⟨wq, hwq⟩ : ∃ x, x = wc.alloc (.cells #[.int .i64 0, .int .i64 0, .string ⟨#[]⟩, .slice none 0 0, .slice none 0 0] 35) := ⟨_, rfl⟩
        have hb : Below wc.heap.size wc wq := by rw [hwq]; exact below_alloc _ _
        have n9 : wq.heap[bx]? = some (.cells #[.int .i64 0, .int .i64 0, .string ⟨#[]⟩, .slice none 0 0, .slice none 0 0] 35 (0, 0)) := by rw [hwq, hbx]; exact heap_alloc_new wc _
        have Lbx := Lib.hid (show w.heap.size + 2 ≤ bx from by have := HB.out.two; omega)
        have DX1 := Lib.hid (show ¬ (s1 ≤ bx ∧ bx < S1) from by have := PX.out.2; omega)
        have DX3 := Lib.hid (show ¬ (s2 ≤ bx ∧ bx < S2) from by have := PY.out.2; omega)
        have NE := Lib.hid (show bx ≠ bz from by have := (Array.getElem?_eq_some_iff.1 NY.out).1; omega)
        have HB := Lib.hid (HB.out.up hb)
        have PX := Lib.hid (PX.out.up hb)
        have PY := Lib.hid (PY.out.up hb)
        have NY := Lib.hid (box_up NY.out hb)
        have NX := Lib.hid n9
        rw [← hwq, ← hbx]
        clear hb n9 hwq hbx
        rename World => wc
        refine hK.out _ _ ⟨HB.out.2.1, HB.out.2.2⟩ (fun hHeld => ?_)
        clear hK K
        refine wpAnyH_ready (rs := [6]) (by kernel_rfl) (by simp) (AllReadyH.cons rfl (fun K hK => ?_) AllReadyH.nil)
        have b0 := box_cell NX.out 0
        have b1 := box_cell NX.out 1
        have b2 := box_cell NX.out 2
        have b3 := box_cell NX.out 3
        have b4 := box_cell NX.out 4
        have hfz := box_fr NX.out
        go_simp
        have HF5 := five_set NX.out (.int .i64 kv) (.int .i64 nv) (str sv) (.slice xa xl xc) (.slice xb xm xd)
        generalize (((((wc.setCell ⟨bx, 0, none⟩ (.int .i64 kv)).setCell ⟨bx, 1, none⟩ (.int .i64 nv)).setCell ⟨bx, 2, none⟩ (str sv)).setCell ⟨bx, 3, none⟩ (.slice xa xl xc)).setCell ⟨bx, 4, none⟩ (.slice xb xm xd)) = wq at HF5 ⊢
        obtain ⟨h9, hf9⟩ := HF5
        have HB := Lib.hid (HB.out.frm hf9 Lbx.out)
        have PX := Lib.hid (PX.out.frm hf9 DX1.out)
        have PY := Lib.hid (PY.out.frm hf9 DX3.out)
        have NY := Lib.hid (box_frm NY.out hf9 (by have := NE.out; omega))
        have NX := Lib.hid h9
        clear h9 hf9 b0 b1 b2 b3 b4 hfz
        rename World => wc
        refine hK.out _ _ ⟨HB.out.2.1, HB.out.2.2⟩ (fun hHeld => ?_)
        clear hK K
        refine wpAnyH_ready (rs := [7]) (by kernel_rfl) (by simp) (AllReadyH.cons rfl (fun K hK => ?_) AllReadyH.nil)
        have b0 := box_cell NY.out 0
        have b1 := box_cell NY.out 1
        have b2 := box_cell NY.out 2
        have b3 := box_cell NY.out 3
        have b4 := box_cell NY.out 4
        have hfz := box_fr NY.out
        go_simp
        have HF5 := five_set NY.out (.int .i64 ku) (.int .i64 nu) (str su) (.slice ya yl yc) (.slice yb ym yd)
        generalize (((((wc.setCell ⟨bz, 0, none⟩ (.int .i64 ku)).setCell ⟨bz, 1, none⟩ (.int .i64 nu)).setCell ⟨bz, 2, none⟩ (str su)).setCell ⟨bz, 3, none⟩ (.slice ya yl yc)).setCell ⟨bz, 4, none⟩ (.slice yb ym yd)) = wq at HF5 ⊢
        obtain ⟨h9, hf9⟩ := HF5
        have HB := Lib.hid (HB.out.frm hf9 Lbz.out)
        have PX := Lib.hid (PX.out.frm hf9 DZ1.out)
        have PY := Lib.hid (PY.out.frm hf9 DZ3.out)
        have NX := Lib.hid (box_frm NX.out hf9 (by have := NE.out; omega))
        have NY := Lib.hid h9
        clear h9 hf9 b0 b1 b2 b3 b4 hfz
        rename World => wc
        refine hK.out _ _ ⟨HB.out.2.1, HB.out.2.2⟩ (fun hHeld => ?_)
        clear hK K
        refine wpAnyH_done (by kernel_rfl) ?_ _
        have HXX := Lib.hid (show JwX w v u _ _ bx bz _ _ wc from ⟨HB.out, NX.out, NY.out, PX.out.1.mono (fun _ _ _ => trivial), PY.out.1.mono (fun _ _ _ => trivial)⟩)
        go_wp2_with fail
        go_meet
        exact ⟨bx, bz, xa, xl, xc, xb, xm, xd, ya, yl, yc, yb, ym, yd, rfl, rfl, HXX⟩
      go_simp
      obtain ⟨bx, hbx⟩ : ∃ b, b = wc.heap.size := ⟨_, rfl⟩
      obtain ⟨wq, hwq⟩ : ∃ x, x = wc.alloc (.cells #[.int .i64 0, .int .i64 0, .string ⟨#[]⟩, .slice none 0 0, .slice none 0 0] 35) := ⟨_, rfl⟩
      have hb : Below wc.heap.size wc wq := by rw [hwq]; exact below_alloc _ _
      have n9 : wq.heap[bx]? = some (.cells #[.int .i64 0, .int .i64 0, .string ⟨#[]⟩, .slice none 0 0, .slice none 0 0] 35 (0, 0)) := by rw [hwq, hbx]; exact heap_alloc_new wc _
      have Lbx := Lib.hid (show w.heap.size + 2 ≤ bx from by have := HB.out.two; omega)
      have DX1 := Lib.hid (show ¬ (s1 ≤ bx ∧ bx < S1) from by have := PX.out.2; omega)
      have NE := Lib.hid (show bx ≠ bz from by have := (Array.getElem?_eq_some_iff.1 NY.out).1; omega)
      have HB := Lib.hid (HB.out.up hb)
      have PX := Lib.hid (PX.out.up hb)
      have NY := Lib.hid (box_up NY.out hb)
      have NX := Lib.hid n9
      rw [← hwq, ← hbx]
      clear hb n9 hwq hbx
      rename World => wc
      refine hK.out _ _ ⟨HB.out.2.1, HB.out.2.2⟩ (fun hHeld => ?_)
      clear hK K
      refine wpAnyH_ready (rs := [3]) (by kernel_rfl) (by simp) (AllReadyH.cons rfl (fun K hK => ?_) AllReadyH.nil)
      go_simp
      refine (plain_any u HZu.out _ _ _ (HU.out.up HB.out.1)).mono ?_
      rintro e wq ⟨c9, rfl, hy, hb⟩
      obtain ⟨ya, yl, yc, yb, ym, yd, hc9, _, _⟩ := hy.open
      rw [← HK.out.2.2.2.1, ← HK.out.2.2.2.2.1, ← HK.out.2.2.2.2.2] at hc9
      subst hc9
      obtain ⟨s2, hs2⟩ : ∃ s, s = wc.heap.size := ⟨_, rfl⟩
      obtain ⟨S2, hS2⟩ : ∃ s, s = wq.heap.size := ⟨_, rfl⟩
      have DX3 := Lib.hid (show ¬ (s2 ≤ bx ∧ bx < S2) from by have := (Array.getElem?_eq_some_iff.1 NX.out).1; omega)
      have DZ3 := Lib.hid (show ¬ (s2 ≤ bz ∧ bz < S2) from by have := (Array.getElem?_eq_some_iff.1 NY.out).1; omega)
      have PY9 : Vbd wq s2 S2 u _ := ⟨hy.mono (G := fun i => s2 ≤ i ∧ i < S2) (fun i h1 h2 => ⟨by omega, by omega⟩), by omega⟩
      have HB := Lib.hid (HB.out.up hb)
      have PX := Lib.hid (PX.out.up hb)
      have NX := Lib.hid (box_up NX.out hb)
      have NY := Lib.hid (box_up NY.out hb)
      have PY := Lib.hid PY9
      clear hb hy PY9 hs2 hS2
      rename World => wc
      go_simp
      refine hK.out _ _ ⟨HB.out.2.1, HB.out.2.2⟩ (fun hHeld => ?_)
      clear hK K
      refine wpAnyH_ready (rs := [6]) (by kernel_rfl) (by simp) (AllReadyH.cons rfl (fun K hK => ?_) AllReadyH.nil)
      have b0 := box_cell NX.out 0
      have b1 := box_cell NX.out 1
      have b2 := box_cell NX.out 2
      have b3 := box_cell NX.out 3
      have b4 := box_cell NX.out 4
      have hfz := box_fr NX.out
      go_simp
      have HF5 := five_set NX.out (.int .i64 kv) (.int .i64 nv) (str sv) (.slice xa xl xc) (.slice xb xm xd)
      generalize (((((wc.setCell ⟨bx, 0, none⟩ (.int .i64 kv)).setCell ⟨bx, 1, none⟩ (.int .i64 nv)).setCell ⟨bx, 2, none⟩ (str sv)).setCell ⟨bx, 3, none⟩ (.slice xa xl xc)).setCell ⟨bx, 4, none⟩ (.slice xb xm xd)) = wq at HF5 ⊢
      obtain ⟨h9, hf9⟩ := HF5
      have HB := Lib.hid (HB.out.frm hf9 Lbx.out)
      have PX := Lib.hid (PX.out.frm hf9 DX1.out)
      have PY := Lib.hid (PY.out.frm hf9 DX3.out)
      have NY := Lib.hid (box_frm NY.out hf9 (by have := NE.out; omega))
      have NX := Lib.hid h9
      clear h9 hf9 b0 b1 b2 b3 b4 hfz
      rename World => wc
      refine hK.out _ _ ⟨HB.out.2.1, HB.out.2.2⟩ (fun hHeld => ?_)
      clear hK K
      refine wpAnyH_ready (rs := [7]) (by kernel_rfl) (by simp) (AllReadyH.cons rfl (fun K hK => ?_) AllReadyH.nil)
      have b0 := box_cell NY.out 0
      have b1 := box_cell NY.out 1
      have b2 := box_cell NY.out 2
      have b3 := box_cell NY.out 3
      have b4 := box_cell NY.out 4
      have hfz := box_fr NY.out
      go_simp
      have HF5 := five_set NY.out (.int .i64 ku) (.int .i64 nu) (str su) (.slice ya yl yc) (.slice yb ym yd)
      generalize (((((wc.setCell ⟨bz, 0, none⟩ (.int .i64 ku)).setCell ⟨bz, 1, none⟩ (.int .i64 nu)).setCell ⟨bz, 2, none⟩ (str su)).setCell ⟨bz, 3, none⟩ (.slice ya yl yc)).setCell ⟨bz, 4, none⟩ (.slice yb ym yd)) = wq at HF5 ⊢
      obtain ⟨h9, hf9⟩ := HF5
      have HB := Lib.hid (HB.out.frm hf9 Lbz.out)
      have PX := Lib.hid (PX.out.frm hf9 DZ1.out)
      have PY := Lib.hid (PY.out.frm hf9 DZ3.out)
      have NX := Lib.hid (box_frm NX.out hf9 (by have := NE.out; omega))
      have NY := Lib.hid h9
      clear h9 hf9 b0 b1 b2 b3 b4 hfz
      rename World => wc
      refine hK.out _ _ ⟨HB.out.2.1, HB.out.2.2⟩ (fun hHeld => ?_)
      clear hK K
      refine wpAnyH_done (by kernel_rfl) ?_ _
      have HXX := Lib.hid (show JwX w v u _ _ bx bz _ _ wc from ⟨HB.out, NX.out, NY.out, PX.out.1.mono (fun _ _ _ => trivial), PY.out.1.mono (fun _ _ _ => trivial)⟩)
      go_wp2_with fail
      go_meet
      exact ⟨bx, bz, xa, xl, xc, xb, xm, xd, ya, yl, yc, yb, ym, yd, rfl, rfl, HXX⟩
    go_simp
    obtain ⟨bx, hbx⟩ : ∃ b, b = wc.heap.size := ⟨_, rfl⟩
    obtain ⟨wq, hwq⟩ : ∃ x, x = wc.alloc (.cells #[.int .i64 0, .int .i64 0, .string ⟨#[]⟩, .slice none 0 0, .slice none 0 0] 35) := ⟨_, rfl⟩
    have hb : Below wc.heap.size wc wq := by rw [hwq]; exact below_alloc _ _
    have n9 : wq.heap[bx]? = some (.cells #[.int .i64 0, .int .i64 0, .string ⟨#[]⟩, .slice none 0 0, .slice none 0 0] 35 (0, 0)) := by rw [hwq, hbx]; exact heap_alloc_new wc _
    have Lbx := Lib.hid (show w.heap.size + 2 ≤ bx from by have := HB.out.two; omega)
    have NE := Lib.hid (show bx ≠ bz from by have := (Array.getElem?_eq_some_iff.1 NY.out).1; omega)
    have HB := Lib.hid (HB.out.up hb)
    have NY := Lib.hid (box_up NY.out hb)
    have NX := Lib.hid n9
    rw [← hwq, ← hbx]
    clear hb n9 hwq hbx
    rename World => wc
    refine hK.out _ _ ⟨HB.out.2.1, HB.out.2.2⟩ (fun hHeld => ?_)
    clear hK K
    refine wpAnyH_ready (rs := [1]) (by kernel_rfl) (by simp) (AllReadyH.cons rfl (fun K hK => ?_) AllReadyH.nil)
    go_simp
    refine (plain_any v HZv.out _ _ _ (HV.out.up HB.out.1)).mono ?_
    rintro e wq ⟨c9, rfl, hy, hb⟩
    obtain ⟨xa, xl, xc, xb, xm, xd, hc9, _, _⟩ := hy.open
    rw [← HK.out.1, ← HK.out.2.1, ← HK.out.2.2.1] at hc9
    subst hc9
    obtain ⟨s1, hs1⟩ : ∃ s, s = wc.heap.size := ⟨_, rfl⟩
    obtain ⟨S1, hS1⟩ : ∃ s, s = wq.heap.size := ⟨_, rfl⟩
    have DX1 := Lib.hid (show ¬ (s1 ≤ bx ∧ bx < S1) from by have := (Array.getElem?_eq_some_iff.1 NX.out).1; omega)
    have DZ1 := Lib.hid (show ¬ (s1 ≤ bz ∧ bz < S1) from by have := (Array.getElem?_eq_some_iff.1 NY.out).1; omega)
    have PX9 : Vbd wq s1 S1 v _ := ⟨hy.mono (G := fun i => s1 ≤ i ∧ i < S1) (fun i h1 h2 => ⟨by omega, by omega⟩), by omega⟩
    have HB := Lib.hid (HB.out.up hb)
    have NX := Lib.hid (box_up NX.out hb)
    have NY := Lib.hid (box_up NY.out hb)
    have PX := Lib.hid PX9
    clear hb hy PX9 hs1 hS1
    rename World => wc
    go_simp
    refine hK.out _ _ ⟨HB.out.2.1, HB.out.2.2⟩ (fun hHeld => ?_)
    clear hK K
    refine wpAnyH_ready (rs := [3]) (by kernel_rfl) (by simp) (AllReadyH.cons rfl (fun K hK => ?_) AllReadyH.nil)
    go_simp
    refine (plain_any u HZu.out _ _ _ (HU.out.up HB.out.1)).mono ?_
    rintro e wq ⟨c9, rfl, hy, hb⟩
    obtain ⟨ya, yl, yc, yb, ym, yd, hc9, _, _⟩ := hy.open
    rw [← HK.out.2.2.2.1, ← HK.out.2.2.2.2.1, ← HK.out.2.2.2.2.2] at hc9
    subst hc9
    obtain ⟨s2, hs2⟩ : ∃ s, s = wc.heap.size := ⟨_, rfl⟩
    obtain ⟨S2, hS2⟩ : ∃ s, s = wq.heap.size := ⟨_, rfl⟩
    have DX3 := Lib.hid (show ¬ (s2 ≤ bx ∧ bx < S2) from by have := (Array.getElem?_eq_some_iff.1 NX.out).1; omega)
    have DZ3 := Lib.hid (show ¬ (s2 ≤ bz ∧ bz < S2) from by have := (Array.getElem?_eq_some_iff.1 NY.out).1; omega)
    have PY9 : Vbd wq s2 S2 u _ := ⟨hy.mono (G := fun i => s2 ≤ i ∧ i < S2) (fun i h1 h2 => ⟨by omega, by omega⟩), by omega⟩
    have HB := Lib.hid (HB.out.up hb)
    have PX := Lib.hid (PX.out.up hb)
    have NX := Lib.hid (box_up NX.out hb)
    have NY := Lib.hid (box_up NY.out hb)
    have PY := Lib.hid PY9
    clear hb hy PY9 hs2 hS2
    rename World => wc
    go_simp
    refine hK.out _ _ ⟨HB.out.2.1, HB.out.2.2⟩ (fun hHeld => ?_)
    clear hK K
    refine wpAnyH_ready (rs := [6]) (by kernel_rfl) (by simp) (AllReadyH.cons rfl (fun K hK => ?_) AllReadyH.nil)
    have b0 := box_cell NX.out 0
    have b1 := box_cell NX.out 1
    have b2 := box_cell NX.out 2
    have b3 := box_cell NX.out 3
    have b4 := box_cell NX.out 4
    have hfz := box_fr NX.out
    go_simp
    have HF5 := five_set NX.out (.int .i64 kv) (.int .i64 nv) (str sv) (.slice xa xl xc) (.slice xb xm xd)
    generalize (((((wc.setCell ⟨bx, 0, none⟩ (.int .i64 kv)).setCell ⟨bx, 1, none⟩ (.int .i64 nv)).setCell ⟨bx, 2, none⟩ (str sv)).setCell ⟨bx, 3, none⟩ (.slice xa xl xc)).setCell ⟨bx, 4, none⟩ (.slice xb xm xd)) = wq at HF5 ⊢
    obtain ⟨h9, hf9⟩ := HF5
    have HB := Lib.hid (HB.out.frm hf9 Lbx.out)
    have PX := Lib.hid (PX.out.frm hf9 DX1.out)
    have PY := Lib.hid (PY.out.frm hf9 DX3.out)
    have NY := Lib.hid (box_frm NY.out hf9 (by have := NE.out; omega))
    have NX := Lib.hid h9
    clear h9 hf9 b0 b1 b2 b3 b4 hfz
    rename World => wc
    refine hK.out _ _ ⟨HB.out.2.1, HB.out.2.2⟩ (fun hHeld => ?_)
    clear hK K
    refine wpAnyH_ready (rs := [7]) (by kernel_rfl) (by simp) (AllReadyH.cons rfl (fun K hK => ?_) AllReadyH.nil)
    have b0 := box_cell NY.out 0
    have b1 := box_cell NY.out 1
    have b2 := box_cell NY.out 2
    have b3 := box_cell NY.out 3
    have b4 := box_cell NY.out 4
    have hfz := box_fr NY.out
    go_simp
    have HF5 := five_set NY.out (.int .i64 ku) (.int .i64 nu) (str su) (.slice ya yl yc) (.slice yb ym yd)
    generalize (((((wc.setCell ⟨bz, 0, none⟩ (.int .i64 ku)).setCell ⟨bz, 1, none⟩ (.int .i64 nu)).setCell ⟨bz, 2, none⟩ (str su)).setCell ⟨bz, 3, none⟩ (.slice ya yl yc)).setCell ⟨bz, 4, none⟩ (.slice yb ym yd)) = wq at HF5 ⊢
    obtain ⟨h9, hf9⟩ := HF5
    have HB := Lib.hid (HB.out.frm hf9 Lbz.out)
    have PX := Lib.hid (PX.out.frm hf9 DZ1.out)
    have PY := Lib.hid (PY.out.frm hf9 DZ3.out)
    have NX := Lib.hid (box_frm NX.out hf9 (by have := NE.out; omega))
    have NY := Lib.hid h9
    clear h9 hf9 b0 b1 b2 b3 b4 hfz
    rename World => wc
    refine hK.out _ _ ⟨HB.out.2.1, HB.out.2.2⟩ (fun hHeld => ?_)
    clear hK K
    refine wpAnyH_done (by kernel_rfl) ?_ _
    have HXX := Lib.hid (show JwX w v u _ _ bx bz _ _ wc from ⟨HB.out, NX.out, NY.out, PX.out.1.mono (fun _ _ _ => trivial), PY.out.1.mono (fun _ _ _ => trivial)⟩)
    go_wp2_with fail
    go_meet
    exact ⟨bx, bz, xa, xl, xc, xb, xm, xd, ya, yl, yc, yb, ym, yd, rfl, rfl, HXX⟩
  case rest =>
    obtain ⟨bx, bz, xa, xl, xc, xb, xm, xd, ya, yl, yc, yb, ym, yd, rfl, rfl, HX⟩ := hcut
    clear H3
    obtain ⟨PC, hPC⟩ : ∃ c : Int, c = (if mayV v 64 = true then 0 else 4) := ⟨_, rfl⟩
    obtain ⟨PT, hPT⟩ : ∃ t, t = (if mayV v 64 = true then prV v else []) := ⟨_, rfl⟩
    obtain ⟨x0, hx0⟩ : ∃ x, x = (getJ v nm).getD (.mk 0 0 [] [] []) := ⟨_, rfl⟩
    obtain ⟨ok0, hok0⟩ : ∃ b, b = (getJ v nm).isSome := ⟨_, rfl⟩
    have HP := Lib.hid (And.intro hPC (And.intro hPT (And.intro hx0 hok0)))
    clear hPC hPT hx0 hok0
    have CP := print_one (HV.out.up HX.out.1.1) (by have := few_sz hf1.out; omega) (HT.out.up HX.out.1.1 HX.out.1.1.size)
    rw [← HP.out.1, ← HP.out.2.1] at CP
    have CP := Lib.hid CP
    have q0 := box_cell HX.out.1.2.1 0
    have q1 := box_cell HX.out.1.2.1 1
    have q2 := box_cell HX.out.1.2.1 2
    have q3 := box_cell HX.out.1.2.1 3
    have q4 := box_cell HX.out.1.2.1 4
    go_wp2_with fail
    refine CP.out.mono ?_
    rintro e w4 ⟨tb, rfl, htb, hb⟩
    obtain ⟨ta, tc, rfl, _⟩ := id htb
    have H4 := Lib.hid (HX.out.up hb)
    have TB := Lib.hid htb
    clear hb htb CP HX q0 q1 q2 q3 q4
    have CP := rPrint_any v (stV_sz v (by have := few_sz hf1.out; omega)) (fun hm => by have := prV_len v 64 hm; have := few_sz hf1.out; omega) _ w4 _ H4.out.2.2.2.1
    rw [← HP.out.1, ← HP.out.2.1] at CP
    have CP := Lib.hid CP
    have q0 := box_cell H4.out.2.1 0
    have q1 := box_cell H4.out.2.1 1
    have q2 := box_cell H4.out.2.1 2
    have q3 := box_cell H4.out.2.1 3
    have q4 := box_cell H4.out.2.1 4
    go_wp2_with fail
    refine CP.out.mono ?_
    rintro e w5 ⟨tb2, rfl, htb, hb⟩
    obtain ⟨ta2, tc2, rfl, _⟩ := id htb
    have H5 := Lib.hid (And.intro (H4.out.up hb) (And.intro (TB.out.below hb (Nat.le_refl _)) htb))
    clear hb htb CP H4 TB q0 q1 q2 q3 q4
    have CP := get_one v nm HZv.out _ w5 _ (HV.out.up H5.out.1.1.1)
    rw [← HP.out.2.2.1, ← HP.out.2.2.2] at CP
    have CP := Lib.hid CP
    have q0 := box_cell H5.out.1.1.2.1 0
    have q1 := box_cell H5.out.1.1.2.1 1
    have q2 := box_cell H5.out.1.1.2.1 2
    have q3 := box_cell H5.out.1.1.2.1 3
    have q4 := box_cell H5.out.1.1.2.1 4
    go_wp2_with fail
    refine CP.out.mono ?_
    rintro e w6 ⟨c9, rfl, hp, hb⟩
    obtain ⟨pa, pl, pc_, pb_, pm, pd, hc9, _, _⟩ := hp.open
    obtain ⟨kp, np, sp, hkp, hnp, hsp⟩ : ∃ a b c, a = x0.kind ∧ b = x0.n ∧ c = x0.s := ⟨_, _, _, rfl, rfl, rfl⟩
    rw [← hkp, ← hnp, ← hsp] at hc9
    subst hc9
    have H6 := Lib.hid (And.intro (H5.out.1.up hb) (And.intro (H5.out.2.1.below hb (Nat.le_refl _)) (And.intro (H5.out.2.2.below hb (Nat.le_refl _)) hp)))
    clear hb hp CP H5 hkp hnp hsp q0 q1 q2 q3 q4
    go_upto_region 9 with fail
    refine wp_any_world (fun W => Below w6.heap.size w6 W ∧ W.heap[w6.heap.size]? = some (.cells #[.int .i64 kp, .int .i64 np, str sp, .slice pa pl pc_, .slice pb_ pm pd] 28 (0, 0))) ⟨below_alloc _ _, heap_alloc_new _ _⟩ ?_
    rintro w7 ⟨hb, hbp⟩
    obtain ⟨bp, hbp0⟩ : ∃ b, b = w6.heap.size := ⟨_, rfl⟩
    rw [← hbp0] at hbp ⊢
    have H7 := Lib.hid (And.intro (H6.out.1.up hb) (And.intro (H6.out.2.1.below hb (Nat.le_refl _)) (And.intro (H6.out.2.2.1.below hb (Nat.le_refl _)) (And.intro (H6.out.2.2.2.up hb) hbp))))
    clear hb hbp hbp0 H6
    have CP := rmember_any v nm _ w7 _ H7.out.1.2.2.2.1
    rw [← HP.out.2.2.1, ← HP.out.2.2.2] at CP
    have CP := Lib.hid CP
    have q0 := box_cell H7.out.1.2.1 0
    have q1 := box_cell H7.out.1.2.1 1
    have q2 := box_cell H7.out.1.2.1 2
    have q3 := box_cell H7.out.1.2.1 3
    have q4 := box_cell H7.out.1.2.1 4
    go_wp2_with fail
    refine CP.out.mono ?_
    rintro e w8 ⟨c9, rfl, hp, hb⟩
    obtain ⟨qa, ql, qc, qb, qm, qd, hc9, _, _⟩ := hp.open
    obtain ⟨kq, nq, sq, hkq, hnq, hsq⟩ : ∃ a b c, a = x0.kind ∧ b = x0.n ∧ c = x0.s := ⟨_, _, _, rfl, rfl, rfl⟩
    rw [← hkq, ← hnq, ← hsq] at hc9
    subst hc9
    have H8 := Lib.hid (And.intro (H7.out.1.up hb) (And.intro (H7.out.2.1.below hb (Nat.le_refl _)) (And.intro (H7.out.2.2.1.below hb (Nat.le_refl _)) (And.intro (H7.out.2.2.2.1.up hb) (And.intro (box_up H7.out.2.2.2.2 hb) hp)))))
    clear hb hp CP H7 hkq hnq hsq q0 q1 q2 q3 q4
    go_upto_region 10 with fail
    refine wp_any_world (fun W => Below w8.heap.size w8 W ∧ W.heap[w8.heap.size]? = some (.cells #[.int .i64 kq, .int .i64 nq, str sq, .slice qa ql qc, .slice qb qm qd] 35 (0, 0))) ⟨below_alloc _ _, heap_alloc_new _ _⟩ ?_
    rintro w9 ⟨hb, hbp⟩
    obtain ⟨bq, hbq0⟩ : ∃ b, b = w8.heap.size := ⟨_, rfl⟩
    rw [← hbq0] at hbp ⊢
    have H9 := Lib.hid (show JwX w v u [.int .i64 kv, .int .i64 nv, str sv, .slice al ll cl, .slice am lm cm] [.int .i64 ku, .int .i64 nu, str su, .slice bl ml dl, .slice bm mm dm] bx bz [.int .i64 kv, .int .i64 nv, str sv, .slice xa xl xc, .slice xb xm xd] [.int .i64 ku, .int .i64 nu, str su, .slice ya yl yc, .slice yb ym yd] w9 ∧ Rd w9 _ PT ∧ Rd w9 _ PT ∧ RdJ w9 (fun _ => True) x0 _ ∧ w9.heap[bp]? = _ ∧ RdJ w9 (fun _ => True) x0 _ ∧ w9.heap[bq]? = _ from ⟨H8.out.1.up hb, H8.out.2.1.below hb (Nat.le_refl _), H8.out.2.2.1.below hb (Nat.le_refl _), H8.out.2.2.2.1.up hb, box_up H8.out.2.2.2.2.1 hb, H8.out.2.2.2.2.2.up hb, hbp⟩)
    clear hb hbp hbq0 H8
    have CP := Lib.hid (copy_top v HZv.out _ w9 _ (HV.out.up H9.out.1.1.1))
    have q0 := box_cell H9.out.1.1.2.1 0
    have q1 := box_cell H9.out.1.1.2.1 1
    have q2 := box_cell H9.out.1.1.2.1 2
    have q3 := box_cell H9.out.1.1.2.1 3
    have q4 := box_cell H9.out.1.1.2.1 4
    go_wp2_with fail
    refine CP.out.mono ?_
    rintro e w10 ⟨c9, rfl, hd, hb, u1, u2⟩
    obtain ⟨da, dl_, dc, db, dm_, dd, hc9, _, _⟩ := hd.open
    rw [← HK.out.1, ← HK.out.2.1, ← HK.out.2.2.1] at hc9
    subst hc9
    have HD := Lib.hid (And.intro hb hd)
    have HUF := Lib.hid (And.intro (show UnF w10 (.slice da dl_ dc) from u1) (show UnF w10 (.slice db dm_ dd) from u2))
    clear hb hd u1 u2 CP q0 q1 q2 q3 q4
    go_upto_region 11 with fail
    refine wp_any_world (fun W => Below w10.heap.size w10 W ∧ W.heap[w10.heap.size]? = some (.cells #[.int .i64 kv, .int .i64 nv, str sv, .slice da dl_ dc, .slice db dm_ dd] 28 (0, 0))) ⟨below_alloc _ _, heap_alloc_new _ _⟩ ?_
    rintro w11 ⟨hb, hbp⟩
    obtain ⟨bd, hbd0⟩ : ∃ b, b = w10.heap.size := ⟨_, rfl⟩
    rw [← hbd0] at hbp ⊢
    have HUF := Lib.hid (And.intro (HUF.out.1.toB (bd := bd) (by omega) hb) (HUF.out.2.toB (bd := bd) (by omega) hb))
    have H11 := Lib.hid (show Below w9.heap.size w9 w11 ∧ RdJ w11 (fun i => w9.heap.size ≤ i) v _ ∧ w11.heap[bd]? = _ ∧ w9.heap.size ≤ bd from ⟨HD.out.1.trans (hb.mono HD.out.1.size), HD.out.2.up hb, hbp, by have := HD.out.1.size; omega⟩)
    clear hb hbp hbd0 HD
    have CP := same_any v v _ _ w11 _ _ H11.out.2.1 (HV.out.up (H9.out.1.up H11.out.1).1.1)
    rw [samV_self] at CP
    have CP := Lib.hid CP
    have q0 := box_cell (H9.out.1.up H11.out.1).1.2.1 0
    have q1 := box_cell (H9.out.1.up H11.out.1).1.2.1 1
    have q2 := box_cell (H9.out.1.up H11.out.1).1.2.1 2
    have q3 := box_cell (H9.out.1.up H11.out.1).1.2.1 3
    have q4 := box_cell (H9.out.1.up H11.out.1).1.2.1 4
    have r0 := box_cell H11.out.2.2.1 0
    have r1 := box_cell H11.out.2.2.1 1
    have r2 := box_cell H11.out.2.2.1 2
    have r3 := box_cell H11.out.2.2.1 3
    have r4 := box_cell H11.out.2.2.1 4
    go_wp2_with fail
    refine CP.out.mono ?_
    rintro e w12 ⟨rfl, hb⟩
    have HUF := Lib.hid (And.intro (HUF.out.1.up hb) (HUF.out.2.up hb))
    have H12 := Lib.hid (show Below w9.heap.size w9 w12 ∧ RdJ w12 (fun i => w9.heap.size ≤ i) v _ ∧ w12.heap[bd]? = _ ∧ w9.heap.size ≤ bd from ⟨H11.out.1.trans (hb.mono H11.out.1.size), H11.out.2.1.up hb, box_up H11.out.2.2.1 hb, H11.out.2.2.2⟩)
    clear hb CP H11 r0 r1 r2 r3 r4 q0 q1 q2 q3 q4
    obtain ⟨a1, n1, c1, a2, n2, c2, hcs, ⟨r1, hr1, hl1, hn1⟩, r2, hr2, hm2, hn2⟩ := H12.out.2.1.open
    obtain ⟨e3, e4⟩ := five_eq hcs
    cases e3
    cases e4
    subst hn1 hn2
    have HN12 := Lib.hid (jwN_of hr2 hm2 HUF.out.2)
    have HL12 := Lib.hid (And.intro hr1 hl1)
    clear hcs hr1 hl1 hr2 hm2
    have r3 := box_cell H12.out.2.2.1 3
    go_upto_if 75 with fail
    clear r3
    obtain ⟨bb, hbb⟩ : ∃ b, b = decide (0 < v.l.length) := ⟨_, rfl⟩
    rw [← hbb]
    have HBB := Lib.hid hbb
    clear hbb
    go_cut [76] from 76 to 83 (fun v76 wx => v76 = v76 ∧ Hid (JwD w9.heap.size w9 v db bd [.int .i64 kv, .int .i64 nv, str sv, .slice da v.l.length dc, .slice db v.m.length dd] wx))
    case first =>
      cases bb with
      | true =>
        have hl0 : 0 < v.l.length := by have := of_decide_eq_true HBB.out.symm; omega
        obtain ⟨y, t, hy⟩ := List.exists_cons_of_length_pos hl0
        obtain ⟨b9, off9, c9, T9, rfl, hs9, hlt9, hb9, hc9⟩ := jwL_of HL12.out.1 HL12.out.2 HUF.out.1 hy
        have HY := Lib.hid hy
        have HS9 := Lib.hid (And.intro hs9 hlt9)
        have r3 := box_cell H12.out.2.2.1 3
        have k1 : w12.cell? ⟨b9, off9 + 1, none⟩ = some (.int .i64 y.n) := by rw [box_cell hb9]; exact hc9
        have kf := box_fr hb9 (off9 + 1)
        have KK := Lib.hid k1
        have n1 : (0 : Int) < (v.l.length : Int) := by omega
        clear hy hs9 hlt9 hb9 hc9 hl0
        go_wp2_with fail
        go_meet
        exact ⟨trivial, Lib.hid ⟨H12.out.1.setCell (p := ⟨b9, off9 + 1, none⟩) HS9.out.1 _, HN12.out.set KK.out _, by rw [Below.heap_setCell _ _ _ _ (show bd ≠ b9 from by have := HS9.out.2; omega)]; exact H12.out.2.2.1, H12.out.2.2.2⟩⟩
      | false =>
        go_wp2_with fail
        go_meet
        exact ⟨trivial, Lib.hid ⟨H12.out.1, HN12.out, H12.out.2.2.1, H12.out.2.2.2⟩⟩
    case rest =>
      obtain ⟨_, HC⟩ := hcut
      have r4 := box_cell HC.out.2.2.1 4
      go_upto_if 87 with fail
      clear r4
      obtain ⟨b2, hbb⟩ : ∃ b, b = decide (0 < v.m.length) := ⟨_, rfl⟩
      rw [← hbb]
      have HB2 := Lib.hid hbb
      clear hbb
      go_cut [88] from 88 to 97 (fun v88 wx => v88 = v88 ∧ Hid (Below w9.heap.size w9 wx))
      case first =>
        cases b2 with
        | true =>
          have hm0 : 0 < v.m.length := by have := of_decide_eq_true HB2.out.symm; omega
          obtain ⟨y, t, hy⟩ := List.exists_cons_of_length_pos hm0
          obtain ⟨b9, off9, c9, T9, rfl, hs9, hlt9, hb9, hc9⟩ := HC.out.2.1 y t hy
          have HYL : Hid (y.1.length ≤ 1000000000) := Lib.hid (Nat.le_trans (name_len hy) HZv.out)
          have HS9 := Lib.hid (And.intro hs9 (And.intro hlt9 (And.intro hb9 hc9)))
          obtain ⟨yn, hyn⟩ : ∃ n, n = y.1 := ⟨_, rfl⟩
          rw [← hyn] at HYL HS9
          have n1 : (0 : Int) < (v.m.length : Int) := by omega
          clear hy hs9 hlt9 hb9 hc9 hyn
          go_upto_region 15 with fail
          obtain ⟨wd, hwd⟩ : ∃ x, x = wc.drew := ⟨_, rfl⟩
          have HB : Hid (Below wc.heap.size wc wd) := Lib.hid (by rw [hwd]; exact Below.drewsN (Below.refl _ _) 1)
          refine wp_region_held_drew (S := (fun W => W.heap[bd]? = some (.cells #[.int .i64 kv, .int .i64 nv, str sv, .slice da v.l.length dc, .slice (some ⟨b9, off9, none⟩) v.m.length dd] 28 (0, 0)))) (by kernel_rfl) (by rw [← hwd]; exact box_up HC.out.2.2.1 HB.out) (fun hHeld => ?_)
          rw [← hwd] at hHeld ⊢
          clear hwd
          have hn9 := box_up HS9.out.2.2.1 HB.out
          have k1 : wd.cell? ⟨b9, off9, none⟩ = some (str yn) := by rw [box_cell hn9]; exact HS9.out.2.2.2
          have kf := box_fr hn9 off9
          have e1 := str_cat yn [120]
          have n5 : ¬ (9223372036854775807 < yn.length + 1) := by have := HYL.out; omega
          clear hn9
          refine wpAnyH_take (i := 0) (v := ?v1) rfl (by kernel_rfl) (by kernel_rfl) (by kernel_rfl) (fun _ _ _ h => h) (Or.inl ⟨by rfl, ?hy1⟩) (by assumption) ?_
          case hy1 => (intro w hSw; clear hSw; go_simp; try with_reducible rfl)
          go_simp
          refine wpAnyH_take (i := 1) (v := ?v2) rfl (by kernel_rfl) (by kernel_rfl) (by kernel_rfl) (fun _ _ _ h => h) (Or.inl ⟨by rfl, ?hy2⟩) (by assumption) ?_
          case hy2 => (intro w hSw; have a0 := box_cell hSw 0; have a1 := box_cell hSw 1; have a2 := box_cell hSw 2; have a3 := box_cell hSw 3; have a4 := box_cell hSw 4; go_simp; try with_reducible rfl)
          go_simp
          refine wpAnyH_take (i := 2) (v := ?v3) rfl (by kernel_rfl) (by kernel_rfl) (by kernel_rfl) (fun _ _ _ h => h) (Or.inl ⟨by rfl, ?hy3⟩) (by assumption) ?_
          case hy3 => (intro w hSw; clear hSw; go_simp; try with_reducible rfl)
          go_simp
          refine wpAnyH_take (i := 3) (v := ?v4) rfl (by kernel_rfl) (by kernel_rfl) (by kernel_rfl) (fun _ _ _ h => h) (Or.inl ⟨by rfl, ?hy4⟩) (by assumption) ?_
          case hy4 => (intro w hSw; have a0 := box_cell hSw 0; have a1 := box_cell hSw 1; have a2 := box_cell hSw 2; have a3 := box_cell hSw 3; have a4 := box_cell hSw 4; go_simp; try with_reducible rfl)
          go_simp
          refine wpAnyH_take (i := 4) (v := ?v5) rfl (by kernel_rfl) (by kernel_rfl) (by kernel_rfl) (fun _ _ _ h => h) (Or.inl ⟨by rfl, ?hy5⟩) (by assumption) ?_
          case hy5 => (intro w hSw; clear hSw; go_simp; try with_reducible rfl)
          go_simp
          refine wpAnyH_take (i := 5) (v := ?v6) rfl (by kernel_rfl) (by kernel_rfl) (by kernel_rfl) (fun _ _ _ h => h) (Or.inl ⟨by rfl, ?hy6⟩) (by assumption) ?_
          case hy6 => (intro w hSw; clear hSw; go_simp; try with_reducible rfl)
          go_simp
          refine wpAnyH_ready (rs := [6]) (by kernel_rfl) (by simp) (AllReadyH.cons rfl (fun K hK => ?_) AllReadyH.nil)
          go_simp
          refine hK.out _ _ (by assumption) (fun hHeld => ?_)
          clear hK K
          refine wpAnyH_take (i := 7) (v := ?v7) rfl (by kernel_rfl) (by kernel_rfl) (by kernel_rfl) (fun _ _ _ h => h) (Or.inl ⟨by rfl, ?hy7⟩) (by assumption) ?_
          case hy7 => (intro w hSw; clear hSw; go_simp; try with_reducible rfl)
          go_simp
          refine wpAnyH_take (i := 8) (v := ?v8) rfl (by kernel_rfl) (by kernel_rfl) (by kernel_rfl) (fun _ _ _ h => h) (Or.inl ⟨by rfl, ?hy8⟩) (by assumption) ?_
          case hy8 => (intro w hSw; clear hSw; go_simp; try with_reducible rfl)
          go_simp
          refine wpAnyH_take (i := 9) (v := ?v9) rfl (by kernel_rfl) (by kernel_rfl) (by kernel_rfl) (fun _ _ _ h => h) (Or.inl ⟨by rfl, ?hy9⟩) (by assumption) ?_
          case hy9 => (intro w hSw; clear hSw; go_simp; try with_reducible rfl)
          go_simp
          refine wpAnyH_ready (rs := [10]) (by kernel_rfl) (by simp) (AllReadyH.cons rfl (fun K hK => ?_) AllReadyH.nil)
          go_simp
          have HBX := Lib.hid (HC.out.1.trans (HB.out.mono HC.out.1.size) |>.setCell (p := ⟨b9, off9, none⟩) HS9.out.1 (str (yn ++ [120])))
          refine hK.out _ _ (by rw [Below.heap_setCell _ _ _ _ (show bd ≠ b9 from by have := HS9.out.2.1; omega)]; exact hHeld) (fun hHeld => ?_)
          clear hK K
          refine wpAnyH_done (by kernel_rfl) ?_ _
          go_wp2_with fail
          go_meet
          exact ⟨trivial, HBX⟩
        | false =>
          go_wp2_with fail
          go_meet
          exact ⟨trivial, Lib.hid HC.out.1⟩
      case rest =>
      obtain ⟨_, HB⟩ := hcut
      clear H12 HC HN12 HL12 HUF
      have H16 := Lib.hid (H9.out.1.up HB.out)
      have CP := Lib.hid (members_any v HZv.out _ wc _ (HV.out.up H16.out.1.1))
      have q0 := box_cell H16.out.1.2.1 0
      have q1 := box_cell H16.out.1.2.1 1
      have q2 := box_cell H16.out.1.2.1 2
      have q3 := box_cell H16.out.1.2.1 3
      have q4 := box_cell H16.out.1.2.1 4
      go_wp2_with fail
      refine CP.out.mono ?_
      rintro e w16 ⟨B, c9, rfl, hB0, hB1, hok, hb⟩
      have HB16 := Lib.hid (HB.out.trans (hb.mono HB.out.size))
      have CN := Lib.hid (names_one HZv.out hok n)
      clear hB0 hB1 hok hb CP HB H16 q0 q1 q2 q3 q4
      go_wp2_with fail
      refine CN.out.mono ?_
      rintro e w17 ⟨va, vb, rows, rfl, ra, rb, rl, hb⟩
      obtain ⟨L, hL⟩ : ∃ l, l = (memL v).take n.toNat := ⟨_, rfl⟩
      rw [← hL] at ra rb rl
      have e1 : rows.length = L.length := by have := (RdL.rows rl).1; simpa using this
      have HRB : Hid (RdFB (fun i => w16.heap.size ≤ i) 5 w17 vb rows) := Lib.hid (RdFB.of_row (RdL.rows rl).2 (by rw [e1]; exact rb) (fun k hk => (rb.lt k hk).1))
      have HRA : Hid (RdV w17 va (L.map (fun p => str p.1))) := Lib.hid (RdV.of_row (by simpa using ra))
      obtain ⟨am2, cm2, evb, _⟩ := HRB.out.form
      rw [e1] at evb
      subst evb
      obtain ⟨an2, cn2, eva, _, _⟩ := id HRA.out
      rw [List.length_map] at eva
      subst eva
      have H17 := Lib.hid (And.intro (HB16.out.trans (hb.mono HB16.out.size)) (And.intro hL (And.intro e1 (And.intro ra rl))))
      clear hb hL e1 ra rb rl CN HB16
      obtain ⟨xA, xN, xC0, xA2, xN2, xC2, hcs, _, rx, hrx, hmx, hnx⟩ := (H9.out.1.up H17.out.1).2.2.2.1.open
      obtain ⟨_, e4⟩ := five_eq hcs
      simp only [Value.slice.injEq] at e4
      obtain ⟨rfl, rfl, rfl⟩ := e4
      subst hnx
      have HX17 := Lib.hid (And.intro hrx hmx)
      clear hcs hrx hmx
      have HLN : Hid (L.length < 1000000000) := Lib.hid (by have h1 := (take_mem H17.out.2.1 (L.length - 1)); have h2 := few_sz hf1.out; have h3 := szV_mk v; have h4 := szM_len v.m; omega)
      have HL17 := Lib.hid (H17.out.2.2.2.2.mono (G := fun i => w16.heap.size ≤ i) (fun i _ hF => hF.1))
      go_wp2_with fail
      go_loopw [23, 24] (fun k iv wr => ∃ j : Nat, j ≤ L.length ∧ iv = .int .i64 (j : Int) ∧ Hid (JwK w17 L k j wr)) (fun _ iv _ => L.length - (intOf iv).toNat)
      case atStart => exact ⟨0, Nat.zero_le _, rfl, Lib.hid ⟨Below.refl _ _, by simpa using World.ownsRow_nil _ _ _ _, none, 0, rfl⟩⟩
      case round =>
        obtain ⟨j, hj, rfl, HJK⟩ := hrel
        obtain ⟨ka, kc, rfl⟩ := HJK.out.2.2
        have HXJ := Lib.hid (H9.out.1.up (H17.out.1.trans (HJK.out.1.mono H17.out.1.size)))
        have q0 := box_cell HXJ.out.2.1 0
        have q4 := box_cell HXJ.out.2.1 4
        have i0 : (0 : Int) ≤ (j : Int) := by omega
        go_upto_region 19 with fail
        go_cut [119] from 105 to 148 (fun c wx => c = .bool (decide (j < L.length)) ∧ wx = wr)
        case first =>
          have hta := take_mem H17.out.2.1 j
          by_cases a1 : j < v.m.length
          · have n1 : (j : Int) < (v.m.length : Int) := by omega
            by_cases a2 : (j : Int) < n
            · by_cases a3 : v.kind = 7
              · have t1 : (kv == 7) = true := by rw [HK.out.1, a3]; rfl
                have hd : decide (j < L.length) = true := decide_eq_true (hta.2 ⟨a1, a2, a3⟩)
                clear hta a1 a3
                go_wp2_with fail
                go_meet
                exact ⟨by rw [hd], rfl⟩
              have t1 : (kv == 7) = false := by rw [HK.out.1, beq_eq_false_iff_ne]; exact a3
              have hd : decide (j < L.length) = false := decide_eq_false (fun h => a3 (hta.1 h).2.2)
              clear hta a1 a3
              go_wp2_with fail
              go_meet
              exact ⟨by rw [hd], rfl⟩
            have hd : decide (j < L.length) = false := decide_eq_false (fun h => a2 (hta.1 h).2.1)
            clear hta a1
            go_wp2_with fail
            go_meet
            exact ⟨by rw [hd], rfl⟩
          have n1 : ¬ (j : Int) < (v.m.length : Int) := by omega
          have hd : decide (j < L.length) = false := decide_eq_false (fun h => a1 (hta.1 h).1)
          clear hta a1
          go_wp2_with fail
          go_meet
          exact ⟨by rw [hd], rfl⟩
        case rest =>
        obtain ⟨hv119, hwx⟩ := hcut
        have hwy := hwx.symm
        clear hwx
        subst hwy
        by_cases hlt : j < L.length
        · rw [decide_eq_true hlt] at hv119
          subst hv119
          have hjm : j < v.m.length := ((take_mem H17.out.2.1 j).1 hlt).1
          have hget := take_get H17.out.2.1 hlt hjm
          obtain ⟨mb, mo, ma, mn, mc, ma2, mn2, mc2, rfl, _, hbw1, hm5, d0, d1, d2, d3, d4⟩ := RdJ.part HRB.out HL17.out (k := j) (by rw [List.length_map]; exact hlt)
          obtain ⟨fb, fo, fa, fn, fc, fa2, fn2, fc2, rfl, _, hbw2, hf5, f0, f1, f2, f3, f4, f5⟩ := RdJ.memb HX17.out.1 HX17.out.2 hjm
          rw [List.getElem_map, hget] at hm5 d0 d1 d2
          obtain ⟨y, hy⟩ : ∃ y, y = v.m[j].2 := ⟨_, rfl⟩
          obtain ⟨nj, hnj⟩ : ∃ y, y = v.m[j].1 := ⟨_, rfl⟩
          rw [← hy] at hm5 d0 d1 d2 hf5 f1 f2 f3
          rw [← hnj] at f0
          have HTK : Hid (((L.take (j + 1)).map (·.1)) = ((L.take j).map (·.1)) ++ [nj]) := Lib.hid (by rw [List.take_succ_eq_append_getElem hlt, List.map_append, hget, hnj]; rfl)
          have HSS : Hid (∀ W, Below w17.heap.size w17 W → W.cell? ⟨bx, 4, none⟩ = some (.slice (some ⟨fb, fo, none⟩) v.m.length xd) ∧ W.cell? ⟨mb, mo + j * 5, none⟩ = some (.int .i64 y.kind) ∧ W.cell? ⟨mb, mo + j * 5 + 1, none⟩ = some (.int .i64 y.n) ∧ W.cell? ⟨mb, mo + j * 5 + 2, none⟩ = some (str y.s) ∧ W.cell? ⟨mb, mo + j * 5 + 3, none⟩ = some (.slice ma mn mc) ∧ W.cell? ⟨mb, mo + j * 5 + 4, none⟩ = some (.slice ma2 mn2 mc2) ∧ W.cell? ⟨fb, fo + j * 6 + 1, none⟩ = some (.int .i64 y.kind) ∧ W.cell? ⟨fb, fo + j * 6 + 2, none⟩ = some (.int .i64 y.n) ∧ W.cell? ⟨fb, fo + j * 6 + 3, none⟩ = some (str y.s) ∧ W.cell? ⟨fb, fo + j * 6 + 4, none⟩ = some (.slice fa fn fc) ∧ W.cell? ⟨fb, fo + j * 6 + 5, none⟩ = some (.slice fa2 fn2 fc2)) := Lib.hid (fun W hb => ⟨box_cell (box_up (H9.out.1.up H17.out.1).2.1 hb) 4, (hb.cell (p := ⟨mb, mo + j * 5, none⟩) hbw1).trans d0, (hb.cell (p := ⟨mb, mo + j * 5 + 1, none⟩) hbw1).trans d1, (hb.cell (p := ⟨mb, mo + j * 5 + 2, none⟩) hbw1).trans d2, (hb.cell (p := ⟨mb, mo + j * 5 + 3, none⟩) hbw1).trans d3, (hb.cell (p := ⟨mb, mo + j * 5 + 4, none⟩) hbw1).trans d4, (hb.cell (p := ⟨fb, fo + j * 6 + 1, none⟩) hbw2).trans f1, (hb.cell (p := ⟨fb, fo + j * 6 + 2, none⟩) hbw2).trans f2, (hb.cell (p := ⟨fb, fo + j * 6 + 3, none⟩) hbw2).trans f3, (hb.cell (p := ⟨fb, fo + j * 6 + 4, none⟩) hbw2).trans f4, (hb.cell (p := ⟨fb, fo + j * 6 + 5, none⟩) hbw2).trans f5⟩)
          have HF0 := Lib.hid (f0)
          have e0 := (HJK.out.1.cell (p := ⟨fb, fo + j * 6, none⟩) hbw2).trans f0
          have HY1 := Lib.hid hm5
          have HY2 := Lib.hid hf5
          clear hy hnj hget d0 d1 d2 d3 d4 f0 f1 f2 f3 f4 f5 hm5 hf5 hbw1 hbw2
          have n1 : (j : Int) < (v.m.length : Int) := by omega
          have n2 : (j : Int) < (L.length : Int) := by omega
          have n3 : ¬ (L.length : Int) ≤ (j : Int) := by omega
          have n4 : j < v.m.length := hjm
          have n7 : ¬ L.length ≤ j := by omega
          have n8 : decide (L.length ≤ j) = false := decide_eq_false n7
          have n9 : (j : Int) < 1000000000 := by have := HLN.out; omega
          go_wp2_with (at_builtin; refine hold ?_)
          intro _
          refine jw_append Tryz.underlying54 infoNmS rfl _ _ rfl w17.heap.size _ ((L.take j).map (·.1)) nj HJK.out.2.1 rfl rfl (by simp; have := HLN.out; omega) HJK.out.1.size ?_
          intro k9 w18 hrow hg
          have HB18 := Lib.hid (HJK.out.1.grown hg HJK.out.1.size (fun k e => (World.ownsRow.lt HJK.out.2.1 k e).1))
          have HK18 : Hid (JwK w17 L k9 (j + 1) w18) := Lib.hid ⟨HB18.out, by rw [HTK.out]; exact hrow, by obtain ⟨a9, c9, e9, _⟩ := RdV.of_row (l := (((L.take j).map (·.1)) ++ [nj]).map str) (by rw [List.length_map]; exact hrow); exact ⟨a9, c9, by rw [e9, List.length_map, List.length_append, List.length_map, List.length_take]; congr 1; simp; omega⟩⟩
          clear hrow hg q0 q4 e0
          go_upto_region 22 with fail
          obtain ⟨wc, hwc⟩ : ∃ x, x = w18.drew := ⟨_, rfl⟩
          have HB : Hid (Below w17.heap.size w17 wc) := Lib.hid (by rw [hwc]; exact HB18.out.trans ((Below.drewsN (Below.refl _ _) 1).mono HB18.out.size))
          have HD18 : Hid (Below w18.heap.size w18 wc) := Lib.hid (by rw [hwc]; exact Below.drewsN (Below.refl _ _) 1)
          refine wp_region_held_drew (S := (fun W => W.cell? ⟨bx, 4, none⟩ = some (.slice (some ⟨fb, fo, none⟩) v.m.length xd) ∧ W.cell? ⟨mb, mo + j * 5, none⟩ = some (.int .i64 y.kind) ∧ W.cell? ⟨mb, mo + j * 5 + 1, none⟩ = some (.int .i64 y.n) ∧ W.cell? ⟨mb, mo + j * 5 + 2, none⟩ = some (str y.s) ∧ W.cell? ⟨mb, mo + j * 5 + 3, none⟩ = some (.slice ma mn mc) ∧ W.cell? ⟨mb, mo + j * 5 + 4, none⟩ = some (.slice ma2 mn2 mc2) ∧ W.cell? ⟨fb, fo + j * 6 + 1, none⟩ = some (.int .i64 y.kind) ∧ W.cell? ⟨fb, fo + j * 6 + 2, none⟩ = some (.int .i64 y.n) ∧ W.cell? ⟨fb, fo + j * 6 + 3, none⟩ = some (str y.s) ∧ W.cell? ⟨fb, fo + j * 6 + 4, none⟩ = some (.slice fa fn fc) ∧ W.cell? ⟨fb, fo + j * 6 + 5, none⟩ = some (.slice fa2 fn2 fc2))) (by kernel_rfl) (by rw [← hwc]; exact HSS.out _ HB.out) (fun hHeld => ?_)
          rw [← hwc] at hHeld ⊢
          clear hwc
          refine wpAnyH_take (i := 0) (v := ?v10) rfl (by kernel_rfl) (by kernel_rfl) (by kernel_rfl) (fun _ _ _ h => h) (Or.inl ⟨by rfl, ?hy10⟩) (by assumption) ?_
          case hy10 => (intro w hSw; clear hSw; go_simp; try with_reducible rfl)
          go_simp
          refine wpAnyH_take (i := 1) (v := ?v11) rfl (by kernel_rfl) (by kernel_rfl) (by kernel_rfl) (fun _ _ _ h => h) (Or.inl ⟨by rfl, ?hy11⟩) (by assumption) ?_
          case hy11 => (intro w hSw; clear hSw; go_simp; try with_reducible rfl)
          go_simp
          refine wpAnyH_take (i := 2) (v := ?v12) rfl (by kernel_rfl) (by kernel_rfl) (by kernel_rfl) (fun _ _ _ h => h) (Or.inl ⟨by rfl, ?hy12⟩) (by assumption) ?_
          case hy12 => (intro w hSw; clear hSw; go_simp; try with_reducible rfl)
          go_simp
          refine wpAnyH_take (i := 3) (v := ?v13) rfl (by kernel_rfl) (by kernel_rfl) (by kernel_rfl) (fun _ _ _ h => h) (Or.inl ⟨by rfl, ?hy13⟩) (by assumption) ?_
          case hy13 => (intro w hSw; clear hSw; go_simp; try with_reducible rfl)
          go_simp
          refine wpAnyH_take (i := 4) (v := ?v14) rfl (by kernel_rfl) (by kernel_rfl) (by kernel_rfl) (fun _ _ _ h => h) (Or.inl ⟨by rfl, ?hy14⟩) (by assumption) ?_
          case hy14 => (intro w hSw; clear hSw; go_simp; try with_reducible rfl)
          go_simp
          refine wpAnyH_take (i := 5) (v := ?v15) rfl (by kernel_rfl) (by kernel_rfl) (by kernel_rfl) (fun _ _ _ h => h) (Or.inl ⟨by rfl, ?hy15⟩) (by assumption) ?_
          case hy15 => (intro w hSw; clear hSw; go_simp; try with_reducible rfl)
          go_simp
          refine wpAnyH_take (i := 6) (v := ?v16) rfl (by kernel_rfl) (by kernel_rfl) (by kernel_rfl) (fun _ _ _ h => h) (Or.inl ⟨by rfl, ?hy16⟩) (by assumption) ?_
          case hy16 => (intro w hSw; clear hSw; go_simp; try with_reducible rfl)
          go_simp
          refine wpAnyH_take (i := 7) (v := ?v17) rfl (by kernel_rfl) (by kernel_rfl) (by kernel_rfl) (fun _ _ _ h => h) (Or.inl ⟨by rfl, ?hy17⟩) (by assumption) ?_
          case hy17 => (intro w hSw; clear hSw; go_simp; try with_reducible rfl)
          go_simp
          refine wpAnyH_take (i := 8) (v := ?v18) rfl (by kernel_rfl) (by kernel_rfl) (by kernel_rfl) (fun _ _ _ h => h) (Or.inl ⟨by rfl, ?hy18⟩) (by assumption) ?_
          case hy18 => (intro w hSw; obtain ⟨a0, a1, a2, a3, a4, a5, a6, a7, a8, a9, a10⟩ := hSw; go_simp; try with_reducible rfl)
          go_simp
          refine wpAnyH_take (i := 9) (v := ?v19) rfl (by kernel_rfl) (by kernel_rfl) (by kernel_rfl) (fun _ _ _ h => h) (Or.inl ⟨by rfl, ?hy19⟩) (by assumption) ?_
          case hy19 => (intro w hSw; clear hSw; go_simp; try with_reducible rfl)
          go_simp
          refine wpAnyH_take (i := 10) (v := ?v20) rfl (by kernel_rfl) (by kernel_rfl) (by kernel_rfl) (fun _ _ _ h => h) (Or.inl ⟨by rfl, ?hy20⟩) (by assumption) ?_
          case hy20 => (intro w hSw; obtain ⟨a0, a1, a2, a3, a4, a5, a6, a7, a8, a9, a10⟩ := hSw; go_simp; try with_reducible rfl)
          go_simp
          refine wpAnyH_take (i := 11) (v := ?v21) rfl (by kernel_rfl) (by kernel_rfl) (by kernel_rfl) (fun _ _ _ h => h) (Or.inl ⟨by rfl, ?hy21⟩) (by assumption) ?_
          case hy21 => (intro w hSw; clear hSw; go_simp; try with_reducible rfl)
          go_simp
          refine wpAnyH_take (i := 12) (v := ?v22) rfl (by kernel_rfl) (by kernel_rfl) (by kernel_rfl) (fun _ _ _ h => h) (Or.inl ⟨by rfl, ?hy22⟩) (by assumption) ?_
          case hy22 => (intro w hSw; clear hSw; go_simp; try with_reducible rfl)
          go_simp
          refine wpAnyH_take (i := 13) (v := ?v23) rfl (by kernel_rfl) (by kernel_rfl) (by kernel_rfl) (fun _ _ _ h => h) (Or.inl ⟨by rfl, ?hy23⟩) (by assumption) ?_
          case hy23 => (intro w hSw; clear hSw; go_simp; try with_reducible rfl)
          go_simp
          refine wpAnyH_take (i := 14) (v := ?v24) rfl (by kernel_rfl) (by kernel_rfl) (by kernel_rfl) (fun _ _ _ h => h) (Or.inl ⟨by rfl, ?hy24⟩) (by assumption) ?_
          case hy24 => (intro w hSw; obtain ⟨a0, a1, a2, a3, a4, a5, a6, a7, a8, a9, a10⟩ := hSw; go_simp; try with_reducible rfl)
          go_simp
          refine wpAnyH_ready (rs := [15]) (by kernel_rfl) (by simp) (AllReadyH.cons rfl (fun K hK => ?_) AllReadyH.nil)
          go_simp
          have CSM := rsame_any y y _ _ _ _ _ (HY1.out.up HB.out) (HY2.out.up HB.out)
          rw [samV_self] at CSM
          refine CSM.mono ?_
          clear CSM
          rintro e wq ⟨rfl, hb⟩
          have HB := Lib.hid (HB.out.trans (hb.mono HB.out.size))
          have HD18 := Lib.hid (HD18.out.trans (hb.mono HD18.out.size))
          clear hb
          rename World => wc
          go_simp
          refine hK.out _ _ (HSS.out _ HB.out) (fun hHeld => ?_)
          clear hK K
          refine wpAnyH_take (i := 16) (v := ?v25) rfl (by kernel_rfl) (by kernel_rfl) (by kernel_rfl) (fun _ _ _ h => h) (Or.inl ⟨by rfl, ?hy25⟩) (by assumption) ?_
          case hy25 => (intro w hSw; clear hSw; go_simp; try with_reducible rfl)
          go_simp
          refine wpAnyH_take (i := 17) (v := ?v26) rfl (by kernel_rfl) (by kernel_rfl) (by kernel_rfl) (fun _ _ _ h => h) (Or.inl ⟨by rfl, ?hy26⟩) (by assumption) ?_
          case hy26 => (intro w hSw; clear hSw; go_simp; try with_reducible rfl)
          go_simp
          refine wpAnyH_done (by kernel_rfl) ?_ _
          have HK19 : Hid (JwK w17 L k9 (j + 1) wc) := Lib.hid ⟨HB.out, owns_frm HK18.out.2.1 (Frm.of_below (F := fun _ => False) HD18.out) (fun _ _ e => e), HK18.out.2.2⟩
          go_wp2_with fail
          go_roundw
          case rel => exact ⟨j + 1, by omega, by go_num, HK19⟩
          case measure => simp [intOf]; omega
        rw [decide_eq_false hlt] at hv119
        subst hv119
        obtain rfl : j = L.length := by omega
        have HBZ : Hid (Below w9.heap.size w9 wr) := Lib.hid (H17.out.1.trans (HJK.out.1.mono H17.out.1.size))
        have HZ := Lib.hid (And.intro HXJ.out (And.intro (H9.out.2.1.below HBZ.out (Nat.le_refl _)) (And.intro (H9.out.2.2.1.below HBZ.out (Nat.le_refl _)) (And.intro (H9.out.2.2.2.1.up HBZ.out) (And.intro (box_up H9.out.2.2.2.2.1 HBZ.out) (And.intro (H9.out.2.2.2.2.2.1.up HBZ.out) (box_up H9.out.2.2.2.2.2.2 HBZ.out)))))))
        have HRZ : Hid (RdV wr (.slice an2 L.length cn2) ((L.map (·.1)).map str)) := Lib.hid (by have h := HRA.out.below HJK.out.1 (Nat.le_refl _); rw [List.map_map]; exact h)
        have HKZ := Lib.hid HJK.out.rd
        have HZ0 : Hid (szV x0 ≤ 1000000000) := Lib.hid (by rw [HP.out.2.2.1]; cases hg : getJ v nm with | none => simp [szV, szL, szM] | some x => exact Nat.le_trans (getJ_szV hg) HZv.out)
        clear q0 q4 hlt hj HXJ
        go_upto_region 24 with fail
        obtain ⟨wc, hwc⟩ : ∃ x, x = wr.drew := ⟨_, rfl⟩
        have HB : Hid (Below wr.heap.size wr wc) := Lib.hid (by rw [hwc]; exact Below.drewsN (Below.refl _ _) 1)
        refine wp_region_held_drew (S := (fun W => W.heap[w.heap.size]? = some (.cells #[.int .i64 kv, .int .i64 nv, str sv, .slice al ll cl, .slice am lm cm] 28 (0, 0)) ∧ W.heap[w.heap.size + 1]? = some (.cells #[.int .i64 ku, .int .i64 nu, str su, .slice bl ml dl, .slice bm mm dm] 28 (0, 0)) ∧ W.heap[bx]? = some (.cells #[.int .i64 kv, .int .i64 nv, str sv, .slice xa xl xc, .slice xb v.m.length xd] 35 (0, 0)) ∧ W.heap[bz]? = some (.cells #[.int .i64 ku, .int .i64 nu, str su, .slice ya yl yc, .slice yb ym yd] 35 (0, 0)) ∧ W.heap[bp]? = some (.cells #[.int .i64 kp, .int .i64 np, str sp, .slice pa pl pc_, .slice pb_ pm pd] 28 (0, 0)) ∧ W.heap[bq]? = some (.cells #[.int .i64 kq, .int .i64 nq, str sq, .slice qa ql qc, .slice qb qm qd] 35 (0, 0)))) (by kernel_rfl) (by rw [← hwc]; exact ⟨box_up HZ.out.1.1.2.1 HB.out, box_up HZ.out.1.1.2.2 HB.out, box_up HZ.out.1.2.1 HB.out, box_up HZ.out.1.2.2.1 HB.out, box_up HZ.out.2.2.2.2.1 HB.out, box_up HZ.out.2.2.2.2.2.2 HB.out⟩) (fun hHeld => ?_)
        rw [← hwc] at hHeld ⊢
        clear hwc
        refine wpAnyH_ready (rs := [0]) (by kernel_rfl) (by simp) (AllReadyH.cons rfl (fun K hK => ?_) AllReadyH.nil)
        go_simp
        have CSM := jfirst_any wc (HT.out.up (HZ.out.1.1.1.trans (HB.out.mono HZ.out.1.1.1.size)) (Nat.le_trans HZ.out.1.1.1.size HB.out.size))
        refine CSM.mono ?_
        clear CSM
        rintro e wq ⟨rfl, hb⟩
        have HB := Lib.hid (HB.out.trans (hb.mono HB.out.size))
        clear hb
        rename World => wc
        go_simp
        refine hK.out _ _ (⟨box_up HZ.out.1.1.2.1 HB.out, box_up HZ.out.1.1.2.2 HB.out, box_up HZ.out.1.2.1 HB.out, box_up HZ.out.1.2.2.1 HB.out, box_up HZ.out.2.2.2.2.1 HB.out, box_up HZ.out.2.2.2.2.2.2 HB.out⟩) (fun hHeld => ?_)
        clear hK K
        refine wpAnyH_take (i := 1) (v := ?v27) rfl (by kernel_rfl) (by kernel_rfl) (by kernel_rfl) (fun _ _ _ h => h) (Or.inl ⟨by rfl, ?hy27⟩) (by assumption) ?_
        case hy27 => (intro w hSw; clear hSw; go_simp; try with_reducible rfl)
        go_simp
        refine wpAnyH_take (i := 2) (v := ?v28) rfl (by kernel_rfl) (by kernel_rfl) (by kernel_rfl) (fun _ _ _ h => h) (Or.inl ⟨by rfl, ?hy28⟩) (by assumption) ?_
        case hy28 => (intro w hSw; have a0 := box_cell hSw.1 0; have a1 := box_cell hSw.1 1; have a2 := box_cell hSw.1 2; have a3 := box_cell hSw.1 3; have a4 := box_cell hSw.1 4; go_simp; try with_reducible rfl)
        go_simp
        refine wpAnyH_take (i := 4) (v := ?v29) rfl (by kernel_rfl) (by kernel_rfl) (by kernel_rfl) (fun _ _ _ h => h) (Or.inl ⟨by rfl, ?hy29⟩) (by assumption) ?_
        case hy29 => (intro w hSw; have c0 := box_cell hSw.2.2.1 0; have c1 := box_cell hSw.2.2.1 1; have c2 := box_cell hSw.2.2.1 2; have c3 := box_cell hSw.2.2.1 3; have c4 := box_cell hSw.2.2.1 4; go_simp; try with_reducible rfl)
        go_simp
        refine wpAnyH_ready (rs := [3]) (by kernel_rfl) (by simp) (AllReadyH.cons rfl (fun K hK => ?_) AllReadyH.nil)
        go_simp
        have CSM := jmay_any (HV.out.up (HZ.out.1.1.1.trans (HB.out.mono HZ.out.1.1.1.size)))
        refine CSM.mono ?_
        clear CSM
        rintro e wq ⟨rfl, hb⟩
        have HB := Lib.hid (HB.out.trans (hb.mono HB.out.size))
        clear hb
        rename World => wc
        go_simp
        refine hK.out _ _ (⟨box_up HZ.out.1.1.2.1 HB.out, box_up HZ.out.1.1.2.2 HB.out, box_up HZ.out.1.2.1 HB.out, box_up HZ.out.1.2.2.1 HB.out, box_up HZ.out.2.2.2.2.1 HB.out, box_up HZ.out.2.2.2.2.2.2 HB.out⟩) (fun hHeld => ?_)
        clear hK K
        refine wpAnyH_ready (rs := [5]) (by kernel_rfl) (by simp) (AllReadyH.cons rfl (fun K hK => ?_) AllReadyH.nil)
        go_simp
        have CSM := rMay_any v (stV_sz v (by have := few_sz hf1.out; omega)) _ wc _ (HZ.out.1.2.2.2.1.up HB.out)
        refine CSM.mono ?_
        clear CSM
        rintro e wq ⟨rfl, hb⟩
        have HB := Lib.hid (HB.out.trans (hb.mono HB.out.size))
        clear hb
        rename World => wc
        go_simp
        refine hK.out _ _ (⟨box_up HZ.out.1.1.2.1 HB.out, box_up HZ.out.1.1.2.2 HB.out, box_up HZ.out.1.2.1 HB.out, box_up HZ.out.1.2.2.1 HB.out, box_up HZ.out.2.2.2.2.1 HB.out, box_up HZ.out.2.2.2.2.2.2 HB.out⟩) (fun hHeld => ?_)
        clear hK K
        refine wpAnyH_take (i := 6) (v := ?v30) rfl (by kernel_rfl) (by kernel_rfl) (by kernel_rfl) (fun _ _ _ h => h) (Or.inl ⟨by rfl, ?hy30⟩) (by assumption) ?_
        case hy30 => (intro w hSw; clear hSw; go_simp; try with_reducible rfl)
        go_simp
        refine wpAnyH_take (i := 7) (v := ?v31) rfl (by kernel_rfl) (by kernel_rfl) (by kernel_rfl) (fun _ _ _ h => h) (Or.inl ⟨by rfl, ?hy31⟩) (by assumption) ?_
        case hy31 => (intro w hSw; clear hSw; go_simp; try with_reducible rfl)
        go_simp
        refine wpAnyH_take (i := 8) (v := ?v32) rfl (by kernel_rfl) (by kernel_rfl) (by kernel_rfl) (fun _ _ _ h => h) (Or.inl ⟨by rfl, ?hy32⟩) (by assumption) ?_
        case hy32 => (intro w hSw; clear hSw; go_simp; try with_reducible rfl)
        go_simp
        refine wpAnyH_take (i := 9) (v := ?v33) rfl (by kernel_rfl) (by kernel_rfl) (by kernel_rfl) (fun _ _ _ h => h) (Or.inl ⟨by rfl, ?hy33⟩) (by assumption) ?_
        case hy33 => (intro w hSw; clear hSw; go_simp; try with_reducible rfl)
        go_simp
        refine wpAnyH_take (i := 10) (v := ?v34) rfl (by kernel_rfl) (by kernel_rfl) (by kernel_rfl) (fun _ _ _ h => h) (Or.inl ⟨by rfl, ?hy34⟩) (by assumption) ?_
        case hy34 => (intro w hSw; clear hSw; go_simp; try with_reducible rfl)
        go_simp
        refine wpAnyH_ready (rs := [11]) (by kernel_rfl) (by simp) (AllReadyH.cons rfl (fun K hK => ?_) AllReadyH.nil)
        go_simp
        have CBY := jwbytes_any _ _ _ _ wc (HZ.out.2.1.below HB.out (Nat.le_refl _)) (HZ.out.2.2.1.below HB.out (Nat.le_refl _))
        rw [beq_self_eq_true] at CBY
        refine CBY.mono ?_
        clear CBY
        rintro e wq ⟨rfl, rfl⟩
        rename World => wc
        go_simp
        refine hK.out _ _ (⟨box_up HZ.out.1.1.2.1 HB.out, box_up HZ.out.1.1.2.2 HB.out, box_up HZ.out.1.2.1 HB.out, box_up HZ.out.1.2.2.1 HB.out, box_up HZ.out.2.2.2.2.1 HB.out, box_up HZ.out.2.2.2.2.2.2 HB.out⟩) (fun hHeld => ?_)
        clear hK K
        refine wpAnyH_take (i := 12) (v := ?v35) rfl (by kernel_rfl) (by kernel_rfl) (by kernel_rfl) (fun _ _ _ h => h) (Or.inl ⟨by rfl, ?hy35⟩) (by assumption) ?_
        case hy35 => (intro w hSw; clear hSw; go_simp; try with_reducible rfl)
        go_simp
        refine wpAnyH_take (i := 13) (v := ?v36) rfl (by kernel_rfl) (by kernel_rfl) (by kernel_rfl) (fun _ _ _ h => h) (Or.inl ⟨by rfl, ?hy36⟩) (by assumption) ?_
        case hy36 => (intro w hSw; clear hSw; go_simp; try with_reducible rfl)
        go_simp
        refine wpAnyH_take (i := 14) (v := ?v37) rfl (by kernel_rfl) (by kernel_rfl) (by kernel_rfl) (fun _ _ _ h => h) (Or.inl ⟨by rfl, ?hy37⟩) (by assumption) ?_
        case hy37 => (intro w hSw; clear hSw; go_simp; try with_reducible rfl)
        go_simp
        refine wpAnyH_take (i := 15) (v := ?v38) rfl (by kernel_rfl) (by kernel_rfl) (by kernel_rfl) (fun _ _ _ h => h) (Or.inl ⟨by rfl, ?hy38⟩) (by assumption) ?_
        case hy38 => (intro w hSw; clear hSw; go_simp; try with_reducible rfl)
        go_simp
        refine wpAnyH_take (i := 16) (v := ?v39) rfl (by kernel_rfl) (by kernel_rfl) (by kernel_rfl) (fun _ _ _ h => h) (Or.inl ⟨by rfl, ?hy39⟩) (by assumption) ?_
        case hy39 => (intro w hSw; clear hSw; go_simp; try with_reducible rfl)
        go_simp
        refine wpAnyH_take (i := 17) (v := ?v40) rfl (by kernel_rfl) (by kernel_rfl) (by kernel_rfl) (fun _ _ _ h => h) (Or.inl ⟨by rfl, ?hy40⟩) (by assumption) ?_
        case hy40 => (intro w hSw; clear hSw; go_simp; try with_reducible rfl)
        go_simp
        refine wpAnyH_take (i := 18) (v := ?v41) rfl (by kernel_rfl) (by kernel_rfl) (by kernel_rfl) (fun _ _ _ h => h) (Or.inl ⟨by rfl, ?hy41⟩) (by assumption) ?_
        case hy41 => (intro w hSw; clear hSw; go_simp; try with_reducible rfl)
        go_simp
        refine wpAnyH_take (i := 19) (v := ?v42) rfl (by kernel_rfl) (by kernel_rfl) (by kernel_rfl) (fun _ _ _ h => h) (Or.inl ⟨by rfl, ?hy42⟩) (by assumption) ?_
        case hy42 => (intro w hSw; have e0 := box_cell hSw.2.2.2.2.1 0; have e1 := box_cell hSw.2.2.2.2.1 1; have e2 := box_cell hSw.2.2.2.2.1 2; have e3 := box_cell hSw.2.2.2.2.1 3; have e4 := box_cell hSw.2.2.2.2.1 4; go_simp; try with_reducible rfl)
        go_simp
        refine wpAnyH_take (i := 21) (v := ?v43) rfl (by kernel_rfl) (by kernel_rfl) (by kernel_rfl) (fun _ _ _ h => h) (Or.inl ⟨by rfl, ?hy43⟩) (by assumption) ?_
        case hy43 => (intro w hSw; have f0 := box_cell hSw.2.2.2.2.2 0; have f1 := box_cell hSw.2.2.2.2.2 1; have f2 := box_cell hSw.2.2.2.2.2 2; have f3 := box_cell hSw.2.2.2.2.2 3; have f4 := box_cell hSw.2.2.2.2.2 4; go_simp; try with_reducible rfl)
        go_simp
        refine wpAnyH_ready (rs := [20]) (by kernel_rfl) (by simp) (AllReadyH.cons rfl (fun K hK => ?_) AllReadyH.nil)
        go_simp
        refine (plain_any x0 HZ0.out _ _ _ (HZ.out.2.2.2.1.up HB.out)).mono ?_
        rintro e wq ⟨cp, rfl, hvp, hb⟩
        have HB := Lib.hid (HB.out.trans (hb.mono HB.out.size))
        have HVP := Lib.hid hvp
        clear hb hvp
        rename World => wc
        go_simp
        refine hK.out _ _ (⟨box_up HZ.out.1.1.2.1 HB.out, box_up HZ.out.1.1.2.2 HB.out, box_up HZ.out.1.2.1 HB.out, box_up HZ.out.1.2.2.1 HB.out, box_up HZ.out.2.2.2.2.1 HB.out, box_up HZ.out.2.2.2.2.2.2 HB.out⟩) (fun hHeld => ?_)
        clear hK K
        refine wpAnyH_ready (rs := [22]) (by kernel_rfl) (by simp) (AllReadyH.cons rfl (fun K hK => ?_) AllReadyH.nil)
        go_simp
        have CSM := rsame_any x0 x0 _ _ _ _ _ HVP.out (HZ.out.2.2.2.2.2.1.up HB.out)
        rw [samV_self] at CSM
        refine CSM.mono ?_
        clear CSM
        rintro e wq ⟨rfl, hb⟩
        have HB := Lib.hid (HB.out.trans (hb.mono HB.out.size))
        clear hb
        rename World => wc
        go_simp
        clear HVP
        refine hK.out _ _ (⟨box_up HZ.out.1.1.2.1 HB.out, box_up HZ.out.1.1.2.2 HB.out, box_up HZ.out.1.2.1 HB.out, box_up HZ.out.1.2.2.1 HB.out, box_up HZ.out.2.2.2.2.1 HB.out, box_up HZ.out.2.2.2.2.2.2 HB.out⟩) (fun hHeld => ?_)
        clear hK K
        refine wpAnyH_take (i := 23) (v := ?v44) rfl (by kernel_rfl) (by kernel_rfl) (by kernel_rfl) (fun _ _ _ h => h) (Or.inl ⟨by rfl, ?hy44⟩) (by assumption) ?_
        case hy44 => (intro w hSw; clear hSw; go_simp; try with_reducible rfl)
        go_simp
        refine wpAnyH_take (i := 24) (v := ?v45) rfl (by kernel_rfl) (by kernel_rfl) (by kernel_rfl) (fun _ _ _ h => h) (Or.inl ⟨by rfl, ?hy45⟩) (by assumption) ?_
        case hy45 => (intro w hSw; clear hSw; go_simp; try with_reducible rfl)
        go_simp
        refine wpAnyH_take (i := 25) (v := ?v46) rfl (by kernel_rfl) (by kernel_rfl) (by kernel_rfl) (fun _ _ _ h => h) (Or.inl ⟨by rfl, ?hy46⟩) (by assumption) ?_
        case hy46 => (intro w hSw; clear hSw; go_simp; try with_reducible rfl)
        go_simp
        refine wpAnyH_take (i := 26) (v := ?v47) rfl (by kernel_rfl) (by kernel_rfl) (by kernel_rfl) (fun _ _ _ h => h) (Or.inl ⟨by rfl, ?hy47⟩) (by assumption) ?_
        case hy47 => (intro w hSw; clear hSw; go_simp; try with_reducible rfl)
        go_simp
        refine wpAnyH_take (i := 27) (v := ?v48) rfl (by kernel_rfl) (by kernel_rfl) (by kernel_rfl) (fun _ _ _ h => h) (Or.inl ⟨by rfl, ?hy48⟩) (by assumption) ?_
        case hy48 => (intro w hSw; clear hSw; go_simp; try with_reducible rfl)
        go_simp
        refine wpAnyH_take (i := 28) (v := ?v49) rfl (by kernel_rfl) (by kernel_rfl) (by kernel_rfl) (fun _ _ _ h => h) (Or.inl ⟨by rfl, ?hy49⟩) (by assumption) ?_
        case hy49 => (intro w hSw; clear hSw; go_simp; try with_reducible rfl)
        go_simp
        refine wpAnyH_take (i := 29) (v := ?v50) rfl (by kernel_rfl) (by kernel_rfl) (by kernel_rfl) (fun _ _ _ h => h) (Or.inl ⟨by rfl, ?hy50⟩) (by assumption) ?_
        case hy50 => (intro w hSw; clear hSw; go_simp; try with_reducible rfl)
        go_simp
        refine wpAnyH_take (i := 30) (v := ?v51) rfl (by kernel_rfl) (by kernel_rfl) (by kernel_rfl) (fun _ _ _ h => h) (Or.inl ⟨by rfl, ?hy51⟩) (by assumption) ?_
        case hy51 => (intro w hSw; have a0 := box_cell hSw.1 0; have a1 := box_cell hSw.1 1; have a2 := box_cell hSw.1 2; have a3 := box_cell hSw.1 3; have a4 := box_cell hSw.1 4; go_simp; try with_reducible rfl)
        go_simp
        refine wpAnyH_take (i := 31) (v := ?v52) rfl (by kernel_rfl) (by kernel_rfl) (by kernel_rfl) (fun _ _ _ h => h) (Or.inl ⟨by rfl, ?hy52⟩) (by assumption) ?_
        case hy52 => (intro w hSw; have b0 := box_cell hSw.2.1 0; have b1 := box_cell hSw.2.1 1; have b2 := box_cell hSw.2.1 2; have b3 := box_cell hSw.2.1 3; have b4 := box_cell hSw.2.1 4; go_simp; try with_reducible rfl)
        go_simp
        refine wpAnyH_take (i := 33) (v := ?v53) rfl (by kernel_rfl) (by kernel_rfl) (by kernel_rfl) (fun _ _ _ h => h) (Or.inl ⟨by rfl, ?hy53⟩) (by assumption) ?_
        case hy53 => (intro w hSw; have c0 := box_cell hSw.2.2.1 0; have c1 := box_cell hSw.2.2.1 1; have c2 := box_cell hSw.2.2.1 2; have c3 := box_cell hSw.2.2.1 3; have c4 := box_cell hSw.2.2.1 4; go_simp; try with_reducible rfl)
        go_simp
        refine wpAnyH_take (i := 34) (v := ?v54) rfl (by kernel_rfl) (by kernel_rfl) (by kernel_rfl) (fun _ _ _ h => h) (Or.inl ⟨by rfl, ?hy54⟩) (by assumption) ?_
        case hy54 => (intro w hSw; have d0 := box_cell hSw.2.2.2.1 0; have d1 := box_cell hSw.2.2.2.1 1; have d2 := box_cell hSw.2.2.2.1 2; have d3 := box_cell hSw.2.2.2.1 3; have d4 := box_cell hSw.2.2.2.1 4; go_simp; try with_reducible rfl)
        go_simp
        refine wpAnyH_ready (rs := [32]) (by kernel_rfl) (by simp) (AllReadyH.cons rfl (fun K hK => ?_) AllReadyH.nil)
        go_simp
        have CSM := same_any v u _ _ _ _ _ (HV.out.up (HZ.out.1.1.1.trans (HB.out.mono HZ.out.1.1.1.size))) (HU.out.up (HZ.out.1.1.1.trans (HB.out.mono HZ.out.1.1.1.size)))
        refine CSM.mono ?_
        clear CSM
        rintro e wq ⟨rfl, hb⟩
        have HB := Lib.hid (HB.out.trans (hb.mono HB.out.size))
        clear hb
        rename World => wc
        go_simp
        refine hK.out _ _ (⟨box_up HZ.out.1.1.2.1 HB.out, box_up HZ.out.1.1.2.2 HB.out, box_up HZ.out.1.2.1 HB.out, box_up HZ.out.1.2.2.1 HB.out, box_up HZ.out.2.2.2.2.1 HB.out, box_up HZ.out.2.2.2.2.2.2 HB.out⟩) (fun hHeld => ?_)
        clear hK K
        refine wpAnyH_ready (rs := [35]) (by kernel_rfl) (by simp) (AllReadyH.cons rfl (fun K hK => ?_) AllReadyH.nil)
        go_simp
        have CSM := rsame_any v u _ _ _ _ _ (HZ.out.1.2.2.2.1.up HB.out) (HZ.out.1.2.2.2.2.up HB.out)
        refine CSM.mono ?_
        clear CSM
        rintro e wq ⟨rfl, hb⟩
        have HB := Lib.hid (HB.out.trans (hb.mono HB.out.size))
        clear hb
        rename World => wc
        go_simp
        refine hK.out _ _ (⟨box_up HZ.out.1.1.2.1 HB.out, box_up HZ.out.1.1.2.2 HB.out, box_up HZ.out.1.2.1 HB.out, box_up HZ.out.1.2.2.1 HB.out, box_up HZ.out.2.2.2.2.1 HB.out, box_up HZ.out.2.2.2.2.2.2 HB.out⟩) (fun hHeld => ?_)
        clear hK K
        refine wpAnyH_take (i := 36) (v := ?v55) rfl (by kernel_rfl) (by kernel_rfl) (by kernel_rfl) (fun _ _ _ h => h) (Or.inl ⟨by rfl, ?hy55⟩) (by assumption) ?_
        case hy55 => (intro w hSw; clear hSw; go_simp; try with_reducible rfl)
        go_simp
        refine wpAnyH_take (i := 37) (v := ?v56) rfl (by kernel_rfl) (by kernel_rfl) (by kernel_rfl) (fun _ _ _ h => h) (Or.inl ⟨by rfl, ?hy56⟩) (by assumption) ?_
        case hy56 => (intro w hSw; clear hSw; go_simp; try with_reducible rfl)
        go_simp
        refine wpAnyH_take (i := 38) (v := ?v57) rfl (by kernel_rfl) (by kernel_rfl) (by kernel_rfl) (fun _ _ _ h => h) (Or.inl ⟨by rfl, ?hy57⟩) (by assumption) ?_
        case hy57 => (intro w hSw; clear hSw; go_simp; try with_reducible rfl)
        go_simp
        refine wpAnyH_take (i := 39) (v := ?v58) rfl (by kernel_rfl) (by kernel_rfl) (by kernel_rfl) (fun _ _ _ h => h) (Or.inl ⟨by rfl, ?hy58⟩) (by assumption) ?_
        case hy58 => (intro w hSw; clear hSw; go_simp; try with_reducible rfl)
        go_simp
        refine wpAnyH_take (i := 40) (v := ?v59) rfl (by kernel_rfl) (by kernel_rfl) (by kernel_rfl) (fun _ _ _ h => h) (Or.inl ⟨by rfl, ?hy59⟩) (by assumption) ?_
        case hy59 => (intro w hSw; clear hSw; go_simp; try with_reducible rfl)
        go_simp
        refine wpAnyH_take (i := 41) (v := ?v60) rfl (by kernel_rfl) (by kernel_rfl) (by kernel_rfl) (fun _ _ _ h => h) (Or.inl ⟨by rfl, ?hy60⟩) (by assumption) ?_
        case hy60 => (intro w hSw; clear hSw; go_simp; try with_reducible rfl)
        go_simp
        refine wpAnyH_take (i := 42) (v := ?v61) rfl (by kernel_rfl) (by kernel_rfl) (by kernel_rfl) (fun _ _ _ h => h) (Or.inl ⟨by rfl, ?hy61⟩) (by assumption) ?_
        case hy61 => (intro w hSw; have a0 := box_cell hSw.1 0; have a1 := box_cell hSw.1 1; have a2 := box_cell hSw.1 2; have a3 := box_cell hSw.1 3; have a4 := box_cell hSw.1 4; go_simp; try with_reducible rfl)
        go_simp
        refine wpAnyH_take (i := 44) (v := ?v62) rfl (by kernel_rfl) (by kernel_rfl) (by kernel_rfl) (fun _ _ _ h => h) (Or.inl ⟨by rfl, ?hy62⟩) (by assumption) ?_
        case hy62 => (intro w hSw; have c0 := box_cell hSw.2.2.1 0; have c1 := box_cell hSw.2.2.1 1; have c2 := box_cell hSw.2.2.1 2; have c3 := box_cell hSw.2.2.1 3; have c4 := box_cell hSw.2.2.1 4; go_simp; try with_reducible rfl)
        go_simp
        refine wpAnyH_ready (rs := [43]) (by kernel_rfl) (by simp) (AllReadyH.cons rfl (fun K hK => ?_) AllReadyH.nil)
        go_simp
        refine (plain_any v HZv.out _ _ _ (HV.out.up (HZ.out.1.1.1.trans (HB.out.mono HZ.out.1.1.1.size)))).mono ?_
        rintro e wq ⟨cp, rfl, hvp, hb⟩
        have HB := Lib.hid (HB.out.trans (hb.mono HB.out.size))
        have HVP := Lib.hid hvp
        clear hb hvp
        rename World => wc
        go_simp
        refine hK.out _ _ (⟨box_up HZ.out.1.1.2.1 HB.out, box_up HZ.out.1.1.2.2 HB.out, box_up HZ.out.1.2.1 HB.out, box_up HZ.out.1.2.2.1 HB.out, box_up HZ.out.2.2.2.2.1 HB.out, box_up HZ.out.2.2.2.2.2.2 HB.out⟩) (fun hHeld => ?_)
        clear hK K
        refine wpAnyH_ready (rs := [45]) (by kernel_rfl) (by simp) (AllReadyH.cons rfl (fun K hK => ?_) AllReadyH.nil)
        go_simp
        have CSM := rsame_any v v _ _ _ _ _ HVP.out (HZ.out.1.2.2.2.1.up HB.out)
        rw [samV_self] at CSM
        refine CSM.mono ?_
        clear CSM
        rintro e wq ⟨rfl, hb⟩
        have HB := Lib.hid (HB.out.trans (hb.mono HB.out.size))
        clear hb
        rename World => wc
        go_simp
        clear HVP
        refine hK.out _ _ (⟨box_up HZ.out.1.1.2.1 HB.out, box_up HZ.out.1.1.2.2 HB.out, box_up HZ.out.1.2.1 HB.out, box_up HZ.out.1.2.2.1 HB.out, box_up HZ.out.2.2.2.2.1 HB.out, box_up HZ.out.2.2.2.2.2.2 HB.out⟩) (fun hHeld => ?_)
        clear hK K
        refine wpAnyH_take (i := 46) (v := ?v63) rfl (by kernel_rfl) (by kernel_rfl) (by kernel_rfl) (fun _ _ _ h => h) (Or.inl ⟨by rfl, ?hy63⟩) (by assumption) ?_
        case hy63 => (intro w hSw; clear hSw; go_simp; try with_reducible rfl)
        go_simp
        refine wpAnyH_take (i := 47) (v := ?v64) rfl (by kernel_rfl) (by kernel_rfl) (by kernel_rfl) (fun _ _ _ h => h) (Or.inl ⟨by rfl, ?hy64⟩) (by assumption) ?_
        case hy64 => (intro w hSw; clear hSw; go_simp; try with_reducible rfl)
        go_simp
        refine wpAnyH_take (i := 48) (v := ?v65) rfl (by kernel_rfl) (by kernel_rfl) (by kernel_rfl) (fun _ _ _ h => h) (Or.inl ⟨by rfl, ?hy65⟩) (by assumption) ?_
        case hy65 => (intro w hSw; clear hSw; go_simp; try with_reducible rfl)
        go_simp
        refine wpAnyH_take (i := 49) (v := ?v66) rfl (by kernel_rfl) (by kernel_rfl) (by kernel_rfl) (fun _ _ _ h => h) (Or.inl ⟨by rfl, ?hy66⟩) (by assumption) ?_
        case hy66 => (intro w hSw; clear hSw; go_simp; try with_reducible rfl)
        go_simp
        refine wpAnyH_ready (rs := [50]) (by kernel_rfl) (by simp) (AllReadyH.cons rfl (fun K hK => ?_) AllReadyH.nil)
        go_simp
        refine (sameS_any _ _ (L.map (·.1)) (L.map (·.1)) wc (HRZ.out.below HB.out (Nat.le_refl _)) (HKZ.out.below HB.out (Nat.le_refl _))).mono ?_
        rw [decide_eq_true rfl]
        rintro e wq ⟨rfl, nq, rfl⟩
        have HB := Lib.hid (HB.out.trans ((Below.drewsN (Below.refl _ _) nq).mono HB.out.size))
        generalize wc.drewN nq = wd at HB ⊢
        rename World => wc
        go_simp
        refine hK.out _ _ (⟨box_up HZ.out.1.1.2.1 HB.out, box_up HZ.out.1.1.2.2 HB.out, box_up HZ.out.1.2.1 HB.out, box_up HZ.out.1.2.2.1 HB.out, box_up HZ.out.2.2.2.2.1 HB.out, box_up HZ.out.2.2.2.2.2.2 HB.out⟩) (fun hHeld => ?_)
        clear hK K
        refine wpAnyH_take (i := 51) (v := ?v67) rfl (by kernel_rfl) (by kernel_rfl) (by kernel_rfl) (fun _ _ _ h => h) (Or.inl ⟨by rfl, ?hy67⟩) (by assumption) ?_
        case hy67 => (intro w hSw; clear hSw; go_simp; try with_reducible rfl)
        go_simp
        refine wpAnyH_take (i := 52) (v := ?v68) rfl (by kernel_rfl) (by kernel_rfl) (by kernel_rfl) (fun _ _ _ h => h) (Or.inl ⟨by rfl, ?hy68⟩) (by assumption) ?_
        case hy68 => (intro w hSw; clear hSw; go_simp; try with_reducible rfl)
        go_simp
        refine wpAnyH_done (by kernel_rfl) ?_ _
        have HX := Lib.hid (HZ.out.1.1.1.trans (HB.out.mono HZ.out.1.1.1.size))
        go_wp2_with fail
        go_ret
        exact ⟨rfl, HX.out⟩
end Go.Proofs.YtidlhajibjnkeaaGreatDoor
