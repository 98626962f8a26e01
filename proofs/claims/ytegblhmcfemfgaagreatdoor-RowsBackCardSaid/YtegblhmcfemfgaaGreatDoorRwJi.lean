/- Joined: RwBack, Open, OpenM, OpenRw, RwBackW. -/
import Derived.Test.YtegblhmcfemfgaaGreatDoorRwJg
import Derived.Test.YtegblhmcfemfgaaGreatDoorRwJm
import Derived.Test.YtegblhmcfemfgaaGreatDoorBx
import Derived.Deep.CutRange
import Derived.Test.YtegblhmcfemfgaaGreatDoorKit
import Derived.ProofKit
import Derived.OpenShut
import Derived.ShutString
import Derived.ChangeOld
import Derived.Lib.SmallJoins
namespace Go.Proofs.YtegblhmcfemfgaaGreatDoor
open Go.RowKit

/-- What lies on through RowsBack. -/
structure BkS (w W : World) (ft : List UInt8) (fn en : Int) (eg et el : List UInt8) (ew s1 s2 : Int) (vl : Value) (ml : List MarkT) : Prop where
  hb : Below w.heap.size w W
  b5 : W.heap[w.heap.size]? = some (.cells #[str ft, .int .i64 fn] 23 (0, 0))
  b6 : W.heap[w.heap.size + 1]? = some (.cells #[.int .i64 en, str eg, str et, str el, .int .i64 ew] 25 (0, 0))
  b8 : W.heap[w.heap.size + 2]? = some (.cells #[.int .i64 s1, .int .i64 s2] 27 (0, 0))
  mks : RdMk W vl ml
section
variable {w W W' : World} {ft : List UInt8} {fn en : Int} {eg et el : List UInt8} {ew s1 s2 : Int} {vl : Value} {ml : List MarkT}
theorem BkS.up (h : BkS w W ft fn en eg et el ew s1 s2 vl ml) (hb : Below W.heap.size W W') : BkS w W' ft fn en eg et el ew s1 s2 vl ml :=
  ⟨h.hb.trans (hb.mono h.hb.size), box_up h.b5 hb, box_up h.b6 hb, box_up h.b8 hb, h.mks.up hb⟩
theorem BkS.made (hv : RdMk w vl ml) : BkS w (((w.alloc (.cells #[str ft, .int .i64 fn] 23)).alloc (.cells #[.int .i64 en, str eg, str et, str el, .int .i64 ew] 25)).alloc (.cells #[.int .i64 s1, .int .i64 s2] 27)) ft fn en eg et el ew s1 s2 vl ml := by
  obtain ⟨w1, h1⟩ : ∃ w1, w1 = w.alloc (.cells #[str ft, .int .i64 fn] 23) := ⟨_, rfl⟩
  have z1 : w1.heap.size = w.heap.size + 1 := by rw [h1]; simp
  have k1 : Below w.heap.size w w1 := by rw [h1]; exact below_alloc _ _
  have c1 : w1.heap[w.heap.size]? = some (.cells #[str ft, .int .i64 fn] 23 (0, 0)) := by rw [h1]; exact heap_alloc_new _ _
  rw [← h1]
  obtain ⟨w2, h2⟩ : ∃ w2, w2 = w1.alloc (.cells #[.int .i64 en, str eg, str et, str el, .int .i64 ew] 25) := ⟨_, rfl⟩
  have z2 : w2.heap.size = w.heap.size + 2 := by rw [h2]; simp; omega
  have k2 : Below w1.heap.size w1 w2 := by rw [h2]; exact below_alloc _ _
  have c2 : w2.heap[w.heap.size + 1]? = some (.cells #[.int .i64 en, str eg, str et, str el, .int .i64 ew] 25 (0, 0)) := by rw [h2, ← z1]; exact heap_alloc_new _ _
  rw [← h2]
  obtain ⟨w3, h3⟩ : ∃ w3, w3 = w2.alloc (.cells #[.int .i64 s1, .int .i64 s2] 27) := ⟨_, rfl⟩
  have k3 : Below w2.heap.size w2 w3 := by rw [h3]; exact below_alloc _ _
  have c3 : w3.heap[w.heap.size + 2]? = some (.cells #[.int .i64 s1, .int .i64 s2] 27 (0, 0)) := by rw [h3, ← z2]; exact heap_alloc_new _ _
  rw [← h3]
  have q2 := k1.trans (k2.mono k1.size)
  have q3 := q2.trans (k3.mono q2.size)
  exact ⟨q3, box_up (box_up c1 k2) k3, box_up c2 k3, c3, hv.up q3⟩
end
/-- A box that came in a call's wake. -/
theorem boxes_two (W : World) (o p : Obj) : Below W.heap.size W ((W.alloc o).alloc p) ∧ ((W.alloc o).alloc p).heap[W.heap.size]? = some o ∧ ((W.alloc o).alloc p).heap[W.heap.size + 1]? = some p :=
  ⟨(below_alloc W o).alloc (by simp) p, box_up (heap_alloc_new _ _) (below_alloc _ _), by
    have := heap_alloc_new (W.alloc o) p
    simpa using this⟩
set_option maxRecDepth 100000 in
set_option maxHeartbeats 64000000 in
theorem back_row (ft : List UInt8) (fn en : Int) (eg et el : List UInt8) (ew : Int) (fo : List UInt8) (s1 s2 : Int) (vl : Value) (ml : List MarkT) (w : World) (hfo : fo.length ≤ 9223372036854775807) (hg : eg.length ≤ 9223372036854775807) (hl : el.length ≤ 9223372036854775807) (htl : et.length ≤ 9223372036854775807) (hv : RdMk w vl ml) (ht : TabJ w.heap.size w) :
    Calls Tryz.prog 3 #[.agg #[str ft, .int .i64 fn], .agg #[.int .i64 en, str eg, str et, str el, .int .i64 ew], str fo, .agg #[.int .i64 s1, .int .i64 s2], vl] w fun e w' => e = .returned (.bool true) ∧ Below w.heap.size w w' := by
  have HA0 := BkS.made (ft := ft) (fn := fn) (en := en) (eg := eg) (et := et) (el := el) (ew := ew) (s1 := s1) (s2 := s2) hv
  obtain ⟨Wa, hWa⟩ : ∃ Wa, Wa = ((w.alloc (.cells #[str ft, .int .i64 fn] 23)).alloc (.cells #[.int .i64 en, str eg, str et, str el, .int .i64 ew] 25)).alloc (.cells #[.int .i64 s1, .int .i64 s2] 27) := ⟨_, rfl⟩
  rw [← hWa] at HA0
  have HA := Lib.hid HA0
  have TB : Hid (∀ W, Below w.heap.size w W → TabJ W.heap.size W) := Lib.hid (fun W hb w' h' => ht w' (hb.trans (h'.mono hb.size)))
  have FST : Hid (∀ W, Calls Tryz.prog 6 #[] W fun e w' => e = .returned (.bool true) ∧ Below W.heap.size W w') := Lib.hid mkfirst_any
  obtain ⟨av, cv, rfl, _⟩ := hv.form
  have C1 := Lib.hid (FST.out Wa)
  have HLL := Lib.hid (And.intro hfo (And.intro hg (And.intro hl htl)))
  clear hfo hg hl htl ht HA0 hv
  obtain ⟨k1, r1⟩ : ∃ s, wrap64 ((ft.length : Int) + (eg.length : Int)) = s := ⟨_, rfl⟩
  obtain ⟨k2, r2⟩ : ∃ s, wrap64 (k1 + (et.length : Int)) = s := ⟨_, rfl⟩
  obtain ⟨k3, r3⟩ : ∃ s, wrap64 (k2 + (el.length : Int)) = s := ⟨_, rfl⟩
  obtain ⟨k4, r4⟩ : ∃ s, wrap64 (k3 + (fo.length : Int)) = s := ⟨_, rfl⟩
  by_cases h2 : 20000 < k4
  · have z1 : decide (20000 < k4) = true := decide_eq_true h2
    go_enter Tryz.func3, Tryz.ntmps3
    go_wp2_with fail
    rw [← hWa]
    refine C1.out.mono ?_
    rintro e w1 ⟨rfl, hb1⟩
    have H1 := Lib.hid (HA.out.up hb1)
    clear hb1 C1 hWa HA
    have p0 := box_cell H1.out.b5 0
    have q1 := box_cell H1.out.b6 1
    have q2 := box_cell H1.out.b6 2
    have q3 := box_cell H1.out.b6 3
    have CF := Lib.hid (FST.out w1)
    go_wp2_with fail
    refine CF.out.mono ?_
    rintro e w99 ⟨rfl, hb99⟩
    have HX := Lib.hid (H1.out.hb.trans (hb99.mono H1.out.hb.size))
    clear hb99 CF
    go_wp2_with fail
    go_ret
    exact ⟨rfl, HX.out⟩
  · have z1 : decide (20000 < k4) = false := decide_eq_false h2
    by_cases h3 : 50 < ml.length
    · have z2 : decide ((50 : Int) < (ml.length : Int)) = true := decide_eq_true (by omega)
      go_enter Tryz.func3, Tryz.ntmps3
      go_wp2_with fail
      rw [← hWa]
      refine C1.out.mono ?_
      rintro e w1 ⟨rfl, hb1⟩
      have H1 := Lib.hid (HA.out.up hb1)
      clear hb1 C1 hWa HA
      have p0 := box_cell H1.out.b5 0
      have q1 := box_cell H1.out.b6 1
      have q2 := box_cell H1.out.b6 2
      have q3 := box_cell H1.out.b6 3
      have CF := Lib.hid (FST.out w1)
      go_wp2_with fail
      refine CF.out.mono ?_
      rintro e w99 ⟨rfl, hb99⟩
      have HX := Lib.hid (H1.out.hb.trans (hb99.mono H1.out.hb.size))
      clear hb99 CF
      go_wp2_with fail
      go_ret
      exact ⟨rfl, HX.out⟩
    · have z2 : decide ((50 : Int) < (ml.length : Int)) = false := decide_eq_false (by omega)
      have hml : ml.length ≤ 50 := by omega
      clear h2 h3
      go_enter Tryz.func3, Tryz.ntmps3
      go_wp2_with fail
      rw [← hWa]
      refine C1.out.mono ?_
      rintro e w1 ⟨rfl, hb1⟩
      have H1 := Lib.hid (HA.out.up hb1)
      clear hb1 C1 hWa HA
      have p0 := box_cell H1.out.b5 0
      have q1 := box_cell H1.out.b6 1
      have q2 := box_cell H1.out.b6 2
      have q3 := box_cell H1.out.b6 3
      have CP0 : Hid (∀ W, Below w.heap.size w W → Calls Tryz.prog 7 #[.agg #[str ft, .int .i64 fn]] W fun e w' => e = .returned (.tuple #[str (putFeedR ft fn).1, .int .i64 (putFeedR ft fn).2]) ∧ Below W.heap.size W w') := Lib.hid (fun W h => putFeed_any ft fn W (TB.out W h))
      have G0 : Hid ((putFeedR ft fn).2 = 0 → FiveG (putFeedR ft fn).1 en true false false false false ft fn 0 [] [] [] 0 [] 0 0 []) := Lib.hid (fun h => five_feed en h)
      have X0 : Hid ((putFeedR ft fn).2 ≠ 0 → (putFeedR ft fn).1 = []) := Lib.hid feed_err
      generalize putFeedR ft fn = r0 at CP0 G0 X0
      obtain ⟨x0, e0⟩ := r0
      dsimp only at CP0 G0 X0
      have CP1 : Hid (∀ W, Below w.heap.size w W → Calls Tryz.prog 8 #[.agg #[.int .i64 en, str eg, str et, str el, .int .i64 ew]] W fun e w' => e = .returned (.tuple #[str (putEntR eg el et ew).1, .int .i64 (putEntR eg el et ew).2]) ∧ Below W.heap.size W w') := Lib.hid (fun W h => putEnt_any en eg et el ew W HLL.out.2.1 HLL.out.2.2.1 HLL.out.2.2.2 (TB.out W h))
      have G1 : Hid ((putEntR eg el et ew).2 = 0 → FiveG (putEntR eg el et ew).1 en false true false false false [] 0 en eg et el ew [] 0 0 []) := Lib.hid (fun h => five_ent en h)
      have X1 : Hid ((putEntR eg el et ew).2 ≠ 0 → (putEntR eg el et ew).1 = []) := Lib.hid ent_err
      generalize putEntR eg el et ew = r1 at CP1 G1 X1
      obtain ⟨x1, e1⟩ := r1
      dsimp only at CP1 G1 X1
      have CP2 : Hid (∀ W, Below w.heap.size w W → Calls Tryz.prog 9 #[str fo] W fun e w' => e = .returned (.tuple #[str (putSubR fo).1, .int .i64 (putSubR fo).2]) ∧ Below W.heap.size W w') := Lib.hid (fun W h => putSub_any fo W HLL.out.1 (TB.out W h))
      have G2 : Hid ((putSubR fo).2 = 0 → FiveG (putSubR fo).1 en false false true false false [] 0 0 [] [] [] 0 fo 0 0 []) := Lib.hid (fun h => five_sub en h)
      have X2 : Hid ((putSubR fo).2 ≠ 0 → (putSubR fo).1 = []) := Lib.hid sub_err
      generalize putSubR fo = r2 at CP2 G2 X2
      obtain ⟨x2, e2⟩ := r2
      dsimp only at CP2 G2 X2
      have CP3 : Hid (∀ W, Below w.heap.size w W → Calls Tryz.prog 10 #[.agg #[.int .i64 s1, .int .i64 s2]] W fun e w' => e = .returned (.tuple #[str (putStateR s1 s2).1, .int .i64 (putStateR s1 s2).2]) ∧ Below W.heap.size W w') := Lib.hid (fun W h => putState_any s1 s2 W (TB.out W h))
      have G3 : Hid ((putStateR s1 s2).2 = 0 → FiveG (putStateR s1 s2).1 en false false false true false [] 0 0 [] [] [] 0 [] s1 s2 []) := Lib.hid (fun h => five_state en h)
      have X3 : Hid ((putStateR s1 s2).2 ≠ 0 → (putStateR s1 s2).1 = []) := Lib.hid state_err
      generalize putStateR s1 s2 = r3 at CP3 G3 X3
      obtain ⟨x3, e3⟩ := r3
      dsimp only at CP3 G3 X3
      have CP4 : Hid (∀ W, BkS w W ft fn en eg et el ew s1 s2 (.slice av ml.length cv) ml → Calls Tryz.prog 11 #[.slice av ml.length cv] W fun e w' => e = .returned (.tuple #[str (putMksR ml).1, .int .i64 (putMksR ml).2]) ∧ Below W.heap.size W w') := Lib.hid (fun W h => putMks_any _ _ W h.mks (TB.out W h.hb))
      have G4 : Hid ((putMksR ml).2 = 0 → FiveG (putMksR ml).1 en false false false false true [] 0 0 [] [] [] 0 [] 0 0 ml) := Lib.hid (fun h => five_mks en h)
      have X4 : Hid ((putMksR ml).2 ≠ 0 → (putMksR ml).1 = []) := Lib.hid mks_err
      generalize putMksR ml = r4 at CP4 G4 X4
      obtain ⟨x4, e4⟩ := r4
      dsimp only at CP4 G4 X4
      clear HLL
      have p1 := box_cell H1.out.b5 1
      replace CP0 := Lib.hid (CP0.out w1 H1.out.hb)
      go_wp2_with fail
      refine CP0.out.mono ?_
      rintro e w2 ⟨rfl, hb2⟩
      have H2 := Lib.hid (H1.out.up hb2)
      clear hb2 CP0 H1 p0 p1 q1 q2 q3
      have p0 := box_cell H2.out.b6 0
      have p1 := box_cell H2.out.b6 1
      have p2 := box_cell H2.out.b6 2
      have p3 := box_cell H2.out.b6 3
      have p4 := box_cell H2.out.b6 4
      replace CP1 := Lib.hid (CP1.out w2 H2.out.hb)
      go_wp2_with fail
      refine CP1.out.mono ?_
      rintro e w3 ⟨rfl, hb3⟩
      have H3 := Lib.hid (H2.out.up hb3)
      clear hb3 CP1 H2 p0 p1 p2 p3 p4
      replace CP2 := Lib.hid (CP2.out w3 H3.out.hb)
      go_wp2_with fail
      refine CP2.out.mono ?_
      rintro e w4 ⟨rfl, hb4⟩
      have H4 := Lib.hid (H3.out.up hb4)
      clear hb4 CP2 H3
      have p0 := box_cell H4.out.b8 0
      have p1 := box_cell H4.out.b8 1
      replace CP3 := Lib.hid (CP3.out w4 H4.out.hb)
      go_wp2_with fail
      refine CP3.out.mono ?_
      rintro e w5 ⟨rfl, hb5⟩
      have H5 := Lib.hid (H4.out.up hb5)
      clear hb5 CP3 H4 p0 p1
      replace CP4 := Lib.hid (CP4.out w5 H5.out)
      go_wp2_with fail
      refine CP4.out.mono ?_
      rintro e w6 ⟨rfl, hb6⟩
      have H6 := Lib.hid (H5.out.up hb6)
      clear hb6 CP4 H5
      obtain ⟨W7, hW7⟩ : ∃ W7, W7 = (w6.alloc (.cells #[str x0, str x1, str x2, str x3, str x4] 9)).alloc (.cells #[.int .i64 e0, .int .i64 e1, .int .i64 e2, .int .i64 e3, .int .i64 e4] 30) := ⟨_, rfl⟩
      have hb7 := boxes_two w6 (.cells #[str x0, str x1, str x2, str x3, str x4] 9) (.cells #[.int .i64 e0, .int .i64 e1, .int .i64 e2, .int .i64 e3, .int .i64 e4] 30)
      rw [← hW7] at hb7
      have H7 := Lib.hid (And.intro (H6.out.up hb7.1) hb7.2)
      clear hb7 H6
      obtain ⟨bT, hbT⟩ : ∃ b, b = w6.heap.size := ⟨_, rfl⟩
      rw [← hbT] at H7
      go_upto_region 12 with fail
      rw [← hW7]
      rw [← hbT]
      clear hW7 hbT
      go_wp2_with fail
      go_loopw [23] (fun v23 wr => ∃ k : Int, v23 = .int .i64 k ∧ 0 ≤ k ∧ k ≤ 5 ∧ Hid (Below W7.heap.size W7 wr)) (fun v23 _ => 5 - (intOf v23).toNat)
      case atStart => exact ⟨0, rfl, by omega, by omega, Lib.hid (Below.refl _ _)⟩
      case round =>
        obtain ⟨k, rfl, hk0, hk5, HR⟩ := hrel
        have hk : k = 0 ∨ k = 1 ∨ k = 2 ∨ k = 3 ∨ k = 4 ∨ k = 5 := by omega
        clear hk0 hk5
        rcases hk with rfl | rfl | rfl | rfl | rfl | rfl
        · as_aux_lemma =>
          have HC : Hid (BkS w wr ft fn en eg et el ew s1 s2 (.slice av ml.length cv) ml) := Lib.hid (H7.out.1.up HR.out)
          have HT : Hid (∀ W, Below wr.heap.size wr W → W.heap[bT]? = some (.cells #[str x0, str x1, str x2, str x3, str x4] 9 (0, 0)) ∧ W.heap[bT + 1]? = some (.cells #[.int .i64 e0, .int .i64 e1, .int .i64 e2, .int .i64 e3, .int .i64 e4] 30 (0, 0))) := Lib.hid (fun W h => ⟨box_up (box_up H7.out.2.1 HR.out) h, box_up (box_up H7.out.2.2 HR.out) h⟩)
          have TBR : Hid (∀ W, Below wr.heap.size wr W → TabJ W.heap.size W) := Lib.hid (fun W h => TB.out W (HC.out.hb.trans (h.mono HC.out.hb.size)))
          have t0 := box_cell (HT.out wr (Below.refl _ _)).1 0
          have t1 := box_cell (HT.out wr (Below.refl _ _)).2 0
          by_cases h0 : e0 = 0
          · have z0 : (e0 != 0) = false := by rw [h0]; rfl
            have G := Lib.hid (G0.out h0)
            clear h0 G0 G1 G2 G3 G4 X0 X1 X2 X3 X4
            have CF := Lib.hid (G.out.f wr (TBR.out wr (Below.refl _ _)))
            go_wp2_with fail
            refine CF.out.mono ?_
            rintro e w8 ⟨rfl, hb8⟩
            obtain ⟨W8, hW8⟩ : ∃ W8, W8 = w8.alloc (.cells #[str ft, .int .i64 fn] 23) := ⟨_, rfl⟩
            have hx8 : Below w8.heap.size w8 W8 := by rw [hW8]; exact below_alloc _ _
            have hn8 : W8.heap[w8.heap.size]? = some (.cells #[str ft, .int .i64 fn] 23 (0, 0)) := by rw [hW8]; exact heap_alloc_new _ _
            have H8 : Hid (Below wr.heap.size wr W8) := Lib.hid (hb8.trans (hx8.mono hb8.size))
            have HN8 := Lib.hid hn8
            clear t0 t1 hb8 hx8 hn8 CF
            have t0 := box_cell (HT.out W8 H8.out).1 0
            have t1 := box_cell (HC.out.up H8.out).b6 0
            have HKS : Hid (∀ W', Below W8.heap.size W8 W' → W'.cell? ⟨bT, 0, none⟩ = some (str x0) ∧ W'.cell? ⟨w.heap.size + 1, 0, none⟩ = some (.int .i64 en)) := Lib.hid (fun W' hb => ⟨(hb.cell (p := ⟨bT, 0, none⟩) (World.block_lt_of_cell? W8 _ t0)).trans t0, (hb.cell (p := ⟨w.heap.size + 1, 0, none⟩) (World.block_lt_of_cell? W8 _ t1)).trans t1⟩)
            have CE : Hid (∀ W, Hid (Below W8.heap.size W8 W) → Calls Tryz.prog 13 #[str x0, .int .i64 en] W fun e w' => e = .returned (.tuple #[.agg #[.int .i64 0, str [], str [], str [], .int .i64 0], .bool false]) ∧ Hid (Below W8.heap.size W8 w') ∧ Hid (Below W.heap.size W w')) := Lib.hid (fun W hb => (G.out.e W (TBR.out W (H8.out.trans (hb.out.mono H8.out.size)))).mono (by
              rintro e w' ⟨rfl, h'⟩
              exact ⟨rfl, Lib.hid (hb.out.trans (h'.mono hb.out.size)), Lib.hid h'⟩))
            have HB : Hid (Below W8.heap.size W8 W8.drew) := Lib.hid (Below.drewsN (Below.refl _ _) 1)
            have HWc : Hid (Below W8.heap.size W8 (W8.alloc (.cells #[.int .i64 0, .string ⟨#[]⟩, .string ⟨#[]⟩, .string ⟨#[]⟩, .int .i64 0] 25)).drew) := Lib.hid ((below_alloc W8 _).trans ((Below.drewsN (Below.refl _ _) 1).mono (below_alloc W8 (.cells #[.int .i64 0, .string ⟨#[]⟩, .string ⟨#[]⟩, .string ⟨#[]⟩, .int .i64 0] 25)).size))
            have HZ0 : Hid (((W8.alloc (.cells #[.int .i64 0, .string ⟨#[]⟩, .string ⟨#[]⟩, .string ⟨#[]⟩, .int .i64 0] 25)).drew).heap[W8.heap.size]? = some (.cells #[.int .i64 0, .string ⟨#[]⟩, .string ⟨#[]⟩, .string ⟨#[]⟩, .int .i64 0] 25 (0, 0))) := Lib.hid (heap_alloc_new W8 _)
            go_upto_region 19 with fail
            rw [← hW8]
            clear hW8
            go_cut [26, 27] from 120 to 129 (fun v26 v27 wc => ∃ B : Nat, v26 = .pointer (some ⟨B, 0, none⟩) ∧ v27 = .bool false ∧ Hid (Below W8.heap.size W8 wc ∧ wc.heap[B]? = some (.cells #[.int .i64 0, str [], str [], str [], .int .i64 0] 25 (0, 0))))
            case first =>
              go_wp2_with fail
              go_region_held3 (fun W' => W'.cell? ⟨bT, 0, none⟩ = some (str x0) ∧ W'.cell? ⟨w.heap.size + 1, 0, none⟩ = some (.int .i64 en))
                (first | (exact HKS.out _ HB.out) | (exact HKS.out _ HWc.out) | (exact HKS.out _ (HB.out.trans ((below_alloc _ _).mono HB.out.size))) | (exact HKS.out _ (HB.out.trans ((five_set HZ.out.1 _ _ _ _ _).2.below HB.out.size (fun i e => by have := HZ.out.2; omega)))) | go_keep)
                ((first
                  | (go_at_call 13; refine (CE.out _ HWc).mono ?_; rintro e w9 ⟨rfl, HB, HBW⟩; have HZ := Lib.hid (And.intro (box_up HZ0.out HBW.out) (Nat.le_refl W8.heap.size)); clear HBW; have d0 := box_cell HZ.out.1 0; have d1 := box_cell HZ.out.1 1; have d2 := box_cell HZ.out.1 2; have d3 := box_cell HZ.out.1 3; have d4 := box_cell HZ.out.1 4; have df := box_fr HZ.out.1)
                  | (go_at_call 13; refine (CE.out _ HB).mono ?_; rintro e w9 ⟨rfl, HB, _⟩)
                  | fail))
              all_goals
                clear t0 t1 HKS
                go_wp2_with fail
                go_meet
                case rel => first | (exact ⟨_, rfl, rfl, Lib.hid ⟨HB.out.trans ((below_alloc _ _).mono HB.out.size), heap_alloc_new _ _⟩⟩) | (exact ⟨_, rfl, rfl, Lib.hid (by
                  have h5 := five_set HZ.out.1 (.int .i64 0) (str []) (str []) (str []) (.int .i64 0)
                  exact ⟨HB.out.trans (h5.2.below HB.out.size (fun i e => by have := HZ.out.2; omega)), h5.1⟩)⟩)
            case rest =>
            obtain ⟨B, rfl, rfl, HX9⟩ := hcut
            have H9 : Hid (Below wr.heap.size wr wc) := Lib.hid (H8.out.trans (HX9.out.1.mono H8.out.size))
            clear t0 t1 HKS CE HB HWc HZ0
            have t0 := box_cell (HT.out wc H9.out).1 0
            have CB := Lib.hid (G.out.b wc (TBR.out wc H9.out))
            go_wp2_with fail
            refine CB.out.mono ?_
            rintro e w10 ⟨rfl, hb10⟩
            have H10 : Hid (Below wr.heap.size wr w10) := Lib.hid (H9.out.trans (hb10.mono H9.out.size))
            have HDA : Hid (Below wc.heap.size wc w10) := Lib.hid hb10
            clear hb10 CB t0
            have t0 := box_cell (HT.out w10 H10.out).1 0
            have CS := Lib.hid (G.out.t w10 (TBR.out w10 H10.out))
            go_wp2_with fail
            refine CS.out.mono ?_
            rintro e w11 ⟨rfl, hb11⟩
            obtain ⟨W11, hW11⟩ : ∃ W11, W11 = w11.alloc (.cells #[.int .i64 0, .int .i64 0] 27) := ⟨_, rfl⟩
            have hx11 : Below w11.heap.size w11 W11 := by rw [hW11]; exact below_alloc _ _
            have hn11 : W11.heap[w11.heap.size]? = some (.cells #[.int .i64 0, .int .i64 0] 27 (0, 0)) := by rw [hW11]; exact heap_alloc_new _ _
            have hy11 := hb11.trans (hx11.mono hb11.size)
            have H11 : Hid (Below wr.heap.size wr W11) := Lib.hid (H10.out.trans (hy11.mono H10.out.size))
            have HDB : Hid (Below wc.heap.size wc W11) := Lib.hid (HDA.out.trans (hy11.mono HDA.out.size))
            have HN11 := Lib.hid hn11
            clear hb11 hx11 hn11 hy11 CS t0 HDA
            have t0 := box_cell (HT.out W11 H11.out).1 0
            have CM := Lib.hid (G.out.m W11 (TBR.out W11 H11.out))
            go_upto_region 22 with fail
            rw [← hW11]
            clear hW11
            go_wp2_with fail
            refine CM.out.mono ?_
            rintro e w12 ⟨u12, rfl, hu12, hb12⟩
            obtain ⟨a12, c12, rfl, _⟩ := hu12.form
            have H12 : Hid (Below wr.heap.size wr w12) := Lib.hid (H11.out.trans (hb12.mono H11.out.size))
            have HU := Lib.hid hu12
            have HY8 := Lib.hid (box_up (box_up (box_up HN8.out HX9.out.1) HDB.out) hb12)
            have HY9 := Lib.hid (box_up (box_up HX9.out.2 HDB.out) hb12)
            have HY11 := Lib.hid (box_up HN11.out hb12)
            clear hb12 hu12 CM t0 HN8 HX9 HN11 HDB H8 H9 H10 H11
            have HC12 := Lib.hid (HC.out.up H12.out)
            have p0 := box_cell HY8.out 0
            have q0 := box_cell HC12.out.b5 0
            have p1 := box_cell HY8.out 1
            have q1 := box_cell HC12.out.b5 1
            go_wp2_with fail
            go_roundw
            case rel => exact ⟨_, rfl, by omega, by omega, Lib.hid (HR.out.trans (H12.out.mono HR.out.size))⟩
            case measure => simp [intOf]
          · have z0 : (e0 != 0) = true := by rw [bne_iff_ne]; exact h0
            have hx : x0 = [] := X0.out h0
            subst hx
            clear h0 G0 G1 G2 G3 G4 X0 X1 X2 X3 X4
            go_wp2_with fail
            go_roundw
            case rel => exact ⟨_, rfl, by omega, by omega, HR⟩
            case measure => simp [intOf]
        · as_aux_lemma =>
          have HC : Hid (BkS w wr ft fn en eg et el ew s1 s2 (.slice av ml.length cv) ml) := Lib.hid (H7.out.1.up HR.out)
          have HT : Hid (∀ W, Below wr.heap.size wr W → W.heap[bT]? = some (.cells #[str x0, str x1, str x2, str x3, str x4] 9 (0, 0)) ∧ W.heap[bT + 1]? = some (.cells #[.int .i64 e0, .int .i64 e1, .int .i64 e2, .int .i64 e3, .int .i64 e4] 30 (0, 0))) := Lib.hid (fun W h => ⟨box_up (box_up H7.out.2.1 HR.out) h, box_up (box_up H7.out.2.2 HR.out) h⟩)
          have TBR : Hid (∀ W, Below wr.heap.size wr W → TabJ W.heap.size W) := Lib.hid (fun W h => TB.out W (HC.out.hb.trans (h.mono HC.out.hb.size)))
          have t0 := box_cell (HT.out wr (Below.refl _ _)).1 1
          have t1 := box_cell (HT.out wr (Below.refl _ _)).2 1
          by_cases h0 : e1 = 0
          · have z0 : (e1 != 0) = false := by rw [h0]; rfl
            have G := Lib.hid (G1.out h0)
            clear h0 G0 G1 G2 G3 G4 X0 X1 X2 X3 X4
            have CF := Lib.hid (G.out.f wr (TBR.out wr (Below.refl _ _)))
            go_wp2_with fail
            refine CF.out.mono ?_
            rintro e w8 ⟨rfl, hb8⟩
            obtain ⟨W8, hW8⟩ : ∃ W8, W8 = w8.alloc (.cells #[str [], .int .i64 0] 23) := ⟨_, rfl⟩
            have hx8 : Below w8.heap.size w8 W8 := by rw [hW8]; exact below_alloc _ _
            have hn8 : W8.heap[w8.heap.size]? = some (.cells #[str [], .int .i64 0] 23 (0, 0)) := by rw [hW8]; exact heap_alloc_new _ _
            have H8 : Hid (Below wr.heap.size wr W8) := Lib.hid (hb8.trans (hx8.mono hb8.size))
            have HN8 := Lib.hid hn8
            clear t0 t1 hb8 hx8 hn8 CF
            have t0 := box_cell (HT.out W8 H8.out).1 1
            have t1 := box_cell (HC.out.up H8.out).b6 0
            have HKS : Hid (∀ W', Below W8.heap.size W8 W' → W'.cell? ⟨bT, 1, none⟩ = some (str x1) ∧ W'.cell? ⟨w.heap.size + 1, 0, none⟩ = some (.int .i64 en)) := Lib.hid (fun W' hb => ⟨(hb.cell (p := ⟨bT, 1, none⟩) (World.block_lt_of_cell? W8 _ t0)).trans t0, (hb.cell (p := ⟨w.heap.size + 1, 0, none⟩) (World.block_lt_of_cell? W8 _ t1)).trans t1⟩)
            have CE : Hid (∀ W, Hid (Below W8.heap.size W8 W) → Calls Tryz.prog 13 #[str x1, .int .i64 en] W fun e w' => e = .returned (.tuple #[.agg #[.int .i64 en, str eg, str et, str el, .int .i64 ew], .bool true]) ∧ Hid (Below W8.heap.size W8 w') ∧ Hid (Below W.heap.size W w')) := Lib.hid (fun W hb => (G.out.e W (TBR.out W (H8.out.trans (hb.out.mono H8.out.size)))).mono (by
              rintro e w' ⟨rfl, h'⟩
              exact ⟨rfl, Lib.hid (hb.out.trans (h'.mono hb.out.size)), Lib.hid h'⟩))
            have HB : Hid (Below W8.heap.size W8 W8.drew) := Lib.hid (Below.drewsN (Below.refl _ _) 1)
            have HWc : Hid (Below W8.heap.size W8 (W8.alloc (.cells #[.int .i64 0, .string ⟨#[]⟩, .string ⟨#[]⟩, .string ⟨#[]⟩, .int .i64 0] 25)).drew) := Lib.hid ((below_alloc W8 _).trans ((Below.drewsN (Below.refl _ _) 1).mono (below_alloc W8 (.cells #[.int .i64 0, .string ⟨#[]⟩, .string ⟨#[]⟩, .string ⟨#[]⟩, .int .i64 0] 25)).size))
            have HZ0 : Hid (((W8.alloc (.cells #[.int .i64 0, .string ⟨#[]⟩, .string ⟨#[]⟩, .string ⟨#[]⟩, .int .i64 0] 25)).drew).heap[W8.heap.size]? = some (.cells #[.int .i64 0, .string ⟨#[]⟩, .string ⟨#[]⟩, .string ⟨#[]⟩, .int .i64 0] 25 (0, 0))) := Lib.hid (heap_alloc_new W8 _)
            go_upto_region 19 with fail
            rw [← hW8]
            clear hW8
            go_cut [26, 27] from 120 to 129 (fun v26 v27 wc => ∃ B : Nat, v26 = .pointer (some ⟨B, 0, none⟩) ∧ v27 = .bool true ∧ Hid (Below W8.heap.size W8 wc ∧ wc.heap[B]? = some (.cells #[.int .i64 en, str eg, str et, str el, .int .i64 ew] 25 (0, 0))))
            case first =>
              go_wp2_with fail
              go_region_held3 (fun W' => W'.cell? ⟨bT, 1, none⟩ = some (str x1) ∧ W'.cell? ⟨w.heap.size + 1, 0, none⟩ = some (.int .i64 en))
                (first | (exact HKS.out _ HB.out) | (exact HKS.out _ HWc.out) | (exact HKS.out _ (HB.out.trans ((below_alloc _ _).mono HB.out.size))) | (exact HKS.out _ (HB.out.trans ((five_set HZ.out.1 _ _ _ _ _).2.below HB.out.size (fun i e => by have := HZ.out.2; omega)))) | go_keep)
                ((first
                  | (go_at_call 13; refine (CE.out _ HWc).mono ?_; rintro e w9 ⟨rfl, HB, HBW⟩; have HZ := Lib.hid (And.intro (box_up HZ0.out HBW.out) (Nat.le_refl W8.heap.size)); clear HBW; have d0 := box_cell HZ.out.1 0; have d1 := box_cell HZ.out.1 1; have d2 := box_cell HZ.out.1 2; have d3 := box_cell HZ.out.1 3; have d4 := box_cell HZ.out.1 4; have df := box_fr HZ.out.1)
                  | (go_at_call 13; refine (CE.out _ HB).mono ?_; rintro e w9 ⟨rfl, HB, _⟩)
                  | fail))
              all_goals
                clear t0 t1 HKS
                go_wp2_with fail
                go_meet
                case rel => first | (exact ⟨_, rfl, rfl, Lib.hid ⟨HB.out.trans ((below_alloc _ _).mono HB.out.size), heap_alloc_new _ _⟩⟩) | (exact ⟨_, rfl, rfl, Lib.hid (by
                  have h5 := five_set HZ.out.1 (.int .i64 en) (str eg) (str et) (str el) (.int .i64 ew)
                  exact ⟨HB.out.trans (h5.2.below HB.out.size (fun i e => by have := HZ.out.2; omega)), h5.1⟩)⟩)
            case rest =>
            obtain ⟨B, rfl, rfl, HX9⟩ := hcut
            have H9 : Hid (Below wr.heap.size wr wc) := Lib.hid (H8.out.trans (HX9.out.1.mono H8.out.size))
            clear t0 t1 HKS CE HB HWc HZ0
            have t0 := box_cell (HT.out wc H9.out).1 1
            have CB := Lib.hid (G.out.b wc (TBR.out wc H9.out))
            go_wp2_with fail
            refine CB.out.mono ?_
            rintro e w10 ⟨rfl, hb10⟩
            have H10 : Hid (Below wr.heap.size wr w10) := Lib.hid (H9.out.trans (hb10.mono H9.out.size))
            have HDA : Hid (Below wc.heap.size wc w10) := Lib.hid hb10
            clear hb10 CB t0
            have t0 := box_cell (HT.out w10 H10.out).1 1
            have CS := Lib.hid (G.out.t w10 (TBR.out w10 H10.out))
            go_wp2_with fail
            refine CS.out.mono ?_
            rintro e w11 ⟨rfl, hb11⟩
            obtain ⟨W11, hW11⟩ : ∃ W11, W11 = w11.alloc (.cells #[.int .i64 0, .int .i64 0] 27) := ⟨_, rfl⟩
            have hx11 : Below w11.heap.size w11 W11 := by rw [hW11]; exact below_alloc _ _
            have hn11 : W11.heap[w11.heap.size]? = some (.cells #[.int .i64 0, .int .i64 0] 27 (0, 0)) := by rw [hW11]; exact heap_alloc_new _ _
            have hy11 := hb11.trans (hx11.mono hb11.size)
            have H11 : Hid (Below wr.heap.size wr W11) := Lib.hid (H10.out.trans (hy11.mono H10.out.size))
            have HDB : Hid (Below wc.heap.size wc W11) := Lib.hid (HDA.out.trans (hy11.mono HDA.out.size))
            have HN11 := Lib.hid hn11
            clear hb11 hx11 hn11 hy11 CS t0 HDA
            have t0 := box_cell (HT.out W11 H11.out).1 1
            have CM := Lib.hid (G.out.m W11 (TBR.out W11 H11.out))
            go_upto_region 22 with fail
            rw [← hW11]
            clear hW11
            go_wp2_with fail
            refine CM.out.mono ?_
            rintro e w12 ⟨u12, rfl, hu12, hb12⟩
            obtain ⟨a12, c12, rfl, _⟩ := hu12.form
            have H12 : Hid (Below wr.heap.size wr w12) := Lib.hid (H11.out.trans (hb12.mono H11.out.size))
            have HU := Lib.hid hu12
            have HY8 := Lib.hid (box_up (box_up (box_up HN8.out HX9.out.1) HDB.out) hb12)
            have HY9 := Lib.hid (box_up (box_up HX9.out.2 HDB.out) hb12)
            have HY11 := Lib.hid (box_up HN11.out hb12)
            clear hb12 hu12 CM t0 HN8 HX9 HN11 HDB H8 H9 H10 H11
            have HC12 := Lib.hid (HC.out.up H12.out)
            have p0 := box_cell HY9.out 0
            have q0 := box_cell HC12.out.b6 0
            have p1 := box_cell HY9.out 1
            have q1 := box_cell HC12.out.b6 1
            have p2 := box_cell HY9.out 2
            have q2 := box_cell HC12.out.b6 2
            have p3 := box_cell HY9.out 3
            have q3 := box_cell HC12.out.b6 3
            have p4 := box_cell HY9.out 4
            have q4 := box_cell HC12.out.b6 4
            have CQ := Lib.hid (entry_same en eg et el ew w12)
            go_wp2_with fail
            refine CQ.out.mono ?_
            rintro e w13 ⟨rfl, hb13⟩
            have H13 : Hid (Below wr.heap.size wr w13) := Lib.hid (H12.out.trans (hb13.mono H12.out.size))
            clear hb13 CQ p0 p1 p2 p3 p4 q0 q1 q2 q3 q4
            go_wp2_with fail
            go_roundw
            case rel => exact ⟨_, rfl, by omega, by omega, Lib.hid (HR.out.trans (H13.out.mono HR.out.size))⟩
            case measure => simp [intOf]
          · have z0 : (e1 != 0) = true := by rw [bne_iff_ne]; exact h0
            have hx : x1 = [] := X1.out h0
            subst hx
            clear h0 G0 G1 G2 G3 G4 X0 X1 X2 X3 X4
            go_wp2_with fail
            go_roundw
            case rel => exact ⟨_, rfl, by omega, by omega, HR⟩
            case measure => simp [intOf]
        · as_aux_lemma =>
          have HC : Hid (BkS w wr ft fn en eg et el ew s1 s2 (.slice av ml.length cv) ml) := Lib.hid (H7.out.1.up HR.out)
          have HT : Hid (∀ W, Below wr.heap.size wr W → W.heap[bT]? = some (.cells #[str x0, str x1, str x2, str x3, str x4] 9 (0, 0)) ∧ W.heap[bT + 1]? = some (.cells #[.int .i64 e0, .int .i64 e1, .int .i64 e2, .int .i64 e3, .int .i64 e4] 30 (0, 0))) := Lib.hid (fun W h => ⟨box_up (box_up H7.out.2.1 HR.out) h, box_up (box_up H7.out.2.2 HR.out) h⟩)
          have TBR : Hid (∀ W, Below wr.heap.size wr W → TabJ W.heap.size W) := Lib.hid (fun W h => TB.out W (HC.out.hb.trans (h.mono HC.out.hb.size)))
          have t0 := box_cell (HT.out wr (Below.refl _ _)).1 2
          have t1 := box_cell (HT.out wr (Below.refl _ _)).2 2
          by_cases h0 : e2 = 0
          · have z0 : (e2 != 0) = false := by rw [h0]; rfl
            have G := Lib.hid (G2.out h0)
            clear h0 G0 G1 G2 G3 G4 X0 X1 X2 X3 X4
            have CF := Lib.hid (G.out.f wr (TBR.out wr (Below.refl _ _)))
            go_wp2_with fail
            refine CF.out.mono ?_
            rintro e w8 ⟨rfl, hb8⟩
            obtain ⟨W8, hW8⟩ : ∃ W8, W8 = w8.alloc (.cells #[str [], .int .i64 0] 23) := ⟨_, rfl⟩
            have hx8 : Below w8.heap.size w8 W8 := by rw [hW8]; exact below_alloc _ _
            have hn8 : W8.heap[w8.heap.size]? = some (.cells #[str [], .int .i64 0] 23 (0, 0)) := by rw [hW8]; exact heap_alloc_new _ _
            have H8 : Hid (Below wr.heap.size wr W8) := Lib.hid (hb8.trans (hx8.mono hb8.size))
            have HN8 := Lib.hid hn8
            clear t0 t1 hb8 hx8 hn8 CF
            have t0 := box_cell (HT.out W8 H8.out).1 2
            have t1 := box_cell (HC.out.up H8.out).b6 0
            have HKS : Hid (∀ W', Below W8.heap.size W8 W' → W'.cell? ⟨bT, 2, none⟩ = some (str x2) ∧ W'.cell? ⟨w.heap.size + 1, 0, none⟩ = some (.int .i64 en)) := Lib.hid (fun W' hb => ⟨(hb.cell (p := ⟨bT, 2, none⟩) (World.block_lt_of_cell? W8 _ t0)).trans t0, (hb.cell (p := ⟨w.heap.size + 1, 0, none⟩) (World.block_lt_of_cell? W8 _ t1)).trans t1⟩)
            have CE : Hid (∀ W, Hid (Below W8.heap.size W8 W) → Calls Tryz.prog 13 #[str x2, .int .i64 en] W fun e w' => e = .returned (.tuple #[.agg #[.int .i64 0, str [], str [], str [], .int .i64 0], .bool false]) ∧ Hid (Below W8.heap.size W8 w') ∧ Hid (Below W.heap.size W w')) := Lib.hid (fun W hb => (G.out.e W (TBR.out W (H8.out.trans (hb.out.mono H8.out.size)))).mono (by
              rintro e w' ⟨rfl, h'⟩
              exact ⟨rfl, Lib.hid (hb.out.trans (h'.mono hb.out.size)), Lib.hid h'⟩))
            have HB : Hid (Below W8.heap.size W8 W8.drew) := Lib.hid (Below.drewsN (Below.refl _ _) 1)
            have HWc : Hid (Below W8.heap.size W8 (W8.alloc (.cells #[.int .i64 0, .string ⟨#[]⟩, .string ⟨#[]⟩, .string ⟨#[]⟩, .int .i64 0] 25)).drew) := Lib.hid ((below_alloc W8 _).trans ((Below.drewsN (Below.refl _ _) 1).mono (below_alloc W8 (.cells #[.int .i64 0, .string ⟨#[]⟩, .string ⟨#[]⟩, .string ⟨#[]⟩, .int .i64 0] 25)).size))
            have HZ0 : Hid (((W8.alloc (.cells #[.int .i64 0, .string ⟨#[]⟩, .string ⟨#[]⟩, .string ⟨#[]⟩, .int .i64 0] 25)).drew).heap[W8.heap.size]? = some (.cells #[.int .i64 0, .string ⟨#[]⟩, .string ⟨#[]⟩, .string ⟨#[]⟩, .int .i64 0] 25 (0, 0))) := Lib.hid (heap_alloc_new W8 _)
            go_upto_region 19 with fail
            rw [← hW8]
            clear hW8
            go_cut [26, 27] from 120 to 129 (fun v26 v27 wc => ∃ B : Nat, v26 = .pointer (some ⟨B, 0, none⟩) ∧ v27 = .bool false ∧ Hid (Below W8.heap.size W8 wc ∧ wc.heap[B]? = some (.cells #[.int .i64 0, str [], str [], str [], .int .i64 0] 25 (0, 0))))
            case first =>
              go_wp2_with fail
              go_region_held3 (fun W' => W'.cell? ⟨bT, 2, none⟩ = some (str x2) ∧ W'.cell? ⟨w.heap.size + 1, 0, none⟩ = some (.int .i64 en))
                (first | (exact HKS.out _ HB.out) | (exact HKS.out _ HWc.out) | (exact HKS.out _ (HB.out.trans ((below_alloc _ _).mono HB.out.size))) | (exact HKS.out _ (HB.out.trans ((five_set HZ.out.1 _ _ _ _ _).2.below HB.out.size (fun i e => by have := HZ.out.2; omega)))) | go_keep)
                ((first
                  | (go_at_call 13; refine (CE.out _ HWc).mono ?_; rintro e w9 ⟨rfl, HB, HBW⟩; have HZ := Lib.hid (And.intro (box_up HZ0.out HBW.out) (Nat.le_refl W8.heap.size)); clear HBW; have d0 := box_cell HZ.out.1 0; have d1 := box_cell HZ.out.1 1; have d2 := box_cell HZ.out.1 2; have d3 := box_cell HZ.out.1 3; have d4 := box_cell HZ.out.1 4; have df := box_fr HZ.out.1)
                  | (go_at_call 13; refine (CE.out _ HB).mono ?_; rintro e w9 ⟨rfl, HB, _⟩)
                  | fail))
              all_goals
                clear t0 t1 HKS
                go_wp2_with fail
                go_meet
                case rel => first | (exact ⟨_, rfl, rfl, Lib.hid ⟨HB.out.trans ((below_alloc _ _).mono HB.out.size), heap_alloc_new _ _⟩⟩) | (exact ⟨_, rfl, rfl, Lib.hid (by
                  have h5 := five_set HZ.out.1 (.int .i64 0) (str []) (str []) (str []) (.int .i64 0)
                  exact ⟨HB.out.trans (h5.2.below HB.out.size (fun i e => by have := HZ.out.2; omega)), h5.1⟩)⟩)
            case rest =>
            obtain ⟨B, rfl, rfl, HX9⟩ := hcut
            have H9 : Hid (Below wr.heap.size wr wc) := Lib.hid (H8.out.trans (HX9.out.1.mono H8.out.size))
            clear t0 t1 HKS CE HB HWc HZ0
            have t0 := box_cell (HT.out wc H9.out).1 2
            have CB := Lib.hid (G.out.b wc (TBR.out wc H9.out))
            go_wp2_with fail
            refine CB.out.mono ?_
            rintro e w10 ⟨rfl, hb10⟩
            have H10 : Hid (Below wr.heap.size wr w10) := Lib.hid (H9.out.trans (hb10.mono H9.out.size))
            have HDA : Hid (Below wc.heap.size wc w10) := Lib.hid hb10
            clear hb10 CB t0
            have t0 := box_cell (HT.out w10 H10.out).1 2
            have CS := Lib.hid (G.out.t w10 (TBR.out w10 H10.out))
            go_wp2_with fail
            refine CS.out.mono ?_
            rintro e w11 ⟨rfl, hb11⟩
            obtain ⟨W11, hW11⟩ : ∃ W11, W11 = w11.alloc (.cells #[.int .i64 0, .int .i64 0] 27) := ⟨_, rfl⟩
            have hx11 : Below w11.heap.size w11 W11 := by rw [hW11]; exact below_alloc _ _
            have hn11 : W11.heap[w11.heap.size]? = some (.cells #[.int .i64 0, .int .i64 0] 27 (0, 0)) := by rw [hW11]; exact heap_alloc_new _ _
            have hy11 := hb11.trans (hx11.mono hb11.size)
            have H11 : Hid (Below wr.heap.size wr W11) := Lib.hid (H10.out.trans (hy11.mono H10.out.size))
            have HDB : Hid (Below wc.heap.size wc W11) := Lib.hid (HDA.out.trans (hy11.mono HDA.out.size))
            have HN11 := Lib.hid hn11
            clear hb11 hx11 hn11 hy11 CS t0 HDA
            have t0 := box_cell (HT.out W11 H11.out).1 2
            have CM := Lib.hid (G.out.m W11 (TBR.out W11 H11.out))
            go_upto_region 22 with fail
            rw [← hW11]
            clear hW11
            go_wp2_with fail
            refine CM.out.mono ?_
            rintro e w12 ⟨u12, rfl, hu12, hb12⟩
            obtain ⟨a12, c12, rfl, _⟩ := hu12.form
            have H12 : Hid (Below wr.heap.size wr w12) := Lib.hid (H11.out.trans (hb12.mono H11.out.size))
            have HU := Lib.hid hu12
            have HY8 := Lib.hid (box_up (box_up (box_up HN8.out HX9.out.1) HDB.out) hb12)
            have HY9 := Lib.hid (box_up (box_up HX9.out.2 HDB.out) hb12)
            have HY11 := Lib.hid (box_up HN11.out hb12)
            clear hb12 hu12 CM t0 HN8 HX9 HN11 HDB H8 H9 H10 H11
            have HC12 := Lib.hid (HC.out.up H12.out)
            go_wp2_with fail
            go_roundw
            case rel => exact ⟨_, rfl, by omega, by omega, Lib.hid (HR.out.trans (H12.out.mono HR.out.size))⟩
            case measure => simp [intOf]
          · have z0 : (e2 != 0) = true := by rw [bne_iff_ne]; exact h0
            have hx : x2 = [] := X2.out h0
            subst hx
            clear h0 G0 G1 G2 G3 G4 X0 X1 X2 X3 X4
            go_wp2_with fail
            go_roundw
            case rel => exact ⟨_, rfl, by omega, by omega, HR⟩
            case measure => simp [intOf]
        · as_aux_lemma =>
          have HC : Hid (BkS w wr ft fn en eg et el ew s1 s2 (.slice av ml.length cv) ml) := Lib.hid (H7.out.1.up HR.out)
          have HT : Hid (∀ W, Below wr.heap.size wr W → W.heap[bT]? = some (.cells #[str x0, str x1, str x2, str x3, str x4] 9 (0, 0)) ∧ W.heap[bT + 1]? = some (.cells #[.int .i64 e0, .int .i64 e1, .int .i64 e2, .int .i64 e3, .int .i64 e4] 30 (0, 0))) := Lib.hid (fun W h => ⟨box_up (box_up H7.out.2.1 HR.out) h, box_up (box_up H7.out.2.2 HR.out) h⟩)
          have TBR : Hid (∀ W, Below wr.heap.size wr W → TabJ W.heap.size W) := Lib.hid (fun W h => TB.out W (HC.out.hb.trans (h.mono HC.out.hb.size)))
          have t0 := box_cell (HT.out wr (Below.refl _ _)).1 3
          have t1 := box_cell (HT.out wr (Below.refl _ _)).2 3
          by_cases h0 : e3 = 0
          · have z0 : (e3 != 0) = false := by rw [h0]; rfl
            have G := Lib.hid (G3.out h0)
            clear h0 G0 G1 G2 G3 G4 X0 X1 X2 X3 X4
            have CF := Lib.hid (G.out.f wr (TBR.out wr (Below.refl _ _)))
            go_wp2_with fail
            refine CF.out.mono ?_
            rintro e w8 ⟨rfl, hb8⟩
            obtain ⟨W8, hW8⟩ : ∃ W8, W8 = w8.alloc (.cells #[str [], .int .i64 0] 23) := ⟨_, rfl⟩
            have hx8 : Below w8.heap.size w8 W8 := by rw [hW8]; exact below_alloc _ _
            have hn8 : W8.heap[w8.heap.size]? = some (.cells #[str [], .int .i64 0] 23 (0, 0)) := by rw [hW8]; exact heap_alloc_new _ _
            have H8 : Hid (Below wr.heap.size wr W8) := Lib.hid (hb8.trans (hx8.mono hb8.size))
            have HN8 := Lib.hid hn8
            clear t0 t1 hb8 hx8 hn8 CF
            have t0 := box_cell (HT.out W8 H8.out).1 3
            have t1 := box_cell (HC.out.up H8.out).b6 0
            have HKS : Hid (∀ W', Below W8.heap.size W8 W' → W'.cell? ⟨bT, 3, none⟩ = some (str x3) ∧ W'.cell? ⟨w.heap.size + 1, 0, none⟩ = some (.int .i64 en)) := Lib.hid (fun W' hb => ⟨(hb.cell (p := ⟨bT, 3, none⟩) (World.block_lt_of_cell? W8 _ t0)).trans t0, (hb.cell (p := ⟨w.heap.size + 1, 0, none⟩) (World.block_lt_of_cell? W8 _ t1)).trans t1⟩)
            have CE : Hid (∀ W, Hid (Below W8.heap.size W8 W) → Calls Tryz.prog 13 #[str x3, .int .i64 en] W fun e w' => e = .returned (.tuple #[.agg #[.int .i64 0, str [], str [], str [], .int .i64 0], .bool false]) ∧ Hid (Below W8.heap.size W8 w') ∧ Hid (Below W.heap.size W w')) := Lib.hid (fun W hb => (G.out.e W (TBR.out W (H8.out.trans (hb.out.mono H8.out.size)))).mono (by
              rintro e w' ⟨rfl, h'⟩
              exact ⟨rfl, Lib.hid (hb.out.trans (h'.mono hb.out.size)), Lib.hid h'⟩))
            have HB : Hid (Below W8.heap.size W8 W8.drew) := Lib.hid (Below.drewsN (Below.refl _ _) 1)
            have HWc : Hid (Below W8.heap.size W8 (W8.alloc (.cells #[.int .i64 0, .string ⟨#[]⟩, .string ⟨#[]⟩, .string ⟨#[]⟩, .int .i64 0] 25)).drew) := Lib.hid ((below_alloc W8 _).trans ((Below.drewsN (Below.refl _ _) 1).mono (below_alloc W8 (.cells #[.int .i64 0, .string ⟨#[]⟩, .string ⟨#[]⟩, .string ⟨#[]⟩, .int .i64 0] 25)).size))
            have HZ0 : Hid (((W8.alloc (.cells #[.int .i64 0, .string ⟨#[]⟩, .string ⟨#[]⟩, .string ⟨#[]⟩, .int .i64 0] 25)).drew).heap[W8.heap.size]? = some (.cells #[.int .i64 0, .string ⟨#[]⟩, .string ⟨#[]⟩, .string ⟨#[]⟩, .int .i64 0] 25 (0, 0))) := Lib.hid (heap_alloc_new W8 _)
            go_upto_region 19 with fail
            rw [← hW8]
            clear hW8
            go_cut [26, 27] from 120 to 129 (fun v26 v27 wc => ∃ B : Nat, v26 = .pointer (some ⟨B, 0, none⟩) ∧ v27 = .bool false ∧ Hid (Below W8.heap.size W8 wc ∧ wc.heap[B]? = some (.cells #[.int .i64 0, str [], str [], str [], .int .i64 0] 25 (0, 0))))
            case first =>
              go_wp2_with fail
              go_region_held3 (fun W' => W'.cell? ⟨bT, 3, none⟩ = some (str x3) ∧ W'.cell? ⟨w.heap.size + 1, 0, none⟩ = some (.int .i64 en))
                (first | (exact HKS.out _ HB.out) | (exact HKS.out _ HWc.out) | (exact HKS.out _ (HB.out.trans ((below_alloc _ _).mono HB.out.size))) | (exact HKS.out _ (HB.out.trans ((five_set HZ.out.1 _ _ _ _ _).2.below HB.out.size (fun i e => by have := HZ.out.2; omega)))) | go_keep)
                ((first
                  | (go_at_call 13; refine (CE.out _ HWc).mono ?_; rintro e w9 ⟨rfl, HB, HBW⟩; have HZ := Lib.hid (And.intro (box_up HZ0.out HBW.out) (Nat.le_refl W8.heap.size)); clear HBW; have d0 := box_cell HZ.out.1 0; have d1 := box_cell HZ.out.1 1; have d2 := box_cell HZ.out.1 2; have d3 := box_cell HZ.out.1 3; have d4 := box_cell HZ.out.1 4; have df := box_fr HZ.out.1)
                  | (go_at_call 13; refine (CE.out _ HB).mono ?_; rintro e w9 ⟨rfl, HB, _⟩)
                  | fail))
              all_goals
                clear t0 t1 HKS
                go_wp2_with fail
                go_meet
                case rel => first | (exact ⟨_, rfl, rfl, Lib.hid ⟨HB.out.trans ((below_alloc _ _).mono HB.out.size), heap_alloc_new _ _⟩⟩) | (exact ⟨_, rfl, rfl, Lib.hid (by
                  have h5 := five_set HZ.out.1 (.int .i64 0) (str []) (str []) (str []) (.int .i64 0)
                  exact ⟨HB.out.trans (h5.2.below HB.out.size (fun i e => by have := HZ.out.2; omega)), h5.1⟩)⟩)
            case rest =>
            obtain ⟨B, rfl, rfl, HX9⟩ := hcut
            have H9 : Hid (Below wr.heap.size wr wc) := Lib.hid (H8.out.trans (HX9.out.1.mono H8.out.size))
            clear t0 t1 HKS CE HB HWc HZ0
            have t0 := box_cell (HT.out wc H9.out).1 3
            have CB := Lib.hid (G.out.b wc (TBR.out wc H9.out))
            go_wp2_with fail
            refine CB.out.mono ?_
            rintro e w10 ⟨rfl, hb10⟩
            have H10 : Hid (Below wr.heap.size wr w10) := Lib.hid (H9.out.trans (hb10.mono H9.out.size))
            have HDA : Hid (Below wc.heap.size wc w10) := Lib.hid hb10
            clear hb10 CB t0
            have t0 := box_cell (HT.out w10 H10.out).1 3
            have CS := Lib.hid (G.out.t w10 (TBR.out w10 H10.out))
            go_wp2_with fail
            refine CS.out.mono ?_
            rintro e w11 ⟨rfl, hb11⟩
            obtain ⟨W11, hW11⟩ : ∃ W11, W11 = w11.alloc (.cells #[.int .i64 s1, .int .i64 s2] 27) := ⟨_, rfl⟩
            have hx11 : Below w11.heap.size w11 W11 := by rw [hW11]; exact below_alloc _ _
            have hn11 : W11.heap[w11.heap.size]? = some (.cells #[.int .i64 s1, .int .i64 s2] 27 (0, 0)) := by rw [hW11]; exact heap_alloc_new _ _
            have hy11 := hb11.trans (hx11.mono hb11.size)
            have H11 : Hid (Below wr.heap.size wr W11) := Lib.hid (H10.out.trans (hy11.mono H10.out.size))
            have HDB : Hid (Below wc.heap.size wc W11) := Lib.hid (HDA.out.trans (hy11.mono HDA.out.size))
            have HN11 := Lib.hid hn11
            clear hb11 hx11 hn11 hy11 CS t0 HDA
            have t0 := box_cell (HT.out W11 H11.out).1 3
            have CM := Lib.hid (G.out.m W11 (TBR.out W11 H11.out))
            go_upto_region 22 with fail
            rw [← hW11]
            clear hW11
            go_wp2_with fail
            refine CM.out.mono ?_
            rintro e w12 ⟨u12, rfl, hu12, hb12⟩
            obtain ⟨a12, c12, rfl, _⟩ := hu12.form
            have H12 : Hid (Below wr.heap.size wr w12) := Lib.hid (H11.out.trans (hb12.mono H11.out.size))
            have HU := Lib.hid hu12
            have HY8 := Lib.hid (box_up (box_up (box_up HN8.out HX9.out.1) HDB.out) hb12)
            have HY9 := Lib.hid (box_up (box_up HX9.out.2 HDB.out) hb12)
            have HY11 := Lib.hid (box_up HN11.out hb12)
            clear hb12 hu12 CM t0 HN8 HX9 HN11 HDB H8 H9 H10 H11
            have HC12 := Lib.hid (HC.out.up H12.out)
            have p0 := box_cell HY11.out 0
            have q0 := box_cell HC12.out.b8 0
            have p1 := box_cell HY11.out 1
            have q1 := box_cell HC12.out.b8 1
            go_wp2_with fail
            go_roundw
            case rel => exact ⟨_, rfl, by omega, by omega, Lib.hid (HR.out.trans (H12.out.mono HR.out.size))⟩
            case measure => simp [intOf]
          · have z0 : (e3 != 0) = true := by rw [bne_iff_ne]; exact h0
            have hx : x3 = [] := X3.out h0
            subst hx
            clear h0 G0 G1 G2 G3 G4 X0 X1 X2 X3 X4
            go_wp2_with fail
            go_roundw
            case rel => exact ⟨_, rfl, by omega, by omega, HR⟩
            case measure => simp [intOf]
        · as_aux_lemma =>
          have HC : Hid (BkS w wr ft fn en eg et el ew s1 s2 (.slice av ml.length cv) ml) := Lib.hid (H7.out.1.up HR.out)
          have HT : Hid (∀ W, Below wr.heap.size wr W → W.heap[bT]? = some (.cells #[str x0, str x1, str x2, str x3, str x4] 9 (0, 0)) ∧ W.heap[bT + 1]? = some (.cells #[.int .i64 e0, .int .i64 e1, .int .i64 e2, .int .i64 e3, .int .i64 e4] 30 (0, 0))) := Lib.hid (fun W h => ⟨box_up (box_up H7.out.2.1 HR.out) h, box_up (box_up H7.out.2.2 HR.out) h⟩)
          have TBR : Hid (∀ W, Below wr.heap.size wr W → TabJ W.heap.size W) := Lib.hid (fun W h => TB.out W (HC.out.hb.trans (h.mono HC.out.hb.size)))
          have t0 := box_cell (HT.out wr (Below.refl _ _)).1 4
          have t1 := box_cell (HT.out wr (Below.refl _ _)).2 4
          by_cases h0 : e4 = 0
          · have z0 : (e4 != 0) = false := by rw [h0]; rfl
            have G := Lib.hid (G4.out h0)
            clear h0 G0 G1 G2 G3 G4 X0 X1 X2 X3 X4
            have CF := Lib.hid (G.out.f wr (TBR.out wr (Below.refl _ _)))
            go_wp2_with fail
            refine CF.out.mono ?_
            rintro e w8 ⟨rfl, hb8⟩
            obtain ⟨W8, hW8⟩ : ∃ W8, W8 = w8.alloc (.cells #[str [], .int .i64 0] 23) := ⟨_, rfl⟩
            have hx8 : Below w8.heap.size w8 W8 := by rw [hW8]; exact below_alloc _ _
            have hn8 : W8.heap[w8.heap.size]? = some (.cells #[str [], .int .i64 0] 23 (0, 0)) := by rw [hW8]; exact heap_alloc_new _ _
            have H8 : Hid (Below wr.heap.size wr W8) := Lib.hid (hb8.trans (hx8.mono hb8.size))
            have HN8 := Lib.hid hn8
            clear t0 t1 hb8 hx8 hn8 CF
            have t0 := box_cell (HT.out W8 H8.out).1 4
            have t1 := box_cell (HC.out.up H8.out).b6 0
            have HKS : Hid (∀ W', Below W8.heap.size W8 W' → W'.cell? ⟨bT, 4, none⟩ = some (str x4) ∧ W'.cell? ⟨w.heap.size + 1, 0, none⟩ = some (.int .i64 en)) := Lib.hid (fun W' hb => ⟨(hb.cell (p := ⟨bT, 4, none⟩) (World.block_lt_of_cell? W8 _ t0)).trans t0, (hb.cell (p := ⟨w.heap.size + 1, 0, none⟩) (World.block_lt_of_cell? W8 _ t1)).trans t1⟩)
            have CE : Hid (∀ W, Hid (Below W8.heap.size W8 W) → Calls Tryz.prog 13 #[str x4, .int .i64 en] W fun e w' => e = .returned (.tuple #[.agg #[.int .i64 0, str [], str [], str [], .int .i64 0], .bool false]) ∧ Hid (Below W8.heap.size W8 w') ∧ Hid (Below W.heap.size W w')) := Lib.hid (fun W hb => (G.out.e W (TBR.out W (H8.out.trans (hb.out.mono H8.out.size)))).mono (by
              rintro e w' ⟨rfl, h'⟩
              exact ⟨rfl, Lib.hid (hb.out.trans (h'.mono hb.out.size)), Lib.hid h'⟩))
            have HB : Hid (Below W8.heap.size W8 W8.drew) := Lib.hid (Below.drewsN (Below.refl _ _) 1)
            have HWc : Hid (Below W8.heap.size W8 (W8.alloc (.cells #[.int .i64 0, .string ⟨#[]⟩, .string ⟨#[]⟩, .string ⟨#[]⟩, .int .i64 0] 25)).drew) := Lib.hid ((below_alloc W8 _).trans ((Below.drewsN (Below.refl _ _) 1).mono (below_alloc W8 (.cells #[.int .i64 0, .string ⟨#[]⟩, .string ⟨#[]⟩, .string ⟨#[]⟩, .int .i64 0] 25)).size))
            have HZ0 : Hid (((W8.alloc (.cells #[.int .i64 0, .string ⟨#[]⟩, .string ⟨#[]⟩, .string ⟨#[]⟩, .int .i64 0] 25)).drew).heap[W8.heap.size]? = some (.cells #[.int .i64 0, .string ⟨#[]⟩, .string ⟨#[]⟩, .string ⟨#[]⟩, .int .i64 0] 25 (0, 0))) := Lib.hid (heap_alloc_new W8 _)
            go_upto_region 19 with fail
            rw [← hW8]
            clear hW8
            go_cut [26, 27] from 120 to 129 (fun v26 v27 wc => ∃ B : Nat, v26 = .pointer (some ⟨B, 0, none⟩) ∧ v27 = .bool false ∧ Hid (Below W8.heap.size W8 wc ∧ wc.heap[B]? = some (.cells #[.int .i64 0, str [], str [], str [], .int .i64 0] 25 (0, 0))))
            case first =>
              go_wp2_with fail
              go_region_held3 (fun W' => W'.cell? ⟨bT, 4, none⟩ = some (str x4) ∧ W'.cell? ⟨w.heap.size + 1, 0, none⟩ = some (.int .i64 en))
                (first | (exact HKS.out _ HB.out) | (exact HKS.out _ HWc.out) | (exact HKS.out _ (HB.out.trans ((below_alloc _ _).mono HB.out.size))) | (exact HKS.out _ (HB.out.trans ((five_set HZ.out.1 _ _ _ _ _).2.below HB.out.size (fun i e => by have := HZ.out.2; omega)))) | go_keep)
                ((first
                  | (go_at_call 13; refine (CE.out _ HWc).mono ?_; rintro e w9 ⟨rfl, HB, HBW⟩; have HZ := Lib.hid (And.intro (box_up HZ0.out HBW.out) (Nat.le_refl W8.heap.size)); clear HBW; have d0 := box_cell HZ.out.1 0; have d1 := box_cell HZ.out.1 1; have d2 := box_cell HZ.out.1 2; have d3 := box_cell HZ.out.1 3; have d4 := box_cell HZ.out.1 4; have df := box_fr HZ.out.1)
                  | (go_at_call 13; refine (CE.out _ HB).mono ?_; rintro e w9 ⟨rfl, HB, _⟩)
                  | fail))
              all_goals
                clear t0 t1 HKS
                go_wp2_with fail
                go_meet
                case rel => first | (exact ⟨_, rfl, rfl, Lib.hid ⟨HB.out.trans ((below_alloc _ _).mono HB.out.size), heap_alloc_new _ _⟩⟩) | (exact ⟨_, rfl, rfl, Lib.hid (by
                  have h5 := five_set HZ.out.1 (.int .i64 0) (str []) (str []) (str []) (.int .i64 0)
                  exact ⟨HB.out.trans (h5.2.below HB.out.size (fun i e => by have := HZ.out.2; omega)), h5.1⟩)⟩)
            case rest =>
            obtain ⟨B, rfl, rfl, HX9⟩ := hcut
            have H9 : Hid (Below wr.heap.size wr wc) := Lib.hid (H8.out.trans (HX9.out.1.mono H8.out.size))
            clear t0 t1 HKS CE HB HWc HZ0
            have t0 := box_cell (HT.out wc H9.out).1 4
            have CB := Lib.hid (G.out.b wc (TBR.out wc H9.out))
            go_wp2_with fail
            refine CB.out.mono ?_
            rintro e w10 ⟨rfl, hb10⟩
            have H10 : Hid (Below wr.heap.size wr w10) := Lib.hid (H9.out.trans (hb10.mono H9.out.size))
            have HDA : Hid (Below wc.heap.size wc w10) := Lib.hid hb10
            clear hb10 CB t0
            have t0 := box_cell (HT.out w10 H10.out).1 4
            have CS := Lib.hid (G.out.t w10 (TBR.out w10 H10.out))
            go_wp2_with fail
            refine CS.out.mono ?_
            rintro e w11 ⟨rfl, hb11⟩
            obtain ⟨W11, hW11⟩ : ∃ W11, W11 = w11.alloc (.cells #[.int .i64 0, .int .i64 0] 27) := ⟨_, rfl⟩
            have hx11 : Below w11.heap.size w11 W11 := by rw [hW11]; exact below_alloc _ _
            have hn11 : W11.heap[w11.heap.size]? = some (.cells #[.int .i64 0, .int .i64 0] 27 (0, 0)) := by rw [hW11]; exact heap_alloc_new _ _
            have hy11 := hb11.trans (hx11.mono hb11.size)
            have H11 : Hid (Below wr.heap.size wr W11) := Lib.hid (H10.out.trans (hy11.mono H10.out.size))
            have HDB : Hid (Below wc.heap.size wc W11) := Lib.hid (HDA.out.trans (hy11.mono HDA.out.size))
            have HN11 := Lib.hid hn11
            clear hb11 hx11 hn11 hy11 CS t0 HDA
            have t0 := box_cell (HT.out W11 H11.out).1 4
            have CM := Lib.hid (G.out.m W11 (TBR.out W11 H11.out))
            go_upto_region 22 with fail
            rw [← hW11]
            clear hW11
            go_wp2_with fail
            refine CM.out.mono ?_
            rintro e w12 ⟨u12, rfl, hu12, hb12⟩
            obtain ⟨a12, c12, rfl, _⟩ := hu12.form
            have H12 : Hid (Below wr.heap.size wr w12) := Lib.hid (H11.out.trans (hb12.mono H11.out.size))
            have HU := Lib.hid hu12
            have HY8 := Lib.hid (box_up (box_up (box_up HN8.out HX9.out.1) HDB.out) hb12)
            have HY9 := Lib.hid (box_up (box_up HX9.out.2 HDB.out) hb12)
            have HY11 := Lib.hid (box_up HN11.out hb12)
            clear hb12 hu12 CM t0 HN8 HX9 HN11 HDB H8 H9 H10 H11
            have HC12 := Lib.hid (HC.out.up H12.out)
            have CQ := Lib.hid (marks_any _ ml w12 HC12.out.mks (by omega))
            go_wp2_with fail
            refine CQ.out.mono ?_
            rintro e w13 ⟨u13, rfl, hu13, hb13⟩
            have CR := Lib.hid (samek_any _ _ ml w13 (HU.out.up hb13) hu13 (by omega))
            obtain ⟨a13, c13, rfl, _⟩ := hu13.form
            have H13 : Hid (Below wr.heap.size wr w13) := Lib.hid (H12.out.trans (hb13.mono H12.out.size))
            clear hb13 hu13 CQ
            go_wp2_with fail
            refine CR.out.mono ?_
            rintro e w14 ⟨rfl, hb14⟩
            have H14 : Hid (Below wr.heap.size wr w14) := Lib.hid (H13.out.trans (hb14.mono H13.out.size))
            clear hb14 CR
            go_wp2_with fail
            go_roundw
            case rel => exact ⟨_, rfl, by omega, by omega, Lib.hid (HR.out.trans (H14.out.mono HR.out.size))⟩
            case measure => simp [intOf]
          · have z0 : (e4 != 0) = true := by rw [bne_iff_ne]; exact h0
            have hx : x4 = [] := X4.out h0
            subst hx
            clear h0 G0 G1 G2 G3 G4 X0 X1 X2 X3 X4
            go_wp2_with fail
            go_roundw
            case rel => exact ⟨_, rfl, by omega, by omega, HR⟩
            case measure => simp [intOf]
        · have CF := Lib.hid (FST.out wr)
          have HC : Hid (Below w.heap.size w wr) := Lib.hid (H7.out.1.hb.trans (HR.out.mono H7.out.1.hb.size))
          go_wp2_with fail
          refine CF.out.mono ?_
          rintro e w99 ⟨rfl, hb99⟩
          have HX := Lib.hid (HC.out.trans (hb99.mono HC.out.size))
          clear hb99 CF
          go_wp2_with fail
          go_ret
          exact ⟨rfl, HX.out⟩
end Go.Proofs.YtegblhmcfemfgaaGreatDoor
namespace Go.Proofs.YtegblhmcfemfgaaGreatDoor
open Go.ChangeShapes Go.WideShapes Go.ChangeAt Go.RowKit

theorem wf_u8 {x : Int} (h : (Lit.int .u8 x).wf = true) : 0 ≤ x ∧ x < 256 := by
  have h1 : IntKind.u8.min = 0 := rfl
  have h2 : IntKind.u8.max = 255 := rfl
  simp only [Lit.wf, Bool.and_eq_true, decide_eq_true_eq] at h
  omega
theorem wf_i64 {x : Int} (h : (Lit.int .i64 x).wf = true) : -9223372036854775808 ≤ x ∧ x ≤ 9223372036854775807 := by
  have h1 : IntKind.i64.min = -9223372036854775808 := rfl
  have h2 : IntKind.i64.max = 9223372036854775807 := rfl
  simp only [Lit.wf, Bool.and_eq_true, decide_eq_true_eq] at h
  omega

/-- A slice of bytes that came in, nil or not, reads as some bytes. -/
theorem rd_open {H : Type} {enc : TypeId × Value → H} {P : Program} {t e : TypeId} (ht : P.underlying t = some (.slice e)) (he : P.underlying e = some (.int .u8)) (hc : P.cellsOf e = 1) {W : World} {a0 : Option Addr} {len cap : Nat} {d : DataW H} {p : List MemPlace}
    (h : DataW.Trod enc P W 0 (fun _ => true) true t (.slice a0 len cap) d p) : ∃ l : List UInt8, Rd W (.slice a0 len cap) l := by
  obtain ⟨fuel, hf⟩ := h
  rcases open_ints ht he hc hf with ⟨hcs, _⟩ | ⟨x, l, c, zs, hcs, _, hl, hm, hz, _, hcell, hwz⟩
  · simp [Value.cells] at hcs
    obtain ⟨rfl, rfl, rfl⟩ := hcs
    exact ⟨[], Rd.nil W⟩
  · simp [Value.cells] at hcs
    obtain ⟨rfl, rfl, rfl⟩ := hcs
    have hz' : zs.length = cap := by simpa using hz
    have hlen : ((zs.take len).map fun n => UInt8.ofNat n.toNat).length = len := by simp; omega
    refine ⟨(zs.take len).map fun n => UInt8.ofNat n.toNat, some x, cap, by rw [hlen], by omega, hm, (fun h => by cases h), fun hne => ?_⟩
    have hpos : 0 < zs.length := by
      rcases Nat.eq_zero_or_pos zs.length with h0 | h0
      · exfalso; apply hne; rw [List.eq_nil_of_length_eq_zero h0]; simp
      · exact h0
    obtain ⟨b, off, spot⟩ := x
    have hspot : spot = none := by simpa [Addr.add] using World.cell?_spot (hcell 0 hpos)
    subst hspot
    refine ⟨b, off, rfl, fun i hi => ?_⟩
    have hi' : i < len := by rw [hlen] at hi; exact hi
    have hiz : i < zs.length := by omega
    have := hcell i hiz
    rw [Addr.add_lit] at this
    rw [this]
    have hw := wf_u8 (hwz zs[i] (List.getElem_mem hiz))
    simp only [List.getElem_map, List.getElem_take, bv, UInt8.toNat_ofNat', List.getD_eq_getElem?_getD, List.getElem?_eq_getElem hiz, Option.getD_some]
    congr 2
    omega
end Go.Proofs.YtegblhmcfemfgaaGreatDoor
namespace Go.Proofs.YtegblhmcfemfgaaGreatDoor
open Go.ChangeShapes Go.WideShapes Go.ChangeAt Go.RowKit Go.Deep

theorem array2 {α : Type} {cs : Array α} (h : cs.size = 2) : ∃ c0 c1, cs = #[c0, c1] := by
  obtain ⟨l⟩ := cs
  match l, h with
  | [c0, c1], _ => exact ⟨c0, c1, rfl⟩
theorem mark_open {H : Type} {enc : TypeId × Value → H} {P : Program} {W : World} {base : Nat} {T : TypeId} {n0 n1 : Field} {v : Value} {d : DataW H} {p : List MemPlace} (hs : P.underlying T = some (.struct #[n0, n1])) (hc : P.cellsOf T = 2)
    (o : (n0.offset = 0 ∧ n1.offset = 1) ∧ P.cellsOf n0.type = 1 ∧ P.cellsOf n1.type = 1) (u0 : P.underlying n0.type = some (.int .i64)) (u1 : P.underlying n1.type = some (.int .i64))
    (hv : Value.okWide P W .any base T v) (h : DataW.Trod enc P W 0 (fun _ => true) true T v d p) : ∃ q : MarkT, v = .agg #[.int .i64 q.1, .int .i64 q.2] ∧ (-9223372036854775808 ≤ q.1 ∧ q.1 ≤ 9223372036854775807) ∧ (-9223372036854775808 ≤ q.2 ∧ q.2 ≤ 9223372036854775807) := by
  obtain ⟨cs, rfl, hsz⟩ := okWide_struct hs hv
  obtain ⟨c0, c1, rfl⟩ := array2 (hsz.trans hc)
  obtain ⟨fuel, hf⟩ := h
  obtain ⟨xs, n, _, _, hl, hlen, hx⟩ := DataW.trod_struct hs hf
  obtain ⟨⟨o0, o1⟩, k0, k1⟩ := o
  match xs, hlen with
  | [y0, y1], _ =>
    have h0 := hx 0 n0 rfl
    have h1 := hx 1 n1 rfl
    simp only [o0, o1, k0, k1, Value.cells, List.drop_succ_cons, List.drop_zero, List.take_succ_cons, List.take_zero] at h0 h1
    obtain ⟨i0, e0, _, w0⟩ := DataW.trod_int u0 h0
    obtain ⟨i1, e1, _, w1⟩ := DataW.trod_int u1 h1
    simp only [List.cons.injEq, and_true] at e0 e1
    subst e0 e1
    exact ⟨(i0, i1), rfl, wf_i64 w0, wf_i64 w1⟩
theorem marks_open {H : Type} {enc : TypeId × Value → H} {P : Program} {t e : TypeId} {f0 f1 : Field} (ht : P.underlying t = some (.slice e)) (he : P.underlying e = some (.struct #[f0, f1])) (ce : P.cellsOf e = 2)
    (o : (f0.offset = 0 ∧ f1.offset = 1) ∧ P.cellsOf f0.type = 1 ∧ P.cellsOf f1.type = 1)
    (u0 : P.underlying f0.type = some (.int .i64)) (u1 : P.underlying f1.type = some (.int .i64)) {W : World} {a0 : Option Addr} {len cap : Nat} {d : DataW H} {p : List MemPlace}
    (h : DataW.Trod enc P W 0 (fun _ => true) true t (.slice a0 len cap) d p) : ∃ l : List MarkT, RdMk W (.slice a0 len cap) l ∧ (a0 = none → cap = 0) ∧ ∀ x ∈ l, (-9223372036854775808 ≤ x.1 ∧ x.1 ≤ 9223372036854775807) ∧ (-9223372036854775808 ≤ x.2 ∧ x.2 ≤ 9223372036854775807) := by
  obtain ⟨⟨o0, o1⟩, c0, c1⟩ := o
  obtain ⟨fuel, hf⟩ := h
  rcases Go.Deep.open_slice ht hf with ⟨hcs, _⟩ | ⟨x, n, c, m, _, D, Pl, hcs, _, hl, hm, hmm, _, hx⟩
  · simp [Value.cells] at hcs
    obtain ⟨rfl, rfl, rfl⟩ := hcs
    exact ⟨[], ⟨none, 0, rfl, by simp, by simp, by simp, fun h => absurd rfl h⟩, fun _ => rfl, by simp⟩
  · simp [Value.cells] at hcs
    obtain ⟨rfl, rfl, rfl⟩ := hcs
    have hmc : m = cap := by simpa using hmm
    have each : ∀ i, i < m → ∃ q : MarkT, ((-9223372036854775808 ≤ q.1 ∧ q.1 ≤ 9223372036854775807) ∧ (-9223372036854775808 ≤ q.2 ∧ q.2 ≤ 9223372036854775807)) ∧ W.cell? (x.add (i * 2)) = some (.int .i64 q.1) ∧ W.cell? (x.add (i * 2 + 1)) = some (.int .i64 q.2) := by
      intro i hi
      obtain ⟨cs', h1, h2⟩ := hx i hi
      rw [ce] at h1
      obtain ⟨_, hlen, hcell⟩ := World.cells?_some h1
      obtain ⟨xs, k, hk, hxy, _, hxl, hf⟩ := DataW.trod_struct he h2
      match xs, hxl, cs', hlen with
      | [y0, y1], _, [v0, v1], _ =>
        have g0 := hf 0 f0 rfl
        have g1 := hf 1 f1 rfl
        simp [o0, o1, c0, c1] at g0 g1
        obtain ⟨z0, e0, _, w0⟩ := DataW.trod_int u0 g0
        obtain ⟨z1, e1, _, w1⟩ := DataW.trod_int u1 g1
        simp only [List.cons.injEq, and_true] at e0 e1
        subst e0; subst e1
        have k0 := hcell 0 (by omega)
        have k1 := hcell 1 (by omega)
        rw [Go.Deep.add_add] at k0 k1
        exact ⟨(z0, z1), ⟨wf_i64 w0, wf_i64 w1⟩, by simpa using k0, by simpa using k1⟩
    obtain ⟨q, hq⟩ := Go.Deep.choose_lt each
    refine ⟨(List.range len).map q, ⟨some x, cap, by simp, by simp; simp only [maxLen] at hm; omega, by simp; omega, by simp only [maxLen] at hm; omega, fun hne => ?_⟩, (fun h => by cases h), fun y hy => ?_⟩
    · have hpos : 0 < len := by
        rcases Nat.eq_zero_or_pos len with h0 | h0
        · exfalso; apply hne; rw [h0]; simp
        · exact h0
      obtain ⟨b, off, spot⟩ := x
      have hspot : spot = none := by simpa [Addr.add] using World.cell?_spot (hq 0 (by omega)).2.1
      subst hspot
      refine ⟨b, off, rfl, fun i hi j u hu => ?_⟩
      have hi' : i < len := by simpa using hi
      have := (hq i (by omega)).2
      simp only [Addr.add_lit] at this
      simp only [List.getElem_map, List.getElem_range] at hu
      match j, hu with
      | 0, hu => simp [cellsM] at hu; subst hu; exact this.1
      | 1, hu => simp [cellsM] at hu; subst hu; exact this.2
      | (j + 2), hu => simp [cellsM] at hu
    · obtain ⟨i, hi, rfl⟩ := List.mem_map.1 hy
      exact (hq i (by have := List.mem_range.1 hi; omega)).1
end Go.Proofs.YtegblhmcfemfgaaGreatDoor
namespace Go.Proofs.YtegblhmcfemfgaaGreatDoor
open Go.ChangeShapes Go.WideShapes Go.ChangeAt Go.RowKit Go.Deep

theorem feed_open {H : Type} {enc : TypeId × Value → H} {P : Program} {W : World} {base : Nat} {T : TypeId} {n0 n1 : Field} {v : Value} {d : DataW H} {p : List MemPlace} (hs : P.underlying T = some (.struct #[n0, n1])) (hc : P.cellsOf T = 2)
    (o : (n0.offset = 0 ∧ n1.offset = 1) ∧ P.cellsOf n0.type = 1 ∧ P.cellsOf n1.type = 1) (u0 : P.underlying n0.type = some .string) (u1 : P.underlying n1.type = some (.int .i64))
    (hv : Value.okWide P W .any base T v) (h : DataW.Trod enc P W 0 (fun _ => true) true T v d p) : ∃ (t : List UInt8) (n : Int), v = .agg #[str t, .int .i64 n] ∧ t.length ≤ 9223372036854775807 ∧ (-9223372036854775808 ≤ n ∧ n ≤ 9223372036854775807) := by
  obtain ⟨cs, rfl, hsz⟩ := okWide_struct hs hv
  obtain ⟨c0, c1, rfl⟩ := array2 (hsz.trans hc)
  obtain ⟨fuel, hf⟩ := h
  obtain ⟨xs, n, _, _, hl, hlen, hx⟩ := DataW.trod_struct hs hf
  obtain ⟨⟨o0, o1⟩, k0, k1⟩ := o
  match xs, hlen with
  | [y0, y1], _ =>
    have h0 := hx 0 n0 rfl
    have h1 := hx 1 n1 rfl
    simp only [o0, o1, k0, k1, Value.cells, List.drop_succ_cons, List.drop_zero, List.take_succ_cons, List.take_zero] at h0 h1
    obtain ⟨i0, e0, _, w0⟩ := DataW.trod_string u0 h0
    obtain ⟨i1, e1, _, w1⟩ := DataW.trod_int u1 h1
    simp only [List.cons.injEq, and_true] at e0 e1
    subst e0 e1
    have g0 : i0.data.toList.length ≤ 9223372036854775807 := by
      have e : i0.data.toList.length = i0.size := by cases i0; rfl
      rw [e]; unfold maxLen at w0; exact w0
    exact ⟨i0.data.toList, i1, by cases i0; rfl, g0, wf_i64 w1⟩
theorem array5 {α : Type} {cs : Array α} (h : cs.size = 5) : ∃ c0 c1 c2 c3 c4, cs = #[c0, c1, c2, c3, c4] := by
  obtain ⟨l⟩ := cs
  match l, h with
  | [c0, c1, c2, c3, c4], _ => exact ⟨c0, c1, c2, c3, c4, rfl⟩
theorem str_lens (i : ByteArray) (h : i.size ≤ maxLen) : i.data.toList.length ≤ 9223372036854775807 := by
  have e : i.data.toList.length = i.size := by cases i; rfl
  rw [e]; unfold maxLen at h; exact h
theorem entry_open {H : Type} {enc : TypeId × Value → H} {P : Program} {W : World} {base : Nat} {T : TypeId} {n0 n1 n2 n3 n4 : Field} {v : Value} {d : DataW H} {p : List MemPlace} (hs : P.underlying T = some (.struct #[n0, n1, n2, n3, n4])) (hc : P.cellsOf T = 5)
    (o : (n0.offset = 0 ∧ n1.offset = 1 ∧ n2.offset = 2 ∧ n3.offset = 3 ∧ n4.offset = 4) ∧ P.cellsOf n0.type = 1 ∧ P.cellsOf n1.type = 1 ∧ P.cellsOf n2.type = 1 ∧ P.cellsOf n3.type = 1 ∧ P.cellsOf n4.type = 1)
    (u0 : P.underlying n0.type = some (.int .i64)) (u1 : P.underlying n1.type = some .string) (u2 : P.underlying n2.type = some .string) (u3 : P.underlying n3.type = some .string) (u4 : P.underlying n4.type = some (.int .i64))
    (hv : Value.okWide P W .any base T v) (h : DataW.Trod enc P W 0 (fun _ => true) true T v d p) :
    ∃ (m : Int) (g t l : List UInt8) (n : Int), v = .agg #[.int .i64 m, str g, str t, str l, .int .i64 n] ∧ g.length ≤ 9223372036854775807 ∧ t.length ≤ 9223372036854775807 ∧ l.length ≤ 9223372036854775807 := by
  obtain ⟨cs, rfl, hsz⟩ := okWide_struct hs hv
  obtain ⟨c0, c1, c2, c3, c4, rfl⟩ := array5 (hsz.trans hc)
  obtain ⟨fuel, hf⟩ := h
  obtain ⟨xs, n, _, _, hl, hlen, hx⟩ := DataW.trod_struct hs hf
  obtain ⟨⟨o0, o1, o2, o3, o4⟩, k0, k1, k2, k3, k4⟩ := o
  match xs, hlen with
  | [y0, y1, y2, y3, y4], _ =>
    have h0 := hx 0 n0 rfl
    have h1 := hx 1 n1 rfl
    have h2 := hx 2 n2 rfl
    have h3 := hx 3 n3 rfl
    have h4 := hx 4 n4 rfl
    simp only [o0, o1, o2, o3, o4, k0, k1, k2, k3, k4, Value.cells, List.drop_succ_cons, List.drop_zero, List.take_succ_cons, List.take_zero] at h0 h1 h2 h3 h4
    obtain ⟨i0, e0, _, w0⟩ := DataW.trod_int u0 h0
    obtain ⟨i1, e1, _, w1⟩ := DataW.trod_string u1 h1
    obtain ⟨i2, e2, _, w2⟩ := DataW.trod_string u2 h2
    obtain ⟨i3, e3, _, w3⟩ := DataW.trod_string u3 h3
    obtain ⟨i4, e4, _, w4⟩ := DataW.trod_int u4 h4
    simp only [List.cons.injEq, and_true] at e0 e1 e2 e3 e4
    subst e0 e1 e2 e3 e4
    exact ⟨i0, i1.data.toList, i2.data.toList, i3.data.toList, i4, by cases i1; cases i2; cases i3; rfl, str_lens _ w1, str_lens _ w2, str_lens _ w3⟩
end Go.Proofs.YtegblhmcfemfgaaGreatDoor
namespace Go.Proofs.YtegblhmcfemfgaaGreatDoor
open Go.RowKit

theorem back_main (ft : List UInt8) (fn em : Int) (eg et el : List UInt8) (ew : Int) (fo : ByteArray) (s1 s2 : Int) (vl : Value) (ml : List MarkT) (w : World) (_ : ft.length ≤ 9223372036854775807) (_ : -9223372036854775808 ≤ fn ∧ fn ≤ 9223372036854775807)
    (hg : eg.length ≤ 9223372036854775807) (ht : et.length ≤ 9223372036854775807) (hl : el.length ≤ 9223372036854775807) (hfo : fo.size ≤ maxLen) (_ : -9223372036854775808 ≤ s1 ∧ s1 ≤ 9223372036854775807) (_ : -9223372036854775808 ≤ s2 ∧ s2 ≤ 9223372036854775807)
    (hv : RdMk w vl ml) (_ : ∀ c, vl = .slice none 0 c → c = 0) (_ : ∀ x ∈ ml, (-9223372036854775808 ≤ x.1 ∧ x.1 ≤ 9223372036854775807) ∧ (-9223372036854775808 ≤ x.2 ∧ x.2 ≤ 9223372036854775807)) (hT : TabJ w.heap.size w) :
    Calls Tryz.prog 3 #[.agg #[str ft, .int .i64 fn], .agg #[.int .i64 em, str eg, str et, str el, .int .i64 ew], .string fo, .agg #[.int .i64 s1, .int .i64 s2], vl] w fun e w' => e = .returned (.bool true) ∧ Below w.heap.size w w' := by
  obtain ⟨⟨l⟩⟩ := fo
  exact back_row ft fn em eg et el ew l s1 s2 vl ml w (by unfold maxLen at hfo; exact hfo) hg hl ht hv hT
end Go.Proofs.YtegblhmcfemfgaaGreatDoor
