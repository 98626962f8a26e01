/- hblref1.Same: two values held against one another. -/
import Derived.Test.YtidlhajibjnkeaaGreatDoorJSame
import Derived.Deep.CutRange
namespace Go.Proofs.YtidlhajibjnkeaaGreatDoor
open Go.RowKit

/-- What the document's Same tells of two values, wherever they lie. -/
def RSamC (v : JV) : Prop := ∀ (v' : JV) (F F' : Nat → Prop) (w : World) (cs cs' : List Value), RdJ w F v cs → RdJ w F' v' cs' →
  Calls Tryz.prog 9 #[.agg cs.toArray, .agg cs'.toArray] w fun e w' => e = .returned (.bool (samV v v')) ∧ Below w.heap.size w w'
set_option maxRecDepth 100000 in
set_option maxHeartbeats 32000000 in
theorem rjsame_step (v : JV) (IHL : ∀ x ∈ v.l, RSamC x) (IHM : ∀ x ∈ v.m, RSamC x.2) : RSamC v := by
  intro v' F F' w cs cs' h h'
  obtain ⟨al, ll, cl, am, lm, cm, rfl, ⟨rl, hrl, hll, rfl⟩, rm, hrm, hmm, rfl⟩ := h.open
  obtain ⟨al', ll', cl', am', lm', cm', rfl, ⟨rl', hrl', hll', rfl⟩, rm', hrm', hmm', rfl⟩ := h'.open
  have HGL : Hid (v.l.length ≤ 9223372036854775807 ∧ v.m.length ≤ 9223372036854775807) := Lib.hid ⟨(hrl.lens).2.1, (hrm.lens).2.1⟩
  obtain ⟨W1, hW1⟩ : ∃ W1, W1 = (w.alloc (.cells #[.int .i64 v.kind, .int .i64 v.n, str v.s, .slice al v.l.length cl, .slice am v.m.length cm] 35)).alloc (.cells #[.int .i64 v'.kind, .int .i64 v'.n, str v'.s, .slice al' v'.l.length cl', .slice am' v'.m.length cm'] 35) := ⟨_, rfl⟩
  have HB : Hid (Below w.heap.size w W1 ∧ W1.heap[w.heap.size]? = some (.cells #[.int .i64 v.kind, .int .i64 v.n, str v.s, .slice al v.l.length cl, .slice am v.m.length cm] 35 (0, 0)) ∧ W1.heap[w.heap.size + 1]? = some (.cells #[.int .i64 v'.kind, .int .i64 v'.n, str v'.s, .slice al' v'.l.length cl', .slice am' v'.m.length cm'] 35 (0, 0))) := Lib.hid (by
    refine ⟨by rw [hW1]; exact ((Below.refl _ _).alloc (Nat.le_refl _) _).alloc (by simp) _, by rw [hW1]; exact box_up (heap_alloc_new w _) (below_alloc _ _), ?_⟩
    rw [hW1]
    have := heap_alloc_new (w.alloc (.cells #[.int .i64 v.kind, .int .i64 v.n, str v.s, .slice al v.l.length cl, .slice am v.m.length cm] 35)) (.cells #[.int .i64 v'.kind, .int .i64 v'.n, str v'.s, .slice al' v'.l.length cl', .slice am' v'.m.length cm'] 35)
    simpa using this)
  have HL := Lib.hid (And.intro hrl (And.intro hll (And.intro hrm (And.intro hmm (And.intro hrl' (And.intro hll' (And.intro hrm' hmm')))))))
  have IL : Hid (∀ x ∈ v.l, ∀ (v' : JV) (F F' : Nat → Prop) (w : World) (cs cs' : List Value), RdJ w F x cs → RdJ w F' v' cs' → Calls Tryz.prog 9 #[.agg cs.toArray, .agg cs'.toArray] w fun e w' => e = .returned (.bool (samV x v')) ∧ Below w.heap.size w w') := Lib.hid IHL
  have IM : Hid (∀ x ∈ v.m, ∀ (v' : JV) (F F' : Nat → Prop) (w : World) (cs cs' : List Value), RdJ w F x.2 cs → RdJ w F' v' cs' → Calls Tryz.prog 9 #[.agg cs.toArray, .agg cs'.toArray] w fun e w' => e = .returned (.bool (samV x.2 v')) ∧ Below w.heap.size w w') := Lib.hid IHM
  obtain ⟨R, hR⟩ : ∃ R, R = samV v v' := ⟨_, rfl⟩
  rw [← hR]
  rw [samV_mk] at hR
  have HR := Lib.hid hR
  have p0 := box_cell HB.out.2.1 0
  have p1 := box_cell HB.out.2.1 1
  have p2 := box_cell HB.out.2.1 2
  have p3 := box_cell HB.out.2.1 3
  have p4 := box_cell HB.out.2.1 4
  have q0 := box_cell HB.out.2.2 0
  have q1 := box_cell HB.out.2.2 1
  have q2 := box_cell HB.out.2.2 2
  have q3 := box_cell HB.out.2.2 3
  have q4 := box_cell HB.out.2.2 4
  clear IHL IHM hrl hll hrm hmm h hrl' hll' hrm' hmm' h' hR
  by_cases h0 : v.kind = v'.kind
  · have t0 : (v.kind != v'.kind) = false := by rw [h0]; exact bne_self_eq_false _
    by_cases h1 : v.n = v'.n
    · have t1 : (v.n != v'.n) = false := by rw [h1]; exact bne_self_eq_false _
      by_cases h2 : v.s = v'.s
      · have t2 : (v.s != v'.s) = false := by rw [h2]; exact bne_self_eq_false _
        have t2e : (v.s == v'.s) = true := by rw [h2]; exact beq_self_eq_true _
        by_cases h3 : v.l.length = v'.l.length
        · have t3 : ((v.l.length : Int) != (v'.l.length : Int)) = false := by rw [h3]; exact bne_self_eq_false _
          by_cases h4 : v.m.length = v'.m.length
          · have t4 : ((v.m.length : Int) != (v'.m.length : Int)) = false := by rw [h4]; exact bne_self_eq_false _
            as_aux_lemma =>
              have g0 : v.l.length ≤ 9223372036854775807 := HGL.out.1
              have g1 : v.m.length ≤ 9223372036854775807 := HGL.out.2
              have HR1 : Hid (R = (samL v.l v'.l && samM v.m v'.m)) := Lib.hid (by rw [HR.out, show (v.kind == v'.kind) = true by rw [h0]; exact beq_self_eq_true _, show (v.n == v'.n) = true by rw [h1]; exact beq_self_eq_true _, t2e]; simp)
              have HLE := Lib.hid (And.intro h3 h4)
              clear HR h0 h1 h2 h3 h4
              go_enter Tryz.func9, Tryz.ntmps9
              go_upto_region 1 with fail
              rw [← hW1]
              clear hW1
              go_wp2_with fail
              go_loopw [5] (fun v5 wr => ∃ k : Nat, k ≤ v.l.length ∧ v5 = .int .i64 (k : Int) ∧ Hid (R = (samL (v.l.drop k) (v'.l.drop k) && samM v.m v'.m)) ∧ Hid (Below W1.heap.size W1 wr)) (fun v5 _ => v.l.length - (intOf v5).toNat)
              case atStart => exact ⟨0, Nat.zero_le _, rfl, Lib.hid (by rw [List.drop_zero, List.drop_zero]; exact HR1.out), Lib.hid (Below.refl _ _)⟩
              case round =>
                obtain ⟨k, hk, rfl, HK, HW⟩ := hrel
                clear HR1 p0 p1 p2 p3 p4 q0 q1 q2 q3 q4
                have HWW := Lib.hid (HB.out.1.trans (HW.out.mono HB.out.1.size))
                have p3 := box_cell (box_up HB.out.2.1 HW.out) 3
                by_cases hlt : k < v.l.length
                · have hlt' : k < v'.l.length := by have := HLE.out.1; omega
                  have u1 : (k : Int) < (v.l.length : Int) := by omega
                  have u1' : (k : Int) < (v'.l.length : Int) := by omega
                  have u3 : (0 : Int) ≤ (k : Int) := by omega
                  obtain ⟨b, off, a, n, c, a', n', c', rfl, _, hbw, hx, c0, c1, c2, c3, c4⟩ := RdJ.part HL.out.1 HL.out.2.1 hlt
                  obtain ⟨b2, off2, p, q, r, p', q', r', rfl, _, hbw2, hy, d0, d1, d2, d3, d4⟩ := RdJ.part HL.out.2.2.2.2.1 HL.out.2.2.2.2.2.1 hlt'
                  have HM : Hid (v.l[k] ∈ v.l) := Lib.hid (List.getElem_mem hlt)
                  have HK2 := HK.out
                  rw [samL_at hlt hlt'] at HK2
                  obtain ⟨x, hxx⟩ : ∃ x, x = v.l[k] := ⟨_, rfl⟩
                  obtain ⟨y, hyy⟩ : ∃ y, y = v'.l[k] := ⟨_, rfl⟩
                  rw [← hxx] at hx c0 c1 c2 HM HK2
                  rw [← hyy] at hy d0 d1 d2 HK2
                  clear hxx hyy HK
                  have z0 : Hid (∀ pw : BelowBy wr, pw.W.cell? ⟨b, off + k * 5, none⟩ = some (.int .i64 x.kind)) := Lib.hid (fun pw : BelowBy wr => BelowBy.cell ((HWW.out.cell (p := ⟨b, off + k * 5, none⟩) hbw).trans c0) pw)
                  have z1 : Hid (∀ pw : BelowBy wr, pw.W.cell? ⟨b, off + k * 5 + 1, none⟩ = some (.int .i64 x.n)) := Lib.hid (fun pw : BelowBy wr => BelowBy.cell ((HWW.out.cell (p := ⟨b, off + k * 5 + 1, none⟩) hbw).trans c1) pw)
                  have z2 : Hid (∀ pw : BelowBy wr, pw.W.cell? ⟨b, off + k * 5 + 2, none⟩ = some (str x.s)) := Lib.hid (fun pw : BelowBy wr => BelowBy.cell ((HWW.out.cell (p := ⟨b, off + k * 5 + 2, none⟩) hbw).trans c2) pw)
                  have z3 : Hid (∀ pw : BelowBy wr, pw.W.cell? ⟨b, off + k * 5 + 3, none⟩ = some (.slice a n c)) := Lib.hid (fun pw : BelowBy wr => BelowBy.cell ((HWW.out.cell (p := ⟨b, off + k * 5 + 3, none⟩) hbw).trans c3) pw)
                  have z4 : Hid (∀ pw : BelowBy wr, pw.W.cell? ⟨b, off + k * 5 + 4, none⟩ = some (.slice a' n' c')) := Lib.hid (fun pw : BelowBy wr => BelowBy.cell ((HWW.out.cell (p := ⟨b, off + k * 5 + 4, none⟩) hbw).trans c4) pw)
                  have y0 : Hid (∀ pw : BelowBy wr, pw.W.cell? ⟨b2, off2 + k * 5, none⟩ = some (.int .i64 y.kind)) := Lib.hid (fun pw : BelowBy wr => BelowBy.cell ((HWW.out.cell (p := ⟨b2, off2 + k * 5, none⟩) hbw2).trans d0) pw)
                  have y1 : Hid (∀ pw : BelowBy wr, pw.W.cell? ⟨b2, off2 + k * 5 + 1, none⟩ = some (.int .i64 y.n)) := Lib.hid (fun pw : BelowBy wr => BelowBy.cell ((HWW.out.cell (p := ⟨b2, off2 + k * 5 + 1, none⟩) hbw2).trans d1) pw)
                  have y2 : Hid (∀ pw : BelowBy wr, pw.W.cell? ⟨b2, off2 + k * 5 + 2, none⟩ = some (str y.s)) := Lib.hid (fun pw : BelowBy wr => BelowBy.cell ((HWW.out.cell (p := ⟨b2, off2 + k * 5 + 2, none⟩) hbw2).trans d2) pw)
                  have y3 : Hid (∀ pw : BelowBy wr, pw.W.cell? ⟨b2, off2 + k * 5 + 3, none⟩ = some (.slice p q r)) := Lib.hid (fun pw : BelowBy wr => BelowBy.cell ((HWW.out.cell (p := ⟨b2, off2 + k * 5 + 3, none⟩) hbw2).trans d3) pw)
                  have y4 : Hid (∀ pw : BelowBy wr, pw.W.cell? ⟨b2, off2 + k * 5 + 4, none⟩ = some (.slice p' q' r')) := Lib.hid (fun pw : BelowBy wr => BelowBy.cell ((HWW.out.cell (p := ⟨b2, off2 + k * 5 + 4, none⟩) hbw2).trans d4) pw)
                  have za : Hid (∀ pw : BelowBy wr, pw.W.cell? ⟨w.heap.size, 3, none⟩ = some (.slice (some ⟨b, off, none⟩) v.l.length cl)) := Lib.hid (fun pw : BelowBy wr => BelowBy.cell (box_cell (box_up HB.out.2.1 HW.out) 3) pw)
                  have zb : Hid (∀ pw : BelowBy wr, pw.W.cell? ⟨w.heap.size + 1, 3, none⟩ = some (.slice (some ⟨b2, off2, none⟩) v'.l.length cl')) := Lib.hid (fun pw : BelowBy wr => BelowBy.cell (box_cell (box_up HB.out.2.2 HW.out) 3) pw)
                  have CM : Hid (∀ pp : BelowBy wr, Calls Tryz.prog 9 #[.agg #[.int .i64 x.kind, .int .i64 x.n, str x.s, .slice a n c, .slice a' n' c'], .agg #[.int .i64 y.kind, .int .i64 y.n, str y.s, .slice p q r, .slice p' q' r']] pp.W fun e w' => e = .returned (.bool (samV x y)) ∧ Below pp.W.heap.size pp.W w') := Lib.hid (fun pp => IL.out x HM.out y _ _ pp.W _ _ ((hx.up HWW.out).up pp.h) ((hy.up HWW.out).up pp.h))
                  clear hx hy c0 c1 c2 c3 c4 d0 d1 d2 d3 d4 hbw hbw2
                  cases hBB : samV x y with
                  | false =>
                    have HE : Hid (R = false) := Lib.hid (by rw [HK2, hBB]; rfl)
                    rw [hBB] at CM
                    clear hBB HK2
                    go_wp2_with fail
                    refine wp_region_quiet_below (by kernel_rfl) (by kernel_rfl) ?_
                    repeat (first | go_big_quiet_skip | (go_big_quiet_want; go_big_quiet_op; first | go_big_quiet_on | (simp only [za.out, zb.out, z0.out, z1.out, z2.out, z3.out, z4.out, y0.out, y1.out, y2.out, y3.out, y4.out, Result.andThen, true_and, forall_const, exists_eq_left']; go_big_quiet_on) | go_big_quiet_call ((go_at_call 9; exact Calls.below_of (CM.out _)))) | fail)
                    refine wpQuiet_nil ?_
                    rintro w3 ⟨⟨_, hb3⟩, rfl⟩
                    have HX := Lib.hid (HWW.out.trans (hb3.mono HWW.out.size))
                    clear hb3 CM
                    go_wp2_with fail
                    go_ret
                    exact ⟨by rw [HE.out]; rfl, HX.out⟩
                  | true =>
                    have HE : Hid (R = (samL (v.l.drop (k + 1)) (v'.l.drop (k + 1)) && samM v.m v'.m)) := Lib.hid (by rw [HK2, hBB, Bool.true_and])
                    rw [hBB] at CM
                    clear hBB HK2
                    go_wp2_with fail
                    refine wp_region_quiet_below (by kernel_rfl) (by kernel_rfl) ?_
                    repeat (first | go_big_quiet_skip | (go_big_quiet_want; go_big_quiet_op; first | go_big_quiet_on | (simp only [za.out, zb.out, z0.out, z1.out, z2.out, z3.out, z4.out, y0.out, y1.out, y2.out, y3.out, y4.out, Result.andThen, true_and, forall_const, exists_eq_left']; go_big_quiet_on) | go_big_quiet_call ((go_at_call 9; exact Calls.below_of (CM.out _)))) | fail)
                    refine wpQuiet_nil ?_
                    rintro w3 ⟨⟨_, hb3⟩, rfl⟩
                    have HX := Lib.hid (HW.out.trans (hb3.mono HW.out.size))
                    clear hb3 CM
                    go_wp2_with fail
                    go_roundw
                    case rel => exact ⟨k + 1, by omega, by go_num, HE, HX⟩
                    case measure => simp [intOf]; omega
                · obtain rfl : k = v.l.length := by omega
                  have u2 : ¬ (v.l.length : Int) < (v.l.length : Int) := by omega
                  have HR2 : Hid (R = samM v.m v'.m) := Lib.hid (by rw [HK.out, List.drop_length, HLE.out.1, List.drop_length]; simp [samL])
                  have HW0 := Lib.hid HW.out
                  clear HK HW
                  go_wp2_with fail
                  clear p3
                  go_loopw [6] (fun v6 wr => ∃ k : Nat, k ≤ v.m.length ∧ v6 = .int .i64 (k : Int) ∧ Hid (R = samM (v.m.drop k) (v'.m.drop k)) ∧ Hid (Below W1.heap.size W1 wr)) (fun v6 _ => v.m.length - (intOf v6).toNat)
                  case atStart => exact ⟨0, Nat.zero_le _, rfl, Lib.hid (by rw [List.drop_zero, List.drop_zero]; exact HR2.out), HW0⟩
                  case round =>
                    obtain ⟨k, hk, rfl, HK, HW⟩ := hrel
                    clear HR2 HW0 HWW
                    have HWW := Lib.hid (HB.out.1.trans (HW.out.mono HB.out.1.size))
                    have p4 := box_cell (box_up HB.out.2.1 HW.out) 4
                    by_cases hlt : k < v.m.length
                    · have hlt' : k < v'.m.length := by have := HLE.out.2; omega
                      have u1 : (k : Int) < (v.m.length : Int) := by omega
                      have u1' : (k : Int) < (v'.m.length : Int) := by omega
                      have u3 : (0 : Int) ≤ (k : Int) := by omega
                      obtain ⟨b, off, a, n, c, a', n', c', rfl, _, hbw, hx, c0, c1, c2, c3, c4, c5⟩ := RdJ.memb HL.out.2.2.1 HL.out.2.2.2.1 hlt
                      obtain ⟨b2, off2, p, q, r, p', q', r', rfl, _, hbw2, hy, d0, d1, d2, d3, d4, d5⟩ := RdJ.memb HL.out.2.2.2.2.2.2.1 HL.out.2.2.2.2.2.2.2 hlt'
                      have HM : Hid (v.m[k] ∈ v.m) := Lib.hid (List.getElem_mem hlt)
                      have HK2 := HK.out
                      rw [samM_at hlt hlt'] at HK2
                      obtain ⟨x, hxx⟩ : ∃ x, x = v.m[k] := ⟨_, rfl⟩
                      obtain ⟨y, hyy⟩ : ∃ y, y = v'.m[k] := ⟨_, rfl⟩
                      rw [← hxx] at hx c0 c1 c2 c3 HM HK2
                      rw [← hyy] at hy d0 d1 d2 d3 HK2
                      clear hxx hyy HK
                      obtain ⟨na, x⟩ := x
                      obtain ⟨nb, y⟩ := y
                      dsimp only at hx hy c0 c1 c2 c3 c4 c5 d0 d1 d2 d3 d4 d5 HK2
                      have z0 : Hid (∀ pw : BelowBy wr, pw.W.cell? ⟨b, off + k * 6, none⟩ = some (str na)) := Lib.hid (fun pw : BelowBy wr => BelowBy.cell ((HWW.out.cell (p := ⟨b, off + k * 6, none⟩) hbw).trans c0) pw)
                      have z1 : Hid (∀ pw : BelowBy wr, pw.W.cell? ⟨b, off + k * 6 + 1, none⟩ = some (.int .i64 x.kind)) := Lib.hid (fun pw : BelowBy wr => BelowBy.cell ((HWW.out.cell (p := ⟨b, off + k * 6 + 1, none⟩) hbw).trans c1) pw)
                      have z2 : Hid (∀ pw : BelowBy wr, pw.W.cell? ⟨b, off + k * 6 + 2, none⟩ = some (.int .i64 x.n)) := Lib.hid (fun pw : BelowBy wr => BelowBy.cell ((HWW.out.cell (p := ⟨b, off + k * 6 + 2, none⟩) hbw).trans c2) pw)
                      have z3 : Hid (∀ pw : BelowBy wr, pw.W.cell? ⟨b, off + k * 6 + 3, none⟩ = some (str x.s)) := Lib.hid (fun pw : BelowBy wr => BelowBy.cell ((HWW.out.cell (p := ⟨b, off + k * 6 + 3, none⟩) hbw).trans c3) pw)
                      have z4 : Hid (∀ pw : BelowBy wr, pw.W.cell? ⟨b, off + k * 6 + 4, none⟩ = some (.slice a n c)) := Lib.hid (fun pw : BelowBy wr => BelowBy.cell ((HWW.out.cell (p := ⟨b, off + k * 6 + 4, none⟩) hbw).trans c4) pw)
                      have z5 : Hid (∀ pw : BelowBy wr, pw.W.cell? ⟨b, off + k * 6 + 5, none⟩ = some (.slice a' n' c')) := Lib.hid (fun pw : BelowBy wr => BelowBy.cell ((HWW.out.cell (p := ⟨b, off + k * 6 + 5, none⟩) hbw).trans c5) pw)
                      have y0 : Hid (∀ pw : BelowBy wr, pw.W.cell? ⟨b2, off2 + k * 6, none⟩ = some (str nb)) := Lib.hid (fun pw : BelowBy wr => BelowBy.cell ((HWW.out.cell (p := ⟨b2, off2 + k * 6, none⟩) hbw2).trans d0) pw)
                      have y1 : Hid (∀ pw : BelowBy wr, pw.W.cell? ⟨b2, off2 + k * 6 + 1, none⟩ = some (.int .i64 y.kind)) := Lib.hid (fun pw : BelowBy wr => BelowBy.cell ((HWW.out.cell (p := ⟨b2, off2 + k * 6 + 1, none⟩) hbw2).trans d1) pw)
                      have y2 : Hid (∀ pw : BelowBy wr, pw.W.cell? ⟨b2, off2 + k * 6 + 2, none⟩ = some (.int .i64 y.n)) := Lib.hid (fun pw : BelowBy wr => BelowBy.cell ((HWW.out.cell (p := ⟨b2, off2 + k * 6 + 2, none⟩) hbw2).trans d2) pw)
                      have y3 : Hid (∀ pw : BelowBy wr, pw.W.cell? ⟨b2, off2 + k * 6 + 3, none⟩ = some (str y.s)) := Lib.hid (fun pw : BelowBy wr => BelowBy.cell ((HWW.out.cell (p := ⟨b2, off2 + k * 6 + 3, none⟩) hbw2).trans d3) pw)
                      have y4 : Hid (∀ pw : BelowBy wr, pw.W.cell? ⟨b2, off2 + k * 6 + 4, none⟩ = some (.slice p q r)) := Lib.hid (fun pw : BelowBy wr => BelowBy.cell ((HWW.out.cell (p := ⟨b2, off2 + k * 6 + 4, none⟩) hbw2).trans d4) pw)
                      have y5 : Hid (∀ pw : BelowBy wr, pw.W.cell? ⟨b2, off2 + k * 6 + 5, none⟩ = some (.slice p' q' r')) := Lib.hid (fun pw : BelowBy wr => BelowBy.cell ((HWW.out.cell (p := ⟨b2, off2 + k * 6 + 5, none⟩) hbw2).trans d5) pw)
                      have za : Hid (∀ pw : BelowBy wr, pw.W.cell? ⟨w.heap.size, 4, none⟩ = some (.slice (some ⟨b, off, none⟩) v.m.length cm)) := Lib.hid (fun pw : BelowBy wr => BelowBy.cell (box_cell (box_up HB.out.2.1 HW.out) 4) pw)
                      have zb : Hid (∀ pw : BelowBy wr, pw.W.cell? ⟨w.heap.size + 1, 4, none⟩ = some (.slice (some ⟨b2, off2, none⟩) v'.m.length cm')) := Lib.hid (fun pw : BelowBy wr => BelowBy.cell (box_cell (box_up HB.out.2.2 HW.out) 4) pw)
                      have CM : Hid (∀ pp : BelowBy wr, Calls Tryz.prog 9 #[.agg #[.int .i64 x.kind, .int .i64 x.n, str x.s, .slice a n c, .slice a' n' c'], .agg #[.int .i64 y.kind, .int .i64 y.n, str y.s, .slice p q r, .slice p' q' r']] pp.W fun e w' => e = .returned (.bool (samV x y)) ∧ Below pp.W.heap.size pp.W w') := Lib.hid (fun pp => IM.out (na, x) HM.out y _ _ pp.W _ _ ((hx.up HWW.out).up pp.h) ((hy.up HWW.out).up pp.h))
                      clear hx hy c0 c1 c2 c3 c4 c5 d0 d1 d2 d3 d4 d5 hbw hbw2 HM
                      by_cases hnn : na = nb
                      · have w1 : (na != nb) = false := by rw [hnn]; exact bne_self_eq_false _
                        have w2 : (na == nb) = true := by rw [hnn]; exact beq_self_eq_true _
                        clear hnn
                        cases hBB : samV x y with
                        | false =>
                          have HE : Hid (R = false) := Lib.hid (by rw [HK2, w2, hBB]; rfl)
                          rw [hBB] at CM
                          clear hBB HK2
                          go_wp2_with fail
                          refine wp_region_quiet_below (by kernel_rfl) (by kernel_rfl) ?_
                          repeat (first | go_big_quiet_skip | (go_big_quiet_want; go_big_quiet_op; first | go_big_quiet_on | (simp only [za.out, zb.out, z0.out, z1.out, z2.out, z3.out, z4.out, z5.out, y0.out, y1.out, y2.out, y3.out, y4.out, y5.out, Result.andThen, true_and, forall_const, exists_eq_left']; go_big_quiet_on) | go_big_quiet_call ((go_at_call 9; exact Calls.below_of (CM.out _)))) | fail)
                          refine wpQuiet_nil ?_
                          rintro w3 ⟨⟨_, hb3⟩, rfl⟩
                          have HX := Lib.hid (HWW.out.trans (hb3.mono HWW.out.size))
                          clear hb3 CM
                          go_wp2_with fail
                          go_ret
                          exact ⟨by rw [HE.out]; rfl, HX.out⟩
                        | true =>
                          have HE : Hid (R = samM (v.m.drop (k + 1)) (v'.m.drop (k + 1))) := Lib.hid (by rw [HK2, w2, hBB]; rfl)
                          rw [hBB] at CM
                          clear hBB HK2
                          go_wp2_with fail
                          refine wp_region_quiet_below (by kernel_rfl) (by kernel_rfl) ?_
                          repeat (first | go_big_quiet_skip | (go_big_quiet_want; go_big_quiet_op; first | go_big_quiet_on | (simp only [za.out, zb.out, z0.out, z1.out, z2.out, z3.out, z4.out, z5.out, y0.out, y1.out, y2.out, y3.out, y4.out, y5.out, Result.andThen, true_and, forall_const, exists_eq_left']; go_big_quiet_on) | go_big_quiet_call ((go_at_call 9; exact Calls.below_of (CM.out _)))) | fail)
                          refine wpQuiet_nil ?_
                          rintro w3 ⟨⟨_, hb3⟩, rfl⟩
                          have HX := Lib.hid (HW.out.trans (hb3.mono HW.out.size))
                          clear hb3 CM
                          go_wp2_with fail
                          go_roundw
                          case rel => exact ⟨k + 1, by omega, by go_num, HE, HX⟩
                          case measure => simp [intOf]; omega
                      · have w1 : (na != nb) = true := by rw [bne_iff_ne]; exact hnn
                        have w2 : (na == nb) = false := by rw [beq_eq_false_iff_ne]; exact hnn
                        have HE : Hid (R = false) := Lib.hid (by rw [HK2, w2]; rfl)
                        clear hnn HK2
                        go_wp2_with fail
                        refine wp_region_quiet_below (by kernel_rfl) (by kernel_rfl) ?_
                        repeat (first | go_big_quiet_skip | (go_big_quiet_want; go_big_quiet_op; first | go_big_quiet_on | (simp only [za.out, zb.out, z0.out, y0.out, Result.andThen, true_and, forall_const, exists_eq_left']; go_big_quiet_on) | go_big_quiet_call ((go_at_call 9; exact Calls.below_of (CM.out _)))) | fail)
                        refine wpQuiet_nil ?_
                        rintro w3 ⟨⟨_, hb3⟩, rfl⟩
                        have HX := Lib.hid (HWW.out.trans (hb3.mono HWW.out.size))
                        clear hb3 CM
                        go_wp2_with fail
                        go_ret
                        exact ⟨by rw [HE.out]; rfl, HX.out⟩
                    · obtain rfl : k = v.m.length := by omega
                      have u2 : ¬ (v.m.length : Int) < (v.m.length : Int) := by omega
                      have HE : Hid (R = true) := Lib.hid (by rw [HK.out, List.drop_length, HLE.out.2, List.drop_length]; rfl)
                      go_wp2_with fail
                      go_ret
                      exact ⟨by rw [HE.out]; rfl, HWW.out⟩
          · have t4 : ((v.m.length : Int) != (v'.m.length : Int)) = true := by rw [bne_iff_ne]; omega
            have HF : Hid (R = false) := Lib.hid (by rw [HR.out]; rw [samM_len h4]; simp)
            clear HR IL IM HL h0 h1 h2 h3 h4
            go_enter Tryz.func9, Tryz.ntmps9
            go_upto_region 1 with fail
            rw [← hW1]
            clear hW1
            go_wp2_with fail
            go_ret
            exact ⟨by rw [HF.out]; rfl, HB.out.1⟩
        · have t3 : ((v.l.length : Int) != (v'.l.length : Int)) = true := by rw [bne_iff_ne]; omega
          have HF : Hid (R = false) := Lib.hid (by rw [HR.out]; rw [samL_len h3]; simp)
          clear HR IL IM HL h0 h1 h2 h3
          go_enter Tryz.func9, Tryz.ntmps9
          go_upto_region 1 with fail
          rw [← hW1]
          clear hW1
          go_wp2_with fail
          go_ret
          exact ⟨by rw [HF.out]; rfl, HB.out.1⟩
      · have t2 : (v.s != v'.s) = true := by rw [bne_iff_ne]; exact h2
        have t2e : (v.s == v'.s) = false := by rw [beq_eq_false_iff_ne]; exact h2
        have HF : Hid (R = false) := Lib.hid (by rw [HR.out]; rw [t2e]; simp)
        clear HR IL IM HL h0 h1 h2
        go_enter Tryz.func9, Tryz.ntmps9
        go_upto_region 1 with fail
        rw [← hW1]
        clear hW1
        go_wp2_with fail
        go_ret
        exact ⟨by rw [HF.out]; rfl, HB.out.1⟩
    · have t1 : (v.n != v'.n) = true := by rw [bne_iff_ne]; exact h1
      have HF : Hid (R = false) := Lib.hid (by rw [HR.out]; rw [show (v.n == v'.n) = false by rw [beq_eq_false_iff_ne]; exact h1]; simp)
      clear HR IL IM HL h0 h1
      go_enter Tryz.func9, Tryz.ntmps9
      go_upto_region 1 with fail
      rw [← hW1]
      clear hW1
      go_wp2_with fail
      go_ret
      exact ⟨by rw [HF.out]; rfl, HB.out.1⟩
  · have t0 : (v.kind != v'.kind) = true := by rw [bne_iff_ne]; exact h0
    have HF : Hid (R = false) := Lib.hid (by rw [HR.out]; rw [show (v.kind == v'.kind) = false by rw [beq_eq_false_iff_ne]; exact h0]; rfl)
    clear HR IL IM HL h0
    go_enter Tryz.func9, Tryz.ntmps9
    go_upto_region 1 with fail
    rw [← hW1]
    clear hW1
    go_wp2_with fail
    go_ret
    exact ⟨by rw [HF.out]; rfl, HB.out.1⟩
theorem rsame_any (v : JV) : RSamC v := JV.ind rjsame_step v
end Go.Proofs.YtidlhajibjnkeaaGreatDoor
