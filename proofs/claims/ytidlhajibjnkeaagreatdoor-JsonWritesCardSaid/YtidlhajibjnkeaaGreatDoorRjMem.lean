/- hblref1.Member1: an object's first member of a name, for the document. -/
import Derived.Test.YtidlhajibjnkeaaGreatDoorJGet
namespace Go.Proofs.YtidlhajibjnkeaaGreatDoor
open Go.RowKit

set_option maxRecDepth 100000 in
set_option maxHeartbeats 8000000 in
theorem rmember_any (v : JV) (nm : List UInt8) (F : Nat → Prop) (w : World) (cs : List Value) (h : RdJ w F v cs) :
    Calls Tryz.prog 16 #[.agg cs.toArray, str nm] w fun e w' => ∃ cs', e = .returned (.tuple #[.agg cs'.toArray, .bool (getJ v nm).isSome]) ∧ RdJ w' F ((getJ v nm).getD (.mk 0 0 [] [] [])) cs' ∧ Below w.heap.size w w' := by
  obtain ⟨al, ll, cl, am, lm, cm, rfl, _, ⟨rm, hrm, hmm, rfl⟩⟩ := h.open
  have HL := Lib.hid (And.intro hrm hmm)
  have g1 : v.m.length ≤ 9223372036854775807 := (hrm.lens).2.1
  obtain ⟨W0, hW0⟩ : ∃ W0, W0 = (w.alloc (.cells #[.int .i64 v.kind, .int .i64 v.n, str v.s, .slice al ll cl, .slice am v.m.length cm] 35)).alloc (.cells #[.int .i64 0, .int .i64 0, .string ⟨#[]⟩, .slice none 0 0, .slice none 0 0] 35) := ⟨_, rfl⟩
  have H0 : Hid (Below w.heap.size w W0 ∧ W0.heap[w.heap.size]? = some (.cells #[.int .i64 v.kind, .int .i64 v.n, str v.s, .slice al ll cl, .slice am v.m.length cm] 35 (0, 0)) ∧ W0.heap[w.heap.size + 1]? = some (.cells #[.int .i64 0, .int .i64 0, str [], .slice none 0 0, .slice none 0 0] 35 (0, 0)) ∧ w.heap.size + 2 ≤ W0.heap.size) := Lib.hid (by
    have hb : Below w.heap.size w W0 := by rw [hW0]; exact ((Below.refl _ _).alloc (Nat.le_refl _) _).alloc (by simp) _
    refine ⟨hb, ?_, ?_, by rw [hW0]; simp⟩
    · rw [hW0]; exact box_up (heap_alloc_new w _) (below_alloc _ _)
    · rw [hW0]
      have := heap_alloc_new (w.alloc (.cells #[.int .i64 v.kind, .int .i64 v.n, str v.s, .slice al ll cl, .slice am v.m.length cm] 35)) (.cells #[.int .i64 0, .int .i64 0, .string ⟨#[]⟩, .slice none 0 0, .slice none 0 0] 35)
      simpa using this)
  obtain ⟨R, hR⟩ : ∃ R, R = getJ v nm := ⟨_, rfl⟩
  rw [← hR]
  have p0 := box_cell H0.out.2.1 0
  have p4 := box_cell H0.out.2.1 4
  have d0 := box_cell H0.out.2.2.1 0
  have d1 := box_cell H0.out.2.2.1 1
  have d2 := box_cell H0.out.2.2.1 2
  have d3 := box_cell H0.out.2.2.1 3
  have d4 := box_cell H0.out.2.2.1 4
  have df := box_fr H0.out.2.2.1
  clear h hrm hmm
  by_cases h7 : v.kind = 7
  · have t1 : (v.kind == 7) = true := by rw [h7]; rfl
    have HR : Hid (R = fndM v.m nm) := Lib.hid (by rw [hR]; unfold getJ; rw [if_pos h7])
    clear hR h7
    go_enter Tryz.func16, Tryz.ntmps16
    go_upto_region 1 with fail
    rw [← hW0]
    clear hW0
    go_wp2_with fail
    go_loopw [6] (fun v6 wr => ∃ k : Nat, k ≤ v.m.length ∧ v6 = .int .i64 (k : Int) ∧ Hid (R = fndM (v.m.drop k) nm) ∧ wr = W0) (fun v6 _ => v.m.length - (intOf v6).toNat)
    case atStart => exact ⟨0, Nat.zero_le _, rfl, Lib.hid (by rw [List.drop_zero]; exact HR.out), rfl⟩
    case round =>
      obtain ⟨k, hk, rfl, HK, rfl⟩ := hrel
      by_cases hlt : k < v.m.length
      · have n1 : (k : Int) < (v.m.length : Int) := by omega
        have n3 : (0 : Int) ≤ (k : Int) := by omega
        have n4 : decide ((k : Int) < (v.m.length : Int)) = true := decide_eq_true n1
        have n5 : decide (k < v.m.length) = true := decide_eq_true hlt
        obtain ⟨b, off, a, n, c, a', n', c', rfl, _, hbw, hx, c0, c1, c2, c3, c4, c5⟩ := RdJ.memb HL.out.1 HL.out.2 hlt
        have hst := HK.out
        rw [fndM_at hlt] at hst
        obtain ⟨x, hxx⟩ : ∃ x, x = v.m[k].2 := ⟨_, rfl⟩
        obtain ⟨nk, hnm⟩ : ∃ nk, nk = v.m[k].1 := ⟨_, rfl⟩
        rw [← hxx] at hx c1 c2 c3 hst
        rw [← hnm] at c0 hst
        clear hxx hnm
        have e0 := (H0.out.1.cell (p := ⟨b, off + k * 6, none⟩) hbw).trans c0
        have e1 := (H0.out.1.cell (p := ⟨b, off + k * 6 + 1, none⟩) hbw).trans c1
        have e2 := (H0.out.1.cell (p := ⟨b, off + k * 6 + 2, none⟩) hbw).trans c2
        have e3 := (H0.out.1.cell (p := ⟨b, off + k * 6 + 3, none⟩) hbw).trans c3
        have e4 := (H0.out.1.cell (p := ⟨b, off + k * 6 + 4, none⟩) hbw).trans c4
        have e5 := (H0.out.1.cell (p := ⟨b, off + k * 6 + 5, none⟩) hbw).trans c5
        have HX := Lib.hid ((hx.mono (G := fun i => F i ∧ i < w.heap.size) (fun i hi hF => ⟨hF, hi⟩)).up H0.out.1)
        clear hx c0 c1 c2 c3 c4 c5 hbw HK
        cases hB : (nk == nm) with
        | true =>
          rw [hB, if_pos rfl] at hst
          have HE := Lib.hid hst
          clear hst
          go_wp2_with fail
          refine bodyPost_any_world (fun X => X.heap[w.heap.size + 1]? = some (.cells #[.int .i64 x.kind, .int .i64 x.n, str x.s, .slice a n c, .slice a' n' c'] 35 (0, 0)) ∧ Frm (fun i => i = w.heap.size + 1) wr X) (five_set H0.out.2.2.1 _ _ _ _ _) ?_
          clear d0 d1 d2 d3 d4 df p0 p4 e0 e1 e2 e3 e4 e5
          rintro w9 ⟨h9, hf9⟩
          have k0 := box_cell h9 0
          have k1 := box_cell h9 1
          have k2 := box_cell h9 2
          have k3 := box_cell h9 3
          have k4 := box_cell h9 4
          refine bodyPost_ret (v := .tuple #[.agg #[.int .i64 x.kind, .int .i64 x.n, str x.s, .slice a n c, .slice a' n' c'], .bool true]) (by simp [results, Tryz.results16, go_sem, k0, k1, k2, k3, k4]) rfl ?_
          rw [HE.out]
          exact ⟨_, rfl, (HX.out.frm hf9 (fun i hi e => by omega)).mono (fun i _ hi => hi.1), H0.out.1.trans (hf9.below H0.out.1.size (fun k hk => by omega))⟩
        | false =>
          rw [hB, if_neg (by simp)] at hst
          have HE := Lib.hid hst
          clear hst
          go_wp2_with fail
          go_roundw
          case rel => exact ⟨k + 1, by omega, by go_num, HE, by first | rfl | trivial⟩
          case measure => simp [intOf]; omega
      · obtain rfl : k = v.m.length := by omega
        have n2 : ¬ (v.m.length : Int) < (v.m.length : Int) := by omega
        have n4 : decide ((v.m.length : Int) < (v.m.length : Int)) = false := decide_eq_false n2
        have n5 : decide (v.m.length < v.m.length) = false := decide_eq_false (by omega)
        have HE : Hid (R = none) := Lib.hid (by rw [HK.out, List.drop_length]; rfl)
        go_wp2_with fail
        refine bodyPost_any_world (fun X => X.heap[w.heap.size + 1]? = some (.cells #[.int .i64 0, .int .i64 0, str [], .slice none 0 0, .slice none 0 0] 35 (0, 0)) ∧ Frm (fun i => i = w.heap.size + 1) wr X) (five_set H0.out.2.2.1 _ _ _ _ _) ?_
        clear d0 d1 d2 d3 d4 df p0 p4
        rintro w9 ⟨h9, hf9⟩
        have k0 := box_cell h9 0
        have k1 := box_cell h9 1
        have k2 := box_cell h9 2
        have k3 := box_cell h9 3
        have k4 := box_cell h9 4
        refine bodyPost_ret (v := .tuple #[.agg #[.int .i64 0, .int .i64 0, str [], .slice none 0 0, .slice none 0 0], .bool false]) (by simp [results, Tryz.results16, go_sem, k0, k1, k2, k3, k4]) rfl ?_
        rw [HE.out]
        exact ⟨[.int .i64 0, .int .i64 0, str [], .slice none 0 0, .slice none 0 0], rfl, RdJ.mk' (v := .mk 0 0 [] [] []) (RdFB.nil _ _ _) (by unfold RdL; trivial) (RdFB.nil _ _ _) (by unfold RdM; trivial), H0.out.1.trans (hf9.below H0.out.1.size (fun k hk => by omega))⟩
  · have t1 : (v.kind == 7) = false := by rw [beq_eq_false_iff_ne]; exact h7
    have HE : Hid (R = none) := Lib.hid (by rw [hR]; unfold getJ; rw [if_neg h7])
    clear hR h7
    go_enter Tryz.func16, Tryz.ntmps16
    go_upto_region 1 with fail
    rw [← hW0]
    clear hW0
    go_wp2_with fail
    go_loopw [6] (fun v6 wr => v6 = .int .i64 0 ∧ wr = W0) (fun v6 _ => 0)
    case atStart => exact ⟨rfl, rfl⟩
    case round =>
      obtain ⟨rfl, rfl⟩ := hrel
      by_cases hlt : 0 < v.m.length
      · have n1 : (0 : Int) < (v.m.length : Int) := by omega
        have n4 : decide ((0 : Int) < (v.m.length : Int)) = true := decide_eq_true n1
        have n5 : decide (0 < v.m.length) = true := decide_eq_true hlt
        go_wp2_with fail
        refine bodyPost_any_world (fun X => X.heap[w.heap.size + 1]? = some (.cells #[.int .i64 0, .int .i64 0, str [], .slice none 0 0, .slice none 0 0] 35 (0, 0)) ∧ Frm (fun i => i = w.heap.size + 1) wr X) (five_set H0.out.2.2.1 _ _ _ _ _) ?_
        clear d0 d1 d2 d3 d4 df p0 p4
        rintro w9 ⟨h9, hf9⟩
        have k0 := box_cell h9 0
        have k1 := box_cell h9 1
        have k2 := box_cell h9 2
        have k3 := box_cell h9 3
        have k4 := box_cell h9 4
        refine bodyPost_ret (v := .tuple #[.agg #[.int .i64 0, .int .i64 0, str [], .slice none 0 0, .slice none 0 0], .bool false]) (by simp [results, Tryz.results16, go_sem, k0, k1, k2, k3, k4]) rfl ?_
        rw [HE.out]
        exact ⟨[.int .i64 0, .int .i64 0, str [], .slice none 0 0, .slice none 0 0], rfl, RdJ.mk' (v := .mk 0 0 [] [] []) (RdFB.nil _ _ _) (by unfold RdL; trivial) (RdFB.nil _ _ _) (by unfold RdM; trivial), H0.out.1.trans (hf9.below H0.out.1.size (fun k hk => by omega))⟩
      · have n1 : ¬ (0 : Int) < (v.m.length : Int) := by omega
        have n4 : decide ((0 : Int) < (v.m.length : Int)) = false := decide_eq_false n1
        have n5 : decide (0 < v.m.length) = false := decide_eq_false hlt
        go_wp2_with fail
        refine bodyPost_any_world (fun X => X.heap[w.heap.size + 1]? = some (.cells #[.int .i64 0, .int .i64 0, str [], .slice none 0 0, .slice none 0 0] 35 (0, 0)) ∧ Frm (fun i => i = w.heap.size + 1) wr X) (five_set H0.out.2.2.1 _ _ _ _ _) ?_
        clear d0 d1 d2 d3 d4 df p0 p4
        rintro w9 ⟨h9, hf9⟩
        have k0 := box_cell h9 0
        have k1 := box_cell h9 1
        have k2 := box_cell h9 2
        have k3 := box_cell h9 3
        have k4 := box_cell h9 4
        refine bodyPost_ret (v := .tuple #[.agg #[.int .i64 0, .int .i64 0, str [], .slice none 0 0, .slice none 0 0], .bool false]) (by simp [results, Tryz.results16, go_sem, k0, k1, k2, k3, k4]) rfl ?_
        rw [HE.out]
        exact ⟨[.int .i64 0, .int .i64 0, str [], .slice none 0 0, .slice none 0 0], rfl, RdJ.mk' (v := .mk 0 0 [] [] []) (RdFB.nil _ _ _) (by unfold RdL; trivial) (RdFB.nil _ _ _) (by unfold RdM; trivial), H0.out.1.trans (hf9.below H0.out.1.size (fun k hk => by omega))⟩
end Go.Proofs.YtidlhajibjnkeaaGreatDoor
