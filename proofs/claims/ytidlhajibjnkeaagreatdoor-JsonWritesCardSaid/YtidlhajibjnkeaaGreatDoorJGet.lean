/- JSON: Get. -/
import Derived.Test.YtidlhajibjnkeaaGreatDoorJCopy
namespace Go.Proofs.YtidlhajibjnkeaaGreatDoor
open Go.RowKit

def fndM : List MemT → List UInt8 → Option JV
  | [], _ => none
  | (a, v) :: t, nm => if (a == nm) = true then some v else fndM t nm
/-- The first member of a name. -/
def getJ (v : JV) (nm : List UInt8) : Option JV := if v.kind = 7 then fndM v.m nm else none
/-- What Get tells. -/
def GetP (w : World) (r : Option JV) (e : Ending) (w' : World) : Prop :=
  match r with
  | none => e = .returned (.tuple #[.agg #[.int .i64 0, .int .i64 0, str [], .slice none 0 0, .slice none 0 0], .bool false]) ∧ Below w.heap.size w w'
  | some x => ∃ cs', e = .returned (.tuple #[.agg cs'.toArray, .bool true]) ∧ RdJ w' (fun i => w.heap.size ≤ i) x cs' ∧ Below w.heap.size w w'
theorem fndM_at {m : List MemT} {k : Nat} {nm : List UInt8} (h : k < m.length) : fndM (m.drop k) nm = if (m[k].1 == nm) = true then some m[k].2 else fndM (m.drop (k + 1)) nm := by
  rw [List.drop_eq_getElem_cons h]
  obtain ⟨a, b⟩ := m[k]
  rfl
set_option maxRecDepth 100000 in
set_option maxHeartbeats 8000000 in
theorem get_any (v : JV) (nm : List UInt8) (hsz : szV v ≤ 1000000000) (F : Nat → Prop) (w : World) (cs : List Value) (h : RdJ w F v cs) : Calls Tryz.prog 15 #[.agg cs.toArray, str nm] w (GetP w (getJ v nm)) := by
  obtain ⟨al, ll, cl, am, lm, cm, rfl, _, ⟨rm, hrm, hmm, rfl⟩⟩ := h.open
  have hZ : v.m.length ≤ 1000000000 := by
    have := szV_mk v
    have := szM_len v.m
    omega
  have HL := Lib.hid (And.intro hrm hmm)
  have HS : Hid (∀ x ∈ v.m, szV x.2 ≤ 1000000000) := Lib.hid (fun x hx => by
    have := szV_mk v
    have := szM_mem hx
    omega)
  obtain ⟨W0, hW0⟩ : ∃ W0, W0 = (w.alloc (.cells #[.int .i64 v.kind, .int .i64 v.n, str v.s, .slice al ll cl, .slice am v.m.length cm] 28)).alloc (.cells #[.int .i64 0, .int .i64 0, .string ⟨#[]⟩, .slice none 0 0, .slice none 0 0] 28) := ⟨_, rfl⟩
  have H0 : Hid (Below w.heap.size w W0 ∧ W0.heap[w.heap.size]? = some (.cells #[.int .i64 v.kind, .int .i64 v.n, str v.s, .slice al ll cl, .slice am v.m.length cm] 28 (0, 0)) ∧ W0.heap[w.heap.size + 1]? = some (.cells #[.int .i64 0, .int .i64 0, str [], .slice none 0 0, .slice none 0 0] 28 (0, 0)) ∧ w.heap.size + 2 ≤ W0.heap.size) := Lib.hid (by
    have hb : Below w.heap.size w W0 := by rw [hW0]; exact ((Below.refl _ _).alloc (Nat.le_refl _) _).alloc (by simp) _
    refine ⟨hb, ?_, ?_, by rw [hW0]; simp⟩
    · rw [hW0]; exact box_up (heap_alloc_new w _) (below_alloc _ _)
    · rw [hW0]
      have := heap_alloc_new (w.alloc (.cells #[.int .i64 v.kind, .int .i64 v.n, str v.s, .slice al ll cl, .slice am v.m.length cm] 28)) (.cells #[.int .i64 0, .int .i64 0, .string ⟨#[]⟩, .slice none 0 0, .slice none 0 0] 28)
      simpa using this)
  unfold getJ
  clear h hrm hmm hsz
  by_cases h7 : v.kind = 7
  · rw [if_pos h7]
    have t1 : (v.kind != 7) = false := by rw [h7]; rfl
    obtain ⟨R, hR⟩ : ∃ R, R = fndM v.m nm := ⟨_, rfl⟩
    rw [← hR]
    have HR := Lib.hid hR
    clear h7 hR
    go_enter Tryz.func15, Tryz.ntmps15
    go_upto_region 1 with fail
    rw [← hW0]
    clear hW0
    have q0 := box_cell H0.out.2.1 0
    have q4 := box_cell H0.out.2.1 4
    go_wp2_with fail
    clear q0 q4
    go_loopw [15] (fun v15 wr => ∃ k : Nat, k ≤ v.m.length ∧ v15 = .int .i64 (k : Int) ∧ Hid (R = fndM (v.m.drop k) nm) ∧ Hid (Below (w.heap.size + 2) W0 wr)) (fun v15 _ => v.m.length - (intOf v15).toNat)
    case atStart => exact ⟨0, Nat.zero_le _, rfl, Lib.hid (by rw [List.drop_zero]; exact HR.out), Lib.hid (Below.refl _ _)⟩
    case round =>
      obtain ⟨k, hk, rfl, HK, HB0⟩ := hrel
      have HWW : Hid (Below w.heap.size w wr) := Lib.hid (H0.out.1.trans (HB0.out.mono (by omega)))
      have HZR : Hid (wr.heap[w.heap.size + 1]? = some (.cells #[.int .i64 0, .int .i64 0, str [], .slice none 0 0, .slice none 0 0] 28 (0, 0)) ∧ w.heap.size + 2 ≤ wr.heap.size) := Lib.hid ⟨by
        rw [HB0.out.block _ (by omega)]; exact H0.out.2.2.1, Nat.le_trans H0.out.2.2.2 HB0.out.size⟩
      by_cases hlt : k < v.m.length
      · have n1 : (k : Int) < (v.m.length : Int) := by omega
        have n3 : (0 : Int) ≤ (k : Int) := by omega
        obtain ⟨b, off, a, n, c, a', n', c', rfl, _, hbw, hx, c0, c1, c2, c3, c4, c5⟩ := RdJ.memb HL.out.1 HL.out.2 hlt
        have HSX := Lib.hid (HS.out _ (List.getElem_mem hlt))
        have hst := HK.out
        rw [fndM_at hlt] at hst
        obtain ⟨x, hxx⟩ : ∃ x, x = v.m[k].2 := ⟨_, rfl⟩
        obtain ⟨nk, hnm⟩ : ∃ nk, nk = v.m[k].1 := ⟨_, rfl⟩
        rw [← hxx] at hx c1 c2 c3 HSX hst
        rw [← hnm] at c0 hst
        clear hxx hnm
        have e0 : wr.cell? ⟨b, off + k * 6, none⟩ = some (str nk) := (HWW.out.cell (p := ⟨b, off + k * 6, none⟩) hbw).trans c0
        have e1 : wr.cell? ⟨b, off + k * 6 + 1, none⟩ = some (.int .i64 x.kind) := (HWW.out.cell (p := ⟨b, off + k * 6 + 1, none⟩) hbw).trans c1
        have e2 : wr.cell? ⟨b, off + k * 6 + 2, none⟩ = some (.int .i64 x.n) := (HWW.out.cell (p := ⟨b, off + k * 6 + 2, none⟩) hbw).trans c2
        have e3 : wr.cell? ⟨b, off + k * 6 + 3, none⟩ = some (str x.s) := (HWW.out.cell (p := ⟨b, off + k * 6 + 3, none⟩) hbw).trans c3
        have e4 : wr.cell? ⟨b, off + k * 6 + 4, none⟩ = some (.slice a n c) := (HWW.out.cell (p := ⟨b, off + k * 6 + 4, none⟩) hbw).trans c4
        have e5 : wr.cell? ⟨b, off + k * 6 + 5, none⟩ = some (.slice a' n' c') := (HWW.out.cell (p := ⟨b, off + k * 6 + 5, none⟩) hbw).trans c5
        obtain ⟨W1, hW1⟩ : ∃ W1, W1 = wr.alloc (.cells #[str nk, .int .i64 x.kind, .int .i64 x.n, str x.s, .slice a n c, .slice a' n' c'] 53) := ⟨_, rfl⟩
        have hb1 : Below wr.heap.size wr W1 := by rw [hW1]; exact below_alloc _ _
        have hbx : W1.heap[wr.heap.size]? = some (.cells #[str nk, .int .i64 x.kind, .int .i64 x.n, str x.s, .slice a n c, .slice a' n' c'] 53 (0, 0)) := by rw [hW1]; exact heap_alloc_new wr _
        have HX1 := Lib.hid (And.intro hb1 (And.intro hbx (hx.up (HWW.out.trans (hb1.mono HWW.out.size)))))
        clear hx c0 c1 c2 c3 c4 c5 hbw HK
        go_upto_region 6 with fail
        rw [← hW1]
        clear hW1 e0 e1 e2 e3 e4 e5 hb1 hbx
        have p0 := box_cell HX1.out.2.1 0
        cases hB : (nk == nm) with
        | true =>
          rw [hB, if_pos rfl] at hst
          have HE := Lib.hid hst
          have CV := Lib.hid (copy_any x HSX.out F W1 _ HX1.out.2.2)
          have p1 := box_cell HX1.out.2.1 1
          have p2 := box_cell HX1.out.2.1 2
          have p3 := box_cell HX1.out.2.1 3
          have p4 := box_cell HX1.out.2.1 4
          have p5 := box_cell HX1.out.2.1 5
          clear hst
          go_wp2_with fail
          refine CV.out.mono ?_
          rintro e w2 ⟨cs2, rfl, hv2, hb2⟩
          obtain ⟨a2, n2, c2, a3, m3, c3, rfl, _, _⟩ := hv2.open
          have hz2 : w2.heap[w.heap.size + 1]? = some (.cells #[.int .i64 0, .int .i64 0, str [], .slice none 0 0, .slice none 0 0] 28 (0, 0)) := box_up (box_up HZR.out.1 HX1.out.1) hb2
          have d0 := box_cell hz2 0
          have d1 := box_cell hz2 1
          have d2 := box_cell hz2 2
          have d3 := box_cell hz2 3
          have d4 := box_cell hz2 4
          have df := box_fr hz2
          have HV2 := Lib.hid (And.intro hv2 (And.intro hb2 hz2))
          clear hv2 hb2 hz2 CV p0 p1 p2 p3 p4 p5
          go_wp2_with fail
          refine bodyPost_any_world (fun X => X.heap[w.heap.size + 1]? = some (.cells #[.int .i64 x.kind, .int .i64 x.n, str x.s, .slice a2 n2 c2, .slice a3 m3 c3] 28 (0, 0)) ∧ Frm (fun i => i = w.heap.size + 1) w2 X) (five_set HV2.out.2.2 _ _ _ _ _) ?_
          clear d0 d1 d2 d3 d4 df
          rintro w9 ⟨h9, hf9⟩
          have k0 := box_cell h9 0
          have k1 := box_cell h9 1
          have k2 := box_cell h9 2
          have k3 := box_cell h9 3
          have k4 := box_cell h9 4
          refine bodyPost_ret (v := .tuple #[.agg #[.int .i64 x.kind, .int .i64 x.n, str x.s, .slice a2 n2 c2, .slice a3 m3 c3], .bool true]) (by simp [results, Tryz.results15, go_sem, k0, k1, k2, k3, k4]) rfl ?_
          rw [HE.out]
          have hs1 : wr.heap.size ≤ W1.heap.size := HX1.out.1.size
          refine ⟨_, rfl, (HV2.out.1.frm hf9 (fun i hi e => by have := HZR.out.2; omega)).mono (fun i _ hi => by have := HZR.out.2; omega), ?_⟩
          exact (HWW.out.trans (HX1.out.1.mono HWW.out.size)).trans ((HV2.out.2.1.mono (by have := HWW.out.size; omega)).trans (hf9.below (by have := HWW.out.size; have := HV2.out.2.1.size; omega) (fun k hk => by omega)))
        | false =>
          rw [hB, if_neg (by simp)] at hst
          have HE := Lib.hid hst
          have HB5 : Hid (Below (w.heap.size + 2) W0 W1) := Lib.hid (HB0.out.trans (HX1.out.1.mono HZR.out.2))
          clear hst
          go_wp2_with fail
          go_roundw
          case rel => exact ⟨k + 1, by omega, by go_num, HE, HB5⟩
          case measure => simp [intOf]; omega
      · obtain rfl : k = v.m.length := by omega
        have n2 : ¬ (v.m.length : Int) < (v.m.length : Int) := by omega
        have HE : Hid (R = none) := Lib.hid (by rw [HK.out, List.drop_length]; rfl)
        have d0 := box_cell HZR.out.1 0
        have d1 := box_cell HZR.out.1 1
        have d2 := box_cell HZR.out.1 2
        have d3 := box_cell HZR.out.1 3
        have d4 := box_cell HZR.out.1 4
        have df := box_fr HZR.out.1
        clear HK
        go_wp2_with fail
        refine bodyPost_any_world (fun X => X.heap[w.heap.size + 1]? = some (.cells #[.int .i64 0, .int .i64 0, str [], .slice none 0 0, .slice none 0 0] 28 (0, 0)) ∧ Frm (fun i => i = w.heap.size + 1) wr X) (five_set HZR.out.1 _ _ _ _ _) ?_
        clear d0 d1 d2 d3 d4 df
        rintro w9 ⟨h9, hf9⟩
        have k0 := box_cell h9 0
        have k1 := box_cell h9 1
        have k2 := box_cell h9 2
        have k3 := box_cell h9 3
        have k4 := box_cell h9 4
        refine bodyPost_ret (v := .tuple #[.agg #[.int .i64 0, .int .i64 0, str [], .slice none 0 0, .slice none 0 0], .bool false]) (by simp [results, Tryz.results15, go_sem, k0, k1, k2, k3, k4]) rfl ?_
        rw [HE.out]
        exact ⟨rfl, HWW.out.trans (hf9.below HWW.out.size (fun k hk => by omega))⟩
  · rw [if_neg h7]
    have t1 : (v.kind != 7) = true := by rw [bne_iff_ne]; exact h7
    clear h7
    go_enter Tryz.func15, Tryz.ntmps15
    go_upto_region 1 with fail
    rw [← hW0]
    clear hW0
    have q0 := box_cell H0.out.2.1 0
    have d0 := box_cell H0.out.2.2.1 0
    have d1 := box_cell H0.out.2.2.1 1
    have d2 := box_cell H0.out.2.2.1 2
    have d3 := box_cell H0.out.2.2.1 3
    have d4 := box_cell H0.out.2.2.1 4
    have df := box_fr H0.out.2.2.1
    go_wp2_with fail
    refine bodyPost_any_world (fun X => X.heap[w.heap.size + 1]? = some (.cells #[.int .i64 0, .int .i64 0, str [], .slice none 0 0, .slice none 0 0] 28 (0, 0)) ∧ Frm (fun i => i = w.heap.size + 1) W0 X) (five_set H0.out.2.2.1 _ _ _ _ _) ?_
    clear d0 d1 d2 d3 d4 df
    rintro w9 ⟨h9, hf9⟩
    have k0 := box_cell h9 0
    have k1 := box_cell h9 1
    have k2 := box_cell h9 2
    have k3 := box_cell h9 3
    have k4 := box_cell h9 4
    refine bodyPost_ret (v := .tuple #[.agg #[.int .i64 0, .int .i64 0, str [], .slice none 0 0, .slice none 0 0], .bool false]) (by simp [results, Tryz.results15, go_sem, k0, k1, k2, k3, k4]) rfl ?_
    exact ⟨rfl, H0.out.1.trans (hf9.below H0.out.1.size (fun k hk => by omega))⟩
end Go.Proofs.YtidlhajibjnkeaaGreatDoor
