/- Joined: RwEntG, RwKind, RwFive. -/
import Derived.Test.YtegblhmcfemfgaaGreatDoorRwJf
namespace Go.Proofs.YtegblhmcfemfgaaGreatDoor
open Go.RowKit

set_option maxRecDepth 100000 in
set_option maxHeartbeats 8000000 in
theorem ifEnt_any (s : List UInt8) (m : Int) (g t l : List UInt8) (n : Int) (w : World) (hg : g.length ≤ 9223372036854775807) (hl : l.length ≤ 9223372036854775807) (htl : t.length ≤ 9223372036854775807) (ht : TabJ w.heap.size w) :
    Calls Tryz.prog 37 #[str s, .agg #[.int .i64 m, str g, str t, str l, .int .i64 n], .func (.func 8) #[] #[]] w fun e w' => e = .returned (.tuple #[.agg (if okR (putEntR g l t n) s = true then #[.int .i64 m, str g, str t, str l, .int .i64 n] else #[.int .i64 0, str [], str [], str [], .int .i64 0]), .bool (okR (putEntR g l t n) s)]) ∧ Below w.heap.size w w' := by
  obtain ⟨Wa, hWa⟩ : ∃ Wa, Wa = (w.alloc (.cells #[.int .i64 m, str g, str t, str l, .int .i64 n] 25)).alloc (.cells #[.int .i64 0, .string ⟨#[]⟩, .string ⟨#[]⟩, .string ⟨#[]⟩, .int .i64 0] 25) := ⟨_, rfl⟩
  have HA : Hid (Below w.heap.size w Wa ∧ Wa.heap[w.heap.size]? = some (.cells #[.int .i64 m, str g, str t, str l, .int .i64 n] 25 (0, 0)) ∧ Wa.heap[w.heap.size + 1]? = some (.cells #[.int .i64 0, str [], str [], str [], .int .i64 0] 25 (0, 0)) ∧ w.heap.size + 2 ≤ Wa.heap.size) := Lib.hid (by
    refine ⟨by rw [hWa]; exact ((Below.refl _ _).alloc (Nat.le_refl _) _).alloc (by simp) _, by rw [hWa]; exact box_up (heap_alloc_new w _) (below_alloc _ _), ?_, by rw [hWa]; simp⟩
    rw [hWa]
    have := heap_alloc_new (w.alloc (.cells #[.int .i64 m, str g, str t, str l, .int .i64 n] 25)) (.cells #[.int .i64 0, .string ⟨#[]⟩, .string ⟨#[]⟩, .string ⟨#[]⟩, .int .i64 0] 25)
    simpa using this)
  have CP := putEnt_any m g t l n Wa hg hl htl (fun w' h' => ht w' (HA.out.1.trans (h'.mono HA.out.1.size)))
  have q0 := box_cell HA.out.2.1 0
  have q1 := box_cell HA.out.2.1 1
  have q2 := box_cell HA.out.2.1 2
  have q3 := box_cell HA.out.2.1 3
  have q4 := box_cell HA.out.2.1 4
  unfold okR
  obtain ⟨R1, hR1⟩ : ∃ R1, R1 = (putEntR g l t n).1 := ⟨_, rfl⟩
  obtain ⟨R2, hR2⟩ : ∃ R2, R2 = (putEntR g l t n).2 := ⟨_, rfl⟩
  rw [← hR1, ← hR2] at CP
  rw [← hR1, ← hR2]
  have CP := Lib.hid CP
  clear hR1 hR2 ht
  cases t1 : (R2 == 0) with
  | false =>
    go_enter Tryz.func37, Tryz.ntmps37
    go_upto_region 1 with fail
    rw [← hWa]
    clear hWa
    go_wp2_with fail
    refine CP.out.mono ?_
    rintro e w2 ⟨rfl, hb2⟩
    have hz : (w2.alloc (.cells #[.int .i64 0, .string ⟨#[]⟩, .string ⟨#[]⟩, .string ⟨#[]⟩, .int .i64 0] 25)).heap[w.heap.size + 1]? = some (.cells #[.int .i64 0, str [], str [], str [], .int .i64 0] 25 (0, 0)) := box_up (box_up HA.out.2.2.1 hb2) (below_alloc _ _)
    have d0 := box_cell hz 0
    have d1 := box_cell hz 1
    have d2 := box_cell hz 2
    have d3 := box_cell hz 3
    have d4 := box_cell hz 4
    have df := box_fr hz
    have HB : Hid (Below w.heap.size w (w2.alloc (.cells #[.int .i64 0, .string ⟨#[]⟩, .string ⟨#[]⟩, .string ⟨#[]⟩, .int .i64 0] 25)) ∧ w.heap.size + 2 ≤ (w2.alloc (.cells #[.int .i64 0, .string ⟨#[]⟩, .string ⟨#[]⟩, .string ⟨#[]⟩, .int .i64 0] 25)).heap.size) := Lib.hid ⟨(HA.out.1.trans (hb2.mono HA.out.1.size)).trans ((below_alloc w2 (.cells #[.int .i64 0, .string ⟨#[]⟩, .string ⟨#[]⟩, .string ⟨#[]⟩, .int .i64 0] 25)).mono (Nat.le_trans HA.out.1.size hb2.size)), Nat.le_trans (Nat.le_trans HA.out.2.2.2 hb2.size) (below_alloc w2 (.cells #[.int .i64 0, .string ⟨#[]⟩, .string ⟨#[]⟩, .string ⟨#[]⟩, .int .i64 0] 25)).size⟩
    have HZ := Lib.hid hz
    clear hz hb2 CP q0 q1 q2 q3 q4
    go_wp2_with fail
    refine bodyPost_any_world (fun X => X.heap[w.heap.size + 1]? = some (.cells #[.int .i64 0, str [], str [], str [], .int .i64 0] 25 (0, 0)) ∧ Frm (fun i => i = w.heap.size + 1) (w2.alloc (.cells #[.int .i64 0, .string ⟨#[]⟩, .string ⟨#[]⟩, .string ⟨#[]⟩, .int .i64 0] 25)) X) (five_set HZ.out _ _ _ _ _) ?_
    clear d0 d1 d2 d3 d4 df
    rintro w9 ⟨h9, hf9⟩
    have k0 := box_cell h9 0
    have k1 := box_cell h9 1
    have k2 := box_cell h9 2
    have k3 := box_cell h9 3
    have k4 := box_cell h9 4
    refine bodyPost_ret (v := .tuple #[.agg #[.int .i64 0, str [], str [], str [], .int .i64 0], .bool false]) (by simp [results, Tryz.results37, go_sem, k0, k1, k2, k3, k4]) rfl ?_
    exact ⟨rfl, HB.out.1.trans (hf9.below (by have := HB.out.2; omega) (fun k hk => by omega))⟩
  | true =>
    cases t2 : (R1 == s) with
    | false =>
      go_enter Tryz.func37, Tryz.ntmps37
      go_upto_region 1 with fail
      rw [← hWa]
      clear hWa
      go_wp2_with fail
      refine CP.out.mono ?_
      rintro e w2 ⟨rfl, hb2⟩
      have hz : (w2.alloc (.cells #[.int .i64 0, .string ⟨#[]⟩, .string ⟨#[]⟩, .string ⟨#[]⟩, .int .i64 0] 25)).heap[w.heap.size + 1]? = some (.cells #[.int .i64 0, str [], str [], str [], .int .i64 0] 25 (0, 0)) := box_up (box_up HA.out.2.2.1 hb2) (below_alloc _ _)
      have d0 := box_cell hz 0
      have d1 := box_cell hz 1
      have d2 := box_cell hz 2
      have d3 := box_cell hz 3
      have d4 := box_cell hz 4
      have df := box_fr hz
      have HB : Hid (Below w.heap.size w (w2.alloc (.cells #[.int .i64 0, .string ⟨#[]⟩, .string ⟨#[]⟩, .string ⟨#[]⟩, .int .i64 0] 25)) ∧ w.heap.size + 2 ≤ (w2.alloc (.cells #[.int .i64 0, .string ⟨#[]⟩, .string ⟨#[]⟩, .string ⟨#[]⟩, .int .i64 0] 25)).heap.size) := Lib.hid ⟨(HA.out.1.trans (hb2.mono HA.out.1.size)).trans ((below_alloc w2 (.cells #[.int .i64 0, .string ⟨#[]⟩, .string ⟨#[]⟩, .string ⟨#[]⟩, .int .i64 0] 25)).mono (Nat.le_trans HA.out.1.size hb2.size)), Nat.le_trans (Nat.le_trans HA.out.2.2.2 hb2.size) (below_alloc w2 (.cells #[.int .i64 0, .string ⟨#[]⟩, .string ⟨#[]⟩, .string ⟨#[]⟩, .int .i64 0] 25)).size⟩
      have HZ := Lib.hid hz
      clear hz hb2 CP q0 q1 q2 q3 q4
      go_wp2_with fail
      refine bodyPost_any_world (fun X => X.heap[w.heap.size + 1]? = some (.cells #[.int .i64 0, str [], str [], str [], .int .i64 0] 25 (0, 0)) ∧ Frm (fun i => i = w.heap.size + 1) (w2.alloc (.cells #[.int .i64 0, .string ⟨#[]⟩, .string ⟨#[]⟩, .string ⟨#[]⟩, .int .i64 0] 25)) X) (five_set HZ.out _ _ _ _ _) ?_
      clear d0 d1 d2 d3 d4 df
      rintro w9 ⟨h9, hf9⟩
      have k0 := box_cell h9 0
      have k1 := box_cell h9 1
      have k2 := box_cell h9 2
      have k3 := box_cell h9 3
      have k4 := box_cell h9 4
      refine bodyPost_ret (v := .tuple #[.agg #[.int .i64 0, str [], str [], str [], .int .i64 0], .bool false]) (by simp [results, Tryz.results37, go_sem, k0, k1, k2, k3, k4]) rfl ?_
      exact ⟨rfl, HB.out.1.trans (hf9.below (by have := HB.out.2; omega) (fun k hk => by omega))⟩
    | true =>
      go_enter Tryz.func37, Tryz.ntmps37
      go_upto_region 1 with fail
      rw [← hWa]
      clear hWa
      go_wp2_with fail
      refine CP.out.mono ?_
      rintro e w2 ⟨rfl, hb2⟩
      have hz : w2.heap[w.heap.size + 1]? = some (.cells #[.int .i64 0, str [], str [], str [], .int .i64 0] 25 (0, 0)) := box_up HA.out.2.2.1 hb2
      have d0 := box_cell hz 0
      have d1 := box_cell hz 1
      have d2 := box_cell hz 2
      have d3 := box_cell hz 3
      have d4 := box_cell hz 4
      have df := box_fr hz
      have p0 := box_cell (box_up HA.out.2.1 hb2) 0
      have p1 := box_cell (box_up HA.out.2.1 hb2) 1
      have p2 := box_cell (box_up HA.out.2.1 hb2) 2
      have p3 := box_cell (box_up HA.out.2.1 hb2) 3
      have p4 := box_cell (box_up HA.out.2.1 hb2) 4
      have HB : Hid (Below w.heap.size w w2 ∧ w.heap.size + 2 ≤ w2.heap.size) := Lib.hid ⟨HA.out.1.trans (hb2.mono HA.out.1.size), Nat.le_trans HA.out.2.2.2 hb2.size⟩
      have HZ := Lib.hid hz
      clear hz hb2 CP q0 q1 q2 q3 q4
      go_wp2_with fail
      refine bodyPost_any_world (fun X => X.heap[w.heap.size + 1]? = some (.cells #[.int .i64 m, str g, str t, str l, .int .i64 n] 25 (0, 0)) ∧ Frm (fun i => i = w.heap.size + 1) w2 X) (five_set HZ.out _ _ _ _ _) ?_
      clear d0 d1 d2 d3 d4 df p0 p1 p2 p3 p4
      rintro w9 ⟨h9, hf9⟩
      have k0 := box_cell h9 0
      have k1 := box_cell h9 1
      have k2 := box_cell h9 2
      have k3 := box_cell h9 3
      have k4 := box_cell h9 4
      refine bodyPost_ret (v := .tuple #[.agg #[.int .i64 m, str g, str t, str l, .int .i64 n], .bool true]) (by simp [results, Tryz.results37, go_sem, k0, k1, k2, k3, k4]) rfl ?_
      exact ⟨rfl, HB.out.1.trans (hf9.below (by have := HB.out.2; omega) (fun k hk => by omega))⟩
/-- Is s the row of an entry? -/
def entOk (s : List UInt8) : Bool := okR (putEntR (wrdO (valOf s) guidN) (wrdO (valOf s) linkN) (wrdO (valOf s) titleN) (nbrO (valOf s) whenN)) s
set_option maxRecDepth 100000 in
set_option maxHeartbeats 16000000 in
theorem getEnt_any (s : List UInt8) (num : Int) (w : World) (hl : s.length ≤ 1000000) (ht : TabJ w.heap.size w) :
    Calls Tryz.prog 13 #[str s, .int .i64 num] w fun e w' => e = .returned (.tuple #[.agg (if entOk s = true then #[.int .i64 num, str (wrdO (valOf s) guidN), str (wrdO (valOf s) titleN), str (wrdO (valOf s) linkN), .int .i64 (nbrO (valOf s) whenN)] else #[.int .i64 0, str [], str [], str [], .int .i64 0]), .bool (entOk s)]) ∧ Below w.heap.size w w' := by
  obtain ⟨Wa, hWa⟩ : ∃ Wa, Wa = w.alloc (.cells #[.int .i64 0, .string ⟨#[]⟩, .string ⟨#[]⟩, .string ⟨#[]⟩, .int .i64 0] 25) := ⟨_, rfl⟩
  have HA : Hid (Below w.heap.size w Wa ∧ Wa.heap[w.heap.size]? = some (.cells #[.int .i64 0, str [], str [], str [], .int .i64 0] 25 (0, 0)) ∧ w.heap.size + 1 ≤ Wa.heap.size) := Lib.hid ⟨by rw [hWa]; exact below_alloc _ _, by rw [hWa]; exact heap_alloc_new _ _, by rw [hWa]; simp⟩
  have CP := Lib.hid (rparse_any s Wa hl)
  have hsz := valOf_sz s
  unfold entOk
  obtain ⟨V, hV⟩ : ∃ V, V = valOf s := ⟨_, rfl⟩
  rw [← hV] at CP hsz
  rw [← hV]
  have HSZ := Lib.hid hsz
  have hL1 := wrdO_len V guidN
  have hL2 := wrdO_len V linkN
  have hL3 := wrdO_len V titleN
  have HLL : Hid ((wrdO V guidN).length ≤ 9223372036854775807 ∧ (wrdO V linkN).length ≤ 9223372036854775807 ∧ (wrdO V titleN).length ≤ 9223372036854775807) := Lib.hid (by omega)
  have HT := Lib.hid ht
  obtain ⟨OK, hOK⟩ : ∃ OK, OK = okR (putEntR (wrdO V guidN) (wrdO V linkN) (wrdO V titleN) (nbrO V whenN)) s := ⟨_, rfl⟩
  obtain ⟨z0, z1, z2, z3, z4, hzz⟩ : ∃ z0 z1 z2 z3 z4, (if OK = true then #[.int .i64 num, str (wrdO V guidN), str (wrdO V titleN), str (wrdO V linkN), .int .i64 (nbrO V whenN)] else #[.int .i64 0, str [], str [], str [], .int .i64 0] : Array Value) = #[.int .i64 z0, str z1, str z2, str z3, .int .i64 z4] := by cases OK <;> exact ⟨_, _, _, _, _, rfl⟩
  rw [← hOK, hzz]
  have HOK := Lib.hid hOK
  have HZZ := Lib.hid hzz
  clear hV hl ht hsz hOK hzz hL1 hL2 hL3
  go_enter Tryz.func13, Tryz.ntmps13
  go_upto_region 1 with fail
  rw [← hWa]
  clear hWa
  go_wp2_with fail
  refine CP.out.mono ?_
  rintro e w2 ⟨cs, rfl, hv, hb2⟩
  obtain ⟨a1, n1, c1, a2, n2, c2, rfl, _, _⟩ := hv.open
  obtain ⟨W3, hW3⟩ : ∃ W3, W3 = w2.alloc (.cells #[.int .i64 V.kind, .int .i64 V.n, str V.s, .slice a1 n1 c1, .slice a2 n2 c2] 72) := ⟨_, rfl⟩
  have hb3 : Below w2.heap.size w2 W3 := by rw [hW3]; exact below_alloc _ _
  have hbx : W3.heap[w2.heap.size]? = some (.cells #[.int .i64 V.kind, .int .i64 V.n, str V.s, .slice a1 n1 c1, .slice a2 n2 c2] 72 (0, 0)) := by rw [hW3]; exact heap_alloc_new _ _
  have H3 : Hid (Below w.heap.size w W3 ∧ W3.heap[w.heap.size]? = some (.cells #[.int .i64 0, str [], str [], str [], .int .i64 0] 25 (0, 0)) ∧ w.heap.size + 1 ≤ W3.heap.size ∧ w.heap.size < w2.heap.size) := Lib.hid ⟨(HA.out.1.trans (hb2.mono HA.out.1.size)).trans (hb3.mono (Nat.le_trans HA.out.1.size hb2.size)), box_up (box_up HA.out.2.1 hb2) hb3, Nat.le_trans (Nat.le_trans HA.out.2.2 hb2.size) hb3.size, by have := HA.out.2.2; have := hb2.size; omega⟩
  have p0 := box_cell hbx 0
  have p1 := box_cell hbx 1
  have p2 := box_cell hbx 2
  have p3 := box_cell hbx 3
  have p4 := box_cell hbx 4
  have HKS : Hid (∀ W', Below W3.heap.size W3 W' → W'.cell? ⟨w2.heap.size, 0, none⟩ = some (.int .i64 V.kind) ∧ W'.cell? ⟨w2.heap.size, 1, none⟩ = some (.int .i64 V.n) ∧ W'.cell? ⟨w2.heap.size, 2, none⟩ = some (str V.s) ∧ W'.cell? ⟨w2.heap.size, 3, none⟩ = some (.slice a1 n1 c1) ∧ W'.cell? ⟨w2.heap.size, 4, none⟩ = some (.slice a2 n2 c2)) := Lib.hid (fun W' hb => ⟨(hb.cell (p := ⟨w2.heap.size, 0, none⟩) (World.block_lt_of_cell? W3 _ p0)).trans p0, (hb.cell (p := ⟨w2.heap.size, 1, none⟩) (World.block_lt_of_cell? W3 _ p1)).trans p1, (hb.cell (p := ⟨w2.heap.size, 2, none⟩) (World.block_lt_of_cell? W3 _ p2)).trans p2, (hb.cell (p := ⟨w2.heap.size, 3, none⟩) (World.block_lt_of_cell? W3 _ p3)).trans p3, (hb.cell (p := ⟨w2.heap.size, 4, none⟩) (World.block_lt_of_cell? W3 _ p4)).trans p4⟩)
  have HV := Lib.hid (hv.up hb3)
  have CW : Hid (∀ nm W, Hid (Below W3.heap.size W3 W) → Calls Tryz.prog 35 #[.agg #[.int .i64 V.kind, .int .i64 V.n, str V.s, .slice a1 n1 c1, .slice a2 n2 c2], str nm] W fun e w' => e = .returned (str (wrdO V nm)) ∧ Hid (Below W3.heap.size W3 w') ∧ Hid (Below W.heap.size W w')) := Lib.hid (fun nm W hb => by
    refine (words_any V nm HSZ.out _ W _ (HV.out.up hb.out)).mono ?_
    rintro e w' ⟨rfl, h'⟩
    exact ⟨rfl, Lib.hid (hb.out.trans (h'.mono hb.out.size)), Lib.hid h'⟩)
  have CN : Hid (∀ nm W, Hid (Below W3.heap.size W3 W) → Calls Tryz.prog 36 #[.agg #[.int .i64 V.kind, .int .i64 V.n, str V.s, .slice a1 n1 c1, .slice a2 n2 c2], str nm] W fun e w' => e = .returned (.int .i64 (nbrO V nm)) ∧ Hid (Below W3.heap.size W3 w') ∧ Hid (Below W.heap.size W w')) := Lib.hid (fun nm W hb => by
    refine (numb_any V nm HSZ.out _ W _ (HV.out.up hb.out)).mono ?_
    rintro e w' ⟨rfl, h'⟩
    exact ⟨rfl, Lib.hid (hb.out.trans (h'.mono hb.out.size)), Lib.hid h'⟩)
  have CI : Hid (∀ W, Hid (Below W3.heap.size W3 W) → Calls Tryz.prog 37 #[str s, .agg #[.int .i64 num, str (wrdO V [103, 117, 105, 100]), str (wrdO V [116, 105, 116, 108, 101]), str (wrdO V [108, 105, 110, 107]), .int .i64 (nbrO V [119, 104, 101, 110])], .func (.func 8) #[] #[]] W fun e w' => e = .returned (.tuple #[.agg #[.int .i64 z0, str z1, str z2, str z3, .int .i64 z4], .bool OK]) ∧ Hid (Below W3.heap.size W3 w')) := Lib.hid (fun W hb => by
    have := ifEnt_any s num (wrdO V guidN) (wrdO V titleN) (wrdO V linkN) (nbrO V whenN) W HLL.out.1 HLL.out.2.1 HLL.out.2.2 (fun w' h' => HT.out w' ((H3.out.1.trans (hb.out.mono H3.out.1.size)).trans (h'.mono (Nat.le_trans H3.out.1.size hb.out.size))))
    rw [← HOK.out, HZZ.out] at this
    refine this.mono ?_
    rintro e w' ⟨rfl, h'⟩
    exact ⟨rfl, Lib.hid (hb.out.trans (h'.mono hb.out.size))⟩)
  have HB : Hid (Below W3.heap.size W3 W3.drew) := Lib.hid (Below.drewsN (Below.refl _ _) 1)
  clear hb2 hb3 hbx hv CP
  go_upto_region 2 with fail
  rw [← hW3]
  clear hW3
  have HWc : Hid (Below W3.heap.size W3 (W3.alloc (.cells #[.int .i64 0, .string ⟨#[]⟩, .string ⟨#[]⟩, .string ⟨#[]⟩, .int .i64 0] 25)).drew) := Lib.hid ((below_alloc W3 _).trans ((Below.drewsN (Below.refl _ _) 1).mono (below_alloc W3 (.cells #[.int .i64 0, .string ⟨#[]⟩, .string ⟨#[]⟩, .string ⟨#[]⟩, .int .i64 0] 25)).size))
  have HZ0 : Hid (((W3.alloc (.cells #[.int .i64 0, .string ⟨#[]⟩, .string ⟨#[]⟩, .string ⟨#[]⟩, .int .i64 0] 25)).drew).heap[W3.heap.size]? = some (.cells #[.int .i64 0, str [], str [], str [], .int .i64 0] 25 (0, 0))) := Lib.hid (heap_alloc_new W3 _)
  go_cut [7] from 10 to 19 (fun v7 wc => ∃ B : Nat, v7 = .pointer (some ⟨B, 0, none⟩) ∧ Hid (Below W3.heap.size W3 wc ∧ wc.heap[B]? = some (.cells #[.int .i64 num, str (wrdO V [103, 117, 105, 100]), str (wrdO V [116, 105, 116, 108, 101]), str (wrdO V [108, 105, 110, 107]), .int .i64 (nbrO V [119, 104, 101, 110])] 25 (0, 0))))
  case first =>
    go_wp2_with fail
    go_region_held3 (fun W' => W'.cell? ⟨w2.heap.size, 0, none⟩ = some (.int .i64 V.kind) ∧ W'.cell? ⟨w2.heap.size, 1, none⟩ = some (.int .i64 V.n) ∧ W'.cell? ⟨w2.heap.size, 2, none⟩ = some (str V.s) ∧ W'.cell? ⟨w2.heap.size, 3, none⟩ = some (.slice a1 n1 c1) ∧ W'.cell? ⟨w2.heap.size, 4, none⟩ = some (.slice a2 n2 c2))
      (first | (exact HKS.out _ HB.out) | (exact HKS.out _ HWc.out) | (exact HKS.out _ (HB.out.trans ((below_alloc _ _).mono HB.out.size))) | (exact HKS.out _ (HB.out.trans ((five_set HZ.out.1 _ _ _ _ _).2.below HB.out.size (fun i e => by have := HZ.out.2; omega)))) | go_keep)
      ((first
        | (go_at_call 35; refine (CW.out _ _ HB).mono ?_; rintro e w5 ⟨rfl, HB, HBW⟩; have HZ := Lib.hid (And.intro (box_up HZ.out.1 HBW.out) HZ.out.2); clear HBW; have d0 := box_cell HZ.out.1 0; have d1 := box_cell HZ.out.1 1; have d2 := box_cell HZ.out.1 2; have d3 := box_cell HZ.out.1 3; have d4 := box_cell HZ.out.1 4; have df := box_fr HZ.out.1)
        | (go_at_call 36; refine (CN.out _ _ HB).mono ?_; rintro e w5 ⟨rfl, HB, HBW⟩; have HZ := Lib.hid (And.intro (box_up HZ.out.1 HBW.out) HZ.out.2); clear HBW; have d0 := box_cell HZ.out.1 0; have d1 := box_cell HZ.out.1 1; have d2 := box_cell HZ.out.1 2; have d3 := box_cell HZ.out.1 3; have d4 := box_cell HZ.out.1 4; have df := box_fr HZ.out.1)
        | (go_at_call 35; refine (CW.out _ _ HWc).mono ?_; rintro e w5 ⟨rfl, HB, HBW⟩; have HZ := Lib.hid (And.intro (box_up HZ0.out HBW.out) (Nat.le_refl W3.heap.size)); clear HBW; have d0 := box_cell HZ.out.1 0; have d1 := box_cell HZ.out.1 1; have d2 := box_cell HZ.out.1 2; have d3 := box_cell HZ.out.1 3; have d4 := box_cell HZ.out.1 4; have df := box_fr HZ.out.1)
        | (go_at_call 36; refine (CN.out _ _ HWc).mono ?_; rintro e w5 ⟨rfl, HB, HBW⟩; have HZ := Lib.hid (And.intro (box_up HZ0.out HBW.out) (Nat.le_refl W3.heap.size)); clear HBW; have d0 := box_cell HZ.out.1 0; have d1 := box_cell HZ.out.1 1; have d2 := box_cell HZ.out.1 2; have d3 := box_cell HZ.out.1 3; have d4 := box_cell HZ.out.1 4; have df := box_fr HZ.out.1)
        | (go_at_call 35; refine (CW.out _ _ (Lib.hid (HB.out.trans ((below_alloc _ _).mono HB.out.size)))).mono ?_; have HSB := Lib.hid HB.out.size; rintro e w5 ⟨rfl, HB, HBW⟩; have HZ := Lib.hid (And.intro (box_up (heap_alloc_new _ _) HBW.out) HSB.out); clear HBW HSB; have d0 := box_cell HZ.out.1 0; have d1 := box_cell HZ.out.1 1; have d2 := box_cell HZ.out.1 2; have d3 := box_cell HZ.out.1 3; have d4 := box_cell HZ.out.1 4; have df := box_fr HZ.out.1)
        | (go_at_call 36; refine (CN.out _ _ (Lib.hid (HB.out.trans ((below_alloc _ _).mono HB.out.size)))).mono ?_; have HSB := Lib.hid HB.out.size; rintro e w5 ⟨rfl, HB, HBW⟩; have HZ := Lib.hid (And.intro (box_up (heap_alloc_new _ _) HBW.out) HSB.out); clear HBW HSB; have d0 := box_cell HZ.out.1 0; have d1 := box_cell HZ.out.1 1; have d2 := box_cell HZ.out.1 2; have d3 := box_cell HZ.out.1 3; have d4 := box_cell HZ.out.1 4; have df := box_fr HZ.out.1)
        | (go_at_call 35; refine (CW.out _ _ HB).mono ?_; rintro e w5 ⟨rfl, HB, _⟩)
        | (go_at_call 36; refine (CN.out _ _ HB).mono ?_; rintro e w5 ⟨rfl, HB, _⟩)
        | fail))
    all_goals
      clear p0 p1 p2 p3 p4 HKS
      go_wp2_with fail
      go_meet
      case rel => first | (exact ⟨_, rfl, Lib.hid ⟨HB.out.trans ((below_alloc _ _).mono HB.out.size), heap_alloc_new _ _⟩⟩) | (exact ⟨_, rfl, Lib.hid (by
        have h5 := five_set HZ.out.1 (.int .i64 num) (str (wrdO V [103, 117, 105, 100])) (str (wrdO V [116, 105, 116, 108, 101])) (str (wrdO V [108, 105, 110, 107])) (.int .i64 (nbrO V [119, 104, 101, 110]))
        exact ⟨HB.out.trans (h5.2.below HB.out.size (fun i e => by have := HZ.out.2; omega)), h5.1⟩)⟩)
  case rest =>
  obtain ⟨B, rfl, HX⟩ := hcut
  have e0 := box_cell HX.out.2 0
  have e1 := box_cell HX.out.2 1
  have e2 := box_cell HX.out.2 2
  have e3 := box_cell HX.out.2 3
  have e4 := box_cell HX.out.2 4
  have CI2 := Lib.hid (CI.out wc (Lib.hid HX.out.1))
  clear p0 p1 p2 p3 p4 HKS CW CN CI
  go_wp2_with fail
  refine CI2.out.mono ?_
  rintro e w7 ⟨rfl, HB⟩
  have hz := box_up H3.out.2.1 HB.out
  have d0 := box_cell hz 0
  have d1 := box_cell hz 1
  have d2 := box_cell hz 2
  have d3 := box_cell hz 3
  have d4 := box_cell hz 4
  have df := box_fr hz
  have HZ := Lib.hid hz
  clear hz CI2 e0 e1 e2 e3 e4
  go_wp2_with fail
  refine bodyPost_any_world (fun X => X.heap[w.heap.size]? = some (.cells #[.int .i64 z0, str z1, str z2, str z3, .int .i64 z4] 25 (0, 0)) ∧ Frm (fun i => i = w.heap.size) w7 X) (five_set HZ.out _ _ _ _ _) ?_
  clear d0 d1 d2 d3 d4 df
  rintro w9 ⟨h9, hf9⟩
  have k0 := box_cell h9 0
  have k1 := box_cell h9 1
  have k2 := box_cell h9 2
  have k3 := box_cell h9 3
  have k4 := box_cell h9 4
  refine bodyPost_ret (v := .tuple #[.agg #[.int .i64 z0, str z1, str z2, str z3, .int .i64 z4], .bool OK]) (by simp [results, Tryz.results13, go_sem, k0, k1, k2, k3, k4]) rfl ?_
  exact ⟨rfl, (H3.out.1.trans (HB.out.mono H3.out.1.size)).trans (hf9.below (by have := H3.out.2.2.1; have := HB.out.size; omega) (fun k hk => by omega))⟩
end Go.Proofs.YtegblhmcfemfgaaGreatDoor
namespace Go.Proofs.YtegblhmcfemfgaaGreatDoor
open Go.RowKit

/-- The text of a row whose members are ms. -/
structure RowT (ms : List MemT) (s : List UInt8) : Prop where
  ok : (objR ms).2 = 0
  txt : s = (objR ms).1
  len : (prV (.mk 7 0 [] [] ms)).length ≤ 20000
/-- The first member's name. -/
def headN (ms : List MemT) : Option (List UInt8) := ms.head?.map (·.1)
theorem okR_kind {m1 m2 : List MemT} (h2 : (objR m2).2 = 0) (l1 : (prV (.mk 7 0 [] [] m1)).length ≤ 20000) (l2 : (prV (.mk 7 0 [] [] m2)).length ≤ 20000) (hne : headN m1 ≠ headN m2) : okR (objR m1) (objR m2).1 = false := by
  by_cases h1 : (objR m1).2 = 0
  · have : ¬ (objR m1).1 = (objR m2).1 := fun he => hne (by rw [objR_inj h1 h2 l1 l2 he])
    unfold okR
    rw [show ((objR m1).1 == (objR m2).1) = false from by simpa using this, Bool.and_false]
  · unfold okR
    rw [show ((objR m1).2 == 0) = false from by simpa using h1, Bool.false_and]
theorem RowT.val {ms : List MemT} {s : List UInt8} (h : RowT ms s) : valOf s = .mk 7 0 [] [] ms := by
  obtain ⟨hm, e⟩ := objR_ok h.ok
  rw [h.txt, e]
  exact valOf_pr hm h.len
theorem RowT.short {ms : List MemT} {s : List UInt8} (h : RowT ms s) : s.length ≤ 20000 := by
  rw [h.txt]; exact objR_len h.len
theorem feed_other {ms : List MemT} {s : List UInt8} (h : RowT ms s) (hn : headN ms ≠ some [110]) (t : List UInt8) (n : Int) : okR (putFeedR t n) s = false := by
  unfold putFeedR
  split
  · rfl
  · next hb => rw [h.txt]; exact okR_kind h.ok (feed_pr hb) h.len (fun e => hn (e.symm.trans rfl))
theorem ent_other {ms : List MemT} {s : List UInt8} (h : RowT ms s) (hn : headN ms ≠ some guidN) (g l t : List UInt8) (n : Int) : okR (putEntR g l t n) s = false := by
  unfold putEntR
  split
  · rfl
  · next hb => rw [h.txt]; exact okR_kind h.ok (ent_pr hb) h.len (fun e => hn (e.symm.trans rfl))
theorem sub_other {ms : List MemT} {s : List UInt8} (h : RowT ms s) (hn : headN ms ≠ some folderN) (x : List UInt8) : okR (putSubR x) s = false := by
  unfold putSubR
  split
  · rfl
  · next hb => rw [h.txt]; exact okR_kind h.ok (sub_pr hb) h.len (fun e => hn (e.symm.trans rfl))
theorem state_other {ms : List MemT} {s : List UInt8} (h : RowT ms s) (hn : headN ms ≠ some readN) (a b : Int) : okR (putStateR a b) s = false := by
  unfold putStateR
  split
  · rfl
  · next hb => rw [h.txt]; exact okR_kind h.ok (state_pr hb) h.len (fun e => hn (e.symm.trans rfl))
theorem mks_pr {l : List MarkT} (h : MayL l) : (prV (.mk 7 0 [] [] (mksMs l))).length ≤ 20000 := Nat.le_trans (mksJ_len h) (by omega)
theorem mks_other {ms : List MemT} {s : List UInt8} (h : RowT ms s) (hn : headN ms ≠ some marksN) (l : List MarkT) : okR (putMksR l) s = false := by
  unfold putMksR
  split
  · next hb => rw [h.txt]; exact okR_kind h.ok (mks_pr hb) h.len (fun e => hn (e.symm.trans rfl))
  · rfl
theorem feed_row {t : List UInt8} {n : Int} (h : (putFeedR t n).2 = 0) : RowT (feedMs t n) (putFeedR t n).1 ∧ putFeedR t n = objR (feedMs t n) := by
  have hb : ¬ badF t n := fun hb => by unfold putFeedR at h; rw [if_pos hb] at h; cases h
  have e1 : putFeedR t n = objR (feedMs t n) := by unfold putFeedR; rw [if_neg hb]
  exact ⟨⟨by rw [← e1]; exact h, by rw [e1], feed_pr hb⟩, e1⟩
theorem ent_row {g l t : List UInt8} {n : Int} (h : (putEntR g l t n).2 = 0) : RowT (entMs g l t n) (putEntR g l t n).1 ∧ putEntR g l t n = objR (entMs g l t n) := by
  have hb : ¬ badE g l t n := fun hb => by unfold putEntR at h; rw [if_pos hb] at h; cases h
  have e1 : putEntR g l t n = objR (entMs g l t n) := by unfold putEntR; rw [if_neg hb]
  exact ⟨⟨by rw [← e1]; exact h, by rw [e1], ent_pr hb⟩, e1⟩
theorem sub_row {s : List UInt8} (h : (putSubR s).2 = 0) : RowT (subMs s) (putSubR s).1 ∧ putSubR s = objR (subMs s) := by
  have hb : ¬ (s ≠ [] ∧ nameB s = false) := fun hb => by unfold putSubR at h; rw [if_pos hb] at h; cases h
  have e1 : putSubR s = objR (subMs s) := by unfold putSubR; rw [if_neg hb]
  exact ⟨⟨by rw [← e1]; exact h, by rw [e1], sub_pr hb⟩, e1⟩
theorem state_row {a b : Int} (h : (putStateR a b).2 = 0) : RowT (stateMs a b) (putStateR a b).1 ∧ putStateR a b = objR (stateMs a b) := by
  have hb : ¬ badS a b := fun hb => by unfold putStateR at h; rw [if_pos hb] at h; cases h
  have e1 : putStateR a b = objR (stateMs a b) := by unfold putStateR; rw [if_neg hb]
  exact ⟨⟨by rw [← e1]; exact h, by rw [e1], state_pr hb⟩, e1⟩
theorem mks_row {l : List MarkT} (h : (putMksR l).2 = 0) : RowT (mksMs l) (putMksR l).1 ∧ putMksR l = objR (mksMs l) := by
  have hb : MayL l := Decidable.byContradiction fun hb => by unfold putMksR at h; rw [if_neg hb] at h; cases h
  have e1 : putMksR l = objR (mksMs l) := by unfold putMksR; rw [if_pos hb]
  exact ⟨⟨by rw [← e1]; exact h, by rw [e1], mks_pr hb⟩, e1⟩
theorem ent_guid (g l t : List UInt8) (n : Int) : wrdO (.mk 7 0 [] [] (entMs g l t n)) guidN = g := by rfl
theorem ent_link (g l t : List UInt8) (n : Int) : wrdO (.mk 7 0 [] [] (entMs g l t n)) linkN = l := by rfl
theorem ent_title (g l t : List UInt8) (n : Int) : wrdO (.mk 7 0 [] [] (entMs g l t n)) titleN = t := by rfl
theorem ent_when (g l t : List UInt8) (n : Int) : nbrO (.mk 7 0 [] [] (entMs g l t n)) whenN = n := by rfl
/-- Each error of a Put leaves no text. -/
theorem objR_err {ms : List MemT} (h : (objR ms).2 ≠ 0) : (objR ms).1 = [] := by
  unfold objR at h ⊢
  split at h
  · exact absurd rfl h
  · next hh => rw [if_neg hh]
theorem feed_err {t : List UInt8} {n : Int} (h : (putFeedR t n).2 ≠ 0) : (putFeedR t n).1 = [] := by
  unfold putFeedR at h ⊢
  split at h
  · next hh => rw [if_pos hh]
  · next hh => rw [if_neg hh]; exact objR_err h
theorem ent_err {g l t : List UInt8} {n : Int} (h : (putEntR g l t n).2 ≠ 0) : (putEntR g l t n).1 = [] := by
  unfold putEntR at h ⊢
  split at h
  · next hh => rw [if_pos hh]
  · next hh => rw [if_neg hh]; exact objR_err h
theorem sub_err {s : List UInt8} (h : (putSubR s).2 ≠ 0) : (putSubR s).1 = [] := by
  unfold putSubR at h ⊢
  split at h
  · next hh => rw [if_pos hh]
  · next hh => rw [if_neg hh]; exact objR_err h
theorem state_err {a b : Int} (h : (putStateR a b).2 ≠ 0) : (putStateR a b).1 = [] := by
  unfold putStateR at h ⊢
  split at h
  · next hh => rw [if_pos hh]
  · next hh => rw [if_neg hh]; exact objR_err h
theorem mks_err {l : List MarkT} (h : (putMksR l).2 ≠ 0) : (putMksR l).1 = [] := by
  unfold putMksR at h ⊢
  split at h
  · next hh => rw [if_pos hh]; exact objR_err h
  · next hh => rw [if_neg hh]
end Go.Proofs.YtegblhmcfemfgaaGreatDoor
namespace Go.Proofs.YtegblhmcfemfgaaGreatDoor
open Go.RowKit

theorem gf_no {ms : List MemT} {s : List UInt8} (h : RowT ms s) (hn : headN ms ≠ some [110]) (w : World) (ht : TabJ w.heap.size w) : Calls Tryz.prog 12 #[str s] w fun e w' => e = .returned (.tuple #[.agg #[str [], .int .i64 0], .bool false]) ∧ Below w.heap.size w w' := by
  have := getFeed_any s w (by have := h.short; omega) ht
  simp only [feed_other h hn, Bool.false_eq_true, if_false] at this
  exact this
theorem gf_yes {t : List UInt8} {n : Int} (h : (putFeedR t n).2 = 0) (w : World) (ht : TabJ w.heap.size w) : Calls Tryz.prog 12 #[str (putFeedR t n).1] w fun e w' => e = .returned (.tuple #[.agg #[str t, .int .i64 n], .bool true]) ∧ Below w.heap.size w w' := by
  have := getFeed_any (putFeedR t n).1 w (by have := feed_short t n; omega) ht
  rw [(feed_row h).1.val, show wrdO (.mk 7 0 [] [] (feedMs t n)) [116, 105, 116, 108, 101] = t from rfl, show nbrO (.mk 7 0 [] [] (feedMs t n)) [110] = n from rfl, okR_self h, if_pos rfl] at this
  exact this
theorem ge_no {ms : List MemT} {s : List UInt8} (h : RowT ms s) (hn : headN ms ≠ some guidN) (num : Int) (w : World) (ht : TabJ w.heap.size w) : Calls Tryz.prog 13 #[str s, .int .i64 num] w fun e w' => e = .returned (.tuple #[.agg #[.int .i64 0, str [], str [], str [], .int .i64 0], .bool false]) ∧ Below w.heap.size w w' := by
  have := getEnt_any s num w (by have := h.short; omega) ht
  have e : entOk s = false := by unfold entOk; exact ent_other h hn _ _ _ _
  simp only [e, Bool.false_eq_true, if_false] at this
  exact this
theorem ge_yes {g l t : List UInt8} {n : Int} (h : (putEntR g l t n).2 = 0) (num : Int) (w : World) (ht : TabJ w.heap.size w) : Calls Tryz.prog 13 #[str (putEntR g l t n).1, .int .i64 num] w fun e w' => e = .returned (.tuple #[.agg #[.int .i64 num, str g, str t, str l, .int .i64 n], .bool true]) ∧ Below w.heap.size w w' := by
  have := getEnt_any (putEntR g l t n).1 num w (by have := (ent_row h).1.short; omega) ht
  have e : entOk (putEntR g l t n).1 = true := by
    unfold entOk
    rw [(ent_row h).1.val, ent_guid, ent_link, ent_title, ent_when]
    exact okR_self h
  rw [e, if_pos rfl, (ent_row h).1.val, ent_guid, ent_link, ent_title, ent_when] at this
  exact this
theorem gb_no {ms : List MemT} {s : List UInt8} (h : RowT ms s) (hn : headN ms ≠ some folderN) (w : World) (ht : TabJ w.heap.size w) : Calls Tryz.prog 14 #[str s] w fun e w' => e = .returned (.tuple #[str [], .bool false]) ∧ Below w.heap.size w w' := by
  have := getSub_any s w (by have := h.short; omega) ht
  simp only [sub_other h hn, Bool.false_eq_true, if_false] at this
  exact this
theorem gb_yes {x : List UInt8} (h : (putSubR x).2 = 0) (w : World) (ht : TabJ w.heap.size w) : Calls Tryz.prog 14 #[str (putSubR x).1] w fun e w' => e = .returned (.tuple #[str x, .bool true]) ∧ Below w.heap.size w w' := by
  have := getSub_any (putSubR x).1 w (by have := sub_short x; omega) ht
  rw [(sub_row h).1.val, sub_wrd, okR_self h, if_pos rfl] at this
  exact this
theorem gt_no {ms : List MemT} {s : List UInt8} (h : RowT ms s) (hn : headN ms ≠ some readN) (w : World) (ht : TabJ w.heap.size w) : Calls Tryz.prog 15 #[str s] w fun e w' => e = .returned (.tuple #[.agg #[.int .i64 0, .int .i64 0], .bool false]) ∧ Below w.heap.size w w' := by
  have := getState_any s w (by have := h.short; omega) ht
  simp only [state_other h hn, Bool.false_eq_true, if_false] at this
  exact this
theorem gt_yes {a b : Int} (h : (putStateR a b).2 = 0) (w : World) (ht : TabJ w.heap.size w) : Calls Tryz.prog 15 #[str (putStateR a b).1] w fun e w' => e = .returned (.tuple #[.agg #[.int .i64 a, .int .i64 b], .bool true]) ∧ Below w.heap.size w w' := by
  have := getState_any (putStateR a b).1 w (by have := state_short a b; omega) ht
  rw [(state_row h).1.val, show nbrO (.mk 7 0 [] [] (stateMs a b)) [114, 101, 97, 100] = a from rfl, show nbrO (.mk 7 0 [] [] (stateMs a b)) [115, 116, 97, 114] = b from rfl, okR_self h, if_pos rfl] at this
  exact this
theorem gm_no {ms : List MemT} {s : List UInt8} (h : RowT ms s) (hn : headN ms ≠ some marksN) (w : World) (ht : TabJ w.heap.size w) : Calls Tryz.prog 16 #[str s] w fun e w' => ∃ u, e = .returned (.tuple #[u, .bool false]) ∧ RdMk w' u [] ∧ Below w.heap.size w w' := by
  have := getMks_any s w (by have := h.short; omega) ht
  have e : mksOk s = false := by unfold mksOk; rw [mks_other h hn, Bool.and_false]
  simp only [e, Bool.false_eq_true, if_false] at this
  exact this
theorem mk2_markJ (l : List MarkT) : (l.map markJ).map mk2 = l := by
  rw [List.map_map]
  conv => rhs; rw [← List.map_id l]
  rfl
theorem two_markJ (l : List MarkT) : twoB (l.map markJ) = true := by
  unfold twoB
  rw [List.all_map, List.all_eq_true]
  intro m _
  rfl
theorem gm_yes {l : List MarkT} (h : (putMksR l).2 = 0) (w : World) (ht : TabJ w.heap.size w) : Calls Tryz.prog 16 #[str (putMksR l).1] w fun e w' => ∃ u, e = .returned (.tuple #[u, .bool true]) ∧ RdMk w' u l ∧ Below w.heap.size w w' := by
  have := getMks_any (putMksR l).1 w (by have := (mks_row h).1.short; omega) ht
  have hv : memD (valOf (putMksR l).1) marksN = .mk 6 0 [] (l.map markJ) [] := by
    rw [(mks_row h).1.val]
    rfl
  have e1 : mksOf (putMksR l).1 = l := by unfold mksOf; rw [hv]; exact mk2_markJ l
  have e : mksOk (putMksR l).1 = true := by
    unfold mksOk
    rw [hv]
    show (twoB (l.map markJ) && okR (putMksR ((l.map markJ).map mk2)) (putMksR l).1) = true
    rw [two_markJ, mk2_markJ, okR_self h]
    rfl
  rw [e, if_pos rfl, e1] at this
  exact this
/-- What the five Gets tell of a text. -/
structure FiveG (s : List UInt8) (num : Int) (p q r v o : Bool) (ft : List UInt8) (fn en : Int) (eg et el : List UInt8) (ew : Int) (fo : List UInt8) (s1 s2 : Int) (ml : List MarkT) : Prop where
  f : ∀ w, TabJ w.heap.size w → Calls Tryz.prog 12 #[str s] w fun e w' => e = .returned (.tuple #[.agg #[str ft, .int .i64 fn], .bool p]) ∧ Below w.heap.size w w'
  e : ∀ w, TabJ w.heap.size w → Calls Tryz.prog 13 #[str s, .int .i64 num] w fun e w' => e = .returned (.tuple #[.agg #[.int .i64 en, str eg, str et, str el, .int .i64 ew], .bool q]) ∧ Below w.heap.size w w'
  b : ∀ w, TabJ w.heap.size w → Calls Tryz.prog 14 #[str s] w fun e w' => e = .returned (.tuple #[str fo, .bool r]) ∧ Below w.heap.size w w'
  t : ∀ w, TabJ w.heap.size w → Calls Tryz.prog 15 #[str s] w fun e w' => e = .returned (.tuple #[.agg #[.int .i64 s1, .int .i64 s2], .bool v]) ∧ Below w.heap.size w w'
  m : ∀ w, TabJ w.heap.size w → Calls Tryz.prog 16 #[str s] w fun e w' => ∃ u, e = .returned (.tuple #[u, .bool o]) ∧ RdMk w' u ml ∧ Below w.heap.size w w'
theorem hd_ne {a b : List UInt8} {v : JV} {t : List MemT} (h : a ≠ b) : headN ((a, v) :: t) ≠ some b := fun e => h (by simpa [headN] using e)
theorem five_feed {t : List UInt8} {n : Int} (num : Int) (h : (putFeedR t n).2 = 0) : FiveG (putFeedR t n).1 num true false false false false t n 0 [] [] [] 0 [] 0 0 [] :=
  ⟨gf_yes h, ge_no (feed_row h).1 (hd_ne (by decide)) num, gb_no (feed_row h).1 (hd_ne (by decide)), gt_no (feed_row h).1 (hd_ne (by decide)), gm_no (feed_row h).1 (hd_ne (by decide))⟩
theorem five_ent {g l t : List UInt8} {n : Int} (num : Int) (h : (putEntR g l t n).2 = 0) : FiveG (putEntR g l t n).1 num false true false false false [] 0 num g t l n [] 0 0 [] :=
  ⟨gf_no (ent_row h).1 (hd_ne (by decide)), ge_yes h num, gb_no (ent_row h).1 (hd_ne (by decide)), gt_no (ent_row h).1 (hd_ne (by decide)), gm_no (ent_row h).1 (hd_ne (by decide))⟩
theorem five_sub {x : List UInt8} (num : Int) (h : (putSubR x).2 = 0) : FiveG (putSubR x).1 num false false true false false [] 0 0 [] [] [] 0 x 0 0 [] :=
  ⟨gf_no (sub_row h).1 (hd_ne (by decide)), ge_no (sub_row h).1 (hd_ne (by decide)) num, gb_yes h, gt_no (sub_row h).1 (hd_ne (by decide)), gm_no (sub_row h).1 (hd_ne (by decide))⟩
theorem five_state {a b : Int} (num : Int) (h : (putStateR a b).2 = 0) : FiveG (putStateR a b).1 num false false false true false [] 0 0 [] [] [] 0 [] a b [] :=
  ⟨gf_no (state_row h).1 (hd_ne (by decide)), ge_no (state_row h).1 (hd_ne (by decide)) num, gb_no (state_row h).1 (hd_ne (by decide)), gt_yes h, gm_no (state_row h).1 (hd_ne (by decide))⟩
theorem five_mks {l : List MarkT} (num : Int) (h : (putMksR l).2 = 0) : FiveG (putMksR l).1 num false false false false true [] 0 0 [] [] [] 0 [] 0 0 l :=
  ⟨gf_no (mks_row h).1 (hd_ne (by decide)), ge_no (mks_row h).1 (hd_ne (by decide)) num, gb_no (mks_row h).1 (hd_ne (by decide)), gt_no (mks_row h).1 (hd_ne (by decide)), gm_yes h⟩
end Go.Proofs.YtegblhmcfemfgaaGreatDoor
