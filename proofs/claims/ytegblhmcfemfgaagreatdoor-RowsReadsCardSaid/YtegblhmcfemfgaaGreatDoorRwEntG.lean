import Derived.Test.YtegblhmcfemfgaaGreatDoorWTake
import Derived.Test.YtegblhmcfemfgaaGreatDoorRwEnt
import Derived.Test.YtegblhmcfemfgaaGreatDoorRwGets
set_option maxRecDepth 100000
set_option maxHeartbeats 16000000
namespace Go.Proofs.YtegblhmcfemfgaaGreatDoor
open Go.RowKit
theorem ifEnt_any (s : List UInt8) (m : Int) (g t l : List UInt8) (n : Int) (w : World) (hg : g.length ≤ 9223372036854775807) (hl : l.length ≤ 9223372036854775807) (htl : t.length ≤ 9223372036854775807) (ht : TabJ w.heap.size w) :
 Calls Tryz.prog 37 #[str s, .agg #[.int .i64 m, str g, str t, str l, .int .i64 n], .func (.func 8) #[] #[]] w fun e w' => e = .returned (.tuple #[.agg (if okR (putEntR g l t n) s = true then #[.int .i64 m, str g, str t, str l, .int .i64 n] else #[.int .i64 0, str [], str [], str [], .int .i64 0]), .bool (okR (putEntR g l t n) s)]) ∧ Below w.heap.size w w' := by
 obtain ⟨Wa, hWa⟩ : ∃ Wa, Wa = (w.alloc (.cells #[.int .i64 m, str g, str t, str l, .int .i64 n] 25)).alloc (.cells #[.int .i64 0, .string ⟨#[]⟩, .string ⟨#[]⟩, .string ⟨#[]⟩, .int .i64 0] 25) := ⟨_, rfl⟩
 have HA : Hid (Below w.heap.size w Wa ∧ Wa.heap[w.heap.size]? = some (.cells #[.int .i64 m, str g, str t, str l, .int .i64 n] 25 (0, 0)) ∧ Wa.heap[w.heap.size + 1]? = some (.cells #[.int .i64 0, str [], str [], str [], .int .i64 0] 25 (0, 0)) ∧ w.heap.size + 2 ≤ Wa.heap.size) := Lib.hid (by
  refine ⟨by rw [hWa]; exact ((Below.refl _ _).alloc (Nat.le_refl _) _).alloc (by simp) _, by rw [hWa]; exact box_up (heap_alloc_new w _) (below_alloc _ _), ?_, by rw [hWa]; simp⟩
  rw [hWa]
  have := heap_alloc_new (w.alloc (.cells #[.int .i64 m, str g, str t, str l, .int .i64 n] 25)) (.cells #[.int .i64 0, .string ⟨#[]⟩, .string ⟨#[]⟩, .string ⟨#[]⟩, .int .i64 0] 25)
  simpa using this)
 have CP := putEnt_any m g t l n Wa hg hl htl (fun w' h' => ht w' (HA.out.1.trans (h'.mono HA.out.1.size)))
 obtain ⟨q0, q1, q2, q3, q4⟩ := box5 HA.out.2.1
 unfold okR
 obtain ⟨R1, hR1⟩ : ∃ R1, R1 = (putEntR g l t n).1 := ⟨_, rfl⟩
 obtain ⟨R2, hR2⟩ : ∃ R2, R2 = (putEntR g l t n).2 := ⟨_, rfl⟩
 rw [← hR1, ← hR2] at CP
 rw [← hR1, ← hR2]
 have CP := Lib.hid CP
 clear hR1 hR2 ht
 cases t1 : (R2 == 0) with
 | false =>
  go_enter Tryz.func37, Tryz.ntmps37
  go_upto_region 1 with fail
  rw [← hWa]
  clear hWa
  go_wp2_with fail
  refine CP.out.mono ?_
  rintro e w2 ⟨rfl, hb2⟩
  have hz : (w2.alloc (.cells #[.int .i64 0, .string ⟨#[]⟩, .string ⟨#[]⟩, .string ⟨#[]⟩, .int .i64 0] 25)).heap[w.heap.size + 1]? = some (.cells #[.int .i64 0, str [], str [], str [], .int .i64 0] 25 (0, 0)) := box_up (box_up HA.out.2.2.1 hb2) (below_alloc _ _)
  obtain ⟨d0, d1, d2, d3, d4⟩ := box5 hz
  have df := box_fr hz
  have HB : Hid (Below w.heap.size w (w2.alloc (.cells #[.int .i64 0, .string ⟨#[]⟩, .string ⟨#[]⟩, .string ⟨#[]⟩, .int .i64 0] 25)) ∧ w.heap.size + 2 ≤ (w2.alloc (.cells #[.int .i64 0, .string ⟨#[]⟩, .string ⟨#[]⟩, .string ⟨#[]⟩, .int .i64 0] 25)).heap.size) := Lib.hid ⟨(HA.out.1.trans (hb2.mono HA.out.1.size)).trans ((below_alloc w2 (.cells #[.int .i64 0, .string ⟨#[]⟩, .string ⟨#[]⟩, .string ⟨#[]⟩, .int .i64 0] 25)).mono (Nat.le_trans HA.out.1.size hb2.size)), Nat.le_trans (Nat.le_trans HA.out.2.2.2 hb2.size) (below_alloc w2 (.cells #[.int .i64 0, .string ⟨#[]⟩, .string ⟨#[]⟩, .string ⟨#[]⟩, .int .i64 0] 25)).size⟩
  have HZ := Lib.hid hz
  clear hz hb2 CP q0 q1 q2 q3 q4
  go_wp2_with fail
  refine bodyPost_any_world (fun X => X.heap[w.heap.size + 1]? = some (.cells #[.int .i64 0, str [], str [], str [], .int .i64 0] 25 (0, 0)) ∧ Frm (fun i => i = w.heap.size + 1) (w2.alloc (.cells #[.int .i64 0, .string ⟨#[]⟩, .string ⟨#[]⟩, .string ⟨#[]⟩, .int .i64 0] 25)) X) (five_set HZ.out _ _ _ _ _) ?_
  clear d0 d1 d2 d3 d4 df
  rintro w9 ⟨h9, hf9⟩
  obtain ⟨k0, k1, k2, k3, k4⟩ := box5 h9
  refine bodyPost_ret (v := .tuple #[.agg #[.int .i64 0, str [], str [], str [], .int .i64 0], .bool false]) (by simp [results, Tryz.results37, go_sem, k0, k1, k2, k3, k4]) rfl ?_
  exact ⟨rfl, HB.out.1.trans (hf9.below (by have := HB.out.2; omega) (fun k hk => by omega))⟩
 | true =>
  cases t2 : (R1 == s) with
  | false =>
   go_enter Tryz.func37, Tryz.ntmps37
   go_upto_region 1 with fail
   rw [← hWa]
   clear hWa
   go_wp2_with fail
   refine CP.out.mono ?_
   rintro e w2 ⟨rfl, hb2⟩
   have hz : (w2.alloc (.cells #[.int .i64 0, .string ⟨#[]⟩, .string ⟨#[]⟩, .string ⟨#[]⟩, .int .i64 0] 25)).heap[w.heap.size + 1]? = some (.cells #[.int .i64 0, str [], str [], str [], .int .i64 0] 25 (0, 0)) := box_up (box_up HA.out.2.2.1 hb2) (below_alloc _ _)
   obtain ⟨d0, d1, d2, d3, d4⟩ := box5 hz
   have df := box_fr hz
   have HB : Hid (Below w.heap.size w (w2.alloc (.cells #[.int .i64 0, .string ⟨#[]⟩, .string ⟨#[]⟩, .string ⟨#[]⟩, .int .i64 0] 25)) ∧ w.heap.size + 2 ≤ (w2.alloc (.cells #[.int .i64 0, .string ⟨#[]⟩, .string ⟨#[]⟩, .string ⟨#[]⟩, .int .i64 0] 25)).heap.size) := Lib.hid ⟨(HA.out.1.trans (hb2.mono HA.out.1.size)).trans ((below_alloc w2 (.cells #[.int .i64 0, .string ⟨#[]⟩, .string ⟨#[]⟩, .string ⟨#[]⟩, .int .i64 0] 25)).mono (Nat.le_trans HA.out.1.size hb2.size)), Nat.le_trans (Nat.le_trans HA.out.2.2.2 hb2.size) (below_alloc w2 (.cells #[.int .i64 0, .string ⟨#[]⟩, .string ⟨#[]⟩, .string ⟨#[]⟩, .int .i64 0] 25)).size⟩
   have HZ := Lib.hid hz
   clear hz hb2 CP q0 q1 q2 q3 q4
   go_wp2_with fail
   refine bodyPost_any_world (fun X => X.heap[w.heap.size + 1]? = some (.cells #[.int .i64 0, str [], str [], str [], .int .i64 0] 25 (0, 0)) ∧ Frm (fun i => i = w.heap.size + 1) (w2.alloc (.cells #[.int .i64 0, .string ⟨#[]⟩, .string ⟨#[]⟩, .string ⟨#[]⟩, .int .i64 0] 25)) X) (five_set HZ.out _ _ _ _ _) ?_
   clear d0 d1 d2 d3 d4 df
   rintro w9 ⟨h9, hf9⟩
   obtain ⟨k0, k1, k2, k3, k4⟩ := box5 h9
   refine bodyPost_ret (v := .tuple #[.agg #[.int .i64 0, str [], str [], str [], .int .i64 0], .bool false]) (by simp [results, Tryz.results37, go_sem, k0, k1, k2, k3, k4]) rfl ?_
   exact ⟨rfl, HB.out.1.trans (hf9.below (by have := HB.out.2; omega) (fun k hk => by omega))⟩
  | true =>
   go_enter Tryz.func37, Tryz.ntmps37
   go_upto_region 1 with fail
   rw [← hWa]
   clear hWa
   go_wp2_with fail
   refine CP.out.mono ?_
   rintro e w2 ⟨rfl, hb2⟩
   have hz : w2.heap[w.heap.size + 1]? = some (.cells #[.int .i64 0, str [], str [], str [], .int .i64 0] 25 (0, 0)) := box_up HA.out.2.2.1 hb2
   obtain ⟨d0, d1, d2, d3, d4⟩ := box5 hz
   have df := box_fr hz
   obtain ⟨p0, p1, p2, p3, p4⟩ := box5 (box_up HA.out.2.1 hb2)
   have HB : Hid (Below w.heap.size w w2 ∧ w.heap.size + 2 ≤ w2.heap.size) := Lib.hid ⟨HA.out.1.trans (hb2.mono HA.out.1.size), Nat.le_trans HA.out.2.2.2 hb2.size⟩
   have HZ := Lib.hid hz
   clear hz hb2 CP q0 q1 q2 q3 q4
   go_wp2_with fail
   refine bodyPost_any_world (fun X => X.heap[w.heap.size + 1]? = some (.cells #[.int .i64 m, str g, str t, str l, .int .i64 n] 25 (0, 0)) ∧ Frm (fun i => i = w.heap.size + 1) w2 X) (five_set HZ.out _ _ _ _ _) ?_
   clear d0 d1 d2 d3 d4 df p0 p1 p2 p3 p4
   rintro w9 ⟨h9, hf9⟩
   obtain ⟨k0, k1, k2, k3, k4⟩ := box5 h9
   refine bodyPost_ret (v := .tuple #[.agg #[.int .i64 m, str g, str t, str l, .int .i64 n], .bool true]) (by simp [results, Tryz.results37, go_sem, k0, k1, k2, k3, k4]) rfl ?_
   exact ⟨rfl, HB.out.1.trans (hf9.below (by have := HB.out.2; omega) (fun k hk => by omega))⟩
def entOk (s : List UInt8) : Bool := okR (putEntR (wrdO (valOf s) guidN) (wrdO (valOf s) linkN) (wrdO (valOf s) titleN) (nbrO (valOf s) whenN)) s
theorem getEnt_any (s : List UInt8) (num : Int) (w : World) (hl : s.length ≤ 1000000) (ht : TabJ w.heap.size w) :
 Calls Tryz.prog 13 #[str s, .int .i64 num] w fun e w' => e = .returned (.tuple #[.agg (if entOk s = true then #[.int .i64 num, str (wrdO (valOf s) guidN), str (wrdO (valOf s) titleN), str (wrdO (valOf s) linkN), .int .i64 (nbrO (valOf s) whenN)] else #[.int .i64 0, str [], str [], str [], .int .i64 0]), .bool (entOk s)]) ∧ Below w.heap.size w w' := by
 obtain ⟨Wa, hWa⟩ : ∃ Wa, Wa = w.alloc (.cells #[.int .i64 0, .string ⟨#[]⟩, .string ⟨#[]⟩, .string ⟨#[]⟩, .int .i64 0] 25) := ⟨_, rfl⟩
 have HA : Hid (Below w.heap.size w Wa ∧ Wa.heap[w.heap.size]? = some (.cells #[.int .i64 0, str [], str [], str [], .int .i64 0] 25 (0, 0)) ∧ w.heap.size + 1 ≤ Wa.heap.size) := Lib.hid ⟨by rw [hWa]; exact below_alloc _ _, by rw [hWa]; exact heap_alloc_new _ _, by rw [hWa]; simp⟩
 have CP := Lib.hid (rparse_any s Wa hl)
 have hsz := valOf_sz s
 unfold entOk
 obtain ⟨V, hV⟩ : ∃ V, V = valOf s := ⟨_, rfl⟩
 rw [← hV] at CP hsz
 rw [← hV]
 have HSZ := Lib.hid hsz
 have hL1 := wrdO_len V guidN
 have hL2 := wrdO_len V linkN
 have hL3 := wrdO_len V titleN
 have HLL : Hid ((wrdO V guidN).length ≤ 9223372036854775807 ∧ (wrdO V linkN).length ≤ 9223372036854775807 ∧ (wrdO V titleN).length ≤ 9223372036854775807) := Lib.hid (by omega)
 have HT := Lib.hid ht
 obtain ⟨OK, hOK⟩ : ∃ OK, OK = okR (putEntR (wrdO V guidN) (wrdO V linkN) (wrdO V titleN) (nbrO V whenN)) s := ⟨_, rfl⟩
 obtain ⟨z0, z1, z2, z3, z4, hzz⟩ : ∃ z0 z1 z2 z3 z4, (if OK = true then #[.int .i64 num, str (wrdO V guidN), str (wrdO V titleN), str (wrdO V linkN), .int .i64 (nbrO V whenN)] else #[.int .i64 0, str [], str [], str [], .int .i64 0] : Array Value) = #[.int .i64 z0, str z1, str z2, str z3, .int .i64 z4] := by cases OK <;> exact ⟨_, _, _, _, _, rfl⟩
 rw [← hOK, hzz]
 have HOK := Lib.hid hOK
 have HZZ := Lib.hid hzz
 clear hV hl ht hsz hOK hzz hL1 hL2 hL3
 go_enter Tryz.func13, Tryz.ntmps13
 go_upto_region 1 with fail
 rw [← hWa]
 clear hWa
 go_wp2_with fail
 refine CP.out.mono ?_
 rintro e w2 ⟨cs, rfl, hv, hb2⟩
 obtain ⟨a1, n1, c1, a2, n2, c2, rfl, _, _⟩ := hv.open
 obtain ⟨W3, hW3⟩ : ∃ W3, W3 = w2.alloc (.cells #[.int .i64 V.kind, .int .i64 V.n, str V.s, .slice a1 n1 c1, .slice a2 n2 c2] 72) := ⟨_, rfl⟩
 have hb3 : Below w2.heap.size w2 W3 := by rw [hW3]; exact below_alloc _ _
 have hbx : W3.heap[w2.heap.size]? = some (.cells #[.int .i64 V.kind, .int .i64 V.n, str V.s, .slice a1 n1 c1, .slice a2 n2 c2] 72 (0, 0)) := by rw [hW3]; exact heap_alloc_new _ _
 have H3 : Hid (Below w.heap.size w W3 ∧ W3.heap[w.heap.size]? = some (.cells #[.int .i64 0, str [], str [], str [], .int .i64 0] 25 (0, 0)) ∧ w.heap.size + 1 ≤ W3.heap.size ∧ w.heap.size < w2.heap.size) := Lib.hid ⟨(HA.out.1.trans (hb2.mono HA.out.1.size)).trans (hb3.mono (Nat.le_trans HA.out.1.size hb2.size)), box_up (box_up HA.out.2.1 hb2) hb3, Nat.le_trans (Nat.le_trans HA.out.2.2 hb2.size) hb3.size, by have := HA.out.2.2; have := hb2.size; omega⟩
 obtain ⟨p0, p1, p2, p3, p4⟩ := box5 hbx
 have HKS : Hid (∀ W', Below W3.heap.size W3 W' → W'.cell? ⟨w2.heap.size, 0, none⟩ = some (.int .i64 V.kind) ∧ W'.cell? ⟨w2.heap.size, 1, none⟩ = some (.int .i64 V.n) ∧ W'.cell? ⟨w2.heap.size, 2, none⟩ = some (str V.s) ∧ W'.cell? ⟨w2.heap.size, 3, none⟩ = some (.slice a1 n1 c1) ∧ W'.cell? ⟨w2.heap.size, 4, none⟩ = some (.slice a2 n2 c2)) := Lib.hid (fun W' hb => ⟨(hb.cell (p := ⟨w2.heap.size, 0, none⟩) (World.block_lt_of_cell? W3 _ p0)).trans p0, (hb.cell (p := ⟨w2.heap.size, 1, none⟩) (World.block_lt_of_cell? W3 _ p1)).trans p1, (hb.cell (p := ⟨w2.heap.size, 2, none⟩) (World.block_lt_of_cell? W3 _ p2)).trans p2, (hb.cell (p := ⟨w2.heap.size, 3, none⟩) (World.block_lt_of_cell? W3 _ p3)).trans p3, (hb.cell (p := ⟨w2.heap.size, 4, none⟩) (World.block_lt_of_cell? W3 _ p4)).trans p4⟩)
 have HV := Lib.hid (hv.up hb3)
 have CW : Hid (∀ nm W, Hid (Below W3.heap.size W3 W) → Calls Tryz.prog 35 #[.agg #[.int .i64 V.kind, .int .i64 V.n, str V.s, .slice a1 n1 c1, .slice a2 n2 c2], str nm] W fun e w' => e = .returned (str (wrdO V nm)) ∧ Hid (Below W3.heap.size W3 w') ∧ Hid (Below W.heap.size W w')) := Lib.hid (fun nm W hb => by
  refine (words_any V nm HSZ.out _ W _ (HV.out.up hb.out)).mono ?_
  rintro e w' ⟨rfl, h'⟩
  exact ⟨rfl, Lib.hid (hb.out.trans (h'.mono hb.out.size)), Lib.hid h'⟩)
 have CN : Hid (∀ nm W, Hid (Below W3.heap.size W3 W) → Calls Tryz.prog 36 #[.agg #[.int .i64 V.kind, .int .i64 V.n, str V.s, .slice a1 n1 c1, .slice a2 n2 c2], str nm] W fun e w' => e = .returned (.int .i64 (nbrO V nm)) ∧ Hid (Below W3.heap.size W3 w') ∧ Hid (Below W.heap.size W w')) := Lib.hid (fun nm W hb => by
  refine (numb_any V nm HSZ.out _ W _ (HV.out.up hb.out)).mono ?_
  rintro e w' ⟨rfl, h'⟩
  exact ⟨rfl, Lib.hid (hb.out.trans (h'.mono hb.out.size)), Lib.hid h'⟩)
 have CI : Hid (∀ W, Hid (Below W3.heap.size W3 W) → Calls Tryz.prog 37 #[str s, .agg #[.int .i64 num, str (wrdO V [103, 117, 105, 100]), str (wrdO V [116, 105, 116, 108, 101]), str (wrdO V [108, 105, 110, 107]), .int .i64 (nbrO V [119, 104, 101, 110])], .func (.func 8) #[] #[]] W fun e w' => e = .returned (.tuple #[.agg #[.int .i64 z0, str z1, str z2, str z3, .int .i64 z4], .bool OK]) ∧ Hid (Below W3.heap.size W3 w')) := Lib.hid (fun W hb => by
  have := ifEnt_any s num (wrdO V guidN) (wrdO V titleN) (wrdO V linkN) (nbrO V whenN) W HLL.out.1 HLL.out.2.1 HLL.out.2.2 (fun w' h' => HT.out w' ((H3.out.1.trans (hb.out.mono H3.out.1.size)).trans (h'.mono (Nat.le_trans H3.out.1.size hb.out.size))))
  rw [← HOK.out, HZZ.out] at this
  refine this.mono ?_
  rintro e w' ⟨rfl, h'⟩
  exact ⟨rfl, Lib.hid (hb.out.trans (h'.mono hb.out.size))⟩)
 have HB : Hid (Below W3.heap.size W3 W3.drew) := Lib.hid (Below.drewsN (Below.refl _ _) 1)
 clear hb2 hb3 hbx hv CP
 go_upto_region 2 with fail
 rw [← hW3]
 clear hW3
 have HWc : Hid (Below W3.heap.size W3 (W3.alloc (.cells #[.int .i64 0, .string ⟨#[]⟩, .string ⟨#[]⟩, .string ⟨#[]⟩, .int .i64 0] 25)).drew) := Lib.hid ((below_alloc W3 _).trans ((Below.drewsN (Below.refl _ _) 1).mono (below_alloc W3 (.cells #[.int .i64 0, .string ⟨#[]⟩, .string ⟨#[]⟩, .string ⟨#[]⟩, .int .i64 0] 25)).size))
 have HZ0 : Hid (((W3.alloc (.cells #[.int .i64 0, .string ⟨#[]⟩, .string ⟨#[]⟩, .string ⟨#[]⟩, .int .i64 0] 25)).drew).heap[W3.heap.size]? = some (.cells #[.int .i64 0, str [], str [], str [], .int .i64 0] 25 (0, 0))) := Lib.hid (heap_alloc_new W3 _)
 go_cut [7] from 10 to 19 (fun v7 wc => ∃ B : Nat, v7 = .pointer (some ⟨B, 0, none⟩) ∧ Hid (Below W3.heap.size W3 wc ∧ wc.heap[B]? = some (.cells #[.int .i64 num, str (wrdO V [103, 117, 105, 100]), str (wrdO V [116, 105, 116, 108, 101]), str (wrdO V [108, 105, 110, 107]), .int .i64 (nbrO V [119, 104, 101, 110])] 25 (0, 0))))
 case first =>
  go_wp2_with fail
  go_region_held3 (fun W' => W'.cell? ⟨w2.heap.size, 0, none⟩ = some (.int .i64 V.kind) ∧ W'.cell? ⟨w2.heap.size, 1, none⟩ = some (.int .i64 V.n) ∧ W'.cell? ⟨w2.heap.size, 2, none⟩ = some (str V.s) ∧ W'.cell? ⟨w2.heap.size, 3, none⟩ = some (.slice a1 n1 c1) ∧ W'.cell? ⟨w2.heap.size, 4, none⟩ = some (.slice a2 n2 c2))
   (first | (exact HKS.out _ HB.out) | (exact HKS.out _ HWc.out) | (exact HKS.out _ (HB.out.trans ((below_alloc _ _).mono HB.out.size))) | (exact HKS.out _ (HB.out.trans ((five_set HZ.out.1 _ _ _ _ _).2.below HB.out.size (fun i e => by have := HZ.out.2; omega)))) | go_keep)
   ((first
     | (go_at_call 35; refine (CW.out _ _ HB).mono ?_; rintro e w5 ⟨rfl, HB, HBW⟩; have HZ := Lib.hid (And.intro (box_up HZ.out.1 HBW.out) HZ.out.2); clear HBW; have d0 := box_cell HZ.out.1 0; have d1 := box_cell HZ.out.1 1; have d2 := box_cell HZ.out.1 2; have d3 := box_cell HZ.out.1 3; have d4 := box_cell HZ.out.1 4; have df := box_fr HZ.out.1)
     | (go_at_call 36; refine (CN.out _ _ HB).mono ?_; rintro e w5 ⟨rfl, HB, HBW⟩; have HZ := Lib.hid (And.intro (box_up HZ.out.1 HBW.out) HZ.out.2); clear HBW; have d0 := box_cell HZ.out.1 0; have d1 := box_cell HZ.out.1 1; have d2 := box_cell HZ.out.1 2; have d3 := box_cell HZ.out.1 3; have d4 := box_cell HZ.out.1 4; have df := box_fr HZ.out.1)
     | (go_at_call 35; refine (CW.out _ _ HWc).mono ?_; rintro e w5 ⟨rfl, HB, HBW⟩; have HZ := Lib.hid (And.intro (box_up HZ0.out HBW.out) (Nat.le_refl W3.heap.size)); clear HBW; have d0 := box_cell HZ.out.1 0; have d1 := box_cell HZ.out.1 1; have d2 := box_cell HZ.out.1 2; have d3 := box_cell HZ.out.1 3; have d4 := box_cell HZ.out.1 4; have df := box_fr HZ.out.1)
     | (go_at_call 36; refine (CN.out _ _ HWc).mono ?_; rintro e w5 ⟨rfl, HB, HBW⟩; have HZ := Lib.hid (And.intro (box_up HZ0.out HBW.out) (Nat.le_refl W3.heap.size)); clear HBW; have d0 := box_cell HZ.out.1 0; have d1 := box_cell HZ.out.1 1; have d2 := box_cell HZ.out.1 2; have d3 := box_cell HZ.out.1 3; have d4 := box_cell HZ.out.1 4; have df := box_fr HZ.out.1)
     | (go_at_call 35; refine (CW.out _ _ (Lib.hid (HB.out.trans ((below_alloc _ _).mono HB.out.size)))).mono ?_; have HSB := Lib.hid HB.out.size; rintro e w5 ⟨rfl, HB, HBW⟩; have HZ := Lib.hid (And.intro (box_up (heap_alloc_new _ _) HBW.out) HSB.out); clear HBW HSB; have d0 := box_cell HZ.out.1 0; have d1 := box_cell HZ.out.1 1; have d2 := box_cell HZ.out.1 2; have d3 := box_cell HZ.out.1 3; have d4 := box_cell HZ.out.1 4; have df := box_fr HZ.out.1)
     | (go_at_call 36; refine (CN.out _ _ (Lib.hid (HB.out.trans ((below_alloc _ _).mono HB.out.size)))).mono ?_; have HSB := Lib.hid HB.out.size; rintro e w5 ⟨rfl, HB, HBW⟩; have HZ := Lib.hid (And.intro (box_up (heap_alloc_new _ _) HBW.out) HSB.out); clear HBW HSB; have d0 := box_cell HZ.out.1 0; have d1 := box_cell HZ.out.1 1; have d2 := box_cell HZ.out.1 2; have d3 := box_cell HZ.out.1 3; have d4 := box_cell HZ.out.1 4; have df := box_fr HZ.out.1)
     | (go_at_call 35; refine (CW.out _ _ HB).mono ?_; rintro e w5 ⟨rfl, HB, _⟩)
     | (go_at_call 36; refine (CN.out _ _ HB).mono ?_; rintro e w5 ⟨rfl, HB, _⟩)
     | fail))
  all_goals
   clear p0 p1 p2 p3 p4 HKS
   go_wp2_with fail
   go_meet
   case rel => first | (exact ⟨_, rfl, Lib.hid ⟨HB.out.trans ((below_alloc _ _).mono HB.out.size), heap_alloc_new _ _⟩⟩) | (exact ⟨_, rfl, Lib.hid (by
    have h5 := five_set HZ.out.1 (.int .i64 num) (str (wrdO V [103, 117, 105, 100])) (str (wrdO V [116, 105, 116, 108, 101])) (str (wrdO V [108, 105, 110, 107])) (.int .i64 (nbrO V [119, 104, 101, 110]))
    exact ⟨HB.out.trans (h5.2.below HB.out.size (fun i e => by have := HZ.out.2; omega)), h5.1⟩)⟩)
 case rest =>
 obtain ⟨B, rfl, HX⟩ := hcut
 obtain ⟨e0, e1, e2, e3, e4⟩ := box5 HX.out.2
 have CI2 := Lib.hid (CI.out wc (Lib.hid HX.out.1))
 clear p0 p1 p2 p3 p4 HKS CW CN CI
 go_wp2_with fail
 refine CI2.out.mono ?_
 rintro e w7 ⟨rfl, HB⟩
 have hz := box_up H3.out.2.1 HB.out
 obtain ⟨d0, d1, d2, d3, d4⟩ := box5 hz
 have df := box_fr hz
 have HZ := Lib.hid hz
 clear hz CI2 e0 e1 e2 e3 e4
 go_wp2_with fail
 refine bodyPost_any_world (fun X => X.heap[w.heap.size]? = some (.cells #[.int .i64 z0, str z1, str z2, str z3, .int .i64 z4] 25 (0, 0)) ∧ Frm (fun i => i = w.heap.size) w7 X) (five_set HZ.out _ _ _ _ _) ?_
 clear d0 d1 d2 d3 d4 df
 rintro w9 ⟨h9, hf9⟩
 obtain ⟨k0, k1, k2, k3, k4⟩ := box5 h9
 refine bodyPost_ret (v := .tuple #[.agg #[.int .i64 z0, str z1, str z2, str z3, .int .i64 z4], .bool OK]) (by simp [results, Tryz.results13, go_sem, k0, k1, k2, k3, k4]) rfl ?_
 exact ⟨rfl, (H3.out.1.trans (HB.out.mono H3.out.1.size)).trans (hf9.below (by have := H3.out.2.2.1; have := HB.out.size; omega) (fun k hk => by omega))⟩
end Go.Proofs.YtegblhmcfemfgaaGreatDoor
