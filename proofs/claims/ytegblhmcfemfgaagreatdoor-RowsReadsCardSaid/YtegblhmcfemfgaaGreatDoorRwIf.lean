import Derived.Test.YtegblhmcfemfgaaGreatDoorWTake
import Derived.Test.YtegblhmcfemfgaaGreatDoorRwPut2
set_option maxRecDepth 100000
set_option maxHeartbeats 4000000
namespace Go.Proofs.YtegblhmcfemfgaaGreatDoor
open Go.RowKit
theorem two_set {w : World} {b : Nat} {x0 x1 : Value} {T : TypeId} (h : w.heap[b]? = some (.cells #[x0, x1] T (0, 0))) (v0 v1 : Value) :
 ((w.setCell ⟨b, 0, none⟩ v0).setCell ⟨b, 1, none⟩ v1).heap[b]? = some (.cells #[v0, v1] T (0, 0)) ∧ Frm (fun i => i = b) w ((w.setCell ⟨b, 0, none⟩ v0).setCell ⟨b, 1, none⟩ v1) :=
 ⟨box_set (box_set h 0 v0) 1 v1, (Frm.set (F := fun i => i = b) v0 rfl).trans (Frm.set (F := fun i => i = b) v1 rfl) (fun _ _ h => h)⟩
def okR (r : List UInt8 × Int) (s : List UInt8) : Bool := (r.2 == 0) && (r.1 == s)
theorem ifStr_any (s x : List UInt8) (w : World) (hl : x.length ≤ 9223372036854775807) (ht : TabJ w.heap.size w) :
 Calls Tryz.prog 38 #[str s, str x, .func (.func 9) #[] #[]] w fun e w' => e = .returned (.tuple #[str (if okR (putSubR x) s = true then x else []), .bool (okR (putSubR x) s)]) ∧ Below w.heap.size w w' := by
 have CP := putSub_any x w hl ht
 unfold okR
 obtain ⟨R1, hR1⟩ : ∃ R1, R1 = (putSubR x).1 := ⟨_, rfl⟩
 obtain ⟨R2, hR2⟩ : ∃ R2, R2 = (putSubR x).2 := ⟨_, rfl⟩
 rw [← hR1, ← hR2] at CP
 rw [← hR1, ← hR2]
 have CP := Lib.hid CP
 clear hR1 hR2 hl ht
 cases q1 : (R2 == 0) with
 | false =>
  go_enter Tryz.func38, Tryz.ntmps38
  go_wp2_with fail
  refine CP.out.mono ?_
  rintro e w2 ⟨rfl, hb2⟩
  have HX := Lib.hid hb2
  clear hb2 CP
  go_wp2_with fail
  go_ret2
  exact ⟨rfl, HX.out⟩
 | true =>
  cases q2 : (R1 == s) with
  | false =>
   go_enter Tryz.func38, Tryz.ntmps38
   go_wp2_with fail
   refine CP.out.mono ?_
   rintro e w2 ⟨rfl, hb2⟩
   have HX := Lib.hid hb2
   clear hb2 CP
   go_wp2_with fail
   go_ret2
   exact ⟨rfl, HX.out⟩
  | true =>
   go_enter Tryz.func38, Tryz.ntmps38
   go_wp2_with fail
   refine CP.out.mono ?_
   rintro e w2 ⟨rfl, hb2⟩
   have HX := Lib.hid hb2
   clear hb2 CP
   go_wp2_with fail
   go_ret2
   exact ⟨rfl, HX.out⟩
theorem ifFeed_any (s : List UInt8) (t : List UInt8) (n : Int) (w : World) (ht : TabJ w.heap.size w) :
 Calls Tryz.prog 34 #[str s, .agg #[str t, .int .i64 n], .func (.func 7) #[] #[]] w fun e w' => e = .returned (.tuple #[.agg (if okR (putFeedR t n) s = true then #[str t, .int .i64 n] else #[str [], .int .i64 0]), .bool (okR (putFeedR t n) s)]) ∧ Below w.heap.size w w' := by
 obtain ⟨Wa, hWa⟩ : ∃ Wa, Wa = (w.alloc (.cells #[str t, .int .i64 n] 23)).alloc (.cells #[.string ⟨#[]⟩, .int .i64 0] 23) := ⟨_, rfl⟩
 have HA : Hid (Below w.heap.size w Wa ∧ Wa.heap[w.heap.size]? = some (.cells #[str t, .int .i64 n] 23 (0, 0)) ∧ Wa.heap[w.heap.size + 1]? = some (.cells #[str [], .int .i64 0] 23 (0, 0)) ∧ w.heap.size + 2 ≤ Wa.heap.size) := Lib.hid (by
  refine ⟨by rw [hWa]; exact ((Below.refl _ _).alloc (Nat.le_refl _) _).alloc (by simp) _, by rw [hWa]; exact box_up (heap_alloc_new w _) (below_alloc _ _), ?_, by rw [hWa]; simp⟩
  rw [hWa]
  have := heap_alloc_new (w.alloc (.cells #[str t, .int .i64 n] 23)) (.cells #[.string ⟨#[]⟩, .int .i64 0] 23)
  simpa using this)
 have CP := putFeed_any t n Wa (fun w' h' => ht w' (HA.out.1.trans (h'.mono HA.out.1.size)))
 obtain ⟨q0, q1⟩ := box2 HA.out.2.1
 unfold okR
 obtain ⟨R1, hR1⟩ : ∃ R1, R1 = (putFeedR t n).1 := ⟨_, rfl⟩
 obtain ⟨R2, hR2⟩ : ∃ R2, R2 = (putFeedR t n).2 := ⟨_, rfl⟩
 rw [← hR1, ← hR2] at CP
 rw [← hR1, ← hR2]
 have CP := Lib.hid CP
 clear hR1 hR2 ht
 cases t1 : (R2 == 0) with
 | false =>
  go_enter Tryz.func34, Tryz.ntmps34
  go_upto_region 1 with fail
  rw [← hWa]
  clear hWa
  go_wp2_with fail
  refine CP.out.mono ?_
  rintro e w2 ⟨rfl, hb2⟩
  have hz : (w2.alloc (.cells #[.string ⟨#[]⟩, .int .i64 0] 23)).heap[w.heap.size + 1]? = some (.cells #[str [], .int .i64 0] 23 (0, 0)) := box_up (box_up HA.out.2.2.1 hb2) (below_alloc _ _)
  obtain ⟨d0, d1⟩ := box2 hz
  have df := box_fr hz
  have HB : Hid (Below w.heap.size w (w2.alloc (.cells #[.string ⟨#[]⟩, .int .i64 0] 23)) ∧ w.heap.size + 2 ≤ (w2.alloc (.cells #[.string ⟨#[]⟩, .int .i64 0] 23)).heap.size) := Lib.hid ⟨(HA.out.1.trans (hb2.mono HA.out.1.size)).trans ((below_alloc w2 (.cells #[.string ⟨#[]⟩, .int .i64 0] 23)).mono (Nat.le_trans HA.out.1.size hb2.size)), Nat.le_trans (Nat.le_trans HA.out.2.2.2 hb2.size) (below_alloc w2 (.cells #[.string ⟨#[]⟩, .int .i64 0] 23)).size⟩
  have HZ := Lib.hid hz
  clear hz hb2 CP q0 q1
  go_wp2_with fail
  refine bodyPost_any_world (fun X => X.heap[w.heap.size + 1]? = some (.cells #[str [], .int .i64 0] 23 (0, 0)) ∧ Frm (fun i => i = w.heap.size + 1) (w2.alloc (.cells #[.string ⟨#[]⟩, .int .i64 0] 23)) X) (two_set HZ.out _ _) ?_
  clear d0 d1 df
  rintro w9 ⟨h9, hf9⟩
  obtain ⟨k0, k1⟩ := box2 h9
  refine bodyPost_ret (v := .tuple #[.agg #[str [], .int .i64 0], .bool false]) (by simp [results, Tryz.results34, go_sem, k0, k1]) rfl ?_
  exact ⟨rfl, HB.out.1.trans (hf9.below (by have := HB.out.2; omega) (fun k hk => by omega))⟩
 | true =>
  cases t2 : (R1 == s) with
  | false =>
   go_enter Tryz.func34, Tryz.ntmps34
   go_upto_region 1 with fail
   rw [← hWa]
   clear hWa
   go_wp2_with fail
   refine CP.out.mono ?_
   rintro e w2 ⟨rfl, hb2⟩
   have hz : (w2.alloc (.cells #[.string ⟨#[]⟩, .int .i64 0] 23)).heap[w.heap.size + 1]? = some (.cells #[str [], .int .i64 0] 23 (0, 0)) := box_up (box_up HA.out.2.2.1 hb2) (below_alloc _ _)
   obtain ⟨d0, d1⟩ := box2 hz
   have df := box_fr hz
   have HB : Hid (Below w.heap.size w (w2.alloc (.cells #[.string ⟨#[]⟩, .int .i64 0] 23)) ∧ w.heap.size + 2 ≤ (w2.alloc (.cells #[.string ⟨#[]⟩, .int .i64 0] 23)).heap.size) := Lib.hid ⟨(HA.out.1.trans (hb2.mono HA.out.1.size)).trans ((below_alloc w2 (.cells #[.string ⟨#[]⟩, .int .i64 0] 23)).mono (Nat.le_trans HA.out.1.size hb2.size)), Nat.le_trans (Nat.le_trans HA.out.2.2.2 hb2.size) (below_alloc w2 (.cells #[.string ⟨#[]⟩, .int .i64 0] 23)).size⟩
   have HZ := Lib.hid hz
   clear hz hb2 CP q0 q1
   go_wp2_with fail
   refine bodyPost_any_world (fun X => X.heap[w.heap.size + 1]? = some (.cells #[str [], .int .i64 0] 23 (0, 0)) ∧ Frm (fun i => i = w.heap.size + 1) (w2.alloc (.cells #[.string ⟨#[]⟩, .int .i64 0] 23)) X) (two_set HZ.out _ _) ?_
   clear d0 d1 df
   rintro w9 ⟨h9, hf9⟩
   obtain ⟨k0, k1⟩ := box2 h9
   refine bodyPost_ret (v := .tuple #[.agg #[str [], .int .i64 0], .bool false]) (by simp [results, Tryz.results34, go_sem, k0, k1]) rfl ?_
   exact ⟨rfl, HB.out.1.trans (hf9.below (by have := HB.out.2; omega) (fun k hk => by omega))⟩
  | true =>
   go_enter Tryz.func34, Tryz.ntmps34
   go_upto_region 1 with fail
   rw [← hWa]
   clear hWa
   go_wp2_with fail
   refine CP.out.mono ?_
   rintro e w2 ⟨rfl, hb2⟩
   have hz : w2.heap[w.heap.size + 1]? = some (.cells #[str [], .int .i64 0] 23 (0, 0)) := box_up HA.out.2.2.1 hb2
   obtain ⟨d0, d1⟩ := box2 hz
   have df := box_fr hz
   obtain ⟨p0, p1⟩ := box2 (box_up HA.out.2.1 hb2)
   have HB : Hid (Below w.heap.size w w2 ∧ w.heap.size + 2 ≤ w2.heap.size) := Lib.hid ⟨HA.out.1.trans (hb2.mono HA.out.1.size), Nat.le_trans HA.out.2.2.2 hb2.size⟩
   have HZ := Lib.hid hz
   clear hz hb2 CP q0 q1
   go_wp2_with fail
   refine bodyPost_any_world (fun X => X.heap[w.heap.size + 1]? = some (.cells #[str t, .int .i64 n] 23 (0, 0)) ∧ Frm (fun i => i = w.heap.size + 1) w2 X) (two_set HZ.out _ _) ?_
   clear d0 d1 df p0 p1
   rintro w9 ⟨h9, hf9⟩
   obtain ⟨k0, k1⟩ := box2 h9
   refine bodyPost_ret (v := .tuple #[.agg #[str t, .int .i64 n], .bool true]) (by simp [results, Tryz.results34, go_sem, k0, k1]) rfl ?_
   exact ⟨rfl, HB.out.1.trans (hf9.below (by have := HB.out.2; omega) (fun k hk => by omega))⟩
theorem ifState_any (s : List UInt8) (a b : Int) (w : World) (ht : TabJ w.heap.size w) :
 Calls Tryz.prog 39 #[str s, .agg #[.int .i64 a, .int .i64 b], .func (.func 10) #[] #[]] w fun e w' => e = .returned (.tuple #[.agg (if okR (putStateR a b) s = true then #[.int .i64 a, .int .i64 b] else #[.int .i64 0, .int .i64 0]), .bool (okR (putStateR a b) s)]) ∧ Below w.heap.size w w' := by
 obtain ⟨Wa, hWa⟩ : ∃ Wa, Wa = (w.alloc (.cells #[.int .i64 a, .int .i64 b] 27)).alloc (.cells #[.int .i64 0, .int .i64 0] 27) := ⟨_, rfl⟩
 have HA : Hid (Below w.heap.size w Wa ∧ Wa.heap[w.heap.size]? = some (.cells #[.int .i64 a, .int .i64 b] 27 (0, 0)) ∧ Wa.heap[w.heap.size + 1]? = some (.cells #[.int .i64 0, .int .i64 0] 27 (0, 0)) ∧ w.heap.size + 2 ≤ Wa.heap.size) := Lib.hid (by
  refine ⟨by rw [hWa]; exact ((Below.refl _ _).alloc (Nat.le_refl _) _).alloc (by simp) _, by rw [hWa]; exact box_up (heap_alloc_new w _) (below_alloc _ _), ?_, by rw [hWa]; simp⟩
  rw [hWa]
  have := heap_alloc_new (w.alloc (.cells #[.int .i64 a, .int .i64 b] 27)) (.cells #[.int .i64 0, .int .i64 0] 27)
  simpa using this)
 have CP := putState_any a b Wa (fun w' h' => ht w' (HA.out.1.trans (h'.mono HA.out.1.size)))
 obtain ⟨q0, q1⟩ := box2 HA.out.2.1
 unfold okR
 obtain ⟨R1, hR1⟩ : ∃ R1, R1 = (putStateR a b).1 := ⟨_, rfl⟩
 obtain ⟨R2, hR2⟩ : ∃ R2, R2 = (putStateR a b).2 := ⟨_, rfl⟩
 rw [← hR1, ← hR2] at CP
 rw [← hR1, ← hR2]
 have CP := Lib.hid CP
 clear hR1 hR2 ht
 cases t1 : (R2 == 0) with
 | false =>
  go_enter Tryz.func39, Tryz.ntmps39
  go_upto_region 1 with fail
  rw [← hWa]
  clear hWa
  go_wp2_with fail
  refine CP.out.mono ?_
  rintro e w2 ⟨rfl, hb2⟩
  have hz : (w2.alloc (.cells #[.int .i64 0, .int .i64 0] 27)).heap[w.heap.size + 1]? = some (.cells #[.int .i64 0, .int .i64 0] 27 (0, 0)) := box_up (box_up HA.out.2.2.1 hb2) (below_alloc _ _)
  obtain ⟨d0, d1⟩ := box2 hz
  have df := box_fr hz
  have HB : Hid (Below w.heap.size w (w2.alloc (.cells #[.int .i64 0, .int .i64 0] 27)) ∧ w.heap.size + 2 ≤ (w2.alloc (.cells #[.int .i64 0, .int .i64 0] 27)).heap.size) := Lib.hid ⟨(HA.out.1.trans (hb2.mono HA.out.1.size)).trans ((below_alloc w2 (.cells #[.int .i64 0, .int .i64 0] 27)).mono (Nat.le_trans HA.out.1.size hb2.size)), Nat.le_trans (Nat.le_trans HA.out.2.2.2 hb2.size) (below_alloc w2 (.cells #[.int .i64 0, .int .i64 0] 27)).size⟩
  have HZ := Lib.hid hz
  clear hz hb2 CP q0 q1
  go_wp2_with fail
  refine bodyPost_any_world (fun X => X.heap[w.heap.size + 1]? = some (.cells #[.int .i64 0, .int .i64 0] 27 (0, 0)) ∧ Frm (fun i => i = w.heap.size + 1) (w2.alloc (.cells #[.int .i64 0, .int .i64 0] 27)) X) (two_set HZ.out _ _) ?_
  clear d0 d1 df
  rintro w9 ⟨h9, hf9⟩
  obtain ⟨k0, k1⟩ := box2 h9
  refine bodyPost_ret (v := .tuple #[.agg #[.int .i64 0, .int .i64 0], .bool false]) (by simp [results, Tryz.results39, go_sem, k0, k1]) rfl ?_
  exact ⟨rfl, HB.out.1.trans (hf9.below (by have := HB.out.2; omega) (fun k hk => by omega))⟩
 | true =>
  cases t2 : (R1 == s) with
  | false =>
   go_enter Tryz.func39, Tryz.ntmps39
   go_upto_region 1 with fail
   rw [← hWa]
   clear hWa
   go_wp2_with fail
   refine CP.out.mono ?_
   rintro e w2 ⟨rfl, hb2⟩
   have hz : (w2.alloc (.cells #[.int .i64 0, .int .i64 0] 27)).heap[w.heap.size + 1]? = some (.cells #[.int .i64 0, .int .i64 0] 27 (0, 0)) := box_up (box_up HA.out.2.2.1 hb2) (below_alloc _ _)
   obtain ⟨d0, d1⟩ := box2 hz
   have df := box_fr hz
   have HB : Hid (Below w.heap.size w (w2.alloc (.cells #[.int .i64 0, .int .i64 0] 27)) ∧ w.heap.size + 2 ≤ (w2.alloc (.cells #[.int .i64 0, .int .i64 0] 27)).heap.size) := Lib.hid ⟨(HA.out.1.trans (hb2.mono HA.out.1.size)).trans ((below_alloc w2 (.cells #[.int .i64 0, .int .i64 0] 27)).mono (Nat.le_trans HA.out.1.size hb2.size)), Nat.le_trans (Nat.le_trans HA.out.2.2.2 hb2.size) (below_alloc w2 (.cells #[.int .i64 0, .int .i64 0] 27)).size⟩
   have HZ := Lib.hid hz
   clear hz hb2 CP q0 q1
   go_wp2_with fail
   refine bodyPost_any_world (fun X => X.heap[w.heap.size + 1]? = some (.cells #[.int .i64 0, .int .i64 0] 27 (0, 0)) ∧ Frm (fun i => i = w.heap.size + 1) (w2.alloc (.cells #[.int .i64 0, .int .i64 0] 27)) X) (two_set HZ.out _ _) ?_
   clear d0 d1 df
   rintro w9 ⟨h9, hf9⟩
   obtain ⟨k0, k1⟩ := box2 h9
   refine bodyPost_ret (v := .tuple #[.agg #[.int .i64 0, .int .i64 0], .bool false]) (by simp [results, Tryz.results39, go_sem, k0, k1]) rfl ?_
   exact ⟨rfl, HB.out.1.trans (hf9.below (by have := HB.out.2; omega) (fun k hk => by omega))⟩
  | true =>
   go_enter Tryz.func39, Tryz.ntmps39
   go_upto_region 1 with fail
   rw [← hWa]
   clear hWa
   go_wp2_with fail
   refine CP.out.mono ?_
   rintro e w2 ⟨rfl, hb2⟩
   have hz : w2.heap[w.heap.size + 1]? = some (.cells #[.int .i64 0, .int .i64 0] 27 (0, 0)) := box_up HA.out.2.2.1 hb2
   obtain ⟨d0, d1⟩ := box2 hz
   have df := box_fr hz
   obtain ⟨p0, p1⟩ := box2 (box_up HA.out.2.1 hb2)
   have HB : Hid (Below w.heap.size w w2 ∧ w.heap.size + 2 ≤ w2.heap.size) := Lib.hid ⟨HA.out.1.trans (hb2.mono HA.out.1.size), Nat.le_trans HA.out.2.2.2 hb2.size⟩
   have HZ := Lib.hid hz
   clear hz hb2 CP q0 q1
   go_wp2_with fail
   refine bodyPost_any_world (fun X => X.heap[w.heap.size + 1]? = some (.cells #[.int .i64 a, .int .i64 b] 27 (0, 0)) ∧ Frm (fun i => i = w.heap.size + 1) w2 X) (two_set HZ.out _ _) ?_
   clear d0 d1 df p0 p1
   rintro w9 ⟨h9, hf9⟩
   obtain ⟨k0, k1⟩ := box2 h9
   refine bodyPost_ret (v := .tuple #[.agg #[.int .i64 a, .int .i64 b], .bool true]) (by simp [results, Tryz.results39, go_sem, k0, k1]) rfl ?_
   exact ⟨rfl, HB.out.1.trans (hf9.below (by have := HB.out.2; omega) (fun k hk => by omega))⟩
end Go.Proofs.YtegblhmcfemfgaaGreatDoor
