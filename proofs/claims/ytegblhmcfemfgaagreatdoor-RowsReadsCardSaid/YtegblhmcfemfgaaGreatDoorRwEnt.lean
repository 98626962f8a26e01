import Derived.Test.YtegblhmcfemfgaaGreatDoorWTake
import Derived.Test.YtegblhmcfemfgaaGreatDoorRwPut2
namespace Go.Proofs.YtegblhmcfemfgaaGreatDoor
open Go.RowKit
def guidN : List UInt8 := [103, 117, 105, 100]
def linkN : List UInt8 := [108, 105, 110, 107]
def whenN : List UInt8 := [119, 104, 101, 110]
def entMs (g l t : List UInt8) (n : Int) : List MemT := [(guidN, .mk 5 0 g [] []), (linkN, .mk 5 0 l [] []), (titleN, .mk 5 0 t [] []), (whenN, .mk 4 n [] [] [])]
def badE (g l t : List UInt8) (n : Int) : Prop := g = [] ∨ 500 < g.length ∨ 500 < l.length ∨ 500 < t.length ∨ n < 0 ∨ 1099511627776 < n
instance decBadE (g l t : List UInt8) (n : Int) : Decidable (badE g l t n) := by unfold badE; infer_instance
def putEntR (g l t : List UInt8) (n : Int) : List UInt8 × Int := if badE g l t n then ([], 4) else objR (entMs g l t n)
theorem quo_six (s : List UInt8) : (quo s).length ≤ 6 * s.length + 2 := by
 have := qbL_len s
 simp [quo]; omega
theorem ent_pr {g l t : List UInt8} {n : Int} (hn : ¬ badE g l t n) : (prV (.mk 7 0 [] [] (entMs g l t n))).length ≤ 20000 := by
 have h1 := quo_six g
 have h2 := quo_six l
 have h3 := quo_six t
 have k1 : (quo guidN).length = 6 := by decide
 have k2 : (quo linkN).length = 6 := by decide
 have k3 : (quo titleN).length = 7 := by decide
 have k4 : (quo whenN).length = 6 := by decide
 have h4 := itoa_len (n := n) (by unfold badE at hn; omega)
 have h5 : g.length ≤ 500 ∧ l.length ≤ 500 ∧ t.length ≤ 500 := by unfold badE at hn; omega
 have e1 : ∀ x, prV (.mk 5 0 x [] []) = quo x := fun _ => rfl
 have e2 : prV (.mk 4 n [] [] []) = Lib.itoa n := rfl
 have e : prV (.mk 7 0 [] [] (entMs g l t n)) = 123 :: ((prU (entMs g l t n)).drop 1 ++ [125]) := rfl
 rw [e]
 simp [entMs, prU, e1, e2, k1, k2, k3, k4]
 omega
theorem timeMay_any (a : Int) (w : World) : Calls Tryz.prog 29 #[.int .i64 a] w fun e w' => e = .returned (.bool (decide (0 ≤ a ∧ a ≤ 1099511627776))) ∧ w = w' := by
 by_cases h1 : 0 ≤ a
 · by_cases h2 : a ≤ 1099511627776
   · rw [decide_eq_true (show 0 ≤ a ∧ a ≤ 1099511627776 from ⟨h1, h2⟩)]
     go_enter Tryz.func29, Tryz.ntmps29
     go_wp2_with fail
     go_ret
     exact ⟨rfl, rfl⟩
   rw [decide_eq_false (show ¬ (0 ≤ a ∧ a ≤ 1099511627776) from fun h => h2 h.2)]
   go_enter Tryz.func29, Tryz.ntmps29
   go_wp2_with fail
   go_ret
   exact ⟨rfl, rfl⟩
 rw [decide_eq_false (show ¬ (0 ≤ a ∧ a ≤ 1099511627776) from fun h => h1 h.1)]
 go_enter Tryz.func29, Tryz.ntmps29
 go_wp2_with fail
 go_ret
 exact ⟨rfl, rfl⟩
set_option maxRecDepth 100000 in
set_option maxHeartbeats 16000000 in
theorem putEnt_any (m : Int) (g t l : List UInt8) (n : Int) (w : World) (hg : g.length ≤ 9223372036854775807) (hl : l.length ≤ 9223372036854775807) (htl : t.length ≤ 9223372036854775807) (ht : TabJ w.heap.size w) : Calls Tryz.prog 8 #[.agg #[.int .i64 m, str g, str t, str l, .int .i64 n]] w fun e w' => e = .returned (.tuple #[str (putEntR g l t n).1, .int .i64 (putEntR g l t n).2]) ∧ Below w.heap.size w w' := by
 have HT := Lib.hid ht
 obtain ⟨W1, hW1⟩ : ∃ W1, W1 = w.alloc (.cells #[.int .i64 m, str g, str t, str l, .int .i64 n] 25) := ⟨_, rfl⟩
 have hb1 : Below w.heap.size w W1 := by rw [hW1]; exact below_alloc _ _
 have hbx : W1.heap[w.heap.size]? = some (.cells #[.int .i64 m, str g, str t, str l, .int .i64 n] 25 (0, 0)) := by rw [hW1]; exact heap_alloc_new _ _
 have p1 := box_cell hbx 1
 have p2 := box_cell hbx 2
 have p3 := box_cell hbx 3
 have p4 := box_cell hbx 4
 have HW := Lib.hid (And.intro hb1 hbx)
 clear ht hb1 hbx
 by_cases h1 : g = []
 · have HE : Hid (putEntR g l t n = ([], 4)) := Lib.hid (by
    unfold putEntR
    rw [if_pos (by unfold badE; left; exact h1)])
   rw [HE.out]
   have z1 : (g == []) = true := by rw [h1]; rfl
   subst h1
   clear HE
   go_enter Tryz.func8, Tryz.ntmps8
   go_wp2_with fail
   rw [← hW1]
   go_ret2
   exact ⟨rfl, HW.out.1⟩
 have z1 : (g == []) = false := by rw [beq_eq_false_iff_ne]; exact h1
 by_cases h2 : 500 < g.length ∨ 500 < l.length ∨ 500 < t.length
 · have HE : Hid (putEntR g l t n = ([], 4)) := Lib.hid (by
    unfold putEntR
    rw [if_pos (by unfold badE; right; omega)])
   rw [HE.out]
   obtain ⟨MX, hMX⟩ : ∃ MX : Int, MX = max (max (g.length : Int) (l.length : Int)) (t.length : Int) := ⟨_, rfl⟩
   have z2 : (500 : Int) < MX := by omega
   clear HE h1
   go_enter Tryz.func8, Tryz.ntmps8
   go_upto_region 1 with fail
   rw [← hW1]
   clear hW1
   go_cut [25] from 4 to 25 (fun v25 wc => v25 = .bool true ∧ W1 = wc)
   case first =>
    go_wp2_with fail
    all_goals
     go_meet
     case rel => exact ⟨by first | rfl | (exfalso; omega) | (simp <;> omega), rfl⟩
   case rest =>
   obtain ⟨rfl, rfl⟩ := hcut
   clear hMX
   go_wp2_with fail
   go_ret2
   exact ⟨rfl, HW.out.1⟩
 by_cases h3 : n < 0 ∨ 1099511627776 < n
 · have HE : Hid (putEntR g l t n = ([], 4)) := Lib.hid (by
    unfold putEntR
    rw [if_pos (by unfold badE; right; omega)])
   rw [HE.out]
   obtain ⟨MX, hMX⟩ : ∃ MX : Int, MX = max (max (g.length : Int) (l.length : Int)) (t.length : Int) := ⟨_, rfl⟩
   have z2 : ¬ (500 : Int) < MX := by omega
   obtain ⟨y1, y2, y3⟩ : ¬ (500 : Int) < (g.length : Int) ∧ ¬ (500 : Int) < (l.length : Int) ∧ ¬ (500 : Int) < (t.length : Int) := by omega
   have CM := Lib.hid (fun W => timeMay_any n W)
   rw [decide_eq_false (show ¬ (0 ≤ n ∧ n ≤ 1099511627776) from by omega)] at CM
   clear HE h1 h3
   go_enter Tryz.func8, Tryz.ntmps8
   go_upto_region 1 with fail
   rw [← hW1]
   clear hW1
   go_cut [25] from 4 to 25 (fun v25 wc => v25 = .bool true ∧ W1 = wc)
   case first =>
    go_wp2_with fail
    all_goals
     refine (CM.out _).mono ?_
     rintro e w2 ⟨rfl, rfl⟩
     go_wp2_with fail
     go_meet
     case rel => exact ⟨by first | rfl | (exfalso; omega) | (simp <;> omega), rfl⟩
   case rest =>
   obtain ⟨rfl, rfl⟩ := hcut
   clear hMX
   go_wp2_with fail
   go_ret2
   exact ⟨rfl, HW.out.1⟩
 have hgd : ¬ badE g l t n := by unfold badE; intro h; rcases h with h | h; exact h1 h; omega
 have HE : Hid (putEntR g l t n = objR (entMs g l t n)) := Lib.hid (by
  unfold putEntR
  rw [if_neg hgd])
 rw [HE.out]
 have CM := Lib.hid (fun W => timeMay_any n W)
 rw [decide_eq_true (show 0 ≤ n ∧ n ≤ 1099511627776 from by omega)] at CM
 have CT : Hid (∀ nm x W, Hid (Below W1.heap.size W1 W) → Calls Tryz.prog 28 #[str nm, str x] W fun e w' => e = .returned (.agg #[str nm, .int .i64 5, .int .i64 0, str x, .slice none 0 0, .slice none 0 0]) ∧ Hid (Below W1.heap.size W1 w')) := Lib.hid (fun nm x W hb => (bText_any _ _ W).mono (by
  rintro e w' ⟨rfl, h'⟩
  exact ⟨rfl, Lib.hid (hb.out.trans (h'.mono hb.out.size))⟩))
 have CN : Hid (∀ W, Hid (Below W1.heap.size W1 W) → Calls Tryz.prog 27 #[str [119, 104, 101, 110], .int .i64 n] W fun e w' => e = .returned (.agg #[str [119, 104, 101, 110], .int .i64 4, .int .i64 n, str [], .slice none 0 0, .slice none 0 0]) ∧ Hid (Below W1.heap.size W1 w')) := Lib.hid (fun W hb => (bNumber_any _ _ W).mono (by
  rintro e w' ⟨rfl, h'⟩
  exact ⟨rfl, Lib.hid (hb.out.trans (h'.mono hb.out.size))⟩))
 have CO : Hid (∀ W, Hid (Below W1.heap.size W1 W) → Calls Tryz.prog 26 #[.slice (some ⟨W.heap.size, 0, none⟩) 4 4] (W.alloc (.cells #[str [103, 117, 105, 100], .int .i64 5, .int .i64 0, str g, .slice none 0 0, .slice none 0 0, str [108, 105, 110, 107], .int .i64 5, .int .i64 0, str l, .slice none 0 0, .slice none 0 0, str [116, 105, 116, 108, 101], .int .i64 5, .int .i64 0, str t, .slice none 0 0, .slice none 0 0, str [119, 104, 101, 110], .int .i64 4, .int .i64 n, str [], .slice none 0 0, .slice none 0 0] 74)) fun e w' => e = .returned (.tuple #[str (objR (entMs g l t n)).1, .int .i64 (objR (entMs g l t n)).2]) ∧ Hid (Below W1.heap.size W1 w')) := Lib.hid (fun W hb => by
  have hb2 := below_alloc W (.cells #[str [103, 117, 105, 100], .int .i64 5, .int .i64 0, str g, .slice none 0 0, .slice none 0 0, str [108, 105, 110, 107], .int .i64 5, .int .i64 0, str l, .slice none 0 0, .slice none 0 0, str [116, 105, 116, 108, 101], .int .i64 5, .int .i64 0, str t, .slice none 0 0, .slice none 0 0, str [119, 104, 101, 110], .int .i64 4, .int .i64 n, str [], .slice none 0 0, .slice none 0 0] 74)
  refine (robject_any (F := fun _ => True) (ms := entMs g l t n) (rows := [[str [103, 117, 105, 100], .int .i64 5, .int .i64 0, str g, .slice none 0 0, .slice none 0 0], [str [108, 105, 110, 107], .int .i64 5, .int .i64 0, str l, .slice none 0 0, .slice none 0 0], [str [116, 105, 116, 108, 101], .int .i64 5, .int .i64 0, str t, .slice none 0 0, .slice none 0 0], [str [119, 104, 101, 110], .int .i64 4, .int .i64 n, str [], .slice none 0 0, .slice none 0 0]]) (RdFB.lit6 _ (by simp) (heap_alloc_new W _) rfl (by simp) trivial) (by
   unfold entMs RdM
   refine ⟨⟨_, rfl, plainJ _ _ _ _ _⟩, ?_⟩
   unfold RdM
   refine ⟨⟨_, rfl, plainJ _ _ _ _ _⟩, ?_⟩
   unfold RdM
   refine ⟨⟨_, rfl, plainJ _ _ _ _ _⟩, ?_⟩
   unfold RdM
   refine ⟨⟨_, rfl, plainJ _ _ _ _ _⟩, ?_⟩
   unfold RdM
   trivial) (fun _ => Nat.le_trans (ent_pr hgd) (by omega)) (fun w' h' => HT.out w' (((HW.out.1.trans (hb.out.mono HW.out.1.size)).trans (hb2.mono (Nat.le_trans HW.out.1.size hb.out.size))).trans (h'.mono (Nat.le_trans (Nat.le_trans HW.out.1.size hb.out.size) hb2.size))))).mono ?_
  rintro e w' ⟨rfl, h'⟩
  exact ⟨rfl, Lib.hid ((hb.out.trans (hb2.mono hb.out.size)).trans (h'.mono (Nat.le_trans hb.out.size hb2.size)))⟩)
 obtain ⟨R1, hR1⟩ : ∃ R1, R1 = (objR (entMs g l t n)).1 := ⟨_, rfl⟩
 obtain ⟨R2, hR2⟩ : ∃ R2, R2 = (objR (entMs g l t n)).2 := ⟨_, rfl⟩
 rw [← hR1, ← hR2] at CO
 rw [← hR1, ← hR2]
 have HB : Hid (Below W1.heap.size W1 W1.drew) := Lib.hid (Below.drewsN (Below.refl _ _) 1)
 have HKS : Hid (∀ W', Below W1.heap.size W1 W' → W'.cell? ⟨w.heap.size, 1, none⟩ = some (str g) ∧ W'.cell? ⟨w.heap.size, 2, none⟩ = some (str t) ∧ W'.cell? ⟨w.heap.size, 3, none⟩ = some (str l) ∧ W'.cell? ⟨w.heap.size, 4, none⟩ = some (.int .i64 n)) := Lib.hid (fun W' hb => ⟨(hb.cell (p := ⟨w.heap.size, 1, none⟩) (World.block_lt_of_cell? W1 _ p1)).trans p1, (hb.cell (p := ⟨w.heap.size, 2, none⟩) (World.block_lt_of_cell? W1 _ p2)).trans p2, (hb.cell (p := ⟨w.heap.size, 3, none⟩) (World.block_lt_of_cell? W1 _ p3)).trans p3, (hb.cell (p := ⟨w.heap.size, 4, none⟩) (World.block_lt_of_cell? W1 _ p4)).trans p4⟩)
 clear HE hR1 hR2 hgd
 obtain ⟨MX, hMX⟩ : ∃ MX : Int, MX = max (max (g.length : Int) (l.length : Int)) (t.length : Int) := ⟨_, rfl⟩
 have z2 : ¬ (500 : Int) < MX := by omega
 obtain ⟨y1, y2, y3⟩ : ¬ (500 : Int) < (g.length : Int) ∧ ¬ (500 : Int) < (l.length : Int) ∧ ¬ (500 : Int) < (t.length : Int) := by omega
 clear h3 h1
 go_enter Tryz.func8, Tryz.ntmps8
 go_upto_region 1 with fail
 rw [← hW1]
 clear hW1
 go_cut [25] from 4 to 25 (fun v25 wc => v25 = .bool false ∧ W1 = wc)
 case first =>
  go_wp2_with fail
  all_goals
   refine (CM.out _).mono ?_
   rintro e w2 ⟨rfl, rfl⟩
   go_wp2_with fail
   go_meet
   case rel => exact ⟨by first | rfl | (exfalso; omega) | (simp <;> omega), rfl⟩
 case rest =>
 obtain ⟨rfl, rfl⟩ := hcut
 clear hMX
 go_wp2_with fail
 go_region_held3 (fun W' => W'.cell? ⟨w.heap.size, 1, none⟩ = some (str g) ∧ W'.cell? ⟨w.heap.size, 2, none⟩ = some (str t) ∧ W'.cell? ⟨w.heap.size, 3, none⟩ = some (str l) ∧ W'.cell? ⟨w.heap.size, 4, none⟩ = some (.int .i64 n))
  (first | (exact HKS.out _ HB.out) | (exact HKS.out _ (HB.out.trans ((below_alloc _ _).mono HB.out.size))) | go_keep)
  ((first
    | (go_at_call 28; refine (CT.out _ _ _ HB).mono ?_; rintro e w5 ⟨rfl, HB⟩)
    | (go_at_call 27; refine (CN.out _ HB).mono ?_; rintro e w5 ⟨rfl, HB⟩)
    | (go_at_call 26; refine (CO.out _ HB).mono ?_; rintro e w7 ⟨rfl, HB⟩)
    | fail))
 all_goals
  clear p1 p2 p3 p4 HKS
  have HX := Lib.hid (HW.out.1.trans (HB.out.mono HW.out.1.size))
  go_wp2_with fail
  go_ret2
  exact ⟨rfl, HX.out⟩
theorem entry_same (m : Int) (g t l : List UInt8) (n : Int) (w : World) : Calls Tryz.prog 17 #[.agg #[.int .i64 m, str g, str t, str l, .int .i64 n], .agg #[.int .i64 m, str g, str t, str l, .int .i64 n]] w fun e w' => e = .returned (.bool true) ∧ Below w.heap.size w w' := by
 obtain ⟨W1, hW1⟩ : ∃ W1, W1 = (w.alloc (.cells #[.int .i64 m, str g, str t, str l, .int .i64 n] 25)).alloc (.cells #[.int .i64 m, str g, str t, str l, .int .i64 n] 25) := ⟨_, rfl⟩
 have hb1 : Below w.heap.size w W1 := by rw [hW1]; exact (below_alloc w _).alloc (by simp) _
 have h0 : W1.heap[w.heap.size]? = some (.cells #[.int .i64 m, str g, str t, str l, .int .i64 n] 25 (0, 0)) := by rw [hW1]; exact box_up (heap_alloc_new _ _) (below_alloc _ _)
 have h1 : W1.heap[w.heap.size + 1]? = some (.cells #[.int .i64 m, str g, str t, str l, .int .i64 n] 25 (0, 0)) := by
  rw [hW1]
  have := heap_alloc_new (w.alloc (.cells #[.int .i64 m, str g, str t, str l, .int .i64 n] 25)) (.cells #[.int .i64 m, str g, str t, str l, .int .i64 n] 25)
  simpa using this
 obtain ⟨p0, p1, p2, p3, p4⟩ := box5 h0
 obtain ⟨q0, q1, q2, q3, q4⟩ := box5 h1
 have HB := Lib.hid hb1
 clear hb1 h0 h1
 go_enter Tryz.func17, Tryz.ntmps17
 go_upto_region 1 with fail
 rw [← hW1]
 clear hW1
 go_wp2_with fail
 go_ret
 exact ⟨rfl, HB.out⟩
end Go.Proofs.YtegblhmcfemfgaaGreatDoor
