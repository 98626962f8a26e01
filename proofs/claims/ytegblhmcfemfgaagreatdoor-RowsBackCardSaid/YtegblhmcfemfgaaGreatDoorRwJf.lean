/- Joined: RwGets, RwTwoM, RwBackM, RwEnt, MkPut, RwMkP, RwMks. -/
import Derived.Test.YtegblhmcfemfgaaGreatDoorRwJd
import Derived.Test.YtegblhmcfemfgaaGreatDoorRwJb
import Derived.Test.YtegblhmcfemfgaaGreatDoorRwJa
import Derived.Test.YtegblhmcfemfgaaGreatDoorRwJm
import Derived.Deep.AppendLies
namespace Go.Proofs.YtegblhmcfemfgaaGreatDoor
open Go.RowKit

theorem getJ_sz {v x : JV} {nm : List UInt8} (h : getJ v nm = some x) : szV x ≤ szV v := by
  unfold getJ at h
  split at h
  · have key : ∀ m : List MemT, fndM m nm = some x → szV x ≤ szM m := by
      intro m
      induction m with
      | nil => intro h; simp [fndM] at h
      | cons y t ih =>
        intro h
        obtain ⟨a, u⟩ := y
        rw [fndM] at h
        rw [szM]
        split at h
        · cases h; omega
        · have := ih h; omega
    have := key _ h
    have := szV_mk v
    omega
  · cases h
theorem wrdO_len (v : JV) (nm : List UInt8) : (wrdO v nm).length ≤ szV v := by
  unfold wrdO
  cases h : getJ v nm with
  | none => simp
  | some x =>
    have h1 := getJ_sz h
    have h2 := szV_mk x
    dsimp only
    omega
set_option maxRecDepth 100000 in
set_option maxHeartbeats 4000000 in
theorem getSub_any (s : List UInt8) (w : World) (hl : s.length ≤ 1000000) (ht : TabJ w.heap.size w) :
    Calls Tryz.prog 14 #[str s] w fun e w' => e = .returned (.tuple #[str (if okR (putSubR (wrdO (valOf s) folderN)) s = true then wrdO (valOf s) folderN else []), .bool (okR (putSubR (wrdO (valOf s) folderN)) s)]) ∧ Below w.heap.size w w' := by
  have CP := Lib.hid (rparse_any s w hl)
  have hsz := valOf_sz s
  obtain ⟨V, hV⟩ : ∃ V, V = valOf s := ⟨_, rfl⟩
  rw [← hV] at CP hsz
  rw [← hV]
  have hxl := wrdO_len V folderN
  have HSZ := Lib.hid hsz
  have HT := Lib.hid ht
  obtain ⟨X, hX⟩ : ∃ X, X = wrdO V folderN := ⟨_, rfl⟩
  rw [← hX] at hxl
  rw [← hX]
  have HX := Lib.hid hX
  have hxl2 : X.length ≤ 9223372036854775807 := by omega
  obtain ⟨OK, hOK⟩ : ∃ OK, OK = okR (putSubR X) s := ⟨_, rfl⟩
  rw [← hOK]
  obtain ⟨ZS, hZS⟩ : ∃ ZS, ZS = (if OK = true then X else []) := ⟨_, rfl⟩
  rw [← hZS]
  have HOK := Lib.hid (And.intro hOK hZS)
  clear hV hX hl ht hsz hxl hOK hZS
  go_enter Tryz.func14, Tryz.ntmps14
  go_wp2_with fail
  refine CP.out.mono ?_
  rintro e w2 ⟨cs, rfl, hv, hb2⟩
  have CW := words_any V [102, 111, 108, 100, 101, 114] HSZ.out _ w2 cs hv
  have e9 : wrdO V [102, 111, 108, 100, 101, 114] = X := HX.out.symm
  rw [e9] at CW
  obtain ⟨a1, n1, c1, a2, n2, c2, rfl, _, _⟩ := hv.open
  have CW := Lib.hid CW
  have HB2 := Lib.hid hb2
  clear hb2 hv CP e9
  go_wp2_with fail
  refine CW.out.mono ?_
  rintro e w3 ⟨rfl, hb3⟩
  have HB3 := Lib.hid (HB2.out.trans (hb3.mono HB2.out.size))
  have CI := ifStr_any s X w3 hxl2 (fun w' h' => HT.out w' (HB3.out.trans (h'.mono HB3.out.size)))
  rw [← HOK.out.1, ← HOK.out.2] at CI
  have CI := Lib.hid CI
  clear hb3 CW
  go_wp2_with fail
  refine CI.out.mono ?_
  rintro e w4 ⟨rfl, hb4⟩
  have HY := Lib.hid (HB3.out.trans (hb4.mono HB3.out.size))
  clear hb4 CI
  go_wp2_with fail
  go_ret2
  exact ⟨rfl, HY.out⟩
set_option maxRecDepth 100000 in
set_option maxHeartbeats 8000000 in
theorem getFeed_any (s : List UInt8) (w : World) (hl : s.length ≤ 1000000) (ht : TabJ w.heap.size w) :
    Calls Tryz.prog 12 #[str s] w fun e w' => e = .returned (.tuple #[.agg (if okR (putFeedR (wrdO (valOf s) [116, 105, 116, 108, 101]) (nbrO (valOf s) [110])) s = true then #[str (wrdO (valOf s) [116, 105, 116, 108, 101]), .int .i64 (nbrO (valOf s) [110])] else #[str [], .int .i64 0]), .bool (okR (putFeedR (wrdO (valOf s) [116, 105, 116, 108, 101]) (nbrO (valOf s) [110])) s)]) ∧ Below w.heap.size w w' := by
  obtain ⟨Wa, hWa⟩ : ∃ Wa, Wa = w.alloc (.cells #[.string ⟨#[]⟩, .int .i64 0] 23) := ⟨_, rfl⟩
  have HA : Hid (Below w.heap.size w Wa ∧ Wa.heap[w.heap.size]? = some (.cells #[str [], .int .i64 0] 23 (0, 0)) ∧ w.heap.size + 1 ≤ Wa.heap.size) := Lib.hid ⟨by rw [hWa]; exact below_alloc _ _, by rw [hWa]; exact heap_alloc_new _ _, by rw [hWa]; simp⟩
  have CP := Lib.hid (rparse_any s Wa hl)
  have hsz := valOf_sz s
  obtain ⟨V, hV⟩ : ∃ V, V = valOf s := ⟨_, rfl⟩
  rw [← hV] at CP hsz
  rw [← hV]
  have HSZ := Lib.hid hsz
  have HT := Lib.hid ht
  obtain ⟨X, hX⟩ : ∃ X, X = wrdO V [116, 105, 116, 108, 101] := ⟨_, rfl⟩
  obtain ⟨Y, hY⟩ : ∃ Y, Y = nbrO V [110] := ⟨_, rfl⟩
  rw [← hX, ← hY]
  have HXY := Lib.hid (And.intro hX hY)
  obtain ⟨OK, hOK⟩ : ∃ OK, OK = okR (putFeedR X Y) s := ⟨_, rfl⟩
  obtain ⟨z1, z2, hzz⟩ : ∃ z1 z2, (if OK = true then #[str X, .int .i64 Y] else #[str [], .int .i64 0] : Array Value) = #[str z1, .int .i64 z2] := by cases OK <;> exact ⟨_, _, rfl⟩
  rw [← hOK, hzz]
  have HOK := Lib.hid hOK
  have HZZ := Lib.hid hzz
  clear hV hX hY hl ht hsz hOK hzz
  go_enter Tryz.func12, Tryz.ntmps12
  go_upto_region 1 with fail
  rw [← hWa]
  clear hWa
  go_wp2_with fail
  refine CP.out.mono ?_
  rintro e w2 ⟨cs, rfl, hv, hb2⟩
  obtain ⟨a1, n1, c1, a2, n2, c2, rfl, _, _⟩ := hv.open
  obtain ⟨W3, hW3⟩ : ∃ W3, W3 = w2.alloc (.cells #[.int .i64 V.kind, .int .i64 V.n, str V.s, .slice a1 n1 c1, .slice a2 n2 c2] 72) := ⟨_, rfl⟩
  have hb3 : Below w2.heap.size w2 W3 := by rw [hW3]; exact below_alloc _ _
  have hbx : W3.heap[w2.heap.size]? = some (.cells #[.int .i64 V.kind, .int .i64 V.n, str V.s, .slice a1 n1 c1, .slice a2 n2 c2] 72 (0, 0)) := by rw [hW3]; exact heap_alloc_new _ _
  have H3 : Hid (Below w.heap.size w W3 ∧ W3.heap[w.heap.size]? = some (.cells #[str [], .int .i64 0] 23 (0, 0)) ∧ w.heap.size + 1 ≤ W3.heap.size ∧ w.heap.size < w2.heap.size) := Lib.hid ⟨(HA.out.1.trans (hb2.mono HA.out.1.size)).trans (hb3.mono (Nat.le_trans HA.out.1.size hb2.size)), box_up (box_up HA.out.2.1 hb2) hb3, Nat.le_trans (Nat.le_trans HA.out.2.2 hb2.size) hb3.size, by have := HA.out.2.2; have := hb2.size; omega⟩
  have p0 := box_cell hbx 0
  have p1 := box_cell hbx 1
  have p2 := box_cell hbx 2
  have p3 := box_cell hbx 3
  have p4 := box_cell hbx 4
  have HKS : Hid (∀ W', Below W3.heap.size W3 W' → W'.cell? ⟨w2.heap.size, 0, none⟩ = some (.int .i64 V.kind) ∧ W'.cell? ⟨w2.heap.size, 1, none⟩ = some (.int .i64 V.n) ∧ W'.cell? ⟨w2.heap.size, 2, none⟩ = some (str V.s) ∧ W'.cell? ⟨w2.heap.size, 3, none⟩ = some (.slice a1 n1 c1) ∧ W'.cell? ⟨w2.heap.size, 4, none⟩ = some (.slice a2 n2 c2)) := Lib.hid (fun W' hb => ⟨(hb.cell (p := ⟨w2.heap.size, 0, none⟩) (World.block_lt_of_cell? W3 _ p0)).trans p0, (hb.cell (p := ⟨w2.heap.size, 1, none⟩) (World.block_lt_of_cell? W3 _ p1)).trans p1, (hb.cell (p := ⟨w2.heap.size, 2, none⟩) (World.block_lt_of_cell? W3 _ p2)).trans p2, (hb.cell (p := ⟨w2.heap.size, 3, none⟩) (World.block_lt_of_cell? W3 _ p3)).trans p3, (hb.cell (p := ⟨w2.heap.size, 4, none⟩) (World.block_lt_of_cell? W3 _ p4)).trans p4⟩)
  have HV := Lib.hid (hv.up hb3)
  have CW : Hid (∀ W, Hid (Below W3.heap.size W3 W) → Calls Tryz.prog 35 #[.agg #[.int .i64 V.kind, .int .i64 V.n, str V.s, .slice a1 n1 c1, .slice a2 n2 c2], str [116, 105, 116, 108, 101]] W fun e w' => e = .returned (str X) ∧ Hid (Below W3.heap.size W3 w')) := Lib.hid (fun W hb => by
    have := words_any V [116, 105, 116, 108, 101] HSZ.out _ W _ (HV.out.up hb.out)
    rw [← HXY.out.1] at this
    refine this.mono ?_
    rintro e w' ⟨rfl, h'⟩
    exact ⟨rfl, Lib.hid (hb.out.trans (h'.mono hb.out.size))⟩)
  have CN : Hid (∀ W, Hid (Below W3.heap.size W3 W) → Calls Tryz.prog 36 #[.agg #[.int .i64 V.kind, .int .i64 V.n, str V.s, .slice a1 n1 c1, .slice a2 n2 c2], str [110]] W fun e w' => e = .returned (.int .i64 Y) ∧ Hid (Below W3.heap.size W3 w')) := Lib.hid (fun W hb => by
    have := numb_any V [110] HSZ.out _ W _ (HV.out.up hb.out)
    rw [← HXY.out.2] at this
    refine this.mono ?_
    rintro e w' ⟨rfl, h'⟩
    exact ⟨rfl, Lib.hid (hb.out.trans (h'.mono hb.out.size))⟩)
  have CI : Hid (∀ W, Hid (Below W3.heap.size W3 W) → Calls Tryz.prog 34 #[str s, .agg #[str X, .int .i64 Y], .func (.func 7) #[] #[]] W fun e w' => e = .returned (.tuple #[.agg #[str z1, .int .i64 z2], .bool OK]) ∧ Hid (Below W3.heap.size W3 w')) := Lib.hid (fun W hb => by
    have := ifFeed_any s X Y W (fun w' h' => HT.out w' ((H3.out.1.trans (hb.out.mono H3.out.1.size)).trans (h'.mono (Nat.le_trans H3.out.1.size hb.out.size))))
    rw [← HOK.out, HZZ.out] at this
    refine this.mono ?_
    rintro e w' ⟨rfl, h'⟩
    exact ⟨rfl, Lib.hid (hb.out.trans (h'.mono hb.out.size))⟩)
  have HB : Hid (Below W3.heap.size W3 W3.drew) := Lib.hid (Below.drewsN (Below.refl _ _) 1)
  have hne : w.heap.size ≠ w2.heap.size := by have := H3.out.2.2.2; omega
  clear hb2 hb3 hbx hv CP
  go_upto_region 2 with fail
  rw [← hW3]
  clear hW3
  go_wp2_with fail
  go_region_held3 (fun W' => W'.cell? ⟨w2.heap.size, 0, none⟩ = some (.int .i64 V.kind) ∧ W'.cell? ⟨w2.heap.size, 1, none⟩ = some (.int .i64 V.n) ∧ W'.cell? ⟨w2.heap.size, 2, none⟩ = some (str V.s) ∧ W'.cell? ⟨w2.heap.size, 3, none⟩ = some (.slice a1 n1 c1) ∧ W'.cell? ⟨w2.heap.size, 4, none⟩ = some (.slice a2 n2 c2))
    (first | (exact HKS.out _ HB.out) | go_keep)
    ((first
      | (go_at_call 35; refine (CW.out _ HB).mono ?_; rintro e w5 ⟨rfl, HB⟩)
      | (go_at_call 36; refine (CN.out _ HB).mono ?_; rintro e w5 ⟨rfl, HB⟩)
      | (go_at_call 34; refine (CI.out _ HB).mono ?_; rintro e w7 ⟨rfl, HB⟩; have hz := box_up H3.out.2.1 HB.out; have d0 := box_cell hz 0; have d1 := box_cell hz 1; have df := box_fr hz; have HZ := Lib.hid hz; clear hz)
      | fail))
  all_goals
    clear p0 p1 p2 p3 p4 HKS
    go_wp2_with fail
    refine bodyPost_any_world (fun X => X.heap[w.heap.size]? = some (.cells #[str z1, .int .i64 z2] 23 (0, 0)) ∧ Frm (fun i => i = w.heap.size) w7 X) (two_set HZ.out _ _) ?_
    clear d0 d1 df
    rintro w9 ⟨h9, hf9⟩
    have k0 := box_cell h9 0
    have k1 := box_cell h9 1
    refine bodyPost_ret (v := .tuple #[.agg #[str z1, .int .i64 z2], .bool OK]) (by simp [results, Tryz.results12, go_sem, k0, k1]) rfl ?_
    exact ⟨rfl, (H3.out.1.trans (HB.out.mono H3.out.1.size)).trans (hf9.below (by have := H3.out.2.2.1; have := HB.out.size; omega) (fun k hk => by omega))⟩
set_option maxRecDepth 100000 in
set_option maxHeartbeats 8000000 in
theorem getState_any (s : List UInt8) (w : World) (hl : s.length ≤ 1000000) (ht : TabJ w.heap.size w) :
    Calls Tryz.prog 15 #[str s] w fun e w' => e = .returned (.tuple #[.agg (if okR (putStateR (nbrO (valOf s) [114, 101, 97, 100]) (nbrO (valOf s) [115, 116, 97, 114])) s = true then #[.int .i64 (nbrO (valOf s) [114, 101, 97, 100]), .int .i64 (nbrO (valOf s) [115, 116, 97, 114])] else #[.int .i64 0, .int .i64 0]), .bool (okR (putStateR (nbrO (valOf s) [114, 101, 97, 100]) (nbrO (valOf s) [115, 116, 97, 114])) s)]) ∧ Below w.heap.size w w' := by
  obtain ⟨Wa, hWa⟩ : ∃ Wa, Wa = w.alloc (.cells #[.int .i64 0, .int .i64 0] 27) := ⟨_, rfl⟩
  have HA : Hid (Below w.heap.size w Wa ∧ Wa.heap[w.heap.size]? = some (.cells #[.int .i64 0, .int .i64 0] 27 (0, 0)) ∧ w.heap.size + 1 ≤ Wa.heap.size) := Lib.hid ⟨by rw [hWa]; exact below_alloc _ _, by rw [hWa]; exact heap_alloc_new _ _, by rw [hWa]; simp⟩
  have CP := Lib.hid (rparse_any s Wa hl)
  have hsz := valOf_sz s
  obtain ⟨V, hV⟩ : ∃ V, V = valOf s := ⟨_, rfl⟩
  rw [← hV] at CP hsz
  rw [← hV]
  have HSZ := Lib.hid hsz
  have HT := Lib.hid ht
  obtain ⟨OK, hOK⟩ : ∃ OK, OK = okR (putStateR (nbrO V [114, 101, 97, 100]) (nbrO V [115, 116, 97, 114])) s := ⟨_, rfl⟩
  obtain ⟨z1, z2, hzz⟩ : ∃ z1 z2, (if OK = true then #[.int .i64 (nbrO V [114, 101, 97, 100]), .int .i64 (nbrO V [115, 116, 97, 114])] else #[.int .i64 0, .int .i64 0] : Array Value) = #[.int .i64 z1, .int .i64 z2] := by cases OK <;> exact ⟨_, _, rfl⟩
  rw [← hOK, hzz]
  have HOK := Lib.hid hOK
  have HZZ := Lib.hid hzz
  clear hV hl ht hsz hOK hzz
  go_enter Tryz.func15, Tryz.ntmps15
  go_upto_region 1 with fail
  rw [← hWa]
  clear hWa
  go_wp2_with fail
  refine CP.out.mono ?_
  rintro e w2 ⟨cs, rfl, hv, hb2⟩
  obtain ⟨a1, n1, c1, a2, n2, c2, rfl, _, _⟩ := hv.open
  obtain ⟨W3, hW3⟩ : ∃ W3, W3 = w2.alloc (.cells #[.int .i64 V.kind, .int .i64 V.n, str V.s, .slice a1 n1 c1, .slice a2 n2 c2] 72) := ⟨_, rfl⟩
  have hb3 : Below w2.heap.size w2 W3 := by rw [hW3]; exact below_alloc _ _
  have hbx : W3.heap[w2.heap.size]? = some (.cells #[.int .i64 V.kind, .int .i64 V.n, str V.s, .slice a1 n1 c1, .slice a2 n2 c2] 72 (0, 0)) := by rw [hW3]; exact heap_alloc_new _ _
  have H3 : Hid (Below w.heap.size w W3 ∧ W3.heap[w.heap.size]? = some (.cells #[.int .i64 0, .int .i64 0] 27 (0, 0)) ∧ w.heap.size + 1 ≤ W3.heap.size ∧ w.heap.size < w2.heap.size) := Lib.hid ⟨(HA.out.1.trans (hb2.mono HA.out.1.size)).trans (hb3.mono (Nat.le_trans HA.out.1.size hb2.size)), box_up (box_up HA.out.2.1 hb2) hb3, Nat.le_trans (Nat.le_trans HA.out.2.2 hb2.size) hb3.size, by have := HA.out.2.2; have := hb2.size; omega⟩
  have p0 := box_cell hbx 0
  have p1 := box_cell hbx 1
  have p2 := box_cell hbx 2
  have p3 := box_cell hbx 3
  have p4 := box_cell hbx 4
  have HKS : Hid (∀ W', Below W3.heap.size W3 W' → W'.cell? ⟨w2.heap.size, 0, none⟩ = some (.int .i64 V.kind) ∧ W'.cell? ⟨w2.heap.size, 1, none⟩ = some (.int .i64 V.n) ∧ W'.cell? ⟨w2.heap.size, 2, none⟩ = some (str V.s) ∧ W'.cell? ⟨w2.heap.size, 3, none⟩ = some (.slice a1 n1 c1) ∧ W'.cell? ⟨w2.heap.size, 4, none⟩ = some (.slice a2 n2 c2)) := Lib.hid (fun W' hb => ⟨(hb.cell (p := ⟨w2.heap.size, 0, none⟩) (World.block_lt_of_cell? W3 _ p0)).trans p0, (hb.cell (p := ⟨w2.heap.size, 1, none⟩) (World.block_lt_of_cell? W3 _ p1)).trans p1, (hb.cell (p := ⟨w2.heap.size, 2, none⟩) (World.block_lt_of_cell? W3 _ p2)).trans p2, (hb.cell (p := ⟨w2.heap.size, 3, none⟩) (World.block_lt_of_cell? W3 _ p3)).trans p3, (hb.cell (p := ⟨w2.heap.size, 4, none⟩) (World.block_lt_of_cell? W3 _ p4)).trans p4⟩)
  have HV := Lib.hid (hv.up hb3)
  have CN : Hid (∀ nm W, Hid (Below W3.heap.size W3 W) → Calls Tryz.prog 36 #[.agg #[.int .i64 V.kind, .int .i64 V.n, str V.s, .slice a1 n1 c1, .slice a2 n2 c2], str nm] W fun e w' => e = .returned (.int .i64 (nbrO V nm)) ∧ Hid (Below W3.heap.size W3 w')) := Lib.hid (fun nm W hb => by
    refine (numb_any V nm HSZ.out _ W _ (HV.out.up hb.out)).mono ?_
    rintro e w' ⟨rfl, h'⟩
    exact ⟨rfl, Lib.hid (hb.out.trans (h'.mono hb.out.size))⟩)
  have CI : Hid (∀ W, Hid (Below W3.heap.size W3 W) → Calls Tryz.prog 39 #[str s, .agg #[.int .i64 (nbrO V [114, 101, 97, 100]), .int .i64 (nbrO V [115, 116, 97, 114])], .func (.func 10) #[] #[]] W fun e w' => e = .returned (.tuple #[.agg #[.int .i64 z1, .int .i64 z2], .bool OK]) ∧ Hid (Below W3.heap.size W3 w')) := Lib.hid (fun W hb => by
    have := ifState_any s (nbrO V [114, 101, 97, 100]) (nbrO V [115, 116, 97, 114]) W (fun w' h' => HT.out w' ((H3.out.1.trans (hb.out.mono H3.out.1.size)).trans (h'.mono (Nat.le_trans H3.out.1.size hb.out.size))))
    rw [← HOK.out, HZZ.out] at this
    refine this.mono ?_
    rintro e w' ⟨rfl, h'⟩
    exact ⟨rfl, Lib.hid (hb.out.trans (h'.mono hb.out.size))⟩)
  have HB : Hid (Below W3.heap.size W3 W3.drew) := Lib.hid (Below.drewsN (Below.refl _ _) 1)
  have hne : w.heap.size ≠ w2.heap.size := by have := H3.out.2.2.2; omega
  clear hb2 hb3 hbx hv CP
  go_upto_region 2 with fail
  rw [← hW3]
  clear hW3
  go_wp2_with fail
  go_region_held3 (fun W' => W'.cell? ⟨w2.heap.size, 0, none⟩ = some (.int .i64 V.kind) ∧ W'.cell? ⟨w2.heap.size, 1, none⟩ = some (.int .i64 V.n) ∧ W'.cell? ⟨w2.heap.size, 2, none⟩ = some (str V.s) ∧ W'.cell? ⟨w2.heap.size, 3, none⟩ = some (.slice a1 n1 c1) ∧ W'.cell? ⟨w2.heap.size, 4, none⟩ = some (.slice a2 n2 c2))
    (first | (exact HKS.out _ HB.out) | go_keep)
    ((first
      | (go_at_call 36; refine (CN.out _ _ HB).mono ?_; rintro e w5 ⟨rfl, HB⟩)
      | (go_at_call 39; refine (CI.out _ HB).mono ?_; rintro e w7 ⟨rfl, HB⟩; have hz := box_up H3.out.2.1 HB.out; have d0 := box_cell hz 0; have d1 := box_cell hz 1; have df := box_fr hz; have HZ := Lib.hid hz; clear hz)
      | fail))
  all_goals
    clear p0 p1 p2 p3 p4 HKS
    go_wp2_with fail
    refine bodyPost_any_world (fun X => X.heap[w.heap.size]? = some (.cells #[.int .i64 z1, .int .i64 z2] 27 (0, 0)) ∧ Frm (fun i => i = w.heap.size) w7 X) (two_set HZ.out _ _) ?_
    clear d0 d1 df
    rintro w9 ⟨h9, hf9⟩
    have k0 := box_cell h9 0
    have k1 := box_cell h9 1
    refine bodyPost_ret (v := .tuple #[.agg #[.int .i64 z1, .int .i64 z2], .bool OK]) (by simp [results, Tryz.results15, go_sem, k0, k1]) rfl ?_
    exact ⟨rfl, (H3.out.1.trans (HB.out.mono H3.out.1.size)).trans (hf9.below (by have := H3.out.2.2.1; have := HB.out.size; omega) (fun k hk => by omega))⟩
end Go.Proofs.YtegblhmcfemfgaaGreatDoor
namespace Go.Proofs.YtegblhmcfemfgaaGreatDoor
open Go.RowKit

theorem objR_ok {ms : List MemT} (h : (objR ms).2 = 0) : mayV (.mk 7 0 [] [] ms) 64 = true ∧ (objR ms).1 = prV (.mk 7 0 [] [] ms) := by
  by_cases hm : mayV (.mk 7 0 [] [] ms) 64 = true
  · unfold objR
    rw [if_pos hm]
    exact ⟨hm, rfl⟩
  · unfold objR at h
    rw [if_neg hm] at h
    cases h
theorem objR_inj {m1 m2 : List MemT} (h1 : (objR m1).2 = 0) (h2 : (objR m2).2 = 0) (l1 : (prV (.mk 7 0 [] [] m1)).length ≤ 20000) (l2 : (prV (.mk 7 0 [] [] m2)).length ≤ 20000) (he : (objR m1).1 = (objR m2).1) : m1 = m2 := by
  obtain ⟨a1, e1⟩ := objR_ok h1
  obtain ⟨a2, e2⟩ := objR_ok h2
  rw [e1, e2] at he
  have p1 := par_pr a1 l1
  have p2 := par_pr a2 l2
  rw [he, p2] at p1
  injection p1 with p1 _
  injection p1 with _ _ _ _ p1
  exact p1.symm
/-- No row's text ends, begins otherwise than with a brace. -/
theorem objR_last {ms : List MemT} (s : List UInt8) (c : UInt8) (hc : c ≠ 125) : okR (objR ms) (s ++ [c]) = false := by
  by_cases h : (objR ms).2 = 0
  · obtain ⟨_, e⟩ := objR_ok h
    have hne : ¬ (objR ms).1 = s ++ [c] := by
      intro he
      rw [e] at he
      have ep : prV (.mk 7 0 [] [] ms) = (123 :: (prU ms).drop 1) ++ [125] := rfl
      rw [ep] at he
      have := (List.append_inj' he rfl).2
      simp at this
      exact hc this.symm
    unfold okR
    rw [show ((objR ms).1 == s ++ [c]) = false from by simpa using hne, Bool.and_false]
  · unfold okR
    rw [show ((objR ms).2 == 0) = false from by simpa using h, Bool.false_and]
theorem objR_first {ms : List MemT} (s : List UInt8) (c : UInt8) (hc : c ≠ 123) : okR (objR ms) (c :: s) = false := by
  by_cases h : (objR ms).2 = 0
  · obtain ⟨_, e⟩ := objR_ok h
    have hne : ¬ (objR ms).1 = c :: s := by
      intro he
      rw [e] at he
      have ep : prV (.mk 7 0 [] [] ms) = 123 :: ((prU ms).drop 1 ++ [125]) := rfl
      rw [ep] at he
      injection he with he _
      exact hc he.symm
    unfold okR
    rw [show ((objR ms).1 == c :: s) = false from by simpa using hne, Bool.and_false]
  · unfold okR
    rw [show ((objR ms).2 == 0) = false from by simpa using h, Bool.false_and]
theorem feed_last (t : List UInt8) (n : Int) (s : List UInt8) : okR (putFeedR t n) (s ++ [32]) = false := by
  unfold putFeedR
  split
  · rfl
  · exact objR_last s 32 (by decide)
theorem state_first (a b : Int) (s : List UInt8) : okR (putStateR a b) (32 :: s) = false := by
  unfold putStateR
  split
  · rfl
  · exact objR_first s 32 (by decide)
theorem sub_last (t s : List UInt8) : okR (putSubR t) (s ++ [10]) = false := by
  unfold putSubR
  split
  · rfl
  · exact objR_last s 10 (by decide)
theorem quo_le (s : List UInt8) : (quo s).length ≤ 6 * s.length + 2 := by
  have := qbL_len s
  simp [quo]; omega
theorem feed_pr {t : List UInt8} {n : Int} (hn : ¬ badF t n) : (prV (.mk 7 0 [] [] (feedMs t n))).length ≤ 20000 := by
  have h1 := quo_le t
  have h2 : (quo titleN).length = 7 := by decide
  have h3 : (quo [110]).length = 3 := by decide
  have h4 := itoa_len (n := n) (by unfold badF at hn; omega)
  have h5 : t.length ≤ 500 := by unfold badF at hn; omega
  have e1 : prV (.mk 5 0 t [] []) = quo t := rfl
  have e2 : prV (.mk 4 n [] [] []) = Lib.itoa n := rfl
  have e : prV (.mk 7 0 [] [] (feedMs t n)) = 123 :: ((prU (feedMs t n)).drop 1 ++ [125]) := rfl
  rw [e]
  simp [feedMs, prU, e1, e2, h2, h3]
  omega
theorem state_pr {a b : Int} (hn : ¬ badS a b) : (prV (.mk 7 0 [] [] (stateMs a b))).length ≤ 20000 := by
  have h2 : (quo readN).length = 6 := by decide
  have h3 : (quo starN).length = 6 := by decide
  have h4 := itoa_len (n := a) (by unfold badS at hn; omega)
  have h5 := itoa_len (n := b) (by unfold badS at hn; omega)
  have e1 : prV (.mk 4 a [] [] []) = Lib.itoa a := rfl
  have e2 : prV (.mk 4 b [] [] []) = Lib.itoa b := rfl
  have e : prV (.mk 7 0 [] [] (stateMs a b)) = 123 :: ((prU (stateMs a b)).drop 1 ++ [125]) := rfl
  rw [e]
  simp [stateMs, prU, e1, e2, h2, h3]
  omega
theorem sub_pr {s : List UInt8} (hn : ¬ (s ≠ [] ∧ nameB s = false)) : (prV (.mk 7 0 [] [] (subMs s))).length ≤ 20000 := by
  have hl : s.length ≤ 20 := by
    by_cases hs : s = []
    · subst hs; simp
    · cases hb : nameB s
      · exact absurd ⟨hs, hb⟩ hn
      · exact (nameB_len hb).2
  have h1 := quo_le s
  have h2 : (quo folderN).length = 8 := by decide
  have e1 : prV (.mk 5 0 s [] []) = quo s := rfl
  have e : prV (.mk 7 0 [] [] (subMs s)) = 123 :: ((prU (subMs s)).drop 1 ++ [125]) := rfl
  rw [e]
  simp [subMs, prU, e1, h2]
  omega
theorem objR_len {ms : List MemT} (h : (prV (.mk 7 0 [] [] ms)).length ≤ 20000) : (objR ms).1.length ≤ 20000 := by
  unfold objR
  split
  · exact h
  · simp
theorem feed_short (t : List UInt8) (n : Int) : (putFeedR t n).1.length ≤ 20000 := by
  unfold putFeedR
  split
  · simp
  · next h => exact objR_len (feed_pr h)
theorem state_short (a b : Int) : (putStateR a b).1.length ≤ 20000 := by
  unfold putStateR
  split
  · simp
  · next h => exact objR_len (state_pr h)
theorem sub_short (s : List UInt8) : (putSubR s).1.length ≤ 20000 := by
  unfold putSubR
  split
  · simp
  · next h => exact objR_len (sub_pr h)
theorem feed_two {t t' : List UInt8} {n n' : Int} (h : (putFeedR t n).2 = 0) (h' : (putFeedR t' n').2 = 0) : ((putFeedR t n).1 == (putFeedR t' n').1) = decide (t = t' ∧ n = n') := by
  by_cases e : t = t' ∧ n = n'
  · obtain ⟨rfl, rfl⟩ := e
    simp
  · have hb : ¬ badF t n := fun hb => by unfold putFeedR at h; rw [if_pos hb] at h; cases h
    have hb' : ¬ badF t' n' := fun hb => by unfold putFeedR at h'; rw [if_pos hb] at h'; cases h'
    have e1 : putFeedR t n = objR (feedMs t n) := by unfold putFeedR; rw [if_neg hb]
    have e2 : putFeedR t' n' = objR (feedMs t' n') := by unfold putFeedR; rw [if_neg hb']
    rw [e1] at h ⊢
    rw [e2] at h' ⊢
    have : ¬ (objR (feedMs t n)).1 = (objR (feedMs t' n')).1 := by
      intro he
      have := objR_inj h h' (feed_pr hb) (feed_pr hb') he
      simp [feedMs] at this
      exact e ⟨this.2, this.1⟩
    rw [decide_eq_false e]
    simpa using this
theorem state_two {a b a' b' : Int} (h : (putStateR a b).2 = 0) (h' : (putStateR a' b').2 = 0) : ((putStateR a b).1 == (putStateR a' b').1) = decide (a = a' ∧ b = b') := by
  by_cases e : a = a' ∧ b = b'
  · obtain ⟨rfl, rfl⟩ := e
    simp
  · have hb : ¬ badS a b := fun hb => by unfold putStateR at h; rw [if_pos hb] at h; cases h
    have hb' : ¬ badS a' b' := fun hb => by unfold putStateR at h'; rw [if_pos hb] at h'; cases h'
    have e1 : putStateR a b = objR (stateMs a b) := by unfold putStateR; rw [if_neg hb]
    have e2 : putStateR a' b' = objR (stateMs a' b') := by unfold putStateR; rw [if_neg hb']
    rw [e1] at h ⊢
    rw [e2] at h' ⊢
    have : ¬ (objR (stateMs a b)).1 = (objR (stateMs a' b')).1 := by
      intro he
      have := objR_inj h h' (state_pr hb) (state_pr hb') he
      simp [stateMs] at this
      exact e this
    rw [decide_eq_false e]
    simpa using this
theorem sub_two {s s' : List UInt8} (h : (putSubR s).2 = 0) (h' : (putSubR s').2 = 0) : ((putSubR s).1 == (putSubR s').1) = decide (s = s') := by
  by_cases e : s = s'
  · subst e
    simp
  · have hb : ¬ (s ≠ [] ∧ nameB s = false) := fun hb => by unfold putSubR at h; rw [if_pos hb] at h; cases h
    have hb' : ¬ (s' ≠ [] ∧ nameB s' = false) := fun hb => by unfold putSubR at h'; rw [if_pos hb] at h'; cases h'
    have e1 : putSubR s = objR (subMs s) := by unfold putSubR; rw [if_neg hb]
    have e2 : putSubR s' = objR (subMs s') := by unfold putSubR; rw [if_neg hb']
    rw [e1] at h ⊢
    rw [e2] at h' ⊢
    have : ¬ (objR (subMs s)).1 = (objR (subMs s')).1 := by
      intro he
      have := objR_inj h h' (sub_pr hb) (sub_pr hb') he
      simp [subMs] at this
      exact e this
    rw [decide_eq_false e]
    simpa using this
theorem feed_eql (t t' : List UInt8) (n n' : Int) (W : World) : (binOp .eql 23 (.agg #[str t, .int .i64 n]) (.agg #[str t', .int .i64 n'])).run Tryz.prog W = .ok (.bool (decide (t = t' ∧ n = n'))) W := by
  have hS : Tryz.prog.underlying 23 = some (.struct (Tryz.prog.fieldsOf 23)) := by kernel_rfl
  have hp : Tryz.prog.stoodInHeld 23 = false := by kernel_rfl
  rw [run_eql_struct, show (10000 : Nat) = 9999 + 1 from rfl, run_equalIn_agg W 9999 23 _ _ hS hp]
  simp only [Program.fieldsOf, Tryz.underlying23]
  go_simp
  by_cases h1 : t = t' <;> by_cases h2 : n = n' <;> simp [h1, h2]
theorem state_eql (a b a' b' : Int) (W : World) : (binOp .eql 27 (.agg #[.int .i64 a, .int .i64 b]) (.agg #[.int .i64 a', .int .i64 b'])).run Tryz.prog W = .ok (.bool (decide (a = a' ∧ b = b'))) W := by
  have hS : Tryz.prog.underlying 27 = some (.struct (Tryz.prog.fieldsOf 27)) := by kernel_rfl
  have hp : Tryz.prog.stoodInHeld 27 = false := by kernel_rfl
  rw [run_eql_struct, show (10000 : Nat) = 9999 + 1 from rfl, run_equalIn_agg W 9999 27 _ _ hS hp]
  simp only [Program.fieldsOf, Tryz.underlying27]
  go_simp
  by_cases h1 : a = a' <;> by_cases h2 : b = b' <;> simp [h1, h2]
end Go.Proofs.YtegblhmcfemfgaaGreatDoor
namespace Go.Proofs.YtegblhmcfemfgaaGreatDoor
open Go.RowKit

theorem valOf_pr {ms : List MemT} (hm : mayV (.mk 7 0 [] [] ms) 64 = true) (hl : (prV (.mk 7 0 [] [] ms)).length ≤ 20000) : valOf (prV (.mk 7 0 [] [] ms)) = .mk 7 0 [] [] ms := by
  unfold valOf
  rw [par_pr hm hl]
theorem feed_wrd (t : List UInt8) (n : Int) : wrdO (.mk 7 0 [] [] (feedMs t n)) titleN = t := by rfl
theorem feed_nbr (t : List UInt8) (n : Int) : nbrO (.mk 7 0 [] [] (feedMs t n)) [110] = n := by rfl
theorem state_read (a b : Int) : nbrO (.mk 7 0 [] [] (stateMs a b)) readN = a := by rfl
theorem state_star (a b : Int) : nbrO (.mk 7 0 [] [] (stateMs a b)) starN = b := by rfl
theorem sub_wrd (s : List UInt8) : wrdO (.mk 7 0 [] [] (subMs s)) folderN = s := by rfl
theorem feed_self {t : List UInt8} {n : Int} (h : (putFeedR t n).2 = 0) : valOf (putFeedR t n).1 = .mk 7 0 [] [] (feedMs t n) := by
  have hb : ¬ badF t n := fun hb => by unfold putFeedR at h; rw [if_pos hb] at h; cases h
  have e1 : putFeedR t n = objR (feedMs t n) := by unfold putFeedR; rw [if_neg hb]
  rw [e1] at h ⊢
  obtain ⟨hm, e⟩ := objR_ok h
  rw [e]
  exact valOf_pr hm (feed_pr hb)
theorem state_self {a b : Int} (h : (putStateR a b).2 = 0) : valOf (putStateR a b).1 = .mk 7 0 [] [] (stateMs a b) := by
  have hb : ¬ badS a b := fun hb => by unfold putStateR at h; rw [if_pos hb] at h; cases h
  have e1 : putStateR a b = objR (stateMs a b) := by unfold putStateR; rw [if_neg hb]
  rw [e1] at h ⊢
  obtain ⟨hm, e⟩ := objR_ok h
  rw [e]
  exact valOf_pr hm (state_pr hb)
theorem sub_self {s : List UInt8} (h : (putSubR s).2 = 0) : valOf (putSubR s).1 = .mk 7 0 [] [] (subMs s) := by
  have hb : ¬ (s ≠ [] ∧ nameB s = false) := fun hb => by unfold putSubR at h; rw [if_pos hb] at h; cases h
  have e1 : putSubR s = objR (subMs s) := by unfold putSubR; rw [if_neg hb]
  rw [e1] at h ⊢
  obtain ⟨hm, e⟩ := objR_ok h
  rw [e]
  exact valOf_pr hm (sub_pr hb)
theorem okR_self {r : List UInt8 × Int} (h : r.2 = 0) : okR r r.1 = true := by
  unfold okR
  simp [h]
end Go.Proofs.YtegblhmcfemfgaaGreatDoor
namespace Go.Proofs.YtegblhmcfemfgaaGreatDoor
open Go.RowKit

def guidN : List UInt8 := [103, 117, 105, 100]
def linkN : List UInt8 := [108, 105, 110, 107]
def whenN : List UInt8 := [119, 104, 101, 110]
def entMs (g l t : List UInt8) (n : Int) : List MemT := [(guidN, .mk 5 0 g [] []), (linkN, .mk 5 0 l [] []), (titleN, .mk 5 0 t [] []), (whenN, .mk 4 n [] [] [])]
def badE (g l t : List UInt8) (n : Int) : Prop := g = [] ∨ 500 < g.length ∨ 500 < l.length ∨ 500 < t.length ∨ n < 0 ∨ 1099511627776 < n
instance decBadE (g l t : List UInt8) (n : Int) : Decidable (badE g l t n) := by unfold badE; infer_instance
def putEntR (g l t : List UInt8) (n : Int) : List UInt8 × Int := if badE g l t n then ([], 4) else objR (entMs g l t n)
theorem quo_six (s : List UInt8) : (quo s).length ≤ 6 * s.length + 2 := by
  have := qbL_len s
  simp [quo]; omega
theorem ent_pr {g l t : List UInt8} {n : Int} (hn : ¬ badE g l t n) : (prV (.mk 7 0 [] [] (entMs g l t n))).length ≤ 20000 := by
  have h1 := quo_six g
  have h2 := quo_six l
  have h3 := quo_six t
  have k1 : (quo guidN).length = 6 := by decide
  have k2 : (quo linkN).length = 6 := by decide
  have k3 : (quo titleN).length = 7 := by decide
  have k4 : (quo whenN).length = 6 := by decide
  have h4 := itoa_len (n := n) (by unfold badE at hn; omega)
  have h5 : g.length ≤ 500 ∧ l.length ≤ 500 ∧ t.length ≤ 500 := by unfold badE at hn; omega
  have e1 : ∀ x, prV (.mk 5 0 x [] []) = quo x := fun _ => rfl
  have e2 : prV (.mk 4 n [] [] []) = Lib.itoa n := rfl
  have e : prV (.mk 7 0 [] [] (entMs g l t n)) = 123 :: ((prU (entMs g l t n)).drop 1 ++ [125]) := rfl
  rw [e]
  simp [entMs, prU, e1, e2, k1, k2, k3, k4]
  omega
theorem nat_le_max (a b c : Int) (h : ¬ 500 < a) (h2 : ¬ 500 < b) (h3 : ¬ 500 < c) : ¬ 500 < max (max a b) c := by omega
theorem timeMay_any (a : Int) (w : World) : Calls Tryz.prog 29 #[.int .i64 a] w fun e w' => e = .returned (.bool (decide (0 ≤ a ∧ a ≤ 1099511627776))) ∧ w = w' := by
  by_cases h1 : 0 ≤ a
  · by_cases h2 : a ≤ 1099511627776
    · rw [decide_eq_true (show 0 ≤ a ∧ a ≤ 1099511627776 from ⟨h1, h2⟩)]
      go_enter Tryz.func29, Tryz.ntmps29
      go_wp2_with fail
      go_ret
      exact ⟨rfl, rfl⟩
    · rw [decide_eq_false (show ¬ (0 ≤ a ∧ a ≤ 1099511627776) from fun h => h2 h.2)]
      go_enter Tryz.func29, Tryz.ntmps29
      go_wp2_with fail
      go_ret
      exact ⟨rfl, rfl⟩
  · rw [decide_eq_false (show ¬ (0 ≤ a ∧ a ≤ 1099511627776) from fun h => h1 h.1)]
    go_enter Tryz.func29, Tryz.ntmps29
    go_wp2_with fail
    go_ret
    exact ⟨rfl, rfl⟩
set_option maxRecDepth 100000 in
set_option maxHeartbeats 16000000 in
theorem putEnt_any (m : Int) (g t l : List UInt8) (n : Int) (w : World) (hg : g.length ≤ 9223372036854775807) (hl : l.length ≤ 9223372036854775807) (htl : t.length ≤ 9223372036854775807) (ht : TabJ w.heap.size w) : Calls Tryz.prog 8 #[.agg #[.int .i64 m, str g, str t, str l, .int .i64 n]] w fun e w' => e = .returned (.tuple #[str (putEntR g l t n).1, .int .i64 (putEntR g l t n).2]) ∧ Below w.heap.size w w' := by
  have HT := Lib.hid ht
  obtain ⟨W1, hW1⟩ : ∃ W1, W1 = w.alloc (.cells #[.int .i64 m, str g, str t, str l, .int .i64 n] 25) := ⟨_, rfl⟩
  have hb1 : Below w.heap.size w W1 := by rw [hW1]; exact below_alloc _ _
  have hbx : W1.heap[w.heap.size]? = some (.cells #[.int .i64 m, str g, str t, str l, .int .i64 n] 25 (0, 0)) := by rw [hW1]; exact heap_alloc_new _ _
  have p1 := box_cell hbx 1
  have p2 := box_cell hbx 2
  have p3 := box_cell hbx 3
  have p4 := box_cell hbx 4
  have HW := Lib.hid (And.intro hb1 hbx)
  clear ht hb1 hbx
  by_cases h1 : g = []
  · have HE : Hid (putEntR g l t n = ([], 4)) := Lib.hid (by
      unfold putEntR
      rw [if_pos (by unfold badE; left; exact h1)])
    rw [HE.out]
    have z1 : (g == []) = true := by rw [h1]; rfl
    subst h1
    clear HE
    go_enter Tryz.func8, Tryz.ntmps8
    go_wp2_with fail
    rw [← hW1]
    go_ret2
    exact ⟨rfl, HW.out.1⟩
  · have z1 : (g == []) = false := by rw [beq_eq_false_iff_ne]; exact h1
    by_cases h2 : 500 < g.length ∨ 500 < l.length ∨ 500 < t.length
    · have HE : Hid (putEntR g l t n = ([], 4)) := Lib.hid (by
        unfold putEntR
        rw [if_pos (by unfold badE; right; omega)])
      rw [HE.out]
      obtain ⟨MX, hMX⟩ : ∃ MX : Int, MX = max (max (g.length : Int) (l.length : Int)) (t.length : Int) := ⟨_, rfl⟩
      have z2 : (500 : Int) < MX := by omega
      clear HE h1
      go_enter Tryz.func8, Tryz.ntmps8
      go_upto_region 1 with fail
      rw [← hW1]
      clear hW1
      go_cut [25] from 4 to 25 (fun v25 wc => v25 = .bool true ∧ W1 = wc)
      case first =>
        go_wp2_with fail
        all_goals
          go_meet
          case rel => exact ⟨by first | rfl | (exfalso; omega) | (simp <;> omega), rfl⟩
      case rest =>
      obtain ⟨rfl, rfl⟩ := hcut
      clear hMX
      go_wp2_with fail
      go_ret2
      exact ⟨rfl, HW.out.1⟩
    · by_cases h3 : n < 0 ∨ 1099511627776 < n
      · have HE : Hid (putEntR g l t n = ([], 4)) := Lib.hid (by
          unfold putEntR
          rw [if_pos (by unfold badE; right; omega)])
        rw [HE.out]
        obtain ⟨MX, hMX⟩ : ∃ MX : Int, MX = max (max (g.length : Int) (l.length : Int)) (t.length : Int) := ⟨_, rfl⟩
        have z2 : ¬ (500 : Int) < MX := by omega
        obtain ⟨y1, y2, y3⟩ : ¬ (500 : Int) < (g.length : Int) ∧ ¬ (500 : Int) < (l.length : Int) ∧ ¬ (500 : Int) < (t.length : Int) := by omega
        have CM := Lib.hid (fun W => timeMay_any n W)
        rw [decide_eq_false (show ¬ (0 ≤ n ∧ n ≤ 1099511627776) from by omega)] at CM
        clear HE h1 h3
        go_enter Tryz.func8, Tryz.ntmps8
        go_upto_region 1 with fail
        rw [← hW1]
        clear hW1
        go_cut [25] from 4 to 25 (fun v25 wc => v25 = .bool true ∧ W1 = wc)
        case first =>
          go_wp2_with fail
          all_goals
            refine (CM.out _).mono ?_
            rintro e w2 ⟨rfl, rfl⟩
            go_wp2_with fail
            go_meet
            case rel => exact ⟨by first | rfl | (exfalso; omega) | (simp <;> omega), rfl⟩
        case rest =>
        obtain ⟨rfl, rfl⟩ := hcut
        clear hMX
        go_wp2_with fail
        go_ret2
        exact ⟨rfl, HW.out.1⟩
      · have hgd : ¬ badE g l t n := by unfold badE; intro h; rcases h with h | h; exact h1 h; omega
        have HE : Hid (putEntR g l t n = objR (entMs g l t n)) := Lib.hid (by
          unfold putEntR
          rw [if_neg hgd])
        rw [HE.out]
        have CM := Lib.hid (fun W => timeMay_any n W)
        rw [decide_eq_true (show 0 ≤ n ∧ n ≤ 1099511627776 from by omega)] at CM
        have CT : Hid (∀ nm x W, Hid (Below W1.heap.size W1 W) → Calls Tryz.prog 28 #[str nm, str x] W fun e w' => e = .returned (.agg #[str nm, .int .i64 5, .int .i64 0, str x, .slice none 0 0, .slice none 0 0]) ∧ Hid (Below W1.heap.size W1 w')) := Lib.hid (fun nm x W hb => (bText_any _ _ W).mono (by
          rintro e w' ⟨rfl, h'⟩
          exact ⟨rfl, Lib.hid (hb.out.trans (h'.mono hb.out.size))⟩))
        have CN : Hid (∀ W, Hid (Below W1.heap.size W1 W) → Calls Tryz.prog 27 #[str [119, 104, 101, 110], .int .i64 n] W fun e w' => e = .returned (.agg #[str [119, 104, 101, 110], .int .i64 4, .int .i64 n, str [], .slice none 0 0, .slice none 0 0]) ∧ Hid (Below W1.heap.size W1 w')) := Lib.hid (fun W hb => (bNumber_any _ _ W).mono (by
          rintro e w' ⟨rfl, h'⟩
          exact ⟨rfl, Lib.hid (hb.out.trans (h'.mono hb.out.size))⟩))
        have CO : Hid (∀ W, Hid (Below W1.heap.size W1 W) → Calls Tryz.prog 26 #[.slice (some ⟨W.heap.size, 0, none⟩) 4 4] (W.alloc (.cells #[str [103, 117, 105, 100], .int .i64 5, .int .i64 0, str g, .slice none 0 0, .slice none 0 0, str [108, 105, 110, 107], .int .i64 5, .int .i64 0, str l, .slice none 0 0, .slice none 0 0, str [116, 105, 116, 108, 101], .int .i64 5, .int .i64 0, str t, .slice none 0 0, .slice none 0 0, str [119, 104, 101, 110], .int .i64 4, .int .i64 n, str [], .slice none 0 0, .slice none 0 0] 74)) fun e w' => e = .returned (.tuple #[str (objR (entMs g l t n)).1, .int .i64 (objR (entMs g l t n)).2]) ∧ Hid (Below W1.heap.size W1 w')) := Lib.hid (fun W hb => by
          have hb2 := below_alloc W (.cells #[str [103, 117, 105, 100], .int .i64 5, .int .i64 0, str g, .slice none 0 0, .slice none 0 0, str [108, 105, 110, 107], .int .i64 5, .int .i64 0, str l, .slice none 0 0, .slice none 0 0, str [116, 105, 116, 108, 101], .int .i64 5, .int .i64 0, str t, .slice none 0 0, .slice none 0 0, str [119, 104, 101, 110], .int .i64 4, .int .i64 n, str [], .slice none 0 0, .slice none 0 0] 74)
          refine (robject_any (F := fun _ => True) (ms := entMs g l t n) (rows := [[str [103, 117, 105, 100], .int .i64 5, .int .i64 0, str g, .slice none 0 0, .slice none 0 0], [str [108, 105, 110, 107], .int .i64 5, .int .i64 0, str l, .slice none 0 0, .slice none 0 0], [str [116, 105, 116, 108, 101], .int .i64 5, .int .i64 0, str t, .slice none 0 0, .slice none 0 0], [str [119, 104, 101, 110], .int .i64 4, .int .i64 n, str [], .slice none 0 0, .slice none 0 0]]) (RdFB.lit6 _ (by simp) (heap_alloc_new W _) rfl (by simp) trivial) (by
            unfold entMs RdM
            refine ⟨⟨_, rfl, plainJ _ _ _ _ _⟩, ?_⟩
            unfold RdM
            refine ⟨⟨_, rfl, plainJ _ _ _ _ _⟩, ?_⟩
            unfold RdM
            refine ⟨⟨_, rfl, plainJ _ _ _ _ _⟩, ?_⟩
            unfold RdM
            refine ⟨⟨_, rfl, plainJ _ _ _ _ _⟩, ?_⟩
            unfold RdM
            trivial) (fun _ => Nat.le_trans (ent_pr hgd) (by omega)) (fun w' h' => HT.out w' (((HW.out.1.trans (hb.out.mono HW.out.1.size)).trans (hb2.mono (Nat.le_trans HW.out.1.size hb.out.size))).trans (h'.mono (Nat.le_trans (Nat.le_trans HW.out.1.size hb.out.size) hb2.size))))).mono ?_
          rintro e w' ⟨rfl, h'⟩
          exact ⟨rfl, Lib.hid ((hb.out.trans (hb2.mono hb.out.size)).trans (h'.mono (Nat.le_trans hb.out.size hb2.size)))⟩)
        obtain ⟨R1, hR1⟩ : ∃ R1, R1 = (objR (entMs g l t n)).1 := ⟨_, rfl⟩
        obtain ⟨R2, hR2⟩ : ∃ R2, R2 = (objR (entMs g l t n)).2 := ⟨_, rfl⟩
        rw [← hR1, ← hR2] at CO
        rw [← hR1, ← hR2]
        have HB : Hid (Below W1.heap.size W1 W1.drew) := Lib.hid (Below.drewsN (Below.refl _ _) 1)
        have HKS : Hid (∀ W', Below W1.heap.size W1 W' → W'.cell? ⟨w.heap.size, 1, none⟩ = some (str g) ∧ W'.cell? ⟨w.heap.size, 2, none⟩ = some (str t) ∧ W'.cell? ⟨w.heap.size, 3, none⟩ = some (str l) ∧ W'.cell? ⟨w.heap.size, 4, none⟩ = some (.int .i64 n)) := Lib.hid (fun W' hb => ⟨(hb.cell (p := ⟨w.heap.size, 1, none⟩) (World.block_lt_of_cell? W1 _ p1)).trans p1, (hb.cell (p := ⟨w.heap.size, 2, none⟩) (World.block_lt_of_cell? W1 _ p2)).trans p2, (hb.cell (p := ⟨w.heap.size, 3, none⟩) (World.block_lt_of_cell? W1 _ p3)).trans p3, (hb.cell (p := ⟨w.heap.size, 4, none⟩) (World.block_lt_of_cell? W1 _ p4)).trans p4⟩)
        clear HE hR1 hR2 hgd
        obtain ⟨MX, hMX⟩ : ∃ MX : Int, MX = max (max (g.length : Int) (l.length : Int)) (t.length : Int) := ⟨_, rfl⟩
        have z2 : ¬ (500 : Int) < MX := by omega
        obtain ⟨y1, y2, y3⟩ : ¬ (500 : Int) < (g.length : Int) ∧ ¬ (500 : Int) < (l.length : Int) ∧ ¬ (500 : Int) < (t.length : Int) := by omega
        clear h3 h1
        go_enter Tryz.func8, Tryz.ntmps8
        go_upto_region 1 with fail
        rw [← hW1]
        clear hW1
        go_cut [25] from 4 to 25 (fun v25 wc => v25 = .bool false ∧ W1 = wc)
        case first =>
          go_wp2_with fail
          all_goals
            refine (CM.out _).mono ?_
            rintro e w2 ⟨rfl, rfl⟩
            go_wp2_with fail
            go_meet
            case rel => exact ⟨by first | rfl | (exfalso; omega) | (simp <;> omega), rfl⟩
        case rest =>
        obtain ⟨rfl, rfl⟩ := hcut
        clear hMX
        go_wp2_with fail
        go_region_held3 (fun W' => W'.cell? ⟨w.heap.size, 1, none⟩ = some (str g) ∧ W'.cell? ⟨w.heap.size, 2, none⟩ = some (str t) ∧ W'.cell? ⟨w.heap.size, 3, none⟩ = some (str l) ∧ W'.cell? ⟨w.heap.size, 4, none⟩ = some (.int .i64 n))
          (first | (exact HKS.out _ HB.out) | (exact HKS.out _ (HB.out.trans ((below_alloc _ _).mono HB.out.size))) | go_keep)
          ((first
            | (go_at_call 28; refine (CT.out _ _ _ HB).mono ?_; rintro e w5 ⟨rfl, HB⟩)
            | (go_at_call 27; refine (CN.out _ HB).mono ?_; rintro e w5 ⟨rfl, HB⟩)
            | (go_at_call 26; refine (CO.out _ HB).mono ?_; rintro e w7 ⟨rfl, HB⟩)
            | fail))
        all_goals
          clear p1 p2 p3 p4 HKS
          have HX := Lib.hid (HW.out.1.trans (HB.out.mono HW.out.1.size))
          go_wp2_with fail
          go_ret2
          exact ⟨rfl, HX.out⟩
/-- Two entries alike. -/
theorem entry_same (m : Int) (g t l : List UInt8) (n : Int) (w : World) : Calls Tryz.prog 17 #[.agg #[.int .i64 m, str g, str t, str l, .int .i64 n], .agg #[.int .i64 m, str g, str t, str l, .int .i64 n]] w fun e w' => e = .returned (.bool true) ∧ Below w.heap.size w w' := by
  obtain ⟨W1, hW1⟩ : ∃ W1, W1 = (w.alloc (.cells #[.int .i64 m, str g, str t, str l, .int .i64 n] 25)).alloc (.cells #[.int .i64 m, str g, str t, str l, .int .i64 n] 25) := ⟨_, rfl⟩
  have hb1 : Below w.heap.size w W1 := by rw [hW1]; exact (below_alloc w _).alloc (by simp) _
  have h0 : W1.heap[w.heap.size]? = some (.cells #[.int .i64 m, str g, str t, str l, .int .i64 n] 25 (0, 0)) := by rw [hW1]; exact box_up (heap_alloc_new _ _) (below_alloc _ _)
  have h1 : W1.heap[w.heap.size + 1]? = some (.cells #[.int .i64 m, str g, str t, str l, .int .i64 n] 25 (0, 0)) := by
    rw [hW1]
    have := heap_alloc_new (w.alloc (.cells #[.int .i64 m, str g, str t, str l, .int .i64 n] 25)) (.cells #[.int .i64 m, str g, str t, str l, .int .i64 n] 25)
    simpa using this
  have p0 := box_cell h0 0
  have p1 := box_cell h0 1
  have p2 := box_cell h0 2
  have p3 := box_cell h0 3
  have p4 := box_cell h0 4
  have q0 := box_cell h1 0
  have q1 := box_cell h1 1
  have q2 := box_cell h1 2
  have q3 := box_cell h1 3
  have q4 := box_cell h1 4
  have HB := Lib.hid hb1
  clear hb1 h0 h1
  go_enter Tryz.func17, Tryz.ntmps17
  go_upto_region 1 with fail
  rw [← hW1]
  clear hW1
  go_wp2_with fail
  go_ret
  exact ⟨rfl, HB.out⟩
end Go.Proofs.YtegblhmcfemfgaaGreatDoor
namespace Go.Proofs.YtegblhmcfemfgaaGreatDoor
open Go.RowKit

theorem infoJk : (Tryz.prog.info? 72).map (fun i => (i.zero, i.size, i.bytes)) = some (some (.agg #[.int .i64 0, .int .i64 0, str [], .slice none 0 0, .slice none 0 0]), 5, 80) := by kernel_rfl
/-- Marks as a value. -/
def markJ (m : MarkT) : JV := .mk 6 0 [] [.mk 4 m.1 [] [] [], .mk 4 m.2 [] [] []] []
def marksN : List UInt8 := [109, 97, 114, 107, 115]
def mksJ (l : List MarkT) : JV := .mk 7 0 [] [] [(marksN, .mk 6 0 [] (l.map markJ) [])]
theorem txMarks : txF marksN = true := by kernel_rfl
theorem txNil : txF [] = true := by kernel_rfl
theorem markJ_may {m : MarkT} (h : mayB m = true) (d : Nat) (hd : 2 ≤ d) : mayV (markJ m) d = true := by
  obtain ⟨e, rfl⟩ : ∃ e, d = e + 2 := ⟨d - 2, by omega⟩
  unfold mayB at h
  have h := of_decide_eq_true h
  obtain ⟨a, b⟩ := m
  dsimp only at h
  simp [markJ, mayV, fitV, mayL, mayM, txNil]
  omega
theorem marks_mayL : ∀ {l : List MarkT}, (∀ m ∈ l, mayB m = true) → ∀ d, 2 ≤ d → mayL (l.map markJ) d = true
  | [], _, d, _ => rfl
  | m :: t, h, d, hd => by
    rw [List.map_cons, mayL, markJ_may (h m (by simp)) d hd, marks_mayL (fun x hx => h x (by simp [hx])) d hd]
    rfl
theorem mksJ_may {l : List MarkT} (h : ∀ m ∈ l, mayB m = true) : mayV (mksJ l) 64 = true := by
  have := marks_mayL h 62 (by omega)
  simp [mksJ, mayV, fitV, mayL, mayM, txNil, txMarks, aftB, this]
theorem RdFB.lit {F : Nat → Prop} {sz : Nat} {w : World} {b n : Nat} {T : TypeId} (L : List (List Value)) (hr : ∀ r ∈ L, r.length = sz) (h : w.heap[b]? = some (.cells L.flatten.toArray T (0, 0))) (hn : n = L.length) (hl : L.length ≤ 9223372036854775807) (hF : F b) : RdFB F sz w (.slice (some ⟨b, 0, none⟩) n n) L := by
  obtain ⟨a, cap, hv, h1, h2, h3, h4⟩ := RdF.lit (w := w) (b := b) (n := n) (T := T) L hr h hn hl
  refine ⟨a, cap, hv, h1, h2, h3, fun hne => ?_⟩
  obtain ⟨b', off, ha, hc⟩ := h4 hne
  simp only [Value.slice.injEq] at hv
  rw [ha] at hv
  simp only [Option.some.injEq, Addr.mk.injEq, and_true] at hv
  obtain ⟨⟨rfl, rfl⟩, _⟩ := hv
  exact ⟨b, 0, ha, hF, hc⟩
theorem plainK (W : World) (F : Nat → Prop) (k n : Int) (s : List UInt8) : RdJ W F (.mk k n s [] []) [.int .i64 k, .int .i64 n, str s, .slice none 0 0, .slice none 0 0] :=
  RdJ.mk0 (v := .mk k n s [] []) (RdFB.nil _ _ _) (by unfold RdL; trivial) (RdFB.nil _ _ _) (by unfold RdM; trivial)
/-- A mark's value, as it is laid. -/
theorem markJ_lies {W : World} {F : Nat → Prop} {b : Nat} {T : TypeId} (m : MarkT) (h : W.heap[b]? = some (.cells #[.int .i64 4, .int .i64 m.1, str [], .slice none 0 0, .slice none 0 0, .int .i64 4, .int .i64 m.2, str [], .slice none 0 0, .slice none 0 0] T (0, 0))) (hF : F b) :
    RdJ W F (markJ m) [.int .i64 6, .int .i64 0, str [], .slice (some ⟨b, 0, none⟩) 2 2, .slice none 0 0] := by
  refine RdJ.mk0 (v := markJ m) (rl := [[.int .i64 4, .int .i64 m.1, str [], .slice none 0 0, .slice none 0 0], [.int .i64 4, .int .i64 m.2, str [], .slice none 0 0, .slice none 0 0]]) (RdFB.lit _ (by simp) h rfl (by simp) hF) ?_ (RdFB.nil _ _ _) (by unfold markJ; unfold RdM; trivial)
  show RdL W F [.mk 4 m.1 [] [] [], .mk 4 m.2 [] [] []] _
  unfold RdL
  refine ⟨plainK _ _ _ _ _, ?_⟩
  unfold RdL
  refine ⟨plainK _ _ _ _ _, ?_⟩
  unfold RdL
  trivial
/-- Values under way in a row of the call's own. -/
def RowJ (base : Nat) (acc : List JV) (vl : Value) (W : World) : Prop :=
  ∃ rows, W.ownsRow base 72 5 vl acc.length rows.flatten ∧ RdL W (fun i => base ≤ i ∧ i < W.heap.size ∧ vl.ownBlock ≠ some i) acc rows
theorem RowJ.up {base : Nat} {acc : List JV} {vl : Value} {W W' : World} (h : RowJ base acc vl W) (hb : Below W.heap.size W W') : RowJ base acc vl W' := by
  obtain ⟨rows, h1, h2⟩ := h
  exact ⟨rows, owns_below h1 hb (Nat.le_refl _), (h2.up hb).mono (fun i hi hF => ⟨hF.1, hi, hF.2.2⟩)⟩
theorem RowJ.add {base B0 : Nat} {acc : List JV} {vl : Value} {rows : List (List Value)} {W w4 : World} {g cap : Nat} {v : JV} {cs : List Value} {ob : Obj} (_ : W.ownsRow base 72 5 vl acc.length rows.flatten) (h4 : RdL W (fun i => base ≤ i ∧ i < W.heap.size ∧ vl.ownBlock ≠ some i) acc rows) (hB : base ≤ B0)
    (hvb : ∀ k, vl.ownBlock = some k → k < B0) (hv : RdJ W (fun i => B0 ≤ i) v cs)
    (ho : w4.ownsRow base 72 5 (.slice (some ⟨g, 0, none⟩) (acc.length + 1) cap) (acc.length + 1) (rows.flatten ++ cs)) (hg : (W.alloc ob).grownBy w4 vl.ownBlock) (hl : vl.ownBlock = some g ∨ g = W.heap.size + 1) :
    RowJ base (acc ++ [v]) (.slice (some ⟨g, 0, none⟩) (acc.length + 1) cap) w4 ∧ Frm (fun i => vl.ownBlock = some i) W w4 := by
  have f1 : Frm (fun i => vl.ownBlock = some i) W w4 := (Frm.of_below (below_alloc W ob)).trans (Frm.of_grown hg (fun k hk => hk)) (fun _ _ h => h)
  refine ⟨⟨rows ++ [cs], ?_, RdL.snoc ?_ ?_⟩, f1⟩
  · rw [List.flatten_append, List.length_append]
    simp only [List.flatten_cons, List.flatten_nil, List.append_nil, List.length_singleton]
    exact ho
  · refine RdJ.mono (F := fun i => B0 ≤ i ∧ i < W.heap.size) ?_ (fun i hi hF => ⟨by omega, hi, fun e => ?_⟩)
    · exact (hv.mono (G := fun i => B0 ≤ i ∧ i < W.heap.size) (fun i hi hF => ⟨hF, hi⟩)).frm f1 (fun i hi e => by have := hvb i e; omega)
    · simp only [Value.ownBlock, Option.some.injEq] at e
      subst e
      rcases hl with h | h
      · have := hvb _ h; omega
      · omega
  · have := h4.frm f1 (fun i hi e => hi.2.2 e)
    refine this.mono (fun i hi hF => ⟨hF.1, hi, fun e => ?_⟩)
    simp only [Value.ownBlock, Option.some.injEq] at e
    subst e
    rcases hl with h | h
    · exact hF.2.2 h
    · omega
/-- A row under way, as a slice of values. -/
theorem RowJ.rd {base : Nat} {acc : List JV} {vl : Value} {W : World} (h : RowJ base acc vl W) : ∃ a c rows, vl = .slice a acc.length c ∧ RdFB (fun _ => True) 5 W (.slice a acc.length c) rows ∧ RdL W (fun _ => True) acc rows := by
  obtain ⟨rows, h3, h4⟩ := h
  obtain ⟨r1, r2⟩ := RdL.rows h4
  have hf : ∃ a c, vl = .slice a acc.length c := by
    rcases h3.2 with ⟨rfl, h0⟩ | ⟨g, cap, _, rfl, _⟩
    · exact ⟨none, 0, by rw [h0]⟩
    · exact ⟨_, cap, rfl⟩
  obtain ⟨a, c, rfl⟩ := hf
  refine ⟨a, c, rows, rfl, ?_, h4.mono (fun _ _ _ => trivial)⟩
  rw [← r1] at h3 ⊢
  exact RdFB.of_row r2 h3 (fun _ _ => trivial)
theorem itoa_short {n : Int} (h : -9223372036854775808 ≤ n ∧ n ≤ 9223372036854775807) : (Lib.itoa n).length ≤ 21 := by
  unfold Lib.itoa
  have hd : ∀ k u : Nat, u < 10 ^ k → 1 ≤ k → Lib.nDigits u ≤ k := by
    intro k
    induction k with
    | zero => intro u _ h; omega
    | succ k ih =>
      intro u hu _
      by_cases hs : u < 10
      · rw [Lib.nDigits_small hs]; omega
      · rw [Lib.nDigits_big hs]
        have hk : 1 ≤ k := by
          rcases k with _ | k
          · simp at hu; omega
          · omega
        have := ih (u / 10) (by rw [Nat.pow_succ] at hu; omega) hk
        omega
  split
  · rw [List.length_cons, Lib.decDigits_length]
    have := hd 20 n.natAbs (by omega) (by omega)
    omega
  · rw [Lib.decDigits_length]
    have := hd 20 n.toNat (by omega) (by omega)
    omega
theorem marks_len : ∀ {l : List MarkT}, (∀ m ∈ l, mayB m = true) → (prT (l.map markJ)).length ≤ 50 * l.length
  | [], _ => by simp [prT]
  | m :: t, h => by
    have ih := marks_len (l := t) (fun x hx => h x (by simp [hx]))
    have hm := h m (by simp)
    unfold mayB at hm
    have hm := of_decide_eq_true hm
    have h1 := itoa_short (n := m.1) (by omega)
    have h2 := itoa_short (n := m.2) (by omega)
    rw [List.map_cons, prT]
    have e : prV (markJ m) = 91 :: ((prT [.mk 4 m.1 [] [] [], .mk 4 m.2 [] [] []]).drop 1 ++ [93]) := rfl
    have e1 : prV (.mk 4 m.1 [] [] []) = Lib.itoa m.1 := rfl
    have e2 : prV (.mk 4 m.2 [] [] []) = Lib.itoa m.2 := rfl
    rw [e]
    simp [prT, e1, e2]
    omega
theorem mksJ_len {l : List MarkT} (h : MayL l) : (prV (mksJ l)).length ≤ 1000 := by
  have h1 := marks_len (stair_may h.1)
  have h2 := h.2
  have e : prV (mksJ l) = 123 :: ((prU [(marksN, .mk 6 0 [] (l.map markJ) [])]).drop 1 ++ [125]) := rfl
  have e1 : prV (.mk 6 0 [] (l.map markJ) []) = 91 :: ((prT (l.map markJ)).drop 1 ++ [93]) := rfl
  have e2 : (quo marksN).length = 7 := by decide
  rw [e]
  simp [prU, e1, e2]
  omega
/-- PutMarks under way. -/
def PmI (w : World) (l : List MarkT) (k : Nat) (vl : Value) (W : World) : Prop := Below w.heap.size w W ∧ RowJ w.heap.size ((l.take k).map markJ) vl W
set_option maxRecDepth 100000 in
set_option maxHeartbeats 4000000 in
theorem putMarks_yes (v : Value) (l : List MarkT) (w : World) (hv : RdMk w v l) (hm : MayL l) (ht : TabJ w.heap.size w) :
    Calls Tryz.prog 11 #[v] w fun e w' => e = .returned (.tuple #[str (prV (mksJ l)), .int .i64 0]) ∧ Below w.heap.size w w' := by
  obtain ⟨i0, hi, hz0, hz1, hz2⟩ := info_parts infoJk
  have HT := Lib.hid ht
  have HV := Lib.hid hv
  have HM := Lib.hid hm
  have C1 := pmay_any v l w hv
  rw [mayL_yes hm] at C1
  have C1 := Lib.hid C1
  obtain ⟨av, cv, rfl, hlen⟩ := hv.form
  have h8 := hm.2
  clear ht hv hm
  go_enter Tryz.func11, Tryz.ntmps11
  go_wp2_with fail
  refine C1.out.mono ?_
  rintro e w1 ⟨rfl, hb1⟩
  have HB1 := Lib.hid hb1
  clear hb1 C1
  go_wp2_with fail
  go_loopw [4, 12] (fun v4 v12 wr => ∃ k : Nat, k ≤ l.length ∧ v12 = .int .i64 (k : Int) ∧ Hid (PmI w l k v4 wr)) (fun _ v12 _ => l.length - (intOf v12).toNat)
  case atStart => exact ⟨0, Nat.zero_le _, rfl, Lib.hid ⟨HB1.out, [], World.ownsRow_nil _ _ _ _, by simp [RdL]⟩⟩
  case round =>
    obtain ⟨v4, hv4⟩ : ∃ v4, v4 = u4 := ⟨_, rfl⟩
    subst hv4
    obtain ⟨k, hk, rfl, HI⟩ := hrel
    by_cases hlt : k < l.length
    · have n1 : (k : Int) < (l.length : Int) := by omega
      have n3 : (0 : Int) ≤ (k : Int) := by omega
      obtain ⟨b, off, rfl, c0, c1⟩ := (HV.out.up HI.out.1).get hlt
      obtain ⟨m, hmm⟩ : ∃ m, m = l[k] := ⟨_, rfl⟩
      rw [← hmm] at c0 c1
      have HTK : Hid ((l.take (k + 1)).map markJ = (l.take k).map markJ ++ [markJ m]) := Lib.hid (by rw [List.take_add_one, List.getElem?_eq_getElem hlt, Option.toList_some, List.map_append, hmm]; rfl)
      obtain ⟨acc, hacc⟩ : ∃ acc, acc = (l.take k).map markJ := ⟨_, rfl⟩
      have hal : acc.length = k := by rw [hacc]; simp; omega
      have HIB := Lib.hid HI.out.1
      have HIR := HI.out.2
      rw [← hacc] at HTK HIR
      obtain ⟨rows, ho0, hr0⟩ := HIR
      clear hacc hmm HI
      obtain ⟨W1, hW1⟩ : ∃ W1, W1 = (wr.alloc (.cells #[.int .i64 m.1, .int .i64 m.2] 67)).alloc (.cells #[.int .i64 4, .int .i64 m.1, .string ⟨#[]⟩, .slice none 0 0, .slice none 0 0, .int .i64 4, .int .i64 m.2, .string ⟨#[]⟩, .slice none 0 0, .slice none 0 0] 72) := ⟨_, rfl⟩
      have hb1 : Below wr.heap.size wr W1 := by rw [hW1]; exact below_two _ _ _
      have hbx : W1.heap[wr.heap.size + 1]? = some (.cells #[.int .i64 4, .int .i64 m.1, str [], .slice none 0 0, .slice none 0 0, .int .i64 4, .int .i64 m.2, str [], .slice none 0 0, .slice none 0 0] 72 (0, 0)) := by
        rw [hW1]
        have := heap_alloc_new (wr.alloc (.cells #[.int .i64 m.1, .int .i64 m.2] 67)) (.cells #[.int .i64 4, .int .i64 m.1, .string ⟨#[]⟩, .slice none 0 0, .slice none 0 0, .int .i64 4, .int .i64 m.2, .string ⟨#[]⟩, .slice none 0 0, .slice none 0 0] 72)
        simpa using this
      have hs1 : W1.heap.size = wr.heap.size + 2 := by rw [hW1]; simp
      have HR : Hid (W1.ownsRow w.heap.size 72 5 v4 acc.length rows.flatten ∧ RdL W1 (fun i => w.heap.size ≤ i ∧ i < W1.heap.size ∧ v4.ownBlock ≠ some i) acc rows ∧ ∀ j, v4.ownBlock = some j → j < wr.heap.size) := Lib.hid ⟨owns_below ho0 hb1 (Nat.le_refl _), (hr0.up hb1).mono (fun i hi hF => ⟨hF.1, hi, hF.2.2⟩), fun j hj => (ho0.lt j hj).2⟩
      have HX := Lib.hid (And.intro hbx (And.intro hs1 hb1))
      have hnew : (W1.alloc (.cells #[.int .i64 6, .int .i64 0, .string ⟨#[]⟩, .slice (some ⟨wr.heap.size + 1, 0, none⟩) 2 2, .slice none 0 0] 72)).heap[wr.heap.size + 1 + 1]? = some (.cells #[.int .i64 6, .int .i64 0, str [], .slice (some ⟨wr.heap.size + 1, 0, none⟩) 2 2, .slice none 0 0] 72 (0, 0)) := by
        have := heap_alloc_new W1 (.cells #[.int .i64 6, .int .i64 0, .string ⟨#[]⟩, .slice (some ⟨wr.heap.size + 1, 0, none⟩) 2 2, .slice none 0 0] 72)
        rw [hs1] at this
        exact this
      have HNW := Lib.hid hnew
      have hk8 : k ≤ 8 := by omega
      have hal8 : acc.length ≤ 8 := by omega
      have HAL := Lib.hid hal
      clear ho0 hr0 hb1 hbx hs1 hal hnew
      go_wp2_with (at_builtin; refine hold ?_)
      rw [← hW1]
      clear hW1
      intro _
      rw [← HAL.out]
      refine wpList_append_lies _ (by rfl) _ _ 69 (by rfl) w.heap.size 72 i0 _ 5 80 Tryz.underlying69 hi hz0 hz1 hz2 rfl (by decide) v4 acc.length rows.flatten (by rfl) (owns_frm (F := fun _ => False) HR.out.1 (Frm.of_below (below_alloc W1 _)) (fun _ _ h => h)) ⟨wr.heap.size + 1 + 1, 0, none⟩ 1 1 [.int .i64 6, .int .i64 0, str [], .slice (some ⟨wr.heap.size + 1, 0, none⟩) 2 2, .slice none 0 0] (by rfl) (by rfl) (World.news_of_block HNW.out) (by simp [Value.oneCell']) (by decide) (by simp only [maxLen]; omega) (by omega) (by have := HIB.out.size; have := HX.out.2.2.size; simp; omega) _ rfl ?_
      intro g cap w4 ho hg hl4 _
      have hadd := RowJ.add HR.out.1 HR.out.2.1 (B0 := wr.heap.size + 1) (by have := HIB.out.size; omega) (fun j hj => Nat.lt_succ_of_lt (HR.out.2.2 j hj)) (markJ_lies (F := fun i => wr.heap.size + 1 ≤ i) m HX.out.1 (Nat.le_refl _)) ho hg (by simpa using hl4)
      have HN : Hid (PmI w l (k + 1) (.slice (some ⟨g, 0, none⟩) (acc.length + 1) cap) w4) := Lib.hid ⟨(HIB.out.trans (HX.out.2.2.mono HIB.out.size)).trans (hadd.2.below (Nat.le_trans HIB.out.size HX.out.2.2.size) (fun j hj => (HR.out.1.lt j hj).1)), by rw [HTK.out]; exact hadd.1⟩
      clear hadd ho hg hl4
      go_wp2_with fail
      go_roundw
      case rel => exact ⟨k + 1, by omega, by first | go_num | (rw [HAL.out]; go_num), HN⟩
      case measure => (have := HAL.out; simp [intOf]; omega)
    · obtain rfl : k = l.length := by omega
      have n2 : ¬ (l.length : Int) < (l.length : Int) := by omega
      have HR4 := HI.out.2
      rw [List.take_length] at HR4
      obtain ⟨a4, c4, rows4, e4, hrf, hrl⟩ := HR4.rd
      rw [List.length_map] at e4 hrf
      subst e4
      have HRW := Lib.hid (And.intro hrf hrl)
      have HWB := Lib.hid HI.out.1
      have CL : Hid (Calls Tryz.prog 32 #[str [109, 97, 114, 107, 115], .slice a4 l.length c4] wr fun e w' => e = .returned (.agg #[str [109, 97, 114, 107, 115], .int .i64 6, .int .i64 0, str [], .slice a4 l.length c4, .slice none 0 0]) ∧ Below wr.heap.size wr w') := Lib.hid (bList_any _ _ _ _ _)
      clear HR4 hrf hrl HI
      go_wp2_with fail
      refine CL.out.mono ?_
      rintro e w2 ⟨rfl, hb2⟩
      obtain ⟨W3, hW3⟩ : ∃ W3, W3 = w2.alloc (.cells #[str [109, 97, 114, 107, 115], .int .i64 6, .int .i64 0, str [], .slice a4 l.length c4, .slice none 0 0] 74) := ⟨_, rfl⟩
      have hb3 : Below wr.heap.size wr W3 := by rw [hW3]; exact hb2.trans ((below_alloc _ _).mono hb2.size)
      have hbx : W3.heap[w2.heap.size]? = some (.cells #[str [109, 97, 114, 107, 115], .int .i64 6, .int .i64 0, str [], .slice a4 l.length c4, .slice none 0 0] 74 (0, 0)) := by rw [hW3]; exact heap_alloc_new _ _
      have hB3 := HWB.out.trans (hb3.mono HWB.out.size)
      have CO := object_yes (F := fun _ => True) (w := W3) (am := some ⟨w2.heap.size, 0, none⟩) (lm := 1) (cm := 1) (ms := [(marksN, .mk 6 0 [] (l.map markJ) [])]) (rows := [[str [109, 97, 114, 107, 115], .int .i64 6, .int .i64 0, str [], .slice a4 l.length c4, .slice none 0 0]])
        (RdFB.lit _ (by simp) hbx rfl (by simp) trivial) (by
          unfold RdM
          refine ⟨⟨_, rfl, RdJ.mk0 (v := .mk 6 0 [] (l.map markJ) []) (HRW.out.1.frm (Frm.of_below (F := fun _ => False) hb3) (fun _ _ e => e)) (HRW.out.2.up hb3) (RdFB.nil _ _ _) (by unfold RdM; trivial)⟩, ?_⟩
          unfold RdM
          trivial) (mksJ_may (stair_may HM.out.1)) (by have := mksJ_len HM.out; unfold mksJ at this; omega) (fun w' h' => HT.out w' (hB3.trans (h'.mono hB3.size)))
      have CO := Lib.hid CO
      have HB3 := Lib.hid hB3
      clear hb2 hb3 hbx hB3 CL
      go_wp2_with fail
      rw [← hW3]
      clear hW3
      refine CO.out.mono ?_
      rintro e w5 ⟨rfl, hb5⟩
      have HX := Lib.hid (HB3.out.trans (hb5.mono HB3.out.size))
      clear hb5 CO
      go_wp2_with fail
      go_ret2
      exact ⟨rfl, HX.out⟩
end Go.Proofs.YtegblhmcfemfgaaGreatDoor
namespace Go.Proofs.YtegblhmcfemfgaaGreatDoor
open Go.RowKit

def mksMs (l : List MarkT) : List MemT := [(marksN, .mk 6 0 [] (l.map markJ) [])]
def putMksR (l : List MarkT) : List UInt8 × Int := if MayL l then objR (mksMs l) else ([], 4)
theorem mks_obj {l : List MarkT} (h : MayL l) : objR (mksMs l) = (prV (mksJ l), 0) := by
  have := mksJ_may (stair_may h.1)
  unfold objR mksMs
  unfold mksJ at this ⊢
  rw [if_pos this]
set_option maxRecDepth 100000 in
set_option maxHeartbeats 4000000 in
theorem putMks_any (v : Value) (l : List MarkT) (w : World) (hv : RdMk w v l) (ht : TabJ w.heap.size w) :
    Calls Tryz.prog 11 #[v] w fun e w' => e = .returned (.tuple #[str (putMksR l).1, .int .i64 (putMksR l).2]) ∧ Below w.heap.size w w' := by
  by_cases hm : MayL l
  · have := putMarks_yes v l w hv hm ht
    unfold putMksR
    rw [if_pos hm, mks_obj hm]
    exact this
  · unfold putMksR
    rw [if_neg hm]
    have C1 := pmay_any v l w hv
    rw [mayL_no hm] at C1
    have C1 := Lib.hid C1
    obtain ⟨av, cv, rfl, _⟩ := hv.form
    clear hv hm ht
    go_enter Tryz.func11, Tryz.ntmps11
    go_wp2_with fail
    refine C1.out.mono ?_
    rintro e w1 ⟨rfl, hb1⟩
    have HX := Lib.hid hb1
    clear hb1 C1
    go_wp2_with fail
    go_ret2
    exact ⟨rfl, HX.out⟩
set_option maxRecDepth 100000 in
set_option maxHeartbeats 4000000 in
theorem ifMks_any (s : List UInt8) (v : Value) (l : List MarkT) (w : World) (hv : RdMk w v l) (ht : TabJ w.heap.size w) :
    Calls Tryz.prog 41 #[str s, v, .func (.func 11) #[] #[]] w fun e w' => ∃ u, e = .returned (.tuple #[u, .bool (okR (putMksR l) s)]) ∧ RdMk w' u (if okR (putMksR l) s = true then l else []) ∧ Below w.heap.size w w' := by
  have CP := putMks_any v l w hv ht
  unfold okR
  obtain ⟨R1, hR1⟩ : ∃ R1, R1 = (putMksR l).1 := ⟨_, rfl⟩
  obtain ⟨R2, hR2⟩ : ∃ R2, R2 = (putMksR l).2 := ⟨_, rfl⟩
  rw [← hR1, ← hR2] at CP
  rw [← hR1, ← hR2]
  have CP := Lib.hid CP
  have HV := Lib.hid hv
  obtain ⟨av, cv, rfl, _⟩ := hv.form
  clear hR1 hR2 ht hv
  cases q1 : (R2 == 0) with
  | false =>
    go_enter Tryz.func41, Tryz.ntmps41
    go_wp2_with fail
    refine CP.out.mono ?_
    rintro e w2 ⟨rfl, hb2⟩
    have HX := Lib.hid hb2
    clear hb2 CP
    go_wp2_with fail
    go_ret2
    exact ⟨_, rfl, RdMk.nil _, HX.out⟩
  | true =>
    cases q2 : (R1 == s) with
    | false =>
      go_enter Tryz.func41, Tryz.ntmps41
      go_wp2_with fail
      refine CP.out.mono ?_
      rintro e w2 ⟨rfl, hb2⟩
      have HX := Lib.hid hb2
      clear hb2 CP
      go_wp2_with fail
      go_ret2
      exact ⟨_, rfl, RdMk.nil _, HX.out⟩
    | true =>
      go_enter Tryz.func41, Tryz.ntmps41
      go_wp2_with fail
      refine CP.out.mono ?_
      rintro e w2 ⟨rfl, hb2⟩
      have HX := Lib.hid (And.intro hb2 (HV.out.up hb2))
      clear hb2 CP
      go_wp2_with fail
      go_ret2
      exact ⟨_, rfl, HX.out.2, HX.out.1⟩
end Go.Proofs.YtegblhmcfemfgaaGreatDoor
namespace Go.Proofs.YtegblhmcfemfgaaGreatDoor
open Go.RowKit

/-- A member's value, or the zero one. -/
def memD (v : JV) (nm : List UInt8) : JV := match getJ v nm with
  | some x => x
  | none => .mk 0 0 [] [] []
theorem get_all (v : JV) (nm : List UInt8) (hsz : szV v ≤ 1000000000) (F : Nat → Prop) (w : World) (cs : List Value) (h : RdJ w F v cs) :
    Calls Tryz.prog 40 #[.agg cs.toArray, str nm] w fun e w' => ∃ cs' ok, e = .returned (.tuple #[.agg cs'.toArray, .bool ok]) ∧ RdJ w' (fun i => w.heap.size ≤ i) (memD v nm) cs' ∧ Below w.heap.size w w' := by
  refine (get_any v nm hsz F w cs h).mono ?_
  intro e w' hg
  unfold memD
  cases hj : getJ v nm with
  | none =>
    rw [hj] at hg
    obtain ⟨rfl, hb⟩ := hg
    exact ⟨[.int .i64 0, .int .i64 0, str [], .slice none 0 0, .slice none 0 0], _, rfl, plainJ _ _ 0 0 [], hb⟩
  | some x =>
    rw [hj] at hg
    obtain ⟨cs', rfl, h1, h2⟩ := hg
    exact ⟨cs', _, rfl, h1, h2⟩
theorem memD_len (v : JV) (nm : List UInt8) (h : szV v ≤ 1000000000) : (memD v nm).l.length ≤ 1000000000 := by
  unfold memD
  cases hj : getJ v nm with
  | none => simp [JV.l]
  | some x =>
    have h1 := getJ_sz hj
    have h2 := szV_mk x
    have h3 := szL_len x.l
    dsimp only
    omega
/-- The mark of a list of two numbers. -/
def mk2 (v : JV) : MarkT := match v.l with
  | [a, b] => (a.n, b.n)
  | _ => (0, 0)
/-- Have all two parts? -/
def twoB (l : List JV) : Bool := l.all (fun v => v.l.length == 2)
theorem twoB_succ {l : List JV} {k : Nat} (h : k < l.length) (h1 : twoB (l.take k) = true) (h2 : l[k].l.length = 2) : twoB (l.take (k + 1)) = true := by
  unfold twoB at h1 ⊢
  rw [List.take_succ_eq_append_getElem h, List.all_append, h1]
  simp [h2]
theorem twoB_no {l : List JV} {k : Nat} (h : k < l.length) (h2 : l[k].l.length ≠ 2) : twoB l = false := by
  unfold twoB
  rw [List.all_eq_false]
  exact ⟨l[k], List.getElem_mem h, by simpa using h2⟩
theorem mk2_of {v : JV} (h : v.l.length = 2) : ∃ a b, v.l = [a, b] ∧ mk2 v = (a.n, b.n) := by
  unfold mk2
  match v.l, h with
  | [a, b], _ => exact ⟨a, b, rfl, rfl⟩
/-- Is s the row of marks? -/
def mksOk (s : List UInt8) : Bool := twoB (memD (valOf s) marksN).l && okR (putMksR ((memD (valOf s) marksN).l.map mk2)) s
/-- The marks of a text. -/
def mksOf (s : List UInt8) : List MarkT := (memD (valOf s) marksN).l.map mk2
/-- GetMarks under way. -/
def GmI (w Wb W : World) (l : List JV) (v : Value) (k : Nat) : Prop := Below w.heap.size w Wb ∧ Below Wb.heap.size Wb W ∧ W.ownsRow Wb.heap.size 67 2 v k (((l.take k).map mk2).map cellsM).flatten ∧ twoB (l.take k) = true
set_option maxRecDepth 100000 in
set_option maxHeartbeats 8000000 in
theorem getMks_any (s : List UInt8) (w : World) (hl : s.length ≤ 1000000) (ht : TabJ w.heap.size w) :
    Calls Tryz.prog 16 #[str s] w fun e w' => ∃ u, e = .returned (.tuple #[u, .bool (mksOk s)]) ∧ RdMk w' u (if mksOk s = true then mksOf s else []) ∧ Below w.heap.size w w' := by
  have CP := Lib.hid (rparse_any s w hl)
  have hsz := valOf_sz s
  unfold mksOk mksOf
  obtain ⟨V, hV⟩ : ∃ V, V = valOf s := ⟨_, rfl⟩
  rw [← hV] at CP hsz
  rw [← hV]
  have HSZ := Lib.hid hsz
  have hlen := memD_len V marksN hsz
  obtain ⟨X, hX⟩ : ∃ X, X = memD V marksN := ⟨_, rfl⟩
  rw [← hX] at hlen
  rw [← hX]
  have HX := Lib.hid hX
  obtain ⟨OK, hOK⟩ : ∃ OK, OK = (twoB X.l && okR (putMksR (X.l.map mk2)) s) := ⟨_, rfl⟩
  obtain ⟨LL, hLL⟩ : ∃ LL, LL = (if OK = true then X.l.map mk2 else []) := ⟨_, rfl⟩
  rw [← hOK, ← hLL]
  have HOK := Lib.hid (And.intro hOK hLL)
  have HT := Lib.hid ht
  obtain ⟨i0, hi, hz0, hz1, hz2⟩ := info_parts infoMk
  clear hV hX hl ht hsz hOK hLL
  go_enter Tryz.func16, Tryz.ntmps16
  go_wp2_with fail
  refine CP.out.mono ?_
  rintro e w2 ⟨cs, rfl, hv, hb2⟩
  have CG := get_all V [109, 97, 114, 107, 115] HSZ.out _ w2 cs hv
  have e9 : memD V [109, 97, 114, 107, 115] = X := HX.out.symm
  rw [e9] at CG
  obtain ⟨a1, n1, c1, a2, n2, c2, rfl, _, _⟩ := hv.open
  have CG := Lib.hid CG
  have HB2 := Lib.hid hb2
  clear hb2 hv CP e9
  go_wp2_with fail
  refine CG.out.mono ?_
  rintro e w3 ⟨cs3, ok3, rfl, hv3, hb3⟩
  obtain ⟨al, ll, cl, am, lm, cm, rfl, ⟨rl, hrl, hll, rfl⟩, _⟩ := hv3.open
  obtain ⟨W4, hW4⟩ : ∃ W4, W4 = w3.alloc (.cells #[.int .i64 X.kind, .int .i64 X.n, str X.s, .slice al X.l.length cl, .slice am lm cm] 72) := ⟨_, rfl⟩
  have hb4 : Below w3.heap.size w3 W4 := by rw [hW4]; exact below_alloc _ _
  have hbx : W4.heap[w3.heap.size]? = some (.cells #[.int .i64 X.kind, .int .i64 X.n, str X.s, .slice al X.l.length cl, .slice am lm cm] 72 (0, 0)) := by rw [hW4]; exact heap_alloc_new _ _
  have p3 := box_cell hbx 3
  have H4 : Hid (Below w.heap.size w W4) := Lib.hid (HB2.out.trans ((hb3.trans (hb4.mono hb3.size)).mono HB2.out.size))
  have HL := Lib.hid (And.intro (hrl.frm (Frm.of_below (F := fun _ => False) hb4) (fun _ _ e => e)) (hll.up hb4))
  clear hb3 hv3 CG hrl hll hb4 hbx
  go_upto_region 2 with fail
  rw [← hW4]
  clear hW4
  go_wp2_with fail
  clear p3
  go_loopw [6, 18] (fun v6 v18 wr => ∃ k : Nat, k ≤ X.l.length ∧ v18 = .int .i64 (k : Int) ∧ Hid (GmI w W4 wr X.l v6 k)) (fun _ v18 _ => X.l.length - (intOf v18).toNat)
  case atStart => exact ⟨0, Nat.zero_le _, rfl, Lib.hid ⟨H4.out, Below.refl _ _, World.ownsRow_nil _ _ _ 2, rfl⟩⟩
  case round =>
    obtain ⟨v6, hv6⟩ : ∃ v, v = u6 := ⟨_, rfl⟩
    subst hv6
    obtain ⟨k, hk, rfl, HI⟩ := hrel
    by_cases hlt : k < X.l.length
    · have n1 : (k : Int) < (X.l.length : Int) := by omega
      have n3 : (0 : Int) ≤ (k : Int) := by omega
      obtain ⟨b, off, a, n, c, a', n', c', rfl, _, hbw, hx, c0, c1, c2, c3, c4⟩ := RdJ.part HL.out.1 HL.out.2 hlt
      obtain ⟨x, hxx⟩ : ∃ x, x = X.l[k] := ⟨_, rfl⟩
      rw [← hxx] at hx c0 c1 c2
      have HXX := Lib.hid hxx
      clear hxx
      obtain ⟨al2, ll2, cl2, am2, lm2, cm2, he, ⟨rl2, hrl2, hll2, hn2⟩, _⟩ := hx.open
      simp only [List.cons.injEq, Value.slice.injEq, true_and, and_true] at he
      obtain ⟨⟨rfl, rfl, rfl⟩, rfl, rfl, rfl⟩ := he
      subst hn2
      have hB0 : Below W4.heap.size W4 wr := HI.out.2.1
      have e0 : wr.cell? ⟨b, off + k * 5, none⟩ = some (.int .i64 x.kind) := (hB0.cell (p := ⟨b, off + k * 5, none⟩) hbw).trans c0
      have e1 : wr.cell? ⟨b, off + k * 5 + 1, none⟩ = some (.int .i64 x.n) := (hB0.cell (p := ⟨b, off + k * 5 + 1, none⟩) hbw).trans c1
      have e2 : wr.cell? ⟨b, off + k * 5 + 2, none⟩ = some (str x.s) := (hB0.cell (p := ⟨b, off + k * 5 + 2, none⟩) hbw).trans c2
      have e3 : wr.cell? ⟨b, off + k * 5 + 3, none⟩ = some (.slice a x.l.length c) := (hB0.cell (p := ⟨b, off + k * 5 + 3, none⟩) hbw).trans c3
      have e4 : wr.cell? ⟨b, off + k * 5 + 4, none⟩ = some (.slice a' n' c') := (hB0.cell (p := ⟨b, off + k * 5 + 4, none⟩) hbw).trans c4
      obtain ⟨W1, hW1⟩ : ∃ W1, W1 = wr.alloc (.cells #[.int .i64 x.kind, .int .i64 x.n, str x.s, .slice a x.l.length c, .slice a' n' c'] 72) := ⟨_, rfl⟩
      have hb1 : Below wr.heap.size wr W1 := by rw [hW1]; exact below_alloc _ _
      have hbx : W1.heap[wr.heap.size]? = some (.cells #[.int .i64 x.kind, .int .i64 x.n, str x.s, .slice a x.l.length c, .slice a' n' c'] 72 (0, 0)) := by rw [hW1]; exact heap_alloc_new wr _
      have HI1 : Hid (GmI w W4 W1 X.l v6 k) := Lib.hid ⟨HI.out.1, HI.out.2.1.trans (hb1.mono HI.out.2.1.size), owns_below HI.out.2.2.1 hb1 (Nat.le_refl _), HI.out.2.2.2⟩
      have HQ : Hid (∀ j, v6.ownBlock = some j → W4.heap.size ≤ j ∧ j < wr.heap.size) := Lib.hid (fun j hj => HI.out.2.2.1.lt j hj)
      have p3 := box_cell hbx 3
      have HF : Hid (W4.heap.size ≤ wr.heap.size ∧ W1.heap.size = wr.heap.size + 1) := Lib.hid ⟨HI.out.2.1.size, by rw [hW1]; simp⟩
      clear c0 c1 c2 c3 c4 hx HI hB0
      go_upto_region 6 with fail
      rw [← hW1]
      clear hW1 e0 e1 e2 e3 e4
      by_cases h2 : x.l.length = 2
      · obtain ⟨A, B, hAB, hmk⟩ := mk2_of h2
        rw [hAB] at hll2
        rw [h2] at hrl2 p3
        obtain ⟨b2, off2, y1, y2, y3, y4, y5, y6, rfl, _, hbw2, _, _, f1, _⟩ := RdJ.part hrl2 hll2 (k := 0) (by simp)
        obtain ⟨b3, off3, z1, z2, z3, z4, z5, z6, he3, _, hbw3, _, _, g1, _⟩ := RdJ.part hrl2 hll2 (k := 1) (by simp)
        simp only [Option.some.injEq, Addr.mk.injEq, and_true] at he3
        obtain ⟨rfl, rfl⟩ := he3
        have f1 : W4.cell? ⟨b2, off2 + 1, none⟩ = some (.int .i64 A.n) := by simpa using f1
        have g1 : W4.cell? ⟨b2, off2 + 5 + 1, none⟩ = some (.int .i64 B.n) := by simpa using g1
        have HTW : Hid (twoB (X.l.take (k + 1)) = true) := Lib.hid (twoB_succ hlt HI1.out.2.2.2 (by rw [← HXX.out]; exact h2))
        have HTK : Hid ((((X.l.take (k + 1)).map mk2).map cellsM).flatten = (((X.l.take k).map mk2).map cellsM).flatten ++ [.int .i64 A.n, .int .i64 B.n]) := Lib.hid (by
          rw [List.take_succ_eq_append_getElem hlt, ← HXX.out]; simp [hmk, cellsM])
        have hW0 : Below W4.heap.size W4 W1.drew := Below.drewsN HI1.out.2.1 1
        have d3 : W1.drew.cell? ⟨wr.heap.size, 3, none⟩ = some (.slice (some ⟨b2, off2, none⟩) 2 c) := p3
        have d1 : W1.drew.cell? ⟨b2, off2 + 1, none⟩ = some (.int .i64 A.n) := (hW0.cell (p := ⟨b2, off2 + 1, none⟩) hbw2).trans f1
        have d2 : W1.drew.cell? ⟨b2, off2 + 5 + 1, none⟩ = some (.int .i64 B.n) := (hW0.cell (p := ⟨b2, off2 + 5 + 1, none⟩) hbw2).trans g1
        have HKS : Hid (∀ (G : Nat → Prop) W', Frm G W1.drew W' → (∀ i, G i → v6.ownBlock = some i) → W'.cell? ⟨wr.heap.size, 3, none⟩ = some (.slice (some ⟨b2, off2, none⟩) 2 c) ∧ W'.cell? ⟨b2, off2 + 1, none⟩ = some (.int .i64 A.n) ∧ W'.cell? ⟨b2, off2 + 5 + 1, none⟩ = some (.int .i64 B.n)) := Lib.hid (fun G W' hf hG => by
          have q : ∀ j, v6.ownBlock = some j → W4.heap.size ≤ j ∧ j < wr.heap.size := HQ.out
          exact ⟨cell_frm hf (fun e => by have := q _ (hG _ e); omega) d3, cell_frm hf (fun e => by have := q _ (hG _ e); omega) d1, cell_frm hf (fun e => by have := q _ (hG _ e); omega) d2⟩)
        have HD := Lib.hid (And.intro d3 (And.intro d1 d2))
        have HO : Hid (W1.drew.ownsRow W4.heap.size 67 2 v6 k (((X.l.take k).map mk2).map cellsM).flatten ∧ Below W4.heap.size W4 W1.drew) := Lib.hid ⟨HI1.out.2.2.1, hW0⟩
        have hk9 : k ≤ 1000000000 := by omega
        have HSZ4 : Hid (W4.heap.size ≤ W1.drew.heap.size) := Lib.hid hW0.size
        clear hbx hb1 f1 g1 hW0 hrl2 hll2 hAB h2
        go_wp2_with fail
        go_region_held3 (fun W' => W'.cell? ⟨wr.heap.size, 3, none⟩ = some (.slice (some ⟨b2, off2, none⟩) 2 c) ∧ W'.cell? ⟨b2, off2 + 1, none⟩ = some (.int .i64 A.n) ∧ W'.cell? ⟨b2, off2 + 5 + 1, none⟩ = some (.int .i64 B.n))
          (first
            | (exact HS7.out)
            | (exact HKS.out (fun _ => False) _ (Frm.of_below (below_alloc _ _)) (fun _ h => h.elim))
            | (exact HD.out)
            | go_keep)
          ((first
            | (refine step_appendN (by rfl) _ _ 28 (by rfl) (size := 2) (bytes := 16) Tryz.underlying28 hi hz0 hz1 hz2 rfl (by decide) (by rfl) (World.ownsRow.alloc HO.out.1 _) [.int .i64 A.n, .int .i64 B.n] (by rfl) (heap_alloc_new _ _) rfl ?_ ?_ ?_ ?_ ?_
               · intro u hu
                 simp only [List.mem_cons, List.not_mem_nil, or_false] at hu
                 rcases hu with rfl | rfl <;> rfl
               · unfold maxLen; omega
               · omega
               · have := HSZ4.out; simp at this ⊢; omega
               intro v7 w7 ho7 hg7
               have HS7 := Lib.hid (HKS.out (fun i => v6.ownBlock = some i) w7 ((Frm.of_below (below_alloc _ _)).trans (Frm.of_grown hg7 (fun k hk => hk)) (fun _ _ h => h)) (fun _ h => h))
               have HN : Hid (GmI w W4 w7 X.l v7 (k + 1)) := Lib.hid ⟨HI1.out.1, (HO.out.2.trans ((below_alloc W1.drew _).mono HSZ4.out)).grown hg7 (Nat.le_trans HSZ4.out (below_alloc W1.drew _).size) (fun j ej => (World.ownsRow.lt HO.out.1 j ej).1), by rw [HTK.out]; exact ho7, HTW.out⟩
               clear ho7 hg7)
            | fail))
        all_goals
          clear HKS HD HS7
          go_wp2_with fail
          go_roundw
          case rel => exact ⟨k + 1, by omega, by go_num, HN⟩
          case measure => simp [intOf]; omega
      · have HOF : Hid (OK = false ∧ LL = []) := Lib.hid (by
          have h0 : OK = false := by rw [HOK.out.1, twoB_no hlt (by rw [← HXX.out]; exact h2), Bool.false_and]
          exact ⟨h0, by rw [HOK.out.2, h0]; rfl⟩)
        have t2 : ((x.l.length : Int) != 2) = true := by rw [bne_iff_ne]; omega
        have HX2 : Hid (Below w.heap.size w W1) := Lib.hid (HI1.out.1.trans (HI1.out.2.1.mono HI1.out.1.size))
        clear h2 hbx hb1
        go_wp2_with fail
        go_ret2
        rw [HOF.out.1, HOF.out.2]
        exact ⟨_, rfl, RdMk.nil _, HX2.out⟩
    · obtain rfl : k = X.l.length := by omega
      have n2 : ¬ (X.l.length : Int) < (X.l.length : Int) := by omega
      obtain ⟨M, hM⟩ : ∃ M, M = X.l.map mk2 := ⟨_, rfl⟩
      have HR : Hid (RdMk wr v6 M ∧ twoB X.l = true) := Lib.hid (by
        have h := HI.out.2.2
        rw [List.take_length] at h
        rw [hM]
        exact ⟨RdMk.of_row (by simpa using h.1), h.2⟩)
      have HWB : Hid (Below w.heap.size w wr) := Lib.hid (HI.out.1.trans (HI.out.2.1.mono HI.out.1.size))
      have CI := ifMks_any s v6 M wr HR.out.1 (fun w' h' => HT.out w' (HWB.out.trans (h'.mono HWB.out.size)))
      have h0 := HOK.out.1
      rw [HR.out.2, Bool.true_and, ← hM] at h0
      have h5 := HOK.out.2
      rw [← hM] at h5
      rw [← h0, ← h5] at CI
      have CI := Lib.hid CI
      clear h0 h5 hM
      obtain ⟨a6, c6, rfl, _⟩ := HR.out.1.form
      clear HI
      go_wp2_with fail
      refine CI.out.mono ?_
      rintro e w5 ⟨u, rfl, hu, hb5⟩
      obtain ⟨a7, c7, hu7, _⟩ := hu.form
      have HU := Lib.hid (And.intro hu (HWB.out.trans (hb5.mono HWB.out.size)))
      subst hu7
      clear hb5 hu CI
      go_wp2_with fail
      go_ret2
      exact ⟨_, rfl, HU.out.1, HU.out.2⟩
end Go.Proofs.YtegblhmcfemfgaaGreatDoor
