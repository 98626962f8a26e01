/- Joined: RwGets, RwTwoM, RwTwo, Open, OpenM, OpenRw, RwTwoW. -/
import Derived.Test.YtegblhmcfemfgaaGreatDoorRwJd
import Derived.Test.YtegblhmcfemfgaaGreatDoorRwJb
import Derived.Test.YtegblhmcfemfgaaGreatDoorRwJa
import Derived.Test.YtegblhmcfemfgaaGreatDoorRwJm
import Derived.Test.YtegblhmcfemfgaaGreatDoorBx
import Derived.Deep.CutRange
import Derived.Test.YtegblhmcfemfgaaGreatDoorKit
import Derived.ProofKit
import Derived.OpenShut
import Derived.ShutString
import Derived.ChangeOld
import Derived.Lib.SmallJoins
namespace Go.Proofs.YtegblhmcfemfgaaGreatDoor
open Go.RowKit

theorem getJ_sz {v x : JV} {nm : List UInt8} (h : getJ v nm = some x) : szV x ≤ szV v := by
  unfold getJ at h
  split at h
  · have key : ∀ m : List MemT, fndM m nm = some x → szV x ≤ szM m := by
      intro m
      induction m with
      | nil => intro h; simp [fndM] at h
      | cons y t ih =>
        intro h
        obtain ⟨a, u⟩ := y
        rw [fndM] at h
        rw [szM]
        split at h
        · cases h; omega
        · have := ih h; omega
    have := key _ h
    have := szV_mk v
    omega
  · cases h
theorem wrdO_len (v : JV) (nm : List UInt8) : (wrdO v nm).length ≤ szV v := by
  unfold wrdO
  cases h : getJ v nm with
  | none => simp
  | some x =>
    have h1 := getJ_sz h
    have h2 := szV_mk x
    dsimp only
    omega
set_option maxRecDepth 100000 in
set_option maxHeartbeats 4000000 in
theorem getSub_any (s : List UInt8) (w : World) (hl : s.length ≤ 1000000) (ht : TabJ w.heap.size w) :
    Calls Tryz.prog 14 #[str s] w fun e w' => e = .returned (.tuple #[str (if okR (putSubR (wrdO (valOf s) folderN)) s = true then wrdO (valOf s) folderN else []), .bool (okR (putSubR (wrdO (valOf s) folderN)) s)]) ∧ Below w.heap.size w w' := by
  have CP := Lib.hid (rparse_any s w hl)
  have hsz := valOf_sz s
  obtain ⟨V, hV⟩ : ∃ V, V = valOf s := ⟨_, rfl⟩
  rw [← hV] at CP hsz
  rw [← hV]
  have hxl := wrdO_len V folderN
  have HSZ := Lib.hid hsz
  have HT := Lib.hid ht
  obtain ⟨X, hX⟩ : ∃ X, X = wrdO V folderN := ⟨_, rfl⟩
  rw [← hX] at hxl
  rw [← hX]
  have HX := Lib.hid hX
  have hxl2 : X.length ≤ 9223372036854775807 := by omega
  obtain ⟨OK, hOK⟩ : ∃ OK, OK = okR (putSubR X) s := ⟨_, rfl⟩
  rw [← hOK]
  obtain ⟨ZS, hZS⟩ : ∃ ZS, ZS = (if OK = true then X else []) := ⟨_, rfl⟩
  rw [← hZS]
  have HOK := Lib.hid (And.intro hOK hZS)
  clear hV hX hl ht hsz hxl hOK hZS
  go_enter Tryz.func14, Tryz.ntmps14
  go_wp2_with fail
  refine CP.out.mono ?_
  rintro e w2 ⟨cs, rfl, hv, hb2⟩
  have CW := words_any V [102, 111, 108, 100, 101, 114] HSZ.out _ w2 cs hv
  have e9 : wrdO V [102, 111, 108, 100, 101, 114] = X := HX.out.symm
  rw [e9] at CW
  obtain ⟨a1, n1, c1, a2, n2, c2, rfl, _, _⟩ := hv.open
  have CW := Lib.hid CW
  have HB2 := Lib.hid hb2
  clear hb2 hv CP e9
  go_wp2_with fail
  refine CW.out.mono ?_
  rintro e w3 ⟨rfl, hb3⟩
  have HB3 := Lib.hid (HB2.out.trans (hb3.mono HB2.out.size))
  have CI := ifStr_any s X w3 hxl2 (fun w' h' => HT.out w' (HB3.out.trans (h'.mono HB3.out.size)))
  rw [← HOK.out.1, ← HOK.out.2] at CI
  have CI := Lib.hid CI
  clear hb3 CW
  go_wp2_with fail
  refine CI.out.mono ?_
  rintro e w4 ⟨rfl, hb4⟩
  have HY := Lib.hid (HB3.out.trans (hb4.mono HB3.out.size))
  clear hb4 CI
  go_wp2_with fail
  go_ret2
  exact ⟨rfl, HY.out⟩
set_option maxRecDepth 100000 in
set_option maxHeartbeats 8000000 in
theorem getFeed_any (s : List UInt8) (w : World) (hl : s.length ≤ 1000000) (ht : TabJ w.heap.size w) :
    Calls Tryz.prog 12 #[str s] w fun e w' => e = .returned (.tuple #[.agg (if okR (putFeedR (wrdO (valOf s) [116, 105, 116, 108, 101]) (nbrO (valOf s) [110])) s = true then #[str (wrdO (valOf s) [116, 105, 116, 108, 101]), .int .i64 (nbrO (valOf s) [110])] else #[str [], .int .i64 0]), .bool (okR (putFeedR (wrdO (valOf s) [116, 105, 116, 108, 101]) (nbrO (valOf s) [110])) s)]) ∧ Below w.heap.size w w' := by
  obtain ⟨Wa, hWa⟩ : ∃ Wa, Wa = w.alloc (.cells #[.string ⟨#[]⟩, .int .i64 0] 23) := ⟨_, rfl⟩
  have HA : Hid (Below w.heap.size w Wa ∧ Wa.heap[w.heap.size]? = some (.cells #[str [], .int .i64 0] 23 (0, 0)) ∧ w.heap.size + 1 ≤ Wa.heap.size) := Lib.hid ⟨by rw [hWa]; exact below_alloc _ _, by rw [hWa]; exact heap_alloc_new _ _, by rw [hWa]; simp⟩
  have CP := Lib.hid (rparse_any s Wa hl)
  have hsz := valOf_sz s
  obtain ⟨V, hV⟩ : ∃ V, V = valOf s := ⟨_, rfl⟩
  rw [← hV] at CP hsz
  rw [← hV]
  have HSZ := Lib.hid hsz
  have HT := Lib.hid ht
  obtain ⟨X, hX⟩ : ∃ X, X = wrdO V [116, 105, 116, 108, 101] := ⟨_, rfl⟩
  obtain ⟨Y, hY⟩ : ∃ Y, Y = nbrO V [110] := ⟨_, rfl⟩
  rw [← hX, ← hY]
  have HXY := Lib.hid (And.intro hX hY)
  obtain ⟨OK, hOK⟩ : ∃ OK, OK = okR (putFeedR X Y) s := ⟨_, rfl⟩
  obtain ⟨z1, z2, hzz⟩ : ∃ z1 z2, (if OK = true then #[str X, .int .i64 Y] else #[str [], .int .i64 0] : Array Value) = #[str z1, .int .i64 z2] := by cases OK <;> exact ⟨_, _, rfl⟩
  rw [← hOK, hzz]
  have HOK := Lib.hid hOK
  have HZZ := Lib.hid hzz
  clear hV hX hY hl ht hsz hOK hzz
  go_enter Tryz.func12, Tryz.ntmps12
  go_upto_region 1 with fail
  rw [← hWa]
  clear hWa
  go_wp2_with fail
  refine CP.out.mono ?_
  rintro e w2 ⟨cs, rfl, hv, hb2⟩
  obtain ⟨a1, n1, c1, a2, n2, c2, rfl, _, _⟩ := hv.open
  obtain ⟨W3, hW3⟩ : ∃ W3, W3 = w2.alloc (.cells #[.int .i64 V.kind, .int .i64 V.n, str V.s, .slice a1 n1 c1, .slice a2 n2 c2] 72) := ⟨_, rfl⟩
  have hb3 : Below w2.heap.size w2 W3 := by rw [hW3]; exact below_alloc _ _
  have hbx : W3.heap[w2.heap.size]? = some (.cells #[.int .i64 V.kind, .int .i64 V.n, str V.s, .slice a1 n1 c1, .slice a2 n2 c2] 72 (0, 0)) := by rw [hW3]; exact heap_alloc_new _ _
  have H3 : Hid (Below w.heap.size w W3 ∧ W3.heap[w.heap.size]? = some (.cells #[str [], .int .i64 0] 23 (0, 0)) ∧ w.heap.size + 1 ≤ W3.heap.size ∧ w.heap.size < w2.heap.size) := Lib.hid ⟨(HA.out.1.trans (hb2.mono HA.out.1.size)).trans (hb3.mono (Nat.le_trans HA.out.1.size hb2.size)), box_up (box_up HA.out.2.1 hb2) hb3, Nat.le_trans (Nat.le_trans HA.out.2.2 hb2.size) hb3.size, by have := HA.out.2.2; have := hb2.size; omega⟩
  have p0 := box_cell hbx 0
  have p1 := box_cell hbx 1
  have p2 := box_cell hbx 2
  have p3 := box_cell hbx 3
  have p4 := box_cell hbx 4
  have HKS : Hid (∀ W', Below W3.heap.size W3 W' → W'.cell? ⟨w2.heap.size, 0, none⟩ = some (.int .i64 V.kind) ∧ W'.cell? ⟨w2.heap.size, 1, none⟩ = some (.int .i64 V.n) ∧ W'.cell? ⟨w2.heap.size, 2, none⟩ = some (str V.s) ∧ W'.cell? ⟨w2.heap.size, 3, none⟩ = some (.slice a1 n1 c1) ∧ W'.cell? ⟨w2.heap.size, 4, none⟩ = some (.slice a2 n2 c2)) := Lib.hid (fun W' hb => ⟨(hb.cell (p := ⟨w2.heap.size, 0, none⟩) (World.block_lt_of_cell? W3 _ p0)).trans p0, (hb.cell (p := ⟨w2.heap.size, 1, none⟩) (World.block_lt_of_cell? W3 _ p1)).trans p1, (hb.cell (p := ⟨w2.heap.size, 2, none⟩) (World.block_lt_of_cell? W3 _ p2)).trans p2, (hb.cell (p := ⟨w2.heap.size, 3, none⟩) (World.block_lt_of_cell? W3 _ p3)).trans p3, (hb.cell (p := ⟨w2.heap.size, 4, none⟩) (World.block_lt_of_cell? W3 _ p4)).trans p4⟩)
  have HV := Lib.hid (hv.up hb3)
  have CW : Hid (∀ W, Hid (Below W3.heap.size W3 W) → Calls Tryz.prog 35 #[.agg #[.int .i64 V.kind, .int .i64 V.n, str V.s, .slice a1 n1 c1, .slice a2 n2 c2], str [116, 105, 116, 108, 101]] W fun e w' => e = .returned (str X) ∧ Hid (Below W3.heap.size W3 w')) := Lib.hid (fun W hb => by
    have := words_any V [116, 105, 116, 108, 101] HSZ.out _ W _ (HV.out.up hb.out)
    rw [← HXY.out.1] at this
    refine this.mono ?_
    rintro e w' ⟨rfl, h'⟩
    exact ⟨rfl, Lib.hid (hb.out.trans (h'.mono hb.out.size))⟩)
  have CN : Hid (∀ W, Hid (Below W3.heap.size W3 W) → Calls Tryz.prog 36 #[.agg #[.int .i64 V.kind, .int .i64 V.n, str V.s, .slice a1 n1 c1, .slice a2 n2 c2], str [110]] W fun e w' => e = .returned (.int .i64 Y) ∧ Hid (Below W3.heap.size W3 w')) := Lib.hid (fun W hb => by
    have := numb_any V [110] HSZ.out _ W _ (HV.out.up hb.out)
    rw [← HXY.out.2] at this
    refine this.mono ?_
    rintro e w' ⟨rfl, h'⟩
    exact ⟨rfl, Lib.hid (hb.out.trans (h'.mono hb.out.size))⟩)
  have CI : Hid (∀ W, Hid (Below W3.heap.size W3 W) → Calls Tryz.prog 34 #[str s, .agg #[str X, .int .i64 Y], .func (.func 7) #[] #[]] W fun e w' => e = .returned (.tuple #[.agg #[str z1, .int .i64 z2], .bool OK]) ∧ Hid (Below W3.heap.size W3 w')) := Lib.hid (fun W hb => by
    have := ifFeed_any s X Y W (fun w' h' => HT.out w' ((H3.out.1.trans (hb.out.mono H3.out.1.size)).trans (h'.mono (Nat.le_trans H3.out.1.size hb.out.size))))
    rw [← HOK.out, HZZ.out] at this
    refine this.mono ?_
    rintro e w' ⟨rfl, h'⟩
    exact ⟨rfl, Lib.hid (hb.out.trans (h'.mono hb.out.size))⟩)
  have HB : Hid (Below W3.heap.size W3 W3.drew) := Lib.hid (Below.drewsN (Below.refl _ _) 1)
  have hne : w.heap.size ≠ w2.heap.size := by have := H3.out.2.2.2; omega
  clear hb2 hb3 hbx hv CP
  go_upto_region 2 with fail
  rw [← hW3]
  clear hW3
  go_wp2_with fail
  go_region_held3 (fun W' => W'.cell? ⟨w2.heap.size, 0, none⟩ = some (.int .i64 V.kind) ∧ W'.cell? ⟨w2.heap.size, 1, none⟩ = some (.int .i64 V.n) ∧ W'.cell? ⟨w2.heap.size, 2, none⟩ = some (str V.s) ∧ W'.cell? ⟨w2.heap.size, 3, none⟩ = some (.slice a1 n1 c1) ∧ W'.cell? ⟨w2.heap.size, 4, none⟩ = some (.slice a2 n2 c2))
    (first | (exact HKS.out _ HB.out) | go_keep)
    ((first
      | (go_at_call 35; refine (CW.out _ HB).mono ?_; rintro e w5 ⟨rfl, HB⟩)
      | (go_at_call 36; refine (CN.out _ HB).mono ?_; rintro e w5 ⟨rfl, HB⟩)
      | (go_at_call 34; refine (CI.out _ HB).mono ?_; rintro e w7 ⟨rfl, HB⟩; have hz := box_up H3.out.2.1 HB.out; have d0 := box_cell hz 0; have d1 := box_cell hz 1; have df := box_fr hz; have HZ := Lib.hid hz; clear hz)
      | fail))
  all_goals
    clear p0 p1 p2 p3 p4 HKS
    go_wp2_with fail
    refine bodyPost_any_world (fun X => X.heap[w.heap.size]? = some (.cells #[str z1, .int .i64 z2] 23 (0, 0)) ∧ Frm (fun i => i = w.heap.size) w7 X) (two_set HZ.out _ _) ?_
    clear d0 d1 df
    rintro w9 ⟨h9, hf9⟩
    have k0 := box_cell h9 0
    have k1 := box_cell h9 1
    refine bodyPost_ret (v := .tuple #[.agg #[str z1, .int .i64 z2], .bool OK]) (by simp [results, Tryz.results12, go_sem, k0, k1]) rfl ?_
    exact ⟨rfl, (H3.out.1.trans (HB.out.mono H3.out.1.size)).trans (hf9.below (by have := H3.out.2.2.1; have := HB.out.size; omega) (fun k hk => by omega))⟩
set_option maxRecDepth 100000 in
set_option maxHeartbeats 8000000 in
theorem getState_any (s : List UInt8) (w : World) (hl : s.length ≤ 1000000) (ht : TabJ w.heap.size w) :
    Calls Tryz.prog 15 #[str s] w fun e w' => e = .returned (.tuple #[.agg (if okR (putStateR (nbrO (valOf s) [114, 101, 97, 100]) (nbrO (valOf s) [115, 116, 97, 114])) s = true then #[.int .i64 (nbrO (valOf s) [114, 101, 97, 100]), .int .i64 (nbrO (valOf s) [115, 116, 97, 114])] else #[.int .i64 0, .int .i64 0]), .bool (okR (putStateR (nbrO (valOf s) [114, 101, 97, 100]) (nbrO (valOf s) [115, 116, 97, 114])) s)]) ∧ Below w.heap.size w w' := by
  obtain ⟨Wa, hWa⟩ : ∃ Wa, Wa = w.alloc (.cells #[.int .i64 0, .int .i64 0] 27) := ⟨_, rfl⟩
  have HA : Hid (Below w.heap.size w Wa ∧ Wa.heap[w.heap.size]? = some (.cells #[.int .i64 0, .int .i64 0] 27 (0, 0)) ∧ w.heap.size + 1 ≤ Wa.heap.size) := Lib.hid ⟨by rw [hWa]; exact below_alloc _ _, by rw [hWa]; exact heap_alloc_new _ _, by rw [hWa]; simp⟩
  have CP := Lib.hid (rparse_any s Wa hl)
  have hsz := valOf_sz s
  obtain ⟨V, hV⟩ : ∃ V, V = valOf s := ⟨_, rfl⟩
  rw [← hV] at CP hsz
  rw [← hV]
  have HSZ := Lib.hid hsz
  have HT := Lib.hid ht
  obtain ⟨OK, hOK⟩ : ∃ OK, OK = okR (putStateR (nbrO V [114, 101, 97, 100]) (nbrO V [115, 116, 97, 114])) s := ⟨_, rfl⟩
  obtain ⟨z1, z2, hzz⟩ : ∃ z1 z2, (if OK = true then #[.int .i64 (nbrO V [114, 101, 97, 100]), .int .i64 (nbrO V [115, 116, 97, 114])] else #[.int .i64 0, .int .i64 0] : Array Value) = #[.int .i64 z1, .int .i64 z2] := by cases OK <;> exact ⟨_, _, rfl⟩
  rw [← hOK, hzz]
  have HOK := Lib.hid hOK
  have HZZ := Lib.hid hzz
  clear hV hl ht hsz hOK hzz
  go_enter Tryz.func15, Tryz.ntmps15
  go_upto_region 1 with fail
  rw [← hWa]
  clear hWa
  go_wp2_with fail
  refine CP.out.mono ?_
  rintro e w2 ⟨cs, rfl, hv, hb2⟩
  obtain ⟨a1, n1, c1, a2, n2, c2, rfl, _, _⟩ := hv.open
  obtain ⟨W3, hW3⟩ : ∃ W3, W3 = w2.alloc (.cells #[.int .i64 V.kind, .int .i64 V.n, str V.s, .slice a1 n1 c1, .slice a2 n2 c2] 72) := ⟨_, rfl⟩
  have hb3 : Below w2.heap.size w2 W3 := by rw [hW3]; exact below_alloc _ _
  have hbx : W3.heap[w2.heap.size]? = some (.cells #[.int .i64 V.kind, .int .i64 V.n, str V.s, .slice a1 n1 c1, .slice a2 n2 c2] 72 (0, 0)) := by rw [hW3]; exact heap_alloc_new _ _
  have H3 : Hid (Below w.heap.size w W3 ∧ W3.heap[w.heap.size]? = some (.cells #[.int .i64 0, .int .i64 0] 27 (0, 0)) ∧ w.heap.size + 1 ≤ W3.heap.size ∧ w.heap.size < w2.heap.size) := Lib.hid ⟨(HA.out.1.trans (hb2.mono HA.out.1.size)).trans (hb3.mono (Nat.le_trans HA.out.1.size hb2.size)), box_up (box_up HA.out.2.1 hb2) hb3, Nat.le_trans (Nat.le_trans HA.out.2.2 hb2.size) hb3.size, by have := HA.out.2.2; have := hb2.size; omega⟩
  have p0 := box_cell hbx 0
  have p1 := box_cell hbx 1
  have p2 := box_cell hbx 2
  have p3 := box_cell hbx 3
  have p4 := box_cell hbx 4
  have HKS : Hid (∀ W', Below W3.heap.size W3 W' → W'.cell? ⟨w2.heap.size, 0, none⟩ = some (.int .i64 V.kind) ∧ W'.cell? ⟨w2.heap.size, 1, none⟩ = some (.int .i64 V.n) ∧ W'.cell? ⟨w2.heap.size, 2, none⟩ = some (str V.s) ∧ W'.cell? ⟨w2.heap.size, 3, none⟩ = some (.slice a1 n1 c1) ∧ W'.cell? ⟨w2.heap.size, 4, none⟩ = some (.slice a2 n2 c2)) := Lib.hid (fun W' hb => ⟨(hb.cell (p := ⟨w2.heap.size, 0, none⟩) (World.block_lt_of_cell? W3 _ p0)).trans p0, (hb.cell (p := ⟨w2.heap.size, 1, none⟩) (World.block_lt_of_cell? W3 _ p1)).trans p1, (hb.cell (p := ⟨w2.heap.size, 2, none⟩) (World.block_lt_of_cell? W3 _ p2)).trans p2, (hb.cell (p := ⟨w2.heap.size, 3, none⟩) (World.block_lt_of_cell? W3 _ p3)).trans p3, (hb.cell (p := ⟨w2.heap.size, 4, none⟩) (World.block_lt_of_cell? W3 _ p4)).trans p4⟩)
  have HV := Lib.hid (hv.up hb3)
  have CN : Hid (∀ nm W, Hid (Below W3.heap.size W3 W) → Calls Tryz.prog 36 #[.agg #[.int .i64 V.kind, .int .i64 V.n, str V.s, .slice a1 n1 c1, .slice a2 n2 c2], str nm] W fun e w' => e = .returned (.int .i64 (nbrO V nm)) ∧ Hid (Below W3.heap.size W3 w')) := Lib.hid (fun nm W hb => by
    refine (numb_any V nm HSZ.out _ W _ (HV.out.up hb.out)).mono ?_
    rintro e w' ⟨rfl, h'⟩
    exact ⟨rfl, Lib.hid (hb.out.trans (h'.mono hb.out.size))⟩)
  have CI : Hid (∀ W, Hid (Below W3.heap.size W3 W) → Calls Tryz.prog 39 #[str s, .agg #[.int .i64 (nbrO V [114, 101, 97, 100]), .int .i64 (nbrO V [115, 116, 97, 114])], .func (.func 10) #[] #[]] W fun e w' => e = .returned (.tuple #[.agg #[.int .i64 z1, .int .i64 z2], .bool OK]) ∧ Hid (Below W3.heap.size W3 w')) := Lib.hid (fun W hb => by
    have := ifState_any s (nbrO V [114, 101, 97, 100]) (nbrO V [115, 116, 97, 114]) W (fun w' h' => HT.out w' ((H3.out.1.trans (hb.out.mono H3.out.1.size)).trans (h'.mono (Nat.le_trans H3.out.1.size hb.out.size))))
    rw [← HOK.out, HZZ.out] at this
    refine this.mono ?_
    rintro e w' ⟨rfl, h'⟩
    exact ⟨rfl, Lib.hid (hb.out.trans (h'.mono hb.out.size))⟩)
  have HB : Hid (Below W3.heap.size W3 W3.drew) := Lib.hid (Below.drewsN (Below.refl _ _) 1)
  have hne : w.heap.size ≠ w2.heap.size := by have := H3.out.2.2.2; omega
  clear hb2 hb3 hbx hv CP
  go_upto_region 2 with fail
  rw [← hW3]
  clear hW3
  go_wp2_with fail
  go_region_held3 (fun W' => W'.cell? ⟨w2.heap.size, 0, none⟩ = some (.int .i64 V.kind) ∧ W'.cell? ⟨w2.heap.size, 1, none⟩ = some (.int .i64 V.n) ∧ W'.cell? ⟨w2.heap.size, 2, none⟩ = some (str V.s) ∧ W'.cell? ⟨w2.heap.size, 3, none⟩ = some (.slice a1 n1 c1) ∧ W'.cell? ⟨w2.heap.size, 4, none⟩ = some (.slice a2 n2 c2))
    (first | (exact HKS.out _ HB.out) | go_keep)
    ((first
      | (go_at_call 36; refine (CN.out _ _ HB).mono ?_; rintro e w5 ⟨rfl, HB⟩)
      | (go_at_call 39; refine (CI.out _ HB).mono ?_; rintro e w7 ⟨rfl, HB⟩; have hz := box_up H3.out.2.1 HB.out; have d0 := box_cell hz 0; have d1 := box_cell hz 1; have df := box_fr hz; have HZ := Lib.hid hz; clear hz)
      | fail))
  all_goals
    clear p0 p1 p2 p3 p4 HKS
    go_wp2_with fail
    refine bodyPost_any_world (fun X => X.heap[w.heap.size]? = some (.cells #[.int .i64 z1, .int .i64 z2] 27 (0, 0)) ∧ Frm (fun i => i = w.heap.size) w7 X) (two_set HZ.out _ _) ?_
    clear d0 d1 df
    rintro w9 ⟨h9, hf9⟩
    have k0 := box_cell h9 0
    have k1 := box_cell h9 1
    refine bodyPost_ret (v := .tuple #[.agg #[.int .i64 z1, .int .i64 z2], .bool OK]) (by simp [results, Tryz.results15, go_sem, k0, k1]) rfl ?_
    exact ⟨rfl, (H3.out.1.trans (HB.out.mono H3.out.1.size)).trans (hf9.below (by have := H3.out.2.2.1; have := HB.out.size; omega) (fun k hk => by omega))⟩
end Go.Proofs.YtegblhmcfemfgaaGreatDoor
namespace Go.Proofs.YtegblhmcfemfgaaGreatDoor
open Go.RowKit

theorem objR_ok {ms : List MemT} (h : (objR ms).2 = 0) : mayV (.mk 7 0 [] [] ms) 64 = true ∧ (objR ms).1 = prV (.mk 7 0 [] [] ms) := by
  by_cases hm : mayV (.mk 7 0 [] [] ms) 64 = true
  · unfold objR
    rw [if_pos hm]
    exact ⟨hm, rfl⟩
  · unfold objR at h
    rw [if_neg hm] at h
    cases h
theorem objR_inj {m1 m2 : List MemT} (h1 : (objR m1).2 = 0) (h2 : (objR m2).2 = 0) (l1 : (prV (.mk 7 0 [] [] m1)).length ≤ 20000) (l2 : (prV (.mk 7 0 [] [] m2)).length ≤ 20000) (he : (objR m1).1 = (objR m2).1) : m1 = m2 := by
  obtain ⟨a1, e1⟩ := objR_ok h1
  obtain ⟨a2, e2⟩ := objR_ok h2
  rw [e1, e2] at he
  have p1 := par_pr a1 l1
  have p2 := par_pr a2 l2
  rw [he, p2] at p1
  injection p1 with p1 _
  injection p1 with _ _ _ _ p1
  exact p1.symm
/-- No row's text ends, begins otherwise than with a brace. -/
theorem objR_last {ms : List MemT} (s : List UInt8) (c : UInt8) (hc : c ≠ 125) : okR (objR ms) (s ++ [c]) = false := by
  by_cases h : (objR ms).2 = 0
  · obtain ⟨_, e⟩ := objR_ok h
    have hne : ¬ (objR ms).1 = s ++ [c] := by
      intro he
      rw [e] at he
      have ep : prV (.mk 7 0 [] [] ms) = (123 :: (prU ms).drop 1) ++ [125] := rfl
      rw [ep] at he
      have := (List.append_inj' he rfl).2
      simp at this
      exact hc this.symm
    unfold okR
    rw [show ((objR ms).1 == s ++ [c]) = false from by simpa using hne, Bool.and_false]
  · unfold okR
    rw [show ((objR ms).2 == 0) = false from by simpa using h, Bool.false_and]
theorem objR_first {ms : List MemT} (s : List UInt8) (c : UInt8) (hc : c ≠ 123) : okR (objR ms) (c :: s) = false := by
  by_cases h : (objR ms).2 = 0
  · obtain ⟨_, e⟩ := objR_ok h
    have hne : ¬ (objR ms).1 = c :: s := by
      intro he
      rw [e] at he
      have ep : prV (.mk 7 0 [] [] ms) = 123 :: ((prU ms).drop 1 ++ [125]) := rfl
      rw [ep] at he
      injection he with he _
      exact hc he.symm
    unfold okR
    rw [show ((objR ms).1 == c :: s) = false from by simpa using hne, Bool.and_false]
  · unfold okR
    rw [show ((objR ms).2 == 0) = false from by simpa using h, Bool.false_and]
theorem feed_last (t : List UInt8) (n : Int) (s : List UInt8) : okR (putFeedR t n) (s ++ [32]) = false := by
  unfold putFeedR
  split
  · rfl
  · exact objR_last s 32 (by decide)
theorem state_first (a b : Int) (s : List UInt8) : okR (putStateR a b) (32 :: s) = false := by
  unfold putStateR
  split
  · rfl
  · exact objR_first s 32 (by decide)
theorem sub_last (t s : List UInt8) : okR (putSubR t) (s ++ [10]) = false := by
  unfold putSubR
  split
  · rfl
  · exact objR_last s 10 (by decide)
theorem quo_le (s : List UInt8) : (quo s).length ≤ 6 * s.length + 2 := by
  have := qbL_len s
  simp [quo]; omega
theorem feed_pr {t : List UInt8} {n : Int} (hn : ¬ badF t n) : (prV (.mk 7 0 [] [] (feedMs t n))).length ≤ 20000 := by
  have h1 := quo_le t
  have h2 : (quo titleN).length = 7 := by decide
  have h3 : (quo [110]).length = 3 := by decide
  have h4 := itoa_len (n := n) (by unfold badF at hn; omega)
  have h5 : t.length ≤ 500 := by unfold badF at hn; omega
  have e1 : prV (.mk 5 0 t [] []) = quo t := rfl
  have e2 : prV (.mk 4 n [] [] []) = Lib.itoa n := rfl
  have e : prV (.mk 7 0 [] [] (feedMs t n)) = 123 :: ((prU (feedMs t n)).drop 1 ++ [125]) := rfl
  rw [e]
  simp [feedMs, prU, e1, e2, h2, h3]
  omega
theorem state_pr {a b : Int} (hn : ¬ badS a b) : (prV (.mk 7 0 [] [] (stateMs a b))).length ≤ 20000 := by
  have h2 : (quo readN).length = 6 := by decide
  have h3 : (quo starN).length = 6 := by decide
  have h4 := itoa_len (n := a) (by unfold badS at hn; omega)
  have h5 := itoa_len (n := b) (by unfold badS at hn; omega)
  have e1 : prV (.mk 4 a [] [] []) = Lib.itoa a := rfl
  have e2 : prV (.mk 4 b [] [] []) = Lib.itoa b := rfl
  have e : prV (.mk 7 0 [] [] (stateMs a b)) = 123 :: ((prU (stateMs a b)).drop 1 ++ [125]) := rfl
  rw [e]
  simp [stateMs, prU, e1, e2, h2, h3]
  omega
theorem sub_pr {s : List UInt8} (hn : ¬ (s ≠ [] ∧ nameB s = false)) : (prV (.mk 7 0 [] [] (subMs s))).length ≤ 20000 := by
  have hl : s.length ≤ 20 := by
    by_cases hs : s = []
    · subst hs; simp
    · cases hb : nameB s
      · exact absurd ⟨hs, hb⟩ hn
      · exact (nameB_len hb).2
  have h1 := quo_le s
  have h2 : (quo folderN).length = 8 := by decide
  have e1 : prV (.mk 5 0 s [] []) = quo s := rfl
  have e : prV (.mk 7 0 [] [] (subMs s)) = 123 :: ((prU (subMs s)).drop 1 ++ [125]) := rfl
  rw [e]
  simp [subMs, prU, e1, h2]
  omega
theorem objR_len {ms : List MemT} (h : (prV (.mk 7 0 [] [] ms)).length ≤ 20000) : (objR ms).1.length ≤ 20000 := by
  unfold objR
  split
  · exact h
  · simp
theorem feed_short (t : List UInt8) (n : Int) : (putFeedR t n).1.length ≤ 20000 := by
  unfold putFeedR
  split
  · simp
  · next h => exact objR_len (feed_pr h)
theorem state_short (a b : Int) : (putStateR a b).1.length ≤ 20000 := by
  unfold putStateR
  split
  · simp
  · next h => exact objR_len (state_pr h)
theorem sub_short (s : List UInt8) : (putSubR s).1.length ≤ 20000 := by
  unfold putSubR
  split
  · simp
  · next h => exact objR_len (sub_pr h)
theorem feed_two {t t' : List UInt8} {n n' : Int} (h : (putFeedR t n).2 = 0) (h' : (putFeedR t' n').2 = 0) : ((putFeedR t n).1 == (putFeedR t' n').1) = decide (t = t' ∧ n = n') := by
  by_cases e : t = t' ∧ n = n'
  · obtain ⟨rfl, rfl⟩ := e
    simp
  · have hb : ¬ badF t n := fun hb => by unfold putFeedR at h; rw [if_pos hb] at h; cases h
    have hb' : ¬ badF t' n' := fun hb => by unfold putFeedR at h'; rw [if_pos hb] at h'; cases h'
    have e1 : putFeedR t n = objR (feedMs t n) := by unfold putFeedR; rw [if_neg hb]
    have e2 : putFeedR t' n' = objR (feedMs t' n') := by unfold putFeedR; rw [if_neg hb']
    rw [e1] at h ⊢
    rw [e2] at h' ⊢
    have : ¬ (objR (feedMs t n)).1 = (objR (feedMs t' n')).1 := by
      intro he
      have := objR_inj h h' (feed_pr hb) (feed_pr hb') he
      simp [feedMs] at this
      exact e ⟨this.2, this.1⟩
    rw [decide_eq_false e]
    simpa using this
theorem state_two {a b a' b' : Int} (h : (putStateR a b).2 = 0) (h' : (putStateR a' b').2 = 0) : ((putStateR a b).1 == (putStateR a' b').1) = decide (a = a' ∧ b = b') := by
  by_cases e : a = a' ∧ b = b'
  · obtain ⟨rfl, rfl⟩ := e
    simp
  · have hb : ¬ badS a b := fun hb => by unfold putStateR at h; rw [if_pos hb] at h; cases h
    have hb' : ¬ badS a' b' := fun hb => by unfold putStateR at h'; rw [if_pos hb] at h'; cases h'
    have e1 : putStateR a b = objR (stateMs a b) := by unfold putStateR; rw [if_neg hb]
    have e2 : putStateR a' b' = objR (stateMs a' b') := by unfold putStateR; rw [if_neg hb']
    rw [e1] at h ⊢
    rw [e2] at h' ⊢
    have : ¬ (objR (stateMs a b)).1 = (objR (stateMs a' b')).1 := by
      intro he
      have := objR_inj h h' (state_pr hb) (state_pr hb') he
      simp [stateMs] at this
      exact e this
    rw [decide_eq_false e]
    simpa using this
theorem sub_two {s s' : List UInt8} (h : (putSubR s).2 = 0) (h' : (putSubR s').2 = 0) : ((putSubR s).1 == (putSubR s').1) = decide (s = s') := by
  by_cases e : s = s'
  · subst e
    simp
  · have hb : ¬ (s ≠ [] ∧ nameB s = false) := fun hb => by unfold putSubR at h; rw [if_pos hb] at h; cases h
    have hb' : ¬ (s' ≠ [] ∧ nameB s' = false) := fun hb => by unfold putSubR at h'; rw [if_pos hb] at h'; cases h'
    have e1 : putSubR s = objR (subMs s) := by unfold putSubR; rw [if_neg hb]
    have e2 : putSubR s' = objR (subMs s') := by unfold putSubR; rw [if_neg hb']
    rw [e1] at h ⊢
    rw [e2] at h' ⊢
    have : ¬ (objR (subMs s)).1 = (objR (subMs s')).1 := by
      intro he
      have := objR_inj h h' (sub_pr hb) (sub_pr hb') he
      simp [subMs] at this
      exact e this
    rw [decide_eq_false e]
    simpa using this
theorem feed_eql (t t' : List UInt8) (n n' : Int) (W : World) : (binOp .eql 23 (.agg #[str t, .int .i64 n]) (.agg #[str t', .int .i64 n'])).run Tryz.prog W = .ok (.bool (decide (t = t' ∧ n = n'))) W := by
  have hS : Tryz.prog.underlying 23 = some (.struct (Tryz.prog.fieldsOf 23)) := by kernel_rfl
  have hp : Tryz.prog.stoodInHeld 23 = false := by kernel_rfl
  rw [run_eql_struct, show (10000 : Nat) = 9999 + 1 from rfl, run_equalIn_agg W 9999 23 _ _ hS hp]
  simp only [Program.fieldsOf, Tryz.underlying23]
  go_simp
  by_cases h1 : t = t' <;> by_cases h2 : n = n' <;> simp [h1, h2]
theorem state_eql (a b a' b' : Int) (W : World) : (binOp .eql 27 (.agg #[.int .i64 a, .int .i64 b]) (.agg #[.int .i64 a', .int .i64 b'])).run Tryz.prog W = .ok (.bool (decide (a = a' ∧ b = b'))) W := by
  have hS : Tryz.prog.underlying 27 = some (.struct (Tryz.prog.fieldsOf 27)) := by kernel_rfl
  have hp : Tryz.prog.stoodInHeld 27 = false := by kernel_rfl
  rw [run_eql_struct, show (10000 : Nat) = 9999 + 1 from rfl, run_equalIn_agg W 9999 27 _ _ hS hp]
  simp only [Program.fieldsOf, Tryz.underlying27]
  go_simp
  by_cases h1 : a = a' <;> by_cases h2 : b = b' <;> simp [h1, h2]
end Go.Proofs.YtegblhmcfemfgaaGreatDoor
namespace Go.Proofs.YtegblhmcfemfgaaGreatDoor
open Go.RowKit

theorem getFeed_no (x : List UInt8) (w : World) (hl : x.length ≤ 20000) (ht : TabJ w.heap.size w) : Calls Tryz.prog 12 #[str (x ++ [32])] w fun e w' => e = .returned (.tuple #[.agg #[str [], .int .i64 0], .bool false]) ∧ Below w.heap.size w w' := by
  have := getFeed_any (x ++ [32]) w (by simp; omega) ht
  simp only [feed_last, Bool.false_eq_true, if_false] at this
  exact this
theorem getState_no (x : List UInt8) (w : World) (hl : x.length ≤ 20000) (ht : TabJ w.heap.size w) : Calls Tryz.prog 15 #[str (32 :: x)] w fun e w' => e = .returned (.tuple #[.agg #[.int .i64 0, .int .i64 0], .bool false]) ∧ Below w.heap.size w w' := by
  have := getState_any (32 :: x) w (by simp; omega) ht
  simp only [state_first, Bool.false_eq_true, if_false] at this
  exact this
theorem getSub_no (x : List UInt8) (w : World) (hl : x.length ≤ 20000) (ht : TabJ w.heap.size w) : Calls Tryz.prog 14 #[str (x ++ [10])] w fun e w' => e = .returned (.tuple #[str [], .bool false]) ∧ Below w.heap.size w w' := by
  have := getSub_any (x ++ [10]) w (by simp; omega) ht
  simp only [sub_last, Bool.false_eq_true, if_false] at this
  exact this
/-- What lies on through RowsTwo. -/
structure TwS (w W : World) (ft gt : List UInt8) (fn gn s1 s2 t1 t2 : Int) : Prop where
  hb : Below w.heap.size w W
  b6 : W.heap[w.heap.size]? = some (.cells #[str ft, .int .i64 fn] 23 (0, 0))
  b7 : W.heap[w.heap.size + 1]? = some (.cells #[str gt, .int .i64 gn] 23 (0, 0))
  b8 : W.heap[w.heap.size + 2]? = some (.cells #[.int .i64 s1, .int .i64 s2] 27 (0, 0))
  b9 : W.heap[w.heap.size + 3]? = some (.cells #[.int .i64 t1, .int .i64 t2] 27 (0, 0))
theorem TwS.up {w W W' : World} {ft gt : List UInt8} {fn gn s1 s2 t1 t2 : Int} (h : TwS w W ft gt fn gn s1 s2 t1 t2) (hb : Below W.heap.size W W') : TwS w W' ft gt fn gn s1 s2 t1 t2 :=
  ⟨h.hb.trans (hb.mono h.hb.size), box_up h.b6 hb, box_up h.b7 hb, box_up h.b8 hb, box_up h.b9 hb⟩
theorem TwS.made (w : World) (ft gt : List UInt8) (fn gn s1 s2 t1 t2 : Int) :
    TwS w ((((w.alloc (.cells #[str ft, .int .i64 fn] 23)).alloc (.cells #[str gt, .int .i64 gn] 23)).alloc (.cells #[.int .i64 s1, .int .i64 s2] 27)).alloc (.cells #[.int .i64 t1, .int .i64 t2] 27)) ft gt fn gn s1 s2 t1 t2 := by
  obtain ⟨w1, h1⟩ : ∃ w1, w1 = w.alloc (.cells #[str ft, .int .i64 fn] 23) := ⟨_, rfl⟩
  have z1 : w1.heap.size = w.heap.size + 1 := by rw [h1]; simp
  have k1 : Below w.heap.size w w1 := by rw [h1]; exact below_alloc _ _
  have c1 : w1.heap[w.heap.size]? = some (.cells #[str ft, .int .i64 fn] 23 (0, 0)) := by rw [h1]; exact heap_alloc_new _ _
  rw [← h1]
  obtain ⟨w2, h2⟩ : ∃ w2, w2 = w1.alloc (.cells #[str gt, .int .i64 gn] 23) := ⟨_, rfl⟩
  have z2 : w2.heap.size = w.heap.size + 2 := by rw [h2]; simp; omega
  have k2 : Below w1.heap.size w1 w2 := by rw [h2]; exact below_alloc _ _
  have c2 : w2.heap[w.heap.size + 1]? = some (.cells #[str gt, .int .i64 gn] 23 (0, 0)) := by rw [h2, ← z1]; exact heap_alloc_new _ _
  rw [← h2]
  obtain ⟨w3, h3⟩ : ∃ w3, w3 = w2.alloc (.cells #[.int .i64 s1, .int .i64 s2] 27) := ⟨_, rfl⟩
  have z3 : w3.heap.size = w.heap.size + 3 := by rw [h3]; simp; omega
  have k3 : Below w2.heap.size w2 w3 := by rw [h3]; exact below_alloc _ _
  have c3 : w3.heap[w.heap.size + 2]? = some (.cells #[.int .i64 s1, .int .i64 s2] 27 (0, 0)) := by rw [h3, ← z2]; exact heap_alloc_new _ _
  rw [← h3]
  obtain ⟨w4, h4⟩ : ∃ w4, w4 = w3.alloc (.cells #[.int .i64 t1, .int .i64 t2] 27) := ⟨_, rfl⟩
  have k4 : Below w3.heap.size w3 w4 := by rw [h4]; exact below_alloc _ _
  have c4 : w4.heap[w.heap.size + 3]? = some (.cells #[.int .i64 t1, .int .i64 t2] 27 (0, 0)) := by rw [h4, ← z3]; exact heap_alloc_new _ _
  rw [← h4]
  have q2 := k1.trans (k2.mono k1.size)
  have q3 := q2.trans (k3.mono q2.size)
  exact ⟨q3.trans (k4.mono q3.size), box_up (box_up (box_up c1 k2) k3) k4, box_up (box_up c2 k3) k4, box_up c3 k4, c4⟩
theorem two_way {e h : Int} {X Y : Bool} (H : e = 0 → h = 0 → X = Y) : ((e == 0) = false) ∨ ((e == 0) = true ∧ (h == 0) = false) ∨ ((e == 0) = true ∧ (h == 0) = true ∧ ∃ c, X = c ∧ Y = c) := by
  by_cases he : e = 0
  · by_cases hh : h = 0
    · exact .inr (.inr ⟨by simpa using he, by simpa using hh, _, H he hh, rfl⟩)
    · exact .inr (.inl ⟨by simpa using he, by simpa using hh⟩)
  · exact .inl (by simpa using he)
attribute [local go_sem] str_cat
set_option maxRecDepth 100000 in
set_option maxHeartbeats 16000000 in
theorem two_walk (ft gt : List UInt8) (fn gn s1 s2 t1 t2 : Int) (a b : List UInt8) (w : World) (ha : a.length ≤ 9223372036854775807) (hb : b.length ≤ 9223372036854775807) (ht : TabJ w.heap.size w) :
    Calls Tryz.prog 4 #[.agg #[str ft, .int .i64 fn], .agg #[str gt, .int .i64 gn], .agg #[.int .i64 s1, .int .i64 s2], .agg #[.int .i64 t1, .int .i64 t2], str a, str b] w fun e w' => e = .returned (.bool true) ∧ Below w.heap.size w w' := by
  have HA0 := TwS.made w ft gt fn gn s1 s2 t1 t2
  obtain ⟨Wa, hWa⟩ : ∃ Wa, Wa = (((w.alloc (.cells #[str ft, .int .i64 fn] 23)).alloc (.cells #[str gt, .int .i64 gn] 23)).alloc (.cells #[.int .i64 s1, .int .i64 s2] 27)).alloc (.cells #[.int .i64 t1, .int .i64 t2] 27) := ⟨_, rfl⟩
  rw [← hWa] at HA0
  have HA := Lib.hid HA0
  have TB : Hid (∀ W, Below w.heap.size w W → TabJ W.heap.size W) := Lib.hid (fun W hb w' h' => ht w' (hb.trans (h'.mono hb.size)))
  have FST : Hid (∀ W, Calls Tryz.prog 6 #[] W fun e w' => e = .returned (.bool true) ∧ Below W.heap.size W w') := Lib.hid mkfirst_any
  have CPF : Hid (∀ (t : List UInt8) (n : Int) W, Below w.heap.size w W → Calls Tryz.prog 7 #[.agg #[str t, .int .i64 n]] W fun e w' => e = .returned (.tuple #[str (putFeedR t n).1, .int .i64 (putFeedR t n).2]) ∧ Below W.heap.size W w') := Lib.hid (fun t n W h => putFeed_any t n W (TB.out W h))
  have CPS : Hid (∀ (x y : Int) W, Below w.heap.size w W → Calls Tryz.prog 10 #[.agg #[.int .i64 x, .int .i64 y]] W fun e w' => e = .returned (.tuple #[str (putStateR x y).1, .int .i64 (putStateR x y).2]) ∧ Below W.heap.size W w') := Lib.hid (fun t n W h => putState_any t n W (TB.out W h))
  have CPB1 : Hid (∀ W, Below w.heap.size w W → Calls Tryz.prog 9 #[str a] W fun e w' => e = .returned (.tuple #[str (putSubR a).1, .int .i64 (putSubR a).2]) ∧ Below W.heap.size W w') := Lib.hid (fun W h => putSub_any a W ha (TB.out W h))
  have CPB2 : Hid (∀ W, Below w.heap.size w W → Calls Tryz.prog 9 #[str b] W fun e w' => e = .returned (.tuple #[str (putSubR b).1, .int .i64 (putSubR b).2]) ∧ Below W.heap.size W w') := Lib.hid (fun W h => putSub_any b W hb (TB.out W h))
  have C1 := Lib.hid (FST.out Wa)
  clear ha hb ht HA0
  obtain ⟨k1, r1⟩ : ∃ s, wrap64 ((ft.length : Int) + (gt.length : Int)) = s := ⟨_, rfl⟩
  obtain ⟨k2, r2⟩ : ∃ s, wrap64 (k1 + (a.length : Int)) = s := ⟨_, rfl⟩
  obtain ⟨k3, r3⟩ : ∃ s, wrap64 (k2 + (b.length : Int)) = s := ⟨_, rfl⟩
  by_cases h2 : 20000 < k3
  · have z1 : decide (20000 < k3) = true := decide_eq_true h2
    go_enter Tryz.func4, Tryz.ntmps4
    go_wp2_with fail
    rw [← hWa]
    refine C1.out.mono ?_
    rintro e w1 ⟨rfl, hb1⟩
    have H1 := Lib.hid (HA.out.up hb1)
    clear hb1 C1 hWa HA
    have p0 := box_cell H1.out.b6 0
    have q0 := box_cell H1.out.b7 0
    have CF := Lib.hid (FST.out w1)
    go_wp2_with fail
    refine CF.out.mono ?_
    rintro e w99 ⟨rfl, hb99⟩
    have HX := Lib.hid (H1.out.hb.trans (hb99.mono H1.out.hb.size))
    clear hb99 CF
    go_wp2_with fail
    go_ret
    exact ⟨rfl, HX.out⟩
  · have z1 : decide (20000 < k3) = false := decide_eq_false h2
    have gF := fun h h' => feed_two (t := ft) (n := fn) (t' := gt) (n' := gn) h h'
    have gS := fun h h' => state_two (a := s1) (b := s2) (a' := t1) (b' := t2) h h'
    have gB := fun h h' => sub_two (s := a) (s' := b) h h'
    have lF := feed_short ft fn
    have lS := state_short s1 s2
    have lB := sub_short a
    have C2 := fun W h => CPF.out ft fn W h
    have C3 := fun W h => CPF.out gt gn W h
    have C4 := fun W h => CPS.out s1 s2 W h
    have C5 := fun W h => CPS.out t1 t2 W h
    have C6 := CPB1.out
    have C7 := CPB2.out
    generalize putFeedR ft fn = rF at gF lF C2
    generalize putFeedR gt gn = rG at gF C3
    generalize putStateR s1 s2 = rS at gS lS C4
    generalize putStateR t1 t2 = rT at gS C5
    generalize putSubR a = rA at gB lB C6
    generalize putSubR b = rB at gB C7
    obtain ⟨x, e1⟩ := rF
    obtain ⟨y, e2⟩ := rG
    obtain ⟨u, e3⟩ := rS
    obtain ⟨v, e4⟩ := rT
    obtain ⟨p, e5⟩ := rA
    obtain ⟨q, e6⟩ := rB
    dsimp only at gF gS gB lF lS lB C2 C3 C4 C5 C6 C7
    have qF := feed_eql ft gt fn gn
    have qS := state_eql s1 s2 t1 t2
    have CGF : Hid (∀ W, Below w.heap.size w W → Calls Tryz.prog 12 #[str (x ++ [32])] W fun e w' => e = .returned (.tuple #[.agg #[str [], .int .i64 0], .bool false]) ∧ Below W.heap.size W w') := Lib.hid (fun W h => getFeed_no x W lF (TB.out W h))
    have CGS : Hid (∀ W, Below w.heap.size w W → Calls Tryz.prog 15 #[str (32 :: u)] W fun e w' => e = .returned (.tuple #[.agg #[.int .i64 0, .int .i64 0], .bool false]) ∧ Below W.heap.size W w') := Lib.hid (fun W h => getState_no u W lS (TB.out W h))
    have CGB : Hid (∀ W, Below w.heap.size w W → Calls Tryz.prog 14 #[str (p ++ [10])] W fun e w' => e = .returned (.tuple #[str [], .bool false]) ∧ Below W.heap.size W w') := Lib.hid (fun W h => getSub_no p W lB (TB.out W h))
    have lF' : ¬ 9223372036854775807 < x.length + 1 := by omega
    have lS' : ¬ 9223372036854775807 < u.length + 1 := by omega
    have lS2 : ¬ 9223372036854775807 < 1 + u.length := by omega
    have lB' : ¬ 9223372036854775807 < p.length + 1 := by omega
    generalize decide (ft = gt ∧ fn = gn) = YF at gF qF
    generalize decide (s1 = t1 ∧ s2 = t2) = YS at gS qS
    obtain ⟨YB, hYB⟩ : ∃ Y, Y = (a == b) := ⟨_, rfl⟩
    have gB : e5 = 0 → e6 = 0 → (p == q) = YB := fun h h' => by
      rw [gB h h', hYB]
      by_cases hab : a = b
      · subst hab; simp
      · rw [decide_eq_false hab]; simpa using hab
    have WAY := Lib.hid (And.intro (two_way gF) (And.intro (two_way gS) (two_way gB)))
    have HYB := Lib.hid hYB.symm
    have HLL := Lib.hid (And.intro lF' (And.intro lS' (And.intro lS2 lB')))
    have HQ := Lib.hid (And.intro qF qS)
    replace C2 := Lib.hid C2
    replace C3 := Lib.hid C3
    replace C4 := Lib.hid C4
    replace C5 := Lib.hid C5
    replace C6 := Lib.hid C6
    replace C7 := Lib.hid C7
    clear gF gS gB lF lS lB CPF CPS CPB1 CPB2 lF' lS' lS2 lB' hYB qF qS TB
    go_enter Tryz.func4, Tryz.ntmps4
    go_wp2_with fail
    rw [← hWa]
    refine C1.out.mono ?_
    rintro e w1 ⟨rfl, hb1⟩
    have H1 := Lib.hid (HA.out.up hb1)
    clear hb1 C1 hWa HA
    have p0 := box_cell H1.out.b6 0
    have q0 := box_cell H1.out.b7 0
    have p1 := box_cell H1.out.b6 1
    replace C2 := Lib.hid (C2.out w1 H1.out.hb)
    go_wp2_with fail
    refine C2.out.mono ?_
    rintro e w2 ⟨rfl, hb2⟩
    have H2 := Lib.hid (H1.out.up hb2)
    clear hb2 C2 H1 p0 q0 p1
    have q0 := box_cell H2.out.b7 0
    have q1 := box_cell H2.out.b7 1
    replace C3 := Lib.hid (C3.out w2 H2.out.hb)
    go_wp2_with fail
    refine C3.out.mono ?_
    rintro e w3 ⟨rfl, hb3⟩
    have H3 := Lib.hid (H2.out.up hb3)
    clear hb3 C3 H2 q0 q1
    have p0 := box_cell H3.out.b8 0
    have p1 := box_cell H3.out.b8 1
    replace C4 := Lib.hid (C4.out w3 H3.out.hb)
    go_wp2_with fail
    refine C4.out.mono ?_
    rintro e w4 ⟨rfl, hb4⟩
    have H4 := Lib.hid (H3.out.up hb4)
    clear hb4 C4 H3 p0 p1
    have p0 := box_cell H4.out.b9 0
    have p1 := box_cell H4.out.b9 1
    replace C5 := Lib.hid (C5.out w4 H4.out.hb)
    go_wp2_with fail
    refine C5.out.mono ?_
    rintro e w5 ⟨rfl, hb5⟩
    have H5 := Lib.hid (H4.out.up hb5)
    clear hb5 C5 H4 p0 p1
    replace C6 := Lib.hid (C6.out w5 H5.out.hb)
    go_wp2_with fail
    refine C6.out.mono ?_
    rintro e w6 ⟨rfl, hb6⟩
    have H6 := Lib.hid (H5.out.up hb6)
    clear hb6 C6 H5
    replace C7 := Lib.hid (C7.out w6 H6.out.hb)
    go_wp2_with fail
    refine C7.out.mono ?_
    rintro e w7 ⟨rfl, hb7⟩
    have H7 := Lib.hid (H6.out.up hb7)
    clear hb7 C7 H6
    go_upto_region 11 with fail
    go_cut [126] from 78 to 126 (fun v126 wc => v126 = .bool false ∧ w7 = wc)
    case first =>
      have p0 := box_cell H7.out.b6 0
      have p1 := box_cell H7.out.b6 1
      have q0 := box_cell H7.out.b7 0
      have q1 := box_cell H7.out.b7 1
      have r0 := box_cell H7.out.b8 0
      have r1 := box_cell H7.out.b8 1
      have o0 := box_cell H7.out.b9 0
      have o1 := box_cell H7.out.b9 1
      have qF := HQ.out.1
      have qS := HQ.out.2
      have qB := HYB.out
      obtain ⟨wF, wS, wB⟩ := WAY.out
      clear HQ HYB WAY HLL
      rcases wF with e1 | ⟨e1, e2⟩ | ⟨e1, e2, cF, hF, rfl⟩ <;> rcases wS with e3 | ⟨e3, e4⟩ | ⟨e3, e4, cS, hS, rfl⟩ <;> rcases wB with e5 | ⟨e5, e6⟩ | ⟨e5, e6, cB, hB, rfl⟩
      all_goals
        go_wp2_with fail
        go_meet
        case rel => exact ⟨rfl, rfl⟩
    case rest =>
    obtain ⟨rfl, rfl⟩ := hcut
    have lF := HLL.out.1
    have lS := HLL.out.2.1
    have lS2 := HLL.out.2.2.1
    have lB := HLL.out.2.2.2
    clear HLL WAY HQ HYB
    replace CGF := Lib.hid (CGF.out w7 H7.out.hb)
    go_wp2_with fail
    refine CGF.out.mono ?_
    rintro e w8 ⟨rfl, hb8⟩
    have H8 := Lib.hid (H7.out.up hb8)
    clear hb8 CGF H7
    go_wp2_with fail
    obtain ⟨W8, hW8⟩ : ∃ W8, W8 = w8.alloc (.cells #[.string ⟨#[]⟩, .int .i64 0] 23) := ⟨_, rfl⟩
    have hx8 : Below w8.heap.size w8 W8 := by rw [hW8]; exact below_alloc _ _
    rw [← hW8]
    have H9 := Lib.hid (H8.out.up hx8)
    clear hx8 hW8 H8
    replace CGS := Lib.hid (CGS.out W8 H9.out.hb)
    refine CGS.out.mono ?_
    rintro e w9 ⟨rfl, hb9⟩
    have H10 := Lib.hid (H9.out.up hb9)
    clear hb9 CGS H9
    go_wp2_with fail
    obtain ⟨W9, hW9⟩ : ∃ W9, W9 = w9.alloc (.cells #[.int .i64 0, .int .i64 0] 27) := ⟨_, rfl⟩
    have hx9 : Below w9.heap.size w9 W9 := by rw [hW9]; exact below_alloc _ _
    rw [← hW9]
    have H11 := Lib.hid (H10.out.up hx9)
    clear hx9 hW9 H10
    replace CGB := Lib.hid (CGB.out W9 H11.out.hb)
    refine CGB.out.mono ?_
    rintro e w10 ⟨rfl, hb10⟩
    have H12 := Lib.hid (H11.out.up hb10)
    clear hb10 CGB H11
    replace FST := Lib.hid (FST.out w10)
    go_wp2_with fail
    refine FST.out.mono ?_
    rintro e w11 ⟨rfl, hb11⟩
    have HX := Lib.hid (H12.out.hb.trans (hb11.mono H12.out.hb.size))
    clear hb11 FST H12
    go_wp2_with fail
    go_ret
    exact ⟨rfl, HX.out⟩
end Go.Proofs.YtegblhmcfemfgaaGreatDoor
namespace Go.Proofs.YtegblhmcfemfgaaGreatDoor
open Go.ChangeShapes Go.WideShapes Go.ChangeAt Go.RowKit

theorem wf_u8 {x : Int} (h : (Lit.int .u8 x).wf = true) : 0 ≤ x ∧ x < 256 := by
  have h1 : IntKind.u8.min = 0 := rfl
  have h2 : IntKind.u8.max = 255 := rfl
  simp only [Lit.wf, Bool.and_eq_true, decide_eq_true_eq] at h
  omega
theorem wf_i64 {x : Int} (h : (Lit.int .i64 x).wf = true) : -9223372036854775808 ≤ x ∧ x ≤ 9223372036854775807 := by
  have h1 : IntKind.i64.min = -9223372036854775808 := rfl
  have h2 : IntKind.i64.max = 9223372036854775807 := rfl
  simp only [Lit.wf, Bool.and_eq_true, decide_eq_true_eq] at h
  omega

/-- A slice of bytes that came in, nil or not, reads as some bytes. -/
theorem rd_open {H : Type} {enc : TypeId × Value → H} {P : Program} {t e : TypeId} (ht : P.underlying t = some (.slice e)) (he : P.underlying e = some (.int .u8)) (hc : P.cellsOf e = 1) {W : World} {a0 : Option Addr} {len cap : Nat} {d : DataW H} {p : List MemPlace}
    (h : DataW.Trod enc P W 0 (fun _ => true) true t (.slice a0 len cap) d p) : ∃ l : List UInt8, Rd W (.slice a0 len cap) l := by
  obtain ⟨fuel, hf⟩ := h
  rcases open_ints ht he hc hf with ⟨hcs, _⟩ | ⟨x, l, c, zs, hcs, _, hl, hm, hz, _, hcell, hwz⟩
  · simp [Value.cells] at hcs
    obtain ⟨rfl, rfl, rfl⟩ := hcs
    exact ⟨[], Rd.nil W⟩
  · simp [Value.cells] at hcs
    obtain ⟨rfl, rfl, rfl⟩ := hcs
    have hz' : zs.length = cap := by simpa using hz
    have hlen : ((zs.take len).map fun n => UInt8.ofNat n.toNat).length = len := by simp; omega
    refine ⟨(zs.take len).map fun n => UInt8.ofNat n.toNat, some x, cap, by rw [hlen], by omega, hm, (fun h => by cases h), fun hne => ?_⟩
    have hpos : 0 < zs.length := by
      rcases Nat.eq_zero_or_pos zs.length with h0 | h0
      · exfalso; apply hne; rw [List.eq_nil_of_length_eq_zero h0]; simp
      · exact h0
    obtain ⟨b, off, spot⟩ := x
    have hspot : spot = none := by simpa [Addr.add] using World.cell?_spot (hcell 0 hpos)
    subst hspot
    refine ⟨b, off, rfl, fun i hi => ?_⟩
    have hi' : i < len := by rw [hlen] at hi; exact hi
    have hiz : i < zs.length := by omega
    have := hcell i hiz
    rw [Addr.add_lit] at this
    rw [this]
    have hw := wf_u8 (hwz zs[i] (List.getElem_mem hiz))
    simp only [List.getElem_map, List.getElem_take, bv, UInt8.toNat_ofNat', List.getD_eq_getElem?_getD, List.getElem?_eq_getElem hiz, Option.getD_some]
    congr 2
    omega
end Go.Proofs.YtegblhmcfemfgaaGreatDoor
namespace Go.Proofs.YtegblhmcfemfgaaGreatDoor
open Go.ChangeShapes Go.WideShapes Go.ChangeAt Go.RowKit Go.Deep

theorem array2 {α : Type} {cs : Array α} (h : cs.size = 2) : ∃ c0 c1, cs = #[c0, c1] := by
  obtain ⟨l⟩ := cs
  match l, h with
  | [c0, c1], _ => exact ⟨c0, c1, rfl⟩
theorem mark_open {H : Type} {enc : TypeId × Value → H} {P : Program} {W : World} {base : Nat} {T : TypeId} {n0 n1 : Field} {v : Value} {d : DataW H} {p : List MemPlace} (hs : P.underlying T = some (.struct #[n0, n1])) (hc : P.cellsOf T = 2)
    (o : (n0.offset = 0 ∧ n1.offset = 1) ∧ P.cellsOf n0.type = 1 ∧ P.cellsOf n1.type = 1) (u0 : P.underlying n0.type = some (.int .i64)) (u1 : P.underlying n1.type = some (.int .i64))
    (hv : Value.okWide P W .any base T v) (h : DataW.Trod enc P W 0 (fun _ => true) true T v d p) : ∃ q : MarkT, v = .agg #[.int .i64 q.1, .int .i64 q.2] ∧ (-9223372036854775808 ≤ q.1 ∧ q.1 ≤ 9223372036854775807) ∧ (-9223372036854775808 ≤ q.2 ∧ q.2 ≤ 9223372036854775807) := by
  obtain ⟨cs, rfl, hsz⟩ := okWide_struct hs hv
  obtain ⟨c0, c1, rfl⟩ := array2 (hsz.trans hc)
  obtain ⟨fuel, hf⟩ := h
  obtain ⟨xs, n, _, _, hl, hlen, hx⟩ := DataW.trod_struct hs hf
  obtain ⟨⟨o0, o1⟩, k0, k1⟩ := o
  match xs, hlen with
  | [y0, y1], _ =>
    have h0 := hx 0 n0 rfl
    have h1 := hx 1 n1 rfl
    simp only [o0, o1, k0, k1, Value.cells, List.drop_succ_cons, List.drop_zero, List.take_succ_cons, List.take_zero] at h0 h1
    obtain ⟨i0, e0, _, w0⟩ := DataW.trod_int u0 h0
    obtain ⟨i1, e1, _, w1⟩ := DataW.trod_int u1 h1
    simp only [List.cons.injEq, and_true] at e0 e1
    subst e0 e1
    exact ⟨(i0, i1), rfl, wf_i64 w0, wf_i64 w1⟩
theorem marks_open {H : Type} {enc : TypeId × Value → H} {P : Program} {t e : TypeId} {f0 f1 : Field} (ht : P.underlying t = some (.slice e)) (he : P.underlying e = some (.struct #[f0, f1])) (ce : P.cellsOf e = 2)
    (o : (f0.offset = 0 ∧ f1.offset = 1) ∧ P.cellsOf f0.type = 1 ∧ P.cellsOf f1.type = 1)
    (u0 : P.underlying f0.type = some (.int .i64)) (u1 : P.underlying f1.type = some (.int .i64)) {W : World} {a0 : Option Addr} {len cap : Nat} {d : DataW H} {p : List MemPlace}
    (h : DataW.Trod enc P W 0 (fun _ => true) true t (.slice a0 len cap) d p) : ∃ l : List MarkT, RdMk W (.slice a0 len cap) l ∧ (a0 = none → cap = 0) ∧ ∀ x ∈ l, (-9223372036854775808 ≤ x.1 ∧ x.1 ≤ 9223372036854775807) ∧ (-9223372036854775808 ≤ x.2 ∧ x.2 ≤ 9223372036854775807) := by
  obtain ⟨⟨o0, o1⟩, c0, c1⟩ := o
  obtain ⟨fuel, hf⟩ := h
  rcases Go.Deep.open_slice ht hf with ⟨hcs, _⟩ | ⟨x, n, c, m, _, D, Pl, hcs, _, hl, hm, hmm, _, hx⟩
  · simp [Value.cells] at hcs
    obtain ⟨rfl, rfl, rfl⟩ := hcs
    exact ⟨[], ⟨none, 0, rfl, by simp, by simp, by simp, fun h => absurd rfl h⟩, fun _ => rfl, by simp⟩
  · simp [Value.cells] at hcs
    obtain ⟨rfl, rfl, rfl⟩ := hcs
    have hmc : m = cap := by simpa using hmm
    have each : ∀ i, i < m → ∃ q : MarkT, ((-9223372036854775808 ≤ q.1 ∧ q.1 ≤ 9223372036854775807) ∧ (-9223372036854775808 ≤ q.2 ∧ q.2 ≤ 9223372036854775807)) ∧ W.cell? (x.add (i * 2)) = some (.int .i64 q.1) ∧ W.cell? (x.add (i * 2 + 1)) = some (.int .i64 q.2) := by
      intro i hi
      obtain ⟨cs', h1, h2⟩ := hx i hi
      rw [ce] at h1
      obtain ⟨_, hlen, hcell⟩ := World.cells?_some h1
      obtain ⟨xs, k, hk, hxy, _, hxl, hf⟩ := DataW.trod_struct he h2
      match xs, hxl, cs', hlen with
      | [y0, y1], _, [v0, v1], _ =>
        have g0 := hf 0 f0 rfl
        have g1 := hf 1 f1 rfl
        simp [o0, o1, c0, c1] at g0 g1
        obtain ⟨z0, e0, _, w0⟩ := DataW.trod_int u0 g0
        obtain ⟨z1, e1, _, w1⟩ := DataW.trod_int u1 g1
        simp only [List.cons.injEq, and_true] at e0 e1
        subst e0; subst e1
        have k0 := hcell 0 (by omega)
        have k1 := hcell 1 (by omega)
        rw [Go.Deep.add_add] at k0 k1
        exact ⟨(z0, z1), ⟨wf_i64 w0, wf_i64 w1⟩, by simpa using k0, by simpa using k1⟩
    obtain ⟨q, hq⟩ := Go.Deep.choose_lt each
    refine ⟨(List.range len).map q, ⟨some x, cap, by simp, by simp; simp only [maxLen] at hm; omega, by simp; omega, by simp only [maxLen] at hm; omega, fun hne => ?_⟩, (fun h => by cases h), fun y hy => ?_⟩
    · have hpos : 0 < len := by
        rcases Nat.eq_zero_or_pos len with h0 | h0
        · exfalso; apply hne; rw [h0]; simp
        · exact h0
      obtain ⟨b, off, spot⟩ := x
      have hspot : spot = none := by simpa [Addr.add] using World.cell?_spot (hq 0 (by omega)).2.1
      subst hspot
      refine ⟨b, off, rfl, fun i hi j u hu => ?_⟩
      have hi' : i < len := by simpa using hi
      have := (hq i (by omega)).2
      simp only [Addr.add_lit] at this
      simp only [List.getElem_map, List.getElem_range] at hu
      match j, hu with
      | 0, hu => simp [cellsM] at hu; subst hu; exact this.1
      | 1, hu => simp [cellsM] at hu; subst hu; exact this.2
      | (j + 2), hu => simp [cellsM] at hu
    · obtain ⟨i, hi, rfl⟩ := List.mem_map.1 hy
      exact (hq i (by have := List.mem_range.1 hi; omega)).1
end Go.Proofs.YtegblhmcfemfgaaGreatDoor
namespace Go.Proofs.YtegblhmcfemfgaaGreatDoor
open Go.ChangeShapes Go.WideShapes Go.ChangeAt Go.RowKit Go.Deep

theorem feed_open {H : Type} {enc : TypeId × Value → H} {P : Program} {W : World} {base : Nat} {T : TypeId} {n0 n1 : Field} {v : Value} {d : DataW H} {p : List MemPlace} (hs : P.underlying T = some (.struct #[n0, n1])) (hc : P.cellsOf T = 2)
    (o : (n0.offset = 0 ∧ n1.offset = 1) ∧ P.cellsOf n0.type = 1 ∧ P.cellsOf n1.type = 1) (u0 : P.underlying n0.type = some .string) (u1 : P.underlying n1.type = some (.int .i64))
    (hv : Value.okWide P W .any base T v) (h : DataW.Trod enc P W 0 (fun _ => true) true T v d p) : ∃ (t : List UInt8) (n : Int), v = .agg #[str t, .int .i64 n] ∧ t.length ≤ 9223372036854775807 ∧ (-9223372036854775808 ≤ n ∧ n ≤ 9223372036854775807) := by
  obtain ⟨cs, rfl, hsz⟩ := okWide_struct hs hv
  obtain ⟨c0, c1, rfl⟩ := array2 (hsz.trans hc)
  obtain ⟨fuel, hf⟩ := h
  obtain ⟨xs, n, _, _, hl, hlen, hx⟩ := DataW.trod_struct hs hf
  obtain ⟨⟨o0, o1⟩, k0, k1⟩ := o
  match xs, hlen with
  | [y0, y1], _ =>
    have h0 := hx 0 n0 rfl
    have h1 := hx 1 n1 rfl
    simp only [o0, o1, k0, k1, Value.cells, List.drop_succ_cons, List.drop_zero, List.take_succ_cons, List.take_zero] at h0 h1
    obtain ⟨i0, e0, _, w0⟩ := DataW.trod_string u0 h0
    obtain ⟨i1, e1, _, w1⟩ := DataW.trod_int u1 h1
    simp only [List.cons.injEq, and_true] at e0 e1
    subst e0 e1
    have g0 : i0.data.toList.length ≤ 9223372036854775807 := by
      have e : i0.data.toList.length = i0.size := by cases i0; rfl
      rw [e]; unfold maxLen at w0; exact w0
    exact ⟨i0.data.toList, i1, by cases i0; rfl, g0, wf_i64 w1⟩
end Go.Proofs.YtegblhmcfemfgaaGreatDoor
namespace Go.Proofs.YtegblhmcfemfgaaGreatDoor
open Go.RowKit

theorem two_main (ft : List UInt8) (fn : Int) (gt : List UInt8) (gn s1 s2 t1 t2 : Int) (a b : ByteArray) (w : World) (_ : ft.length ≤ 9223372036854775807) (_ : -9223372036854775808 ≤ fn ∧ fn ≤ 9223372036854775807) (_ : gt.length ≤ 9223372036854775807) (_ : -9223372036854775808 ≤ gn ∧ gn ≤ 9223372036854775807)
    (_ : -9223372036854775808 ≤ s1 ∧ s1 ≤ 9223372036854775807) (_ : -9223372036854775808 ≤ s2 ∧ s2 ≤ 9223372036854775807) (_ : -9223372036854775808 ≤ t1 ∧ t1 ≤ 9223372036854775807) (_ : -9223372036854775808 ≤ t2 ∧ t2 ≤ 9223372036854775807) (ha : a.size ≤ maxLen) (hb : b.size ≤ maxLen) (ht : TabJ w.heap.size w) :
    Calls Tryz.prog 4 #[.agg #[str ft, .int .i64 fn], .agg #[str gt, .int .i64 gn], .agg #[.int .i64 s1, .int .i64 s2], .agg #[.int .i64 t1, .int .i64 t2], .string a, .string b] w fun e w' => e = .returned (.bool true) ∧ Below w.heap.size w w' := by
  obtain ⟨⟨l⟩⟩ := a
  obtain ⟨⟨m⟩⟩ := b
  exact two_walk ft gt fn gn s1 s2 t1 t2 l m w (by unfold maxLen at ha; exact ha) (by unfold maxLen at hb; exact hb) ht
end Go.Proofs.YtegblhmcfemfgaaGreatDoor
