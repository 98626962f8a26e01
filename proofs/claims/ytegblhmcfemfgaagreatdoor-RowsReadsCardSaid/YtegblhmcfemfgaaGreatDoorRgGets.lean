import Derived.Test.YtegblhmcfemfgaaGreatDoorWTake
import Derived.Test.YtegblhmcfemfgaaGreatDoorRjRows0
import Derived.Test.YtegblhmcfemfgaaGreatDoorRwEnt
import Derived.Deep.RegionHeld
import Derived.Test.YtegblhmcfemfgaaGreatDoorRwMkP
import Derived.Test.YtegblhmcfemfgaaGreatDoorMkMay
import Derived.Deep.AppendLies
import Derived.Test.YtegblhmcfemfgaaGreatDoorRgPart
import Derived.Test.YtegblhmcfemfgaaGreatDoorRwEntG
set_option maxRecDepth 100000
set_option maxHeartbeats 16000000
namespace Go.Proofs.YtegblhmcfemfgaaGreatDoor
open Go.RowKit
theorem ent_st {g l t : List UInt8} {n : Int} (hg : g.length ≤ 9223372036854775807) (hl : l.length ≤ 9223372036854775807) (ht : t.length ≤ 9223372036854775807) : stM (entMs g l t n) := by
 unfold entMs
 simp [stM, stV, stL, guidN, linkN, titleN, whenN, hg, hl, ht]
theorem ent_lenM {g l t : List UInt8} {n : Int} (h : mayV (.mk 7 0 [] [] (entMs g l t n)) 64 = true) : (prV (.mk 7 0 [] [] (entMs g l t n))).length ≤ 1000000 := by
 have hm := mayM_mem (may_parts h).2.2.2.2
 have hx : txF g = true := (may_parts (hm (guidN, .mk 5 0 g [] []) (by show _ ∈ entMs g l t n; simp [entMs])).2).2.2.1
 have hy : txF l = true := (may_parts (hm (linkN, .mk 5 0 l [] []) (by show _ ∈ entMs g l t n; simp [entMs])).2).2.2.1
 have hz : txF t = true := (may_parts (hm (titleN, .mk 5 0 t [] []) (by show _ ∈ entMs g l t n; simp [entMs])).2).2.2.1
 have hn : -9007199254740991 ≤ n ∧ n ≤ 9007199254740991 := (may_parts (hm (whenN, .mk 4 n [] [] []) (by show _ ∈ entMs g l t n; simp [entMs])).2).2.1
 have h1 := quo_len g hx
 have h1b := quo_len l hy
 have h1c := quo_len t hz
 have q1 : (quo guidN).length = 6 := by decide
 have q2 : (quo linkN).length = 6 := by decide
 have q3 : (quo titleN).length = 7 := by decide
 have q4 : (quo whenN).length = 6 := by decide
 have h4 := itoa_len (n := n) (by omega)
 have e1 : prV (.mk 5 0 g [] []) = quo g := rfl
 have e2 : prV (.mk 5 0 l [] []) = quo l := rfl
 have e3 : prV (.mk 5 0 t [] []) = quo t := rfl
 have e4 : prV (.mk 4 n [] [] []) = Lib.itoa n := rfl
 have e : prV (.mk 7 0 [] [] (entMs g l t n)) = 123 :: ((prU (entMs g l t n)).drop 1 ++ [125]) := rfl
 rw [e]
 simp [entMs, prU, e1, e2, e3, e4, q1, q2, q3, q4]
 omega
theorem rpPutEntry_pr (g : List UInt8) (t : List UInt8) (l : List UInt8) (n : Int) (hg : g.length ≤ 9223372036854775807) (hl : l.length ≤ 9223372036854775807) (ht : t.length ≤ 9223372036854775807) {W1 : World} (ok : Bool) (W : World) (B : Nat) (h : ObjAt W1 #[str [103, 117, 105, 100], .int .i64 5, .int .i64 0, str g, .slice none 0 0, .slice none 0 0, str [108, 105, 110, 107], .int .i64 5, .int .i64 0, str l, .slice none 0 0, .slice none 0 0, str [116, 105, 116, 108, 101], .int .i64 5, .int .i64 0, str t, .slice none 0 0, .slice none 0 0, str [119, 104, 101, 110], .int .i64 4, .int .i64 n, str [], .slice none 0 0, .slice none 0 0] B W) : Calls Tryz.prog 61 #[.agg #[.int .i64 7, .int .i64 0, str [], .slice none 0 0, .slice (some ⟨B, 0, none⟩) 4 4], .bool ok] W fun e w' => e = .returned (.tuple #[str (refO (entMs g l t n) ok).1, .int .i64 (refO (entMs g l t n) ok).2]) ∧ Below W1.heap.size W1 w' := by
 refine (rprinted_any (entMs g l t n) ok (ent_st hg hl ht) ent_lenM (fun _ => True) W _ (RdJ.mk0 (v := .mk 7 0 [] [] (entMs g l t n)) (RdFB.nil _ _ _) (by unfold RdL; trivial) (RdFB.lit6 [[str [103, 117, 105, 100], .int .i64 5, .int .i64 0, str g, .slice none 0 0, .slice none 0 0], [str [108, 105, 110, 107], .int .i64 5, .int .i64 0, str l, .slice none 0 0, .slice none 0 0], [str [116, 105, 116, 108, 101], .int .i64 5, .int .i64 0, str t, .slice none 0 0, .slice none 0 0], [str [119, 104, 101, 110], .int .i64 4, .int .i64 n, str [], .slice none 0 0, .slice none 0 0]] (by simp) h.2 rfl (by simp) trivial) (by
  show RdM W (fun _ => True) (entMs g l t n) _
  unfold entMs RdM
  refine ⟨⟨_, rfl, plainJ _ _ _ _ _⟩, ?_⟩
  unfold RdM
  refine ⟨⟨_, rfl, plainJ _ _ _ _ _⟩, ?_⟩
  unfold RdM
  refine ⟨⟨_, rfl, plainJ _ _ _ _ _⟩, ?_⟩
  unfold RdM
  refine ⟨⟨_, rfl, plainJ _ _ _ _ _⟩, ?_⟩
  unfold RdM
  trivial))).mono ?_
 rintro e w' ⟨rfl, h'⟩
 exact ⟨rfl, h.1.trans (h'.mono h.1.size)⟩
def SBPutEntry (m : Int) (g : List UInt8) (t : List UInt8) (l : List UInt8) (n : Int) (w0 : Nat) (W : World) : Prop := W.cell? ⟨w0, 0, none⟩ = some (.int .i64 m) ∧ W.cell? ⟨w0, 1, none⟩ = some (str g) ∧ W.cell? ⟨w0, 2, none⟩ = some (str t) ∧ W.cell? ⟨w0, 3, none⟩ = some (str l) ∧ W.cell? ⟨w0, 4, none⟩ = some (.int .i64 n)
theorem sbpEntry {m : Int} {g : List UInt8} {t : List UInt8} {l : List UInt8} {n : Int} {W1 : World} {b0 : Nat} (hbx : W1.heap[b0]? = some (.cells #[.int .i64 m, str g, str t, str l, .int .i64 n] 25 (0, 0))) : ∀ W', Below W1.heap.size W1 W' → SBPutEntry m g t l n b0 W' := fun _ hb => ⟨(hb.cell (p := ⟨b0, 0, none⟩) (World.block_lt_of_cell? W1 _ (box_cell hbx 0))).trans (box_cell hbx 0), (hb.cell (p := ⟨b0, 1, none⟩) (World.block_lt_of_cell? W1 _ (box_cell hbx 1))).trans (box_cell hbx 1), (hb.cell (p := ⟨b0, 2, none⟩) (World.block_lt_of_cell? W1 _ (box_cell hbx 2))).trans (box_cell hbx 2), (hb.cell (p := ⟨b0, 3, none⟩) (World.block_lt_of_cell? W1 _ (box_cell hbx 3))).trans (box_cell hbx 3), (hb.cell (p := ⟨b0, 4, none⟩) (World.block_lt_of_cell? W1 _ (box_cell hbx 4))).trans (box_cell hbx 4)⟩
theorem rputPutEntry_0 (m : Int) (g : List UInt8) (t : List UInt8) (l : List UInt8) (n : Int) (w : World) (hg : g.length ≤ 9223372036854775807) (hl : l.length ≤ 9223372036854775807) (ht : t.length ≤ 9223372036854775807) (h0 : (g == []) = true) : Calls Tryz.prog 44 #[.agg #[.int .i64 m, str g, str t, str l, .int .i64 n]] w fun e w' => e = .returned (.tuple #[str (refO (entMs g l t n) false).1, .int .i64 (refO (entMs g l t n) false).2]) ∧ Below w.heap.size w w' := by
 obtain ⟨W1, hW1⟩ : ∃ W1, W1 = w.alloc (.cells #[.int .i64 m, str g, str t, str l, .int .i64 n] 25) := ⟨_, rfl⟩
 have hb1 : Below w.heap.size w W1 := by rw [hW1]; exact below_alloc _ _
 have hbx : W1.heap[w.heap.size]? = some (.cells #[.int .i64 m, str g, str t, str l, .int .i64 n] 25 (0, 0)) := by rw [hW1]; exact heap_alloc_new _ _
 have HKS := Lib.hid (sbpEntry hbx)
 have HW := Lib.hid hb1
 have CPX := Lib.hid (fun W B h => rpPutEntry_pr g t l n hg hl ht (W1 := W1) false W B h)
 obtain ⟨R1, hR1⟩ : ∃ R1, R1 = (refO (entMs g l t n) false).1 := ⟨_, rfl⟩
 obtain ⟨R2, hR2⟩ : ∃ R2, R2 = (refO (entMs g l t n) false).2 := ⟨_, rfl⟩
 rw [← hR1, ← hR2] at CPX
 rw [← hR1, ← hR2]
 clear hR1 hR2 hb1 hbx
 clear hg hl ht
 go_enter Tryz.func44, Tryz.ntmps44
 go_upto_region 1 with fail
 rw [← hW1]
 clear hW1
 have B0 := Lib.hid (show Below W1.heap.size W1 W1.drew from Below.drewsN (Below.refl _ _) 1)
 refine wp_region_held_drew (S := SBPutEntry m g t l n w.heap.size) (by kernel_rfl) (HKS.out _ B0.out) (fun hHeld => ?_)
 refine wtk 0 rfl ?_; go_simp
 refine wl0 1 rfl ?_; go_simp
 refine wtk 4 rfl ?_; go_simp
 refine wl0 5 rfl ?_; go_simp
 refine wtk 8 rfl ?_; go_simp
 refine wl0 9 rfl ?_; go_simp
 refine wtk 12 rfl ?_; go_simp
 refine wl0 13 rfl ?_; go_simp
 refine wtk 18 rfl ?_; go_simp
 refine wl0 19 rfl ?_; go_simp
 refine wtk 20 rfl ?_; go_simp
 refine wrd 2 rfl fun K hK => ?_
 go_simp
 refine (rtext1_any _ _).mono ?_
 rintro e w1 ⟨rfl, hb⟩
 have B1 := Lib.hid (B0.out.trans (hb.mono B0.out.size))
 clear hb
 go_simp
 refine hK.out _ _ (HKS.out _ B1.out) (fun hHeld => ?_)
 clear hK K
 refine wtk 3 rfl ?_; go_simp
 refine wrd 6 rfl fun K hK => ?_
 go_simp
 refine (rtext1_any _ _).mono ?_
 rintro e w2 ⟨rfl, hb⟩
 have B2 := Lib.hid (B1.out.trans (hb.mono B1.out.size))
 clear hb
 go_simp
 refine hK.out _ _ (HKS.out _ B2.out) (fun hHeld => ?_)
 clear hK K
 refine wtk 7 rfl ?_; go_simp
 refine wrd 10 rfl fun K hK => ?_
 go_simp
 refine (rtext1_any _ _).mono ?_
 rintro e w3 ⟨rfl, hb⟩
 have B3 := Lib.hid (B2.out.trans (hb.mono B2.out.size))
 clear hb
 go_simp
 refine hK.out _ _ (HKS.out _ B3.out) (fun hHeld => ?_)
 clear hK K
 refine wtk 11 rfl ?_; go_simp
 refine wrd 14 rfl fun K hK => ?_
 go_simp
 refine (rnum1_any _ _).mono ?_
 rintro e w4 ⟨rfl, hb⟩
 have B4 := Lib.hid (B3.out.trans (hb.mono B3.out.size))
 clear hb
 go_simp
 refine hK.out _ _ (HKS.out _ B4.out) (fun hHeld => ?_)
 clear hK K
 refine wtk 15 rfl ?_; go_simp
 refine wrd 16 rfl fun K hK => ?_
 go_simp
 have HO0 := Lib.hid (ObjAt.new (W1 := W1) #[str [103, 117, 105, 100], .int .i64 5, .int .i64 0, str g, .slice none 0 0, .slice none 0 0, str [108, 105, 110, 107], .int .i64 5, .int .i64 0, str l, .slice none 0 0, .slice none 0 0, str [116, 105, 116, 108, 101], .int .i64 5, .int .i64 0, str t, .slice none 0 0, .slice none 0 0, str [119, 104, 101, 110], .int .i64 4, .int .i64 n, str [], .slice none 0 0, .slice none 0 0] B4.out)
 have B5 := Lib.hid HO0.out.1
 refine hK.out _ _ (HKS.out _ B5.out) (fun hHeld => ?_)
 clear hK K
 refine wrd 17 rfl fun K hK => ?_
 go_simp
 refine (robj_any _ _ _ _).mono ?_
 rintro e w6 ⟨rfl, hb⟩
 have B6 := Lib.hid (B5.out.trans (hb.mono B5.out.size))
 have HO := Lib.hid (HO0.out.to B6.out hb)
 clear hb
 go_simp
 refine hK.out _ _ (HKS.out _ B6.out) (fun hHeld => ?_)
 clear hK K
 refine wtk 21 rfl ?_; go_simp
 refine wtu 22 rfl ?_; go_simp
 refine wtu 23 rfl ?_; go_simp
 refine wrd 24 rfl fun K hK => ?_
 go_simp
 refine hK.out _ _ (by assumption) (fun _ => ?_)
 clear hK K
 refine wtk 25 rfl ?_; go_simp
 refine wtk 26 rfl ?_; go_simp
 refine wtu 27 rfl ?_; go_simp
 refine wtu 28 rfl ?_; go_simp
 refine wrd 29 rfl fun K hK => ?_
 go_simp
 refine hK.out _ _ (by assumption) (fun _ => ?_)
 clear hK K
 refine wtk 30 rfl ?_; go_simp
 refine wtk 31 rfl ?_; go_simp
 refine wtu 32 rfl ?_; go_simp
 refine wtu 33 rfl ?_; go_simp
 refine wrd 34 rfl fun K hK => ?_
 go_simp
 refine hK.out _ _ (by assumption) (fun _ => ?_)
 clear hK K
 refine wtk 35 rfl ?_; go_simp
 refine wtk 36 rfl ?_; go_simp
 refine wtu 37 rfl ?_; go_simp
 refine wtu 38 rfl ?_; go_simp
 refine wtu 39 rfl ?_; go_simp
 refine wtk 40 rfl ?_; go_simp
 refine wtk 41 rfl ?_; go_simp
 refine wtu 42 rfl ?_; go_simp
 refine wtu 43 rfl ?_; go_simp
 refine wtu 44 rfl ?_; go_simp
 refine wtk 45 rfl ?_; go_simp
 refine wrd 46 rfl fun K hK => ?_
 go_simp
 refine (CPX.out _ _ HO.out).mono ?_
 rintro e w7 ⟨rfl, hb⟩
 have B7 := Lib.hid hb
 clear hb
 go_simp
 refine hK.out _ _ (HKS.out _ B7.out) (fun hHeld => ?_)
 clear hK K
 refine wtk 47 rfl ?_; go_simp
 refine wtk 48 rfl ?_; go_simp
 refine wtk 49 rfl ?_; go_simp
 refine wtk 50 rfl ?_; go_simp
 refine wpAnyH_done (by kernel_rfl) ?_ _
 have HX := Lib.hid (HW.out.trans (B7.out.mono HW.out.size))
 clear HKS CPX
 go_wp2_with fail
 go_ret2
 exact ⟨rfl, HX.out⟩
theorem rputPutEntry_1 (m : Int) (g : List UInt8) (t : List UInt8) (l : List UInt8) (n : Int) (w : World) (hg : g.length ≤ 9223372036854775807) (hl : l.length ≤ 9223372036854775807) (ht : t.length ≤ 9223372036854775807) (h0 : (g == []) = false) (s1 : shortB g = false) : Calls Tryz.prog 44 #[.agg #[.int .i64 m, str g, str t, str l, .int .i64 n]] w fun e w' => e = .returned (.tuple #[str (refO (entMs g l t n) false).1, .int .i64 (refO (entMs g l t n) false).2]) ∧ Below w.heap.size w w' := by
 obtain ⟨W1, hW1⟩ : ∃ W1, W1 = w.alloc (.cells #[.int .i64 m, str g, str t, str l, .int .i64 n] 25) := ⟨_, rfl⟩
 have hb1 : Below w.heap.size w W1 := by rw [hW1]; exact below_alloc _ _
 have hbx : W1.heap[w.heap.size]? = some (.cells #[.int .i64 m, str g, str t, str l, .int .i64 n] 25 (0, 0)) := by rw [hW1]; exact heap_alloc_new _ _
 have HKS := Lib.hid (sbpEntry hbx)
 have HW := Lib.hid hb1
 have CS1 := Lib.hid (fun W => by have h0 := rshort_any g W hg; rw [show shortB g = false from s1] at h0; exact h0)
 have CPX := Lib.hid (fun W B h => rpPutEntry_pr g t l n hg hl ht (W1 := W1) false W B h)
 obtain ⟨R1, hR1⟩ : ∃ R1, R1 = (refO (entMs g l t n) false).1 := ⟨_, rfl⟩
 obtain ⟨R2, hR2⟩ : ∃ R2, R2 = (refO (entMs g l t n) false).2 := ⟨_, rfl⟩
 rw [← hR1, ← hR2] at CPX
 rw [← hR1, ← hR2]
 clear hR1 hR2 hb1 hbx
 clear hg hl ht s1
 go_enter Tryz.func44, Tryz.ntmps44
 go_upto_region 1 with fail
 rw [← hW1]
 clear hW1
 have B0 := Lib.hid (show Below W1.heap.size W1 W1.drew from Below.drewsN (Below.refl _ _) 1)
 refine wp_region_held_drew (S := SBPutEntry m g t l n w.heap.size) (by kernel_rfl) (HKS.out _ B0.out) (fun hHeld => ?_)
 refine wtk 0 rfl ?_; go_simp
 refine wl0 1 rfl ?_; go_simp
 refine wtk 4 rfl ?_; go_simp
 refine wl0 5 rfl ?_; go_simp
 refine wtk 8 rfl ?_; go_simp
 refine wl0 9 rfl ?_; go_simp
 refine wtk 12 rfl ?_; go_simp
 refine wl0 13 rfl ?_; go_simp
 refine wtk 18 rfl ?_; go_simp
 refine wl0 19 rfl ?_; go_simp
 refine wtk 20 rfl ?_; go_simp
 refine wrd 2 rfl fun K hK => ?_
 go_simp
 refine (rtext1_any _ _).mono ?_
 rintro e w1 ⟨rfl, hb⟩
 have B1 := Lib.hid (B0.out.trans (hb.mono B0.out.size))
 clear hb
 go_simp
 refine hK.out _ _ (HKS.out _ B1.out) (fun hHeld => ?_)
 clear hK K
 refine wtk 3 rfl ?_; go_simp
 refine wrd 6 rfl fun K hK => ?_
 go_simp
 refine (rtext1_any _ _).mono ?_
 rintro e w2 ⟨rfl, hb⟩
 have B2 := Lib.hid (B1.out.trans (hb.mono B1.out.size))
 clear hb
 go_simp
 refine hK.out _ _ (HKS.out _ B2.out) (fun hHeld => ?_)
 clear hK K
 refine wtk 7 rfl ?_; go_simp
 refine wrd 10 rfl fun K hK => ?_
 go_simp
 refine (rtext1_any _ _).mono ?_
 rintro e w3 ⟨rfl, hb⟩
 have B3 := Lib.hid (B2.out.trans (hb.mono B2.out.size))
 clear hb
 go_simp
 refine hK.out _ _ (HKS.out _ B3.out) (fun hHeld => ?_)
 clear hK K
 refine wtk 11 rfl ?_; go_simp
 refine wrd 14 rfl fun K hK => ?_
 go_simp
 refine (rnum1_any _ _).mono ?_
 rintro e w4 ⟨rfl, hb⟩
 have B4 := Lib.hid (B3.out.trans (hb.mono B3.out.size))
 clear hb
 go_simp
 refine hK.out _ _ (HKS.out _ B4.out) (fun hHeld => ?_)
 clear hK K
 refine wtk 15 rfl ?_; go_simp
 refine wrd 16 rfl fun K hK => ?_
 go_simp
 have HO0 := Lib.hid (ObjAt.new (W1 := W1) #[str [103, 117, 105, 100], .int .i64 5, .int .i64 0, str g, .slice none 0 0, .slice none 0 0, str [108, 105, 110, 107], .int .i64 5, .int .i64 0, str l, .slice none 0 0, .slice none 0 0, str [116, 105, 116, 108, 101], .int .i64 5, .int .i64 0, str t, .slice none 0 0, .slice none 0 0, str [119, 104, 101, 110], .int .i64 4, .int .i64 n, str [], .slice none 0 0, .slice none 0 0] B4.out)
 have B5 := Lib.hid HO0.out.1
 refine hK.out _ _ (HKS.out _ B5.out) (fun hHeld => ?_)
 clear hK K
 refine wrd 17 rfl fun K hK => ?_
 go_simp
 refine (robj_any _ _ _ _).mono ?_
 rintro e w6 ⟨rfl, hb⟩
 have B6 := Lib.hid (B5.out.trans (hb.mono B5.out.size))
 have HO := Lib.hid (HO0.out.to B6.out hb)
 clear hb
 go_simp
 refine hK.out _ _ (HKS.out _ B6.out) (fun hHeld => ?_)
 clear hK K
 refine wtk 21 rfl ?_; go_simp
 refine wtk 22 rfl ?_; go_simp
 refine wl0 23 rfl ?_; go_simp
 refine wrd 24 rfl fun K hK => ?_
 go_simp
 refine (CS1.out _).mono ?_
 rintro e w7 ⟨rfl, rfl⟩
 have B7 := B6
 go_simp
 refine hK.out _ _ (HKS.out _ B7.out) (fun hHeld => ?_)
 clear hK K
 refine wtk 25 rfl ?_; go_simp
 refine wtk 26 rfl ?_; go_simp
 refine wtu 27 rfl ?_; go_simp
 refine wtu 28 rfl ?_; go_simp
 refine wrd 29 rfl fun K hK => ?_
 go_simp
 refine hK.out _ _ (by assumption) (fun _ => ?_)
 clear hK K
 refine wtk 30 rfl ?_; go_simp
 refine wtk 31 rfl ?_; go_simp
 refine wtu 32 rfl ?_; go_simp
 refine wtu 33 rfl ?_; go_simp
 refine wrd 34 rfl fun K hK => ?_
 go_simp
 refine hK.out _ _ (by assumption) (fun _ => ?_)
 clear hK K
 refine wtk 35 rfl ?_; go_simp
 refine wtk 36 rfl ?_; go_simp
 refine wtu 37 rfl ?_; go_simp
 refine wtu 38 rfl ?_; go_simp
 refine wtu 39 rfl ?_; go_simp
 refine wtk 40 rfl ?_; go_simp
 refine wtk 41 rfl ?_; go_simp
 refine wtu 42 rfl ?_; go_simp
 refine wtu 43 rfl ?_; go_simp
 refine wtu 44 rfl ?_; go_simp
 refine wtk 45 rfl ?_; go_simp
 refine wrd 46 rfl fun K hK => ?_
 go_simp
 refine (CPX.out _ _ HO.out).mono ?_
 rintro e w8 ⟨rfl, hb⟩
 have B8 := Lib.hid hb
 clear hb
 go_simp
 refine hK.out _ _ (HKS.out _ B8.out) (fun hHeld => ?_)
 clear hK K
 refine wtk 47 rfl ?_; go_simp
 refine wtk 48 rfl ?_; go_simp
 refine wtk 49 rfl ?_; go_simp
 refine wtk 50 rfl ?_; go_simp
 refine wpAnyH_done (by kernel_rfl) ?_ _
 have HX := Lib.hid (HW.out.trans (B8.out.mono HW.out.size))
 clear HKS CPX
 go_wp2_with fail
 go_ret2
 exact ⟨rfl, HX.out⟩
theorem rputPutEntry_2 (m : Int) (g : List UInt8) (t : List UInt8) (l : List UInt8) (n : Int) (w : World) (hg : g.length ≤ 9223372036854775807) (hl : l.length ≤ 9223372036854775807) (ht : t.length ≤ 9223372036854775807) (h0 : (g == []) = false) (s1 : shortB g = true) (s2 : shortB l = false) : Calls Tryz.prog 44 #[.agg #[.int .i64 m, str g, str t, str l, .int .i64 n]] w fun e w' => e = .returned (.tuple #[str (refO (entMs g l t n) false).1, .int .i64 (refO (entMs g l t n) false).2]) ∧ Below w.heap.size w w' := by
 obtain ⟨W1, hW1⟩ : ∃ W1, W1 = w.alloc (.cells #[.int .i64 m, str g, str t, str l, .int .i64 n] 25) := ⟨_, rfl⟩
 have hb1 : Below w.heap.size w W1 := by rw [hW1]; exact below_alloc _ _
 have hbx : W1.heap[w.heap.size]? = some (.cells #[.int .i64 m, str g, str t, str l, .int .i64 n] 25 (0, 0)) := by rw [hW1]; exact heap_alloc_new _ _
 have HKS := Lib.hid (sbpEntry hbx)
 have HW := Lib.hid hb1
 have CS1 := Lib.hid (fun W => by have h0 := rshort_any g W hg; rw [show shortB g = true from s1] at h0; exact h0)
 have CS2 := Lib.hid (fun W => by have h0 := rshort_any l W hl; rw [show shortB l = false from s2] at h0; exact h0)
 have CPX := Lib.hid (fun W B h => rpPutEntry_pr g t l n hg hl ht (W1 := W1) false W B h)
 obtain ⟨R1, hR1⟩ : ∃ R1, R1 = (refO (entMs g l t n) false).1 := ⟨_, rfl⟩
 obtain ⟨R2, hR2⟩ : ∃ R2, R2 = (refO (entMs g l t n) false).2 := ⟨_, rfl⟩
 rw [← hR1, ← hR2] at CPX
 rw [← hR1, ← hR2]
 clear hR1 hR2 hb1 hbx
 clear hg hl ht s1 s2
 go_enter Tryz.func44, Tryz.ntmps44
 go_upto_region 1 with fail
 rw [← hW1]
 clear hW1
 have B0 := Lib.hid (show Below W1.heap.size W1 W1.drew from Below.drewsN (Below.refl _ _) 1)
 refine wp_region_held_drew (S := SBPutEntry m g t l n w.heap.size) (by kernel_rfl) (HKS.out _ B0.out) (fun hHeld => ?_)
 refine wtk 0 rfl ?_; go_simp
 refine wl0 1 rfl ?_; go_simp
 refine wtk 4 rfl ?_; go_simp
 refine wl0 5 rfl ?_; go_simp
 refine wtk 8 rfl ?_; go_simp
 refine wl0 9 rfl ?_; go_simp
 refine wtk 12 rfl ?_; go_simp
 refine wl0 13 rfl ?_; go_simp
 refine wtk 18 rfl ?_; go_simp
 refine wl0 19 rfl ?_; go_simp
 refine wtk 20 rfl ?_; go_simp
 refine wrd 2 rfl fun K hK => ?_
 go_simp
 refine (rtext1_any _ _).mono ?_
 rintro e w1 ⟨rfl, hb⟩
 have B1 := Lib.hid (B0.out.trans (hb.mono B0.out.size))
 clear hb
 go_simp
 refine hK.out _ _ (HKS.out _ B1.out) (fun hHeld => ?_)
 clear hK K
 refine wtk 3 rfl ?_; go_simp
 refine wrd 6 rfl fun K hK => ?_
 go_simp
 refine (rtext1_any _ _).mono ?_
 rintro e w2 ⟨rfl, hb⟩
 have B2 := Lib.hid (B1.out.trans (hb.mono B1.out.size))
 clear hb
 go_simp
 refine hK.out _ _ (HKS.out _ B2.out) (fun hHeld => ?_)
 clear hK K
 refine wtk 7 rfl ?_; go_simp
 refine wrd 10 rfl fun K hK => ?_
 go_simp
 refine (rtext1_any _ _).mono ?_
 rintro e w3 ⟨rfl, hb⟩
 have B3 := Lib.hid (B2.out.trans (hb.mono B2.out.size))
 clear hb
 go_simp
 refine hK.out _ _ (HKS.out _ B3.out) (fun hHeld => ?_)
 clear hK K
 refine wtk 11 rfl ?_; go_simp
 refine wrd 14 rfl fun K hK => ?_
 go_simp
 refine (rnum1_any _ _).mono ?_
 rintro e w4 ⟨rfl, hb⟩
 have B4 := Lib.hid (B3.out.trans (hb.mono B3.out.size))
 clear hb
 go_simp
 refine hK.out _ _ (HKS.out _ B4.out) (fun hHeld => ?_)
 clear hK K
 refine wtk 15 rfl ?_; go_simp
 refine wrd 16 rfl fun K hK => ?_
 go_simp
 have HO0 := Lib.hid (ObjAt.new (W1 := W1) #[str [103, 117, 105, 100], .int .i64 5, .int .i64 0, str g, .slice none 0 0, .slice none 0 0, str [108, 105, 110, 107], .int .i64 5, .int .i64 0, str l, .slice none 0 0, .slice none 0 0, str [116, 105, 116, 108, 101], .int .i64 5, .int .i64 0, str t, .slice none 0 0, .slice none 0 0, str [119, 104, 101, 110], .int .i64 4, .int .i64 n, str [], .slice none 0 0, .slice none 0 0] B4.out)
 have B5 := Lib.hid HO0.out.1
 refine hK.out _ _ (HKS.out _ B5.out) (fun hHeld => ?_)
 clear hK K
 refine wrd 17 rfl fun K hK => ?_
 go_simp
 refine (robj_any _ _ _ _).mono ?_
 rintro e w6 ⟨rfl, hb⟩
 have B6 := Lib.hid (B5.out.trans (hb.mono B5.out.size))
 have HO := Lib.hid (HO0.out.to B6.out hb)
 clear hb
 go_simp
 refine hK.out _ _ (HKS.out _ B6.out) (fun hHeld => ?_)
 clear hK K
 refine wtk 21 rfl ?_; go_simp
 refine wtk 22 rfl ?_; go_simp
 refine wl0 23 rfl ?_; go_simp
 refine wrd 24 rfl fun K hK => ?_
 go_simp
 refine (CS1.out _).mono ?_
 rintro e w7 ⟨rfl, rfl⟩
 have B7 := B6
 go_simp
 refine hK.out _ _ (HKS.out _ B7.out) (fun hHeld => ?_)
 clear hK K
 refine wtk 25 rfl ?_; go_simp
 refine wtk 26 rfl ?_; go_simp
 refine wtk 27 rfl ?_; go_simp
 refine wl0 28 rfl ?_; go_simp
 refine wrd 29 rfl fun K hK => ?_
 go_simp
 refine (CS2.out _).mono ?_
 rintro e w8 ⟨rfl, rfl⟩
 have B8 := B7
 go_simp
 refine hK.out _ _ (HKS.out _ B8.out) (fun hHeld => ?_)
 clear hK K
 refine wtk 30 rfl ?_; go_simp
 refine wtk 31 rfl ?_; go_simp
 refine wtu 32 rfl ?_; go_simp
 refine wtu 33 rfl ?_; go_simp
 refine wrd 34 rfl fun K hK => ?_
 go_simp
 refine hK.out _ _ (by assumption) (fun _ => ?_)
 clear hK K
 refine wtk 35 rfl ?_; go_simp
 refine wtk 36 rfl ?_; go_simp
 refine wtu 37 rfl ?_; go_simp
 refine wtu 38 rfl ?_; go_simp
 refine wtu 39 rfl ?_; go_simp
 refine wtk 40 rfl ?_; go_simp
 refine wtk 41 rfl ?_; go_simp
 refine wtu 42 rfl ?_; go_simp
 refine wtu 43 rfl ?_; go_simp
 refine wtu 44 rfl ?_; go_simp
 refine wtk 45 rfl ?_; go_simp
 refine wrd 46 rfl fun K hK => ?_
 go_simp
 refine (CPX.out _ _ HO.out).mono ?_
 rintro e w9 ⟨rfl, hb⟩
 have B9 := Lib.hid hb
 clear hb
 go_simp
 refine hK.out _ _ (HKS.out _ B9.out) (fun hHeld => ?_)
 clear hK K
 refine wtk 47 rfl ?_; go_simp
 refine wtk 48 rfl ?_; go_simp
 refine wtk 49 rfl ?_; go_simp
 refine wtk 50 rfl ?_; go_simp
 refine wpAnyH_done (by kernel_rfl) ?_ _
 have HX := Lib.hid (HW.out.trans (B9.out.mono HW.out.size))
 clear HKS CPX
 go_wp2_with fail
 go_ret2
 exact ⟨rfl, HX.out⟩
theorem rputPutEntry_3 (m : Int) (g : List UInt8) (t : List UInt8) (l : List UInt8) (n : Int) (w : World) (hg : g.length ≤ 9223372036854775807) (hl : l.length ≤ 9223372036854775807) (ht : t.length ≤ 9223372036854775807) (h0 : (g == []) = false) (s1 : shortB g = true) (s2 : shortB l = true) (s3 : shortB t = false) : Calls Tryz.prog 44 #[.agg #[.int .i64 m, str g, str t, str l, .int .i64 n]] w fun e w' => e = .returned (.tuple #[str (refO (entMs g l t n) false).1, .int .i64 (refO (entMs g l t n) false).2]) ∧ Below w.heap.size w w' := by
 obtain ⟨W1, hW1⟩ : ∃ W1, W1 = w.alloc (.cells #[.int .i64 m, str g, str t, str l, .int .i64 n] 25) := ⟨_, rfl⟩
 have hb1 : Below w.heap.size w W1 := by rw [hW1]; exact below_alloc _ _
 have hbx : W1.heap[w.heap.size]? = some (.cells #[.int .i64 m, str g, str t, str l, .int .i64 n] 25 (0, 0)) := by rw [hW1]; exact heap_alloc_new _ _
 have HKS := Lib.hid (sbpEntry hbx)
 have HW := Lib.hid hb1
 have CS1 := Lib.hid (fun W => by have h0 := rshort_any g W hg; rw [show shortB g = true from s1] at h0; exact h0)
 have CS2 := Lib.hid (fun W => by have h0 := rshort_any l W hl; rw [show shortB l = true from s2] at h0; exact h0)
 have CS3 := Lib.hid (fun W => by have h0 := rshort_any t W ht; rw [show shortB t = false from s3] at h0; exact h0)
 have CPX := Lib.hid (fun W B h => rpPutEntry_pr g t l n hg hl ht (W1 := W1) false W B h)
 obtain ⟨R1, hR1⟩ : ∃ R1, R1 = (refO (entMs g l t n) false).1 := ⟨_, rfl⟩
 obtain ⟨R2, hR2⟩ : ∃ R2, R2 = (refO (entMs g l t n) false).2 := ⟨_, rfl⟩
 rw [← hR1, ← hR2] at CPX
 rw [← hR1, ← hR2]
 clear hR1 hR2 hb1 hbx
 clear hg hl ht s1 s2 s3
 go_enter Tryz.func44, Tryz.ntmps44
 go_upto_region 1 with fail
 rw [← hW1]
 clear hW1
 have B0 := Lib.hid (show Below W1.heap.size W1 W1.drew from Below.drewsN (Below.refl _ _) 1)
 refine wp_region_held_drew (S := SBPutEntry m g t l n w.heap.size) (by kernel_rfl) (HKS.out _ B0.out) (fun hHeld => ?_)
 refine wtk 0 rfl ?_; go_simp
 refine wl0 1 rfl ?_; go_simp
 refine wtk 4 rfl ?_; go_simp
 refine wl0 5 rfl ?_; go_simp
 refine wtk 8 rfl ?_; go_simp
 refine wl0 9 rfl ?_; go_simp
 refine wtk 12 rfl ?_; go_simp
 refine wl0 13 rfl ?_; go_simp
 refine wtk 18 rfl ?_; go_simp
 refine wl0 19 rfl ?_; go_simp
 refine wtk 20 rfl ?_; go_simp
 refine wrd 2 rfl fun K hK => ?_
 go_simp
 refine (rtext1_any _ _).mono ?_
 rintro e w1 ⟨rfl, hb⟩
 have B1 := Lib.hid (B0.out.trans (hb.mono B0.out.size))
 clear hb
 go_simp
 refine hK.out _ _ (HKS.out _ B1.out) (fun hHeld => ?_)
 clear hK K
 refine wtk 3 rfl ?_; go_simp
 refine wrd 6 rfl fun K hK => ?_
 go_simp
 refine (rtext1_any _ _).mono ?_
 rintro e w2 ⟨rfl, hb⟩
 have B2 := Lib.hid (B1.out.trans (hb.mono B1.out.size))
 clear hb
 go_simp
 refine hK.out _ _ (HKS.out _ B2.out) (fun hHeld => ?_)
 clear hK K
 refine wtk 7 rfl ?_; go_simp
 refine wrd 10 rfl fun K hK => ?_
 go_simp
 refine (rtext1_any _ _).mono ?_
 rintro e w3 ⟨rfl, hb⟩
 have B3 := Lib.hid (B2.out.trans (hb.mono B2.out.size))
 clear hb
 go_simp
 refine hK.out _ _ (HKS.out _ B3.out) (fun hHeld => ?_)
 clear hK K
 refine wtk 11 rfl ?_; go_simp
 refine wrd 14 rfl fun K hK => ?_
 go_simp
 refine (rnum1_any _ _).mono ?_
 rintro e w4 ⟨rfl, hb⟩
 have B4 := Lib.hid (B3.out.trans (hb.mono B3.out.size))
 clear hb
 go_simp
 refine hK.out _ _ (HKS.out _ B4.out) (fun hHeld => ?_)
 clear hK K
 refine wtk 15 rfl ?_; go_simp
 refine wrd 16 rfl fun K hK => ?_
 go_simp
 have HO0 := Lib.hid (ObjAt.new (W1 := W1) #[str [103, 117, 105, 100], .int .i64 5, .int .i64 0, str g, .slice none 0 0, .slice none 0 0, str [108, 105, 110, 107], .int .i64 5, .int .i64 0, str l, .slice none 0 0, .slice none 0 0, str [116, 105, 116, 108, 101], .int .i64 5, .int .i64 0, str t, .slice none 0 0, .slice none 0 0, str [119, 104, 101, 110], .int .i64 4, .int .i64 n, str [], .slice none 0 0, .slice none 0 0] B4.out)
 have B5 := Lib.hid HO0.out.1
 refine hK.out _ _ (HKS.out _ B5.out) (fun hHeld => ?_)
 clear hK K
 refine wrd 17 rfl fun K hK => ?_
 go_simp
 refine (robj_any _ _ _ _).mono ?_
 rintro e w6 ⟨rfl, hb⟩
 have B6 := Lib.hid (B5.out.trans (hb.mono B5.out.size))
 have HO := Lib.hid (HO0.out.to B6.out hb)
 clear hb
 go_simp
 refine hK.out _ _ (HKS.out _ B6.out) (fun hHeld => ?_)
 clear hK K
 refine wtk 21 rfl ?_; go_simp
 refine wtk 22 rfl ?_; go_simp
 refine wl0 23 rfl ?_; go_simp
 refine wrd 24 rfl fun K hK => ?_
 go_simp
 refine (CS1.out _).mono ?_
 rintro e w7 ⟨rfl, rfl⟩
 have B7 := B6
 go_simp
 refine hK.out _ _ (HKS.out _ B7.out) (fun hHeld => ?_)
 clear hK K
 refine wtk 25 rfl ?_; go_simp
 refine wtk 26 rfl ?_; go_simp
 refine wtk 27 rfl ?_; go_simp
 refine wl0 28 rfl ?_; go_simp
 refine wrd 29 rfl fun K hK => ?_
 go_simp
 refine (CS2.out _).mono ?_
 rintro e w8 ⟨rfl, rfl⟩
 have B8 := B7
 go_simp
 refine hK.out _ _ (HKS.out _ B8.out) (fun hHeld => ?_)
 clear hK K
 refine wtk 30 rfl ?_; go_simp
 refine wtk 31 rfl ?_; go_simp
 refine wtk 32 rfl ?_; go_simp
 refine wl0 33 rfl ?_; go_simp
 refine wrd 34 rfl fun K hK => ?_
 go_simp
 refine (CS3.out _).mono ?_
 rintro e w9 ⟨rfl, rfl⟩
 have B9 := B8
 go_simp
 refine hK.out _ _ (HKS.out _ B9.out) (fun hHeld => ?_)
 clear hK K
 refine wtk 35 rfl ?_; go_simp
 refine wtk 36 rfl ?_; go_simp
 refine wtu 37 rfl ?_; go_simp
 refine wtu 38 rfl ?_; go_simp
 refine wtu 39 rfl ?_; go_simp
 refine wtk 40 rfl ?_; go_simp
 refine wtk 41 rfl ?_; go_simp
 refine wtu 42 rfl ?_; go_simp
 refine wtu 43 rfl ?_; go_simp
 refine wtu 44 rfl ?_; go_simp
 refine wtk 45 rfl ?_; go_simp
 refine wrd 46 rfl fun K hK => ?_
 go_simp
 refine (CPX.out _ _ HO.out).mono ?_
 rintro e w10 ⟨rfl, hb⟩
 have B10 := Lib.hid hb
 clear hb
 go_simp
 refine hK.out _ _ (HKS.out _ B10.out) (fun hHeld => ?_)
 clear hK K
 refine wtk 47 rfl ?_; go_simp
 refine wtk 48 rfl ?_; go_simp
 refine wtk 49 rfl ?_; go_simp
 refine wtk 50 rfl ?_; go_simp
 refine wpAnyH_done (by kernel_rfl) ?_ _
 have HX := Lib.hid (HW.out.trans (B10.out.mono HW.out.size))
 clear HKS CPX
 go_wp2_with fail
 go_ret2
 exact ⟨rfl, HX.out⟩
theorem rputPutEntry_4 (m : Int) (g : List UInt8) (t : List UInt8) (l : List UInt8) (n : Int) (w : World) (hg : g.length ≤ 9223372036854775807) (hl : l.length ≤ 9223372036854775807) (ht : t.length ≤ 9223372036854775807) (h0 : (g == []) = false) (s1 : shortB g = true) (s2 : shortB l = true) (s3 : shortB t = true) (h1 : ¬ 0 ≤ n) : Calls Tryz.prog 44 #[.agg #[.int .i64 m, str g, str t, str l, .int .i64 n]] w fun e w' => e = .returned (.tuple #[str (refO (entMs g l t n) false).1, .int .i64 (refO (entMs g l t n) false).2]) ∧ Below w.heap.size w w' := by
 obtain ⟨W1, hW1⟩ : ∃ W1, W1 = w.alloc (.cells #[.int .i64 m, str g, str t, str l, .int .i64 n] 25) := ⟨_, rfl⟩
 have hb1 : Below w.heap.size w W1 := by rw [hW1]; exact below_alloc _ _
 have hbx : W1.heap[w.heap.size]? = some (.cells #[.int .i64 m, str g, str t, str l, .int .i64 n] 25 (0, 0)) := by rw [hW1]; exact heap_alloc_new _ _
 have HKS := Lib.hid (sbpEntry hbx)
 have HW := Lib.hid hb1
 have CS1 := Lib.hid (fun W => by have h0 := rshort_any g W hg; rw [show shortB g = true from s1] at h0; exact h0)
 have CS2 := Lib.hid (fun W => by have h0 := rshort_any l W hl; rw [show shortB l = true from s2] at h0; exact h0)
 have CS3 := Lib.hid (fun W => by have h0 := rshort_any t W ht; rw [show shortB t = true from s3] at h0; exact h0)
 have z1 : decide (0 ≤ n) = false := decide_eq_false h1
 have CPX := Lib.hid (fun W B h => rpPutEntry_pr g t l n hg hl ht (W1 := W1) false W B h)
 obtain ⟨R1, hR1⟩ : ∃ R1, R1 = (refO (entMs g l t n) false).1 := ⟨_, rfl⟩
 obtain ⟨R2, hR2⟩ : ∃ R2, R2 = (refO (entMs g l t n) false).2 := ⟨_, rfl⟩
 rw [← hR1, ← hR2] at CPX
 rw [← hR1, ← hR2]
 clear hR1 hR2 hb1 hbx
 clear hg hl ht s1 s2 s3 h1
 go_enter Tryz.func44, Tryz.ntmps44
 go_upto_region 1 with fail
 rw [← hW1]
 clear hW1
 have B0 := Lib.hid (show Below W1.heap.size W1 W1.drew from Below.drewsN (Below.refl _ _) 1)
 refine wp_region_held_drew (S := SBPutEntry m g t l n w.heap.size) (by kernel_rfl) (HKS.out _ B0.out) (fun hHeld => ?_)
 refine wtk 0 rfl ?_; go_simp
 refine wl0 1 rfl ?_; go_simp
 refine wtk 4 rfl ?_; go_simp
 refine wl0 5 rfl ?_; go_simp
 refine wtk 8 rfl ?_; go_simp
 refine wl0 9 rfl ?_; go_simp
 refine wtk 12 rfl ?_; go_simp
 refine wl0 13 rfl ?_; go_simp
 refine wtk 18 rfl ?_; go_simp
 refine wl0 19 rfl ?_; go_simp
 refine wtk 20 rfl ?_; go_simp
 refine wrd 2 rfl fun K hK => ?_
 go_simp
 refine (rtext1_any _ _).mono ?_
 rintro e w1 ⟨rfl, hb⟩
 have B1 := Lib.hid (B0.out.trans (hb.mono B0.out.size))
 clear hb
 go_simp
 refine hK.out _ _ (HKS.out _ B1.out) (fun hHeld => ?_)
 clear hK K
 refine wtk 3 rfl ?_; go_simp
 refine wrd 6 rfl fun K hK => ?_
 go_simp
 refine (rtext1_any _ _).mono ?_
 rintro e w2 ⟨rfl, hb⟩
 have B2 := Lib.hid (B1.out.trans (hb.mono B1.out.size))
 clear hb
 go_simp
 refine hK.out _ _ (HKS.out _ B2.out) (fun hHeld => ?_)
 clear hK K
 refine wtk 7 rfl ?_; go_simp
 refine wrd 10 rfl fun K hK => ?_
 go_simp
 refine (rtext1_any _ _).mono ?_
 rintro e w3 ⟨rfl, hb⟩
 have B3 := Lib.hid (B2.out.trans (hb.mono B2.out.size))
 clear hb
 go_simp
 refine hK.out _ _ (HKS.out _ B3.out) (fun hHeld => ?_)
 clear hK K
 refine wtk 11 rfl ?_; go_simp
 refine wrd 14 rfl fun K hK => ?_
 go_simp
 refine (rnum1_any _ _).mono ?_
 rintro e w4 ⟨rfl, hb⟩
 have B4 := Lib.hid (B3.out.trans (hb.mono B3.out.size))
 clear hb
 go_simp
 refine hK.out _ _ (HKS.out _ B4.out) (fun hHeld => ?_)
 clear hK K
 refine wtk 15 rfl ?_; go_simp
 refine wrd 16 rfl fun K hK => ?_
 go_simp
 have HO0 := Lib.hid (ObjAt.new (W1 := W1) #[str [103, 117, 105, 100], .int .i64 5, .int .i64 0, str g, .slice none 0 0, .slice none 0 0, str [108, 105, 110, 107], .int .i64 5, .int .i64 0, str l, .slice none 0 0, .slice none 0 0, str [116, 105, 116, 108, 101], .int .i64 5, .int .i64 0, str t, .slice none 0 0, .slice none 0 0, str [119, 104, 101, 110], .int .i64 4, .int .i64 n, str [], .slice none 0 0, .slice none 0 0] B4.out)
 have B5 := Lib.hid HO0.out.1
 refine hK.out _ _ (HKS.out _ B5.out) (fun hHeld => ?_)
 clear hK K
 refine wrd 17 rfl fun K hK => ?_
 go_simp
 refine (robj_any _ _ _ _).mono ?_
 rintro e w6 ⟨rfl, hb⟩
 have B6 := Lib.hid (B5.out.trans (hb.mono B5.out.size))
 have HO := Lib.hid (HO0.out.to B6.out hb)
 clear hb
 go_simp
 refine hK.out _ _ (HKS.out _ B6.out) (fun hHeld => ?_)
 clear hK K
 refine wtk 21 rfl ?_; go_simp
 refine wtk 22 rfl ?_; go_simp
 refine wl0 23 rfl ?_; go_simp
 refine wrd 24 rfl fun K hK => ?_
 go_simp
 refine (CS1.out _).mono ?_
 rintro e w7 ⟨rfl, rfl⟩
 have B7 := B6
 go_simp
 refine hK.out _ _ (HKS.out _ B7.out) (fun hHeld => ?_)
 clear hK K
 refine wtk 25 rfl ?_; go_simp
 refine wtk 26 rfl ?_; go_simp
 refine wtk 27 rfl ?_; go_simp
 refine wl0 28 rfl ?_; go_simp
 refine wrd 29 rfl fun K hK => ?_
 go_simp
 refine (CS2.out _).mono ?_
 rintro e w8 ⟨rfl, rfl⟩
 have B8 := B7
 go_simp
 refine hK.out _ _ (HKS.out _ B8.out) (fun hHeld => ?_)
 clear hK K
 refine wtk 30 rfl ?_; go_simp
 refine wtk 31 rfl ?_; go_simp
 refine wtk 32 rfl ?_; go_simp
 refine wl0 33 rfl ?_; go_simp
 refine wrd 34 rfl fun K hK => ?_
 go_simp
 refine (CS3.out _).mono ?_
 rintro e w9 ⟨rfl, rfl⟩
 have B9 := B8
 go_simp
 refine hK.out _ _ (HKS.out _ B9.out) (fun hHeld => ?_)
 clear hK K
 refine wtk 35 rfl ?_; go_simp
 refine wtk 36 rfl ?_; go_simp
 refine wtk 37 rfl ?_; go_simp
 refine wl0 38 rfl ?_; go_simp
 refine wtk 39 rfl ?_; go_simp
 refine wtk 40 rfl ?_; go_simp
 refine wtk 41 rfl ?_; go_simp
 refine wtu 42 rfl ?_; go_simp
 refine wtu 43 rfl ?_; go_simp
 refine wtu 44 rfl ?_; go_simp
 refine wtk 45 rfl ?_; go_simp
 refine wrd 46 rfl fun K hK => ?_
 go_simp
 refine (CPX.out _ _ HO.out).mono ?_
 rintro e w10 ⟨rfl, hb⟩
 have B10 := Lib.hid hb
 clear hb
 go_simp
 refine hK.out _ _ (HKS.out _ B10.out) (fun hHeld => ?_)
 clear hK K
 refine wtk 47 rfl ?_; go_simp
 refine wtk 48 rfl ?_; go_simp
 refine wtk 49 rfl ?_; go_simp
 refine wtk 50 rfl ?_; go_simp
 refine wpAnyH_done (by kernel_rfl) ?_ _
 have HX := Lib.hid (HW.out.trans (B10.out.mono HW.out.size))
 clear HKS CPX
 go_wp2_with fail
 go_ret2
 exact ⟨rfl, HX.out⟩
theorem rputPutEntry_5 (m : Int) (g : List UInt8) (t : List UInt8) (l : List UInt8) (n : Int) (w : World) (hg : g.length ≤ 9223372036854775807) (hl : l.length ≤ 9223372036854775807) (ht : t.length ≤ 9223372036854775807) (h0 : (g == []) = false) (s1 : shortB g = true) (s2 : shortB l = true) (s3 : shortB t = true) (h1 : 0 ≤ n) : Calls Tryz.prog 44 #[.agg #[.int .i64 m, str g, str t, str l, .int .i64 n]] w fun e w' => e = .returned (.tuple #[str (refO (entMs g l t n) (decide (n ≤ 1099511627776))).1, .int .i64 (refO (entMs g l t n) (decide (n ≤ 1099511627776))).2]) ∧ Below w.heap.size w w' := by
 obtain ⟨W1, hW1⟩ : ∃ W1, W1 = w.alloc (.cells #[.int .i64 m, str g, str t, str l, .int .i64 n] 25) := ⟨_, rfl⟩
 have hb1 : Below w.heap.size w W1 := by rw [hW1]; exact below_alloc _ _
 have hbx : W1.heap[w.heap.size]? = some (.cells #[.int .i64 m, str g, str t, str l, .int .i64 n] 25 (0, 0)) := by rw [hW1]; exact heap_alloc_new _ _
 have HKS := Lib.hid (sbpEntry hbx)
 have HW := Lib.hid hb1
 have CS1 := Lib.hid (fun W => by have h0 := rshort_any g W hg; rw [show shortB g = true from s1] at h0; exact h0)
 have CS2 := Lib.hid (fun W => by have h0 := rshort_any l W hl; rw [show shortB l = true from s2] at h0; exact h0)
 have CS3 := Lib.hid (fun W => by have h0 := rshort_any t W ht; rw [show shortB t = true from s3] at h0; exact h0)
 have z1 : decide (0 ≤ n) = true := decide_eq_true h1
 have CPX := Lib.hid (fun W B h => rpPutEntry_pr g t l n hg hl ht (W1 := W1) (decide (n ≤ 1099511627776)) W B h)
 obtain ⟨R1, hR1⟩ : ∃ R1, R1 = (refO (entMs g l t n) (decide (n ≤ 1099511627776))).1 := ⟨_, rfl⟩
 obtain ⟨R2, hR2⟩ : ∃ R2, R2 = (refO (entMs g l t n) (decide (n ≤ 1099511627776))).2 := ⟨_, rfl⟩
 rw [← hR1, ← hR2] at CPX
 rw [← hR1, ← hR2]
 clear hR1 hR2 hb1 hbx
 clear hg hl ht s1 s2 s3 h1
 go_enter Tryz.func44, Tryz.ntmps44
 go_upto_region 1 with fail
 rw [← hW1]
 clear hW1
 have B0 := Lib.hid (show Below W1.heap.size W1 W1.drew from Below.drewsN (Below.refl _ _) 1)
 refine wp_region_held_drew (S := SBPutEntry m g t l n w.heap.size) (by kernel_rfl) (HKS.out _ B0.out) (fun hHeld => ?_)
 refine wtk 0 rfl ?_; go_simp
 refine wl0 1 rfl ?_; go_simp
 refine wtk 4 rfl ?_; go_simp
 refine wl0 5 rfl ?_; go_simp
 refine wtk 8 rfl ?_; go_simp
 refine wl0 9 rfl ?_; go_simp
 refine wtk 12 rfl ?_; go_simp
 refine wl0 13 rfl ?_; go_simp
 refine wtk 18 rfl ?_; go_simp
 refine wl0 19 rfl ?_; go_simp
 refine wtk 20 rfl ?_; go_simp
 refine wrd 2 rfl fun K hK => ?_
 go_simp
 refine (rtext1_any _ _).mono ?_
 rintro e w1 ⟨rfl, hb⟩
 have B1 := Lib.hid (B0.out.trans (hb.mono B0.out.size))
 clear hb
 go_simp
 refine hK.out _ _ (HKS.out _ B1.out) (fun hHeld => ?_)
 clear hK K
 refine wtk 3 rfl ?_; go_simp
 refine wrd 6 rfl fun K hK => ?_
 go_simp
 refine (rtext1_any _ _).mono ?_
 rintro e w2 ⟨rfl, hb⟩
 have B2 := Lib.hid (B1.out.trans (hb.mono B1.out.size))
 clear hb
 go_simp
 refine hK.out _ _ (HKS.out _ B2.out) (fun hHeld => ?_)
 clear hK K
 refine wtk 7 rfl ?_; go_simp
 refine wrd 10 rfl fun K hK => ?_
 go_simp
 refine (rtext1_any _ _).mono ?_
 rintro e w3 ⟨rfl, hb⟩
 have B3 := Lib.hid (B2.out.trans (hb.mono B2.out.size))
 clear hb
 go_simp
 refine hK.out _ _ (HKS.out _ B3.out) (fun hHeld => ?_)
 clear hK K
 refine wtk 11 rfl ?_; go_simp
 refine wrd 14 rfl fun K hK => ?_
 go_simp
 refine (rnum1_any _ _).mono ?_
 rintro e w4 ⟨rfl, hb⟩
 have B4 := Lib.hid (B3.out.trans (hb.mono B3.out.size))
 clear hb
 go_simp
 refine hK.out _ _ (HKS.out _ B4.out) (fun hHeld => ?_)
 clear hK K
 refine wtk 15 rfl ?_; go_simp
 refine wrd 16 rfl fun K hK => ?_
 go_simp
 have HO0 := Lib.hid (ObjAt.new (W1 := W1) #[str [103, 117, 105, 100], .int .i64 5, .int .i64 0, str g, .slice none 0 0, .slice none 0 0, str [108, 105, 110, 107], .int .i64 5, .int .i64 0, str l, .slice none 0 0, .slice none 0 0, str [116, 105, 116, 108, 101], .int .i64 5, .int .i64 0, str t, .slice none 0 0, .slice none 0 0, str [119, 104, 101, 110], .int .i64 4, .int .i64 n, str [], .slice none 0 0, .slice none 0 0] B4.out)
 have B5 := Lib.hid HO0.out.1
 refine hK.out _ _ (HKS.out _ B5.out) (fun hHeld => ?_)
 clear hK K
 refine wrd 17 rfl fun K hK => ?_
 go_simp
 refine (robj_any _ _ _ _).mono ?_
 rintro e w6 ⟨rfl, hb⟩
 have B6 := Lib.hid (B5.out.trans (hb.mono B5.out.size))
 have HO := Lib.hid (HO0.out.to B6.out hb)
 clear hb
 go_simp
 refine hK.out _ _ (HKS.out _ B6.out) (fun hHeld => ?_)
 clear hK K
 refine wtk 21 rfl ?_; go_simp
 refine wtk 22 rfl ?_; go_simp
 refine wl0 23 rfl ?_; go_simp
 refine wrd 24 rfl fun K hK => ?_
 go_simp
 refine (CS1.out _).mono ?_
 rintro e w7 ⟨rfl, rfl⟩
 have B7 := B6
 go_simp
 refine hK.out _ _ (HKS.out _ B7.out) (fun hHeld => ?_)
 clear hK K
 refine wtk 25 rfl ?_; go_simp
 refine wtk 26 rfl ?_; go_simp
 refine wtk 27 rfl ?_; go_simp
 refine wl0 28 rfl ?_; go_simp
 refine wrd 29 rfl fun K hK => ?_
 go_simp
 refine (CS2.out _).mono ?_
 rintro e w8 ⟨rfl, rfl⟩
 have B8 := B7
 go_simp
 refine hK.out _ _ (HKS.out _ B8.out) (fun hHeld => ?_)
 clear hK K
 refine wtk 30 rfl ?_; go_simp
 refine wtk 31 rfl ?_; go_simp
 refine wtk 32 rfl ?_; go_simp
 refine wl0 33 rfl ?_; go_simp
 refine wrd 34 rfl fun K hK => ?_
 go_simp
 refine (CS3.out _).mono ?_
 rintro e w9 ⟨rfl, rfl⟩
 have B9 := B8
 go_simp
 refine hK.out _ _ (HKS.out _ B9.out) (fun hHeld => ?_)
 clear hK K
 refine wtk 35 rfl ?_; go_simp
 refine wtk 36 rfl ?_; go_simp
 refine wtk 37 rfl ?_; go_simp
 refine wl0 38 rfl ?_; go_simp
 refine wtk 39 rfl ?_; go_simp
 refine wtk 40 rfl ?_; go_simp
 refine wtk 41 rfl ?_; go_simp
 refine wtk 42 rfl ?_; go_simp
 refine wl0 43 rfl ?_; go_simp
 refine wtk 44 rfl ?_; go_simp
 refine wtk 45 rfl ?_; go_simp
 refine wrd 46 rfl fun K hK => ?_
 go_simp
 refine (CPX.out _ _ HO.out).mono ?_
 rintro e w10 ⟨rfl, hb⟩
 have B10 := Lib.hid hb
 clear hb
 go_simp
 refine hK.out _ _ (HKS.out _ B10.out) (fun hHeld => ?_)
 clear hK K
 refine wtk 47 rfl ?_; go_simp
 refine wtk 48 rfl ?_; go_simp
 refine wtk 49 rfl ?_; go_simp
 refine wtk 50 rfl ?_; go_simp
 refine wpAnyH_done (by kernel_rfl) ?_ _
 have HX := Lib.hid (HW.out.trans (B10.out.mono HW.out.size))
 clear HKS CPX
 go_wp2_with fail
 go_ret2
 exact ⟨rfl, HX.out⟩
end Go.Proofs.YtegblhmcfemfgaaGreatDoor
set_option maxRecDepth 100000
set_option maxHeartbeats 16000000
namespace Go.Proofs.YtegblhmcfemfgaaGreatDoor
open Go.RowKit
theorem rpPutFeed_pr (t : List UInt8) (n : Int) (ht : t.length ≤ 9223372036854775807) {W1 : World} (ok : Bool) (W : World) (B : Nat) (h : ObjAt W1 #[str [110], .int .i64 4, .int .i64 n, str [], .slice none 0 0, .slice none 0 0, str [116, 105, 116, 108, 101], .int .i64 5, .int .i64 0, str t, .slice none 0 0, .slice none 0 0] B W) : Calls Tryz.prog 61 #[.agg #[.int .i64 7, .int .i64 0, str [], .slice none 0 0, .slice (some ⟨B, 0, none⟩) 2 2], .bool ok] W fun e w' => e = .returned (.tuple #[str (refO (feedMs t n) ok).1, .int .i64 (refO (feedMs t n) ok).2]) ∧ Below W1.heap.size W1 w' := by
 refine (rprinted_any (feedMs t n) ok (feed_st ht) feed_lenM (fun _ => True) W _ (RdJ.mk0 (v := .mk 7 0 [] [] (feedMs t n)) (RdFB.nil _ _ _) (by unfold RdL; trivial) (RdFB.lit6 [[str [110], .int .i64 4, .int .i64 n, str [], .slice none 0 0, .slice none 0 0], [str [116, 105, 116, 108, 101], .int .i64 5, .int .i64 0, str t, .slice none 0 0, .slice none 0 0]] (by simp) h.2 rfl (by simp) trivial) (by
  show RdM W (fun _ => True) (feedMs t n) _
  unfold feedMs RdM
  refine ⟨⟨_, rfl, plainJ _ _ _ _ _⟩, ?_⟩
  unfold RdM
  refine ⟨⟨_, rfl, plainJ _ _ _ _ _⟩, ?_⟩
  unfold RdM
  trivial))).mono ?_
 rintro e w' ⟨rfl, h'⟩
 exact ⟨rfl, h.1.trans (h'.mono h.1.size)⟩
def SBPutFeed (t : List UInt8) (n : Int) (w0 : Nat) (W : World) : Prop := W.cell? ⟨w0, 0, none⟩ = some (str t) ∧ W.cell? ⟨w0, 1, none⟩ = some (.int .i64 n)
theorem sbpFeed {t : List UInt8} {n : Int} {W1 : World} {b0 : Nat} (hbx : W1.heap[b0]? = some (.cells #[str t, .int .i64 n] 55 (0, 0))) : ∀ W', Below W1.heap.size W1 W' → SBPutFeed t n b0 W' := fun _ hb => ⟨(hb.cell (p := ⟨b0, 0, none⟩) (World.block_lt_of_cell? W1 _ (box_cell hbx 0))).trans (box_cell hbx 0), (hb.cell (p := ⟨b0, 1, none⟩) (World.block_lt_of_cell? W1 _ (box_cell hbx 1))).trans (box_cell hbx 1)⟩
theorem rputPutFeed_0 (t : List UInt8) (n : Int) (w : World) (ht : t.length ≤ 9223372036854775807) (h1 : ¬ 0 ≤ n) : Calls Tryz.prog 43 #[.agg #[str t, .int .i64 n]] w fun e w' => e = .returned (.tuple #[str (refO (feedMs t n) false).1, .int .i64 (refO (feedMs t n) false).2]) ∧ Below w.heap.size w w' := by
 obtain ⟨W1, hW1⟩ : ∃ W1, W1 = w.alloc (.cells #[str t, .int .i64 n] 55) := ⟨_, rfl⟩
 have hb1 : Below w.heap.size w W1 := by rw [hW1]; exact below_alloc _ _
 have hbx : W1.heap[w.heap.size]? = some (.cells #[str t, .int .i64 n] 55 (0, 0)) := by rw [hW1]; exact heap_alloc_new _ _
 have HKS := Lib.hid (sbpFeed hbx)
 have HW := Lib.hid hb1
 have z1 : decide (0 ≤ n) = false := decide_eq_false h1
 have CPX := Lib.hid (fun W B h => rpPutFeed_pr t n ht (W1 := W1) false W B h)
 obtain ⟨R1, hR1⟩ : ∃ R1, R1 = (refO (feedMs t n) false).1 := ⟨_, rfl⟩
 obtain ⟨R2, hR2⟩ : ∃ R2, R2 = (refO (feedMs t n) false).2 := ⟨_, rfl⟩
 rw [← hR1, ← hR2] at CPX
 rw [← hR1, ← hR2]
 clear hR1 hR2 hb1 hbx
 clear h1 ht
 go_enter Tryz.func43, Tryz.ntmps43
 go_upto_region 1 with fail
 rw [← hW1]
 clear hW1
 have B0 := Lib.hid (show Below W1.heap.size W1 W1.drew from Below.drewsN (Below.refl _ _) 1)
 refine wp_region_held_drew (S := SBPutFeed t n w.heap.size) (by kernel_rfl) (HKS.out _ B0.out) (fun hHeld => ?_)
 refine wtk 0 rfl ?_; go_simp
 refine wl1 1 rfl ?_; go_simp
 refine wtk 4 rfl ?_; go_simp
 refine wl1 5 rfl ?_; go_simp
 refine wtk 10 rfl ?_; go_simp
 refine wl1 11 rfl ?_; go_simp
 refine wtk 12 rfl ?_; go_simp
 refine wrd 2 rfl fun K hK => ?_
 go_simp
 refine (rnum1_any _ _).mono ?_
 rintro e w1 ⟨rfl, hb⟩
 have B1 := Lib.hid (B0.out.trans (hb.mono B0.out.size))
 clear hb
 go_simp
 refine hK.out _ _ (HKS.out _ B1.out) (fun hHeld => ?_)
 clear hK K
 refine wtk 3 rfl ?_; go_simp
 refine wrd 6 rfl fun K hK => ?_
 go_simp
 refine (rtext1_any _ _).mono ?_
 rintro e w2 ⟨rfl, hb⟩
 have B2 := Lib.hid (B1.out.trans (hb.mono B1.out.size))
 clear hb
 go_simp
 refine hK.out _ _ (HKS.out _ B2.out) (fun hHeld => ?_)
 clear hK K
 refine wtk 7 rfl ?_; go_simp
 refine wrd 8 rfl fun K hK => ?_
 go_simp
 have HO0 := Lib.hid (ObjAt.new (W1 := W1) #[str [110], .int .i64 4, .int .i64 n, str [], .slice none 0 0, .slice none 0 0, str [116, 105, 116, 108, 101], .int .i64 5, .int .i64 0, str t, .slice none 0 0, .slice none 0 0] B2.out)
 have B3 := Lib.hid HO0.out.1
 refine hK.out _ _ (HKS.out _ B3.out) (fun hHeld => ?_)
 clear hK K
 refine wrd 9 rfl fun K hK => ?_
 go_simp
 refine (robj_any _ _ _ _).mono ?_
 rintro e w4 ⟨rfl, hb⟩
 have B4 := Lib.hid (B3.out.trans (hb.mono B3.out.size))
 have HO := Lib.hid (HO0.out.to B4.out hb)
 clear hb
 go_simp
 refine hK.out _ _ (HKS.out _ B4.out) (fun hHeld => ?_)
 clear hK K
 refine wtk 13 rfl ?_; go_simp
 refine wtu 14 rfl ?_; go_simp
 refine wtu 15 rfl ?_; go_simp
 refine wtu 16 rfl ?_; go_simp
 refine wtk 17 rfl ?_; go_simp
 refine wtk 18 rfl ?_; go_simp
 refine wtu 19 rfl ?_; go_simp
 refine wtu 20 rfl ?_; go_simp
 refine wrd 21 rfl fun K hK => ?_
 go_simp
 refine hK.out _ _ (by assumption) (fun _ => ?_)
 clear hK K
 refine wtk 22 rfl ?_; go_simp
 refine wrd 23 rfl fun K hK => ?_
 go_simp
 refine (CPX.out _ _ HO.out).mono ?_
 rintro e w5 ⟨rfl, hb⟩
 have B5 := Lib.hid hb
 clear hb
 go_simp
 refine hK.out _ _ (HKS.out _ B5.out) (fun hHeld => ?_)
 clear hK K
 refine wtk 24 rfl ?_; go_simp
 refine wtk 25 rfl ?_; go_simp
 refine wtk 26 rfl ?_; go_simp
 refine wtk 27 rfl ?_; go_simp
 refine wpAnyH_done (by kernel_rfl) ?_ _
 have HX := Lib.hid (HW.out.trans (B5.out.mono HW.out.size))
 clear HKS CPX
 go_wp2_with fail
 go_ret2
 exact ⟨rfl, HX.out⟩
theorem rputPutFeed_1 (t : List UInt8) (n : Int) (w : World) (ht : t.length ≤ 9223372036854775807) (h1 : 0 ≤ n) (h2 : ¬ n ≤ 1000000) : Calls Tryz.prog 43 #[.agg #[str t, .int .i64 n]] w fun e w' => e = .returned (.tuple #[str (refO (feedMs t n) false).1, .int .i64 (refO (feedMs t n) false).2]) ∧ Below w.heap.size w w' := by
 obtain ⟨W1, hW1⟩ : ∃ W1, W1 = w.alloc (.cells #[str t, .int .i64 n] 55) := ⟨_, rfl⟩
 have hb1 : Below w.heap.size w W1 := by rw [hW1]; exact below_alloc _ _
 have hbx : W1.heap[w.heap.size]? = some (.cells #[str t, .int .i64 n] 55 (0, 0)) := by rw [hW1]; exact heap_alloc_new _ _
 have HKS := Lib.hid (sbpFeed hbx)
 have HW := Lib.hid hb1
 have z1 : decide (0 ≤ n) = true := decide_eq_true h1
 have z2 : decide (n ≤ 1000000) = false := decide_eq_false h2
 have CPX := Lib.hid (fun W B h => rpPutFeed_pr t n ht (W1 := W1) false W B h)
 obtain ⟨R1, hR1⟩ : ∃ R1, R1 = (refO (feedMs t n) false).1 := ⟨_, rfl⟩
 obtain ⟨R2, hR2⟩ : ∃ R2, R2 = (refO (feedMs t n) false).2 := ⟨_, rfl⟩
 rw [← hR1, ← hR2] at CPX
 rw [← hR1, ← hR2]
 clear hR1 hR2 hb1 hbx
 clear h1 h2 ht
 go_enter Tryz.func43, Tryz.ntmps43
 go_upto_region 1 with fail
 rw [← hW1]
 clear hW1
 have B0 := Lib.hid (show Below W1.heap.size W1 W1.drew from Below.drewsN (Below.refl _ _) 1)
 refine wp_region_held_drew (S := SBPutFeed t n w.heap.size) (by kernel_rfl) (HKS.out _ B0.out) (fun hHeld => ?_)
 refine wtk 0 rfl ?_; go_simp
 refine wl1 1 rfl ?_; go_simp
 refine wtk 4 rfl ?_; go_simp
 refine wl1 5 rfl ?_; go_simp
 refine wtk 10 rfl ?_; go_simp
 refine wl1 11 rfl ?_; go_simp
 refine wtk 12 rfl ?_; go_simp
 refine wrd 2 rfl fun K hK => ?_
 go_simp
 refine (rnum1_any _ _).mono ?_
 rintro e w1 ⟨rfl, hb⟩
 have B1 := Lib.hid (B0.out.trans (hb.mono B0.out.size))
 clear hb
 go_simp
 refine hK.out _ _ (HKS.out _ B1.out) (fun hHeld => ?_)
 clear hK K
 refine wtk 3 rfl ?_; go_simp
 refine wrd 6 rfl fun K hK => ?_
 go_simp
 refine (rtext1_any _ _).mono ?_
 rintro e w2 ⟨rfl, hb⟩
 have B2 := Lib.hid (B1.out.trans (hb.mono B1.out.size))
 clear hb
 go_simp
 refine hK.out _ _ (HKS.out _ B2.out) (fun hHeld => ?_)
 clear hK K
 refine wtk 7 rfl ?_; go_simp
 refine wrd 8 rfl fun K hK => ?_
 go_simp
 have HO0 := Lib.hid (ObjAt.new (W1 := W1) #[str [110], .int .i64 4, .int .i64 n, str [], .slice none 0 0, .slice none 0 0, str [116, 105, 116, 108, 101], .int .i64 5, .int .i64 0, str t, .slice none 0 0, .slice none 0 0] B2.out)
 have B3 := Lib.hid HO0.out.1
 refine hK.out _ _ (HKS.out _ B3.out) (fun hHeld => ?_)
 clear hK K
 refine wrd 9 rfl fun K hK => ?_
 go_simp
 refine (robj_any _ _ _ _).mono ?_
 rintro e w4 ⟨rfl, hb⟩
 have B4 := Lib.hid (B3.out.trans (hb.mono B3.out.size))
 have HO := Lib.hid (HO0.out.to B4.out hb)
 clear hb
 go_simp
 refine hK.out _ _ (HKS.out _ B4.out) (fun hHeld => ?_)
 clear hK K
 refine wtk 13 rfl ?_; go_simp
 refine wtk 14 rfl ?_; go_simp
 refine wl1 15 rfl ?_; go_simp
 refine wtk 16 rfl ?_; go_simp
 refine wtk 17 rfl ?_; go_simp
 refine wtk 18 rfl ?_; go_simp
 refine wtu 19 rfl ?_; go_simp
 refine wtu 20 rfl ?_; go_simp
 refine wrd 21 rfl fun K hK => ?_
 go_simp
 refine hK.out _ _ (by assumption) (fun _ => ?_)
 clear hK K
 refine wtk 22 rfl ?_; go_simp
 refine wrd 23 rfl fun K hK => ?_
 go_simp
 refine (CPX.out _ _ HO.out).mono ?_
 rintro e w5 ⟨rfl, hb⟩
 have B5 := Lib.hid hb
 clear hb
 go_simp
 refine hK.out _ _ (HKS.out _ B5.out) (fun hHeld => ?_)
 clear hK K
 refine wtk 24 rfl ?_; go_simp
 refine wtk 25 rfl ?_; go_simp
 refine wtk 26 rfl ?_; go_simp
 refine wtk 27 rfl ?_; go_simp
 refine wpAnyH_done (by kernel_rfl) ?_ _
 have HX := Lib.hid (HW.out.trans (B5.out.mono HW.out.size))
 clear HKS CPX
 go_wp2_with fail
 go_ret2
 exact ⟨rfl, HX.out⟩
theorem rputPutFeed_2 (t : List UInt8) (n : Int) (w : World) (ht : t.length ≤ 9223372036854775807) (h1 : 0 ≤ n) (h2 : n ≤ 1000000) : Calls Tryz.prog 43 #[.agg #[str t, .int .i64 n]] w fun e w' => e = .returned (.tuple #[str (refO (feedMs t n) (shortB t)).1, .int .i64 (refO (feedMs t n) (shortB t)).2]) ∧ Below w.heap.size w w' := by
 obtain ⟨W1, hW1⟩ : ∃ W1, W1 = w.alloc (.cells #[str t, .int .i64 n] 55) := ⟨_, rfl⟩
 have hb1 : Below w.heap.size w W1 := by rw [hW1]; exact below_alloc _ _
 have hbx : W1.heap[w.heap.size]? = some (.cells #[str t, .int .i64 n] 55 (0, 0)) := by rw [hW1]; exact heap_alloc_new _ _
 have HKS := Lib.hid (sbpFeed hbx)
 have HW := Lib.hid hb1
 have z1 : decide (0 ≤ n) = true := decide_eq_true h1
 have z2 : decide (n ≤ 1000000) = true := decide_eq_true h2
 have CS := Lib.hid (fun W => rshort_any t W ht)
 have CPX := Lib.hid (fun W B h => rpPutFeed_pr t n ht (W1 := W1) (shortB t) W B h)
 obtain ⟨R1, hR1⟩ : ∃ R1, R1 = (refO (feedMs t n) (shortB t)).1 := ⟨_, rfl⟩
 obtain ⟨R2, hR2⟩ : ∃ R2, R2 = (refO (feedMs t n) (shortB t)).2 := ⟨_, rfl⟩
 rw [← hR1, ← hR2] at CPX
 rw [← hR1, ← hR2]
 clear hR1 hR2 hb1 hbx
 clear h1 h2 ht
 go_enter Tryz.func43, Tryz.ntmps43
 go_upto_region 1 with fail
 rw [← hW1]
 clear hW1
 have B0 := Lib.hid (show Below W1.heap.size W1 W1.drew from Below.drewsN (Below.refl _ _) 1)
 refine wp_region_held_drew (S := SBPutFeed t n w.heap.size) (by kernel_rfl) (HKS.out _ B0.out) (fun hHeld => ?_)
 refine wtk 0 rfl ?_; go_simp
 refine wl1 1 rfl ?_; go_simp
 refine wtk 4 rfl ?_; go_simp
 refine wl1 5 rfl ?_; go_simp
 refine wtk 10 rfl ?_; go_simp
 refine wl1 11 rfl ?_; go_simp
 refine wtk 12 rfl ?_; go_simp
 refine wrd 2 rfl fun K hK => ?_
 go_simp
 refine (rnum1_any _ _).mono ?_
 rintro e w1 ⟨rfl, hb⟩
 have B1 := Lib.hid (B0.out.trans (hb.mono B0.out.size))
 clear hb
 go_simp
 refine hK.out _ _ (HKS.out _ B1.out) (fun hHeld => ?_)
 clear hK K
 refine wtk 3 rfl ?_; go_simp
 refine wrd 6 rfl fun K hK => ?_
 go_simp
 refine (rtext1_any _ _).mono ?_
 rintro e w2 ⟨rfl, hb⟩
 have B2 := Lib.hid (B1.out.trans (hb.mono B1.out.size))
 clear hb
 go_simp
 refine hK.out _ _ (HKS.out _ B2.out) (fun hHeld => ?_)
 clear hK K
 refine wtk 7 rfl ?_; go_simp
 refine wrd 8 rfl fun K hK => ?_
 go_simp
 have HO0 := Lib.hid (ObjAt.new (W1 := W1) #[str [110], .int .i64 4, .int .i64 n, str [], .slice none 0 0, .slice none 0 0, str [116, 105, 116, 108, 101], .int .i64 5, .int .i64 0, str t, .slice none 0 0, .slice none 0 0] B2.out)
 have B3 := Lib.hid HO0.out.1
 refine hK.out _ _ (HKS.out _ B3.out) (fun hHeld => ?_)
 clear hK K
 refine wrd 9 rfl fun K hK => ?_
 go_simp
 refine (robj_any _ _ _ _).mono ?_
 rintro e w4 ⟨rfl, hb⟩
 have B4 := Lib.hid (B3.out.trans (hb.mono B3.out.size))
 have HO := Lib.hid (HO0.out.to B4.out hb)
 clear hb
 go_simp
 refine hK.out _ _ (HKS.out _ B4.out) (fun hHeld => ?_)
 clear hK K
 refine wtk 13 rfl ?_; go_simp
 refine wtk 14 rfl ?_; go_simp
 refine wl1 15 rfl ?_; go_simp
 refine wtk 16 rfl ?_; go_simp
 refine wtk 17 rfl ?_; go_simp
 refine wtk 18 rfl ?_; go_simp
 refine wtk 19 rfl ?_; go_simp
 refine wl1 20 rfl ?_; go_simp
 refine wrd 21 rfl fun K hK => ?_
 go_simp
 refine (CS.out _).mono ?_
 rintro e w5 ⟨rfl, rfl⟩
 have B5 := B4
 go_simp
 refine hK.out _ _ (HKS.out _ B5.out) (fun hHeld => ?_)
 clear hK K
 refine wtk 22 rfl ?_; go_simp
 refine wrd 23 rfl fun K hK => ?_
 go_simp
 refine (CPX.out _ _ HO.out).mono ?_
 rintro e w6 ⟨rfl, hb⟩
 have B6 := Lib.hid hb
 clear hb
 go_simp
 refine hK.out _ _ (HKS.out _ B6.out) (fun hHeld => ?_)
 clear hK K
 refine wtk 24 rfl ?_; go_simp
 refine wtk 25 rfl ?_; go_simp
 refine wtk 26 rfl ?_; go_simp
 refine wtk 27 rfl ?_; go_simp
 refine wpAnyH_done (by kernel_rfl) ?_ _
 have HX := Lib.hid (HW.out.trans (B6.out.mono HW.out.size))
 clear HKS CPX
 go_wp2_with fail
 go_ret2
 exact ⟨rfl, HX.out⟩
theorem rpPutState_pr (a : Int) (b : Int) {W1 : World} (ok : Bool) (W : World) (B : Nat) (h : ObjAt W1 #[str [114, 101, 97, 100], .int .i64 4, .int .i64 a, str [], .slice none 0 0, .slice none 0 0, str [115, 116, 97, 114], .int .i64 4, .int .i64 b, str [], .slice none 0 0, .slice none 0 0] B W) : Calls Tryz.prog 61 #[.agg #[.int .i64 7, .int .i64 0, str [], .slice none 0 0, .slice (some ⟨B, 0, none⟩) 2 2], .bool ok] W fun e w' => e = .returned (.tuple #[str (refO (stateMs a b) ok).1, .int .i64 (refO (stateMs a b) ok).2]) ∧ Below W1.heap.size W1 w' := by
 refine (rprinted_any (stateMs a b) ok state_st state_lenM (fun _ => True) W _ (RdJ.mk0 (v := .mk 7 0 [] [] (stateMs a b)) (RdFB.nil _ _ _) (by unfold RdL; trivial) (RdFB.lit6 [[str [114, 101, 97, 100], .int .i64 4, .int .i64 a, str [], .slice none 0 0, .slice none 0 0], [str [115, 116, 97, 114], .int .i64 4, .int .i64 b, str [], .slice none 0 0, .slice none 0 0]] (by simp) h.2 rfl (by simp) trivial) (by
  show RdM W (fun _ => True) (stateMs a b) _
  unfold stateMs RdM
  refine ⟨⟨_, rfl, plainJ _ _ _ _ _⟩, ?_⟩
  unfold RdM
  refine ⟨⟨_, rfl, plainJ _ _ _ _ _⟩, ?_⟩
  unfold RdM
  trivial))).mono ?_
 rintro e w' ⟨rfl, h'⟩
 exact ⟨rfl, h.1.trans (h'.mono h.1.size)⟩
def SBPutState (a : Int) (b : Int) (w0 : Nat) (W : World) : Prop := W.cell? ⟨w0, 0, none⟩ = some (.int .i64 a) ∧ W.cell? ⟨w0, 1, none⟩ = some (.int .i64 b)
theorem sbpState {a : Int} {b : Int} {W1 : World} {b0 : Nat} (hbx : W1.heap[b0]? = some (.cells #[.int .i64 a, .int .i64 b] 58 (0, 0))) : ∀ W', Below W1.heap.size W1 W' → SBPutState a b b0 W' := fun _ hb => ⟨(hb.cell (p := ⟨b0, 0, none⟩) (World.block_lt_of_cell? W1 _ (box_cell hbx 0))).trans (box_cell hbx 0), (hb.cell (p := ⟨b0, 1, none⟩) (World.block_lt_of_cell? W1 _ (box_cell hbx 1))).trans (box_cell hbx 1)⟩
theorem rputPutState_0 (a : Int) (b : Int) (w : World) (h1 : ¬ 0 ≤ a) : Calls Tryz.prog 46 #[.agg #[.int .i64 a, .int .i64 b]] w fun e w' => e = .returned (.tuple #[str (refO (stateMs a b) false).1, .int .i64 (refO (stateMs a b) false).2]) ∧ Below w.heap.size w w' := by
 obtain ⟨W1, hW1⟩ : ∃ W1, W1 = w.alloc (.cells #[.int .i64 a, .int .i64 b] 58) := ⟨_, rfl⟩
 have hb1 : Below w.heap.size w W1 := by rw [hW1]; exact below_alloc _ _
 have hbx : W1.heap[w.heap.size]? = some (.cells #[.int .i64 a, .int .i64 b] 58 (0, 0)) := by rw [hW1]; exact heap_alloc_new _ _
 have HKS := Lib.hid (sbpState hbx)
 have HW := Lib.hid hb1
 have z1 : decide (0 ≤ a) = false := decide_eq_false h1
 have CPX := Lib.hid (fun W B h => rpPutState_pr a b (W1 := W1) false W B h)
 obtain ⟨R1, hR1⟩ : ∃ R1, R1 = (refO (stateMs a b) false).1 := ⟨_, rfl⟩
 obtain ⟨R2, hR2⟩ : ∃ R2, R2 = (refO (stateMs a b) false).2 := ⟨_, rfl⟩
 rw [← hR1, ← hR2] at CPX
 rw [← hR1, ← hR2]
 clear hR1 hR2 hb1 hbx
 clear h1
 go_enter Tryz.func46, Tryz.ntmps46
 go_upto_region 1 with fail
 rw [← hW1]
 clear hW1
 have B0 := Lib.hid (show Below W1.heap.size W1 W1.drew from Below.drewsN (Below.refl _ _) 1)
 refine wp_region_held_drew (S := SBPutState a b w.heap.size) (by kernel_rfl) (HKS.out _ B0.out) (fun hHeld => ?_)
 refine wtk 0 rfl ?_; go_simp
 refine wl1 1 rfl ?_; go_simp
 refine wtk 4 rfl ?_; go_simp
 refine wl1 5 rfl ?_; go_simp
 refine wtk 10 rfl ?_; go_simp
 refine wl1 11 rfl ?_; go_simp
 refine wtk 12 rfl ?_; go_simp
 refine wrd 2 rfl fun K hK => ?_
 go_simp
 refine (rnum1_any _ _).mono ?_
 rintro e w1 ⟨rfl, hb⟩
 have B1 := Lib.hid (B0.out.trans (hb.mono B0.out.size))
 clear hb
 go_simp
 refine hK.out _ _ (HKS.out _ B1.out) (fun hHeld => ?_)
 clear hK K
 refine wtk 3 rfl ?_; go_simp
 refine wrd 6 rfl fun K hK => ?_
 go_simp
 refine (rnum1_any _ _).mono ?_
 rintro e w2 ⟨rfl, hb⟩
 have B2 := Lib.hid (B1.out.trans (hb.mono B1.out.size))
 clear hb
 go_simp
 refine hK.out _ _ (HKS.out _ B2.out) (fun hHeld => ?_)
 clear hK K
 refine wtk 7 rfl ?_; go_simp
 refine wrd 8 rfl fun K hK => ?_
 go_simp
 have HO0 := Lib.hid (ObjAt.new (W1 := W1) #[str [114, 101, 97, 100], .int .i64 4, .int .i64 a, str [], .slice none 0 0, .slice none 0 0, str [115, 116, 97, 114], .int .i64 4, .int .i64 b, str [], .slice none 0 0, .slice none 0 0] B2.out)
 have B3 := Lib.hid HO0.out.1
 refine hK.out _ _ (HKS.out _ B3.out) (fun hHeld => ?_)
 clear hK K
 refine wrd 9 rfl fun K hK => ?_
 go_simp
 refine (robj_any _ _ _ _).mono ?_
 rintro e w4 ⟨rfl, hb⟩
 have B4 := Lib.hid (B3.out.trans (hb.mono B3.out.size))
 have HO := Lib.hid (HO0.out.to B4.out hb)
 clear hb
 go_simp
 refine hK.out _ _ (HKS.out _ B4.out) (fun hHeld => ?_)
 clear hK K
 refine wtk 13 rfl ?_; go_simp
 refine wtu 14 rfl ?_; go_simp
 refine wtu 15 rfl ?_; go_simp
 refine wtu 16 rfl ?_; go_simp
 refine wtk 17 rfl ?_; go_simp
 refine wtk 18 rfl ?_; go_simp
 refine wtu 19 rfl ?_; go_simp
 refine wtu 20 rfl ?_; go_simp
 refine wtu 21 rfl ?_; go_simp
 refine wtu 22 rfl ?_; go_simp
 refine wtu 23 rfl ?_; go_simp
 refine wtu 24 rfl ?_; go_simp
 refine wtu 25 rfl ?_; go_simp
 refine wtu 26 rfl ?_; go_simp
 refine wtk 27 rfl ?_; go_simp
 refine wtk 28 rfl ?_; go_simp
 refine wtu 29 rfl ?_; go_simp
 refine wtu 30 rfl ?_; go_simp
 refine wtu 31 rfl ?_; go_simp
 refine wtu 32 rfl ?_; go_simp
 refine wtu 33 rfl ?_; go_simp
 refine wtu 34 rfl ?_; go_simp
 refine wtk 35 rfl ?_; go_simp
 refine wrd 36 rfl fun K hK => ?_
 go_simp
 refine (CPX.out _ _ HO.out).mono ?_
 rintro e w5 ⟨rfl, hb⟩
 have B5 := Lib.hid hb
 clear hb
 go_simp
 refine hK.out _ _ (HKS.out _ B5.out) (fun hHeld => ?_)
 clear hK K
 refine wtk 37 rfl ?_; go_simp
 refine wtk 38 rfl ?_; go_simp
 refine wtk 39 rfl ?_; go_simp
 refine wtk 40 rfl ?_; go_simp
 refine wpAnyH_done (by kernel_rfl) ?_ _
 have HX := Lib.hid (HW.out.trans (B5.out.mono HW.out.size))
 clear HKS CPX
 go_wp2_with fail
 go_ret2
 exact ⟨rfl, HX.out⟩
theorem rputPutState_1 (a : Int) (b : Int) (w : World) (h1 : 0 ≤ a) (h2 : ¬ a ≤ 2) : Calls Tryz.prog 46 #[.agg #[.int .i64 a, .int .i64 b]] w fun e w' => e = .returned (.tuple #[str (refO (stateMs a b) false).1, .int .i64 (refO (stateMs a b) false).2]) ∧ Below w.heap.size w w' := by
 obtain ⟨W1, hW1⟩ : ∃ W1, W1 = w.alloc (.cells #[.int .i64 a, .int .i64 b] 58) := ⟨_, rfl⟩
 have hb1 : Below w.heap.size w W1 := by rw [hW1]; exact below_alloc _ _
 have hbx : W1.heap[w.heap.size]? = some (.cells #[.int .i64 a, .int .i64 b] 58 (0, 0)) := by rw [hW1]; exact heap_alloc_new _ _
 have HKS := Lib.hid (sbpState hbx)
 have HW := Lib.hid hb1
 have z1 : decide (0 ≤ a) = true := decide_eq_true h1
 have z2 : decide (a ≤ 2) = false := decide_eq_false h2
 have CPX := Lib.hid (fun W B h => rpPutState_pr a b (W1 := W1) false W B h)
 obtain ⟨R1, hR1⟩ : ∃ R1, R1 = (refO (stateMs a b) false).1 := ⟨_, rfl⟩
 obtain ⟨R2, hR2⟩ : ∃ R2, R2 = (refO (stateMs a b) false).2 := ⟨_, rfl⟩
 rw [← hR1, ← hR2] at CPX
 rw [← hR1, ← hR2]
 clear hR1 hR2 hb1 hbx
 clear h1 h2
 go_enter Tryz.func46, Tryz.ntmps46
 go_upto_region 1 with fail
 rw [← hW1]
 clear hW1
 have B0 := Lib.hid (show Below W1.heap.size W1 W1.drew from Below.drewsN (Below.refl _ _) 1)
 refine wp_region_held_drew (S := SBPutState a b w.heap.size) (by kernel_rfl) (HKS.out _ B0.out) (fun hHeld => ?_)
 refine wtk 0 rfl ?_; go_simp
 refine wl1 1 rfl ?_; go_simp
 refine wtk 4 rfl ?_; go_simp
 refine wl1 5 rfl ?_; go_simp
 refine wtk 10 rfl ?_; go_simp
 refine wl1 11 rfl ?_; go_simp
 refine wtk 12 rfl ?_; go_simp
 refine wrd 2 rfl fun K hK => ?_
 go_simp
 refine (rnum1_any _ _).mono ?_
 rintro e w1 ⟨rfl, hb⟩
 have B1 := Lib.hid (B0.out.trans (hb.mono B0.out.size))
 clear hb
 go_simp
 refine hK.out _ _ (HKS.out _ B1.out) (fun hHeld => ?_)
 clear hK K
 refine wtk 3 rfl ?_; go_simp
 refine wrd 6 rfl fun K hK => ?_
 go_simp
 refine (rnum1_any _ _).mono ?_
 rintro e w2 ⟨rfl, hb⟩
 have B2 := Lib.hid (B1.out.trans (hb.mono B1.out.size))
 clear hb
 go_simp
 refine hK.out _ _ (HKS.out _ B2.out) (fun hHeld => ?_)
 clear hK K
 refine wtk 7 rfl ?_; go_simp
 refine wrd 8 rfl fun K hK => ?_
 go_simp
 have HO0 := Lib.hid (ObjAt.new (W1 := W1) #[str [114, 101, 97, 100], .int .i64 4, .int .i64 a, str [], .slice none 0 0, .slice none 0 0, str [115, 116, 97, 114], .int .i64 4, .int .i64 b, str [], .slice none 0 0, .slice none 0 0] B2.out)
 have B3 := Lib.hid HO0.out.1
 refine hK.out _ _ (HKS.out _ B3.out) (fun hHeld => ?_)
 clear hK K
 refine wrd 9 rfl fun K hK => ?_
 go_simp
 refine (robj_any _ _ _ _).mono ?_
 rintro e w4 ⟨rfl, hb⟩
 have B4 := Lib.hid (B3.out.trans (hb.mono B3.out.size))
 have HO := Lib.hid (HO0.out.to B4.out hb)
 clear hb
 go_simp
 refine hK.out _ _ (HKS.out _ B4.out) (fun hHeld => ?_)
 clear hK K
 refine wtk 13 rfl ?_; go_simp
 refine wtk 14 rfl ?_; go_simp
 refine wl1 15 rfl ?_; go_simp
 refine wtk 16 rfl ?_; go_simp
 refine wtk 17 rfl ?_; go_simp
 refine wtk 18 rfl ?_; go_simp
 refine wtu 19 rfl ?_; go_simp
 refine wtu 20 rfl ?_; go_simp
 refine wtu 21 rfl ?_; go_simp
 refine wtu 22 rfl ?_; go_simp
 refine wtu 23 rfl ?_; go_simp
 refine wtu 24 rfl ?_; go_simp
 refine wtu 25 rfl ?_; go_simp
 refine wtu 26 rfl ?_; go_simp
 refine wtk 27 rfl ?_; go_simp
 refine wtk 28 rfl ?_; go_simp
 refine wtu 29 rfl ?_; go_simp
 refine wtu 30 rfl ?_; go_simp
 refine wtu 31 rfl ?_; go_simp
 refine wtu 32 rfl ?_; go_simp
 refine wtu 33 rfl ?_; go_simp
 refine wtu 34 rfl ?_; go_simp
 refine wtk 35 rfl ?_; go_simp
 refine wrd 36 rfl fun K hK => ?_
 go_simp
 refine (CPX.out _ _ HO.out).mono ?_
 rintro e w5 ⟨rfl, hb⟩
 have B5 := Lib.hid hb
 clear hb
 go_simp
 refine hK.out _ _ (HKS.out _ B5.out) (fun hHeld => ?_)
 clear hK K
 refine wtk 37 rfl ?_; go_simp
 refine wtk 38 rfl ?_; go_simp
 refine wtk 39 rfl ?_; go_simp
 refine wtk 40 rfl ?_; go_simp
 refine wpAnyH_done (by kernel_rfl) ?_ _
 have HX := Lib.hid (HW.out.trans (B5.out.mono HW.out.size))
 clear HKS CPX
 go_wp2_with fail
 go_ret2
 exact ⟨rfl, HX.out⟩
theorem rputPutState_2 (a : Int) (b : Int) (w : World) (h1 : 0 ≤ a) (h2 : a ≤ 2) (h3 : ¬ b = 0) (h4 : ¬ b = 1) : Calls Tryz.prog 46 #[.agg #[.int .i64 a, .int .i64 b]] w fun e w' => e = .returned (.tuple #[str (refO (stateMs a b) false).1, .int .i64 (refO (stateMs a b) false).2]) ∧ Below w.heap.size w w' := by
 obtain ⟨W1, hW1⟩ : ∃ W1, W1 = w.alloc (.cells #[.int .i64 a, .int .i64 b] 58) := ⟨_, rfl⟩
 have hb1 : Below w.heap.size w W1 := by rw [hW1]; exact below_alloc _ _
 have hbx : W1.heap[w.heap.size]? = some (.cells #[.int .i64 a, .int .i64 b] 58 (0, 0)) := by rw [hW1]; exact heap_alloc_new _ _
 have HKS := Lib.hid (sbpState hbx)
 have HW := Lib.hid hb1
 have z1 : decide (0 ≤ a) = true := decide_eq_true h1
 have z2 : decide (a ≤ 2) = true := decide_eq_true h2
 have z3 : (b == 0) = false := by rw [beq_eq_false_iff_ne]; exact h3
 have z4 : (b == 1) = false := by rw [beq_eq_false_iff_ne]; exact h4
 have CPX := Lib.hid (fun W B h => rpPutState_pr a b (W1 := W1) false W B h)
 obtain ⟨R1, hR1⟩ : ∃ R1, R1 = (refO (stateMs a b) false).1 := ⟨_, rfl⟩
 obtain ⟨R2, hR2⟩ : ∃ R2, R2 = (refO (stateMs a b) false).2 := ⟨_, rfl⟩
 rw [← hR1, ← hR2] at CPX
 rw [← hR1, ← hR2]
 clear hR1 hR2 hb1 hbx
 clear h1 h2 h3 h4
 go_enter Tryz.func46, Tryz.ntmps46
 go_upto_region 1 with fail
 rw [← hW1]
 clear hW1
 have B0 := Lib.hid (show Below W1.heap.size W1 W1.drew from Below.drewsN (Below.refl _ _) 1)
 refine wp_region_held_drew (S := SBPutState a b w.heap.size) (by kernel_rfl) (HKS.out _ B0.out) (fun hHeld => ?_)
 refine wtk 0 rfl ?_; go_simp
 refine wl1 1 rfl ?_; go_simp
 refine wtk 4 rfl ?_; go_simp
 refine wl1 5 rfl ?_; go_simp
 refine wtk 10 rfl ?_; go_simp
 refine wl1 11 rfl ?_; go_simp
 refine wtk 12 rfl ?_; go_simp
 refine wrd 2 rfl fun K hK => ?_
 go_simp
 refine (rnum1_any _ _).mono ?_
 rintro e w1 ⟨rfl, hb⟩
 have B1 := Lib.hid (B0.out.trans (hb.mono B0.out.size))
 clear hb
 go_simp
 refine hK.out _ _ (HKS.out _ B1.out) (fun hHeld => ?_)
 clear hK K
 refine wtk 3 rfl ?_; go_simp
 refine wrd 6 rfl fun K hK => ?_
 go_simp
 refine (rnum1_any _ _).mono ?_
 rintro e w2 ⟨rfl, hb⟩
 have B2 := Lib.hid (B1.out.trans (hb.mono B1.out.size))
 clear hb
 go_simp
 refine hK.out _ _ (HKS.out _ B2.out) (fun hHeld => ?_)
 clear hK K
 refine wtk 7 rfl ?_; go_simp
 refine wrd 8 rfl fun K hK => ?_
 go_simp
 have HO0 := Lib.hid (ObjAt.new (W1 := W1) #[str [114, 101, 97, 100], .int .i64 4, .int .i64 a, str [], .slice none 0 0, .slice none 0 0, str [115, 116, 97, 114], .int .i64 4, .int .i64 b, str [], .slice none 0 0, .slice none 0 0] B2.out)
 have B3 := Lib.hid HO0.out.1
 refine hK.out _ _ (HKS.out _ B3.out) (fun hHeld => ?_)
 clear hK K
 refine wrd 9 rfl fun K hK => ?_
 go_simp
 refine (robj_any _ _ _ _).mono ?_
 rintro e w4 ⟨rfl, hb⟩
 have B4 := Lib.hid (B3.out.trans (hb.mono B3.out.size))
 have HO := Lib.hid (HO0.out.to B4.out hb)
 clear hb
 go_simp
 refine hK.out _ _ (HKS.out _ B4.out) (fun hHeld => ?_)
 clear hK K
 refine wtk 13 rfl ?_; go_simp
 refine wtk 14 rfl ?_; go_simp
 refine wl1 15 rfl ?_; go_simp
 refine wtk 16 rfl ?_; go_simp
 refine wtk 17 rfl ?_; go_simp
 refine wtk 18 rfl ?_; go_simp
 refine wtk 19 rfl ?_; go_simp
 refine wl1 20 rfl ?_; go_simp
 refine wtk 21 rfl ?_; go_simp
 refine wtk 22 rfl ?_; go_simp
 refine wtk 23 rfl ?_; go_simp
 refine wl1 24 rfl ?_; go_simp
 refine wtk 25 rfl ?_; go_simp
 refine wtk 26 rfl ?_; go_simp
 refine wtk 27 rfl ?_; go_simp
 refine wtk 28 rfl ?_; go_simp
 refine wtu 29 rfl ?_; go_simp
 refine wtu 30 rfl ?_; go_simp
 refine wtu 31 rfl ?_; go_simp
 refine wtu 32 rfl ?_; go_simp
 refine wtu 33 rfl ?_; go_simp
 refine wtu 34 rfl ?_; go_simp
 refine wtk 35 rfl ?_; go_simp
 refine wrd 36 rfl fun K hK => ?_
 go_simp
 refine (CPX.out _ _ HO.out).mono ?_
 rintro e w5 ⟨rfl, hb⟩
 have B5 := Lib.hid hb
 clear hb
 go_simp
 refine hK.out _ _ (HKS.out _ B5.out) (fun hHeld => ?_)
 clear hK K
 refine wtk 37 rfl ?_; go_simp
 refine wtk 38 rfl ?_; go_simp
 refine wtk 39 rfl ?_; go_simp
 refine wtk 40 rfl ?_; go_simp
 refine wpAnyH_done (by kernel_rfl) ?_ _
 have HX := Lib.hid (HW.out.trans (B5.out.mono HW.out.size))
 clear HKS CPX
 go_wp2_with fail
 go_ret2
 exact ⟨rfl, HX.out⟩
theorem rputPutState_3 (a : Int) (b : Int) (w : World) (h1 : 0 ≤ a) (h2 : a ≤ 2) (h3 : b = 0) : Calls Tryz.prog 46 #[.agg #[.int .i64 a, .int .i64 b]] w fun e w' => e = .returned (.tuple #[str (refO (stateMs a b) (decide (0 < a + b))).1, .int .i64 (refO (stateMs a b) (decide (0 < a + b))).2]) ∧ Below w.heap.size w w' := by
 obtain ⟨W1, hW1⟩ : ∃ W1, W1 = w.alloc (.cells #[.int .i64 a, .int .i64 b] 58) := ⟨_, rfl⟩
 have hb1 : Below w.heap.size w W1 := by rw [hW1]; exact below_alloc _ _
 have hbx : W1.heap[w.heap.size]? = some (.cells #[.int .i64 a, .int .i64 b] 58 (0, 0)) := by rw [hW1]; exact heap_alloc_new _ _
 have HKS := Lib.hid (sbpState hbx)
 have HW := Lib.hid hb1
 have z1 : decide (0 ≤ a) = true := decide_eq_true h1
 have z2 : decide (a ≤ 2) = true := decide_eq_true h2
 have z3 : (b == 0) = true := by rw [h3]; rfl
 have z5 : IntKind.i64.wrap (a + b) = a + b := IntWalk.i64_in _ ⟨by omega, by omega⟩
 have CPX := Lib.hid (fun W B h => rpPutState_pr a b (W1 := W1) (decide (0 < a + b)) W B h)
 obtain ⟨R1, hR1⟩ : ∃ R1, R1 = (refO (stateMs a b) (decide (0 < a + b))).1 := ⟨_, rfl⟩
 obtain ⟨R2, hR2⟩ : ∃ R2, R2 = (refO (stateMs a b) (decide (0 < a + b))).2 := ⟨_, rfl⟩
 rw [← hR1, ← hR2] at CPX
 rw [← hR1, ← hR2]
 clear hR1 hR2 hb1 hbx
 clear h1 h2 h3
 go_enter Tryz.func46, Tryz.ntmps46
 go_upto_region 1 with fail
 rw [← hW1]
 clear hW1
 have B0 := Lib.hid (show Below W1.heap.size W1 W1.drew from Below.drewsN (Below.refl _ _) 1)
 refine wp_region_held_drew (S := SBPutState a b w.heap.size) (by kernel_rfl) (HKS.out _ B0.out) (fun hHeld => ?_)
 refine wtk 0 rfl ?_; go_simp
 refine wl1 1 rfl ?_; go_simp
 refine wtk 4 rfl ?_; go_simp
 refine wl1 5 rfl ?_; go_simp
 refine wtk 10 rfl ?_; go_simp
 refine wl1 11 rfl ?_; go_simp
 refine wtk 12 rfl ?_; go_simp
 refine wrd 2 rfl fun K hK => ?_
 go_simp
 refine (rnum1_any _ _).mono ?_
 rintro e w1 ⟨rfl, hb⟩
 have B1 := Lib.hid (B0.out.trans (hb.mono B0.out.size))
 clear hb
 go_simp
 refine hK.out _ _ (HKS.out _ B1.out) (fun hHeld => ?_)
 clear hK K
 refine wtk 3 rfl ?_; go_simp
 refine wrd 6 rfl fun K hK => ?_
 go_simp
 refine (rnum1_any _ _).mono ?_
 rintro e w2 ⟨rfl, hb⟩
 have B2 := Lib.hid (B1.out.trans (hb.mono B1.out.size))
 clear hb
 go_simp
 refine hK.out _ _ (HKS.out _ B2.out) (fun hHeld => ?_)
 clear hK K
 refine wtk 7 rfl ?_; go_simp
 refine wrd 8 rfl fun K hK => ?_
 go_simp
 have HO0 := Lib.hid (ObjAt.new (W1 := W1) #[str [114, 101, 97, 100], .int .i64 4, .int .i64 a, str [], .slice none 0 0, .slice none 0 0, str [115, 116, 97, 114], .int .i64 4, .int .i64 b, str [], .slice none 0 0, .slice none 0 0] B2.out)
 have B3 := Lib.hid HO0.out.1
 refine hK.out _ _ (HKS.out _ B3.out) (fun hHeld => ?_)
 clear hK K
 refine wrd 9 rfl fun K hK => ?_
 go_simp
 refine (robj_any _ _ _ _).mono ?_
 rintro e w4 ⟨rfl, hb⟩
 have B4 := Lib.hid (B3.out.trans (hb.mono B3.out.size))
 have HO := Lib.hid (HO0.out.to B4.out hb)
 clear hb
 go_simp
 refine hK.out _ _ (HKS.out _ B4.out) (fun hHeld => ?_)
 clear hK K
 refine wtk 13 rfl ?_; go_simp
 refine wtk 14 rfl ?_; go_simp
 refine wl1 15 rfl ?_; go_simp
 refine wtk 16 rfl ?_; go_simp
 refine wtk 17 rfl ?_; go_simp
 refine wtk 18 rfl ?_; go_simp
 refine wtk 19 rfl ?_; go_simp
 refine wl1 20 rfl ?_; go_simp
 refine wtk 21 rfl ?_; go_simp
 refine wtk 22 rfl ?_; go_simp
 refine wtu 23 rfl ?_; go_simp
 refine wtu 24 rfl ?_; go_simp
 refine wtu 25 rfl ?_; go_simp
 refine wtk 26 rfl ?_; go_simp
 refine wtk 27 rfl ?_; go_simp
 refine wtk 28 rfl ?_; go_simp
 refine wtk 29 rfl ?_; go_simp
 refine wl1 30 rfl ?_; go_simp
 refine wtk 31 rfl ?_; go_simp
 refine wl1 32 rfl ?_; go_simp
 refine wtk 33 rfl ?_; go_simp
 refine wtk 34 rfl ?_; go_simp
 refine wtk 35 rfl ?_; go_simp
 refine wrd 36 rfl fun K hK => ?_
 go_simp
 refine (CPX.out _ _ HO.out).mono ?_
 rintro e w5 ⟨rfl, hb⟩
 have B5 := Lib.hid hb
 clear hb
 go_simp
 refine hK.out _ _ (HKS.out _ B5.out) (fun hHeld => ?_)
 clear hK K
 refine wtk 37 rfl ?_; go_simp
 refine wtk 38 rfl ?_; go_simp
 refine wtk 39 rfl ?_; go_simp
 refine wtk 40 rfl ?_; go_simp
 refine wpAnyH_done (by kernel_rfl) ?_ _
 have HX := Lib.hid (HW.out.trans (B5.out.mono HW.out.size))
 clear HKS CPX
 go_wp2_with fail
 go_ret2
 exact ⟨rfl, HX.out⟩
theorem rputPutState_4 (a : Int) (b : Int) (w : World) (h1 : 0 ≤ a) (h2 : a ≤ 2) (h3 : b = 1) : Calls Tryz.prog 46 #[.agg #[.int .i64 a, .int .i64 b]] w fun e w' => e = .returned (.tuple #[str (refO (stateMs a b) (decide (0 < a + b))).1, .int .i64 (refO (stateMs a b) (decide (0 < a + b))).2]) ∧ Below w.heap.size w w' := by
 obtain ⟨W1, hW1⟩ : ∃ W1, W1 = w.alloc (.cells #[.int .i64 a, .int .i64 b] 58) := ⟨_, rfl⟩
 have hb1 : Below w.heap.size w W1 := by rw [hW1]; exact below_alloc _ _
 have hbx : W1.heap[w.heap.size]? = some (.cells #[.int .i64 a, .int .i64 b] 58 (0, 0)) := by rw [hW1]; exact heap_alloc_new _ _
 have HKS := Lib.hid (sbpState hbx)
 have HW := Lib.hid hb1
 have z1 : decide (0 ≤ a) = true := decide_eq_true h1
 have z2 : decide (a ≤ 2) = true := decide_eq_true h2
 have z3 : (b == 0) = false := by rw [h3]; rfl
 have z4 : (b == 1) = true := by rw [h3]; rfl
 have z5 : IntKind.i64.wrap (a + b) = a + b := IntWalk.i64_in _ ⟨by omega, by omega⟩
 have CPX := Lib.hid (fun W B h => rpPutState_pr a b (W1 := W1) (decide (0 < a + b)) W B h)
 obtain ⟨R1, hR1⟩ : ∃ R1, R1 = (refO (stateMs a b) (decide (0 < a + b))).1 := ⟨_, rfl⟩
 obtain ⟨R2, hR2⟩ : ∃ R2, R2 = (refO (stateMs a b) (decide (0 < a + b))).2 := ⟨_, rfl⟩
 rw [← hR1, ← hR2] at CPX
 rw [← hR1, ← hR2]
 clear hR1 hR2 hb1 hbx
 clear h1 h2 h3
 go_enter Tryz.func46, Tryz.ntmps46
 go_upto_region 1 with fail
 rw [← hW1]
 clear hW1
 have B0 := Lib.hid (show Below W1.heap.size W1 W1.drew from Below.drewsN (Below.refl _ _) 1)
 refine wp_region_held_drew (S := SBPutState a b w.heap.size) (by kernel_rfl) (HKS.out _ B0.out) (fun hHeld => ?_)
 refine wtk 0 rfl ?_; go_simp
 refine wl1 1 rfl ?_; go_simp
 refine wtk 4 rfl ?_; go_simp
 refine wl1 5 rfl ?_; go_simp
 refine wtk 10 rfl ?_; go_simp
 refine wl1 11 rfl ?_; go_simp
 refine wtk 12 rfl ?_; go_simp
 refine wrd 2 rfl fun K hK => ?_
 go_simp
 refine (rnum1_any _ _).mono ?_
 rintro e w1 ⟨rfl, hb⟩
 have B1 := Lib.hid (B0.out.trans (hb.mono B0.out.size))
 clear hb
 go_simp
 refine hK.out _ _ (HKS.out _ B1.out) (fun hHeld => ?_)
 clear hK K
 refine wtk 3 rfl ?_; go_simp
 refine wrd 6 rfl fun K hK => ?_
 go_simp
 refine (rnum1_any _ _).mono ?_
 rintro e w2 ⟨rfl, hb⟩
 have B2 := Lib.hid (B1.out.trans (hb.mono B1.out.size))
 clear hb
 go_simp
 refine hK.out _ _ (HKS.out _ B2.out) (fun hHeld => ?_)
 clear hK K
 refine wtk 7 rfl ?_; go_simp
 refine wrd 8 rfl fun K hK => ?_
 go_simp
 have HO0 := Lib.hid (ObjAt.new (W1 := W1) #[str [114, 101, 97, 100], .int .i64 4, .int .i64 a, str [], .slice none 0 0, .slice none 0 0, str [115, 116, 97, 114], .int .i64 4, .int .i64 b, str [], .slice none 0 0, .slice none 0 0] B2.out)
 have B3 := Lib.hid HO0.out.1
 refine hK.out _ _ (HKS.out _ B3.out) (fun hHeld => ?_)
 clear hK K
 refine wrd 9 rfl fun K hK => ?_
 go_simp
 refine (robj_any _ _ _ _).mono ?_
 rintro e w4 ⟨rfl, hb⟩
 have B4 := Lib.hid (B3.out.trans (hb.mono B3.out.size))
 have HO := Lib.hid (HO0.out.to B4.out hb)
 clear hb
 go_simp
 refine hK.out _ _ (HKS.out _ B4.out) (fun hHeld => ?_)
 clear hK K
 refine wtk 13 rfl ?_; go_simp
 refine wtk 14 rfl ?_; go_simp
 refine wl1 15 rfl ?_; go_simp
 refine wtk 16 rfl ?_; go_simp
 refine wtk 17 rfl ?_; go_simp
 refine wtk 18 rfl ?_; go_simp
 refine wtk 19 rfl ?_; go_simp
 refine wl1 20 rfl ?_; go_simp
 refine wtk 21 rfl ?_; go_simp
 refine wtk 22 rfl ?_; go_simp
 refine wtk 23 rfl ?_; go_simp
 refine wl1 24 rfl ?_; go_simp
 refine wtk 25 rfl ?_; go_simp
 refine wtk 26 rfl ?_; go_simp
 refine wtk 27 rfl ?_; go_simp
 refine wtk 28 rfl ?_; go_simp
 refine wtk 29 rfl ?_; go_simp
 refine wl1 30 rfl ?_; go_simp
 refine wtk 31 rfl ?_; go_simp
 refine wl1 32 rfl ?_; go_simp
 refine wtk 33 rfl ?_; go_simp
 refine wtk 34 rfl ?_; go_simp
 refine wtk 35 rfl ?_; go_simp
 refine wrd 36 rfl fun K hK => ?_
 go_simp
 refine (CPX.out _ _ HO.out).mono ?_
 rintro e w5 ⟨rfl, hb⟩
 have B5 := Lib.hid hb
 clear hb
 go_simp
 refine hK.out _ _ (HKS.out _ B5.out) (fun hHeld => ?_)
 clear hK K
 refine wtk 37 rfl ?_; go_simp
 refine wtk 38 rfl ?_; go_simp
 refine wtk 39 rfl ?_; go_simp
 refine wtk 40 rfl ?_; go_simp
 refine wpAnyH_done (by kernel_rfl) ?_ _
 have HX := Lib.hid (HW.out.trans (B5.out.mono HW.out.size))
 clear HKS CPX
 go_wp2_with fail
 go_ret2
 exact ⟨rfl, HX.out⟩
theorem infoRjV : (Tryz.prog.info? 95).map (fun i => (i.zero, i.size, i.bytes)) = some (some (.agg #[.int .i64 0, .int .i64 0, str [], .slice none 0 0, .slice none 0 0]), 5, 80) := by kernel_rfl
def RowRj (base : Nat) (acc : List JV) (vl : Value) (W : World) : Prop :=
 ∃ rows, W.ownsRow base 95 5 vl acc.length rows.flatten ∧ RdL W (fun i => base ≤ i ∧ i < W.heap.size ∧ vl.ownBlock ≠ some i) acc rows
theorem RowRj.up {base : Nat} {acc : List JV} {vl : Value} {W W' : World} (h : RowRj base acc vl W) (hb : Below W.heap.size W W') : RowRj base acc vl W' := by
 obtain ⟨rows, h1, h2⟩ := h
 exact ⟨rows, owns_below h1 hb (Nat.le_refl _), (h2.up hb).mono (fun i hi hF => ⟨hF.1, hi, hF.2.2⟩)⟩
theorem RowRj.add {base B0 : Nat} {acc : List JV} {vl : Value} {rows : List (List Value)} {W w4 : World} {g cap : Nat} {v : JV} {cs : List Value} {ob : Obj} (_ : W.ownsRow base 95 5 vl acc.length rows.flatten) (h4 : RdL W (fun i => base ≤ i ∧ i < W.heap.size ∧ vl.ownBlock ≠ some i) acc rows) (hB : base ≤ B0)
 (hvb : ∀ k, vl.ownBlock = some k → k < B0) (hv : RdJ W (fun i => B0 ≤ i) v cs)
 (ho : w4.ownsRow base 95 5 (.slice (some ⟨g, 0, none⟩) (acc.length + 1) cap) (acc.length + 1) (rows.flatten ++ cs)) (hg : (W.alloc ob).grownBy w4 vl.ownBlock) (hl : vl.ownBlock = some g ∨ g = W.heap.size + 1) :
 RowRj base (acc ++ [v]) (.slice (some ⟨g, 0, none⟩) (acc.length + 1) cap) w4 ∧ Frm (fun i => vl.ownBlock = some i) W w4 := by
 have f1 : Frm (fun i => vl.ownBlock = some i) W w4 := (Frm.of_below (below_alloc W ob)).trans (Frm.of_grown hg (fun k hk => hk)) (fun _ _ h => h)
 refine ⟨⟨rows ++ [cs], ?_, RdL.snoc ?_ ?_⟩, f1⟩
 · rw [List.flatten_append, List.length_append]
   simp only [List.flatten_cons, List.flatten_nil, List.append_nil, List.length_singleton]
   exact ho
 · refine RdJ.mono (F := fun i => B0 ≤ i ∧ i < W.heap.size) ?_ (fun i hi hF => ⟨by omega, hi, fun e => ?_⟩)
   · exact (hv.mono (G := fun i => B0 ≤ i ∧ i < W.heap.size) (fun i hi hF => ⟨hF, hi⟩)).frm f1 (fun i hi e => by have := hvb i e; omega)
   simp only [Value.ownBlock, Option.some.injEq] at e
   subst e
   rcases hl with h | h
   · have := hvb _ h; omega
   omega
 have := h4.frm f1 (fun i hi e => hi.2.2 e)
 refine this.mono (fun i hi hF => ⟨hF.1, hi, fun e => ?_⟩)
 simp only [Value.ownBlock, Option.some.injEq] at e
 subst e
 rcases hl with h | h
 · exact hF.2.2 h
 omega
theorem RowRj.rd {base : Nat} {acc : List JV} {vl : Value} {W : World} (h : RowRj base acc vl W) : ∃ a c rows, vl = .slice a acc.length c ∧ RdFB (fun _ => True) 5 W (.slice a acc.length c) rows ∧ RdL W (fun _ => True) acc rows := by
 obtain ⟨rows, h3, h4⟩ := h
 obtain ⟨r1, r2⟩ := RdL.rows h4
 have hf : ∃ a c, vl = .slice a acc.length c := by
  rcases h3.2 with ⟨rfl, h0⟩ | ⟨g, cap, _, rfl, _⟩
  · exact ⟨none, 0, by rw [h0]⟩
  exact ⟨_, cap, rfl⟩
 obtain ⟨a, c, rfl⟩ := hf
 refine ⟨a, c, rows, rfl, ?_, h4.mono (fun _ _ _ => trivial)⟩
 rw [← r1] at h3 ⊢
 exact RdFB.of_row r2 h3 (fun _ _ => trivial)
theorem RowRj.frm {F : Nat → Prop} {base : Nat} {acc : List JV} {vl : Value} {W W' : World} (h : RowRj base acc vl W) (hf : Frm F W W') (hF : ∀ i, F i → i < base) : RowRj base acc vl W' := by
 obtain ⟨rows, h1, h2⟩ := h
 refine ⟨rows, owns_frm h1 hf (fun k hk e => by have := hF k e; have := (h1.lt k hk).1; omega), ?_⟩
 exact (h2.frm hf (fun i hi e => by have := hF i e; omega)).mono (fun i hi hF => ⟨hF.1, Nat.lt_of_lt_of_le hF.2.1 hf.size, hF.2.2⟩)
structure PmR (w W : World) (B : Nat) (l : List MarkT) (k : Nat) (vl : Value) : Prop where
 bel : Below w.heap.size w W
 lt : w.heap.size ≤ B ∧ B < W.heap.size
 box : W.heap[B]? = some (.cells #[.int .i64 6, .int .i64 0, str [], vl, .slice none 0 0] 95 (0, 0))
 row : RowRj (B + 1) ((l.take k).map markJ) vl W
theorem PmR.up {w W W' : World} {B k : Nat} {l : List MarkT} {vl : Value} (h : PmR w W B l k vl) (hb : Below W.heap.size W W') : PmR w W' B l k vl :=
 ⟨h.bel.trans (hb.mono h.bel.size), ⟨h.lt.1, Nat.lt_of_lt_of_le h.lt.2 hb.size⟩, by rw [hb.block B h.lt.2]; exact h.box, h.row.up hb⟩
theorem PmR.cell {w W : World} {B k : Nat} {l : List MarkT} {vl : Value} (h : PmR w W B l k vl) : W.cell? ⟨B, 3, none⟩ = some vl ∧ W.frozen? ⟨B, 3, none⟩ = false := by
 have hb := h.box
 exact ⟨by simp [World.cell?, hb], frozen_of_row W B 3 _ _ hb⟩
theorem PmR.add {w W w4 : World} {B k g cap b0 : Nat} {l : List MarkT} {vl : Value} {m : MarkT} {acc : List JV} {rows : List (List Value)} {ob : Obj} (h : PmR w W B l k vl) (_ : (l.take k).map markJ = acc) (hl : (l.take (k + 1)).map markJ = acc ++ [markJ m])
 (h1 : W.ownsRow (B + 1) 95 5 vl acc.length rows.flatten) (h4 : RdL W (fun i => B + 1 ≤ i ∧ i < W.heap.size ∧ vl.ownBlock ≠ some i) acc rows) (hB0 : B + 1 ≤ b0) (hvb : ∀ j, vl.ownBlock = some j → j < b0)
 (hb0 : W.heap[b0]? = some (.cells #[.int .i64 4, .int .i64 m.1, str [], .slice none 0 0, .slice none 0 0, .int .i64 4, .int .i64 m.2, str [], .slice none 0 0, .slice none 0 0] 95 (0, 0)))
 (ho : w4.ownsRow (B + 1) 95 5 (.slice (some ⟨g, 0, none⟩) (acc.length + 1) cap) (acc.length + 1) (rows.flatten ++ [.int .i64 6, .int .i64 0, str [], .slice (some ⟨b0, 0, none⟩) 2 2, .slice none 0 0])) (hg : (W.alloc ob).grownBy w4 vl.ownBlock) (hl4 : vl.ownBlock = some g ∨ g = W.heap.size + 1) :
 PmR w (w4.setCell ⟨B, 3, none⟩ (.slice (some ⟨g, 0, none⟩) (acc.length + 1) cap)) B l (k + 1) (.slice (some ⟨g, 0, none⟩) (acc.length + 1) cap) ∧ w4.cell? ⟨B, 3, none⟩ = some vl ∧ w4.frozen? ⟨B, 3, none⟩ = false ∧ Below w.heap.size w w4 := by
 obtain ⟨h5, h6⟩ := RowRj.add h1 h4 hB0 hvb (markJ_lies (F := fun i => b0 ≤ i) m hb0 (Nat.le_refl _)) ho hg hl4
 have hnB : ¬ vl.ownBlock = some B := fun e => by have := (h1.lt B e).1; omega
 have hbx : w4.heap[B]? = some (.cells #[.int .i64 6, .int .i64 0, str [], vl, .slice none 0 0] 95 (0, 0)) := by rw [h6.block B h.lt.2 hnB]; exact h.box
 have hbel : Below w.heap.size w w4 := h.bel.trans (h6.below h.bel.size (fun j hj => by have := (h1.lt j hj).1; have := h.lt.1; omega))
 have f2 : Frm (fun i => i = B) w4 (w4.setCell ⟨B, 3, none⟩ (.slice (some ⟨g, 0, none⟩) (acc.length + 1) cap)) := Frm.set _ rfl
 refine ⟨⟨hbel.trans (f2.below hbel.size (fun j hj => by subst hj; exact h.lt.1)), ⟨h.lt.1, Nat.lt_of_lt_of_le (Array.getElem?_eq_some_iff.1 hbx).1 f2.size⟩, ?_, ?_⟩, by simp [World.cell?, hbx], frozen_of_row w4 B 3 _ _ hbx, hbel⟩
 · rw [heap_setCell_same w4 B 3 _ _ _ hbx]
   rfl
 rw [hl]
 exact h5.frm f2 (fun i hi => by omega)
def SMk (bA o : Nat) (m : MarkT) (W : World) : Prop := W.cell? ⟨bA, o, none⟩ = some (.int .i64 m.1) ∧ W.cell? ⟨bA, o + 1, none⟩ = some (.int .i64 m.2)
theorem mks_lenI {l : List MarkT} (hlen : l.length ≤ 50) (hI : ∀ m ∈ l, (-9223372036854775808 ≤ m.1 ∧ m.1 ≤ 9223372036854775807) ∧ (-9223372036854775808 ≤ m.2 ∧ m.2 ≤ 9223372036854775807)) : (prV (.mk 7 0 [] [] (mksMs l))).length ≤ 1000000 := by
 have key : ∀ l : List MarkT, (∀ m ∈ l, (-9223372036854775808 ≤ m.1 ∧ m.1 ≤ 9223372036854775807) ∧ (-9223372036854775808 ≤ m.2 ∧ m.2 ≤ 9223372036854775807)) → (prT (l.map markJ)).length ≤ 50 * l.length := by
  intro l
  induction l with
  | nil => intro _; simp [prT]
  | cons m t ih =>
   intro h
   have ih := ih (fun x hx => h x (by simp [hx]))
   have hm := h m (by simp)
   have h1 := itoa_short hm.1
   have h2 := itoa_short hm.2
   rw [List.map_cons, prT]
   have e : prV (markJ m) = 91 :: ((prT [.mk 4 m.1 [] [] [], .mk 4 m.2 [] [] []]).drop 1 ++ [93]) := rfl
   have e1 : prV (.mk 4 m.1 [] [] []) = Lib.itoa m.1 := rfl
   have e2 : prV (.mk 4 m.2 [] [] []) = Lib.itoa m.2 := rfl
   rw [e]
   simp [prT, e1, e2]
   omega
 have h1 := key l hI
 have e : prV (.mk 7 0 [] [] (mksMs l)) = 123 :: ((prU (mksMs l)).drop 1 ++ [125]) := rfl
 have e1 : prV (.mk 6 0 [] (l.map markJ) []) = 91 :: ((prT (l.map markJ)).drop 1 ++ [93]) := rfl
 have e2 : (quo marksN).length = 7 := by decide
 rw [e]
 simp [mksMs, prU, e1, e2]
 omega
theorem mark_stL : ∀ l : List MarkT, stL (l.map markJ)
 | [] => by unfold List.map stL; trivial
 | m :: t => by
   rw [List.map_cons]
   unfold stL
   refine ⟨?_, mark_stL t⟩
   unfold markJ
   simp [stV, stL, stM]
theorem mks_st {l : List MarkT} : stM (mksMs l) := by
 unfold mksMs stM
 refine ⟨by decide, ?_, by unfold stM; trivial⟩
 unfold stV
 exact ⟨by simp, mark_stL l, by unfold stM; trivial⟩
set_option maxRecDepth 100000 in
set_option maxHeartbeats 8000000 in
theorem rputMks_any (v : Value) (l : List MarkT) (w : World) (hv : RdMk w v l) (hlen : l.length ≤ 50) (hI : ∀ m ∈ l, (-9223372036854775808 ≤ m.1 ∧ m.1 ≤ 9223372036854775807) ∧ (-9223372036854775808 ≤ m.2 ∧ m.2 ≤ 9223372036854775807)) :
 Calls Tryz.prog 47 #[v] w fun e w' => e = .returned (.tuple #[str (refO (mksMs l) (mayLk l)).1, .int .i64 (refO (mksMs l) (mayLk l)).2]) ∧ Below w.heap.size w w' := by
 obtain ⟨i0, hi, hz0, hz1, hz2⟩ := info_parts infoRjV
 have HV := Lib.hid hv
 have HL := Lib.hid (mks_lenI hlen hI)
 obtain ⟨av, cv, rfl, _⟩ := hv.form
 obtain ⟨MB, hMB⟩ : ∃ MB, MB = mayLk l := ⟨_, rfl⟩
 rw [← hMB]
 obtain ⟨R1, hR1⟩ : ∃ R1, R1 = (refO (mksMs l) MB).1 := ⟨_, rfl⟩
 obtain ⟨R2, hR2⟩ : ∃ R2, R2 = (refO (mksMs l) MB).2 := ⟨_, rfl⟩
 rw [← hR1, ← hR2]
 have HMB := Lib.hid hMB
 have HR1 := Lib.hid hR1
 have HR2 := Lib.hid hR2
 clear hv hI hMB hR1 hR2
 go_enter Tryz.func47, Tryz.ntmps47
 go_wp2_with fail
 go_loopw [5] (fun i wr => ∃ (k : Nat) (vl : Value), k ≤ l.length ∧ i = .int .i64 (k : Int) ∧ Hid (PmR w wr w.heap.size l k vl)) (fun i _ => l.length - (intOf i).toNat)
 case atStart => exact ⟨0, .slice none 0 0, Nat.zero_le _, rfl, Lib.hid ⟨below_alloc _ _, ⟨Nat.le_refl _, by simp⟩, heap_alloc_new w _, [], World.ownsRow_nil _ _ _ _, by simp [RdL]⟩⟩
 case round =>
  obtain ⟨k, vl, hk, rfl, HI⟩ := hrel
  by_cases hlt : k < l.length
  · have n1 : (k : Int) < (l.length : Int) := by omega
    have n3 : (0 : Int) ≤ (k : Int) := by omega
    have n4 : IntKind.i64.wrap ((k : Int) + 1) = (k : Int) + 1 := IntWalk.i64_in _ ⟨by omega, by omega⟩
    obtain ⟨b, off, rfl, c0, c1⟩ := HV.out.get hlt
    obtain ⟨m, hmm⟩ : ∃ m, m = l[k] := ⟨_, rfl⟩
    rw [← hmm] at c0 c1
    have HTK : Hid ((l.take (k + 1)).map markJ = (l.take k).map markJ ++ [markJ m]) := Lib.hid (by rw [List.take_add_one, List.getElem?_eq_getElem hlt, Option.toList_some, List.map_append, hmm]; rfl)
    obtain ⟨acc, hacc⟩ : ∃ acc, acc = (l.take k).map markJ := ⟨_, rfl⟩
    have hal : acc.length = k := by rw [hacc]; simp; omega
    have HKM : Hid (∀ W, Below w.heap.size w W → SMk b (off + k * 2) m W) := Lib.hid (fun W hb => ⟨(hb.cell (p := ⟨b, off + k * 2, none⟩) (World.block_lt_of_cell? w _ c0)).trans c0, (hb.cell (p := ⟨b, off + k * 2 + 1, none⟩) (World.block_lt_of_cell? w _ c1)).trans c1⟩)
    rw [← hacc] at HTK
    have HACC := Lib.hid hacc.symm
    have HAL := Lib.hid hal
    have hal5 : acc.length ≤ 50 := by omega
    obtain ⟨W0, hW0⟩ : ∃ W0, W0 = wr.drew := ⟨_, rfl⟩
    have HP : Hid (PmR w W0 w.heap.size l k vl) := Lib.hid (by rw [hW0]; exact HI.out.up (Below.drewsN (Below.refl _ _) 1))
    have HB : Hid (Below W0.heap.size W0 W0) := Lib.hid (Below.refl _ _)
    clear c0 c1 hacc hmm hal HI HV
    go_wp2_with fail
    refine wp_region_held_drew (S := SMk b (off + k * 2) m) (by kernel_rfl) (HKM.out _ (by have := HP.out.bel; rw [hW0] at this; exact this)) (fun hHeld => ?_)
    rw [← hW0] at hHeld ⊢
    clear hW0
    refine wtk 0 rfl ?_; go_simp
    refine wtk 2 rfl ?_; go_simp
    refine wtk 3 rfl ?_; go_simp
    refine wtk 4 rfl ?_; go_simp
    refine wtk 5 rfl ?_; go_simp
    refine wl1 6 rfl ?_; go_simp
    refine wtk 8 rfl ?_; go_simp
    refine wtk 9 rfl ?_; go_simp
    refine wtk 10 rfl ?_; go_simp
    refine wtk 11 rfl ?_; go_simp
    refine wl1 12 rfl ?_; go_simp
    refine wpAnyH_ready (rs := [1, 7]) (by kernel_rfl) (by simp) (AllReadyH.cons rfl (fun K hK => ?_) (AllReadyH.cons rfl (fun K hK => ?_) AllReadyH.nil))
    · have cq := (HP.out.up HB.out).cell.1
      go_simp
      clear cq
      refine hK.out _ _ (HKM.out _ (HP.out.bel.trans (HB.out.mono HP.out.bel.size))) (fun hHeld => ?_)
      clear hK K
      refine wrd 7 rfl fun K hK => ?_
      go_simp
      refine (rnum1_any _ _).mono ?_
      rintro e wq ⟨rfl, hb⟩
      have HB := Lib.hid (HB.out.trans (hb.mono HB.out.size))
      clear hb
      go_simp
      refine hK.out _ _ (HKM.out _ (HP.out.bel.trans (HB.out.mono HP.out.bel.size))) (fun hHeld => ?_)
      clear hK K
      refine wrd 13 rfl fun K hK => ?_
      go_simp
      refine (rnum1_any _ _).mono ?_
      rintro e wq ⟨rfl, hb⟩
      have HB := Lib.hid (HB.out.trans (hb.mono HB.out.size))
      clear hb
      go_simp
      refine hK.out _ _ (HKM.out _ (HP.out.bel.trans (HB.out.mono HP.out.bel.size))) (fun hHeld => ?_)
      clear hK K
      refine wrd 14 rfl fun K hK => ?_
      go_simp
      have HQ := HB
      obtain ⟨WN, hWN⟩ : ∃ W, W = wq.alloc (.cells #[.int .i64 4, .int .i64 m.1, str [], .slice none 0 0, .slice none 0 0, .int .i64 4, .int .i64 m.2, str [], .slice none 0 0, .slice none 0 0] 95) := ⟨_, rfl⟩
      have HN1 := Lib.hid (show WN.heap[wq.heap.size]? = some (.cells #[.int .i64 4, .int .i64 m.1, str [], .slice none 0 0, .slice none 0 0, .int .i64 4, .int .i64 m.2, str [], .slice none 0 0, .slice none 0 0] 95 (0, 0)) by rw [hWN]; exact heap_alloc_new _ _)
      have HB := Lib.hid (show Below W0.heap.size W0 WN by rw [hWN]; exact HQ.out.trans ((below_alloc _ _).mono HQ.out.size))
      rw [← hWN]
      clear hWN
      refine hK.out _ _ (HKM.out _ (HP.out.bel.trans (HB.out.mono HP.out.bel.size))) (fun hHeld => ?_)
      clear hK K
      refine wtk 15 rfl ?_; go_simp
      refine wrd 16 rfl fun K hK => ?_
      go_simp
      have HBN := HB
      obtain ⟨WM, hWM⟩ : ∃ W, W = WN.alloc (.cells #[.int .i64 6, .int .i64 0, .string ⟨#[]⟩, .slice (some ⟨wq.heap.size, 0, none⟩) 2 2, .slice none 0 0] 95) := ⟨_, rfl⟩
      have HM1 := Lib.hid hWM
      have HB := Lib.hid (show Below W0.heap.size W0 WM by rw [hWM]; exact HBN.out.trans ((below_alloc _ _).mono HBN.out.size))
      rw [← hWM]
      clear hWM
      refine hK.out _ _ (HKM.out _ (HP.out.bel.trans (HB.out.mono HP.out.bel.size))) (fun hHeld => ?_)
      clear hK K
      refine wrd 17 rfl fun K hK => ?_
      obtain ⟨rows, ho0, hr0⟩ := (HP.out.up HBN.out).row
      rw [HACC.out] at ho0 hr0
      refine step_append_lies _ (by rfl) _ _ 92 (by rfl) (w.heap.size + 1) 95 i0 _ 5 80 Tryz.underlying92 hi hz0 hz1 hz2 rfl (by decide) vl acc.length rows.flatten (by rfl) (owns_frm (F := fun _ => False) ho0 (Frm.of_below (by rw [HM1.out]; exact below_alloc _ _)) (fun _ _ h => h)) ⟨WN.heap.size, 0, none⟩ 1 1 [.int .i64 6, .int .i64 0, str [], .slice (some ⟨wq.heap.size, 0, none⟩) 2 2, .slice none 0 0] (by rfl) (by rfl) (World.news_of_block (by rw [HM1.out]; exact heap_alloc_new _ _)) (by simp [Value.oneCell']) (by decide) (by simp only [maxLen]; omega) (by omega) (by have := HB.out.size; have := HP.out.lt; omega) _ rfl ?_
      intro g cap w4 ho hg hl4 _
      rw [HM1.out] at hg hl4
      obtain ⟨rows5, ho5, _⟩ := (HP.out.up HQ.out).row
      have HAD := Lib.hid (PmR.add (HP.out.up HBN.out) HACC.out HTK.out ho0 hr0 (b0 := wq.heap.size) (by have := HQ.out.size; have := HP.out.lt; omega) (fun j hj => (ho5.lt j hj).2) HN1.out ho hg (by simpa using hl4))
      clear ho hg hl4 ho0 hr0 ho5
      go_simp
      refine hK.out _ _ (HKM.out _ HAD.out.2.2.2) (fun hHeld => ?_)
      clear hK K
      refine wtk 18 rfl ?_; go_simp
      refine wrd 19 rfl fun K hK => ?_
      have cq := HAD.out.2.1
      have fq := HAD.out.2.2.1
      go_simp
      clear cq fq
      refine hK.out _ _ (HKM.out _ HAD.out.1.bel) (fun hHeld => ?_)
      clear hK K
      refine wpAnyH_done (by kernel_rfl) ?_ _
      have HN := Lib.hid HAD.out.1
      clear HAD HKM HP HB HQ HN1 HTK HACC HBN HM1
      rw [HAL.out] at HN ⊢
      go_wp2_with fail
      go_roundw
      case rel => exact ⟨k + 1, _, by omega, by go_num, HN⟩
      case measure => simp [intOf]; omega
    go_simp
    refine (rnum1_any _ _).mono ?_
    rintro e wq ⟨rfl, hb⟩
    have HB := Lib.hid (HB.out.trans (hb.mono HB.out.size))
    clear hb
    go_simp
    refine hK.out _ _ (HKM.out _ (HP.out.bel.trans (HB.out.mono HP.out.bel.size))) (fun hHeld => ?_)
    clear hK K
    refine wpAnyH_ready (rs := [1, 13]) (by kernel_rfl) (by simp) (AllReadyH.cons rfl (fun K hK => ?_) (AllReadyH.cons rfl (fun K hK => ?_) AllReadyH.nil))
    · have cq := (HP.out.up HB.out).cell.1
      go_simp
      clear cq
      refine hK.out _ _ (HKM.out _ (HP.out.bel.trans (HB.out.mono HP.out.bel.size))) (fun hHeld => ?_)
      clear hK K
      refine wrd 13 rfl fun K hK => ?_
      go_simp
      refine (rnum1_any _ _).mono ?_
      rintro e wq ⟨rfl, hb⟩
      have HB := Lib.hid (HB.out.trans (hb.mono HB.out.size))
      clear hb
      go_simp
      refine hK.out _ _ (HKM.out _ (HP.out.bel.trans (HB.out.mono HP.out.bel.size))) (fun hHeld => ?_)
      clear hK K
      refine wrd 14 rfl fun K hK => ?_
      go_simp
      have HQ := HB
      obtain ⟨WN, hWN⟩ : ∃ W, W = wq.alloc (.cells #[.int .i64 4, .int .i64 m.1, str [], .slice none 0 0, .slice none 0 0, .int .i64 4, .int .i64 m.2, str [], .slice none 0 0, .slice none 0 0] 95) := ⟨_, rfl⟩
      have HN1 := Lib.hid (show WN.heap[wq.heap.size]? = some (.cells #[.int .i64 4, .int .i64 m.1, str [], .slice none 0 0, .slice none 0 0, .int .i64 4, .int .i64 m.2, str [], .slice none 0 0, .slice none 0 0] 95 (0, 0)) by rw [hWN]; exact heap_alloc_new _ _)
      have HB := Lib.hid (show Below W0.heap.size W0 WN by rw [hWN]; exact HQ.out.trans ((below_alloc _ _).mono HQ.out.size))
      rw [← hWN]
      clear hWN
      refine hK.out _ _ (HKM.out _ (HP.out.bel.trans (HB.out.mono HP.out.bel.size))) (fun hHeld => ?_)
      clear hK K
      refine wtk 15 rfl ?_; go_simp
      refine wrd 16 rfl fun K hK => ?_
      go_simp
      have HBN := HB
      obtain ⟨WM, hWM⟩ : ∃ W, W = WN.alloc (.cells #[.int .i64 6, .int .i64 0, .string ⟨#[]⟩, .slice (some ⟨wq.heap.size, 0, none⟩) 2 2, .slice none 0 0] 95) := ⟨_, rfl⟩
      have HM1 := Lib.hid hWM
      have HB := Lib.hid (show Below W0.heap.size W0 WM by rw [hWM]; exact HBN.out.trans ((below_alloc _ _).mono HBN.out.size))
      rw [← hWM]
      clear hWM
      refine hK.out _ _ (HKM.out _ (HP.out.bel.trans (HB.out.mono HP.out.bel.size))) (fun hHeld => ?_)
      clear hK K
      refine wrd 17 rfl fun K hK => ?_
      obtain ⟨rows, ho0, hr0⟩ := (HP.out.up HBN.out).row
      rw [HACC.out] at ho0 hr0
      refine step_append_lies _ (by rfl) _ _ 92 (by rfl) (w.heap.size + 1) 95 i0 _ 5 80 Tryz.underlying92 hi hz0 hz1 hz2 rfl (by decide) vl acc.length rows.flatten (by rfl) (owns_frm (F := fun _ => False) ho0 (Frm.of_below (by rw [HM1.out]; exact below_alloc _ _)) (fun _ _ h => h)) ⟨WN.heap.size, 0, none⟩ 1 1 [.int .i64 6, .int .i64 0, str [], .slice (some ⟨wq.heap.size, 0, none⟩) 2 2, .slice none 0 0] (by rfl) (by rfl) (World.news_of_block (by rw [HM1.out]; exact heap_alloc_new _ _)) (by simp [Value.oneCell']) (by decide) (by simp only [maxLen]; omega) (by omega) (by have := HB.out.size; have := HP.out.lt; omega) _ rfl ?_
      intro g cap w4 ho hg hl4 _
      rw [HM1.out] at hg hl4
      obtain ⟨rows5, ho5, _⟩ := (HP.out.up HQ.out).row
      have HAD := Lib.hid (PmR.add (HP.out.up HBN.out) HACC.out HTK.out ho0 hr0 (b0 := wq.heap.size) (by have := HQ.out.size; have := HP.out.lt; omega) (fun j hj => (ho5.lt j hj).2) HN1.out ho hg (by simpa using hl4))
      clear ho hg hl4 ho0 hr0 ho5
      go_simp
      refine hK.out _ _ (HKM.out _ HAD.out.2.2.2) (fun hHeld => ?_)
      clear hK K
      refine wtk 18 rfl ?_; go_simp
      refine wrd 19 rfl fun K hK => ?_
      have cq := HAD.out.2.1
      have fq := HAD.out.2.2.1
      go_simp
      clear cq fq
      refine hK.out _ _ (HKM.out _ HAD.out.1.bel) (fun hHeld => ?_)
      clear hK K
      refine wpAnyH_done (by kernel_rfl) ?_ _
      have HN := Lib.hid HAD.out.1
      clear HAD HKM HP HB HQ HN1 HTK HACC HBN HM1
      rw [HAL.out] at HN ⊢
      go_wp2_with fail
      go_roundw
      case rel => exact ⟨k + 1, _, by omega, by go_num, HN⟩
      case measure => simp [intOf]; omega
    go_simp
    refine (rnum1_any _ _).mono ?_
    rintro e wq ⟨rfl, hb⟩
    have HB := Lib.hid (HB.out.trans (hb.mono HB.out.size))
    clear hb
    go_simp
    refine hK.out _ _ (HKM.out _ (HP.out.bel.trans (HB.out.mono HP.out.bel.size))) (fun hHeld => ?_)
    clear hK K
    refine wpAnyH_ready (rs := [1, 14]) (by kernel_rfl) (by simp) (AllReadyH.cons rfl (fun K hK => ?_) (AllReadyH.cons rfl (fun K hK => ?_) AllReadyH.nil))
    · have cq := (HP.out.up HB.out).cell.1
      go_simp
      clear cq
      refine hK.out _ _ (HKM.out _ (HP.out.bel.trans (HB.out.mono HP.out.bel.size))) (fun hHeld => ?_)
      clear hK K
      refine wrd 14 rfl fun K hK => ?_
      go_simp
      have HQ := HB
      obtain ⟨WN, hWN⟩ : ∃ W, W = wq.alloc (.cells #[.int .i64 4, .int .i64 m.1, str [], .slice none 0 0, .slice none 0 0, .int .i64 4, .int .i64 m.2, str [], .slice none 0 0, .slice none 0 0] 95) := ⟨_, rfl⟩
      have HN1 := Lib.hid (show WN.heap[wq.heap.size]? = some (.cells #[.int .i64 4, .int .i64 m.1, str [], .slice none 0 0, .slice none 0 0, .int .i64 4, .int .i64 m.2, str [], .slice none 0 0, .slice none 0 0] 95 (0, 0)) by rw [hWN]; exact heap_alloc_new _ _)
      have HB := Lib.hid (show Below W0.heap.size W0 WN by rw [hWN]; exact HQ.out.trans ((below_alloc _ _).mono HQ.out.size))
      rw [← hWN]
      clear hWN
      refine hK.out _ _ (HKM.out _ (HP.out.bel.trans (HB.out.mono HP.out.bel.size))) (fun hHeld => ?_)
      clear hK K
      refine wtk 15 rfl ?_; go_simp
      refine wrd 16 rfl fun K hK => ?_
      go_simp
      have HBN := HB
      obtain ⟨WM, hWM⟩ : ∃ W, W = WN.alloc (.cells #[.int .i64 6, .int .i64 0, .string ⟨#[]⟩, .slice (some ⟨wq.heap.size, 0, none⟩) 2 2, .slice none 0 0] 95) := ⟨_, rfl⟩
      have HM1 := Lib.hid hWM
      have HB := Lib.hid (show Below W0.heap.size W0 WM by rw [hWM]; exact HBN.out.trans ((below_alloc _ _).mono HBN.out.size))
      rw [← hWM]
      clear hWM
      refine hK.out _ _ (HKM.out _ (HP.out.bel.trans (HB.out.mono HP.out.bel.size))) (fun hHeld => ?_)
      clear hK K
      refine wrd 17 rfl fun K hK => ?_
      obtain ⟨rows, ho0, hr0⟩ := (HP.out.up HBN.out).row
      rw [HACC.out] at ho0 hr0
      refine step_append_lies _ (by rfl) _ _ 92 (by rfl) (w.heap.size + 1) 95 i0 _ 5 80 Tryz.underlying92 hi hz0 hz1 hz2 rfl (by decide) vl acc.length rows.flatten (by rfl) (owns_frm (F := fun _ => False) ho0 (Frm.of_below (by rw [HM1.out]; exact below_alloc _ _)) (fun _ _ h => h)) ⟨WN.heap.size, 0, none⟩ 1 1 [.int .i64 6, .int .i64 0, str [], .slice (some ⟨wq.heap.size, 0, none⟩) 2 2, .slice none 0 0] (by rfl) (by rfl) (World.news_of_block (by rw [HM1.out]; exact heap_alloc_new _ _)) (by simp [Value.oneCell']) (by decide) (by simp only [maxLen]; omega) (by omega) (by have := HB.out.size; have := HP.out.lt; omega) _ rfl ?_
      intro g cap w4 ho hg hl4 _
      rw [HM1.out] at hg hl4
      obtain ⟨rows5, ho5, _⟩ := (HP.out.up HQ.out).row
      have HAD := Lib.hid (PmR.add (HP.out.up HBN.out) HACC.out HTK.out ho0 hr0 (b0 := wq.heap.size) (by have := HQ.out.size; have := HP.out.lt; omega) (fun j hj => (ho5.lt j hj).2) HN1.out ho hg (by simpa using hl4))
      clear ho hg hl4 ho0 hr0 ho5
      go_simp
      refine hK.out _ _ (HKM.out _ HAD.out.2.2.2) (fun hHeld => ?_)
      clear hK K
      refine wtk 18 rfl ?_; go_simp
      refine wrd 19 rfl fun K hK => ?_
      have cq := HAD.out.2.1
      have fq := HAD.out.2.2.1
      go_simp
      clear cq fq
      refine hK.out _ _ (HKM.out _ HAD.out.1.bel) (fun hHeld => ?_)
      clear hK K
      refine wpAnyH_done (by kernel_rfl) ?_ _
      have HN := Lib.hid HAD.out.1
      clear HAD HKM HP HB HQ HN1 HTK HACC HBN HM1
      rw [HAL.out] at HN ⊢
      go_wp2_with fail
      go_roundw
      case rel => exact ⟨k + 1, _, by omega, by go_num, HN⟩
      case measure => simp [intOf]; omega
    go_simp
    have HQ := HB
    obtain ⟨WN, hWN⟩ : ∃ W, W = wq.alloc (.cells #[.int .i64 4, .int .i64 m.1, str [], .slice none 0 0, .slice none 0 0, .int .i64 4, .int .i64 m.2, str [], .slice none 0 0, .slice none 0 0] 95) := ⟨_, rfl⟩
    have HN1 := Lib.hid (show WN.heap[wq.heap.size]? = some (.cells #[.int .i64 4, .int .i64 m.1, str [], .slice none 0 0, .slice none 0 0, .int .i64 4, .int .i64 m.2, str [], .slice none 0 0, .slice none 0 0] 95 (0, 0)) by rw [hWN]; exact heap_alloc_new _ _)
    have HB := Lib.hid (show Below W0.heap.size W0 WN by rw [hWN]; exact HQ.out.trans ((below_alloc _ _).mono HQ.out.size))
    rw [← hWN]
    clear hWN
    refine hK.out _ _ (HKM.out _ (HP.out.bel.trans (HB.out.mono HP.out.bel.size))) (fun hHeld => ?_)
    clear hK K
    refine wtk 15 rfl ?_; go_simp
    refine wpAnyH_ready (rs := [1, 16]) (by kernel_rfl) (by simp) (AllReadyH.cons rfl (fun K hK => ?_) (AllReadyH.cons rfl (fun K hK => ?_) AllReadyH.nil))
    · have cq := (HP.out.up HB.out).cell.1
      go_simp
      clear cq
      refine hK.out _ _ (HKM.out _ (HP.out.bel.trans (HB.out.mono HP.out.bel.size))) (fun hHeld => ?_)
      clear hK K
      refine wrd 16 rfl fun K hK => ?_
      go_simp
      have HBN := HB
      obtain ⟨WM, hWM⟩ : ∃ W, W = WN.alloc (.cells #[.int .i64 6, .int .i64 0, .string ⟨#[]⟩, .slice (some ⟨wq.heap.size, 0, none⟩) 2 2, .slice none 0 0] 95) := ⟨_, rfl⟩
      have HM1 := Lib.hid hWM
      have HB := Lib.hid (show Below W0.heap.size W0 WM by rw [hWM]; exact HBN.out.trans ((below_alloc _ _).mono HBN.out.size))
      rw [← hWM]
      clear hWM
      refine hK.out _ _ (HKM.out _ (HP.out.bel.trans (HB.out.mono HP.out.bel.size))) (fun hHeld => ?_)
      clear hK K
      refine wrd 17 rfl fun K hK => ?_
      obtain ⟨rows, ho0, hr0⟩ := (HP.out.up HBN.out).row
      rw [HACC.out] at ho0 hr0
      refine step_append_lies _ (by rfl) _ _ 92 (by rfl) (w.heap.size + 1) 95 i0 _ 5 80 Tryz.underlying92 hi hz0 hz1 hz2 rfl (by decide) vl acc.length rows.flatten (by rfl) (owns_frm (F := fun _ => False) ho0 (Frm.of_below (by rw [HM1.out]; exact below_alloc _ _)) (fun _ _ h => h)) ⟨WN.heap.size, 0, none⟩ 1 1 [.int .i64 6, .int .i64 0, str [], .slice (some ⟨wq.heap.size, 0, none⟩) 2 2, .slice none 0 0] (by rfl) (by rfl) (World.news_of_block (by rw [HM1.out]; exact heap_alloc_new _ _)) (by simp [Value.oneCell']) (by decide) (by simp only [maxLen]; omega) (by omega) (by have := HB.out.size; have := HP.out.lt; omega) _ rfl ?_
      intro g cap w4 ho hg hl4 _
      rw [HM1.out] at hg hl4
      obtain ⟨rows5, ho5, _⟩ := (HP.out.up HQ.out).row
      have HAD := Lib.hid (PmR.add (HP.out.up HBN.out) HACC.out HTK.out ho0 hr0 (b0 := wq.heap.size) (by have := HQ.out.size; have := HP.out.lt; omega) (fun j hj => (ho5.lt j hj).2) HN1.out ho hg (by simpa using hl4))
      clear ho hg hl4 ho0 hr0 ho5
      go_simp
      refine hK.out _ _ (HKM.out _ HAD.out.2.2.2) (fun hHeld => ?_)
      clear hK K
      refine wtk 18 rfl ?_; go_simp
      refine wrd 19 rfl fun K hK => ?_
      have cq := HAD.out.2.1
      have fq := HAD.out.2.2.1
      go_simp
      clear cq fq
      refine hK.out _ _ (HKM.out _ HAD.out.1.bel) (fun hHeld => ?_)
      clear hK K
      refine wpAnyH_done (by kernel_rfl) ?_ _
      have HN := Lib.hid HAD.out.1
      clear HAD HKM HP HB HQ HN1 HTK HACC HBN HM1
      rw [HAL.out] at HN ⊢
      go_wp2_with fail
      go_roundw
      case rel => exact ⟨k + 1, _, by omega, by go_num, HN⟩
      case measure => simp [intOf]; omega
    go_simp
    have HBN := HB
    obtain ⟨WM, hWM⟩ : ∃ W, W = WN.alloc (.cells #[.int .i64 6, .int .i64 0, .string ⟨#[]⟩, .slice (some ⟨wq.heap.size, 0, none⟩) 2 2, .slice none 0 0] 95) := ⟨_, rfl⟩
    have HM1 := Lib.hid hWM
    have HB := Lib.hid (show Below W0.heap.size W0 WM by rw [hWM]; exact HBN.out.trans ((below_alloc _ _).mono HBN.out.size))
    rw [← hWM]
    clear hWM
    refine hK.out _ _ (HKM.out _ (HP.out.bel.trans (HB.out.mono HP.out.bel.size))) (fun hHeld => ?_)
    clear hK K
    refine wrd 1 rfl fun K hK => ?_
    have cq := (HP.out.up HB.out).cell.1
    go_simp
    clear cq
    refine hK.out _ _ (HKM.out _ (HP.out.bel.trans (HB.out.mono HP.out.bel.size))) (fun hHeld => ?_)
    clear hK K
    refine wrd 17 rfl fun K hK => ?_
    obtain ⟨rows, ho0, hr0⟩ := (HP.out.up HBN.out).row
    rw [HACC.out] at ho0 hr0
    refine step_append_lies _ (by rfl) _ _ 92 (by rfl) (w.heap.size + 1) 95 i0 _ 5 80 Tryz.underlying92 hi hz0 hz1 hz2 rfl (by decide) vl acc.length rows.flatten (by rfl) (owns_frm (F := fun _ => False) ho0 (Frm.of_below (by rw [HM1.out]; exact below_alloc _ _)) (fun _ _ h => h)) ⟨WN.heap.size, 0, none⟩ 1 1 [.int .i64 6, .int .i64 0, str [], .slice (some ⟨wq.heap.size, 0, none⟩) 2 2, .slice none 0 0] (by rfl) (by rfl) (World.news_of_block (by rw [HM1.out]; exact heap_alloc_new _ _)) (by simp [Value.oneCell']) (by decide) (by simp only [maxLen]; omega) (by omega) (by have := HB.out.size; have := HP.out.lt; omega) _ rfl ?_
    intro g cap w4 ho hg hl4 _
    rw [HM1.out] at hg hl4
    obtain ⟨rows5, ho5, _⟩ := (HP.out.up HQ.out).row
    have HAD := Lib.hid (PmR.add (HP.out.up HBN.out) HACC.out HTK.out ho0 hr0 (b0 := wq.heap.size) (by have := HQ.out.size; have := HP.out.lt; omega) (fun j hj => (ho5.lt j hj).2) HN1.out ho hg (by simpa using hl4))
    clear ho hg hl4 ho0 hr0 ho5
    go_simp
    refine hK.out _ _ (HKM.out _ HAD.out.2.2.2) (fun hHeld => ?_)
    clear hK K
    refine wtk 18 rfl ?_; go_simp
    refine wrd 19 rfl fun K hK => ?_
    have cq := HAD.out.2.1
    have fq := HAD.out.2.2.1
    go_simp
    clear cq fq
    refine hK.out _ _ (HKM.out _ HAD.out.1.bel) (fun hHeld => ?_)
    clear hK K
    refine wpAnyH_done (by kernel_rfl) ?_ _
    have HN := Lib.hid HAD.out.1
    clear HAD HKM HP HB HQ HN1 HTK HACC HBN HM1
    rw [HAL.out] at HN ⊢
    go_wp2_with fail
    go_roundw
    case rel => exact ⟨k + 1, _, by omega, by go_num, HN⟩
    case measure => simp [intOf]; omega
  obtain rfl : k = l.length := by omega
  have n2 : ¬ (l.length : Int) < (l.length : Int) := by omega
  have HR4 := HI.out.row
  rw [List.take_length] at HR4
  obtain ⟨a4, c4, rows4, e4, hrf, hrl⟩ := HR4.rd
  rw [List.length_map] at e4 hrf
  subst e4
  have HRW := Lib.hid (And.intro hrf hrl)
  have HBX := Lib.hid HI.out
  have hbx := HI.out.box
  have d0 : wr.cell? ⟨w.heap.size, 0, none⟩ = some (.int .i64 6) := by simp [World.cell?, hbx]
  have d1 : wr.cell? ⟨w.heap.size, 1, none⟩ = some (.int .i64 0) := by simp [World.cell?, hbx]
  have d2 : wr.cell? ⟨w.heap.size, 2, none⟩ = some (str []) := by simp [World.cell?, hbx]
  have d3 : wr.cell? ⟨w.heap.size, 3, none⟩ = some (.slice a4 l.length c4) := by simp [World.cell?, hbx]
  have d4 : wr.cell? ⟨w.heap.size, 4, none⟩ = some (.slice none 0 0) := by simp [World.cell?, hbx]
  obtain ⟨W2, hW2⟩ : ∃ W2, W2 = wr.alloc (.cells #[str [109, 97, 114, 107, 115], .int .i64 6, .int .i64 0, str [], .slice a4 l.length c4, .slice none 0 0] 121) := ⟨_, rfl⟩
  have hb2 : Below wr.heap.size wr W2 := by rw [hW2]; exact below_alloc _ _
  have hnew : W2.heap[wr.heap.size]? = some (.cells #[str [109, 97, 114, 107, 115], .int .i64 6, .int .i64 0, str [], .slice a4 l.length c4, .slice none 0 0] 121 (0, 0)) := by rw [hW2]; exact heap_alloc_new _ _
  have CO := Lib.hid (robj_any (some ⟨wr.heap.size, 0, none⟩) 1 1 W2)
  have CM := Lib.hid (fun W (h : Below w.heap.size w W) => rmay_any (.slice av l.length cv) l W (HV.out.up h))
  have CP : Hid (∀ ok W, Below W2.heap.size W2 W → Calls Tryz.prog 61 #[.agg #[.int .i64 7, .int .i64 0, str [], .slice none 0 0, .slice (some ⟨wr.heap.size, 0, none⟩) 1 1], .bool ok] W fun e w' => e = .returned (.tuple #[str (refO (mksMs l) ok).1, .int .i64 (refO (mksMs l) ok).2]) ∧ Below W.heap.size W w') := Lib.hid (fun ok W hb => by
   have hbx2 := box_up hnew hb
   have hb02 := hb2.trans (hb.mono hb2.size)
   exact rprinted_any (mksMs l) ok mks_st (fun _ => HL.out) (fun _ => True) W _ (RdJ.mk0 (v := .mk 7 0 [] [] (mksMs l)) (RdFB.nil _ _ _) (by unfold RdL; trivial) (RdFB.lit6 [[str [109, 97, 114, 107, 115], .int .i64 6, .int .i64 0, str [], .slice a4 l.length c4, .slice none 0 0]] (by simp) hbx2 rfl (by simp) trivial) (by
    show RdM W (fun _ => True) (mksMs l) _
    unfold mksMs RdM
    refine ⟨⟨_, rfl, RdJ.mk0 (v := .mk 6 0 [] (l.map markJ) []) (HRW.out.1.frm (Frm.of_below (F := fun _ => False) hb02) (fun _ _ e => e)) (HRW.out.2.up hb02) (RdFB.nil _ _ _) (by unfold RdM; trivial)⟩, ?_⟩
    unfold RdM
    trivial)))
  have HB2 := Lib.hid hb2
  rw [← HMB.out] at CM
  have CPX := CP.out MB
  rw [← HR1.out, ← HR2.out] at CPX
  have CPX := Lib.hid CPX
  have HWB := Lib.hid HI.out.bel
  clear hbx hb2 hnew CP HR4 hrf hrl HI HBX HRW
  go_wp2_with fail
  rw [← hW2]
  clear hW2 d0 d1 d2 d3 d4
  refine CO.out.mono ?_
  rintro e w3 ⟨rfl, hb3⟩
  have HB3 := Lib.hid (And.intro hb3 (HWB.out.trans ((HB2.out.trans (hb3.mono HB2.out.size)).mono HWB.out.size)))
  clear hb3 CO
  go_wp2_with fail
  refine (CM.out _ HB3.out.2).mono ?_
  rintro e w4 ⟨rfl, hb4⟩
  have HB4 := Lib.hid (And.intro (HB3.out.1.trans (hb4.mono HB3.out.1.size)) (HB3.out.2.trans (hb4.mono HB3.out.2.size)))
  clear hb4 CM
  go_wp2_with fail
  refine (CPX.out _ HB4.out.1).mono ?_
  rintro e w5 ⟨rfl, hb5⟩
  have HX := Lib.hid (HB4.out.2.trans (hb5.mono HB4.out.2.size))
  clear hb5 CPX
  go_wp2_with fail
  go_ret2
  exact ⟨rfl, HX.out⟩
theorem refO_no (ms : List MemT) : refO ms false = ([], 4) := by unfold refO; rw [if_neg (by simp)]
theorem rputFeed_any (t : List UInt8) (n : Int) (w : World) (ht : t.length ≤ 9223372036854775807) : Calls Tryz.prog 43 #[.agg #[str t, .int .i64 n]] w fun e w' => e = .returned (.tuple #[str (putFeedR t n).1, .int .i64 (putFeedR t n).2]) ∧ Below w.heap.size w w' := by
 rw [← refO_feed]
 by_cases h1 : 0 ≤ n
 · by_cases h2 : n ≤ 1000000
   · rw [decide_eq_true h1, decide_eq_true h2, Bool.true_and, Bool.true_and]
     exact rputPutFeed_2 t n w ht h1 h2
   rw [decide_eq_true h1, decide_eq_false h2, Bool.true_and, Bool.false_and]
   exact rputPutFeed_1 t n w ht h1 h2
 rw [decide_eq_false h1, Bool.false_and, Bool.false_and]
 exact rputPutFeed_0 t n w ht h1
theorem rputState_any (a b : Int) (w : World) : Calls Tryz.prog 46 #[.agg #[.int .i64 a, .int .i64 b]] w fun e w' => e = .returned (.tuple #[str (putStateR a b).1, .int .i64 (putStateR a b).2]) ∧ Below w.heap.size w w' := by
 rw [← refO_state]
 by_cases h1 : 0 ≤ a
 · by_cases h2 : a ≤ 2
   · by_cases h3 : b = 0
     · rw [decide_eq_true h1, decide_eq_true h2, decide_eq_true h3, Bool.true_or, Bool.true_and, Bool.true_and, Bool.true_and]
       exact rputPutState_3 a b w h1 h2 h3
     by_cases h4 : b = 1
     · rw [decide_eq_true h1, decide_eq_true h2, decide_eq_true h4, Bool.or_true, Bool.true_and, Bool.true_and, Bool.true_and]
       exact rputPutState_4 a b w h1 h2 h4
     rw [decide_eq_true h1, decide_eq_true h2, decide_eq_false h3, decide_eq_false h4, Bool.or_false, Bool.and_false, Bool.false_and]
     exact rputPutState_2 a b w h1 h2 h3 h4
   rw [decide_eq_true h1, decide_eq_false h2, Bool.true_and, Bool.false_and, Bool.false_and]
   exact rputPutState_1 a b w h1 h2
 rw [decide_eq_false h1, Bool.false_and, Bool.false_and, Bool.false_and]
 exact rputPutState_0 a b w h1
theorem short_valid {s : List UInt8} (h : s.length ≤ 500) : shortB s = validB s := by unfold shortB; rw [decide_eq_true h, Bool.true_and]
theorem short_long {s : List UInt8} (h : 500 < s.length) : shortB s = false := by unfold shortB; rw [decide_eq_false (by omega), Bool.false_and]
theorem tx_bad {s : List UInt8} (h : validB s = false) : txF s = false := by unfold txF; rw [h, Bool.and_false]
def okE (g l t : List UInt8) (n : Int) : Bool := !(g == []) && (shortB g && (shortB l && (shortB t && (decide (0 ≤ n) && decide (n ≤ 1099511627776)))))
theorem refO_entry (g l t : List UInt8) (n : Int) : refO (entMs g l t n) (okE g l t n) = putEntR g l t n := by
 unfold putEntR
 by_cases hb : badE g l t n
 · rw [if_pos hb]
   have : okE g l t n = false := by
    unfold okE
    rcases hb with h | h | h | h | h | h
    · rw [h]; rfl
    · rw [short_long h]; simp
    · rw [short_long h]; simp
    · rw [short_long h]; simp
    · rw [decide_eq_false (show ¬ 0 ≤ n by omega)]; simp
    rw [decide_eq_false (show ¬ n ≤ 1099511627776 by omega)]; simp
   rw [this, refO_no]
 rw [if_neg hb]
 have hb2 := hb
 unfold badE at hb2
 have q0 : g ≠ [] := fun e => hb2 (.inl e)
 have e0 : (g == []) = false := by rw [beq_eq_false_iff_ne]; exact q0
 unfold okE
 rw [e0, short_valid (show g.length ≤ 500 by omega), short_valid (show l.length ≤ 500 by omega), short_valid (show t.length ≤ 500 by omega), decide_eq_true (show 0 ≤ n by omega), decide_eq_true (show n ≤ 1099511627776 by omega)]
 cases hg : validB g with
 | false => exact (refO_no _).trans (objR_no (mem_valid (nm := guidN) (s := g) (by simp [entMs]) (tx_bad hg))).symm
 | true =>
  cases hl : validB l with
  | false => exact (refO_no _).trans (objR_no (mem_valid (nm := linkN) (s := l) (by simp [entMs]) (tx_bad hl))).symm
  | true =>
   cases ht : validB t with
   | false => exact (refO_no _).trans (objR_no (mem_valid (nm := titleN) (s := t) (by simp [entMs]) (tx_bad ht))).symm
   | true => exact if_pos rfl
theorem rputEnt_any (m : Int) (g t l : List UInt8) (n : Int) (w : World) (hg : g.length ≤ 9223372036854775807) (hl : l.length ≤ 9223372036854775807) (ht : t.length ≤ 9223372036854775807) : Calls Tryz.prog 44 #[.agg #[.int .i64 m, str g, str t, str l, .int .i64 n]] w fun e w' => e = .returned (.tuple #[str (putEntR g l t n).1, .int .i64 (putEntR g l t n).2]) ∧ Below w.heap.size w w' := by
 rw [← refO_entry]
 unfold okE
 cases h0 : (g == []) with
 | true => exact rputPutEntry_0 m g t l n w hg hl ht h0
 | false =>
  cases s1 : shortB g with
  | false => exact rputPutEntry_1 m g t l n w hg hl ht h0 s1
  | true =>
   cases s2 : shortB l with
   | false => exact rputPutEntry_2 m g t l n w hg hl ht h0 s1 s2
   | true =>
    cases s3 : shortB t with
    | false => exact rputPutEntry_3 m g t l n w hg hl ht h0 s1 s2 s3
    | true =>
     by_cases h1 : 0 ≤ n
     · rw [decide_eq_true h1]
       exact rputPutEntry_5 m g t l n w hg hl ht h0 s1 s2 s3 h1
     rw [decide_eq_false h1]
     exact rputPutEntry_4 m g t l n w hg hl ht h0 s1 s2 s3 h1
theorem rputMarks_any (v : Value) (l : List MarkT) (w : World) (hv : RdMk w v l) (hlen : l.length ≤ 50) (hI : ∀ m ∈ l, (-9223372036854775808 ≤ m.1 ∧ m.1 ≤ 9223372036854775807) ∧ (-9223372036854775808 ≤ m.2 ∧ m.2 ≤ 9223372036854775807)) :
 Calls Tryz.prog 47 #[v] w fun e w' => e = .returned (.tuple #[str (putMksR l).1, .int .i64 (putMksR l).2]) ∧ Below w.heap.size w w' := by
 have h := rputMks_any v l w hv hlen hI
 have e : refO (mksMs l) (mayLk l) = putMksR l := by
  unfold putMksR
  by_cases hm : MayL l
  · rw [if_pos hm, mayL_yes hm]; exact if_pos rfl
  rw [if_neg hm, mayL_no hm, refO_no]
 rwa [e] at h
end Go.Proofs.YtegblhmcfemfgaaGreatDoor
set_option maxRecDepth 100000
set_option maxHeartbeats 8000000
namespace Go.Proofs.YtegblhmcfemfgaaGreatDoor
open Go.RowKit
theorem wrd_len (s nm : List UInt8) : (wrdO (valOf s) nm).length ≤ 9223372036854775807 := by
 have h1 := wrdO_len (valOf s) nm
 have h2 := valOf_sz s
 omega
def PartC (s nm : List UInt8) (n : Int) (t : List UInt8) : Prop := ∀ W : World, Calls Tryz.prog 42 #[str s, str nm] W fun e w' => ∃ k a1 n1 c1 a2 n2 c2, e = .returned (.agg #[.int .i64 k, .int .i64 n, str t, .slice a1 n1 c1, .slice a2 n2 c2]) ∧ Below W.heap.size W w'
theorem part_c {s : List UInt8} (hl : s.length ≤ 1000000) (nm : List UInt8) : PartC s nm (nbrO (valOf s) nm) (wrdO (valOf s) nm) := fun W => (part_any s nm W hl).mono (by
 rintro e w' ⟨cs, rfl, hv, hb⟩
 obtain ⟨a1, n1, c1, a2, n2, c2, rfl, _, _⟩ := hv.open
 exact ⟨_, _, _, _, _, _, _, by rw [memD_n, memD_s], hb⟩)
theorem fldS (k n : Int) (t : List UInt8) (a1 : Option Addr) (n1 c1 : Nat) (a2 : Option Addr) (n2 c2 : Nat) : ∀ w : World, (Instr.field 95 (.agg #[.int .i64 k, .int .i64 n, str t, .slice a1 n1 c1, .slice a2 n2 c2]) 2).run Tryz.prog w = .ok (str t) w := fun _ => by kernel_rfl
theorem fldN (k n : Int) (t : List UInt8) (a1 : Option Addr) (n1 c1 : Nat) (a2 : Option Addr) (n2 c2 : Nat) : ∀ w : World, (Instr.field 95 (.agg #[.int .i64 k, .int .i64 n, str t, .slice a1 n1 c1, .slice a2 n2 c2]) 1).run Tryz.prog w = .ok (.int .i64 n) w := fun _ => by kernel_rfl
theorem okR_of (r : List UInt8 × Int) (s : List UInt8) : (r.2 == 0) = false ∧ okR r s = false ∨ (r.2 == 0) = true ∧ (r.1 == s) = false ∧ okR r s = false ∨ (r.2 == 0) = true ∧ (r.1 == s) = true ∧ okR r s = true := by
 unfold okR
 cases (r.2 == 0) <;> cases (r.1 == s) <;> simp
theorem rgFeed_any (s : List UInt8) (w : World) (hl : s.length ≤ 1000000) :
 Calls Tryz.prog 20 #[str s] w fun e w' => e = .returned (.tuple #[.agg (if okR (putFeedR (wrdO (valOf s) titleN) (nbrO (valOf s) [110])) s = true then #[str (wrdO (valOf s) titleN), .int .i64 (nbrO (valOf s) [110])] else #[str [], .int .i64 0]), .bool (okR (putFeedR (wrdO (valOf s) titleN) (nbrO (valOf s) [110])) s)]) ∧ Below w.heap.size w w' := by
 have hA_ := wrd_len s titleN
 have CP0 := part_c hl titleN
 have CP1 := part_c hl [110]
 generalize wrdO (valOf s) titleN = A_ at *
 generalize nbrO (valOf s) [110] = B_ at *
 obtain ⟨y0, e0⟩ : ∃ x, x = nbrO (valOf s) titleN := ⟨_, rfl⟩
 rw [← e0] at CP0
 clear e0
 have CP0 : Hid (PartC s [116, 105, 116, 108, 101] y0 A_) := Lib.hid CP0
 obtain ⟨y1, e1⟩ : ∃ x, x = wrdO (valOf s) [110] := ⟨_, rfl⟩
 rw [← e1] at CP1
 clear e1
 have CP1 : Hid (PartC s [110] B_ y1) := Lib.hid CP1
 obtain ⟨Wa, hWa⟩ : ∃ Wa, Wa = w.alloc (.cells #[.string ⟨#[]⟩, .int .i64 0] 55) := ⟨_, rfl⟩
 have HA : Hid (Below w.heap.size w Wa ∧ Wa.heap[w.heap.size]? = some (.cells #[str [], .int .i64 0] 55 (0, 0))) := Lib.hid ⟨by rw [hWa]; exact below_alloc _ _, by rw [hWa]; exact heap_alloc_new _ _⟩
 obtain ⟨t, c, htc⟩ : ∃ t c, (t, c) = putFeedR A_ B_ := ⟨_, _, rfl⟩
 have CT : Hid (∀ W : World, Calls Tryz.prog 43 #[.agg #[str A_, .int .i64 B_]] W fun e w' => e = .returned (.tuple #[str t, .int .i64 c]) ∧ Below W.heap.size W w') := Lib.hid (fun W => by have h := rputFeed_any A_ B_ W hA_; rw [← htc] at h; exact h)
 have hok := okR_of (putFeedR A_ B_) s
 obtain ⟨OK, hOK⟩ : ∃ b, b = okR (putFeedR A_ B_) s := ⟨_, rfl⟩
 rw [← hOK] at hok ⊢
 rw [← htc] at hok
 have HOK := Lib.hid hok
 obtain ⟨RS, hRS⟩ : ∃ x, x = (if OK = true then (#[str A_, .int .i64 B_] : Array Value) else #[str [], .int .i64 0]) := ⟨_, rfl⟩
 rw [← hRS]
 have HRS := Lib.hid hRS
 clear hRS
 clear hok hOK htc hl hA_
 go_enter Tryz.func20, Tryz.ntmps20
 go_upto_region 1 with fail
 rw [← hWa]
 clear hWa
 have C0 := Lib.hid (CP0.out Wa)
 clear CP0
 go_wp2_with fail
 refine C0.out.mono ?_
 rintro e w1 ⟨k0, fa0, fn0, fc0, ga0, gn0, gc0, rfl, hb⟩
 have HA := Lib.hid (And.intro (HA.out.1.trans (hb.mono HA.out.1.size)) (box_up HA.out.2 hb))
 clear hb C0
 have f0 := fldS k0 y0 A_ fa0 fn0 fc0 ga0 gn0 gc0
 have C1 := Lib.hid (CP1.out w1)
 clear CP1
 go_wp2_with fail
 refine C1.out.mono ?_
 rintro e w2 ⟨k1, fa1, fn1, fc1, ga1, gn1, gc1, rfl, hb⟩
 have HA := Lib.hid (And.intro (HA.out.1.trans (hb.mono HA.out.1.size)) (box_up HA.out.2 hb))
 clear hb C1
 have f1 := fldN k1 B_ y1 fa1 fn1 fc1 ga1 gn1 gc1
 go_upto_region 2 with fail
 refine wp_any_world (fun W => Below w2.heap.size w2 W ∧ W.heap[w2.heap.size]? = some (.cells #[str A_, .int .i64 B_] 55 (0, 0))) ⟨below_alloc _ _, heap_alloc_new _ _⟩ ?_
 rintro w7 ⟨hb, hx⟩
 obtain ⟨q, hq⟩ : ∃ q, q = w2.heap.size := ⟨_, rfl⟩
 rw [← hq] at hx ⊢
 have HA := Lib.hid (And.intro (HA.out.1.trans (hb.mono HA.out.1.size)) (And.intro (box_up HA.out.2 hb) hx))
 have C7 := Lib.hid (CT.out w7)
 clear CT hb hq
 obtain ⟨p0, p1⟩ := box2 hx
 clear hx
 go_wp2_with fail
 refine C7.out.mono ?_
 rintro e w8 ⟨rfl, hb⟩
 have HA := Lib.hid (And.intro (HA.out.1.trans (hb.mono HA.out.1.size)) (And.intro (box_up HA.out.2.1 hb) (box_up HA.out.2.2 hb)))
 clear hb C7 p0 p1
 have hz := HA.out.2.1
 obtain ⟨d0, d1⟩ := box2 hz
 have df := box_fr hz
 have hx := HA.out.2.2
 obtain ⟨p0, p1⟩ := box2 hx
 clear hz hx
 rcases HOK.out with ⟨t1, e9⟩ | ⟨t1, t2, e9⟩ | ⟨t1, t2, e9⟩
 · have E9 := Lib.hid e9
   clear e9 HOK
   have t1 : (c == 0) = false := t1
   have n1 : ¬ c = 0 := by simpa using t1
   have n2 : (c != 0) = true := by simpa using t1
   go_wp2_with fail
   refine bodyPost_any_world (fun X => X.heap[w.heap.size]? = some (.cells #[str [], .int .i64 0] 55 (0, 0)) ∧ Frm (fun i => i = w.heap.size) w8 X) (two_set HA.out.2.1 _ _) ?_
   clear df d0 d1 p0 p1
   rintro w9 ⟨h9, hf9⟩
   obtain ⟨k0_, k1_⟩ := box2 h9
   refine bodyPost_ret (v := .tuple #[.agg #[str [], .int .i64 0], .bool false]) (by simp [results, Tryz.results20, go_sem, k0_, k1_]) rfl ?_
   exact ⟨by rw [HRS.out, E9.out]; rfl, HA.out.1.trans (hf9.below HA.out.1.size (fun k hk => by omega))⟩
 · have E9 := Lib.hid e9
   clear e9 HOK
   obtain rfl : c = 0 := by simpa using t1
   clear t1
   have t2 : (t == s) = false := t2
   have n3 : ¬ t = s := by simpa using t2
   have n4 : (!t == s) = true := by rw [t2]; rfl
   go_wp2_with fail
   refine bodyPost_any_world (fun X => X.heap[w.heap.size]? = some (.cells #[str [], .int .i64 0] 55 (0, 0)) ∧ Frm (fun i => i = w.heap.size) w8 X) (two_set HA.out.2.1 _ _) ?_
   clear df d0 d1 p0 p1
   rintro w9 ⟨h9, hf9⟩
   obtain ⟨k0_, k1_⟩ := box2 h9
   refine bodyPost_ret (v := .tuple #[.agg #[str [], .int .i64 0], .bool false]) (by simp [results, Tryz.results20, go_sem, k0_, k1_]) rfl ?_
   exact ⟨by rw [HRS.out, E9.out]; rfl, HA.out.1.trans (hf9.below HA.out.1.size (fun k hk => by omega))⟩
 have E9 := Lib.hid e9
 clear e9 HOK
 obtain rfl : c = 0 := by simpa using t1
 clear t1
 obtain rfl : t = s := by simpa using t2
 clear t2
 go_wp2_with fail
 refine bodyPost_any_world (fun X => X.heap[w.heap.size]? = some (.cells #[str A_, .int .i64 B_] 55 (0, 0)) ∧ Frm (fun i => i = w.heap.size) w8 X) (two_set HA.out.2.1 _ _) ?_
 clear df d0 d1 p0 p1
 rintro w9 ⟨h9, hf9⟩
 obtain ⟨k0_, k1_⟩ := box2 h9
 refine bodyPost_ret (v := .tuple #[.agg #[str A_, .int .i64 B_], .bool true]) (by simp [results, Tryz.results20, go_sem, k0_, k1_]) rfl ?_
 exact ⟨by rw [HRS.out, E9.out]; rfl, HA.out.1.trans (hf9.below HA.out.1.size (fun k hk => by omega))⟩
theorem rgState_any (s : List UInt8) (w : World) (hl : s.length ≤ 1000000) :
 Calls Tryz.prog 23 #[str s] w fun e w' => e = .returned (.tuple #[.agg (if okR (putStateR (nbrO (valOf s) readN) (nbrO (valOf s) starN)) s = true then #[.int .i64 (nbrO (valOf s) readN), .int .i64 (nbrO (valOf s) starN)] else #[.int .i64 0, .int .i64 0]), .bool (okR (putStateR (nbrO (valOf s) readN) (nbrO (valOf s) starN)) s)]) ∧ Below w.heap.size w w' := by
 have CP0 := part_c hl readN
 have CP1 := part_c hl starN
 generalize nbrO (valOf s) readN = A_ at *
 generalize nbrO (valOf s) starN = B_ at *
 obtain ⟨y0, e0⟩ : ∃ x, x = wrdO (valOf s) readN := ⟨_, rfl⟩
 rw [← e0] at CP0
 clear e0
 have CP0 : Hid (PartC s [114, 101, 97, 100] A_ y0) := Lib.hid CP0
 obtain ⟨y1, e1⟩ : ∃ x, x = wrdO (valOf s) starN := ⟨_, rfl⟩
 rw [← e1] at CP1
 clear e1
 have CP1 : Hid (PartC s [115, 116, 97, 114] B_ y1) := Lib.hid CP1
 obtain ⟨Wa, hWa⟩ : ∃ Wa, Wa = w.alloc (.cells #[.int .i64 0, .int .i64 0] 58) := ⟨_, rfl⟩
 have HA : Hid (Below w.heap.size w Wa ∧ Wa.heap[w.heap.size]? = some (.cells #[.int .i64 0, .int .i64 0] 58 (0, 0))) := Lib.hid ⟨by rw [hWa]; exact below_alloc _ _, by rw [hWa]; exact heap_alloc_new _ _⟩
 obtain ⟨t, c, htc⟩ : ∃ t c, (t, c) = putStateR A_ B_ := ⟨_, _, rfl⟩
 have CT : Hid (∀ W : World, Calls Tryz.prog 46 #[.agg #[.int .i64 A_, .int .i64 B_]] W fun e w' => e = .returned (.tuple #[str t, .int .i64 c]) ∧ Below W.heap.size W w') := Lib.hid (fun W => by have h := rputState_any A_ B_ W; rw [← htc] at h; exact h)
 have hok := okR_of (putStateR A_ B_) s
 obtain ⟨OK, hOK⟩ : ∃ b, b = okR (putStateR A_ B_) s := ⟨_, rfl⟩
 rw [← hOK] at hok ⊢
 rw [← htc] at hok
 have HOK := Lib.hid hok
 obtain ⟨RS, hRS⟩ : ∃ x, x = (if OK = true then (#[.int .i64 A_, .int .i64 B_] : Array Value) else #[.int .i64 0, .int .i64 0]) := ⟨_, rfl⟩
 rw [← hRS]
 have HRS := Lib.hid hRS
 clear hRS
 clear hok hOK htc hl 
 go_enter Tryz.func23, Tryz.ntmps23
 go_upto_region 1 with fail
 rw [← hWa]
 clear hWa
 have C0 := Lib.hid (CP0.out Wa)
 clear CP0
 go_wp2_with fail
 refine C0.out.mono ?_
 rintro e w1 ⟨k0, fa0, fn0, fc0, ga0, gn0, gc0, rfl, hb⟩
 have HA := Lib.hid (And.intro (HA.out.1.trans (hb.mono HA.out.1.size)) (box_up HA.out.2 hb))
 clear hb C0
 have f0 := fldN k0 A_ y0 fa0 fn0 fc0 ga0 gn0 gc0
 have C1 := Lib.hid (CP1.out w1)
 clear CP1
 go_wp2_with fail
 refine C1.out.mono ?_
 rintro e w2 ⟨k1, fa1, fn1, fc1, ga1, gn1, gc1, rfl, hb⟩
 have HA := Lib.hid (And.intro (HA.out.1.trans (hb.mono HA.out.1.size)) (box_up HA.out.2 hb))
 clear hb C1
 have f1 := fldN k1 B_ y1 fa1 fn1 fc1 ga1 gn1 gc1
 go_upto_region 2 with fail
 refine wp_any_world (fun W => Below w2.heap.size w2 W ∧ W.heap[w2.heap.size]? = some (.cells #[.int .i64 A_, .int .i64 B_] 58 (0, 0))) ⟨below_alloc _ _, heap_alloc_new _ _⟩ ?_
 rintro w7 ⟨hb, hx⟩
 obtain ⟨q, hq⟩ : ∃ q, q = w2.heap.size := ⟨_, rfl⟩
 rw [← hq] at hx ⊢
 have HA := Lib.hid (And.intro (HA.out.1.trans (hb.mono HA.out.1.size)) (And.intro (box_up HA.out.2 hb) hx))
 have C7 := Lib.hid (CT.out w7)
 clear CT hb hq
 obtain ⟨p0, p1⟩ := box2 hx
 clear hx
 go_wp2_with fail
 refine C7.out.mono ?_
 rintro e w8 ⟨rfl, hb⟩
 have HA := Lib.hid (And.intro (HA.out.1.trans (hb.mono HA.out.1.size)) (And.intro (box_up HA.out.2.1 hb) (box_up HA.out.2.2 hb)))
 clear hb C7 p0 p1
 have hz := HA.out.2.1
 obtain ⟨d0, d1⟩ := box2 hz
 have df := box_fr hz
 have hx := HA.out.2.2
 obtain ⟨p0, p1⟩ := box2 hx
 clear hz hx
 rcases HOK.out with ⟨t1, e9⟩ | ⟨t1, t2, e9⟩ | ⟨t1, t2, e9⟩
 · have E9 := Lib.hid e9
   clear e9 HOK
   have t1 : (c == 0) = false := t1
   have n1 : ¬ c = 0 := by simpa using t1
   have n2 : (c != 0) = true := by simpa using t1
   go_wp2_with fail
   refine bodyPost_any_world (fun X => X.heap[w.heap.size]? = some (.cells #[.int .i64 0, .int .i64 0] 58 (0, 0)) ∧ Frm (fun i => i = w.heap.size) w8 X) (two_set HA.out.2.1 _ _) ?_
   clear df d0 d1 p0 p1
   rintro w9 ⟨h9, hf9⟩
   obtain ⟨k0_, k1_⟩ := box2 h9
   refine bodyPost_ret (v := .tuple #[.agg #[.int .i64 0, .int .i64 0], .bool false]) (by simp [results, Tryz.results23, go_sem, k0_, k1_]) rfl ?_
   exact ⟨by rw [HRS.out, E9.out]; rfl, HA.out.1.trans (hf9.below HA.out.1.size (fun k hk => by omega))⟩
 · have E9 := Lib.hid e9
   clear e9 HOK
   obtain rfl : c = 0 := by simpa using t1
   clear t1
   have t2 : (t == s) = false := t2
   have n3 : ¬ t = s := by simpa using t2
   have n4 : (!t == s) = true := by rw [t2]; rfl
   go_wp2_with fail
   refine bodyPost_any_world (fun X => X.heap[w.heap.size]? = some (.cells #[.int .i64 0, .int .i64 0] 58 (0, 0)) ∧ Frm (fun i => i = w.heap.size) w8 X) (two_set HA.out.2.1 _ _) ?_
   clear df d0 d1 p0 p1
   rintro w9 ⟨h9, hf9⟩
   obtain ⟨k0_, k1_⟩ := box2 h9
   refine bodyPost_ret (v := .tuple #[.agg #[.int .i64 0, .int .i64 0], .bool false]) (by simp [results, Tryz.results23, go_sem, k0_, k1_]) rfl ?_
   exact ⟨by rw [HRS.out, E9.out]; rfl, HA.out.1.trans (hf9.below HA.out.1.size (fun k hk => by omega))⟩
 have E9 := Lib.hid e9
 clear e9 HOK
 obtain rfl : c = 0 := by simpa using t1
 clear t1
 obtain rfl : t = s := by simpa using t2
 clear t2
 go_wp2_with fail
 refine bodyPost_any_world (fun X => X.heap[w.heap.size]? = some (.cells #[.int .i64 A_, .int .i64 B_] 58 (0, 0)) ∧ Frm (fun i => i = w.heap.size) w8 X) (two_set HA.out.2.1 _ _) ?_
 clear df d0 d1 p0 p1
 rintro w9 ⟨h9, hf9⟩
 obtain ⟨k0_, k1_⟩ := box2 h9
 refine bodyPost_ret (v := .tuple #[.agg #[.int .i64 A_, .int .i64 B_], .bool true]) (by simp [results, Tryz.results23, go_sem, k0_, k1_]) rfl ?_
 exact ⟨by rw [HRS.out, E9.out]; rfl, HA.out.1.trans (hf9.below HA.out.1.size (fun k hk => by omega))⟩
theorem rgEntry_any (s : List UInt8) (num : Int) (w : World) (hl : s.length ≤ 1000000) :
 Calls Tryz.prog 21 #[str s, .int .i64 num] w fun e w' => e = .returned (.tuple #[.agg (if entOk s = true then #[.int .i64 num, str (wrdO (valOf s) guidN), str (wrdO (valOf s) titleN), str (wrdO (valOf s) linkN), .int .i64 (nbrO (valOf s) whenN)] else #[.int .i64 0, str [], str [], str [], .int .i64 0]), .bool (entOk s)]) ∧ Below w.heap.size w w' := by
 unfold entOk
 have hA_ := wrd_len s guidN
 have CP0 := part_c hl guidN
 have hB_ := wrd_len s linkN
 have CP1 := part_c hl linkN
 have hC_ := wrd_len s titleN
 have CP2 := part_c hl titleN
 have CP3 := part_c hl whenN
 generalize wrdO (valOf s) guidN = A_ at *
 generalize wrdO (valOf s) linkN = B_ at *
 generalize wrdO (valOf s) titleN = C_ at *
 generalize nbrO (valOf s) whenN = D_ at *
 obtain ⟨y0, e0⟩ : ∃ x, x = nbrO (valOf s) guidN := ⟨_, rfl⟩
 rw [← e0] at CP0
 clear e0
 have CP0 : Hid (PartC s [103, 117, 105, 100] y0 A_) := Lib.hid CP0
 obtain ⟨y1, e1⟩ : ∃ x, x = nbrO (valOf s) linkN := ⟨_, rfl⟩
 rw [← e1] at CP1
 clear e1
 have CP1 : Hid (PartC s [108, 105, 110, 107] y1 B_) := Lib.hid CP1
 obtain ⟨y2, e2⟩ : ∃ x, x = nbrO (valOf s) titleN := ⟨_, rfl⟩
 rw [← e2] at CP2
 clear e2
 have CP2 : Hid (PartC s [116, 105, 116, 108, 101] y2 C_) := Lib.hid CP2
 obtain ⟨y3, e3⟩ : ∃ x, x = wrdO (valOf s) whenN := ⟨_, rfl⟩
 rw [← e3] at CP3
 clear e3
 have CP3 : Hid (PartC s [119, 104, 101, 110] D_ y3) := Lib.hid CP3
 obtain ⟨Wa, hWa⟩ : ∃ Wa, Wa = w.alloc (.cells #[.int .i64 0, .string ⟨#[]⟩, .string ⟨#[]⟩, .string ⟨#[]⟩, .int .i64 0] 25) := ⟨_, rfl⟩
 have HA : Hid (Below w.heap.size w Wa ∧ Wa.heap[w.heap.size]? = some (.cells #[.int .i64 0, str [], str [], str [], .int .i64 0] 25 (0, 0))) := Lib.hid ⟨by rw [hWa]; exact below_alloc _ _, by rw [hWa]; exact heap_alloc_new _ _⟩
 obtain ⟨t, c, htc⟩ : ∃ t c, (t, c) = putEntR A_ B_ C_ D_ := ⟨_, _, rfl⟩
 have CT : Hid (∀ W : World, Calls Tryz.prog 44 #[.agg #[.int .i64 num, str A_, str C_, str B_, .int .i64 D_]] W fun e w' => e = .returned (.tuple #[str t, .int .i64 c]) ∧ Below W.heap.size W w') := Lib.hid (fun W => by have h := rputEnt_any num A_ C_ B_ D_ W hA_ hB_ hC_; rw [← htc] at h; exact h)
 have hok := okR_of (putEntR A_ B_ C_ D_) s
 obtain ⟨OK, hOK⟩ : ∃ b, b = okR (putEntR A_ B_ C_ D_) s := ⟨_, rfl⟩
 rw [← hOK] at hok ⊢
 rw [← htc] at hok
 have HOK := Lib.hid hok
 obtain ⟨RS, hRS⟩ : ∃ x, x = (if OK = true then (#[.int .i64 num, str A_, str C_, str B_, .int .i64 D_] : Array Value) else #[.int .i64 0, str [], str [], str [], .int .i64 0]) := ⟨_, rfl⟩
 rw [← hRS]
 have HRS := Lib.hid hRS
 clear hRS
 clear hok hOK htc hl hA_ hB_ hC_
 go_enter Tryz.func21, Tryz.ntmps21
 go_upto_region 1 with fail
 rw [← hWa]
 clear hWa
 have C0 := Lib.hid (CP0.out Wa)
 clear CP0
 go_wp2_with fail
 refine C0.out.mono ?_
 rintro e w1 ⟨k0, fa0, fn0, fc0, ga0, gn0, gc0, rfl, hb⟩
 have HA := Lib.hid (And.intro (HA.out.1.trans (hb.mono HA.out.1.size)) (box_up HA.out.2 hb))
 clear hb C0
 have f0 := fldS k0 y0 A_ fa0 fn0 fc0 ga0 gn0 gc0
 have C1 := Lib.hid (CP1.out w1)
 clear CP1
 go_wp2_with fail
 refine C1.out.mono ?_
 rintro e w2 ⟨k1, fa1, fn1, fc1, ga1, gn1, gc1, rfl, hb⟩
 have HA := Lib.hid (And.intro (HA.out.1.trans (hb.mono HA.out.1.size)) (box_up HA.out.2 hb))
 clear hb C1
 have f1 := fldS k1 y1 B_ fa1 fn1 fc1 ga1 gn1 gc1
 have C2 := Lib.hid (CP2.out w2)
 clear CP2
 go_wp2_with fail
 refine C2.out.mono ?_
 rintro e w3 ⟨k2, fa2, fn2, fc2, ga2, gn2, gc2, rfl, hb⟩
 have HA := Lib.hid (And.intro (HA.out.1.trans (hb.mono HA.out.1.size)) (box_up HA.out.2 hb))
 clear hb C2
 have f2 := fldS k2 y2 C_ fa2 fn2 fc2 ga2 gn2 gc2
 have C3 := Lib.hid (CP3.out w3)
 clear CP3
 go_wp2_with fail
 refine C3.out.mono ?_
 rintro e w4 ⟨k3, fa3, fn3, fc3, ga3, gn3, gc3, rfl, hb⟩
 have HA := Lib.hid (And.intro (HA.out.1.trans (hb.mono HA.out.1.size)) (box_up HA.out.2 hb))
 clear hb C3
 have f3 := fldN k3 D_ y3 fa3 fn3 fc3 ga3 gn3 gc3
 go_upto_region 2 with fail
 refine wp_any_world (fun W => Below w4.heap.size w4 W ∧ W.heap[w4.heap.size]? = some (.cells #[.int .i64 num, str A_, str C_, str B_, .int .i64 D_] 25 (0, 0))) ⟨below_alloc _ _, heap_alloc_new _ _⟩ ?_
 rintro w7 ⟨hb, hx⟩
 obtain ⟨q, hq⟩ : ∃ q, q = w4.heap.size := ⟨_, rfl⟩
 rw [← hq] at hx ⊢
 have HA := Lib.hid (And.intro (HA.out.1.trans (hb.mono HA.out.1.size)) (And.intro (box_up HA.out.2 hb) hx))
 have C7 := Lib.hid (CT.out w7)
 clear CT hb hq
 obtain ⟨p0, p1, p2, p3, p4⟩ := box5 hx
 clear hx
 go_wp2_with fail
 refine C7.out.mono ?_
 rintro e w8 ⟨rfl, hb⟩
 have HA := Lib.hid (And.intro (HA.out.1.trans (hb.mono HA.out.1.size)) (And.intro (box_up HA.out.2.1 hb) (box_up HA.out.2.2 hb)))
 clear hb C7 p0 p1 p2 p3 p4
 have hz := HA.out.2.1
 obtain ⟨d0, d1, d2, d3, d4⟩ := box5 hz
 have df := box_fr hz
 have hx := HA.out.2.2
 obtain ⟨p0, p1, p2, p3, p4⟩ := box5 hx
 clear hz hx
 rcases HOK.out with ⟨t1, e9⟩ | ⟨t1, t2, e9⟩ | ⟨t1, t2, e9⟩
 · have E9 := Lib.hid e9
   clear e9 HOK
   have t1 : (c == 0) = false := t1
   have n1 : ¬ c = 0 := by simpa using t1
   have n2 : (c != 0) = true := by simpa using t1
   go_wp2_with fail
   refine bodyPost_any_world (fun X => X.heap[w.heap.size]? = some (.cells #[.int .i64 0, str [], str [], str [], .int .i64 0] 25 (0, 0)) ∧ Frm (fun i => i = w.heap.size) w8 X) (five_set HA.out.2.1 _ _ _ _ _) ?_
   clear df d0 d1 d2 d3 d4 p0 p1 p2 p3 p4
   rintro w9 ⟨h9, hf9⟩
   obtain ⟨k0_, k1_, k2_, k3_, k4_⟩ := box5 h9
   refine bodyPost_ret (v := .tuple #[.agg #[.int .i64 0, str [], str [], str [], .int .i64 0], .bool false]) (by simp [results, Tryz.results21, go_sem, k0_, k1_, k2_, k3_, k4_]) rfl ?_
   exact ⟨by rw [HRS.out, E9.out]; rfl, HA.out.1.trans (hf9.below HA.out.1.size (fun k hk => by omega))⟩
 · have E9 := Lib.hid e9
   clear e9 HOK
   obtain rfl : c = 0 := by simpa using t1
   clear t1
   have t2 : (t == s) = false := t2
   have n3 : ¬ t = s := by simpa using t2
   have n4 : (!t == s) = true := by rw [t2]; rfl
   go_wp2_with fail
   refine bodyPost_any_world (fun X => X.heap[w.heap.size]? = some (.cells #[.int .i64 0, str [], str [], str [], .int .i64 0] 25 (0, 0)) ∧ Frm (fun i => i = w.heap.size) w8 X) (five_set HA.out.2.1 _ _ _ _ _) ?_
   clear df d0 d1 d2 d3 d4 p0 p1 p2 p3 p4
   rintro w9 ⟨h9, hf9⟩
   obtain ⟨k0_, k1_, k2_, k3_, k4_⟩ := box5 h9
   refine bodyPost_ret (v := .tuple #[.agg #[.int .i64 0, str [], str [], str [], .int .i64 0], .bool false]) (by simp [results, Tryz.results21, go_sem, k0_, k1_, k2_, k3_, k4_]) rfl ?_
   exact ⟨by rw [HRS.out, E9.out]; rfl, HA.out.1.trans (hf9.below HA.out.1.size (fun k hk => by omega))⟩
 have E9 := Lib.hid e9
 clear e9 HOK
 obtain rfl : c = 0 := by simpa using t1
 clear t1
 obtain rfl : t = s := by simpa using t2
 clear t2
 go_wp2_with fail
 refine bodyPost_any_world (fun X => X.heap[w.heap.size]? = some (.cells #[.int .i64 num, str A_, str C_, str B_, .int .i64 D_] 25 (0, 0)) ∧ Frm (fun i => i = w.heap.size) w8 X) (five_set HA.out.2.1 _ _ _ _ _) ?_
 clear df d0 d1 d2 d3 d4 p0 p1 p2 p3 p4
 rintro w9 ⟨h9, hf9⟩
 obtain ⟨k0_, k1_, k2_, k3_, k4_⟩ := box5 h9
 refine bodyPost_ret (v := .tuple #[.agg #[.int .i64 num, str A_, str C_, str B_, .int .i64 D_], .bool true]) (by simp [results, Tryz.results21, go_sem, k0_, k1_, k2_, k3_, k4_]) rfl ?_
 exact ⟨by rw [HRS.out, E9.out]; rfl, HA.out.1.trans (hf9.below HA.out.1.size (fun k hk => by omega))⟩
theorem rgSub_any (s : List UInt8) (w : World) (hl : s.length ≤ 1000000) :
 Calls Tryz.prog 22 #[str s] w fun e w' => e = .returned (.tuple #[str (if okR (putSubR (wrdO (valOf s) folderN)) s = true then wrdO (valOf s) folderN else []), .bool (okR (putSubR (wrdO (valOf s) folderN)) s)]) ∧ Below w.heap.size w w' := by
 have hA_ := wrd_len s folderN
 have CP0 := part_c hl folderN
 generalize wrdO (valOf s) folderN = A_ at *
 obtain ⟨y0, e0⟩ : ∃ x, x = nbrO (valOf s) folderN := ⟨_, rfl⟩
 rw [← e0] at CP0
 clear e0
 have CP0 : Hid (PartC s [102, 111, 108, 100, 101, 114] y0 A_) := Lib.hid CP0
 obtain ⟨t, c, htc⟩ : ∃ t c, (t, c) = putSubR A_ := ⟨_, _, rfl⟩
 have CT : Hid (∀ W : World, Calls Tryz.prog 45 #[str A_] W fun e w' => e = .returned (.tuple #[str t, .int .i64 c]) ∧ Below W.heap.size W w') := Lib.hid (fun W => by have h := rputSub_any A_ W hA_; rw [← htc] at h; exact h)
 have hok := okR_of (putSubR A_) s
 obtain ⟨OK, hOK⟩ : ∃ b, b = okR (putSubR A_) s := ⟨_, rfl⟩
 rw [← hOK] at hok ⊢
 rw [← htc] at hok
 have HOK := Lib.hid hok
 obtain ⟨RS, hRS⟩ : ∃ x, x = (if OK = true then A_ else []) := ⟨_, rfl⟩
 rw [← hRS]
 have HRS := Lib.hid hRS
 clear hRS
 clear hok hOK htc hl hA_
 go_enter Tryz.func22, Tryz.ntmps22
 have C0 := Lib.hid (CP0.out w)
 clear CP0
 go_wp2_with fail
 refine C0.out.mono ?_
 rintro e w1 ⟨k0, fa0, fn0, fc0, ga0, gn0, gc0, rfl, hb⟩
 have f0 := fldS k0 y0 A_ fa0 fn0 fc0 ga0 gn0 gc0
 have HA := Lib.hid hb
 have C7 := Lib.hid (CT.out w1)
 clear hb C0 CT
 go_wp2_with fail
 refine C7.out.mono ?_
 rintro e w8 ⟨rfl, hb⟩
 have HA := Lib.hid (HA.out.trans (hb.mono HA.out.size))
 clear hb C7
 rcases HOK.out with ⟨t1, e9⟩ | ⟨t1, t2, e9⟩ | ⟨t1, t2, e9⟩
 · have E9 := Lib.hid e9
   clear e9 HOK
   have t1 : (c == 0) = false := t1
   have n1 : ¬ c = 0 := by simpa using t1
   have n2 : (c != 0) = true := by simpa using t1
   go_wp2_with fail
   go_ret2
   exact ⟨by rw [HRS.out, E9.out]; rfl, HA.out⟩
 · have E9 := Lib.hid e9
   clear e9 HOK
   obtain rfl : c = 0 := by simpa using t1
   clear t1
   have t2 : (t == s) = false := t2
   have n3 : ¬ t = s := by simpa using t2
   have n4 : (!t == s) = true := by rw [t2]; rfl
   go_wp2_with fail
   go_ret2
   exact ⟨by rw [HRS.out, E9.out]; rfl, HA.out⟩
 have E9 := Lib.hid e9
 clear e9 HOK
 obtain rfl : c = 0 := by simpa using t1
 clear t1
 obtain rfl : t = s := by simpa using t2
 clear t2
 go_wp2_with fail
 go_ret2
 exact ⟨by rw [HRS.out, E9.out]; rfl, HA.out⟩
end Go.Proofs.YtegblhmcfemfgaaGreatDoor
