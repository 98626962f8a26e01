import Derived.Test.YtegblhmcfemfgaaGreatDoorJPrn
set_option maxRecDepth 100000
set_option maxHeartbeats 2000000
namespace Go.Proofs.YtegblhmcfemfgaaGreatDoor
open Go.RowKit
theorem RdJ.mk0 {W : World} {F : Nat → Prop} {v : JV} {vl vm : Value} {rl rm : List (List Value)} (h1 : RdFB F 5 W vl rl) (h2 : RdL W F v.l rl) (h3 : RdFB F 6 W vm rm) (h4 : RdM W F v.m rm) :
 RdJ W F v [.int .i64 v.kind, .int .i64 v.n, str v.s, vl, vm] := by
 obtain ⟨k, n, s, l, m⟩ := v
 unfold RdJ
 exact ⟨vl, vm, rfl, ⟨rl, h1, h2⟩, rm, h3, h4⟩
theorem bObject_any (a : Option Addr) (n c : Nat) (w : World) : Calls Tryz.prog 56 #[.slice a n c] w fun e w' => e = .returned (.agg #[.int .i64 7, .int .i64 0, str [], .slice none 0 0, .slice a n c]) ∧ Below w.heap.size w w' := by
 go_enter Tryz.func56, Tryz.ntmps56
 go_wp2_with fail
 exact bodyPost_ret (v := .agg #[.int .i64 7, .int .i64 0, str [], .slice none 0 0, .slice a n c]) (by simp [results, Tryz.results56, go_sem]) rfl ⟨rfl, below_alloc _ _⟩
theorem bList_any (nm : List UInt8) (a : Option Addr) (n c : Nat) (w : World) : Calls Tryz.prog 32 #[str nm, .slice a n c] w fun e w' => e = .returned (.agg #[str nm, .int .i64 6, .int .i64 0, str [], .slice a n c, .slice none 0 0]) ∧ Below w.heap.size w w' := by
 go_enter Tryz.func32, Tryz.ntmps32
 go_wp2_with fail
 exact bodyPost_ret (v := .agg #[str nm, .int .i64 6, .int .i64 0, str [], .slice a n c, .slice none 0 0]) (by simp [results, Tryz.results32, go_sem]) rfl ⟨rfl, below_alloc _ _⟩
theorem object_yes {F : Nat → Prop} {w : World} {am : Option Addr} {lm cm : Nat} {ms : List MemT} {rows : List (List Value)} (h1 : RdFB F 6 w (.slice am lm cm) rows) (h2 : RdM w F ms rows) (hm : mayV (.mk 7 0 [] [] ms) 64 = true)
 (hl : (prV (.mk 7 0 [] [] ms)).length ≤ 1000000) (ht : TabJ w.heap.size w) :
 Calls Tryz.prog 26 #[.slice am lm cm] w fun e w' => e = .returned (.tuple #[str (prV (.mk 7 0 [] [] ms)), .int .i64 0]) ∧ Below w.heap.size w w' := by
 have HT := Lib.hid ht
 have C1 := Lib.hid (bObject_any am lm cm w)
 have HV : Hid (∀ W, Below w.heap.size w W → RdJ W F (.mk 7 0 [] [] ms) [.int .i64 7, .int .i64 0, str [], .slice none 0 0, .slice am lm cm]) := Lib.hid (fun W hb => RdJ.mk0 (v := .mk 7 0 [] [] ms) (RdFB.nil _ _ _) (by unfold RdL; trivial) (h1.frm (Frm.of_below (F := fun _ => False) hb) (fun _ _ e => e)) (h2.up hb))
 obtain ⟨B, hB⟩ : ∃ B, B = prV (.mk 7 0 [] [] ms) := ⟨_, rfl⟩
 rw [← hB] at hl
 have CP : Hid (∀ W, Below w.heap.size w W → Calls Tryz.prog 55 #[.agg #[.int .i64 7, .int .i64 0, str [], .slice none 0 0, .slice am lm cm]] W fun e w' => ∃ v', e = .returned (.tuple #[v', .int .i64 0]) ∧ Own 5 w' W.heap.size v' B ∧ Below W.heap.size W w') := Lib.hid (fun W hb => by
  rw [hB]
  exact print_yes (HV.out W hb) hm (by rw [← hB]; omega) (fun w' h' => HT.out w' (hb.trans (h'.mono hb.size))))
 rw [← hB]
 clear h1 h2 hm ht hB
 go_enter Tryz.func26, Tryz.ntmps26
 go_wp2_with fail
 refine C1.out.mono ?_
 rintro e w1 ⟨rfl, hb1⟩
 have HB1 := Lib.hid hb1
 have CP1 := Lib.hid (CP.out w1 hb1)
 clear hb1 C1
 go_wp2_with fail
 refine CP1.out.mono ?_
 rintro e w2 ⟨v2, rfl, hown, hb2⟩
 have HB2 := Lib.hid (HB1.out.trans (hb2.mono HB1.out.size))
 have hconv := bt.toString Tryz.underlying9 hown.rd
 obtain ⟨a2, n2, c2, rfl⟩ := hown.form
 clear hb2 CP1 hown
 go_wp2_with fail
 go_ret2
 exact ⟨rfl, HB2.out⟩
end Go.Proofs.YtegblhmcfemfgaaGreatDoor
