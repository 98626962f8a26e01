/- JSON: the first look of the statements. -/
import Derived.Test.YtidlhajibjnkeaaDoorJParse
import Derived.Test.YtidlhajibjnkeaaDoorJPr
import Derived.Test.YtidlhajibjnkeaaDoorJPrn
import Derived.Lib.SlBytesConst
namespace Go.Proofs.YtidlhajibjnkeaaDoor
open Go.RowKit

theorem TabJ.up {w w1 : World} {B : Nat} (h : TabJ B w) (hb : Below B w w1) (hB : B ≤ w1.heap.size) : TabJ w1.heap.size w1 := fun w' h' => h w' (hb.trans (h'.mono hB))
/-- A row of bytes that was just laid. -/
theorem Rd.rowJ (E : TypeId) (w : World) (l : List UInt8) (hl : l.length ≤ 100000) (z : Nat × Nat) : Rd (w.alloc (.cells (l.map bv).toArray E z)) (.slice (some ⟨w.heap.size, 0, none⟩) l.length l.length) l := by
  refine ⟨_, l.length, rfl, Nat.le_refl _, by unfold maxLen; omega, (fun h => by cases h), fun _ => ⟨w.heap.size, 0, rfl, fun i hi => ?_⟩⟩
  have h := heap_alloc_new w (.cells (l.map bv).toArray E z)
  rw [Nat.zero_add, cell_of_row _ w.heap.size i _ E z h]
  simp [hi]
def jc1 : List UInt8 := [123, 34, 98, 34, 58, 49, 44, 34, 97, 34, 58, 91, 116, 114, 117, 101, 44, 110, 117, 108, 108, 93, 125]
def jv1 : JV := .mk 7 0 [] [] [([97], .mk 6 0 [] [.mk 3 0 [] [] [], .mk 1 0 [] [] []] []), ([98], .mk 4 1 [] [] [])]
theorem par1 : parP jc1 = .ok jv1 23 := by
  have h0 : valP jc1 64 0 = .ok jv1 23 := by
    rw [valP_at (c := 123) rfl (by decide)]
    simp only [casP]
    rw [if_neg (by decide), if_pos trivial, objP_eq]
    have h1 : mesR (valP jc1 63) jc1 0 = .ok [([98], .mk 4 1 [] [] []), ([97], .mk 6 0 [] [.mk 3 0 [] [] [], .mk 1 0 [] [] []] [])] 23 := by kernel_rfl
    have h2 : srtM [([98], .mk 4 1 [] [] []), ([97], .mk 6 0 [] [.mk 3 0 [] [] [], .mk 1 0 [] [] []] [])] = [([97], .mk 6 0 [] [.mk 3 0 [] [] [], .mk 1 0 [] [] []] []), ([98], .mk 4 1 [] [] [])] :=
      (srt_eq (List.Perm.swap _ _ _) (by simp [Op.bytesLess]) (by simp)).symm
    rw [h1]
    show objV (.ok (srtM _) 23) = _
    rw [h2]
    rfl
  unfold parP
  rw [if_neg (by decide), h0]
  dsimp only
  rw [if_neg (by decide)]
  rfl
theorem par2 : parP [49, 46, 53] = .err 4 := by kernel_rfl
theorem par3 : parP [123, 34, 97, 34, 58, 49, 44, 34, 97, 34, 58, 50, 125] = .err 4 := by kernel_rfl
theorem may1 : mayV jv1 64 = true := by kernel_rfl
theorem pr1 : prV jv1 = [123, 34, 97, 34, 58, 91, 116, 114, 117, 101, 44, 110, 117, 108, 108, 93, 44, 34, 98, 34, 58, 49, 125] := by
  have e : Lib.itoa 1 = [49] := by
    rw [Lib.itoa, if_neg (by decide)]
    exact Lib.decDigits_one (by decide)
  have e2 : prV (.mk 4 1 [] [] []) = [49] := e
  simp [jv1, prV, prU, prT, e, quo, qbL, qb, shB]
set_option maxRecDepth 100000 in
set_option maxHeartbeats 2000000 in
theorem jfirst_any (w : World) (ht : TabJ w.heap.size w) : Calls Tryd.prog 8 #[] w fun e w' => e = .returned (.bool true) ∧ Below w.heap.size w w' := by
  have C1 : Hid (∀ W : World, Calls Tryd.prog 12 #[.slice (some ⟨W.heap.size, 0, none⟩) 23 23] (W.alloc (.cells #[.int .u8 123, .int .u8 34, .int .u8 98, .int .u8 34, .int .u8 58, .int .u8 49, .int .u8 44, .int .u8 34, .int .u8 97, .int .u8 34, .int .u8 58, .int .u8 91, .int .u8 116, .int .u8 114, .int .u8 117, .int .u8 101, .int .u8 44, .int .u8 110, .int .u8 117, .int .u8 108, .int .u8 108, .int .u8 93, .int .u8 125] 5 (23, 23 + 1))) (ParJ (W.alloc (.cells #[.int .u8 123, .int .u8 34, .int .u8 98, .int .u8 34, .int .u8 58, .int .u8 49, .int .u8 44, .int .u8 34, .int .u8 97, .int .u8 34, .int .u8 58, .int .u8 91, .int .u8 116, .int .u8 114, .int .u8 117, .int .u8 101, .int .u8 44, .int .u8 110, .int .u8 117, .int .u8 108, .int .u8 108, .int .u8 93, .int .u8 125] 5 (23, 23 + 1))) (.ok jv1 23))) := Lib.hid (fun W => by
    have h := parse_any (Rd.rowJ 5 W jc1 (by decide) (23, 23 + 1)) (by decide)
    rw [par1] at h
    exact h)
  have C2 : Hid (∀ W : World, Calls Tryd.prog 12 #[.slice (some ⟨W.heap.size, 0, none⟩) 3 3] (W.alloc (.cells #[.int .u8 49, .int .u8 46, .int .u8 53] 5 (3, 3 + 1))) (ParJ (W.alloc (.cells #[.int .u8 49, .int .u8 46, .int .u8 53] 5 (3, 3 + 1))) (.err 4))) := Lib.hid (fun W => by
    have h := parse_any (Rd.rowJ 5 W [49, 46, 53] (by decide) (3, 3 + 1)) (by decide)
    rw [par2] at h
    exact h)
  have C3 : Hid (∀ W : World, Calls Tryd.prog 12 #[.slice (some ⟨W.heap.size, 0, none⟩) 13 13] (W.alloc (.cells #[.int .u8 123, .int .u8 34, .int .u8 97, .int .u8 34, .int .u8 58, .int .u8 49, .int .u8 44, .int .u8 34, .int .u8 97, .int .u8 34, .int .u8 58, .int .u8 50, .int .u8 125] 5 (13, 13 + 1))) (ParJ (W.alloc (.cells #[.int .u8 123, .int .u8 34, .int .u8 97, .int .u8 34, .int .u8 58, .int .u8 49, .int .u8 44, .int .u8 34, .int .u8 97, .int .u8 34, .int .u8 58, .int .u8 50, .int .u8 125] 5 (13, 13 + 1))) (.err 4))) := Lib.hid (fun W => by
    have h := parse_any (Rd.rowJ 5 W [123, 34, 97, 34, 58, 49, 44, 34, 97, 34, 58, 50, 125] (by decide) (13, 13 + 1)) (by decide)
    rw [par3] at h
    exact h)
  have HT := Lib.hid ht
  clear ht
  have kc := fun (w : World) (C : Array Value) (n c : Nat) => Lib.run_convert_bytes_const (P := Tryd.prog) w 26 5 C n c Tryd.underlying26 Tryd.underlying5
  go_enter Tryd.func8, Tryd.ntmps8
  go_wp2_with fail
  refine (C1.out w).mono ?_
  rintro e w1 ⟨cs, rfl, hv, hb⟩
  have hb1 := (below_alloc w _).trans (hb.mono (by simp))
  obtain ⟨al, ll, cl, am, lm, cm, rfl, _, _⟩ := hv.open
  obtain ⟨W2, hW2⟩ : ∃ W2, W2 = w1.alloc (.cells #[.int .i64 jv1.kind, .int .i64 jv1.n, str jv1.s, .slice al ll cl, .slice am lm cm] 25) := ⟨_, rfl⟩
  have hb2 : Below w.heap.size w W2 := by rw [hW2]; exact hb1.trans ((below_alloc w1 _).mono hb1.size)
  have hv1 := hv.mono (G := fun _ => True) (fun _ _ _ => trivial)
  have hv2 := hv1.up (show Below w1.heap.size w1 W2 by rw [hW2]; exact below_alloc w1 _)
  have CP := Lib.hid (print_yes hv2 may1 (by rw [pr1]; decide) (HT.out.up hb2 hb2.size))
  have HB2 := Lib.hid hb2
  clear hb hb1 hb2 hv hv1 hv2
  go_wp2_with fail
  rw [← hW2]
  clear hW2
  refine CP.out.mono ?_
  rintro e w3 ⟨v3, rfl, hown, hb3⟩
  rw [pr1] at hown
  obtain ⟨a3, n3, c3, rfl⟩ := hown.form
  have HR3 := Lib.hid hown.rd
  have HB3 := Lib.hid (HB2.out.trans (hb3.mono HB2.out.size))
  clear hown hb3 CP HB2
  go_wp2_with fail
  refine (C2.out w3).mono ?_
  rintro e w4 ⟨rfl, _, hb4⟩
  have hb4' := (below_alloc w3 (.cells #[.int .u8 49, .int .u8 46, .int .u8 53] 5 (3, 3 + 1))).trans (hb4.mono (by simp))
  have HR4 := Lib.hid ((HR3.out.below hb4' (Nat.le_refl _)).alloc (.cells #[.int .i64 0, .int .i64 0, str [], .slice none 0 0, .slice none 0 0] 25))
  have HB4 := Lib.hid ((HB3.out.trans (hb4'.mono HB3.out.size)).alloc (by have := HB3.out.size; have := hb4'.size; omega) (.cells #[.int .i64 0, .int .i64 0, str [], .slice none 0 0, .slice none 0 0] 25))
  clear hb4 hb4' HR3 HB3
  obtain ⟨w5, hw5⟩ : ∃ w5, w5 = w4.alloc (.cells #[.int .i64 0, .int .i64 0, str [], .slice none 0 0, .slice none 0 0] 25) := ⟨_, rfl⟩
  rw [← hw5] at HR4 HB4
  go_upto_region 4 with fail
  rw [← hw5]
  clear hw5
  go_wp2_with fail
  refine (C3.out w5).mono ?_
  rintro e w6 ⟨rfl, _, hb6⟩
  have hb6' := (below_alloc w5 (.cells #[.int .u8 123, .int .u8 34, .int .u8 97, .int .u8 34, .int .u8 58, .int .u8 49, .int .u8 44, .int .u8 34, .int .u8 97, .int .u8 34, .int .u8 58, .int .u8 50, .int .u8 125] 5 (13, 13 + 1))).trans (hb6.mono (by simp))
  have HR6 := Lib.hid ((HR4.out.below hb6' (Nat.le_refl _)).alloc (.cells #[.int .i64 0, .int .i64 0, str [], .slice none 0 0, .slice none 0 0] 25))
  have HB6 := Lib.hid ((HB4.out.trans (hb6'.mono HB4.out.size)).alloc (by have := HB4.out.size; have := hb6'.size; omega) (.cells #[.int .i64 0, .int .i64 0, str [], .slice none 0 0, .slice none 0 0] 25))
  clear hb6 hb6' HR4 HB4
  have hconv := bt.toString Tryd.underlying9 HR6.out
  go_wp2_with fail
  go_ret
  exact ⟨rfl, HB6.out⟩
end Go.Proofs.YtidlhajibjnkeaaDoor
