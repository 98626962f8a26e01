/- hblref14's printed, object, number1, text, short: the document's rows. -/
import Derived.Test.YtjnejbeeoepdnaaDoorRjPt
import Derived.Test.YtjnejbeeoepdnaaDoorRwPut2
import Derived.Test.YtjnejbeeoepdnaaDoorRefName
namespace Go.Proofs.YtjnejbeeoepdnaaDoor
open Go.RowKit

/-- The text of an object, if it may be. -/
def refO (ms : List MemT) (ok : Bool) : List UInt8 × Int := if ok = true then objR ms else ([], 4)
def shortB (s : List UInt8) : Bool := decide (s.length ≤ 500) && validB s
theorem rshort_any (s : List UInt8) (w : World) (hl : s.length ≤ 9223372036854775807) : Calls Tryd.prog 25 #[str s] w fun e w' => e = .returned (.bool (shortB s)) ∧ w' = w := by
  have CV := Lib.hid (fun W => refValid_any s W hl)
  unfold shortB
  by_cases h : s.length ≤ 500
  · have d1 : decide ((s.length : Int) ≤ 500) = true := decide_eq_true (by omega)
    have d2 : decide (s.length ≤ 500) = true := decide_eq_true h
    rw [d2, Bool.true_and]
    clear h hl
    go_enter Tryd.func25, Tryd.ntmps25
    go_wp2_with fail
    refine (CV.out _).mono ?_
    rintro e w' ⟨rfl, rfl⟩
    go_wp2_with fail
    go_ret
    exact ⟨rfl, rfl⟩
  · have d1 : decide ((s.length : Int) ≤ 500) = false := decide_eq_false (by omega)
    have d2 : decide (s.length ≤ 500) = false := decide_eq_false h
    rw [d2, Bool.false_and]
    clear h hl
    go_enter Tryd.func25, Tryd.ntmps25
    go_wp2_with fail
    go_ret
    exact ⟨rfl, rfl⟩
set_option maxHeartbeats 1000000 in
theorem robj_any (a : Option Addr) (n c : Nat) (w : World) : Calls Tryd.prog 22 #[.slice a n c] w fun e w' => e = .returned (.agg #[.int .i64 7, .int .i64 0, str [], .slice none 0 0, .slice a n c]) ∧ Below w.heap.size w w' := by
  go_enter Tryd.func22, Tryd.ntmps22
  go_wp2_with fail
  exact bodyPost_ret (v := .agg #[.int .i64 7, .int .i64 0, str [], .slice none 0 0, .slice a n c]) (by simp [results, Tryd.results22, go_sem]) rfl ⟨rfl, below_alloc _ _⟩
set_option maxHeartbeats 1000000 in
theorem rnum1_any (n : Int) (w : World) : Calls Tryd.prog 23 #[.int .i64 n] w fun e w' => e = .returned (.agg #[.int .i64 4, .int .i64 n, str [], .slice none 0 0, .slice none 0 0]) ∧ Below w.heap.size w w' := by
  go_enter Tryd.func23, Tryd.ntmps23
  go_wp2_with fail
  exact bodyPost_ret (v := .agg #[.int .i64 4, .int .i64 n, str [], .slice none 0 0, .slice none 0 0]) (by simp [results, Tryd.results23, go_sem]) rfl ⟨rfl, below_alloc _ _⟩
set_option maxHeartbeats 1000000 in
theorem rtext1_any (s : List UInt8) (w : World) : Calls Tryd.prog 24 #[str s] w fun e w' => e = .returned (.agg #[.int .i64 5, .int .i64 0, str s, .slice none 0 0, .slice none 0 0]) ∧ Below w.heap.size w w' := by
  go_enter Tryd.func24, Tryd.ntmps24
  go_wp2_with fail
  exact bodyPost_ret (v := .agg #[.int .i64 5, .int .i64 0, str s, .slice none 0 0, .slice none 0 0]) (by simp [results, Tryd.results24, go_sem]) rfl ⟨rfl, below_alloc _ _⟩
set_option maxRecDepth 100000 in
set_option maxHeartbeats 4000000 in
theorem rprinted_any (ms : List MemT) (ok : Bool) (hst : stM ms) (hlen : mayV (.mk 7 0 [] [] ms) 64 = true → (prV (.mk 7 0 [] [] ms)).length ≤ 1000000) (F : Nat → Prop) (w : World) (cs : List Value) (h : RdJ w F (.mk 7 0 [] [] ms) cs) :
    Calls Tryd.prog 21 #[.agg cs.toArray, .bool ok] w fun e w' => e = .returned (.tuple #[str (refO ms ok).1, .int .i64 (refO ms ok).2]) ∧ Below w.heap.size w w' := by
  have hsv : stV (.mk 7 0 [] [] ms) := by unfold stV; exact ⟨by simp, by unfold stL; trivial, hst⟩
  have CP : Hid (∀ W, Below w.heap.size w W → Calls Tryd.prog 41 #[.agg cs.toArray] W fun e w' => ∃ u, e = .returned (.tuple #[u, .int .i64 (if mayV (.mk 7 0 [] [] ms) 64 = true then 0 else 4)]) ∧ Rd w' u (if mayV (.mk 7 0 [] [] ms) 64 = true then prV (.mk 7 0 [] [] ms) else []) ∧ Below W.heap.size W w') := Lib.hid (fun W hb => rPrint_any _ hsv hlen F W cs (h.up hb))
  obtain ⟨a1, n1, c1, a2, n2, c2, rfl, _, _⟩ := h.open
  unfold refO objR
  obtain ⟨V, hV⟩ : ∃ V : JV, V = .mk 7 0 [] [] ms := ⟨_, rfl⟩
  rw [← hV] at CP ⊢
  obtain ⟨W1, hW1⟩ : ∃ W1, W1 = w.alloc (.cells #[.int .i64 V.kind, .int .i64 V.n, str V.s, .slice a1 n1 c1, .slice a2 n2 c2] 63) := ⟨_, rfl⟩
  have hb1 : Below w.heap.size w W1 := by rw [hW1]; exact below_alloc _ _
  have hbx : W1.heap[w.heap.size]? = some (.cells #[.int .i64 V.kind, .int .i64 V.n, str V.s, .slice a1 n1 c1, .slice a2 n2 c2] 63 (0, 0)) := by rw [hW1]; exact heap_alloc_new _ _
  have p0 := box_cell hbx 0
  have p1 := box_cell hbx 1
  have p2 := box_cell hbx 2
  have p3 := box_cell hbx 3
  have p4 := box_cell hbx 4
  replace CP := Lib.hid (CP.out W1 hb1)
  have HB := Lib.hid hb1
  clear hbx hb1 h hsv hlen hst hV
  obtain ⟨T, hT⟩ : ∃ T, T = prV V := ⟨_, rfl⟩
  rw [← hT] at CP ⊢
  clear hT
  cases hm : mayV V 64 with
  | false =>
    rw [hm] at CP
    have HE : Hid ((if ok = true then (if false = true then (T, 0) else ([], 4)) else (([], 4) : List UInt8 × Int)) = ([], 4)) := Lib.hid (by cases ok <;> rfl)
    rw [HE.out]
    clear hm HE
    cases ok with
    | false =>
      go_enter Tryd.func21, Tryd.ntmps21
      go_upto_region 1 with fail
      rw [← hW1]
      clear hW1
      go_wp2_with fail
      refine CP.out.mono ?_
      rintro e w2 ⟨u, rfl, hu, hb2⟩
      have HX := Lib.hid (HB.out.trans (hb2.mono HB.out.size))
      clear hb2 hu CP p0 p1 p2 p3 p4
      go_wp2_with fail
      go_ret2
      exact ⟨rfl, HX.out⟩
    | true =>
      go_enter Tryd.func21, Tryd.ntmps21
      go_upto_region 1 with fail
      rw [← hW1]
      clear hW1
      go_wp2_with fail
      refine CP.out.mono ?_
      rintro e w2 ⟨u, rfl, hu, hb2⟩
      have HX := Lib.hid (HB.out.trans (hb2.mono HB.out.size))
      clear hb2 hu CP p0 p1 p2 p3 p4
      go_wp2_with fail
      go_ret2
      exact ⟨rfl, HX.out⟩
  | true =>
    rw [hm] at CP
    clear hm
    cases ok with
    | false =>
      go_enter Tryd.func21, Tryd.ntmps21
      go_upto_region 1 with fail
      rw [← hW1]
      clear hW1
      go_wp2_with fail
      refine CP.out.mono ?_
      rintro e w2 ⟨u, rfl, hu, hb2⟩
      have HX := Lib.hid (HB.out.trans (hb2.mono HB.out.size))
      clear hb2 hu CP p0 p1 p2 p3 p4
      go_wp2_with fail
      go_ret2
      exact ⟨rfl, HX.out⟩
    | true =>
      go_enter Tryd.func21, Tryd.ntmps21
      go_upto_region 1 with fail
      rw [← hW1]
      clear hW1
      go_wp2_with fail
      refine CP.out.mono ?_
      rintro e w2 ⟨u, rfl, hu, hb2⟩
      have hu : Rd w2 u T := hu
      have hform : ∃ au cu, u = .slice au T.length cu := by obtain ⟨a, c, h, _⟩ := hu; exact ⟨a, c, h⟩
      obtain ⟨au, cu, rfl⟩ := hform
      have hconv := bt.toString Tryd.underlying9 hu
      have HX := Lib.hid (HB.out.trans (hb2.mono HB.out.size))
      clear hb2 CP p0 p1 p2 p3 p4
      go_wp2_with fail
      go_ret2
      exact ⟨rfl, HX.out⟩
end Go.Proofs.YtjnejbeeoepdnaaDoor
