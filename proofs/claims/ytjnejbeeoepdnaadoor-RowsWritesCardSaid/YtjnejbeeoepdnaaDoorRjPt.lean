/- hblref1.Print: the document's text of any value, or none. -/
import Derived.Test.YtjnejbeeoepdnaaDoorRjPrn
namespace Go.Proofs.YtjnejbeeoepdnaaDoor
open Go.RowKit

set_option maxRecDepth 100000 in
set_option maxHeartbeats 4000000 in
theorem rPrint_any (v : JV) (hst : stV v) (hlen : mayV v 64 = true → (prV v).length ≤ 1000000) (F : Nat → Prop) (w : World) (cs : List Value) (h : RdJ w F v cs) :
    Calls Tryd.prog 41 #[.agg cs.toArray] w fun e w' => ∃ u, e = .returned (.tuple #[u, .int .i64 (if mayV v 64 = true then 0 else 4)]) ∧ Rd w' u (if mayV v 64 = true then prV v else []) ∧ Below w.heap.size w w' := by
  have CM : Hid (∀ W, Below w.heap.size w W → Calls Tryd.prog 48 #[.agg cs.toArray] W fun e w' => e = .returned (.bool (mayV v 64)) ∧ Below W.heap.size W w') := Lib.hid (fun W hb => rMay_any v hst F W cs (h.up hb))
  have CP : Hid (mayV v 64 = true → ∀ W, Below w.heap.size w W → Calls Tryd.prog 49 #[.agg cs.toArray] W fun e w' => e = .returned (str (prV v)) ∧ Below W.heap.size W w') := Lib.hid (fun hm W hb => rjprn_all v 64 hm (by have := hlen hm; omega) F W cs (h.up hb))
  have HLN := Lib.hid hlen
  obtain ⟨a1, n1, c1, a2, n2, c2, rfl, _, _⟩ := h.open
  obtain ⟨W1, hW1⟩ : ∃ W1, W1 = w.alloc (.cells #[.int .i64 v.kind, .int .i64 v.n, str v.s, .slice a1 n1 c1, .slice a2 n2 c2] 63) := ⟨_, rfl⟩
  have hb1 : Below w.heap.size w W1 := by rw [hW1]; exact below_alloc _ _
  have hbx : W1.heap[w.heap.size]? = some (.cells #[.int .i64 v.kind, .int .i64 v.n, str v.s, .slice a1 n1 c1, .slice a2 n2 c2] 63 (0, 0)) := by rw [hW1]; exact heap_alloc_new _ _
  have HB := Lib.hid (And.intro hb1 hbx)
  replace CM := Lib.hid (CM.out W1 hb1)
  clear hst hlen h hb1
  have p0 := box_cell hbx 0
  have p1 := box_cell hbx 1
  have p2 := box_cell hbx 2
  have p3 := box_cell hbx 3
  have p4 := box_cell hbx 4
  clear hbx
  cases hm : mayV v 64 with
  | false =>
    rw [hm] at CM
    clear hm CP HLN
    go_enter Tryd.func41, Tryd.ntmps41
    go_upto_region 1 with fail
    rw [← hW1]
    clear hW1
    go_wp2_with fail
    refine CM.out.mono ?_
    rintro e w2 ⟨rfl, hb2⟩
    have HX := Lib.hid (HB.out.1.trans (hb2.mono HB.out.1.size))
    clear hb2 CM p0 p1 p2 p3 p4
    go_wp2_with fail
    go_ret2
    exact ⟨_, rfl, Rd.nil _, HX.out⟩
  | true =>
    rw [hm] at CM
    have CP2 := Lib.hid (CP.out hm)
    have hl := HLN.out hm
    obtain ⟨T, hT⟩ : ∃ T, T = prV v := ⟨_, rfl⟩
    rw [← hT] at CP2 hl ⊢
    have HL9 := Lib.hid hl
    clear hm CP HLN hT hl
    go_enter Tryd.func41, Tryd.ntmps41
    go_upto_region 1 with fail
    rw [← hW1]
    clear hW1
    go_wp2_with fail
    refine CM.out.mono ?_
    rintro e w2 ⟨rfl, hb2⟩
    have H2 := Lib.hid (And.intro (HB.out.1.trans (hb2.mono HB.out.1.size)) (box_up HB.out.2 hb2))
    clear hb2 CM p0 p1 p2 p3 p4
    have p0 := box_cell H2.out.2 0
    have p1 := box_cell H2.out.2 1
    have p2 := box_cell H2.out.2 2
    have p3 := box_cell H2.out.2 3
    have p4 := box_cell H2.out.2 4
    have CP3 := Lib.hid (CP2.out w2 H2.out.1)
    go_wp2_with fail
    refine CP3.out.mono ?_
    rintro e w3 ⟨rfl, hb3⟩
    obtain ⟨cap, w4, hconv, hrd, hb4⟩ := bytes_run T w3 HL9.out
    have HX := Lib.hid (And.intro hrd ((H2.out.1.trans (hb3.mono H2.out.1.size)).trans (hb4.mono (Nat.le_trans H2.out.1.size hb3.size))))
    clear hb3 hrd hb4 CP2 CP3 p0 p1 p2 p3 p4
    go_wp2_with fail
    go_ret2
    exact ⟨_, rfl, HX.out.1, HX.out.2⟩
end Go.Proofs.YtjnejbeeoepdnaaDoor
