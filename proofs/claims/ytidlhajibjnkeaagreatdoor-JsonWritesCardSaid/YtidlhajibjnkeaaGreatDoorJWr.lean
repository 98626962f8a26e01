/- hbllaw4.JsonWrites: the walk. -/
import Derived.Test.YtidlhajibjnkeaaGreatDoorNames
import Derived.Test.YtidlhajibjnkeaaGreatDoorJFirst
import Derived.Test.YtidlhajibjnkeaaGreatDoorJPrn
import Derived.Test.YtidlhajibjnkeaaGreatDoorJGet
import Derived.Test.YtidlhajibjnkeaaGreatDoorRjSame
import Derived.Test.YtidlhajibjnkeaaGreatDoorJCut
import Derived.Test.YtidlhajibjnkeaaGreatDoorSameS
import Derived.Test.YtidlhajibjnkeaaGreatDoorRjMem
namespace Go.Proofs.YtidlhajibjnkeaaGreatDoor
open Go.RowKit

/-- The arguments' boxes; what lay lies on. -/
def JwB (w : World) (cv cu : List Value) (W : World) : Prop := Below w.heap.size w W ∧ W.heap[w.heap.size]? = some (.cells cv.toArray 28 (0, 0)) ∧ W.heap[w.heap.size + 1]? = some (.cells cu.toArray 28 (0, 0))
theorem JwB.up {w W W' : World} {cv cu : List Value} (h : JwB w cv cu W) (hb : Below W.heap.size W W') : JwB w cv cu W' := ⟨h.1.trans (hb.mono h.1.size), box_up h.2.1 hb, box_up h.2.2 hb⟩
set_option maxRecDepth 100000 in
set_option maxHeartbeats 8000000 in
theorem jwrites_few1 (v u : JV) (cv cu : List Value) (nm : List UInt8) (n : Int) (w : World) (hv : RdJ w (fun _ => True) v cv) (hu : RdJ w (fun _ => True) u cu) (ht : TabJ w.heap.size w) (h1 : fewB v = false) :
    Calls Tryz.prog 4 #[.agg cv.toArray, .agg cu.toArray, str nm, .int .i64 n] w fun e w' => e = .returned (.bool true) ∧ Below w.heap.size w w' := by
  obtain ⟨al, ll, cl, am, lm, cm, hcv, _, _⟩ := hv.open
  obtain ⟨bl, ml, dl, bm, mm, dm, hcu, _, _⟩ := hu.open
  obtain ⟨kv, nv, sv, hk1, hn1, hs1⟩ : ∃ a b c, a = v.kind ∧ b = v.n ∧ c = v.s := ⟨_, _, _, rfl, rfl, rfl⟩
  obtain ⟨ku, nu, su, hk2, hn2, hs2⟩ : ∃ a b c, a = u.kind ∧ b = u.n ∧ c = u.s := ⟨_, _, _, rfl, rfl, rfl⟩
  rw [← hk1, ← hn1, ← hs1] at hcv
  rw [← hk2, ← hn2, ← hs2] at hcu
  subst hcv hcu
  obtain ⟨W0, hW0⟩ : ∃ W0, W0 = (w.alloc (.cells #[.int .i64 kv, .int .i64 nv, str sv, .slice al ll cl, .slice am lm cm] 28)).alloc (.cells #[.int .i64 ku, .int .i64 nu, str su, .slice bl ml dl, .slice bm mm dm] 28) := ⟨_, rfl⟩
  have H0 : Hid (JwB w [.int .i64 kv, .int .i64 nv, str sv, .slice al ll cl, .slice am lm cm] [.int .i64 ku, .int .i64 nu, str su, .slice bl ml dl, .slice bm mm dm] W0) := Lib.hid (by
    rw [hW0]
    refine ⟨((Below.refl _ _).alloc (Nat.le_refl _) _).alloc (by simp) _, box_up (heap_alloc_new w _) (below_alloc _ _), ?_⟩
    have := heap_alloc_new (w.alloc (.cells #[.int .i64 kv, .int .i64 nv, str sv, .slice al ll cl, .slice am lm cm] 28)) (.cells #[.int .i64 ku, .int .i64 nu, str su, .slice bl ml dl, .slice bm mm dm] 28)
    simpa using this)
  have HT := Lib.hid ht
  have HV := Lib.hid hv
  have HU := Lib.hid hu
  have CF := Lib.hid (jfirst_any W0 (ht.up H0.out.1 H0.out.1.size))
  have HK := Lib.hid (And.intro hk1 (And.intro hn1 (And.intro hs1 (And.intro hk2 (And.intro hn2 hs2)))))
  clear ht hv hu hk1 hn1 hs1 hk2 hn2 hs2
  have hf1 := Lib.hid h1
  clear h1
  go_enter Tryz.func4, Tryz.ntmps4
  go_upto_region 1 with fail
  rw [← hW0]
  clear hW0
  go_wp2_with fail
  refine CF.out.mono ?_
  rintro e w1 ⟨rfl, hb1⟩
  have H1 := Lib.hid (H0.out.up hb1)
  clear hb1 CF H0
  have CW := Lib.hid (few_any (HV.out.up H1.out.1))
  rw [hf1.out] at CW
  have q0 := box_cell H1.out.2.1 0
  have q1 := box_cell H1.out.2.1 1
  have q2 := box_cell H1.out.2.1 2
  have q3 := box_cell H1.out.2.1 3
  have q4 := box_cell H1.out.2.1 4
  go_wp2_with fail
  refine CW.out.mono ?_
  rintro e w2 ⟨rfl, hb2⟩
  have H2 := Lib.hid (H1.out.up hb2)
  clear hb2 CW q0 q1 q2 q3 q4 H1
  have CF := Lib.hid (jfirst_any w2 (HT.out.up H2.out.1 H2.out.1.size))
  go_wp2_with fail
  refine CF.out.mono ?_
  rintro e wz ⟨rfl, hbz⟩
  have HX := Lib.hid (H2.out.up hbz).1
  clear hbz CF
  go_wp2_with fail
  go_ret
  exact ⟨rfl, HX.out⟩
set_option maxRecDepth 100000 in
set_option maxHeartbeats 8000000 in
theorem jwrites_few2 (v u : JV) (cv cu : List Value) (nm : List UInt8) (n : Int) (w : World) (hv : RdJ w (fun _ => True) v cv) (hu : RdJ w (fun _ => True) u cu) (ht : TabJ w.heap.size w) (h1 : fewB v = true) (h2 : fewB u = false) :
    Calls Tryz.prog 4 #[.agg cv.toArray, .agg cu.toArray, str nm, .int .i64 n] w fun e w' => e = .returned (.bool true) ∧ Below w.heap.size w w' := by
  obtain ⟨al, ll, cl, am, lm, cm, hcv, _, _⟩ := hv.open
  obtain ⟨bl, ml, dl, bm, mm, dm, hcu, _, _⟩ := hu.open
  obtain ⟨kv, nv, sv, hk1, hn1, hs1⟩ : ∃ a b c, a = v.kind ∧ b = v.n ∧ c = v.s := ⟨_, _, _, rfl, rfl, rfl⟩
  obtain ⟨ku, nu, su, hk2, hn2, hs2⟩ : ∃ a b c, a = u.kind ∧ b = u.n ∧ c = u.s := ⟨_, _, _, rfl, rfl, rfl⟩
  rw [← hk1, ← hn1, ← hs1] at hcv
  rw [← hk2, ← hn2, ← hs2] at hcu
  subst hcv hcu
  obtain ⟨W0, hW0⟩ : ∃ W0, W0 = (w.alloc (.cells #[.int .i64 kv, .int .i64 nv, str sv, .slice al ll cl, .slice am lm cm] 28)).alloc (.cells #[.int .i64 ku, .int .i64 nu, str su, .slice bl ml dl, .slice bm mm dm] 28) := ⟨_, rfl⟩
  have H0 : Hid (JwB w [.int .i64 kv, .int .i64 nv, str sv, .slice al ll cl, .slice am lm cm] [.int .i64 ku, .int .i64 nu, str su, .slice bl ml dl, .slice bm mm dm] W0) := Lib.hid (by
    rw [hW0]
    refine ⟨((Below.refl _ _).alloc (Nat.le_refl _) _).alloc (by simp) _, box_up (heap_alloc_new w _) (below_alloc _ _), ?_⟩
    have := heap_alloc_new (w.alloc (.cells #[.int .i64 kv, .int .i64 nv, str sv, .slice al ll cl, .slice am lm cm] 28)) (.cells #[.int .i64 ku, .int .i64 nu, str su, .slice bl ml dl, .slice bm mm dm] 28)
    simpa using this)
  have HT := Lib.hid ht
  have HV := Lib.hid hv
  have HU := Lib.hid hu
  have CF := Lib.hid (jfirst_any W0 (ht.up H0.out.1 H0.out.1.size))
  have HK := Lib.hid (And.intro hk1 (And.intro hn1 (And.intro hs1 (And.intro hk2 (And.intro hn2 hs2)))))
  clear ht hv hu hk1 hn1 hs1 hk2 hn2 hs2
  have hf1 := Lib.hid h1
  have hf2 := Lib.hid h2
  clear h1 h2
  go_enter Tryz.func4, Tryz.ntmps4
  go_upto_region 1 with fail
  rw [← hW0]
  clear hW0
  go_wp2_with fail
  refine CF.out.mono ?_
  rintro e w1 ⟨rfl, hb1⟩
  have H1 := Lib.hid (H0.out.up hb1)
  clear hb1 CF H0
  have CW := Lib.hid (few_any (HV.out.up H1.out.1))
  rw [hf1.out] at CW
  have q0 := box_cell H1.out.2.1 0
  have q1 := box_cell H1.out.2.1 1
  have q2 := box_cell H1.out.2.1 2
  have q3 := box_cell H1.out.2.1 3
  have q4 := box_cell H1.out.2.1 4
  go_wp2_with fail
  refine CW.out.mono ?_
  rintro e w2 ⟨rfl, hb2⟩
  have H2 := Lib.hid (H1.out.up hb2)
  clear hb2 CW q0 q1 q2 q3 q4 H1
  have CW := Lib.hid (few_any (HU.out.up H2.out.1))
  rw [hf2.out] at CW
  have q0 := box_cell H2.out.2.2 0
  have q1 := box_cell H2.out.2.2 1
  have q2 := box_cell H2.out.2.2 2
  have q3 := box_cell H2.out.2.2 3
  have q4 := box_cell H2.out.2.2 4
  go_wp2_with fail
  refine CW.out.mono ?_
  rintro e w3 ⟨rfl, hb3⟩
  have H3 := Lib.hid (H2.out.up hb3)
  clear hb3 CW q0 q1 q2 q3 q4 H2
  have CF := Lib.hid (jfirst_any w3 (HT.out.up H3.out.1 H3.out.1.size))
  go_wp2_with fail
  refine CF.out.mono ?_
  rintro e wz ⟨rfl, hbz⟩
  have HX := Lib.hid (H3.out.up hbz).1
  clear hbz CF
  go_wp2_with fail
  go_ret
  exact ⟨rfl, HX.out⟩
set_option maxRecDepth 100000 in
set_option maxHeartbeats 8000000 in
theorem jwrites_long (v u : JV) (cv cu : List Value) (nm : List UInt8) (n : Int) (w : World) (hv : RdJ w (fun _ => True) v cv) (hu : RdJ w (fun _ => True) u cu) (ht : TabJ w.heap.size w) (h1 : fewB v = true) (h2 : fewB u = true) (h3 : 1000 < nm.length) :
    Calls Tryz.prog 4 #[.agg cv.toArray, .agg cu.toArray, str nm, .int .i64 n] w fun e w' => e = .returned (.bool true) ∧ Below w.heap.size w w' := by
  obtain ⟨al, ll, cl, am, lm, cm, hcv, _, _⟩ := hv.open
  obtain ⟨bl, ml, dl, bm, mm, dm, hcu, _, _⟩ := hu.open
  obtain ⟨kv, nv, sv, hk1, hn1, hs1⟩ : ∃ a b c, a = v.kind ∧ b = v.n ∧ c = v.s := ⟨_, _, _, rfl, rfl, rfl⟩
  obtain ⟨ku, nu, su, hk2, hn2, hs2⟩ : ∃ a b c, a = u.kind ∧ b = u.n ∧ c = u.s := ⟨_, _, _, rfl, rfl, rfl⟩
  rw [← hk1, ← hn1, ← hs1] at hcv
  rw [← hk2, ← hn2, ← hs2] at hcu
  subst hcv hcu
  obtain ⟨W0, hW0⟩ : ∃ W0, W0 = (w.alloc (.cells #[.int .i64 kv, .int .i64 nv, str sv, .slice al ll cl, .slice am lm cm] 28)).alloc (.cells #[.int .i64 ku, .int .i64 nu, str su, .slice bl ml dl, .slice bm mm dm] 28) := ⟨_, rfl⟩
  have H0 : Hid (JwB w [.int .i64 kv, .int .i64 nv, str sv, .slice al ll cl, .slice am lm cm] [.int .i64 ku, .int .i64 nu, str su, .slice bl ml dl, .slice bm mm dm] W0) := Lib.hid (by
    rw [hW0]
    refine ⟨((Below.refl _ _).alloc (Nat.le_refl _) _).alloc (by simp) _, box_up (heap_alloc_new w _) (below_alloc _ _), ?_⟩
    have := heap_alloc_new (w.alloc (.cells #[.int .i64 kv, .int .i64 nv, str sv, .slice al ll cl, .slice am lm cm] 28)) (.cells #[.int .i64 ku, .int .i64 nu, str su, .slice bl ml dl, .slice bm mm dm] 28)
    simpa using this)
  have HT := Lib.hid ht
  have HV := Lib.hid hv
  have HU := Lib.hid hu
  have CF := Lib.hid (jfirst_any W0 (ht.up H0.out.1 H0.out.1.size))
  have HK := Lib.hid (And.intro hk1 (And.intro hn1 (And.intro hs1 (And.intro hk2 (And.intro hn2 hs2)))))
  clear ht hv hu hk1 hn1 hs1 hk2 hn2 hs2
  have hf1 := Lib.hid h1
  have hf2 := Lib.hid h2
  have n3 : (1000 : Int) < (nm.length : Int) := by omega
  clear h1 h2 h3
  go_enter Tryz.func4, Tryz.ntmps4
  go_upto_region 1 with fail
  rw [← hW0]
  clear hW0
  go_wp2_with fail
  refine CF.out.mono ?_
  rintro e w1 ⟨rfl, hb1⟩
  have H1 := Lib.hid (H0.out.up hb1)
  clear hb1 CF H0
  have CW := Lib.hid (few_any (HV.out.up H1.out.1))
  rw [hf1.out] at CW
  have q0 := box_cell H1.out.2.1 0
  have q1 := box_cell H1.out.2.1 1
  have q2 := box_cell H1.out.2.1 2
  have q3 := box_cell H1.out.2.1 3
  have q4 := box_cell H1.out.2.1 4
  go_wp2_with fail
  refine CW.out.mono ?_
  rintro e w2 ⟨rfl, hb2⟩
  have H2 := Lib.hid (H1.out.up hb2)
  clear hb2 CW q0 q1 q2 q3 q4 H1
  have CW := Lib.hid (few_any (HU.out.up H2.out.1))
  rw [hf2.out] at CW
  have q0 := box_cell H2.out.2.2 0
  have q1 := box_cell H2.out.2.2 1
  have q2 := box_cell H2.out.2.2 2
  have q3 := box_cell H2.out.2.2 3
  have q4 := box_cell H2.out.2.2 4
  go_wp2_with fail
  refine CW.out.mono ?_
  rintro e w3 ⟨rfl, hb3⟩
  have H3 := Lib.hid (H2.out.up hb3)
  clear hb3 CW q0 q1 q2 q3 q4 H2
  have CF := Lib.hid (jfirst_any w3 (HT.out.up H3.out.1 H3.out.1.size))
  go_wp2_with fail
  refine CF.out.mono ?_
  rintro e wz ⟨rfl, hbz⟩
  have HX := Lib.hid (H3.out.up hbz).1
  clear hbz CF
  go_wp2_with fail
  go_ret
  exact ⟨rfl, HX.out⟩
end Go.Proofs.YtidlhajibjnkeaaGreatDoor
