/- A value of JSON that came in, opened: no condition. -/
import Derived.Test.YtidlhajibjnkeaaGreatDoorOpen
import Derived.Test.YtidlhajibjnkeaaGreatDoorJBase
import Derived.Lib.SmallJoins
import Derived.Deep.Slices
namespace Go.Proofs.YtidlhajibjnkeaaGreatDoor
open Go.ChangeShapes Go.WideShapes Go.ChangeAt Go.RowKit Go.Deep

theorem RdL.maps {W : World} {F : Nat → Prop} {f : Nat → JV} {g : Nat → List Value} : ∀ {l : List Nat}, (∀ i ∈ l, RdJ W F (f i) (g i)) → RdL W F (l.map f) (l.map g)
  | [], _ => by simp only [List.map_nil]; unfold RdL; trivial
  | i :: t, h => by
    simp only [List.map_cons]
    unfold RdL
    exact ⟨h i (by simp), RdL.maps (fun j hj => h j (by simp [hj]))⟩
theorem RdM.maps {W : World} {F : Nat → Prop} {n : Nat → List UInt8} {f : Nat → JV} {g : Nat → List Value} : ∀ {l : List Nat}, (∀ i ∈ l, RdJ W F (f i) (g i)) → RdM W F (l.map fun i => (n i, f i)) (l.map fun i => str (n i) :: g i)
  | [], _ => by simp only [List.map_nil]; unfold RdM; trivial
  | i :: t, h => by
    simp only [List.map_cons]
    unfold RdM
    exact ⟨⟨_, rfl, h i (by simp)⟩, RdM.maps (fun j hj => h j (by simp [hj]))⟩
/-- A slice of rows as it came in. -/
theorem rows_open {H : Type} {enc : TypeId × Value → H} {P : Program} {W : World} {t e : TypeId} {sz fuel : Nat} {c : Value} {x : DataW H × List MemPlace} {R : List Value → Prop} (ht : P.underlying t = some (.slice e)) (ce : P.cellsOf e = sz) (hsz : 0 < sz)
    (h : DataW.trod enc P W 0 (fun _ => true) true fuel t [c] = some x) (each : ∀ (m : Nat) (cs : List Value) (y : DataW H × List MemPlace), m < fuel → DataW.trod enc P W 0 (fun _ => true) true m e cs = some y → R cs) :
    ∃ rows : List (List Value), RdFB (fun _ => True) sz W c rows ∧ ∃ q : Nat → List Value, rows = (List.range rows.length).map q ∧ ∀ i, i < rows.length → R (q i) := by
  rcases DataW.trod_slice ht h with ⟨hc, _⟩ | ⟨a, len, cap, elems, rest, n, hfu, hc, _, _, hl, hm, hel, hx, _, _⟩
  · simp only [List.cons.injEq, and_true] at hc
    subst hc
    exact ⟨[], RdFB.nil _ _ _, fun _ => [], rfl, by simp⟩
  · simp only [List.cons.injEq, and_true] at hc
    subst hc
    have each2 : ∀ i, i < len → ∃ cs : List Value, R cs ∧ W.cells? 0 (a.add (i * sz)) sz = some cs := by
      intro i hi
      have hk := hx i hi
      rw [List.getElem?_eq_getElem (by omega), ce] at hk
      obtain ⟨cs', h1, h2⟩ := Option.bind_eq_some_iff.1 hk
      exact ⟨cs', each n cs' _ (by omega) h2, h1⟩
    obtain ⟨q, hq⟩ := Go.Deep.choose_lt each2
    refine ⟨(List.range len).map q, ⟨some a, cap, by simp, by simp; simp only [maxLen] at hm; omega, by simp; omega, by simp only [maxLen] at hm; omega, fun hne => ?_⟩, q, by simp, fun i hi => (hq i (by simpa using hi)).1⟩
    have hpos : 0 < len := by
      rcases Nat.eq_zero_or_pos len with h0 | h0
      · exfalso; apply hne; rw [h0]; simp
      · exact h0
    obtain ⟨b, off, spot⟩ := a
    have hcell : ∀ i, i < len → ∀ j, j < sz → W.cell? (((⟨b, off, spot⟩ : Addr).add (i * sz)).add j) = (q i)[j]? ∧ (q i).length = sz := by
      intro i hi j hj
      obtain ⟨_, h2, h3⟩ := World.cells?_some (hq i hi).2
      refine ⟨h3 j (by omega), h2⟩
    have h00 := hcell 0 hpos 0 hsz
    have hspot : spot = none := by
      have h1 := h00.1
      rw [List.getElem?_eq_getElem (by rw [h00.2]; exact hsz)] at h1
      have := World.cell?_spot h1
      simpa [Addr.add] using this
    subst hspot
    refine ⟨b, off, rfl, trivial, fun i hi j u hu => ?_⟩
    have hi' : i < len := by simpa using hi
    simp only [List.getElem_map, List.getElem_range] at hu
    have hlen := (hcell i hi' 0 hsz).2
    have hj : j < sz := by
      have := (List.getElem?_eq_some_iff.1 hu).1
      omega
    have := (hcell i hi' j hj).1
    rw [hu, Addr.add_lit, Addr.add_lit] at this
    exact this
/-- The type's fields. -/
structure JvTy (P : Program) (T M : TypeId) (f0 f1 f2 f3 f4 m0 m1 : Field) : Prop where
  s : P.underlying T = some (.struct #[f0, f1, f2, f3, f4])
  c : P.cellsOf T = 5
  o : f0.offset = 0 ∧ f1.offset = 1 ∧ f2.offset = 2 ∧ f3.offset = 3 ∧ f4.offset = 4
  k : P.cellsOf f0.type = 1 ∧ P.cellsOf f1.type = 1 ∧ P.cellsOf f2.type = 1 ∧ P.cellsOf f3.type = 1 ∧ P.cellsOf f4.type = 1
  u0 : P.underlying f0.type = some (.int .i64)
  u1 : P.underlying f1.type = some (.int .i64)
  u2 : P.underlying f2.type = some .string
  u3 : P.underlying f3.type = some (.slice T)
  u4 : P.underlying f4.type = some (.slice M)
  ms : P.underlying M = some (.struct #[m0, m1])
  mc : P.cellsOf M = 6
  mo : m0.offset = 0 ∧ m1.offset = 1
  mk0 : P.cellsOf m0.type = 1
  mu : P.underlying m0.type = some .string
  mt : m1.type = T
theorem jv_open {H : Type} {enc : TypeId × Value → H} {P : Program} {W : World} {T M : TypeId} {f0 f1 f2 f3 f4 m0 m1 : Field} (K : JvTy P T M f0 f1 f2 f3 f4 m0 m1) :
    ∀ (fuel : Nat) (cs : List Value) (x : DataW H × List MemPlace), DataW.trod enc P W 0 (fun _ => true) true fuel T cs = some x → ∃ v : JV, RdJ W (fun _ => True) v cs := by
  intro fuel
  induction fuel using Nat.strongRecOn with
  | ind fuel ih =>
    intro cs x h
    obtain ⟨xs, n, hfu, _, hl, hlen, hx⟩ := DataW.trod_struct K.s h
    obtain ⟨o0, o1, o2, o3, o4⟩ := K.o
    obtain ⟨k0, k1, k2, k3, k4⟩ := K.k
    rw [K.c] at hl
    match xs, hlen, cs, hl with
    | [y0, y1, y2, y3, y4], _, [c0, c1, c2, c3, c4], _ =>
      have h0 := hx 0 f0 rfl
      have h1 := hx 1 f1 rfl
      have h2 := hx 2 f2 rfl
      have h3 := hx 3 f3 rfl
      have h4 := hx 4 f4 rfl
      simp only [o0, o1, o2, o3, o4, k0, k1, k2, k3, k4, List.drop_succ_cons, List.drop_zero, List.take_succ_cons, List.take_zero] at h0 h1 h2 h3 h4
      obtain ⟨i0, e0, _, w0⟩ := DataW.trod_int K.u0 h0
      obtain ⟨i1, e1, _, w1⟩ := DataW.trod_int K.u1 h1
      obtain ⟨s2, e2, _, w2⟩ := DataW.trod_string K.u2 h2
      simp only [List.cons.injEq, and_true] at e0 e1 e2
      subst e0 e1 e2
      obtain ⟨rl, hrl, ql, hql, hrl2⟩ := rows_open (R := fun cs => ∃ v : JV, RdJ W (fun _ => True) v cs) K.u3 K.c (by decide) h3 (fun m cs y hm hy => ih m (by omega) cs y hy)
      obtain ⟨rm, hrm, qm, hqm, hrm2⟩ := rows_open (R := fun cs => ∃ (nm : List UInt8) (v : JV) (cs' : List Value), cs = str nm :: cs' ∧ RdJ W (fun _ => True) v cs') K.u4 K.mc (by decide) h4 (fun m cs y hm hy => by
        obtain ⟨ys, j, hju, _, hl2, hlen2, hx2⟩ := DataW.trod_struct K.ms hy
        rw [K.mc] at hl2
        obtain ⟨p0, p1⟩ := K.mo
        match ys, hlen2, cs, hl2 with
        | [z0, z1], _, [d0, d1, d2, d3, d4, d5], _ =>
          have g0 := hx2 0 m0 rfl
          have g1 := hx2 1 m1 rfl
          simp only [p0, p1, K.mk0, K.mt, K.c, List.drop_succ_cons, List.drop_zero, List.take_succ_cons, List.take_zero] at g0 g1
          obtain ⟨s0, e0, _, w0⟩ := DataW.trod_string K.mu g0
          simp only [List.cons.injEq, and_true] at e0
          subst e0
          obtain ⟨v, hv⟩ := ih j (by omega) _ _ g1
          exact ⟨s0.data.toList, v, _, by cases s0; rfl, hv⟩)
      obtain ⟨vl, hvl⟩ := Go.Deep.choose_lt hrl2
      obtain ⟨nm, hnm⟩ := Go.Deep.choose_lt hrm2
      obtain ⟨vm, hvm⟩ := Go.Deep.choose_lt hnm
      obtain ⟨cm, hcm⟩ := Go.Deep.choose_lt hvm
      refine ⟨.mk i0 i1 s2.data.toList ((List.range rl.length).map vl) ((List.range rm.length).map fun i => (nm i, vm i)), ?_⟩
      unfold RdJ
      refine ⟨c3, c4, by cases s2; rfl, ⟨rl, hrl, ?_⟩, rm, hrm, ?_⟩
      · rw [hql]
        have := RdL.maps (W := W) (F := fun _ => True) (f := vl) (g := ql) (l := List.range rl.length) (fun i hi => hvl i (by simpa using hi))
        simpa using this
      · have e : rm = (List.range rm.length).map fun i => str (nm i) :: cm i := by
          conv => lhs; rw [hqm]
          exact List.map_congr_left (fun i hi => (hcm i (by simpa using hi)).1)
        have := RdM.maps (W := W) (F := fun _ => True) (n := nm) (f := vm) (g := cm) (l := List.range rm.length) (fun i hi => (hcm i (by simpa using hi)).2)
        rw [← e] at this
        exact this
/-- A value handed in. -/
theorem jval_open {H : Type} {enc : TypeId × Value → H} {P : Program} {W : World} {base : Nat} {T M : TypeId} {f0 f1 f2 f3 f4 m0 m1 : Field} {v : Value} {d : DataW H} {p : List MemPlace} (K : JvTy P T M f0 f1 f2 f3 f4 m0 m1)
    (hv : Value.okWide P W .any base T v) (h : DataW.Trod enc P W 0 (fun _ => true) true T v d p) : ∃ (q : JV) (cs : List Value), v = .agg cs.toArray ∧ RdJ W (fun _ => True) q cs := by
  obtain ⟨cs, rfl, _⟩ := okWide_struct K.s hv
  obtain ⟨fuel, hf⟩ := h
  obtain ⟨q, hq⟩ := jv_open K fuel _ _ hf
  exact ⟨q, cs.toList, by simp, by simpa [Value.cells] using hq⟩
/-- A list of values handed in. -/
theorem jvals_open {H : Type} {enc : TypeId × Value → H} {P : Program} {W : World} {T M : TypeId} {t : TypeId} {f0 f1 f2 f3 f4 m0 m1 : Field} {a0 : Option Addr} {len cap : Nat} {d : DataW H} {p : List MemPlace} (K : JvTy P T M f0 f1 f2 f3 f4 m0 m1) (ht : P.underlying t = some (.slice T))
    (h : DataW.Trod enc P W 0 (fun _ => true) true t (.slice a0 len cap) d p) : ∃ (l : List JV) (rows : List (List Value)), RdFB (fun _ => True) 5 W (.slice a0 len cap) rows ∧ RdL W (fun _ => True) l rows := by
  obtain ⟨fuel, hf⟩ := h
  obtain ⟨rl, hrl, ql, hql, hrl2⟩ := rows_open (R := fun cs => ∃ v : JV, RdJ W (fun _ => True) v cs) ht K.c (by decide) hf (fun m cs y hm hy => jv_open K m cs y hy)
  obtain ⟨vl, hvl⟩ := Go.Deep.choose_lt hrl2
  refine ⟨(List.range rl.length).map vl, rl, hrl, ?_⟩
  have := RdL.maps (W := W) (F := fun _ => True) (f := vl) (g := ql) (l := List.range rl.length) (fun i hi => hvl i (by simpa using hi))
  rw [← hql] at this
  exact this
end Go.Proofs.YtidlhajibjnkeaaGreatDoor
