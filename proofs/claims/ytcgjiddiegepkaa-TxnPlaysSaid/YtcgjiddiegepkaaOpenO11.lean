/- A list of hbllaw11's operations that came in, opened. -/
import Derived.Test.YtcgjiddiegepkaaOpenV
import Derived.Test.YtcgjiddiegepkaaOps11
namespace Go.Proofs.Ytcgjiddiegepkaa
open Go.ChangeShapes Go.WideShapes Go.ChangeAt Go.RowKit

theorem ops11_open {H : Type} {enc : TypeId × Value → H} {P : Program} {t e : TypeId} {f0 f1 f2 f3 f4 : Field} (ht : P.underlying t = some (.slice e)) (he : P.underlying e = some (.struct #[f0, f1, f2, f3, f4])) (ce : P.cellsOf e = 5)
    (o : (f0.offset = 0 ∧ f1.offset = 1 ∧ f2.offset = 2 ∧ f3.offset = 3 ∧ f4.offset = 4) ∧ P.cellsOf f0.type = 1 ∧ P.cellsOf f1.type = 1 ∧ P.cellsOf f2.type = 1 ∧ P.cellsOf f3.type = 1 ∧ P.cellsOf f4.type = 1)
    (u0 : P.underlying f0.type = some (.int .i64)) (u1 : P.underlying f1.type = some (.int .i64)) (u2 : P.underlying f2.type = some .string) (u3 : P.underlying f3.type = some .string) (u4 : P.underlying f4.type = some .string) {W : World} {a0 : Option Addr} {len cap : Nat} {d : DataW H} {p : List MemPlace}
    (h : DataW.Trod enc P W 0 (fun _ => true) true t (.slice a0 len cap) d p) : ∃ l : List Op11, Rd11 W (.slice a0 len cap) l ∧ ∀ x ∈ l, x.ok := by
  obtain ⟨⟨o0, o1, o2, o3, o4⟩, c0, c1, c2, c3, c4⟩ := o
  obtain ⟨fuel, hf⟩ := h
  rcases Go.Deep.open_slice ht hf with ⟨hcs, _⟩ | ⟨x, n, c, m, _, D, Pl, hcs, _, hl, hm, hmm, _, hx⟩
  · simp [Value.cells] at hcs
    obtain ⟨rfl, rfl, rfl⟩ := hcs
    exact ⟨[], ⟨none, 0, rfl, by simp, by simp, by simp, fun h => absurd rfl h⟩, by simp⟩
  · simp [Value.cells] at hcs
    obtain ⟨rfl, rfl, rfl⟩ := hcs
    have hmc : m = cap := by simpa using hmm
    have each : ∀ i, i < m → ∃ q : Op11, q.ok ∧ W.cell? (x.add (i * 5)) = some (.int .i64 q.kind) ∧ W.cell? (x.add (i * 5 + 1)) = some (.int .i64 q.at1) ∧ W.cell? (x.add (i * 5 + 2)) = some (str q.key) ∧ W.cell? (x.add (i * 5 + 3)) = some (str q.v) ∧ W.cell? (x.add (i * 5 + 4)) = some (str q.hi) := by
      intro i hi
      obtain ⟨cs', h1, h2⟩ := hx i hi
      rw [ce] at h1
      obtain ⟨_, hlen, hcell⟩ := World.cells?_some h1
      obtain ⟨xs, k, hk, hxy, _, hxl, hf⟩ := DataW.trod_struct he h2
      match xs, hxl, cs', hlen with
      | [y0, y1, y2, y3, y4], _, [v0, v1, v2, v3, v4], _ =>
        have g0 := hf 0 f0 rfl
        have g1 := hf 1 f1 rfl
        have g2 := hf 2 f2 rfl
        have g3 := hf 3 f3 rfl
        have g4 := hf 4 f4 rfl
        simp [o0, o1, o2, o3, o4, c0, c1, c2, c3, c4] at g0 g1 g2 g3 g4
        obtain ⟨z0, e0, _, w0⟩ := DataW.trod_int u0 g0
        obtain ⟨z1, e1, _, w1⟩ := DataW.trod_int u1 g1
        obtain ⟨z2, e2, _, w2⟩ := DataW.trod_string u2 g2
        obtain ⟨z3, e3, _, w3⟩ := DataW.trod_string u3 g3
        obtain ⟨z4, e4, _, w4⟩ := DataW.trod_string u4 g4
        simp only [List.cons.injEq, and_true] at e0 e1 e2 e3 e4
        subst e0; subst e1; subst e2; subst e3; subst e4
        have k0 := hcell 0 (by omega)
        have k1 := hcell 1 (by omega)
        have k2 := hcell 2 (by omega)
        have k3 := hcell 3 (by omega)
        have k4 := hcell 4 (by omega)
        rw [Go.Deep.add_add] at k0 k1 k2 k3 k4
        refine ⟨⟨z0, z1, z2.data.toList, z3.data.toList, z4.data.toList⟩, ⟨wf_i64 w0, wf_i64 w1, ?_, ?_, ?_⟩, by simpa using k0, by simpa using k1, by simpa using k2, by simpa using k3, by simpa using k4⟩
        · show z2.data.toList.length ≤ _
          rw [Array.length_toList]
          simp only [maxLen] at w2
          exact w2
        · show z3.data.toList.length ≤ _
          rw [Array.length_toList]
          simp only [maxLen] at w3
          exact w3
        · show z4.data.toList.length ≤ _
          rw [Array.length_toList]
          simp only [maxLen] at w4
          exact w4
    obtain ⟨q, hq⟩ := Go.Deep.choose_lt each
    refine ⟨(List.range len).map q, ⟨some x, cap, by simp, by simp; simp only [maxLen] at hm; omega, by simp; omega, by simp only [maxLen] at hm; omega, fun hne => ?_⟩, fun y hy => ?_⟩
    · have hpos : 0 < len := by
        rcases Nat.eq_zero_or_pos len with h0 | h0
        · exfalso; apply hne; rw [h0]; simp
        · exact h0
      obtain ⟨b, off, spot⟩ := x
      have hspot : spot = none := by simpa [Addr.add] using World.cell?_spot (hq 0 (by omega)).2.1
      subst hspot
      refine ⟨b, off, rfl, fun i hi j u hu => ?_⟩
      have hi' : i < len := by simpa using hi
      have := (hq i (by omega)).2
      simp only [Addr.add_lit] at this
      obtain ⟨a0, a1, a2, a3, a4⟩ := this
      simp only [List.getElem_map, List.getElem_range, cells11] at hu
      match j, hu with
      | 0, hu => simp at hu; rw [← hu]; exact a0
      | 1, hu => simp at hu; rw [← hu]; exact a1
      | 2, hu => simp at hu; rw [← hu]; exact a2
      | 3, hu => simp at hu; rw [← hu]; exact a3
      | 4, hu => simp at hu; rw [← hu]; exact a4
    · obtain ⟨i, hi, rfl⟩ := List.mem_map.1 hy
      exact (hq i (by have := List.mem_range.1 hi; omega)).1
end Go.Proofs.Ytcgjiddiegepkaa
