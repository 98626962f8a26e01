/- A list of pairs of texts that came in, opened. -/
import Derived.Test.YteibiaplmmdppaaOpenV
import Derived.Test.YteibiaplmmdppaaRdV
import Derived.Test.YteibiaplmmdppaaMrgMath
import Derived.Test.YteibiaplmmdppaaRowsF
namespace Go.Proofs.Yteibiaplmmdppaa
open Go.ChangeShapes Go.WideShapes Go.ChangeAt Go.RowKit

theorem pairs_open {H : Type} {enc : TypeId × Value → H} {P : Program} {t e : TypeId} {f0 f1 : Field} (ht : P.underlying t = some (.slice e)) (he : P.underlying e = some (.struct #[f0, f1])) (ce : P.cellsOf e = 2)
    (o : (f0.offset = 0 ∧ f1.offset = 1) ∧ P.cellsOf f0.type = 1 ∧ P.cellsOf f1.type = 1)
    (u0 : P.underlying f0.type = some .string) (u1 : P.underlying f1.type = some .string) {W : World} {a0 : Option Addr} {len cap : Nat} {d : DataW H} {p : List MemPlace}
    (h : DataW.Trod enc P W 0 (fun _ => true) true t (.slice a0 len cap) d p) : ∃ l : List PairT, RdP W (.slice a0 len cap) l ∧ ∀ x ∈ l, x.1.length ≤ 9223372036854775807 ∧ x.2.length ≤ 9223372036854775807 := by
  obtain ⟨⟨o0, o1⟩, c0, c1⟩ := o
  obtain ⟨fuel, hf⟩ := h
  rcases Go.Deep.open_slice ht hf with ⟨hcs, _⟩ | ⟨x, n, c, m, _, D, Pl, hcs, _, hl, hm, hmm, _, hx⟩
  · simp [Value.cells] at hcs
    obtain ⟨rfl, rfl, rfl⟩ := hcs
    exact ⟨[], ⟨none, 0, rfl, by simp, by simp, by simp, fun h => absurd rfl h⟩, by simp⟩
  · simp [Value.cells] at hcs
    obtain ⟨rfl, rfl, rfl⟩ := hcs
    have hmc : m = cap := by simpa using hmm
    have each : ∀ i, i < m → ∃ q : PairT, (q.1.length ≤ 9223372036854775807 ∧ q.2.length ≤ 9223372036854775807) ∧ W.cell? (x.add (i * 2)) = some (str q.1) ∧ W.cell? (x.add (i * 2 + 1)) = some (str q.2) := by
      intro i hi
      obtain ⟨cs', h1, h2⟩ := hx i hi
      rw [ce] at h1
      obtain ⟨_, hlen, hcell⟩ := World.cells?_some h1
      obtain ⟨xs, k, hk, hxy, _, hxl, hf⟩ := DataW.trod_struct he h2
      match xs, hxl, cs', hlen with
      | [y0, y1], _, [v0, v1], _ =>
        have g0 := hf 0 f0 rfl
        have g1 := hf 1 f1 rfl
        simp [o0, o1, c0, c1] at g0 g1
        obtain ⟨z0, e0, _, w0⟩ := DataW.trod_string u0 g0
        obtain ⟨z1, e1, _, w1⟩ := DataW.trod_string u1 g1
        simp only [List.cons.injEq, and_true] at e0 e1
        subst e0; subst e1
        have k0 := hcell 0 (by omega)
        have k1 := hcell 1 (by omega)
        rw [Go.Deep.add_add] at k0 k1
        refine ⟨(z0.data.toList, z1.data.toList), ⟨?_, ?_⟩, by simpa using k0, by simpa using k1⟩
        · show z0.data.toList.length ≤ _
          rw [Array.length_toList]
          simp only [maxLen] at w0
          exact w0
        · show z1.data.toList.length ≤ _
          rw [Array.length_toList]
          simp only [maxLen] at w1
          exact w1
    obtain ⟨q, hq⟩ := Go.Deep.choose_lt each
    refine ⟨(List.range len).map q, ⟨some x, cap, by simp, by simp; simp only [maxLen] at hm; omega, by simp; omega, by simp only [maxLen] at hm; omega, fun hne => ?_⟩, fun y hy => ?_⟩
    · have hpos : 0 < len := by
        rcases Nat.eq_zero_or_pos len with h0 | h0
        · exfalso; apply hne; rw [h0]; simp
        · exact h0
      obtain ⟨b, off, spot⟩ := x
      have hspot : spot = none := by simpa [Addr.add] using World.cell?_spot (hq 0 (by omega)).2.1
      subst hspot
      refine ⟨b, off, rfl, fun i hi j u hu => ?_⟩
      have hi' : i < len := by simpa using hi
      have := (hq i (by omega)).2
      simp only [Addr.add_lit] at this
      simp only [List.getElem_map, List.getElem_range] at hu
      match j, hu with
      | 0, hu => simp [cellsP] at hu; subst hu; exact this.1
      | 1, hu => simp [cellsP] at hu; subst hu; exact this.2
      | (j + 2), hu => simp [cellsP] at hu
    · obtain ⟨i, hi, rfl⟩ := List.mem_map.1 hy
      exact (hq i (by have := List.mem_range.1 hi; omega)).1
end Go.Proofs.Yteibiaplmmdppaa
