/- A slice of slices of bytes that came in, opened: no condition. -/
import Derived.Test.YtainkmbjllklaaaDoorOpen
import Derived.Test.YtainkmbjllklaaaDoorLRd
import Derived.Deep.Slices
namespace Go.Proofs.YtainkmbjllklaaaDoor
open Go.ChangeShapes Go.WideShapes Go.ChangeAt Go.RowKit

/-- A slice of bytes among cells. -/
theorem rd_open1 {H : Type} {enc : TypeId × Value → H} {P : Program} {t e : TypeId} (ht : P.underlying t = some (.slice e)) (he : P.underlying e = some (.int .u8)) (hc : P.cellsOf e = 1) {W : World} {fuel : Nat} {v : Value} {d : DataW H × List MemPlace}
    (h : DataW.trod enc P W 0 (fun _ => true) true fuel t [v] = some d) : ∃ l : List UInt8, Rd W v l := by
  rcases open_ints ht he hc h with ⟨hcs, _⟩ | ⟨x, l, c, zs, hcs, _⟩
  · simp only [List.cons.injEq, and_true] at hcs
    subst hcs
    exact ⟨[], Rd.nil W⟩
  · simp only [List.cons.injEq, and_true] at hcs
    subst hcs
    exact rd_open (enc := enc) (d := d.1) (p := d.2) ht he hc ⟨fuel, h⟩
theorem lists_open {H : Type} {enc : TypeId × Value → H} {P : Program} {t s e : TypeId} (ht : P.underlying t = some (.slice s)) (hs : P.underlying s = some (.slice e)) (he : P.underlying e = some (.int .u8)) (hc : P.cellsOf e = 1) (hc2 : P.cellsOf s = 1)
    {W : World} {a0 : Option Addr} {len cap : Nat} {d : DataW H} {p : List MemPlace}
    (h : DataW.Trod enc P W 0 (fun _ => true) true t (.slice a0 len cap) d p) : ∃ l : List (List UInt8), LRd W (.slice a0 len cap) l := by
  obtain ⟨fuel, hf⟩ := h
  rcases Go.Deep.open_slice1 ht hc2 hf with ⟨hcs, _⟩ | ⟨x, n, c, m, _, V, D, Pl, hcs, _, hl, hm, hmm, _, hx⟩
  · simp [Value.cells] at hcs
    obtain ⟨rfl, rfl, rfl⟩ := hcs
    exact ⟨[], [], ⟨none, 0, rfl, by simp, fun h => absurd rfl h⟩, Eachs.nil W, .inl rfl⟩
  · simp [Value.cells] at hcs
    obtain ⟨rfl, rfl, rfl⟩ := hcs
    have hmc : m = cap := by simpa using hmm
    have each : ∀ i, i < m → ∃ l : List UInt8, Rd W (V i) l := fun i hi => rd_open1 hs he hc (hx i hi).2
    obtain ⟨q, hq⟩ := Go.Deep.choose_lt each
    refine ⟨(List.range len).map q, (List.range len).map V, ⟨some x, cap, by simp, by simp; simp only [maxLen] at hm; omega, fun hne => ?_⟩, ⟨by simp, fun i h1 h2 => ?_⟩, .inr ⟨_, _, _, rfl, hl, hm⟩⟩
    · have hpos : 0 < len := by
        rcases Nat.eq_zero_or_pos len with h0 | h0
        · exfalso; apply hne; rw [h0]; simp
        · exact h0
      obtain ⟨b, off, spot⟩ := x
      have hspot : spot = none := by simpa [Addr.add] using World.cell?_spot (hx 0 (by omega)).1
      subst hspot
      refine ⟨b, off, rfl, fun i hi => ?_⟩
      have hi' : i < len := by simpa using hi
      have := (hx i (by omega)).1
      rw [Addr.add_lit] at this
      rw [this]
      simp
    · have hi' : i < len := by simpa using h1
      simp only [List.getElem_map, List.getElem_range]
      exact hq i (by omega)
end Go.Proofs.YtainkmbjllklaaaDoor
