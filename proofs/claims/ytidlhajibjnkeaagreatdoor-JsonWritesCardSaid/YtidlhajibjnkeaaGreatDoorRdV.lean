/- Slices that read as lists of values. -/
import Derived.Test.YtidlhajibjnkeaaGreatDoorRange
namespace Go.Proofs.YtidlhajibjnkeaaGreatDoor
open Go.RowKit

/-- A slice that reads as a list of values, one cell each. -/
def RdV (w : World) (v : Value) (l : List Value) : Prop :=
  ∃ (a : Option Addr) (cap : Nat), v = .slice a l.length cap ∧ l.length ≤ 9223372036854775807 ∧ (l ≠ [] → ∃ b off, a = some ⟨b, off, none⟩ ∧ ∀ i (h : i < l.length), w.cell? ⟨b, off + i, none⟩ = some l[i])
theorem RdV.below {B : Nat} {w w' : World} {v : Value} {l : List Value} (h : RdV w v l) (hb : Below B w w') (hB : w.heap.size ≤ B) : RdV w' v l := by
  obtain ⟨a, cap, hv, h1, h4⟩ := h
  refine ⟨a, cap, hv, h1, fun hl => ?_⟩
  obtain ⟨b, off, ha, hc⟩ := h4 hl
  refine ⟨b, off, ha, fun i hi => ?_⟩
  have := hc i hi
  rw [hb.cell (p := ⟨b, off + i, none⟩) (by have := World.block_lt_of_cell? w _ this; exact Nat.lt_of_lt_of_le this hB)]
  exact this
theorem RdV.drewN {w : World} {v : Value} {l : List Value} (h : RdV w v l) (q : Nat) : RdV (w.drewN q) v l := by
  obtain ⟨a, cap, hv, h1, h4⟩ := h
  exact ⟨a, cap, hv, h1, fun hl => by obtain ⟨b, off, ha, hc⟩ := h4 hl; exact ⟨b, off, ha, fun i hi => hc i hi⟩⟩
theorem RdV.of_row {w : World} {base : Nat} {e : TypeId} {v : Value} {l : List Value} (h : w.ownsRow base e 1 v l.length l) : RdV w v l := by
  rcases h.2 with ⟨rfl, hn⟩ | ⟨g, cap, cur, rfl, _, hg, h1, h2, h3, h4⟩
  · obtain rfl := List.eq_nil_of_length_eq_zero hn
    exact ⟨none, 0, rfl, by simp, fun h => absurd rfl h⟩
  · refine ⟨_, cap, rfl, by simp only [maxLen] at h2; omega, fun _ => ⟨g, 0, rfl, fun i hi => ?_⟩⟩
    rw [Nat.zero_add, cell_of_row w g i cur e (0, 0) hg]
    obtain ⟨y, hy⟩ : ∃ y, y = l[i] := ⟨_, rfl⟩
    have e : l[i]? = some y := by simp [hi, hy]
    rw [← hy]
    have e2 := congrArg (fun z => z[i]?) h4
    simp only [List.getElem?_take] at e2
    rw [if_pos (by omega), e] at e2
    simpa using e2
/-- A row of values built at once. -/
theorem RdV.lit {w : World} {b n : Nat} {T : TypeId} (l : List Value) (h : w.heap[b]? = some (.cells l.toArray T (0, 0))) (hn : n = l.length) (hl : l.length ≤ 9223372036854775807) : RdV w (.slice (some ⟨b, 0, none⟩) n n) l := by
  subst hn
  refine ⟨_, _, rfl, hl, fun _ => ⟨b, 0, rfl, fun i hi => ?_⟩⟩
  simp [World.cell?, h, hi]
end Go.Proofs.YtidlhajibjnkeaaGreatDoor
