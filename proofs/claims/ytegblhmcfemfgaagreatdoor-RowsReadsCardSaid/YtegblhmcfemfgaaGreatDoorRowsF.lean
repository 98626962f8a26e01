import Derived.Test.YtegblhmcfemfgaaGreatDoorKit
namespace Go.Proofs.YtegblhmcfemfgaaGreatDoor
open Go.RowKit
def RdF (sz : Nat) (w : World) (v : Value) (L : List (List Value)) : Prop :=
 ∃ (a : Option Addr) (cap : Nat), v = .slice a L.length cap ∧ L.length ≤ 9223372036854775807 ∧ L.length ≤ cap ∧ cap ≤ 9223372036854775807 ∧ (L ≠ [] → ∃ b off, a = some ⟨b, off, none⟩ ∧ ∀ i (h : i < L.length) (j : Nat) (u : Value), L[i][j]? = some u → w.cell? ⟨b, off + i * sz + j, none⟩ = some u)
theorem RdF.below {sz B : Nat} {w w' : World} {v : Value} {L : List (List Value)} (h : RdF sz w v L) (hb : Below B w w') (hB : w.heap.size ≤ B) : RdF sz w' v L := by
 obtain ⟨a, cap, hv, h1, h2, h3, h4⟩ := h
 refine ⟨a, cap, hv, h1, h2, h3, fun hl => ?_⟩
 obtain ⟨b, off, ha, hc⟩ := h4 hl
 refine ⟨b, off, ha, fun i hi j u hu => ?_⟩
 have := hc i hi j u hu
 rw [hb.cell (p := ⟨b, off + i * sz + j, none⟩) (by have := World.block_lt_of_cell? w _ this; exact Nat.lt_of_lt_of_le this hB)]
 exact this
theorem flat_at (sz : Nat) : ∀ (L : List (List Value)) (_ : ∀ r ∈ L, r.length = sz) (i : Nat) (h : i < L.length) (j : Nat), j < sz → L.flatten[i * sz + j]? = L[i][j]?
 | r :: t, hr, 0, _, j, hj => by
   have := hr r (by simp)
   simp only [List.flatten_cons, Nat.zero_mul, Nat.zero_add, List.getElem_cons_zero]
   rw [List.getElem?_append_left (by omega)]
 | r :: t, hr, i + 1, h, j, hj => by
   have e := hr r (by simp)
   have ih := flat_at sz t (fun r hr' => hr r (by simp [hr'])) i (by simpa using h) j hj
   simp only [List.flatten_cons, List.getElem_cons_succ]
   rw [List.getElem?_append_right (by rw [e, Nat.succ_mul]; omega), ← ih, e]
   congr 1
   rw [Nat.succ_mul]; omega
theorem flat_len (sz : Nat) : ∀ (L : List (List Value)) (_ : ∀ r ∈ L, r.length = sz), L.flatten.length = L.length * sz
 | [], _ => by simp
 | r :: t, hr => by
   have e := hr r (by simp)
   have ih := flat_len sz t (fun r hr' => hr r (by simp [hr']))
   simp only [List.flatten_cons, List.length_append, List.length_cons, ih, e, Nat.succ_mul]; omega
theorem RdF.of_row {sz : Nat} {w : World} {base : Nat} {e : TypeId} {v : Value} {L : List (List Value)} (hr : ∀ r ∈ L, r.length = sz) (h : w.ownsRow base e sz v L.length L.flatten) : RdF sz w v L := by
 rcases h.2 with ⟨rfl, hn⟩ | ⟨g, cap, cur, rfl, _, hg, h1, h2, h3, h4⟩
 · obtain rfl := List.eq_nil_of_length_eq_zero hn
   exact ⟨none, 0, rfl, by simp, by simp, by simp, fun h => absurd rfl h⟩
 simp only [maxLen] at h2
 refine ⟨_, cap, rfl, by omega, h1, by omega, fun _ => ⟨g, 0, rfl, fun i hi j u hu => ?_⟩⟩
 have hj : j < sz := by
  have := (List.getElem?_eq_some_iff.1 hu).1
  rw [hr _ (List.getElem_mem hi)] at this; exact this
 have hf := flat_at sz L hr i hi j hj
 have hfl := flat_len sz L hr
 rw [Nat.zero_add, cell_of_row w g (i * sz + j) cur e (0, 0) hg]
 have e2 := congrArg (fun z => z[i * sz + j]?) h4
 simp only [List.getElem?_take] at e2
 have hlt : i * sz + j < L.length * sz := by
  have : (i + 1) * sz ≤ L.length * sz := Nat.mul_le_mul_right sz hi
  rw [Nat.succ_mul] at this; omega
 rw [if_pos hlt, hf, hu] at e2
 simpa using e2
theorem RdF.lit {sz : Nat} {w : World} {b n : Nat} {T : TypeId} (L : List (List Value)) (hr : ∀ r ∈ L, r.length = sz) (h : w.heap[b]? = some (.cells L.flatten.toArray T (0, 0))) (hn : n = L.length) (hl : L.length ≤ 9223372036854775807) : RdF sz w (.slice (some ⟨b, 0, none⟩) n n) L := by
 subst hn
 refine ⟨_, _, rfl, hl, Nat.le_refl _, hl, fun _ => ⟨b, 0, rfl, fun i hi j u hu => ?_⟩⟩
 have hj : j < sz := by
  have := (List.getElem?_eq_some_iff.1 hu).1
  rw [hr _ (List.getElem_mem hi)] at this; exact this
 have hf := flat_at sz L hr i hi j hj
 rw [hu] at hf
 simp only [World.cell?, h, Nat.zero_add]
 simpa using hf
end Go.Proofs.YtegblhmcfemfgaaGreatDoor
