/- Slices of structs: a slice that reads as rows of cells. -/
import Derived.Test.YtidlhajibjnkeaaGreatDoorKit
namespace Go.Proofs.YtidlhajibjnkeaaGreatDoor
open Go.RowKit

/-- A slice that reads as rows of sz cells. -/
def RdF (sz : Nat) (w : World) (v : Value) (L : List (List Value)) : Prop :=
  ∃ (a : Option Addr) (cap : Nat), v = .slice a L.length cap ∧ L.length ≤ 9223372036854775807 ∧ L.length ≤ cap ∧ cap ≤ 9223372036854775807 ∧ (L ≠ [] → ∃ b off, a = some ⟨b, off, none⟩ ∧ ∀ i (h : i < L.length) (j : Nat) (u : Value), L[i][j]? = some u → w.cell? ⟨b, off + i * sz + j, none⟩ = some u)
theorem RdF.below {sz B : Nat} {w w' : World} {v : Value} {L : List (List Value)} (h : RdF sz w v L) (hb : Below B w w') (hB : w.heap.size ≤ B) : RdF sz w' v L := by
  obtain ⟨a, cap, hv, h1, h2, h3, h4⟩ := h
  refine ⟨a, cap, hv, h1, h2, h3, fun hl => ?_⟩
  obtain ⟨b, off, ha, hc⟩ := h4 hl
  refine ⟨b, off, ha, fun i hi j u hu => ?_⟩
  have := hc i hi j u hu
  rw [hb.cell (p := ⟨b, off + i * sz + j, none⟩) (by have := World.block_lt_of_cell? w _ this; exact Nat.lt_of_lt_of_le this hB)]
  exact this
theorem RdF.drewN {sz : Nat} {w : World} {v : Value} {L : List (List Value)} (h : RdF sz w v L) (q : Nat) : RdF sz (w.drewN q) v L := by
  obtain ⟨a, cap, hv, h1, h2, h3, h4⟩ := h
  exact ⟨a, cap, hv, h1, h2, h3, fun hl => by obtain ⟨b, off, ha, hc⟩ := h4 hl; exact ⟨b, off, ha, fun i hi j u hu => hc i hi j u hu⟩⟩
theorem flat_at (sz : Nat) : ∀ (L : List (List Value)) (_ : ∀ r ∈ L, r.length = sz) (i : Nat) (h : i < L.length) (j : Nat), j < sz → L.flatten[i * sz + j]? = L[i][j]?
  | r :: t, hr, 0, _, j, hj => by
    have := hr r (by simp)
    simp only [List.flatten_cons, Nat.zero_mul, Nat.zero_add, List.getElem_cons_zero]
    rw [List.getElem?_append_left (by omega)]
  | r :: t, hr, i + 1, h, j, hj => by
    have e := hr r (by simp)
    have ih := flat_at sz t (fun r hr' => hr r (by simp [hr'])) i (by simpa using h) j hj
    simp only [List.flatten_cons, List.getElem_cons_succ]
    rw [List.getElem?_append_right (by rw [e, Nat.succ_mul]; omega), ← ih, e]
    congr 1
    rw [Nat.succ_mul]; omega
theorem flat_len (sz : Nat) : ∀ (L : List (List Value)) (_ : ∀ r ∈ L, r.length = sz), L.flatten.length = L.length * sz
  | [], _ => by simp
  | r :: t, hr => by
    have e := hr r (by simp)
    have ih := flat_len sz t (fun r hr' => hr r (by simp [hr']))
    simp only [List.flatten_cons, List.length_append, List.length_cons, ih, e, Nat.succ_mul]; omega
theorem RdF.of_row {sz : Nat} {w : World} {base : Nat} {e : TypeId} {v : Value} {L : List (List Value)} (hr : ∀ r ∈ L, r.length = sz) (h : w.ownsRow base e sz v L.length L.flatten) : RdF sz w v L := by
  rcases h.2 with ⟨rfl, hn⟩ | ⟨g, cap, cur, rfl, _, hg, h1, h2, h3, h4⟩
  · obtain rfl := List.eq_nil_of_length_eq_zero hn
    exact ⟨none, 0, rfl, by simp, by simp, by simp, fun h => absurd rfl h⟩
  · simp only [maxLen] at h2
    refine ⟨_, cap, rfl, by omega, h1, by omega, fun _ => ⟨g, 0, rfl, fun i hi j u hu => ?_⟩⟩
    have hj : j < sz := by
      have := (List.getElem?_eq_some_iff.1 hu).1
      rw [hr _ (List.getElem_mem hi)] at this; exact this
    have hf := flat_at sz L hr i hi j hj
    have hfl := flat_len sz L hr
    rw [Nat.zero_add, cell_of_row w g (i * sz + j) cur e (0, 0) hg]
    have e2 := congrArg (fun z => z[i * sz + j]?) h4
    simp only [List.getElem?_take] at e2
    have hlt : i * sz + j < L.length * sz := by
      have : (i + 1) * sz ≤ L.length * sz := Nat.mul_le_mul_right sz hi
      rw [Nat.succ_mul] at this; omega
    rw [if_pos hlt, hf, hu] at e2
    simpa using e2
/-- Rows built at once. -/
theorem RdF.lit {sz : Nat} {w : World} {b n : Nat} {T : TypeId} (L : List (List Value)) (hr : ∀ r ∈ L, r.length = sz) (h : w.heap[b]? = some (.cells L.flatten.toArray T (0, 0))) (hn : n = L.length) (hl : L.length ≤ 9223372036854775807) : RdF sz w (.slice (some ⟨b, 0, none⟩) n n) L := by
  subst hn
  refine ⟨_, _, rfl, hl, Nat.le_refl _, hl, fun _ => ⟨b, 0, rfl, fun i hi j u hu => ?_⟩⟩
  have hj : j < sz := by
    have := (List.getElem?_eq_some_iff.1 hu).1
    rw [hr _ (List.getElem_mem hi)] at this; exact this
  have hf := flat_at sz L hr i hi j hj
  rw [hu] at hf
  simp only [World.cell?, h, Nat.zero_add]
  simpa using hf
theorem RdF.take {sz : Nat} {w : World} {a : Option Addr} {n c : Nat} {L : List (List Value)} (h : RdF sz w (.slice a n c) L) (k : Nat) (hk : k ≤ L.length) : RdF sz w (.slice a k c) (L.take k) := by
  obtain ⟨a', c', he, h1, h2, h3, h4⟩ := h
  simp only [Value.slice.injEq] at he
  obtain ⟨rfl, _, rfl⟩ := he
  have hl : (L.take k).length = k := by rw [List.length_take]; omega
  refine ⟨a, c, by rw [hl], by omega, by omega, h3, fun hne => ?_⟩
  obtain ⟨b, off, ha, hc⟩ := h4 (by intro e; apply hne; simp [e])
  refine ⟨b, off, ha, fun i hi j u hu => hc i (by omega) j u (by simpa using hu)⟩
theorem map_forms2 {α β : Type} (f : α → β) : ∀ l : List β, (∀ x ∈ l, ∃ a, x = f a) → ∃ L : List α, l = L.map f
  | [], _ => ⟨[], rfl⟩
  | x :: t, h => by
    obtain ⟨a, rfl⟩ := h x (by simp)
    obtain ⟨L, rfl⟩ := map_forms2 f t (fun y hy => h y (by simp [hy]))
    exact ⟨a :: L, rfl⟩
/-- A pair's, a change's cells. -/
abbrev PairT := List UInt8 × List UInt8
abbrev ChgT := List UInt8 × List UInt8 × Bool
def cellsP (p : PairT) : List Value := [str p.1, str p.2]
def cellsC (c : ChgT) : List Value := [str c.1, str c.2.1, .bool c.2.2]
def encC (c : ChgT) : Value := .agg #[str c.1, str c.2.1, .bool c.2.2]
theorem cellsP_len (l : List PairT) : ∀ r ∈ l.map cellsP, r.length = 2 := by
  intro r hr; obtain ⟨p, _, rfl⟩ := List.mem_map.1 hr; rfl
theorem cellsC_len (l : List ChgT) : ∀ r ∈ l.map cellsC, r.length = 3 := by
  intro r hr; obtain ⟨p, _, rfl⟩ := List.mem_map.1 hr; rfl
/-- A slice of pairs, of changes. -/
def RdP (w : World) (v : Value) (l : List PairT) : Prop := RdF 2 w v (l.map cellsP)
def RdC (w : World) (v : Value) (l : List ChgT) : Prop := RdF 3 w v (l.map cellsC)
theorem RdP.form {w : World} {v : Value} {l : List PairT} (h : RdP w v l) : ∃ a cap, v = .slice a l.length cap ∧ l.length ≤ 9223372036854775807 := by
  obtain ⟨a, cap, hv, h1, _⟩ := h
  rw [List.length_map] at hv h1
  exact ⟨a, cap, hv, h1⟩
theorem RdC.form {w : World} {v : Value} {l : List ChgT} (h : RdC w v l) : ∃ a cap, v = .slice a l.length cap ∧ l.length ≤ 9223372036854775807 ∧ l.length ≤ cap ∧ cap ≤ 9223372036854775807 := by
  obtain ⟨a, cap, hv, h1, h2, h3, _⟩ := h
  rw [List.length_map] at hv h1 h2
  exact ⟨a, cap, hv, h1, h2, h3⟩
/-- One of them, wherever the slice reads so. -/
theorem RdP.get {w : World} {a : Option Addr} {n cap : Nat} {l : List PairT} (h : RdP w (.slice a n cap) l) {i : Nat} (hi : i < l.length) : ∃ b off, a = some ⟨b, off, none⟩ ∧ w.cell? ⟨b, off + i * 2, none⟩ = some (str l[i].1) ∧ w.cell? ⟨b, off + i * 2 + 1, none⟩ = some (str l[i].2) := by
  obtain ⟨a', c', he, _, _, _, h4⟩ := h
  simp only [Value.slice.injEq] at he
  obtain ⟨rfl, _, rfl⟩ := he
  obtain ⟨b, off, ha, hc⟩ := h4 (by intro e; rw [List.map_eq_nil_iff] at e; rw [e] at hi; simp at hi)
  have hi' : i < (l.map cellsP).length := by simpa using hi
  exact ⟨b, off, ha, hc i hi' 0 _ (by simp [cellsP]), hc i hi' 1 _ (by simp [cellsP])⟩
theorem RdC.get {w : World} {a : Option Addr} {n cap : Nat} {l : List ChgT} (h : RdC w (.slice a n cap) l) {i : Nat} (hi : i < l.length) : ∃ b off, a = some ⟨b, off, none⟩ ∧ w.cell? ⟨b, off + i * 3, none⟩ = some (str l[i].1) ∧ w.cell? ⟨b, off + i * 3 + 1, none⟩ = some (str l[i].2.1) ∧ w.cell? ⟨b, off + i * 3 + 2, none⟩ = some (.bool l[i].2.2) := by
  obtain ⟨a', c', he, _, _, _, h4⟩ := h
  simp only [Value.slice.injEq] at he
  obtain ⟨rfl, _, rfl⟩ := he
  obtain ⟨b, off, ha, hc⟩ := h4 (by intro e; rw [List.map_eq_nil_iff] at e; rw [e] at hi; simp at hi)
  have hi' : i < (l.map cellsC).length := by simpa using hi
  exact ⟨b, off, ha, hc i hi' 0 _ (by simp [cellsC]), hc i hi' 1 _ (by simp [cellsC]), hc i hi' 2 _ (by simp [cellsC])⟩
end Go.Proofs.YtidlhajibjnkeaaGreatDoor
