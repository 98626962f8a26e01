/- Maps in order, Merge[int,string]: words. -/
import Derived.Test.YtdkplhfbcpobaaaRangeW
import Derived.Test.YtdkplhfbcpobaaaGather
import Derived.Test.YtdkplhfbcpobaaaRiseBase
namespace Go.Proofs.Ytdkplhfbcpobaaa
open Go.RowKit

/-- Two rows of pairs, merged: of a key that both have the second one's. -/
def mrgL : List (Value × Value) → List (Value × Value) → List (Value × Value)
  | ra, [] => ra
  | [], x :: t => x :: mrgL [] t
  | p :: ra, x :: t => if lessV p.1 x.1 = true then p :: mrgL ra (x :: t) else if lessV x.1 p.1 = true then x :: mrgL (p :: ra) t else x :: mrgL ra t
termination_by a b => a.length + b.length
theorem mrg_end (ra : List (Value × Value)) : mrgL ra [] = ra := by cases ra <;> simp [mrgL]
theorem mrg_less {p x : Value × Value} {ra t : List (Value × Value)} (h : lessV p.1 x.1 = true) : mrgL (p :: ra) (x :: t) = p :: mrgL ra (x :: t) := by rw [mrgL, if_pos h]
theorem mrg_more {p x : Value × Value} {ra t : List (Value × Value)} (h : lessV p.1 x.1 = false) (h2 : lessV x.1 p.1 = true) : mrgL (p :: ra) (x :: t) = x :: mrgL (p :: ra) t := by rw [mrgL, if_neg (by simp [h]), if_pos h2]
theorem mrg_same {p x : Value × Value} {ra t : List (Value × Value)} (h : lessV p.1 x.1 = false) (h2 : lessV x.1 p.1 = false) : mrgL (p :: ra) (x :: t) = x :: mrgL ra t := by rw [mrgL, if_neg (by simp [h]), if_neg (by simp [h2])]
theorem mrg_none {x : Value × Value} {t : List (Value × Value)} : mrgL [] (x :: t) = x :: mrgL [] t := by rw [mrgL]
theorem mrg_nil : ∀ t : List (Value × Value), mrgL [] t = t
  | [] => by simp [mrgL]
  | x :: t => by rw [mrg_none, mrg_nil t]
theorem mrg_mem (P : Value × Value → Prop) : ∀ a b : List (Value × Value), (∀ p ∈ a, P p) → (∀ p ∈ b, P p) → ∀ p ∈ mrgL a b, P p
  | ra, [], ha, _ => by rw [mrg_end]; exact ha
  | [], x :: t, _, hb => by rw [mrg_nil]; exact hb
  | p :: ra, x :: t, ha, hb => by
    have a1 := ha p (by simp)
    have a2 : ∀ q ∈ ra, P q := fun q hq => ha q (by simp [hq])
    have b1 := hb x (by simp)
    have b2 : ∀ q ∈ t, P q := fun q hq => hb q (by simp [hq])
    intro q hq
    rw [mrgL] at hq
    split at hq
    · rcases List.mem_cons.1 hq with rfl | hq
      · exact a1
      · exact mrg_mem P ra (x :: t) a2 hb q hq
    · split at hq
      · rcases List.mem_cons.1 hq with rfl | hq
        · exact b1
        · exact mrg_mem P (p :: ra) t ha b2 q hq
      · rcases List.mem_cons.1 hq with rfl | hq
        · exact b1
        · exact mrg_mem P ra t a2 b2 q hq
termination_by a b => a.length + b.length
theorem mrg_len : ∀ a b : List (Value × Value), (mrgL a b).length ≤ a.length + b.length
  | ra, [] => by rw [mrg_end]; simp
  | [], x :: t => by rw [mrg_nil]; simp
  | p :: ra, x :: t => by
    rw [mrgL]
    split
    · have := mrg_len ra (x :: t); simp at this ⊢; omega
    · split
      · have := mrg_len (p :: ra) t; simp at this ⊢; omega
      · have := mrg_len ra t; simp at this ⊢; omega
termination_by a b => a.length + b.length
/-- What is ahead: a slice of pairs in a block from B on. -/
def Ahead (B : Nat) (W : World) (v : Value) (ra : List (Value × Value)) : Prop :=
  ∃ (a : Option Addr) (cap : Nat), v = .slice a ra.length cap ∧ ra.length ≤ cap ∧ cap ≤ maxLen ∧ (ra ≠ [] → ∃ (g off : Nat) (cur : Array Value), a = some ⟨g, off, none⟩ ∧ B ≤ g ∧ W.heap[g]? = some (.cells cur 96 (0, 0)) ∧
    ∀ i (h : i < ra.length), cur[off + i * 2]? = some ra[i].1 ∧ cur[off + i * 2 + 1]? = some ra[i].2)
theorem Ahead.of_row {B : Nat} {W : World} {v : Value} {xs : List (Value × Value)} (h : W.ownsRow B 96 2 v xs.length (flatP xs)) : Ahead B W v xs := by
  rcases h.2 with ⟨rfl, h0⟩ | ⟨g, cap, cur, rfl, hb, hg, h1, h2, h3, h4⟩
  · obtain rfl := List.eq_nil_of_length_eq_zero h0
    exact ⟨none, 0, rfl, Nat.le_refl _, by simp [maxLen], fun h => absurd rfl h⟩
  · refine ⟨_, cap, rfl, h1, h2, fun _ => ⟨g, 0, cur, rfl, hb, hg, fun i hi => ?_⟩⟩
    obtain ⟨e1, e2⟩ := flatP_at xs i hi
    have q1 := congrArg (fun z => z[i * 2]?) h4
    have q2 := congrArg (fun z => z[i * 2 + 1]?) h4
    simp only [List.getElem?_take] at q1 q2
    rw [if_pos (by omega), e1] at q1
    rw [if_pos (by omega), e2] at q2
    exact ⟨by simpa using q1, by simpa using q2⟩
theorem Ahead.turn {B : Nat} {W W' : World} {v : Value} {ra : List (Value × Value)} (h : Ahead B W v ra) (hk : ∀ g cur, B ≤ g → W.heap[g]? = some (.cells cur 96 (0, 0)) → W'.heap[g]? = some (.cells cur 96 (0, 0))) : Ahead B W' v ra := by
  obtain ⟨a, cap, e, h1, h2, h3⟩ := h
  exact ⟨a, cap, e, h1, h2, fun hne => by obtain ⟨g, off, cur, e1, e2, e3, e4⟩ := h3 hne; exact ⟨g, off, cur, e1, e2, hk g cur e2 e3, e4⟩⟩
theorem Ahead.kt {Wr : TypeId → Prop} {B : Nat} {W W' : World} {v : Value} {ra : List (Value × Value)} (h : Ahead B W v ra) (hk : KT Wr B W W') (hw : ¬ Wr 96) : Ahead B W' v ra :=
  h.turn (fun _ _ hg hc => hk.cells hg hc hw)
theorem Ahead.below {B : Nat} {W W' : World} {v : Value} {ra : List (Value × Value)} (h : Ahead B W v ra) (hb : Below W.heap.size W W') : Ahead B W' v ra :=
  h.turn (fun g _ _ hc => by rw [hb.block g (Array.getElem?_eq_some_iff.1 hc).1]; exact hc)
theorem Ahead.set {B : Nat} {W : World} {v : Value} {ra : List (Value × Value)} (h : Ahead B W v ra) {b : Nat} {T : TypeId} {u : Value} (hb : Boxed W b T u) (hT : T ≠ 96) (u' : Value) : Ahead B (W.setCell ⟨b, 0, none⟩ u') v ra :=
  h.turn (fun g cur _ hc => by
    rw [Below.heap_setCell _ _ _ _ (by rintro rfl; rw [show W.heap[g]? = _ from hb] at hc; simp at hc; exact hT hc.2)]; exact hc)
theorem ahead_own {β : Type} (B : Nat) (f : β → Value) (ra : β → List (Value × Value)) : Go.Own (fun s W => Ahead B W (f s) (ra s)) := fun s X Y row h hg hrow =>
  h.turn (fun g cur _ hc => by
    rw [hg.block g (Array.getElem?_eq_some_iff.1 hc).1 (fun e => by obtain ⟨o, ho, hcs⟩ := hrow g e.symm; rw [hc] at ho; cases ho; cases hcs)]; exact hc)
/-- The first of what is ahead, as the walk reads it. -/
theorem Ahead.head {B : Nat} {W : World} {v : Value} {p : Value × Value} {ra : List (Value × Value)} (h : Ahead B W v (p :: ra)) : ∃ g off cap, v = .slice (some ⟨g, off, none⟩) (ra.length + 1) cap ∧ ra.length + 1 ≤ cap ∧ cap ≤ maxLen ∧ B ≤ g ∧
    (∀ W', Ahead B W' v (p :: ra) → W'.cell? ⟨g, off, none⟩ = some p.1 ∧ W'.cell? ⟨g, off + 1, none⟩ = some p.2) ∧ Ahead B W (.slice (if cap = 1 then some ⟨g, off, none⟩ else some ⟨g, off + 2, none⟩) ra.length (cap - 1)) ra := by
  obtain ⟨a, cap, e, h1, h2, h3⟩ := h
  obtain ⟨g, off, cur, rfl, hb, hc, hcs⟩ := h3 (by simp)
  subst e
  refine ⟨g, off, cap, rfl, by simpa using h1, h2, hb, fun W' h' => ?_, ?_⟩
  · obtain ⟨a', cap', e', _, _, h3'⟩ := h'
    obtain ⟨g', off', cur', rfl, _, hc', hcs'⟩ := h3' (by simp)
    simp only [Value.slice.injEq, Option.some.injEq, Addr.mk.injEq, and_true] at e'
    obtain ⟨⟨rfl, rfl⟩, _⟩ := e'
    obtain ⟨q1, q2⟩ := hcs' 0 (by simp)
    simp only [Nat.zero_mul, Nat.add_zero, List.getElem_cons_zero] at q1 q2
    rw [cell_of_row W' g _ cur' _ (0, 0) hc', cell_of_row W' g _ cur' _ (0, 0) hc']
    exact ⟨q1, q2⟩
  · refine ⟨_, _, rfl, by simp at h1; omega, by omega, fun hne => ?_⟩
    have : ¬ cap = 1 := by
      have : ra.length ≠ 0 := fun e => hne (List.eq_nil_of_length_eq_zero e)
      simp at h1; omega
    rw [if_neg this]
    refine ⟨g, off + 2, cur, rfl, hb, hc, fun i hi => ?_⟩
    obtain ⟨q1, q2⟩ := hcs (i + 1) (by simpa using hi)
    simp only [List.getElem_cons_succ] at q1 q2
    rw [show off + 2 + i * 2 = off + (i + 1) * 2 by omega]
    exact ⟨q1, q2⟩
end Go.Proofs.Ytdkplhfbcpobaaa
