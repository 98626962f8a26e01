/- Marks: plain facts. -/
import Derived.Test.YtegblhmcfemfgaaDoorRdV
import Derived.Test.YtegblhmcfemfgaaDoorMrgMath
import Derived.Test.YtegblhmcfemfgaaDoorRowsF
namespace Go.Proofs.YtegblhmcfemfgaaDoor
open Go.RowKit

/-- A mark: its time, its bound. -/
abbrev MarkT := Int × Int
def cellsM (m : MarkT) : List Value := [.int .i64 m.1, .int .i64 m.2]
theorem cellsM_len (l : List MarkT) : ∀ r ∈ l.map cellsM, r.length = 2 := by
  intro r hr; obtain ⟨p, _, rfl⟩ := List.mem_map.1 hr; rfl
def RdMk (w : World) (v : Value) (l : List MarkT) : Prop := RdF 2 w v (l.map cellsM)
theorem RdMk.up {w w' : World} {v : Value} {l : List MarkT} (h : RdMk w v l) (hb : Below w.heap.size w w') : RdMk w' v l := RdF.below h hb (Nat.le_refl _)
theorem RdMk.drewN {w : World} {v : Value} {l : List MarkT} (h : RdMk w v l) (q : Nat) : RdMk (w.drewN q) v l := RdF.drewN h q
theorem RdMk.form {w : World} {v : Value} {l : List MarkT} (h : RdMk w v l) : ∃ a cap, v = .slice a l.length cap ∧ l.length ≤ 9223372036854775807 := by
  obtain ⟨a, cap, hv, h1, _⟩ := h
  rw [List.length_map] at hv h1
  exact ⟨a, cap, hv, h1⟩
theorem RdMk.get {w : World} {a : Option Addr} {n cap : Nat} {l : List MarkT} (h : RdMk w (.slice a n cap) l) {i : Nat} (hi : i < l.length) : ∃ b off, a = some ⟨b, off, none⟩ ∧ w.cell? ⟨b, off + i * 2, none⟩ = some (.int .i64 l[i].1) ∧ w.cell? ⟨b, off + i * 2 + 1, none⟩ = some (.int .i64 l[i].2) := by
  obtain ⟨a', c', he, _, _, _, h4⟩ := h
  simp only [Value.slice.injEq] at he
  obtain ⟨rfl, _, rfl⟩ := he
  obtain ⟨b, off, ha, hc⟩ := h4 (by intro e; rw [List.map_eq_nil_iff] at e; rw [e] at hi; simp at hi)
  have hi' : i < (l.map cellsM).length := by simpa using hi
  exact ⟨b, off, ha, hc i hi' 0 _ (by simp [cellsM]), hc i hi' 1 _ (by simp [cellsM])⟩
theorem RdMk.of_row {w : World} {base : Nat} {e : TypeId} {v : Value} {l : List MarkT} (h : w.ownsRow base e 2 v l.length (l.map cellsM).flatten) : RdMk w v l := RdF.of_row (cellsM_len l) (by simpa using h)
theorem RdMk.nil (w : World) : RdMk w (.slice none 0 0) [] := ⟨none, 0, rfl, by simp, by simp, by simp, fun h => absurd rfl h⟩
theorem cellsM_one {l : List MarkT} : ∀ u ∈ (l.map cellsM).flatten, u.oneCell' = true := by
  intro u hu
  obtain ⟨r, hr, hu⟩ := List.mem_flatten.1 hu
  obtain ⟨c, _, rfl⟩ := List.mem_map.1 hr
  simp only [cellsM, List.mem_cons, List.not_mem_nil, or_false] at hu
  rcases hu with rfl | rfl <;> rfl
/-- May a mark be? -/
def mayB (m : MarkT) : Bool := decide (0 ≤ m.1 ∧ m.1 ≤ 1099511627776 ∧ 1 ≤ m.2 ∧ m.2 ≤ 1000000)
/-- May a mark stand behind another one? -/
def nextB (p m : MarkT) : Bool := decide (m.1 < p.1 ∧ p.2 < m.2)
/-- May the first k of them be? -/
def StairK (l : List MarkT) (k : Nat) : Prop := ∀ i (h : i < l.length), i < k → mayB l[i] = true ∧ ∀ j (hj : j < l.length), j + 1 = i → nextB l[j] l[i] = true
/-- May they be? -/
def MayL (l : List MarkT) : Prop := StairK l l.length ∧ l.length ≤ 8
instance decStair (l : List MarkT) (k : Nat) : Decidable (StairK l k) := by unfold StairK; infer_instance
instance decMay (l : List MarkT) : Decidable (MayL l) := by unfold MayL; infer_instance
def mayLk (l : List MarkT) : Bool := decide (MayL l)
theorem mayL_yes {l : List MarkT} (h : MayL l) : mayLk l = true := by unfold mayLk; exact decide_eq_true h
theorem mayL_no {l : List MarkT} (h : ¬ MayL l) : mayLk l = false := by unfold mayLk; exact decide_eq_false h
theorem mayLk_of {l : List MarkT} (h : mayLk l = true) : MayL l := by unfold mayLk at h; exact of_decide_eq_true h
theorem stairK_zero (l : List MarkT) : StairK l 0 := fun _ _ h => absurd h (Nat.not_lt_zero _)
theorem stairK_succ {l : List MarkT} {k : Nat} (h : StairK l k) (hk : k < l.length) (h1 : mayB l[k] = true) (h2 : ∀ j (hj : j < l.length), j + 1 = k → nextB l[j] l[k] = true) : StairK l (k + 1) := by
  intro i hi hik
  by_cases e : i = k
  · subst e; exact ⟨h1, h2⟩
  · exact h i hi (by omega)
theorem mayL_one (m : MarkT) : mayLk [m] = mayB m := by
  cases h : mayB m with
  | true =>
    refine mayL_yes ⟨fun i hi _ => ?_, by simp⟩
    obtain rfl : i = 0 := by simpa using hi
    exact ⟨by simpa using h, fun j hj e => by omega⟩
  | false =>
    refine mayL_no fun ⟨h1, _⟩ => ?_
    have := (h1 0 (by simp) (by simp)).1
    simp only [List.getElem_cons_zero] at this
    rw [h] at this; cases this
/-- Does a say all that b says? -/
def domB (a b : MarkT) : Bool := decide (b.1 ≤ a.1 ∧ b.2 ≤ a.2)
/-- A mark laid among marks. -/
def insM (m : MarkT) : List MarkT → List MarkT
  | [] => [m]
  | x :: t => if x.1 < m.1 then m :: x :: t else x :: insM m t
def hasLess (m : MarkT) (l : List MarkT) : Bool := l.any (fun x => decide (x.1 < m.1))
theorem insM_len (m : MarkT) : ∀ l, (insM m l).length = l.length + 1
  | [] => rfl
  | x :: t => by unfold insM; split <;> simp [insM_len m t]
theorem insM_perm (m : MarkT) : ∀ l, (insM m l).Perm (m :: l)
  | [] => List.Perm.refl _
  | x :: t => by
    unfold insM
    split
    · exact List.Perm.refl _
    · exact ((insM_perm m t).cons x).trans (List.Perm.swap m x t)
theorem insM_none {m : MarkT} : ∀ {l}, hasLess m l = false → insM m l = l ++ [m]
  | [], _ => rfl
  | x :: t, h => by
    simp only [hasLess, List.any_cons, Bool.or_eq_false_iff, decide_eq_false_iff_not] at h
    unfold insM
    rw [if_neg h.1, insM_none (l := t) (by unfold hasLess; exact h.2)]
    rfl
theorem insM_app {m : MarkT} (x : MarkT) : ∀ {l}, hasLess m l = true → insM m (l ++ [x]) = insM m l ++ [x]
  | [], h => by simp [hasLess] at h
  | y :: t, h => by
    simp only [List.cons_append, insM]
    by_cases e : y.1 < m.1
    · rw [if_pos e, if_pos e]; rfl
    · rw [if_neg e, if_neg e]
      simp only [hasLess, List.any_cons, Bool.or_eq_true, decide_eq_true_eq] at h
      rw [insM_app x (l := t) (by unfold hasLess; rcases h with h | h; exact absurd h e; exact h)]
      rfl
theorem insM_less {m x : MarkT} : ∀ {l}, hasLess m l = false → x.1 < m.1 → insM m (l ++ [x]) = l ++ [m] ++ [x]
  | [], _, hx => by simp [insM, hx]
  | y :: t, h, hx => by
    simp only [hasLess, List.any_cons, Bool.or_eq_false_iff, decide_eq_false_iff_not] at h
    simp only [List.cons_append, insM]
    rw [if_neg h.1, insM_less (l := t) (by unfold hasLess; exact h.2) hx]
theorem hasLess_snoc (m x : MarkT) (l : List MarkT) : hasLess m (l ++ [x]) = (hasLess m l || decide (x.1 < m.1)) := by simp [hasLess]
/-- What is left when what m says already is taken away. -/
def leftM (m : MarkT) (l : List MarkT) : List MarkT := l.filter (fun x => !domB m x)
theorem leftM_len (m : MarkT) (l : List MarkT) : (leftM m l).length ≤ l.length := List.length_filter_le _ _
theorem leftM_snoc {m : MarkT} {l : List MarkT} {k : Nat} (h : k < l.length) : leftM m (l.take (k + 1)) = leftM m (l.take k) ++ if domB m l[k] = true then [] else [l[k]] := by
  unfold leftM
  rw [List.take_succ_eq_append_getElem h, List.filter_append]
  cases e : domB m l[k] <;> simp [e]
/-- A mark more: the marks, and the error. -/
def addL (l : List MarkT) (m : MarkT) : List MarkT × Int :=
  if mayLk l && mayB m then
    if l.any (fun x => domB x m) then (l, 0)
    else if 8 < (leftM m l).length + 1 then ([], 17) else (insM m (leftM m l), 0)
  else ([], 4)
theorem addL_bad {l : List MarkT} {m : MarkT} (h : mayLk l = false ∨ mayB m = false) : addL l m = ([], 4) := by
  unfold addL
  rw [if_neg]
  simp only [Bool.and_eq_true, not_and, Bool.not_eq_true]
  rcases h with h | h
  · intro h2; rw [h] at h2; cases h2
  · intro _; exact h
theorem addL_dom {l : List MarkT} {m : MarkT} (h1 : mayLk l = true) (h2 : mayB m = true) (h : l.any (fun x => domB x m) = true) : addL l m = (l, 0) := by
  unfold addL
  rw [if_pos (by rw [h1, h2]; rfl), if_pos h]
theorem addL_many {l : List MarkT} {m : MarkT} (h1 : mayLk l = true) (h2 : mayB m = true) (h : l.any (fun x => domB x m) = false) (h3 : 8 < (leftM m l).length + 1) : addL l m = ([], 17) := by
  unfold addL
  rw [if_pos (by rw [h1, h2]; rfl), if_neg (by rw [h]; decide), if_pos h3]
theorem addL_new {l : List MarkT} {m : MarkT} (h1 : mayLk l = true) (h2 : mayB m = true) (h : l.any (fun x => domB x m) = false) (h3 : ¬ 8 < (leftM m l).length + 1) : addL l m = (insM m (leftM m l), 0) := by
  unfold addL
  rw [if_pos (by rw [h1, h2]; rfl), if_neg (by rw [h]; decide), if_neg h3]
/-- Is an entry covered? -/
def covL (l : List MarkT) (num time : Int) : Bool := l.any (fun m => decide (time ≤ m.1 ∧ num < m.2))
/-- Neighbours fall: all do. -/
theorem stair_falls {l : List MarkT} (h : StairK l l.length) : ∀ i j (hi : i < l.length) (hj : j < l.length), i < j → l[j].1 < l[i].1 ∧ l[i].2 < l[j].2 := by
  intro i j hi hj hij
  induction j with
  | zero => omega
  | succ j ih =>
    have hn := (h (j + 1) hj hj).2 j (by omega) rfl
    unfold nextB at hn
    rw [decide_eq_true_eq] at hn
    by_cases e : i = j
    · subst e; exact hn
    · have := ih (by omega) (by omega)
      omega
theorem stair_pairs {l : List MarkT} (h : StairK l l.length) : l.Pairwise (fun a b => b.1 < a.1 ∧ a.2 < b.2) := by
  rw [List.pairwise_iff_getElem]
  intro i j hi hj hij
  exact stair_falls h i j hi hj hij
theorem stair_may {l : List MarkT} (h : StairK l l.length) : ∀ m ∈ l, mayB m = true := by
  intro m hm
  obtain ⟨i, hi, rfl⟩ := List.mem_iff_getElem.1 hm
  exact (h i hi hi).1
/-- Laid among what is left, all times differ and fall. -/
theorem insM_falls {m : MarkT} : ∀ {l : List MarkT}, l.Pairwise (fun a b => b.1 < a.1 ∧ a.2 < b.2) → (∀ x ∈ l, x.1 ≠ m.1) → (insM m l).Pairwise (fun a b => b.1 < a.1)
  | [], _, _ => by simp [insM]
  | x :: t, h, hn => by
    obtain ⟨h1, h2⟩ := List.pairwise_cons.1 h
    unfold insM
    split
    · next e =>
      refine List.pairwise_cons.2 ⟨fun y hy => ?_, h.imp (fun h => h.1)⟩
      rcases List.mem_cons.1 hy with rfl | hy
      · exact e
      · have := (h1 y hy).1; omega
    · next e =>
      refine List.pairwise_cons.2 ⟨fun y hy => ?_, insM_falls h2 (fun z hz => hn z (by simp [hz]))⟩
      have := (insM_perm m t).mem_iff.1 hy
      have hx := hn x (by simp)
      rcases List.mem_cons.1 this with rfl | hy
      · omega
      · exact (h1 y hy).1
theorem left_apart {l : List MarkT} {m : MarkT} (hd : l.any (fun x => domB x m) = false) : ∀ x ∈ leftM m l, x.1 ≠ m.1 := by
  intro x hx e
  unfold leftM at hx
  obtain ⟨h1, h2⟩ := List.mem_filter.1 hx
  have h3 : domB x m = false := by
    have := List.any_eq_false.1 hd x h1
    simpa using this
  simp only [domB, Bool.not_eq_true', decide_eq_false_iff_not] at h2 h3
  omega
/-- Sorted by falling times it is just that. -/
theorem sort_is {l : List MarkT} {m : MarkT} (hl : StairK l l.length) (hd : l.any (fun x => domB x m) = false) {d : List MarkT} (hp : d.Perm (m :: leftM m l)) (hs : d.Pairwise (fun a b => b.1 ≤ a.1)) : d = insM m (leftM m l) := by
  have hf : (insM m (leftM m l)).Pairwise (fun a b => b.1 < a.1) := insM_falls ((stair_pairs hl).filter _) (left_apart hd)
  have hq : d.Perm (insM m (leftM m l)) := hp.trans (insM_perm m _).symm
  have hinj : ∀ a ∈ insM m (leftM m l), ∀ b ∈ insM m (leftM m l), a.1 = b.1 → a = b := by
    intro a ha b hb e
    obtain ⟨i, hi, rfl⟩ := List.mem_iff_getElem.1 ha
    obtain ⟨j, hj, rfl⟩ := List.mem_iff_getElem.1 hb
    rw [List.pairwise_iff_getElem] at hf
    rcases Nat.lt_trichotomy i j with h | h | h
    · have := hf i j hi hj h; omega
    · subst h; rfl
    · have := hf j i hj hi h; omega
  exact hq.eq_of_pairwise (le := fun a b => b.1 ≤ a.1) (fun a b ha hb h1 h2 => hinj a (hq.mem_iff.1 ha) b hb (by omega)) hs (hf.imp (fun h => by omega))
end Go.Proofs.YtegblhmcfemfgaaDoor
