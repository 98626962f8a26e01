import Derived.Test.YtegblhmcfemfgaaGreatDoorKit
import Derived.RangeFuncNested
import Derived.RangeFuncBound
import Derived.RangeFuncCalls
import Derived.RangeFuncLeaves
import Derived.RangeFuncBox
import Derived.OwnWalkIn
import Derived.Shelf.RegionOpen
import Derived.TacticsInMore
import Derived.Maps.AppendAt
import Derived.Test.YtegblhmcfemfgaaGreatDoorRows
import Derived.Deep.QuietTactic
import Derived.BigQuiet
import Derived.IntWalk
import Derived.Test.YtegblhmcfemfgaaGreatDoorBl
import Derived.Test.YtegblhmcfemfgaaGreatDoorRowsF
namespace Go.Proofs.YtegblhmcfemfgaaGreatDoor
open Go.RowKit
structure KT (Wr : TypeId → Prop) (B : Nat) (W W' : World) : Prop where
 size : W.heap.size ≤ W'.heap.size
 same : ∀ (k : Nat) (o : Obj), B ≤ k → W.heap[k]? = some o → (∀ c T p, o = .cells c T p → ¬ Wr T) → W'.heap[k]? = some o
theorem appended {W w1 : World} {n₀ B : Nat} {t e : TypeId} {v v' : Value} {k m : Nat} {xs ys : List Value} {tmp : Obj} (hv : Boxed W B t v) (hB : B < n₀) (hn : n₀ ≤ W.heap.size) (hrow : W.ownsRow n₀ e 1 v k xs)
 (hown' : w1.ownsRow n₀ e 1 v' m ys) (hgrow : (W.alloc tmp).grownBy w1 v.ownBlock) :
 Boxed w1 B t v ∧ Boxed (w1.setCell ⟨B, 0, none⟩ v') B t v' ∧ (w1.setCell ⟨B, 0, none⟩ v').ownsRow n₀ e 1 v' m ys ∧
 (∀ B' t' u, B' < n₀ → B' ≠ B → Boxed W B' t' u → Boxed w1 B' t' u ∧ Boxed (w1.setCell ⟨B, 0, none⟩ v') B' t' u) ∧ (∀ c, c ≤ B → Below c W (w1.setCell ⟨B, 0, none⟩ v')) := by
 have ne : ∀ j, j < n₀ → some j ≠ v.ownBlock := fun j hj e => by have := (hrow.lt j e.symm).1; omega
 have hv1 : Boxed w1 B t v := (hv.alloc tmp).kept hgrow (ne B hB)
 have ne' : v'.ownBlock = none ∨ v'.ownBlock ≠ some B := .inr fun e => by have := (hown'.lt B e).1; omega
 refine ⟨hv1, hv1.set v', hown'.kept (grownBy_setCell' w1 B v') ne', fun B' t' u h1 h2 h3 => ?_, fun c hc => ?_⟩
 · have h4 := (h3.alloc tmp).kept hgrow (ne B' h1)
   exact ⟨h4, h4.other h2 v'⟩
 exact (((Below.refl c W).alloc (by omega) tmp).grown hgrow (by simp; omega) (fun j ej => by have := (hrow.lt j ej).1; omega)).setCell (p := ⟨B, 0, none⟩) hc v'
structure PSt (n₀ D Ba Bb Bn : Nat) (Ta Tb Tn Ea Eb : TypeId) (W₀ W : World) (va vb vn ua ub : Value) (la lb : List Value) : Prop where
 ba : Boxed W Ba Ta va
 bb : Boxed W Bb Tb vb
 bn : Boxed W Bn Tn vn
 ra : W.ownsRow n₀ Ea 1 ua la.length la
 rb : W.ownsRow n₀ Eb 1 ub lb.length lb
 kt : KT (fun T => T = Ea ∨ T = Eb) n₀ W₀ W
 bl : Below D W₀ W
 sz : n₀ ≤ W.heap.size
 la : Ba < n₀ ∧ Bb < n₀ ∧ Bn < n₀ ∧ D ≤ Ba ∧ D ≤ Bb ∧ D ≤ n₀ ∧ Ba ≠ Bb ∧ Ba ≠ Bn ∧ Bb ≠ Bn
 ne : Ea ≠ Eb
section
variable {n₀ D Ba Bb Bn : Nat} {Ta Tb Tn Ea Eb : TypeId} {W₀ W w1 : World} {va vb vn ua ub ua' ub' : Value} {la lb : List Value} {x : Value}
end
inductive Tr where
 | nil : Tr
 | node : Tr → Value → Value → Nat → Tr → Tr
def ht : Tr → Nat
 | .nil => 0
 | .node _ _ _ n _ => n
def lessV : Value → Value → Bool
 | .int _ a, .int _ b => decide (a < b)
 | .string a, .string b => Op.bytesLess a.data.toList b.data.toList
 | _, _ => false
structure Ord (K : Value → Prop) : Prop where
 irr : ∀ a, K a → lessV a a = false
 tr : ∀ a b c, K a → K b → K c → lessV a b = true → lessV b c = true → lessV a c = true
 tot : ∀ a b, K a → K b → lessV a b = false → lessV b a = false → a = b
section
variable {Tw : TypeId → Prop} {β : Type} {B B' : Nat} {I I' : β → World → Prop}
end
abbrev MarkT := Int × Int
def cellsM (m : MarkT) : List Value := [.int .i64 m.1, .int .i64 m.2]
theorem cellsM_len (l : List MarkT) : ∀ r ∈ l.map cellsM, r.length = 2 := by
 intro r hr; obtain ⟨p, _, rfl⟩ := List.mem_map.1 hr; rfl
def RdMk (w : World) (v : Value) (l : List MarkT) : Prop := RdF 2 w v (l.map cellsM)
theorem RdMk.up {w w' : World} {v : Value} {l : List MarkT} (h : RdMk w v l) (hb : Below w.heap.size w w') : RdMk w' v l := RdF.below h hb (Nat.le_refl _)
theorem RdMk.form {w : World} {v : Value} {l : List MarkT} (h : RdMk w v l) : ∃ a cap, v = .slice a l.length cap ∧ l.length ≤ 9223372036854775807 := by
 obtain ⟨a, cap, hv, h1, _⟩ := h
 rw [List.length_map] at hv h1
 exact ⟨a, cap, hv, h1⟩
theorem RdMk.get {w : World} {a : Option Addr} {n cap : Nat} {l : List MarkT} (h : RdMk w (.slice a n cap) l) {i : Nat} (hi : i < l.length) : ∃ b off, a = some ⟨b, off, none⟩ ∧ w.cell? ⟨b, off + i * 2, none⟩ = some (.int .i64 l[i].1) ∧ w.cell? ⟨b, off + i * 2 + 1, none⟩ = some (.int .i64 l[i].2) := by
 obtain ⟨a', c', he, _, _, _, h4⟩ := h
 simp only [Value.slice.injEq] at he
 obtain ⟨rfl, _, rfl⟩ := he
 obtain ⟨b, off, ha, hc⟩ := h4 (by intro e; rw [List.map_eq_nil_iff] at e; rw [e] at hi; simp at hi)
 have hi' : i < (l.map cellsM).length := by simpa using hi
 exact ⟨b, off, ha, hc i hi' 0 _ (by simp [cellsM]), hc i hi' 1 _ (by simp [cellsM])⟩
theorem RdMk.of_row {w : World} {base : Nat} {e : TypeId} {v : Value} {l : List MarkT} (h : w.ownsRow base e 2 v l.length (l.map cellsM).flatten) : RdMk w v l := RdF.of_row (cellsM_len l) (by simpa using h)
theorem RdMk.nil (w : World) : RdMk w (.slice none 0 0) [] := ⟨none, 0, rfl, by simp, by simp, by simp, fun h => absurd rfl h⟩
def mayB (m : MarkT) : Bool := decide (0 ≤ m.1 ∧ m.1 ≤ 1099511627776 ∧ 1 ≤ m.2 ∧ m.2 ≤ 1000000)
def nextB (p m : MarkT) : Bool := decide (m.1 < p.1 ∧ p.2 < m.2)
def StairK (l : List MarkT) (k : Nat) : Prop := ∀ i (h : i < l.length), i < k → mayB l[i] = true ∧ ∀ j (hj : j < l.length), j + 1 = i → nextB l[j] l[i] = true
def MayL (l : List MarkT) : Prop := StairK l l.length ∧ l.length ≤ 8
instance decStair (l : List MarkT) (k : Nat) : Decidable (StairK l k) := by unfold StairK; infer_instance
instance decMay (l : List MarkT) : Decidable (MayL l) := by unfold MayL; infer_instance
def mayLk (l : List MarkT) : Bool := decide (MayL l)
theorem mayL_yes {l : List MarkT} (h : MayL l) : mayLk l = true := by unfold mayLk; exact decide_eq_true h
theorem mayL_no {l : List MarkT} (h : ¬ MayL l) : mayLk l = false := by unfold mayLk; exact decide_eq_false h
theorem mayLk_of {l : List MarkT} (h : mayLk l = true) : MayL l := by unfold mayLk at h; exact of_decide_eq_true h
theorem stairK_zero (l : List MarkT) : StairK l 0 := fun _ _ h => absurd h (Nat.not_lt_zero _)
theorem stairK_succ {l : List MarkT} {k : Nat} (h : StairK l k) (hk : k < l.length) (h1 : mayB l[k] = true) (h2 : ∀ j (hj : j < l.length), j + 1 = k → nextB l[j] l[k] = true) : StairK l (k + 1) := by
 intro i hi hik
 by_cases e : i = k
 · subst e; exact ⟨h1, h2⟩
 exact h i hi (by omega)
def domB (a b : MarkT) : Bool := decide (b.1 ≤ a.1 ∧ b.2 ≤ a.2)
def insM (m : MarkT) : List MarkT → List MarkT
 | [] => [m]
 | x :: t => if x.1 < m.1 then m :: x :: t else x :: insM m t
theorem insM_perm (m : MarkT) : ∀ l, (insM m l).Perm (m :: l)
 | [] => List.Perm.refl _
 | x :: t => by
   unfold insM
   split
   · exact List.Perm.refl _
   exact ((insM_perm m t).cons x).trans (List.Perm.swap m x t)
def leftM (m : MarkT) (l : List MarkT) : List MarkT := l.filter (fun x => !domB m x)
theorem leftM_len (m : MarkT) (l : List MarkT) : (leftM m l).length ≤ l.length := List.length_filter_le _ _
theorem leftM_snoc {m : MarkT} {l : List MarkT} {k : Nat} (h : k < l.length) : leftM m (l.take (k + 1)) = leftM m (l.take k) ++ if domB m l[k] = true then [] else [l[k]] := by
 unfold leftM
 rw [List.take_succ_eq_append_getElem h, List.filter_append]
 cases e : domB m l[k] <;> simp [e]
def addL (l : List MarkT) (m : MarkT) : List MarkT × Int :=
 if mayLk l && mayB m then
  if l.any (fun x => domB x m) then (l, 0)
  else if 8 < (leftM m l).length + 1 then ([], 17) else (insM m (leftM m l), 0)
 else ([], 4)
theorem addL_bad {l : List MarkT} {m : MarkT} (h : mayLk l = false ∨ mayB m = false) : addL l m = ([], 4) := by
 unfold addL
 rw [if_neg]
 simp only [Bool.and_eq_true, not_and, Bool.not_eq_true]
 rcases h with h | h
 · intro h2; rw [h] at h2; cases h2
 intro _; exact h
theorem addL_dom {l : List MarkT} {m : MarkT} (h1 : mayLk l = true) (h2 : mayB m = true) (h : l.any (fun x => domB x m) = true) : addL l m = (l, 0) := by
 unfold addL
 rw [if_pos (by rw [h1, h2]; rfl), if_pos h]
theorem addL_many {l : List MarkT} {m : MarkT} (h1 : mayLk l = true) (h2 : mayB m = true) (h : l.any (fun x => domB x m) = false) (h3 : 8 < (leftM m l).length + 1) : addL l m = ([], 17) := by
 unfold addL
 rw [if_pos (by rw [h1, h2]; rfl), if_neg (by rw [h]; decide), if_pos h3]
theorem addL_new {l : List MarkT} {m : MarkT} (h1 : mayLk l = true) (h2 : mayB m = true) (h : l.any (fun x => domB x m) = false) (h3 : ¬ 8 < (leftM m l).length + 1) : addL l m = (insM m (leftM m l), 0) := by
 unfold addL
 rw [if_pos (by rw [h1, h2]; rfl), if_neg (by rw [h]; decide), if_neg h3]
theorem stair_falls {l : List MarkT} (h : StairK l l.length) : ∀ i j (hi : i < l.length) (hj : j < l.length), i < j → l[j].1 < l[i].1 ∧ l[i].2 < l[j].2 := by
 intro i j hi hj hij
 induction j with
 | zero => omega
 | succ j ih =>
  have hn := (h (j + 1) hj hj).2 j (by omega) rfl
  unfold nextB at hn
  rw [decide_eq_true_eq] at hn
  by_cases e : i = j
  · subst e; exact hn
  have := ih (by omega) (by omega)
  omega
theorem stair_pairs {l : List MarkT} (h : StairK l l.length) : l.Pairwise (fun a b => b.1 < a.1 ∧ a.2 < b.2) := by
 rw [List.pairwise_iff_getElem]
 intro i j hi hj hij
 exact stair_falls h i j hi hj hij
theorem stair_may {l : List MarkT} (h : StairK l l.length) : ∀ m ∈ l, mayB m = true := by
 intro m hm
 obtain ⟨i, hi, rfl⟩ := List.mem_iff_getElem.1 hm
 exact (h i hi hi).1
theorem insM_falls {m : MarkT} : ∀ {l : List MarkT}, l.Pairwise (fun a b => b.1 < a.1 ∧ a.2 < b.2) → (∀ x ∈ l, x.1 ≠ m.1) → (insM m l).Pairwise (fun a b => b.1 < a.1)
 | [], _, _ => by simp [insM]
 | x :: t, h, hn => by
   obtain ⟨h1, h2⟩ := List.pairwise_cons.1 h
   unfold insM
   split
   · next e =>
     refine List.pairwise_cons.2 ⟨fun y hy => ?_, h.imp (fun h => h.1)⟩
     rcases List.mem_cons.1 hy with rfl | hy
     · exact e
     have := (h1 y hy).1; omega
   next e =>
   refine List.pairwise_cons.2 ⟨fun y hy => ?_, insM_falls h2 (fun z hz => hn z (by simp [hz]))⟩
   have := (insM_perm m t).mem_iff.1 hy
   have hx := hn x (by simp)
   rcases List.mem_cons.1 this with rfl | hy
   · omega
   exact (h1 y hy).1
theorem left_apart {l : List MarkT} {m : MarkT} (hd : l.any (fun x => domB x m) = false) : ∀ x ∈ leftM m l, x.1 ≠ m.1 := by
 intro x hx e
 unfold leftM at hx
 obtain ⟨h1, h2⟩ := List.mem_filter.1 hx
 have h3 : domB x m = false := by
  have := List.any_eq_false.1 hd x h1
  simpa using this
 simp only [domB, Bool.not_eq_true', decide_eq_false_iff_not] at h2 h3
 omega
theorem sort_is {l : List MarkT} {m : MarkT} (hl : StairK l l.length) (hd : l.any (fun x => domB x m) = false) {d : List MarkT} (hp : d.Perm (m :: leftM m l)) (hs : d.Pairwise (fun a b => b.1 ≤ a.1)) : d = insM m (leftM m l) := by
 have hf : (insM m (leftM m l)).Pairwise (fun a b => b.1 < a.1) := insM_falls ((stair_pairs hl).filter _) (left_apart hd)
 have hq : d.Perm (insM m (leftM m l)) := hp.trans (insM_perm m _).symm
 have hinj : ∀ a ∈ insM m (leftM m l), ∀ b ∈ insM m (leftM m l), a.1 = b.1 → a = b := by
  intro a ha b hb e
  obtain ⟨i, hi, rfl⟩ := List.mem_iff_getElem.1 ha
  obtain ⟨j, hj, rfl⟩ := List.mem_iff_getElem.1 hb
  rw [List.pairwise_iff_getElem] at hf
  rcases Nat.lt_trichotomy i j with h | h | h
  · have := hf i j hi hj h; omega
  · subst h; rfl
  have := hf j i hj hi h; omega
 exact hq.eq_of_pairwise (le := fun a b => b.1 ≤ a.1) (fun a b ha hb h1 h2 => hinj a (hq.mem_iff.1 ha) b hb (by omega)) hs (hf.imp (fun h => by omega))
end Go.Proofs.YtegblhmcfemfgaaGreatDoor
