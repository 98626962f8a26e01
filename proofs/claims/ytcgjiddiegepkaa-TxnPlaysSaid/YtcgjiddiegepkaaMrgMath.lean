/- Maps in order: rows of pairs, merged; words. -/
import Derived.Test.YtcgjiddiegepkaaRangeW
import Derived.Test.YtcgjiddiegepkaaRiseBase
import Derived.Test.YtcgjiddiegepkaaTwoRows
namespace Go.Proofs.Ytcgjiddiegepkaa
open Go.RowKit
/-- The cells of pairs. -/
def flatP : List (Value × Value) → List Value
  | [] => []
  | p :: t => p.1 :: p.2 :: flatP t
theorem flatP_len : ∀ l : List (Value × Value), (flatP l).length = l.length * 2
  | [] => rfl
  | p :: t => by simp [flatP, flatP_len t]; omega
theorem flatP_app : ∀ a b : List (Value × Value), flatP (a ++ b) = flatP a ++ flatP b
  | [], _ => rfl
  | p :: t, b => by simp [flatP, flatP_app t b]
theorem flatP_at : ∀ (l : List (Value × Value)) (i : Nat) (h : i < l.length), (flatP l)[i * 2]? = some l[i].1 ∧ (flatP l)[i * 2 + 1]? = some l[i].2
  | p :: t, 0, _ => by simp [flatP]
  | p :: t, i + 1, h => by
    have e : (i + 1) * 2 = i * 2 + 1 + 1 := by omega
    have := flatP_at t i (by simpa using h)
    simp only [flatP, e, List.getElem?_cons_succ, List.getElem_cons_succ]
    exact this
/-- Behind an append to a slice of elements of any size in a box that lies ahead of all rows. -/
theorem appended2 {W w1 : World} {n₀ B size : Nat} {t e : TypeId} {v v' : Value} {k m : Nat} {xs ys : List Value} {tmp : Obj} (hv : Boxed W B t v) (hB : B < n₀) (hn : n₀ ≤ W.heap.size) (hrow : W.ownsRow n₀ e size v k xs)
    (hown' : w1.ownsRow n₀ e size v' m ys) (hgrow : (W.alloc tmp).grownBy w1 v.ownBlock) :
    Boxed w1 B t v ∧ Boxed (w1.setCell ⟨B, 0, none⟩ v') B t v' ∧ (w1.setCell ⟨B, 0, none⟩ v').ownsRow n₀ e size v' m ys ∧ (∀ c, c ≤ B → Below c W (w1.setCell ⟨B, 0, none⟩ v')) := by
  have ne : ∀ j, j < n₀ → some j ≠ v.ownBlock := fun j hj e => by have := (hrow.lt j e.symm).1; omega
  have hv1 : Boxed w1 B t v := (hv.alloc tmp).kept hgrow (ne B hB)
  have ne' : v'.ownBlock = none ∨ v'.ownBlock ≠ some B := .inr fun e => by have := (hown'.lt B e).1; omega
  refine ⟨hv1, hv1.set v', hown'.kept (grownBy_setCell' w1 B v') ne', fun c hc => ?_⟩
  exact (((Below.refl c W).alloc (by omega) tmp).grown hgrow (by simp; omega) (fun j ej => by have := (hrow.lt j ej).1; omega)).setCell (p := ⟨B, 0, none⟩) hc v'
/-- Two rows of pairs, merged: of a key that both have the second one's. -/
def mrgL : List (Value × Value) → List (Value × Value) → List (Value × Value)
  | ra, [] => ra
  | [], x :: t => x :: mrgL [] t
  | p :: ra, x :: t => if lessV p.1 x.1 = true then p :: mrgL ra (x :: t) else if lessV x.1 p.1 = true then x :: mrgL (p :: ra) t else x :: mrgL ra t
termination_by a b => a.length + b.length
theorem mrg_end (ra : List (Value × Value)) : mrgL ra [] = ra := by cases ra <;> simp [mrgL]
theorem mrg_less {p x : Value × Value} {ra t : List (Value × Value)} (h : lessV p.1 x.1 = true) : mrgL (p :: ra) (x :: t) = p :: mrgL ra (x :: t) := by rw [mrgL, if_pos h]
theorem mrg_more {p x : Value × Value} {ra t : List (Value × Value)} (h : lessV p.1 x.1 = false) (h2 : lessV x.1 p.1 = true) : mrgL (p :: ra) (x :: t) = x :: mrgL (p :: ra) t := by rw [mrgL, if_neg (by simp [h]), if_pos h2]
theorem mrg_same {p x : Value × Value} {ra t : List (Value × Value)} (h : lessV p.1 x.1 = false) (h2 : lessV x.1 p.1 = false) : mrgL (p :: ra) (x :: t) = x :: mrgL ra t := by rw [mrgL, if_neg (by simp [h]), if_neg (by simp [h2])]
theorem mrg_none {x : Value × Value} {t : List (Value × Value)} : mrgL [] (x :: t) = x :: mrgL [] t := by rw [mrgL]
theorem mrg_nil : ∀ t : List (Value × Value), mrgL [] t = t
  | [] => by simp [mrgL]
  | x :: t => by rw [mrg_none, mrg_nil t]
theorem mrg_mem (P : Value × Value → Prop) : ∀ a b : List (Value × Value), (∀ p ∈ a, P p) → (∀ p ∈ b, P p) → ∀ p ∈ mrgL a b, P p
  | ra, [], ha, _ => by rw [mrg_end]; exact ha
  | [], x :: t, _, hb => by rw [mrg_nil]; exact hb
  | p :: ra, x :: t, ha, hb => by
    have a1 := ha p (by simp)
    have a2 : ∀ q ∈ ra, P q := fun q hq => ha q (by simp [hq])
    have b1 := hb x (by simp)
    have b2 : ∀ q ∈ t, P q := fun q hq => hb q (by simp [hq])
    intro q hq
    rw [mrgL] at hq
    split at hq
    · rcases List.mem_cons.1 hq with rfl | hq
      · exact a1
      · exact mrg_mem P ra (x :: t) a2 hb q hq
    · split at hq
      · rcases List.mem_cons.1 hq with rfl | hq
        · exact b1
        · exact mrg_mem P (p :: ra) t ha b2 q hq
      · rcases List.mem_cons.1 hq with rfl | hq
        · exact b1
        · exact mrg_mem P ra t a2 b2 q hq
termination_by a b => a.length + b.length
theorem mrg_len : ∀ a b : List (Value × Value), (mrgL a b).length ≤ a.length + b.length
  | ra, [] => by rw [mrg_end]; simp
  | [], x :: t => by rw [mrg_nil]; simp
  | p :: ra, x :: t => by
    rw [mrgL]
    split
    · have := mrg_len ra (x :: t); simp at this ⊢; omega
    · split
      · have := mrg_len (p :: ra) t; simp at this ⊢; omega
      · have := mrg_len ra t; simp at this ⊢; omega
termination_by a b => a.length + b.length
theorem run_store_fn (P : Program) (w : World) (a : Addr) (m : Mode) (f : Fn) (ts l : Array Value) : (store a (.func f ts l) m).run P w = stored P w a (.func f ts l) m := run_store P w a _ m rfl
theorem grown_below {w w' : World} {B : Nat} (h : Below B w w') (hB : B = w.heap.size := by simp) (row : Option Nat := none) : w.grownBy w' row := by
  subst hB
  exact ⟨h.1, h.2, h.3, h.size, fun k hk _ => h.block k hk⟩
theorem rem_eq {α : Type} {xs pre t rem : List α} {x : α} (h : xs = pre ++ x :: t) (e : xs = pre ++ [x] ++ rem) : rem = t := by
  rw [h] at e
  simpa using e.symm
/-- A relation that a walk leaves alone. -/
def Kept (p : Prop) : Prop := p
theorem Kept.intro {p : Prop} (h : p) : Kept p := h
theorem Kept.out {p : Prop} (h : Kept p) : p := h
/-- The length of the slice in a box. -/
def lenAt (W : World) (b : Nat) : Nat := match W.cell? ⟨b, 0, none⟩ with | some (.slice _ n _) => n | _ => 0
theorem lenAt_box {W : World} {b : Nat} {T : TypeId} {a : Option Addr} {n c : Nat} (h : Boxed W b T (.slice a n c)) : lenAt W b = n := by unfold lenAt; rw [h.cell]
end Go.Proofs.Ytcgjiddiegepkaa
