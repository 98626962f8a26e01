/- hbllaw12.with: pairs with a key's value, or without it. -/
import Derived.Test.YtcgjiddiegepkaaTxSeesM
import Derived.Deep.CutRange
import Derived.Deep.CutBlock
namespace Go.Proofs.Ytcgjiddiegepkaa
open Go.RowKit
theorem one_cellsPr (l : List PairT) : ∀ u ∈ (l.map cellsP).flatten, u.oneCell' = true := by
  intro u hu
  obtain ⟨r, hr, hu⟩ := List.mem_flatten.1 hu
  obtain ⟨p, _, rfl⟩ := List.mem_map.1 hr
  simp only [cellsP, List.mem_cons, List.not_mem_nil, or_false] at hu
  rcases hu with rfl | rfl <;> rfl
theorem ite_noneP {g p cap n m c : Nat} (h : (Value.slice (if cap = p then (some ⟨g, 0, none⟩ : Option Addr) else some ⟨g, p * 2, none⟩) n m) = .slice none 0 c) : c = 0 := by
  split at h <;> simp at h
theorem rdp_ownP {W : World} {base : Nat} {v : Value} {l : List PairT} (h : W.ownsRow base 63 2 v l.length (l.map cellsP).flatten) : RdP W v l :=
  RdF.of_row (fun r hr => by obtain ⟨y, _, rfl⟩ := List.mem_map.1 hr; rfl) (by simpa using h)
/-- A new row of pairs. -/
def WI (w W : World) (g c : Nat) (M : List PairT) : Prop := W.ownsRow w.heap.size 63 2 (.slice (some ⟨g, 0, none⟩) M.length c) M.length (M.map cellsP).flatten ∧ Below w.heap.size w W ∧ w.heap.size ≤ g
theorem wi_first {w W : World} {g c : Nat} {M : List PairT} {o : Obj} (h : W.ownsRow w.heap.size 63 2 (.slice (some ⟨g, 0, none⟩) (0 + (M.map cellsP).length) c) (0 + (M.map cellsP).length) ([] ++ (M.map cellsP).flatten)) (hg : (w.alloc o).grownBy W (some w.heap.size)) : WI w W g c M := by
  rw [List.length_map, Nat.zero_add, List.nil_append] at h
  exact ⟨h, ((Below.refl _ w).alloc (Nat.le_refl _) _).grown hg (by simp) (fun k e => by cases e; exact Nat.le_refl _), (h.lt g rfl).1⟩
theorem wi_app {w W W' : World} {g c g' c' : Nat} {M K N : List PairT} (h : WI w W g c M) (hN : N = M ++ K) (hr : W'.ownsRow w.heap.size 63 2 (.slice (some ⟨g', 0, none⟩) (M.length + (K.map cellsP).length) c') (M.length + (K.map cellsP).length) ((M.map cellsP).flatten ++ (K.map cellsP).flatten)) (hg : W.grownBy W' (some g)) : WI w W' g' c' N := by
  subst hN
  refine ⟨?_, h.2.1.grown hg h.2.1.size (fun k e => by cases e; exact h.2.2), (hr.lt g' rfl).1⟩
  rw [List.length_append, List.map_append, List.flatten_append]
  rwa [List.length_map] at hr
theorem wi_appA {w W W' : World} {g c g' c' : Nat} {M K N : List PairT} {o : Obj} (h : WI w W g c M) (hN : N = M ++ K) (hr : W'.ownsRow w.heap.size 63 2 (.slice (some ⟨g', 0, none⟩) (M.length + (K.map cellsP).length) c') (M.length + (K.map cellsP).length) ((M.map cellsP).flatten ++ (K.map cellsP).flatten)) (hg : (W.alloc o).grownBy W' (some g)) : WI w W' g' c' N :=
  wi_app (W := W.alloc o) ⟨World.ownsRow.alloc h.1 _, h.2.1.trans ((below_alloc W o).mono h.2.1.size), h.2.2⟩ hN hr hg
def WithP (w : World) (l : List PairT) (key v : List UInt8) (gone : Bool) (e : Ending) (w' : World) : Prop := ∃ vo p has, e = .returned vo ∧ PlaceB key l p ∧ has = (if (∃ h : p < l.length, l[p].1 = key) then 1 else 0) ∧ w'.ownsRow w.heap.size 63 2 vo (withP l key v gone p has).length ((withP l key v gone p has).map cellsP).flatten ∧ Below w.heap.size w w'
theorem place_atP {l : List PairT} {key : List UInt8} (hr : RisB l) {p : Nat} (hp : p ≤ l.length) (h1 : ∀ j (h : j < l.length), j < p → Op.bytesLess l[j].1 key = true) (h2 : ∀ h : p < l.length, Op.bytesLess l[p].1 key = false) : PlaceB key l p := by
  refine ⟨hp, h1, fun j h hj => ?_⟩
  have hp' : p < l.length := by omega
  by_cases e : j = p
  · subst e; exact h2 hp'
  · cases h3 : Op.bytesLess l[j].1 key with
    | false => rfl
    | true =>
      have := bl_tr _ _ _ ((List.pairwise_iff_getElem.1 hr) p j hp' h (by omega)) h3
      rw [h2 hp'] at this; cases this
end Go.Proofs.Ytcgjiddiegepkaa
