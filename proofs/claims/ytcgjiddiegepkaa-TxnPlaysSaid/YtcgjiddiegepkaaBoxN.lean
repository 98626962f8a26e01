/- Boxes that hold rows of structs. -/
import Derived.Test.YtcgjiddiegepkaaRangeW
import Derived.Test.YtcgjiddiegepkaaRowsF
import Derived.OwnWalkIn
import Derived.TacticsInMore
import Derived.Maps.AppendAt
namespace Go.Proofs.Ytcgjiddiegepkaa
open Go.RowKit

theorem cell_three_new (w : World) (x y z : Value) (t : TypeId) : ∀ j u, [x, y, z][j]? = some u → (w.alloc (.cells #[x, y, z] t)).cell? ((⟨w.heap.size, 0, none⟩ : Addr).add j) = some u := by
  intro j u hj
  match j, hj with
  | 0, hj => simp at hj; subst hj; simp [Addr.add]
  | 1, hj => simp at hj; subst hj; simp [Addr.add]
  | 2, hj => simp at hj; subst hj; simp [Addr.add]
  | (j + 3), hj => simp at hj
/-- A box that holds a row of structs. -/
def BoxRowN (n₀ B : Nat) (T E : TypeId) (sz : Nat) (W : World) (k : Nat) (l : List Value) : Prop := ∃ v, Boxed W B T v ∧ W.ownsRow n₀ E sz v k l
theorem boxRowN_ownT {Tw : TypeId → Prop} {β : Type} (n₀ B : Nat) (T E : TypeId) (sz : Nat) (k : β → Nat) (f : β → List Value) (hT : ¬ Tw T) (hE : ¬ Tw E) : OwnT Tw (fun s W => BoxRowN n₀ B T E sz W (k s) (f s)) := by
  rintro s X Y row ⟨v, hv, hr⟩ hg hrow
  refine ⟨v, boxed_ownT (β := Unit) B T (fun _ => v) hT () X Y row hv hg hrow, hr.kept hg ?_⟩
  rcases hr.2 with ⟨rfl, _⟩ | ⟨g, cap, cur, rfl, _, hgb, _⟩
  · exact .inl rfl
  · refine .inr fun e' => ?_
    obtain ⟨o, ho, hc⟩ := hrow g (by simpa [Value.ownBlock] using e'.symm)
    rw [hgb] at ho
    cases ho
    rcases hc with hc | ⟨c, T, p, hc, hT'⟩
    · cases hc
    · cases hc; exact hE hT'
/-- A struct's cells. -/
def aggL : Value → List Value
  | .agg a => a.toList
  | _ => []
def flatV (l : List Value) : List Value := l.flatMap aggL
theorem flatV_snoc (l : List Value) (x : Value) : flatV (l ++ [x]) = flatV l ++ aggL x := by simp [flatV]
theorem cell_two_new (w : World) (x y : Value) (t : TypeId) : ∀ j u, [x, y][j]? = some u → (w.alloc (.cells #[x, y] t)).cell? ((⟨w.heap.size, 0, none⟩ : Addr).add j) = some u := by
  intro j u hj
  match j, hj with
  | 0, hj => simp at hj; subst hj; simp [Addr.add]
  | 1, hj => simp at hj; subst hj; simp [Addr.add]
  | (j + 2), hj => simp at hj
end Go.Proofs.Ytcgjiddiegepkaa
