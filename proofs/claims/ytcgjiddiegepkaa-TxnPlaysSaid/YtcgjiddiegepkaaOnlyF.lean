/- A region in a fence alone: at its end what is asked, at a panic nothing. -/
import Derived.Test.YtcgjiddiegepkaaRange
namespace Go.Proofs.Ytcgjiddiegepkaa
open Go.RowKit

/-- At a normal end R. -/
def OnlyF (R : Act → World → Prop) : Exit → Act → World → Prop
  | .normal, a, w => R a w
  | _, _, _ => False
theorem onlyF_normal {F : Fence} {n : Nat} {P : Program} {c : Code} {Q : Exit → Act → World → Prop} {a : Act} {w : World} (h : c.wpIn F n P (OnlyF (fun a w => Q .normal a w)) a w) : c.wpIn F n P Q a w :=
  wpIn_mono h (fun e a' w' hq => by
    cases e with
    | normal => exact hq
    | _ => exact hq.elim)
end Go.Proofs.Ytcgjiddiegepkaa
