/- TxnLast in the claim's order. -/
import Derived.Test.YtcgjiddiegepkaaTxLast
namespace Go.Proofs.Ytcgjiddiegepkaa
open Go.RowKit
theorem last12_main (vv : Value) (l : List Op11) (at1 : Int) (va : Value) (A : List Op12) (w : World) (hv : Rd11 w vv l) (hsv : ∀ o ∈ l, o.ok) (hat : -9223372036854775808 ≤ at1 ∧ at1 ≤ 9223372036854775807) (ha : Rd12 w va A) (hsa : ∀ o ∈ A, o.ok) :
    Calls Try.prog 6 #[vv, .int .i64 at1, va] w fun e w' => e = .returned (.bool true) ∧ Below w.heap.size w w' :=
  last12_walk vv l at1 va A w hv hsv ha hsa hat
end Go.Proofs.Ytcgjiddiegepkaa
