/- DiffTakes: the walk, its arguments in the claim's order. -/
import Derived.Test.YteibiaplmmdppaaD21Takes
namespace Go.Proofs.Yteibiaplmmdppaa
open Go.RowKit

theorem takes21_main (va : Value) (la : List PairT) (vb : Value) (lb : List PairT) (n : Int) (w : World) (ha : RdP w va la) (hsa : ∀ p ∈ la, p.1.length ≤ 9223372036854775807 ∧ p.2.length ≤ 9223372036854775807) (hb : RdP w vb lb) (hsb : ∀ p ∈ lb, p.1.length ≤ 9223372036854775807 ∧ p.2.length ≤ 9223372036854775807)
    (hn : -9223372036854775808 ≤ n ∧ n ≤ 9223372036854775807) : Calls Try.prog 7 #[va, vb, .int .i64 n] w fun e w' => e = .returned (.bool true) ∧ Below w.heap.size w w' :=
  takes21_walk va vb la lb n w ha hb hsa hsb hn
end Go.Proofs.Yteibiaplmmdppaa
