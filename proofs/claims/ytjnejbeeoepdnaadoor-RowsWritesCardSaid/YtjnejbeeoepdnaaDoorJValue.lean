/- In a seat without the reader of JSON: plain values alone. -/
import Derived.Test.YtjnejbeeoepdnaaDoorJPrn
namespace Go.Proofs.YtjnejbeeoepdnaaDoor
open Go.RowKit

theorem plainJ (W : World) (F : Nat → Prop) (k n : Int) (s : List UInt8) : RdJ W F (.mk k n s [] []) [.int .i64 k, .int .i64 n, str s, .slice none 0 0, .slice none 0 0] := by
  unfold RdJ
  exact ⟨_, _, rfl, ⟨[], RdFB.nil _ _ _, by unfold RdL; trivial⟩, [], RdFB.nil _ _ _, by unfold RdM; trivial⟩
end Go.Proofs.YtjnejbeeoepdnaaDoor
