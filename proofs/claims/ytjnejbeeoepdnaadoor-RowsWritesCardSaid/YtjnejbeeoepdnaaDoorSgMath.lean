/- In a seat without the reader of texts. -/
import Derived.Test.YtjnejbeeoepdnaaDoorEscMath
import Derived.Lib.DecodeN
import Derived.Laws.IdiomStrings
namespace Go.Proofs.YtjnejbeeoepdnaaDoor
open Go.RowKit

theorem signB_iff (n : Nat) : signB n = true ↔ n < 55296 ∨ (57343 < n ∧ n ≤ 1114111) := by
  unfold signB; simp; omega
end Go.Proofs.YtjnejbeeoepdnaaDoor
