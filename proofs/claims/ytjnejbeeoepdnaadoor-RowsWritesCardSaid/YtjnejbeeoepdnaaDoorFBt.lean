/- Rows of bytes: the types. -/
import Derived.Test.YtjnejbeeoepdnaaDoorKit
import Derived.Test.YtjnejbeeoepdnaaDoorVarMath
import Derived.Test.YtjnejbeeoepdnaaDoorRows
namespace Go.Proofs.YtjnejbeeoepdnaaDoor
open Go.RowKit
theorem bt : BT Tryd.prog 81 5 := ⟨Tryd.underlying81, Tryd.underlying5, by kernel_rfl⟩
end Go.Proofs.YtjnejbeeoepdnaaDoor
