/- Rows of bytes: the types. -/
import Derived.Test.YtainkmbjllklaaaDoorKit
import Derived.Test.YtainkmbjllklaaaDoorVarMath
import Derived.Test.YtainkmbjllklaaaDoorRows
namespace Go.Proofs.YtainkmbjllklaaaDoor
open Go.RowKit
theorem bt : BT Tryd.prog 22 5 := ⟨Tryd.underlying22, Tryd.underlying5, by kernel_rfl⟩
end Go.Proofs.YtainkmbjllklaaaDoor
