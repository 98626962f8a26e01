/- Rows of bytes: the types. -/
import Derived.Test.YtonkfekjhbfelaaDoorKit
import Derived.Test.YtonkfekjhbfelaaDoorVarMath
import Derived.Test.YtonkfekjhbfelaaDoorRows
namespace Go.Proofs.YtonkfekjhbfelaaDoor
open Go.RowKit
theorem bt : BT Tryd.prog 48 5 := ⟨Tryd.underlying48, Tryd.underlying5, by kernel_rfl⟩
end Go.Proofs.YtonkfekjhbfelaaDoor
