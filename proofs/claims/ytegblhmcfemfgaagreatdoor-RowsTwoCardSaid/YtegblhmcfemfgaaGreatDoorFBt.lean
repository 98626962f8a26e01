/- Rows of bytes: the types. -/
import Derived.Test.YtegblhmcfemfgaaGreatDoorKit
import Derived.Test.YtegblhmcfemfgaaGreatDoorVarMath
import Derived.Test.YtegblhmcfemfgaaGreatDoorRows
namespace Go.Proofs.YtegblhmcfemfgaaGreatDoor
open Go.RowKit
theorem bt : BT Tryz.prog 106 5 := ⟨Tryz.underlying106, Tryz.underlying5, by kernel_rfl⟩
end Go.Proofs.YtegblhmcfemfgaaGreatDoor
