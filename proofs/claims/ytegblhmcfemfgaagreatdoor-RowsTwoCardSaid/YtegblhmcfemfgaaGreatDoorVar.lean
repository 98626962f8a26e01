/- Where num.Var is not in the program: the types of rows of bytes alone. -/
import Derived.Test.YtegblhmcfemfgaaGreatDoorFBt
namespace Go.Proofs.YtegblhmcfemfgaaGreatDoor
end Go.Proofs.YtegblhmcfemfgaaGreatDoor
