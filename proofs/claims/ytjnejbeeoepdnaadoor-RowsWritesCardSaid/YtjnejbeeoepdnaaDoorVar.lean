/- Where num.Var is not in the program: the types of rows of bytes alone. -/
import Derived.Test.YtjnejbeeoepdnaaDoorFBt
namespace Go.Proofs.YtjnejbeeoepdnaaDoor
end Go.Proofs.YtjnejbeeoepdnaaDoor
