/- Where num.Var is not in the program: the types of rows of bytes alone. -/
import Derived.Test.YtonkfekjhbfelaaDoorFBt
namespace Go.Proofs.YtonkfekjhbfelaaDoor
end Go.Proofs.YtonkfekjhbfelaaDoor
