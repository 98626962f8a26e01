/- cmp.Less[string], for omap[string,string]. -/
import Derived.Test.YteibiaplmmdppaaPutSS
namespace Go.Proofs.Yteibiaplmmdppaa
open Go.RowKit

theorem lessSS_any (a b : List UInt8) (w : World) : Calls Try.prog 50 #[str a, str b] w fun e w' => e = .returned (.bool (lessV (str a) (str b))) ∧ w' = w := by
  have e1 : lessV (str a) (str b) = Op.bytesLess a b := rfl
  rw [e1]
  have n1 : (a != a) = false := bne_self_eq_false _
  have n2 : (b != b) = false := bne_self_eq_false _
  clear e1
  go_enter Try.func50, Try.ntmps50
  go_wp2
  go_ret
  exact ⟨rfl, rfl⟩
end Go.Proofs.Yteibiaplmmdppaa
