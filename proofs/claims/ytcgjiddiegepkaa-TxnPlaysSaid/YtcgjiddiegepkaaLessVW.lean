/- cmp.Less[string], for omap[string,handbill/api.Write]. -/
import Derived.Test.YtcgjiddiegepkaaPutVW
namespace Go.Proofs.Ytcgjiddiegepkaa
open Go.RowKit

theorem lessVW_any (a b : List UInt8) (w : World) : Calls Try.prog 69 #[str a, str b] w fun e w' => e = .returned (.bool (lessV (str a) (str b))) ∧ w' = w := by
  have e1 : lessV (str a) (str b) = Op.bytesLess a b := rfl
  rw [e1]
  have n1 : (a != a) = false := bne_self_eq_false _
  have n2 : (b != b) = false := bne_self_eq_false _
  clear e1
  go_enter Try.func69, Try.ntmps69
  go_wp2
  go_ret
  exact ⟨rfl, rfl⟩
end Go.Proofs.Ytcgjiddiegepkaa
