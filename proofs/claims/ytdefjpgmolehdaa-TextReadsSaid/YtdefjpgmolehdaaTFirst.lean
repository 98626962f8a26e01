/- Layer 3: the first look of the statements. -/
import Derived.Test.YtdefjpgmolehdaaUnquote
namespace Go.Proofs.Ytdefjpgmolehdaa
open Go.RowKit

theorem tq_first : quoteE [97, 10, 34] = .returned (.tuple #[str [34, 97, 92, 110, 92, 34, 34], .int .i64 0]) := by kernel_rfl
theorem tu_first : unqE (unqR [34, 92, 117, 48, 48, 101, 57, 34] 0) = .returned (.tuple #[str [195, 169], .int .i64 8, .int .i64 0]) := by kernel_rfl
theorem tfirst_any (w : World) : Calls Try.prog 8 #[] w fun e w' => e = .returned (.bool true) ∧ Below w.heap.size w w' := by
  go_enter Try.func8, Try.ntmps8
  go_wp2_with fail
  refine (quote_any [97, 10, 34] _ (by decide)).mono ?_
  rintro e w1 ⟨rfl, hb1⟩
  rw [tq_first]
  go_wp2_with fail
  refine (unquote_any [34, 92, 117, 48, 48, 101, 57, 34] 0 _ (by decide)).mono ?_
  rintro e w2 ⟨rfl, hb2⟩
  rw [tu_first]
  go_wp2_with fail
  go_ret
  exact ⟨rfl, hb1.trans (hb2.mono hb1.size)⟩
end Go.Proofs.Ytdefjpgmolehdaa
