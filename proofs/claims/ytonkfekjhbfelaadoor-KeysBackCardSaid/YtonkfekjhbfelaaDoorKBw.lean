/- KeysBack: the walk whole. -/
import Derived.Test.YtonkfekjhbfelaaDoorKBy
namespace Go.Proofs.YtonkfekjhbfelaaDoor
open Go.RowKit
theorem kback_walk (q : Pa) (a : ByteArray) (n : Int) (w : World) (hq : LenOk q) (_ha : a.size ≤ maxLen) (hn : -9223372036854775808 ≤ n ∧ n ≤ 9223372036854775807) :
    Calls Tryd.prog 4 #[pa q, .string a, .int .i64 n] w fun e w' => e = .returned (.bool true) ∧ Below w.heap.size w w' := by
  obtain ⟨s, rfl⟩ := str_of a
  obtain ⟨pk, pu, pf, pn, pg, pi⟩ := q
  by_cases g1 : 3000 < (pu.length : Int)
  · exact kback_no pk pu pf pn pg s pi n w (.inl g1)
  by_cases g2 : 3000 < (pf.length : Int)
  · exact kback_no pk pu pf pn pg s pi n w (.inr (.inl ⟨g1, g2⟩))
  by_cases g3 : 3000 < (pn.length : Int)
  · exact kback_no pk pu pf pn pg s pi n w (.inr (.inr (.inl ⟨g1, g2, g3⟩)))
  by_cases g4 : 3000 < (pg.length : Int)
  · exact kback_no pk pu pf pn pg s pi n w (.inr (.inr (.inr (.inl ⟨g1, g2, g3, g4⟩))))
  by_cases g5 : 3000 < (s.length : Int)
  · exact kback_no pk pu pf pn pg s pi n w (.inr (.inr (.inr (.inr ⟨g1, g2, g3, g4, g5⟩))))
  exact kback_yes pk pu pf pn pg s pi n w hq hn g1 g2 g3 g4 g5
end Go.Proofs.YtonkfekjhbfelaaDoor
