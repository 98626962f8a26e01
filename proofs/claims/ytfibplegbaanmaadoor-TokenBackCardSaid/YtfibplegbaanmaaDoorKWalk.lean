/- TokenBack: the walk whole. -/
import Derived.Test.YtfibplegbaanmaaDoorKYes
namespace Go.Proofs.YtfibplegbaanmaaDoor
open Go.RowKit
theorem kback_walk (u k : List UInt8) (f t : Int) (a d c : Int) (w : World) (hu : u.length ≤ 9223372036854775807) (hk : k.length ≤ 9223372036854775807) (hf : -9223372036854775808 ≤ f ∧ f ≤ 9223372036854775807) (ht : -9223372036854775808 ≤ t ∧ t ≤ 9223372036854775807)
    (ha : -9223372036854775808 ≤ a ∧ a ≤ 9223372036854775807) (hd : -9223372036854775808 ≤ d ∧ d ≤ 9223372036854775807) (hc : -9223372036854775808 ≤ c ∧ c ≤ 9223372036854775807) (hT : Tab w) :
    Calls Tryd.prog 4 #[tok u f t k, .int .i64 a, .int .i64 d, .int .i64 c] w fun e w' => e = .returned (.bool true) ∧ Below w.heap.size w w' := by
  by_cases h1 : 3000 < u.length
  · exact kback_no u k f t a d c w hu hk hf ht ha hd hc hT (.inl h1)
  by_cases h2 : 3000 < k.length
  · exact kback_no u k f t a d c w hu hk hf ht ha hd hc hT (.inr (.inl h2))
  by_cases h3 : a < 0
  · exact kback_no u k f t a d c w hu hk hf ht ha hd hc hT (.inr (.inr (.inl h3)))
  by_cases h4 : d < 0
  · exact kback_no u k f t a d c w hu hk hf ht ha hd hc hT (.inr (.inr (.inr (.inl h4))))
  by_cases h5 : c < 0
  · exact kback_no u k f t a d c w hu hk hf ht ha hd hc hT (.inr (.inr (.inr (.inr (.inl h5)))))
  cases h6 : mayB u f t k
  · exact kback_no u k f t a d c w hu hk hf ht ha hd hc hT (.inr (.inr (.inr (.inr (.inr h6)))))
  exact kback_yes u k f t a d c w hu hk hf ht ⟨by omega, ha.2⟩ ⟨by omega, hd.2⟩ ⟨by omega, hc.2⟩ hT h1 h2 h6
end Go.Proofs.YtfibplegbaanmaaDoor
