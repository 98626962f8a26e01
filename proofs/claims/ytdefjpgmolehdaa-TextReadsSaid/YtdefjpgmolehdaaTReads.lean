/- TextReads: the walk. -/
import Derived.Test.YtdefjpgmolehdaaRUnq
import Derived.Deep.QuietTactic
import Derived.BigQuiet
namespace Go.Proofs.Ytdefjpgmolehdaa
open Go.RowKit

set_option maxRecDepth 100000 in
set_option maxHeartbeats 6400000 in
theorem treads_walk (a0 a1 : ByteArray) (at_ c : Int) (w : World) (h0 : a0.size ≤ maxLen) (h1 : a1.size ≤ maxLen) (_hat : -9223372036854775808 ≤ at_ ∧ at_ ≤ 9223372036854775807) (hc : -9223372036854775808 ≤ c ∧ c ≤ 9223372036854775807) :
    Calls Try.prog 3 #[.string a0, .string a1, .int .i64 at_, .int .i64 c] w fun e w' => e = .returned (.bool true) ∧ Below w.heap.size w w' := by
  obtain ⟨s, rfl⟩ := str_of a0
  obtain ⟨b, rfl⟩ := str_of a1
  obtain ⟨hc1, hc2⟩ := hc
  have hls : s.length ≤ 9223372036854775807 := by unfold maxLen at h0; simp [ByteArray.size] at h0; omega
  have hlb : b.length ≤ 9223372036854775807 := by unfold maxLen at h1; simp [ByteArray.size] at h1; omega
  clear h0 h1
  by_cases hbig : 4000 < s.length ∨ 4000 < b.length
  · have key : ((4000 : Int) < (s.length : Int)) ∨ (¬ (4000 : Int) < (s.length : Int) ∧ (4000 : Int) < (b.length : Int)) := by omega
    clear hbig
    rcases key with k1 | ⟨k1, k2⟩
    all_goals
      go_enter Try.func3, Try.ntmps3
      go_wp2_with fail
      refine (tfirst_any _).mono ?_
      rintro e w1 ⟨rfl, hb1⟩
      go_wp2_with fail
      refine (tfirst_any _).mono ?_
      rintro e w2 ⟨rfl, hb2⟩
      go_wp2_with fail
      go_ret
      exact ⟨rfl, hb1.trans (hb2.mono hb1.size)⟩
  have k1 : ¬ (4000 : Int) < (s.length : Int) := by omega
  have k2 : ¬ (4000 : Int) < (b.length : Int) := by omega
  clear hbig
  obtain ⟨q, e, hq, -, -⟩ := quoteX s
  obtain ⟨u, n, g, hu⟩ : ∃ u n g, unqR b at_ = (u, n, g) := ⟨_, _, _, rfl⟩
  obtain ⟨x, ok, hx⟩ : ∃ x ok, signR c = (x, ok) := ⟨_, _, rfl⟩
  obtain ⟨k, hk⟩ : ∃ k, cntI (cnt s) = k := ⟨_, rfl⟩
  have HQ := Lib.hid hq
  have HU := Lib.hid hu
  have HX := Lib.hid hx
  have HK := Lib.hid (show cntE s = .returned (.int .i64 k) by rw [cntE, hk])
  clear hq hu hx hk
  go_enter Try.func3, Try.ntmps3
  go_wp2_with fail
  refine (tfirst_any _).mono ?_
  rintro e w1 ⟨rfl, hb1⟩
  go_wp2_with fail
  refine (quote_any s _ (by omega)).mono ?_
  rintro e w2 ⟨rfl, hb2⟩
  rw [HQ.out]
  go_wp2_with fail
  refine (refQuote_any s _ (by omega)).mono ?_
  rintro e w3 ⟨rfl, hb3⟩
  rw [HQ.out]
  go_wp2_with fail
  refine (unquote_any b at_ _ (by omega)).mono ?_
  rintro e w4 ⟨rfl, hb4⟩
  rw [HU.out, unqE]
  go_wp2_with fail
  refine (refUnquote_any b at_ _ (by omega)).mono ?_
  rintro e w5 ⟨rfl, hb5⟩
  rw [HU.out, unqE]
  go_wp2_with fail
  refine (tsign_any c _ hc1 hc2).mono ?_
  rintro e w6 ⟨rfl, hb6⟩
  rw [HX.out, signE]
  go_wp2_with fail
  refine (refText_any c _ hc1 hc2).mono ?_
  rintro e w7 ⟨rfl, hb7⟩
  rw [HX.out, signE]
  have s1 := hb1.size
  have B2 := hb1.trans (hb2.mono s1)
  have B3 := B2.trans (hb3.mono B2.size)
  have B4 := B3.trans (hb4.mono B3.size)
  have B5 := B4.trans (hb5.mono B4.size)
  have B6 := B5.trans (hb6.mono B5.size)
  have B7 := B6.trans (hb7.mono B6.size)
  clear hb1 hb2 hb3 hb4 hb5 hb6 hb7 B2 B3 B4 B5 B6 s1
  go_wp2_with fail
  refine (tfirst_any _).mono ?_
  rintro e w8 ⟨rfl, hb8⟩
  go_wp2_with fail
  refine (valid_any s _ (by omega)).mono ?_
  rintro e w9 ⟨rfl, rfl⟩
  go_wp2_with fail
  refine (refValid_any s _ (by omega)).mono ?_
  rintro e w9 ⟨rfl, rfl⟩
  go_wp2_with fail
  refine (count_any s _ (by omega)).mono ?_
  rintro e w9 ⟨rfl, rfl⟩
  rw [HK.out]
  go_wp2_with fail
  refine (refCount_any s _ (by omega)).mono ?_
  rintro e w9 ⟨rfl, rfl⟩
  rw [HK.out]
  go_wp2_with fail
  go_ret
  exact ⟨rfl, B7.trans (hb8.mono B7.size)⟩
end Go.Proofs.Ytdefjpgmolehdaa
