/- hbllaw11.first. -/
import Derived.Test.YtdlacjdddjebgaaVOneVS
namespace Go.Proofs.Ytdlacjdddjebgaa
open Go.RowKit

set_option maxRecDepth 100000 in
set_option maxHeartbeats 2000000 in
theorem v11first_any (w : World) : Calls Try.prog 8 #[] w fun e w' => e = .returned (.bool true) ∧ Below w.heap.size w w' := by
  have CN := Lib.hid (newVS_one w [107])
  have C1 := Lib.hid (fun W s mb (h : StCVS w W s mb (oneVS [107] []) 0 0 0) => putVS_one h (by decide) (by decide) 1 [97] (by decide))
  have C2 := Lib.hid (fun W s mb (h : StCVS w W s mb (oneVS [107] ([] ++ [(1, [97], false)])) (0 + 1) 0 (0 + 1)) => putVS_one h (by decide) (by decide) 5 [98] (by decide))
  have C3 := Lib.hid (fun W s mb (h : StCVS w W s mb (oneVS [107] ([] ++ [(1, [97], false)] ++ [(5, [98], false)])) (0 + 1 + 1) 0 (0 + 1 + 1)) => getVS_one h (by decide) 4 (some [97]) (by decide))
  have C4 := Lib.hid (fun W s mb (h : StCVS w W s mb (oneVS [107] ([] ++ [(1, [97], false)] ++ [(5, [98], false)])) (0 + 1 + 1) 0 (0 + 1 + 1)) => pruneVS_one h (by decide) (by decide) 5 (by decide) (by decide))
  have e1 : (dropNVS ([] ++ [(1, [97], false)] ++ [(5, [98], false)]) 5 : Int) = 1 := by decide
  rw [e1] at C4
  clear e1
  go_enter Try.func8, Try.ntmps8
  go_wp2_with fail
  refine CN.out.mono ?_
  rintro e w1 ⟨s, mb, rfl, h1⟩
  have H1 := Lib.hid h1
  clear h1 CN
  go_wp2_with fail
  refine (C1.out _ _ _ H1.out).mono ?_
  rintro e w2 ⟨rfl, h2⟩
  have H2 := Lib.hid h2
  clear h2 C1 H1
  go_wp2_with fail
  refine (C2.out _ _ _ H2.out).mono ?_
  rintro e w3 ⟨rfl, h3⟩
  have H3 := Lib.hid h3
  clear h3 C2 H2
  go_wp2_with fail
  refine (C3.out _ _ _ H3.out).mono ?_
  rintro e w4 ⟨rfl, h4⟩
  have H4 := Lib.hid h4
  clear h4 C3 H3
  unfold seenEVS
  go_wp2_with fail
  refine (C4.out _ _ _ H4.out).mono ?_
  rintro e w5 ⟨rfl, h5⟩
  have H5 := Lib.hid h5
  clear h5 C4 H4
  go_wp2_with fail
  go_ret
  obtain ⟨_, _, _, _, hb⟩ := H5.out
  exact ⟨rfl, hb⟩
end Go.Proofs.Ytdlacjdddjebgaa
