/-
  No cell of these rows narrows 'for every input' (looked for: loops, veiled, ifaces, maps, wideKeys, modest, calm, conditions, laid).
  DERIVED. THE GIVEN ROWS OF THIS SEAT. 6 by the template 'for every input the law returns true; each argument reads behind the call as it read before'; 0 by the template 'total and deterministic' (their statements: YtdkplhfbcpobaaaTotals.lean).
  GIVEN WITH THE SEED: the statements are not yours to turn. If you find one false, say at which input.
  Laid BY PROGRAM, IN A SANDBOX (cutbox-rows.mjs): the forced cells as the released guide's own fill.sh prints them over the translation 20a6834db6bd9748… (all of the seat's roots in one cut). By AI agents, Wed Nov 11 2026. No macro, syntax, notation, axiom, sorry.
-/
import Derived.Test.YtdkplhfbcpobaaaChecked
import GoSem.Claim
import GoSem.ClaimJoined
import GoSem.ClaimMapViews
import Derived.JoinedTies
import Derived.KernelRfl
namespace Go.Proofs.Ytdkplhfbcpobaaa
/- THE CELL 'sum', in the pinned program and in every row, IS THE sha256 OF THE DUMP (.gsa) THAT YtdkplhfbcpobaaaProg.lean LOADS. Nothing in Lean hashes anything: it is a label: what it is worth is what the hold of that sum in a sandbox is worth. -/
noncomputable def Try.pinned : Pinned := { name := "ytdkplhfbcpobaaa", sum := "20a6834db6bd9748e2aafe729604a1b25beba0d9a25aabb33aa582b5e8ee2daf", checked := Try.checked }
namespace Rows
def none {H : Type} : Left H := { results := [], args := [] }

/-- 'hbllaw2.OmapPlays': WHATEVER THE INPUT: true; the input reads as it did. -/
def omapPlaysSpec : ChangeSpec := { name := "omapPlays", fn := fun _ => fun
  | [d] => { results := [.lit (.bool true)], args := [d] }
  | _ => none }
def omapPlaysRow : OpenClaim := { program := "ytdkplhfbcpobaaa", sum := "20a6834db6bd9748e2aafe729604a1b25beba0d9a25aabb33aa582b5e8ee2daf", func := "handbill/hbllaw2.OmapPlays", spec := "omapPlays", unfollowed := true, recurses := true, apart := false }
def OmapPlaysSaid : Prop := omapPlaysRow.holds Try.pinned (OpenSpec.ofChange omapPlaysSpec)

/-- ITS FALSE NEIGHBOUR: 'it returns false'. Refute it at one input. -/
def omapPlaysWrong : ChangeSpec := { name := "omapPlays", fn := fun _ => fun
  | [d] => { results := [.lit (.bool false)], args := [d] }
  | _ => none }
def OmapPlaysWrongFalsely : Prop := omapPlaysRow.holds Try.pinned (OpenSpec.ofChange omapPlaysWrong)

/-- 'hbllaw2.OmapEarly': WHATEVER THE INPUT: true; the input reads as it did. -/
def omapEarlySpec : ChangeSpec := { name := "omapEarly", fn := fun _ => fun
  | [d1, d2] => { results := [.lit (.bool true)], args := [d1, d2] }
  | _ => none }
def omapEarlyRow : OpenClaim := { program := "ytdkplhfbcpobaaa", sum := "20a6834db6bd9748e2aafe729604a1b25beba0d9a25aabb33aa582b5e8ee2daf", func := "handbill/hbllaw2.OmapEarly", spec := "omapEarly", unfollowed := true, recurses := true, apart := false }
def OmapEarlySaid : Prop := omapEarlyRow.holds Try.pinned (OpenSpec.ofChange omapEarlySpec)

/-- ITS FALSE NEIGHBOUR: 'it returns false'. Refute it at one input. -/
def omapEarlyWrong : ChangeSpec := { name := "omapEarly", fn := fun _ => fun
  | [d1, d2] => { results := [.lit (.bool false)], args := [d1, d2] }
  | _ => none }
def OmapEarlyWrongFalsely : Prop := omapEarlyRow.holds Try.pinned (OpenSpec.ofChange omapEarlyWrong)

/-- 'hbllaw2.OmapMerges': WHATEVER THE INPUT: true; the input reads as it did. -/
def omapMergesSpec : ChangeSpec := { name := "omapMerges", fn := fun _ => fun
  | [d1, d2, d3] => { results := [.lit (.bool true)], args := [d1, d2, d3] }
  | _ => none }
def omapMergesRow : OpenClaim := { program := "ytdkplhfbcpobaaa", sum := "20a6834db6bd9748e2aafe729604a1b25beba0d9a25aabb33aa582b5e8ee2daf", func := "handbill/hbllaw2.OmapMerges", spec := "omapMerges", unfollowed := true, recurses := true, apart := false }
def OmapMergesSaid : Prop := omapMergesRow.holds Try.pinned (OpenSpec.ofChange omapMergesSpec)

/-- ITS FALSE NEIGHBOUR: 'it returns false'. Refute it at one input. -/
def omapMergesWrong : ChangeSpec := { name := "omapMerges", fn := fun _ => fun
  | [d1, d2, d3] => { results := [.lit (.bool false)], args := [d1, d2, d3] }
  | _ => none }
def OmapMergesWrongFalsely : Prop := omapMergesRow.holds Try.pinned (OpenSpec.ofChange omapMergesWrong)

/-- 'hbllaw2.OmapTexts': WHATEVER THE INPUT: true; the input reads as it did. -/
def omapTextsSpec : ChangeSpec := { name := "omapTexts", fn := fun _ => fun
  | [d] => { results := [.lit (.bool true)], args := [d] }
  | _ => none }
def omapTextsRow : OpenClaim := { program := "ytdkplhfbcpobaaa", sum := "20a6834db6bd9748e2aafe729604a1b25beba0d9a25aabb33aa582b5e8ee2daf", func := "handbill/hbllaw2.OmapTexts", spec := "omapTexts", unfollowed := true, recurses := true, apart := false }
def OmapTextsSaid : Prop := omapTextsRow.holds Try.pinned (OpenSpec.ofChange omapTextsSpec)

/-- ITS FALSE NEIGHBOUR: 'it returns false'. Refute it at one input. -/
def omapTextsWrong : ChangeSpec := { name := "omapTexts", fn := fun _ => fun
  | [d] => { results := [.lit (.bool false)], args := [d] }
  | _ => none }
def OmapTextsWrongFalsely : Prop := omapTextsRow.holds Try.pinned (OpenSpec.ofChange omapTextsWrong)

/-- 'hbllaw2.OmapTakes': WHATEVER THE INPUT: true; the input reads as it did. -/
def omapTakesSpec : ChangeSpec := { name := "omapTakes", fn := fun _ => fun
  | [d1, d2, d3, d4] => { results := [.lit (.bool true)], args := [d1, d2, d3, d4] }
  | _ => none }
def omapTakesRow : OpenClaim := { program := "ytdkplhfbcpobaaa", sum := "20a6834db6bd9748e2aafe729604a1b25beba0d9a25aabb33aa582b5e8ee2daf", func := "handbill/hbllaw2.OmapTakes", spec := "omapTakes", unfollowed := true, recurses := true, apart := false }
def OmapTakesSaid : Prop := omapTakesRow.holds Try.pinned (OpenSpec.ofChange omapTakesSpec)

/-- ITS FALSE NEIGHBOUR: 'it returns false'. Refute it at one input. -/
def omapTakesWrong : ChangeSpec := { name := "omapTakes", fn := fun _ => fun
  | [d1, d2, d3, d4] => { results := [.lit (.bool false)], args := [d1, d2, d3, d4] }
  | _ => none }
def OmapTakesWrongFalsely : Prop := omapTakesRow.holds Try.pinned (OpenSpec.ofChange omapTakesWrong)

/-- 'hbllaw2.OmapKinds': WHATEVER THE INPUT: true; the input reads as it did. -/
def omapKindsSpec : ChangeSpec := { name := "omapKinds", fn := fun _ => fun
  | [d1, d2] => { results := [.lit (.bool true)], args := [d1, d2] }
  | _ => none }
def omapKindsRow : OpenClaim := { program := "ytdkplhfbcpobaaa", sum := "20a6834db6bd9748e2aafe729604a1b25beba0d9a25aabb33aa582b5e8ee2daf", func := "handbill/hbllaw2.OmapKinds", spec := "omapKinds", unfollowed := true, recurses := true, apart := false }
def OmapKindsSaid : Prop := omapKindsRow.holds Try.pinned (OpenSpec.ofChange omapKindsSpec)

/-- ITS FALSE NEIGHBOUR: 'it returns false'. Refute it at one input. -/
def omapKindsWrong : ChangeSpec := { name := "omapKinds", fn := fun _ => fun
  | [d1, d2] => { results := [.lit (.bool false)], args := [d1, d2] }
  | _ => none }
def OmapKindsWrongFalsely : Prop := omapKindsRow.holds Try.pinned (OpenSpec.ofChange omapKindsWrong)

/- THE SECOND FORM. 'bulk': how many values and letters a reading holds, each counted each time it is reached (what is shared counts as often as it is met; a slice's spare places count too). A statement '..UptoSaid' is the law's where the arguments, and the package variables that the reading takes, are together of bulk at most 1048576: NARROWER than '..Said'. Prove '..Said' where nothing that the law and all that it calls make is longer than what came in: it says more and counts as full. Else prove '..UptoSaid'. A law counts once. -/
mutual
def uptoBulk {H : Type} : DataW H → Nat
  | .lit (.string bytes) => bytes.length + 1
  | .lit _ => 1
  | .nil => 1
  | .ptr d => uptoBulk d + 1
  | .slice elems spare => uptoBulkAll elems + uptoBulkAll spare + 1
  | .agg parts => uptoBulkAll parts + 1
  | .iface _ d => uptoBulk d + 1
  | .map entries => uptoBulkEntries entries + 1
  | .held _ => 1
def uptoBulkAll {H : Type} : List (DataW H) → Nat
  | [] => 0
  | d :: r => uptoBulk d + uptoBulkAll r
def uptoBulkEntries {H : Type} : List (Lit × DataW H) → Nat
  | [] => 0
  | x :: r => uptoBulkEntry x + uptoBulkEntries r
def uptoBulkEntry {H : Type} : Lit × DataW H → Nat
  | (.string bytes, d) => bytes.length + uptoBulk d + 1
  | (_, d) => uptoBulk d + 1
 end
def uptoSmall : (H : Type) → List (DataW H) → Bool := fun _ ds => decide (uptoBulkAll ds ≤ 1048576)
def OpenSpec.upto (s : _root_.Go.ChangeSpec) : _root_.Go.OpenSpec := { _root_.Go.OpenSpec.ofChange s with cond := some uptoSmall }

/-- 'hbllaw2.OmapPlays', WHERE WHAT IT READS IS OF BULK AT MOST 1048576: true; the input reads as it did. -/
def omapPlaysUptoRow : OpenClaim := { program := "ytdkplhfbcpobaaa", sum := "20a6834db6bd9748e2aafe729604a1b25beba0d9a25aabb33aa582b5e8ee2daf", func := "handbill/hbllaw2.OmapPlays", spec := "omapPlays", unfollowed := true, recurses := true, apart := false, narrowed := true }
def OmapPlaysUptoSaid : Prop := omapPlaysUptoRow.holds Try.pinned (OpenSpec.upto omapPlaysSpec)

/-- 'hbllaw2.OmapEarly', WHERE WHAT IT READS IS OF BULK AT MOST 1048576: true; the input reads as it did. -/
def omapEarlyUptoRow : OpenClaim := { program := "ytdkplhfbcpobaaa", sum := "20a6834db6bd9748e2aafe729604a1b25beba0d9a25aabb33aa582b5e8ee2daf", func := "handbill/hbllaw2.OmapEarly", spec := "omapEarly", unfollowed := true, recurses := true, apart := false, narrowed := true }
def OmapEarlyUptoSaid : Prop := omapEarlyUptoRow.holds Try.pinned (OpenSpec.upto omapEarlySpec)

/-- 'hbllaw2.OmapMerges', WHERE WHAT IT READS IS OF BULK AT MOST 1048576: true; the input reads as it did. -/
def omapMergesUptoRow : OpenClaim := { program := "ytdkplhfbcpobaaa", sum := "20a6834db6bd9748e2aafe729604a1b25beba0d9a25aabb33aa582b5e8ee2daf", func := "handbill/hbllaw2.OmapMerges", spec := "omapMerges", unfollowed := true, recurses := true, apart := false, narrowed := true }
def OmapMergesUptoSaid : Prop := omapMergesUptoRow.holds Try.pinned (OpenSpec.upto omapMergesSpec)

/-- 'hbllaw2.OmapTexts', WHERE WHAT IT READS IS OF BULK AT MOST 1048576: true; the input reads as it did. -/
def omapTextsUptoRow : OpenClaim := { program := "ytdkplhfbcpobaaa", sum := "20a6834db6bd9748e2aafe729604a1b25beba0d9a25aabb33aa582b5e8ee2daf", func := "handbill/hbllaw2.OmapTexts", spec := "omapTexts", unfollowed := true, recurses := true, apart := false, narrowed := true }
def OmapTextsUptoSaid : Prop := omapTextsUptoRow.holds Try.pinned (OpenSpec.upto omapTextsSpec)

/-- 'hbllaw2.OmapTakes', WHERE WHAT IT READS IS OF BULK AT MOST 1048576: true; the input reads as it did. -/
def omapTakesUptoRow : OpenClaim := { program := "ytdkplhfbcpobaaa", sum := "20a6834db6bd9748e2aafe729604a1b25beba0d9a25aabb33aa582b5e8ee2daf", func := "handbill/hbllaw2.OmapTakes", spec := "omapTakes", unfollowed := true, recurses := true, apart := false, narrowed := true }
def OmapTakesUptoSaid : Prop := omapTakesUptoRow.holds Try.pinned (OpenSpec.upto omapTakesSpec)

/-- 'hbllaw2.OmapKinds', WHERE WHAT IT READS IS OF BULK AT MOST 1048576: true; the input reads as it did. -/
def omapKindsUptoRow : OpenClaim := { program := "ytdkplhfbcpobaaa", sum := "20a6834db6bd9748e2aafe729604a1b25beba0d9a25aabb33aa582b5e8ee2daf", func := "handbill/hbllaw2.OmapKinds", spec := "omapKinds", unfollowed := true, recurses := true, apart := false, narrowed := true }
def OmapKindsUptoSaid : Prop := omapKindsUptoRow.holds Try.pinned (OpenSpec.upto omapKindsSpec)

end Rows
end Go.Proofs.Ytdkplhfbcpobaaa
