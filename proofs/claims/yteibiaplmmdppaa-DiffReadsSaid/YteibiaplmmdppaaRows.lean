/-
  No cell of these rows narrows 'for every input' (looked for: loops, veiled, ifaces, maps, wideKeys, modest, calm, conditions, laid).
  DERIVED. THE GIVEN ROWS OF THIS SEAT. 5 by the template 'for every input the law returns true; each argument reads behind the call as it read before'; 0 by the template 'total and deterministic' (their statements: YteibiaplmmdppaaTotals.lean).
  GIVEN WITH THE SEED: the statements are not yours to turn. If you find one false, say at which input.
  Laid BY PROGRAM, IN A SANDBOX (cutbox-rows.mjs): the forced cells as the released guide's own fill.sh prints them over the translation d37d7ae92ef9c61b… (all of the seat's roots in one cut). By AI agents, Wed Nov 11 2026. No macro, syntax, notation, axiom, sorry.
-/
import Derived.Test.YteibiaplmmdppaaChecked
import GoSem.Claim
import GoSem.ClaimJoined
import GoSem.ClaimMapViews
import Derived.JoinedTies
import Derived.KernelRfl
namespace Go.Proofs.Yteibiaplmmdppaa
/- THE CELL 'sum', in the pinned program and in every row, IS THE sha256 OF THE DUMP (.gsa) THAT YteibiaplmmdppaaProg.lean LOADS. Nothing in Lean hashes anything: it is a label: what it is worth is what the hold of that sum in a sandbox is worth. -/
noncomputable def Try.pinned : Pinned := { name := "yteibiaplmmdppaa", sum := "d37d7ae92ef9c61b2f8639fce7aa005a594d7d5780006972b26086a07a991984", checked := Try.checked }
namespace Rows
def none {H : Type} : Left H := { results := [], args := [] }

/-- 'hbllaw21.DiffReads': WHATEVER THE INPUT: true; the input reads as it did. -/
def diffReadsSpec : ChangeSpec := { name := "diffReads", fn := fun _ => fun
  | [d1, d2, d3, d4, d5] => { results := [.lit (.bool true)], args := [d1, d2, d3, d4, d5] }
  | _ => none }
def diffReadsRow : OpenClaim := { program := "yteibiaplmmdppaa", sum := "d37d7ae92ef9c61b2f8639fce7aa005a594d7d5780006972b26086a07a991984", func := "handbill/hbllaw21.DiffReads", spec := "diffReads", unfollowed := true, recurses := true, apart := false }
def DiffReadsSaid : Prop := diffReadsRow.holds Try.pinned (OpenSpec.ofChange diffReadsSpec)

/-- ITS FALSE NEIGHBOUR: 'it returns false'. Refute it at one input. -/
def diffReadsWrong : ChangeSpec := { name := "diffReads", fn := fun _ => fun
  | [d1, d2, d3, d4, d5] => { results := [.lit (.bool false)], args := [d1, d2, d3, d4, d5] }
  | _ => none }
def DiffReadsWrongFalsely : Prop := diffReadsRow.holds Try.pinned (OpenSpec.ofChange diffReadsWrong)

/-- 'hbllaw21.DiffBack': WHATEVER THE INPUT: true; the input reads as it did. -/
def diffBackSpec : ChangeSpec := { name := "diffBack", fn := fun _ => fun
  | [d1, d2, d3] => { results := [.lit (.bool true)], args := [d1, d2, d3] }
  | _ => none }
def diffBackRow : OpenClaim := { program := "yteibiaplmmdppaa", sum := "d37d7ae92ef9c61b2f8639fce7aa005a594d7d5780006972b26086a07a991984", func := "handbill/hbllaw21.DiffBack", spec := "diffBack", unfollowed := true, recurses := true, apart := false }
def DiffBackSaid : Prop := diffBackRow.holds Try.pinned (OpenSpec.ofChange diffBackSpec)

/-- ITS FALSE NEIGHBOUR: 'it returns false'. Refute it at one input. -/
def diffBackWrong : ChangeSpec := { name := "diffBack", fn := fun _ => fun
  | [d1, d2, d3] => { results := [.lit (.bool false)], args := [d1, d2, d3] }
  | _ => none }
def DiffBackWrongFalsely : Prop := diffBackRow.holds Try.pinned (OpenSpec.ofChange diffBackWrong)

/-- 'hbllaw21.DiffNumbers': WHATEVER THE INPUT: true; the input reads as it did. -/
def diffNumbersSpec : ChangeSpec := { name := "diffNumbers", fn := fun _ => fun
  | [d1, d2] => { results := [.lit (.bool true)], args := [d1, d2] }
  | _ => none }
def diffNumbersRow : OpenClaim := { program := "yteibiaplmmdppaa", sum := "d37d7ae92ef9c61b2f8639fce7aa005a594d7d5780006972b26086a07a991984", func := "handbill/hbllaw21.DiffNumbers", spec := "diffNumbers", unfollowed := true, recurses := true, apart := false }
def DiffNumbersSaid : Prop := diffNumbersRow.holds Try.pinned (OpenSpec.ofChange diffNumbersSpec)

/-- ITS FALSE NEIGHBOUR: 'it returns false'. Refute it at one input. -/
def diffNumbersWrong : ChangeSpec := { name := "diffNumbers", fn := fun _ => fun
  | [d1, d2] => { results := [.lit (.bool false)], args := [d1, d2] }
  | _ => none }
def DiffNumbersWrongFalsely : Prop := diffNumbersRow.holds Try.pinned (OpenSpec.ofChange diffNumbersWrong)

/-- 'hbllaw21.DiffSteps': WHATEVER THE INPUT: true; the input reads as it did. -/
def diffStepsSpec : ChangeSpec := { name := "diffSteps", fn := fun _ => fun
  | [d1, d2, d3] => { results := [.lit (.bool true)], args := [d1, d2, d3] }
  | _ => none }
def diffStepsRow : OpenClaim := { program := "yteibiaplmmdppaa", sum := "d37d7ae92ef9c61b2f8639fce7aa005a594d7d5780006972b26086a07a991984", func := "handbill/hbllaw21.DiffSteps", spec := "diffSteps", unfollowed := true, recurses := true, apart := false }
def DiffStepsSaid : Prop := diffStepsRow.holds Try.pinned (OpenSpec.ofChange diffStepsSpec)

/-- ITS FALSE NEIGHBOUR: 'it returns false'. Refute it at one input. -/
def diffStepsWrong : ChangeSpec := { name := "diffSteps", fn := fun _ => fun
  | [d1, d2, d3] => { results := [.lit (.bool false)], args := [d1, d2, d3] }
  | _ => none }
def DiffStepsWrongFalsely : Prop := diffStepsRow.holds Try.pinned (OpenSpec.ofChange diffStepsWrong)

/-- 'hbllaw21.DiffTakes': WHATEVER THE INPUT: true; the input reads as it did. -/
def diffTakesSpec : ChangeSpec := { name := "diffTakes", fn := fun _ => fun
  | [d1, d2, d3] => { results := [.lit (.bool true)], args := [d1, d2, d3] }
  | _ => none }
def diffTakesRow : OpenClaim := { program := "yteibiaplmmdppaa", sum := "d37d7ae92ef9c61b2f8639fce7aa005a594d7d5780006972b26086a07a991984", func := "handbill/hbllaw21.DiffTakes", spec := "diffTakes", unfollowed := true, recurses := true, apart := false }
def DiffTakesSaid : Prop := diffTakesRow.holds Try.pinned (OpenSpec.ofChange diffTakesSpec)

/-- ITS FALSE NEIGHBOUR: 'it returns false'. Refute it at one input. -/
def diffTakesWrong : ChangeSpec := { name := "diffTakes", fn := fun _ => fun
  | [d1, d2, d3] => { results := [.lit (.bool false)], args := [d1, d2, d3] }
  | _ => none }
def DiffTakesWrongFalsely : Prop := diffTakesRow.holds Try.pinned (OpenSpec.ofChange diffTakesWrong)

/- THE SECOND FORM. 'bulk': how many values and letters a reading holds, each counted each time it is reached (what is shared counts as often as it is met; a slice's spare places count too). A statement '..UptoSaid' is the law's where the arguments, and the package variables that the reading takes, are together of bulk at most 1048576: NARROWER than '..Said'. Prove '..Said' where nothing that the law and all that it calls make is longer than what came in: it says more and counts as full. Else prove '..UptoSaid'. A law counts once. -/
mutual
def uptoBulk {H : Type} : DataW H → Nat
  | .lit (.string bytes) => bytes.length + 1
  | .lit _ => 1
  | .nil => 1
  | .ptr d => uptoBulk d + 1
  | .slice elems spare => uptoBulkAll elems + uptoBulkAll spare + 1
  | .agg parts => uptoBulkAll parts + 1
  | .iface _ d => uptoBulk d + 1
  | .map entries => uptoBulkEntries entries + 1
  | .held _ => 1
def uptoBulkAll {H : Type} : List (DataW H) → Nat
  | [] => 0
  | d :: r => uptoBulk d + uptoBulkAll r
def uptoBulkEntries {H : Type} : List (Lit × DataW H) → Nat
  | [] => 0
  | x :: r => uptoBulkEntry x + uptoBulkEntries r
def uptoBulkEntry {H : Type} : Lit × DataW H → Nat
  | (.string bytes, d) => bytes.length + uptoBulk d + 1
  | (_, d) => uptoBulk d + 1
 end
def uptoSmall : (H : Type) → List (DataW H) → Bool := fun _ ds => decide (uptoBulkAll ds ≤ 1048576)
def OpenSpec.upto (s : _root_.Go.ChangeSpec) : _root_.Go.OpenSpec := { _root_.Go.OpenSpec.ofChange s with cond := some uptoSmall }

/-- 'hbllaw21.DiffReads', WHERE WHAT IT READS IS OF BULK AT MOST 1048576: true; the input reads as it did. -/
def diffReadsUptoRow : OpenClaim := { program := "yteibiaplmmdppaa", sum := "d37d7ae92ef9c61b2f8639fce7aa005a594d7d5780006972b26086a07a991984", func := "handbill/hbllaw21.DiffReads", spec := "diffReads", unfollowed := true, recurses := true, apart := false, narrowed := true }
def DiffReadsUptoSaid : Prop := diffReadsUptoRow.holds Try.pinned (OpenSpec.upto diffReadsSpec)

/-- 'hbllaw21.DiffBack', WHERE WHAT IT READS IS OF BULK AT MOST 1048576: true; the input reads as it did. -/
def diffBackUptoRow : OpenClaim := { program := "yteibiaplmmdppaa", sum := "d37d7ae92ef9c61b2f8639fce7aa005a594d7d5780006972b26086a07a991984", func := "handbill/hbllaw21.DiffBack", spec := "diffBack", unfollowed := true, recurses := true, apart := false, narrowed := true }
def DiffBackUptoSaid : Prop := diffBackUptoRow.holds Try.pinned (OpenSpec.upto diffBackSpec)

/-- 'hbllaw21.DiffNumbers', WHERE WHAT IT READS IS OF BULK AT MOST 1048576: true; the input reads as it did. -/
def diffNumbersUptoRow : OpenClaim := { program := "yteibiaplmmdppaa", sum := "d37d7ae92ef9c61b2f8639fce7aa005a594d7d5780006972b26086a07a991984", func := "handbill/hbllaw21.DiffNumbers", spec := "diffNumbers", unfollowed := true, recurses := true, apart := false, narrowed := true }
def DiffNumbersUptoSaid : Prop := diffNumbersUptoRow.holds Try.pinned (OpenSpec.upto diffNumbersSpec)

/-- 'hbllaw21.DiffSteps', WHERE WHAT IT READS IS OF BULK AT MOST 1048576: true; the input reads as it did. -/
def diffStepsUptoRow : OpenClaim := { program := "yteibiaplmmdppaa", sum := "d37d7ae92ef9c61b2f8639fce7aa005a594d7d5780006972b26086a07a991984", func := "handbill/hbllaw21.DiffSteps", spec := "diffSteps", unfollowed := true, recurses := true, apart := false, narrowed := true }
def DiffStepsUptoSaid : Prop := diffStepsUptoRow.holds Try.pinned (OpenSpec.upto diffStepsSpec)

/-- 'hbllaw21.DiffTakes', WHERE WHAT IT READS IS OF BULK AT MOST 1048576: true; the input reads as it did. -/
def diffTakesUptoRow : OpenClaim := { program := "yteibiaplmmdppaa", sum := "d37d7ae92ef9c61b2f8639fce7aa005a594d7d5780006972b26086a07a991984", func := "handbill/hbllaw21.DiffTakes", spec := "diffTakes", unfollowed := true, recurses := true, apart := false, narrowed := true }
def DiffTakesUptoSaid : Prop := diffTakesUptoRow.holds Try.pinned (OpenSpec.upto diffTakesSpec)

end Rows
end Go.Proofs.Yteibiaplmmdppaa
