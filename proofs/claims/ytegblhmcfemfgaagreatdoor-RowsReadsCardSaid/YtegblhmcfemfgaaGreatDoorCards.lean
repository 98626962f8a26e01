/-
  DERIVED. GIVEN WITH THE SEED: THE CARDS: each row of YtegblhmcfemfgaaGreatDoorRows.lean that lists a variable, with what it lists TIED to the program's text (the seventh form; the later family's looks); each row that meets fmt, with fmt's text TOLD by the authors' own Lean function (tested against real Go, not proved from fmt's source: count such statements apart). THE CARD IS WHAT COUNTS. Prove the row's statement (the work); the ties are given (YtegblhmcfemfgaaGreatDoorTie.lean); close each card by the builder's one call (the guide's Derived/Test/ToyasCard.lean, 'card_holds'). Laid BY PROGRAM, IN A SANDBOX (cutbox-door.mjs). By AI agents, Wed Nov 11 2026. No macro, syntax, notation, axiom, sorry.
-/
import Derived.Test.YtegblhmcfemfgaaGreatDoorRows
import GoSem.ClaimSeven
namespace Go.Proofs.YtegblhmcfemfgaaGreatDoor
namespace Rows

/-- THE TIED CARD OF 'hbllaw15.RowsBack'. -/
def rowsBackCard : Claim7 := { stood := { row := rowsBackRow, standIns := [], harness := (true, "f5ffb09f4cc6656f9596808a8a54d850c7862863a96935184fddc044bdb54cb5"), looks := false }, kinds := [], alts := [], laidByText := true, laidKinds := [.data, .data, .data], laidTests := true, laidLooks := .later }
def RowsBackCardSaid : Prop := Claim7.holds Tryz.pinned (.plain (OpenSpec.ofChange rowsBackSpec)) rowsBackCard

/-- THE TIED CARD OF 'hbllaw15.RowsTwo'. -/
def rowsTwoCard : Claim7 := { stood := { row := rowsTwoRow, standIns := [], harness := (true, "f5ffb09f4cc6656f9596808a8a54d850c7862863a96935184fddc044bdb54cb5"), looks := false }, kinds := [], alts := [], laidByText := true, laidKinds := [.data, .data, .data], laidTests := true, laidLooks := .later }
def RowsTwoCardSaid : Prop := Claim7.holds Tryz.pinned (.plain (OpenSpec.ofChange rowsTwoSpec)) rowsTwoCard

/-- THE TIED CARD OF 'hbllaw15.RowsReads'. -/
def rowsReadsCard : Claim7 := { stood := { row := rowsReadsRow, standIns := [], harness := (true, "f5ffb09f4cc6656f9596808a8a54d850c7862863a96935184fddc044bdb54cb5"), looks := false }, kinds := [], alts := [], laidByText := true, laidKinds := [.data, .data, .data], laidTests := true, laidLooks := .later }
def RowsReadsCardSaid : Prop := Claim7.holds Tryz.pinned (.plain (OpenSpec.ofChange rowsReadsSpec)) rowsReadsCard

/-- THE SECOND FORM's CARD OF 'hbllaw15.RowsBack'. -/
def rowsBackUptoCard : Claim7 := { stood := { row := rowsBackUptoRow, standIns := [], harness := (true, "f5ffb09f4cc6656f9596808a8a54d850c7862863a96935184fddc044bdb54cb5"), looks := false }, kinds := [], alts := [], laidByText := true, laidKinds := [.data, .data, .data], laidTests := true, laidLooks := .later }
def RowsBackUptoCardSaid : Prop := Claim7.holds Tryz.pinned (.plain (OpenSpec.upto rowsBackSpec)) rowsBackUptoCard

/-- THE SECOND FORM's CARD OF 'hbllaw15.RowsTwo'. -/
def rowsTwoUptoCard : Claim7 := { stood := { row := rowsTwoUptoRow, standIns := [], harness := (true, "f5ffb09f4cc6656f9596808a8a54d850c7862863a96935184fddc044bdb54cb5"), looks := false }, kinds := [], alts := [], laidByText := true, laidKinds := [.data, .data, .data], laidTests := true, laidLooks := .later }
def RowsTwoUptoCardSaid : Prop := Claim7.holds Tryz.pinned (.plain (OpenSpec.upto rowsTwoSpec)) rowsTwoUptoCard

/-- THE SECOND FORM's CARD OF 'hbllaw15.RowsReads'. -/
def rowsReadsUptoCard : Claim7 := { stood := { row := rowsReadsUptoRow, standIns := [], harness := (true, "f5ffb09f4cc6656f9596808a8a54d850c7862863a96935184fddc044bdb54cb5"), looks := false }, kinds := [], alts := [], laidByText := true, laidKinds := [.data, .data, .data], laidTests := true, laidLooks := .later }
def RowsReadsUptoCardSaid : Prop := Claim7.holds Tryz.pinned (.plain (OpenSpec.upto rowsReadsSpec)) rowsReadsUptoCard
end Rows
end Go.Proofs.YtegblhmcfemfgaaGreatDoor
