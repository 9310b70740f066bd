/-
  DERIVED. GIVEN WITH THE SEED: THE CARDS: each row of YtaninlnobmjbmaaDoorRows.lean that lists a variable, with what it lists TIED to the program's text (the seventh form; the later family's looks); each row that meets fmt, with fmt's text TOLD by the authors' own Lean function (tested against real Go, not proved from fmt's source: count such statements apart). THE CARD IS WHAT COUNTS. Prove the row's statement (the work); the ties are given (YtaninlnobmjbmaaDoorTie.lean); close each card by the builder's one call (the guide's Derived/Test/ToyasCard.lean, 'card_holds'). Laid BY PROGRAM, IN A SANDBOX (cutbox-door.mjs). By AI agents, Wed Nov 11 2026. No macro, syntax, notation, axiom, sorry.
-/
import Derived.Test.YtaninlnobmjbmaaDoorRows
import GoSem.ClaimSeven
namespace Go.Proofs.YtaninlnobmjbmaaDoor
namespace Rows

/-- THE TIED CARD OF 'laws.FnExactSetCell'. -/
def fnExactSetCellCard : Claim7 := { stood := { row := fnExactSetCellRow, standIns := [], harness := (true, "777a9b1a943a3772aa85fda6cab94ad8d5d7a7033bfdc2e8b276c4fc55eac6f7"), looks := true }, kinds := [], alts := [], laidByText := true, laidKinds := [.sentinel], laidTests := true, laidLooks := .later }
def FnExactSetCellCardSaid : Prop := Claim7.holds Tryd.pinned (.plain (OpenSpec.ofChange fnExactSetCellSpec)) fnExactSetCellCard

/-- THE TIED CARD OF 'laws.FnExactWorkerText'. -/
def fnExactWorkerTextCard : Claim7 := { stood := { row := fnExactWorkerTextRow, standIns := [], harness := (true, "777a9b1a943a3772aa85fda6cab94ad8d5d7a7033bfdc2e8b276c4fc55eac6f7"), looks := true }, kinds := [], alts := [], laidByText := true, laidKinds := [.data, .data, .data], laidTests := true, laidLooks := .later }
def FnExactWorkerTextCardSaid : Prop := Claim7.holds Tryd.pinned (.plain (OpenSpec.ofChange fnExactWorkerTextSpec)) fnExactWorkerTextCard

/-- THE TIED CARD OF 'laws.FnExactCommitText'. -/
def fnExactCommitTextCard : Claim7 := { stood := { row := fnExactCommitTextRow, standIns := [], harness := (true, "777a9b1a943a3772aa85fda6cab94ad8d5d7a7033bfdc2e8b276c4fc55eac6f7"), looks := true }, kinds := [], alts := [], laidByText := true, laidKinds := [.data, .data, .data], laidTests := true, laidLooks := .later }
def FnExactCommitTextCardSaid : Prop := Claim7.holds Tryd.pinned (.plain (OpenSpec.ofChange fnExactCommitTextSpec)) fnExactCommitTextCard

/-- THE SECOND FORM's CARD OF 'laws.FnExactSetCell'. -/
def fnExactSetCellUptoCard : Claim7 := { stood := { row := fnExactSetCellUptoRow, standIns := [], harness := (true, "777a9b1a943a3772aa85fda6cab94ad8d5d7a7033bfdc2e8b276c4fc55eac6f7"), looks := true }, kinds := [], alts := [], laidByText := true, laidKinds := [.sentinel], laidTests := true, laidLooks := .later }
def FnExactSetCellUptoCardSaid : Prop := Claim7.holds Tryd.pinned (.plain (OpenSpec.upto fnExactSetCellSpec)) fnExactSetCellUptoCard

/-- THE SECOND FORM's CARD OF 'laws.FnExactWorkerText'. -/
def fnExactWorkerTextUptoCard : Claim7 := { stood := { row := fnExactWorkerTextUptoRow, standIns := [], harness := (true, "777a9b1a943a3772aa85fda6cab94ad8d5d7a7033bfdc2e8b276c4fc55eac6f7"), looks := true }, kinds := [], alts := [], laidByText := true, laidKinds := [.data, .data, .data], laidTests := true, laidLooks := .later }
def FnExactWorkerTextUptoCardSaid : Prop := Claim7.holds Tryd.pinned (.plain (OpenSpec.upto fnExactWorkerTextSpec)) fnExactWorkerTextUptoCard

/-- THE SECOND FORM's CARD OF 'laws.FnExactCommitText'. -/
def fnExactCommitTextUptoCard : Claim7 := { stood := { row := fnExactCommitTextUptoRow, standIns := [], harness := (true, "777a9b1a943a3772aa85fda6cab94ad8d5d7a7033bfdc2e8b276c4fc55eac6f7"), looks := true }, kinds := [], alts := [], laidByText := true, laidKinds := [.data, .data, .data], laidTests := true, laidLooks := .later }
def FnExactCommitTextUptoCardSaid : Prop := Claim7.holds Tryd.pinned (.plain (OpenSpec.upto fnExactCommitTextSpec)) fnExactCommitTextUptoCard
end Rows
end Go.Proofs.YtaninlnobmjbmaaDoor
