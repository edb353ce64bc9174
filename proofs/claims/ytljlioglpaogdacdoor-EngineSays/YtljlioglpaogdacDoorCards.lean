/-
  DERIVED. GIVEN WITH THE SEED: THE CARDS: each row of YtljlioglpaogdacDoorRows.lean that lists a variable, with what it lists TIED to the program's text (the seventh form; the later family's looks); each row that meets fmt, with fmt's text TOLD by the authors' own Lean function (tested against real Go, not proved from fmt's source: count such statements apart). THE CARD IS WHAT COUNTS. Prove the row's statement (the work); the ties are given (YtljlioglpaogdacDoorTie.lean); close each card by the builder's one call (the guide's Derived/Test/ToyasCard.lean, 'card_holds'). Laid BY PROGRAM, IN A SANDBOX (cutbox-door.mjs). By AI agents, Wed Nov 11 2026. No macro, syntax, notation, axiom, sorry.
-/
import Derived.Test.YtljlioglpaogdacDoorRows
import GoSem.ClaimSeven
namespace Go.Proofs.YtljlioglpaogdacDoor
namespace Rows

/-- THE TIED CARD OF 'croftlaw.CircuitReads'. -/
def circuitReadsCard : Claim7 := { stood := { row := circuitReadsRow, standIns := [], harness := (true, "9dd50cae016ad33b5b5d087163f291847a9af080d3a70b7b6225cf8d051358b8"), looks := false }, kinds := [], alts := [], laidByText := true, laidKinds := [.data, .widerDeep, .data, .pinned], laidTests := true, laidLooks := .later }
def CircuitReadsCardSaid : Prop := Claim7.holds Tryd.pinned (.plain (OpenSpec.ofChange circuitReadsSpec)) circuitReadsCard

/-- THE TIED CARD OF 'croftlaw.EngineSays'. -/
def engineSaysCard : Claim7 := { stood := { row := engineSaysRow, standIns := [], harness := (true, "9dd50cae016ad33b5b5d087163f291847a9af080d3a70b7b6225cf8d051358b8"), looks := false }, kinds := [], alts := [], laidByText := true, laidKinds := [.data], laidTests := true, laidLooks := .later }
def EngineSaysCardSaid : Prop := Claim7.holds Tryd.pinned (.plain (OpenSpec.ofChange engineSaysSpec)) engineSaysCard

/-- THE SECOND FORM's CARD OF 'croftlaw.CircuitReads'. -/
def circuitReadsUptoCard : Claim7 := { stood := { row := circuitReadsUptoRow, standIns := [], harness := (true, "9dd50cae016ad33b5b5d087163f291847a9af080d3a70b7b6225cf8d051358b8"), looks := false }, kinds := [], alts := [], laidByText := true, laidKinds := [.data, .widerDeep, .data, .pinned], laidTests := true, laidLooks := .later }
def CircuitReadsUptoCardSaid : Prop := Claim7.holds Tryd.pinned (.plain (OpenSpec.upto circuitReadsSpec)) circuitReadsUptoCard

/-- THE SECOND FORM's CARD OF 'croftlaw.EngineSays'. -/
def engineSaysUptoCard : Claim7 := { stood := { row := engineSaysUptoRow, standIns := [], harness := (true, "9dd50cae016ad33b5b5d087163f291847a9af080d3a70b7b6225cf8d051358b8"), looks := false }, kinds := [], alts := [], laidByText := true, laidKinds := [.data], laidTests := true, laidLooks := .later }
def EngineSaysUptoCardSaid : Prop := Claim7.holds Tryd.pinned (.plain (OpenSpec.upto engineSaysSpec)) engineSaysUptoCard
end Rows
end Go.Proofs.YtljlioglpaogdacDoor
