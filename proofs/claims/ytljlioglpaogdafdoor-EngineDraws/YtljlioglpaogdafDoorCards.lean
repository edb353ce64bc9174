/-
  DERIVED. GIVEN WITH THE SEED: THE CARDS: each row of YtljlioglpaogdafDoorRows.lean that lists a variable, with what it lists TIED to the program's text (the seventh form; the later family's looks); each row that meets fmt, with fmt's text TOLD by the authors' own Lean function (tested against real Go, not proved from fmt's source: count such statements apart). THE CARD IS WHAT COUNTS. Prove the row's statement (the work); the ties are given (YtljlioglpaogdafDoorTie.lean); close each card by the builder's one call (the guide's Derived/Test/ToyasCard.lean, 'card_holds'). Laid BY PROGRAM, IN A SANDBOX (cutbox-door.mjs). By AI agents, Wed Nov 11 2026. No macro, syntax, notation, axiom, sorry.
-/
import Derived.Test.YtljlioglpaogdafDoorRows
import GoSem.ClaimSeven
namespace Go.Proofs.YtljlioglpaogdafDoor
namespace Rows

/-- THE TIED CARD OF 'croftkeep.CircuitBack'. -/
def circuitBackCard : Claim7 := { stood := { row := circuitBackRow, standIns := [], harness := (true, "c06ce72b5347da175dad054b9dd726f1edc15b1e98eee31ab09bfbaaa4634f6e"), looks := false }, kinds := [], alts := [], laidByText := true, laidKinds := [.data, .data, .data, .data, .data, .pinned], laidTests := true, laidLooks := .later }
def CircuitBackCardSaid : Prop := Claim7.holds Tryd.pinned (.plain (OpenSpec.ofChange circuitBackSpec)) circuitBackCard

/-- THE TIED CARD OF 'croftkeep.CircuitSums'. -/
def circuitSumsCard : Claim7 := { stood := { row := circuitSumsRow, standIns := [], harness := (true, "c06ce72b5347da175dad054b9dd726f1edc15b1e98eee31ab09bfbaaa4634f6e"), looks := false }, kinds := [], alts := [], laidByText := true, laidKinds := [.data], laidTests := true, laidLooks := .later }
def CircuitSumsCardSaid : Prop := Claim7.holds Tryd.pinned (.plain (OpenSpec.ofChange circuitSumsSpec)) circuitSumsCard

/-- THE TIED CARD OF 'croftkeep.EngineDraws'. -/
def engineDrawsCard : Claim7 := { stood := { row := engineDrawsRow, standIns := [], harness := (true, "c06ce72b5347da175dad054b9dd726f1edc15b1e98eee31ab09bfbaaa4634f6e"), looks := false }, kinds := [], alts := [], laidByText := true, laidKinds := [.data], laidTests := true, laidLooks := .later }
def EngineDrawsCardSaid : Prop := Claim7.holds Tryd.pinned (.plain (OpenSpec.ofChange engineDrawsSpec)) engineDrawsCard

/-- THE SECOND FORM's CARD OF 'croftkeep.CircuitBack'. -/
def circuitBackUptoCard : Claim7 := { stood := { row := circuitBackUptoRow, standIns := [], harness := (true, "c06ce72b5347da175dad054b9dd726f1edc15b1e98eee31ab09bfbaaa4634f6e"), looks := false }, kinds := [], alts := [], laidByText := true, laidKinds := [.data, .data, .data, .data, .data, .pinned], laidTests := true, laidLooks := .later }
def CircuitBackUptoCardSaid : Prop := Claim7.holds Tryd.pinned (.plain (OpenSpec.upto circuitBackSpec)) circuitBackUptoCard

/-- THE SECOND FORM's CARD OF 'croftkeep.CircuitSums'. -/
def circuitSumsUptoCard : Claim7 := { stood := { row := circuitSumsUptoRow, standIns := [], harness := (true, "c06ce72b5347da175dad054b9dd726f1edc15b1e98eee31ab09bfbaaa4634f6e"), looks := false }, kinds := [], alts := [], laidByText := true, laidKinds := [.data], laidTests := true, laidLooks := .later }
def CircuitSumsUptoCardSaid : Prop := Claim7.holds Tryd.pinned (.plain (OpenSpec.upto circuitSumsSpec)) circuitSumsUptoCard

/-- THE SECOND FORM's CARD OF 'croftkeep.EngineDraws'. -/
def engineDrawsUptoCard : Claim7 := { stood := { row := engineDrawsUptoRow, standIns := [], harness := (true, "c06ce72b5347da175dad054b9dd726f1edc15b1e98eee31ab09bfbaaa4634f6e"), looks := false }, kinds := [], alts := [], laidByText := true, laidKinds := [.data], laidTests := true, laidLooks := .later }
def EngineDrawsUptoCardSaid : Prop := Claim7.holds Tryd.pinned (.plain (OpenSpec.upto engineDrawsSpec)) engineDrawsUptoCard
end Rows
end Go.Proofs.YtljlioglpaogdafDoor
