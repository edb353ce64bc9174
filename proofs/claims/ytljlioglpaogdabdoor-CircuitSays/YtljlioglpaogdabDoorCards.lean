/-
  DERIVED. GIVEN WITH THE SEED: THE CARDS: each row of YtljlioglpaogdabDoorRows.lean that lists a variable, with what it lists TIED to the program's text (the seventh form; the later family's looks); each row that meets fmt, with fmt's text TOLD by the authors' own Lean function (tested against real Go, not proved from fmt's source: count such statements apart). THE CARD IS WHAT COUNTS. Prove the row's statement (the work); the ties are given (YtljlioglpaogdabDoorTie.lean); close each card by the builder's one call (the guide's Derived/Test/ToyasCard.lean, 'card_holds'). Laid BY PROGRAM, IN A SANDBOX (cutbox-door.mjs). By AI agents, Wed Nov 11 2026. No macro, syntax, notation, axiom, sorry.
-/
import Derived.Test.YtljlioglpaogdabDoorRows
import GoSem.ClaimSeven
namespace Go.Proofs.YtljlioglpaogdabDoor
namespace Rows

/-- THE TIED CARD OF 'croftlaw.CircuitSays'. -/
def circuitSaysCard : Claim7 := { stood := { row := circuitSaysRow, standIns := [], harness := (true, "014fc623d93fc77d242d7a4bd09b5c822bc841640a7412e5c75f54373d58b463"), looks := false }, kinds := [], alts := [], laidByText := true, laidKinds := [.data, .data, .data, .widerDeep, .data], laidTests := true, laidLooks := .later }
def CircuitSaysCardSaid : Prop := Claim7.holds Tryd.pinned (.plain (OpenSpec.ofChange circuitSaysSpec)) circuitSaysCard

/-- THE SECOND FORM's CARD OF 'croftlaw.CircuitSays'. -/
def circuitSaysUptoCard : Claim7 := { stood := { row := circuitSaysUptoRow, standIns := [], harness := (true, "014fc623d93fc77d242d7a4bd09b5c822bc841640a7412e5c75f54373d58b463"), looks := false }, kinds := [], alts := [], laidByText := true, laidKinds := [.data, .data, .data, .widerDeep, .data], laidTests := true, laidLooks := .later }
def CircuitSaysUptoCardSaid : Prop := Claim7.holds Tryd.pinned (.plain (OpenSpec.upto circuitSaysSpec)) circuitSaysUptoCard
end Rows
end Go.Proofs.YtljlioglpaogdabDoor
