/-
  DERIVED. GIVEN WITH THE SEED: THE CARDS: each row of YtmpnaobjgknfkacDoorRows.lean that lists a variable, with what it lists TIED to the program's text (the seventh form; the later family's looks); each row that meets fmt, with fmt's text TOLD by the authors' own Lean function (tested against real Go, not proved from fmt's source: count such statements apart). THE CARD IS WHAT COUNTS. Prove the row's statement (the work); the ties are given (YtmpnaobjgknfkacDoorTie.lean); close each card by the builder's one call (the guide's Derived/Test/ToyasCard.lean, 'card_holds'). Laid BY PROGRAM, IN A SANDBOX (cutbox-door.mjs). By AI agents, Wed Nov 11 2026. No macro, syntax, notation, axiom, sorry.
-/
import Derived.Test.YtmpnaobjgknfkacDoorRows
import GoSem.ClaimSeven
namespace Go.Proofs.YtmpnaobjgknfkacDoor
namespace Rows

/-- THE TIED CARD OF 'croftlaw.CircuitReads'. -/
def circuitReadsCard : Claim7 := { stood := { row := circuitReadsRow, standIns := [], harness := (true, "e91245256726efcc0a9b093a84dcbf840801024ef90f65bbc598116d4a7039d7"), looks := false }, kinds := [], alts := [], laidByText := true, laidKinds := [.data, .widerDeep, .data, .pinned], laidTests := true, laidLooks := .later }
def CircuitReadsCardSaid : Prop := Claim7.holds Tryd.pinned (.plain (OpenSpec.ofChange circuitReadsSpec)) circuitReadsCard

/-- THE SECOND FORM's CARD OF 'croftlaw.CircuitReads'. -/
def circuitReadsUptoCard : Claim7 := { stood := { row := circuitReadsUptoRow, standIns := [], harness := (true, "e91245256726efcc0a9b093a84dcbf840801024ef90f65bbc598116d4a7039d7"), looks := false }, kinds := [], alts := [], laidByText := true, laidKinds := [.data, .widerDeep, .data, .pinned], laidTests := true, laidLooks := .later }
def CircuitReadsUptoCardSaid : Prop := Claim7.holds Tryd.pinned (.plain (OpenSpec.upto circuitReadsSpec)) circuitReadsUptoCard
end Rows
end Go.Proofs.YtmpnaobjgknfkacDoor
