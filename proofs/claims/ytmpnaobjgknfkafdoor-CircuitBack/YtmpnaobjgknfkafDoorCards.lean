/-
  DERIVED. GIVEN WITH THE SEED: THE CARDS: each row of YtmpnaobjgknfkafDoorRows.lean that lists a variable, with what it lists TIED to the program's text (the seventh form; the later family's looks); each row that meets fmt, with fmt's text TOLD by the authors' own Lean function (tested against real Go, not proved from fmt's source: count such statements apart). THE CARD IS WHAT COUNTS. Prove the row's statement (the work); the ties are given (YtmpnaobjgknfkafDoorTie.lean); close each card by the builder's one call (the guide's Derived/Test/ToyasCard.lean, 'card_holds'). Laid BY PROGRAM, IN A SANDBOX (cutbox-door.mjs). By AI agents, Wed Nov 11 2026. No macro, syntax, notation, axiom, sorry.
-/
import Derived.Test.YtmpnaobjgknfkafDoorRows
import GoSem.ClaimSeven
namespace Go.Proofs.YtmpnaobjgknfkafDoor
namespace Rows

/-- THE TIED CARD OF 'croftkeep.CircuitBack'. -/
def circuitBackCard : Claim7 := { stood := { row := circuitBackRow, standIns := [], harness := (true, "ddfbc550f586c5e5f9365a867550bd8b539349206faa6d862952f46cd02fc0f9"), looks := false }, kinds := [], alts := [], laidByText := true, laidKinds := [.data, .data, .data, .data, .data, .pinned], laidTests := true, laidLooks := .later }
def CircuitBackCardSaid : Prop := Claim7.holds Tryd.pinned (.plain (OpenSpec.ofChange circuitBackSpec)) circuitBackCard

/-- THE TIED CARD OF 'croftkeep.CircuitSums'. -/
def circuitSumsCard : Claim7 := { stood := { row := circuitSumsRow, standIns := [], harness := (true, "ddfbc550f586c5e5f9365a867550bd8b539349206faa6d862952f46cd02fc0f9"), looks := false }, kinds := [], alts := [], laidByText := true, laidKinds := [.data], laidTests := true, laidLooks := .later }
def CircuitSumsCardSaid : Prop := Claim7.holds Tryd.pinned (.plain (OpenSpec.ofChange circuitSumsSpec)) circuitSumsCard

/-- THE SECOND FORM's CARD OF 'croftkeep.CircuitBack'. -/
def circuitBackUptoCard : Claim7 := { stood := { row := circuitBackUptoRow, standIns := [], harness := (true, "ddfbc550f586c5e5f9365a867550bd8b539349206faa6d862952f46cd02fc0f9"), looks := false }, kinds := [], alts := [], laidByText := true, laidKinds := [.data, .data, .data, .data, .data, .pinned], laidTests := true, laidLooks := .later }
def CircuitBackUptoCardSaid : Prop := Claim7.holds Tryd.pinned (.plain (OpenSpec.upto circuitBackSpec)) circuitBackUptoCard

/-- THE SECOND FORM's CARD OF 'croftkeep.CircuitSums'. -/
def circuitSumsUptoCard : Claim7 := { stood := { row := circuitSumsUptoRow, standIns := [], harness := (true, "ddfbc550f586c5e5f9365a867550bd8b539349206faa6d862952f46cd02fc0f9"), looks := false }, kinds := [], alts := [], laidByText := true, laidKinds := [.data], laidTests := true, laidLooks := .later }
def CircuitSumsUptoCardSaid : Prop := Claim7.holds Tryd.pinned (.plain (OpenSpec.upto circuitSumsSpec)) circuitSumsUptoCard
end Rows
end Go.Proofs.YtmpnaobjgknfkafDoor
