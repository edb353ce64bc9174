/- Package-level variables that start-up lays: any part of their list. -/
import Derived.Test.YtljlioglpaogdabDoorRows
import Derived.ProofKit
import Derived.LaidMore
import Derived.OpenShut
import Derived.Stop.LaidErr
namespace Go.Proofs.YtljlioglpaogdabDoor
set_option linter.unusedVariables false
set_option maxRecDepth 100000
set_option maxHeartbeats 8000000
section
open Go.ChangeAt Go.ChangeShapes Go.RowKit Go.WideShapes
/-- A list that is met is met from any place on. -/
theorem laid_drop {P : Program} {W : World} : ∀ {l : List (String × DataW Unit)} (k : Nat), laidMet P l W → laidMet P (l.drop k) W
  | l, 0, h => by simpa using h
  | [], k + 1, h => by simpa using h
  | x :: l, k + 1, h => by rw [List.drop_succ_cons]; exact laid_drop k h.tail
end
end Go.Proofs.YtljlioglpaogdabDoor
