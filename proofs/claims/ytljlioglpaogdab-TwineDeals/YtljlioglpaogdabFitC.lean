/- croftref.Fit, croftref.Open. -/
import Derived.Test.YtljlioglpaogdabToRows2
import Derived.Test.YtljlioglpaogdabToTrimC
import Derived.Test.YtljlioglpaogdabToDealC
import Derived.Test.YtljlioglpaogdabToSameC
import Derived.Test.YtljlioglpaogdabSortM
import Derived.Deep.QuietTactic
import Derived.BigQuiet
import Derived.Test.YtljlioglpaogdabProg
import Derived.BigRegion
namespace Go.Proofs.Ytljlioglpaogdab
set_option linter.unusedVariables false
set_option maxRecDepth 100000
set_option maxHeartbeats 8000000
section
open Crm Go.RowKit
theorem RdS.take {w : World} {a : Option Addr} {n c : Nat} {l : List (Int × Int)} (h : RdS w a n c l) {k : Nat} (hk : k ≤ n) : RdS w a k c (l.take k) := by
  have e : ∀ i, i < k → (l.take k).getD i (0, 0) = l.getD i (0, 0) := fun i hi => by simp [hi]
  refine ⟨by have := h.len; simp; omega, by have := h.cap; omega, h.max, fun i hi => ?_, h.nil, fun x hx i hi => ?_⟩
  · rw [e i hi]; exact h.bd i (by omega)
  · rw [e i hi]; exact h.cell x hx i (by omega)
end
end Go.Proofs.Ytljlioglpaogdab
