/- Package-level variables that start-up lays: what the walks ask of them. -/
import Derived.Test.YtljlioglpaogdafGreatDoorToParN
import Derived.Test.YtljlioglpaogdafGreatDoorLaidD
import Derived.Test.YtljlioglpaogdafGreatDoorRows
import Derived.ProofKit
import Derived.LaidMore
import Derived.OpenShut
import Derived.Stop.LaidErr
import Derived.Lib.LaidTab
namespace Go.Proofs.YtljlioglpaogdafGreatDoor
set_option linter.unusedVariables false
set_option maxRecDepth 100000
set_option maxHeartbeats 8000000
section
open Crm Go.ChangeAt Go.ChangeShapes Go.RowKit Go.WideShapes
theorem gPow : Tryz.prog.globalNamed "internal/strconv.uint64pow10" = some 2 := by kernel_rfl
theorem tPow : (Tryz.prog.globals[2]?).map (·.type) = some 171 := by kernel_rfl
theorem cellsPow : Tryz.prog.cellsOf 171 = 20 := by kernel_rfl
theorem cellsPowU : Tryz.prog.cellsOf 77 = 1 := by kernel_rfl
theorem pow_of_head {rest : List (String × DataW Unit)} {W : World} (h : laidMet Tryz.prog (("internal/strconv.uint64pow10", Rows.laid_internal_strconv_uint64pow10) :: rest) W) : Tabs W :=
  Lib.tabIs_of_head (zs := Lib.pow10Tab) (k := .u64) gPow tPow Tryz.underlying171 Tryz.underlying77 cellsPowU cellsPow h
end
end Go.Proofs.YtljlioglpaogdafGreatDoor
