/- CrewC -/
import Derived.Test.YtljlioglpaogdacGreatDoorToSubC
import Derived.Test.YtljlioglpaogdacGreatDoorToStepC
import Derived.Test.YtljlioglpaogdacGreatDoorToCheckC
import Derived.Test.YtljlioglpaogdacGreatDoorProg
namespace Go.Proofs.YtljlioglpaogdacGreatDoor
set_option linter.unusedVariables false
set_option maxRecDepth 100000
set_option maxHeartbeats 8000000
section
open Crm Go.RowKit
def shl (xs:List Int) (n:Nat):List (Int×Int):=(List.range n).map λ(i:Nat)=>((i:Int)+1,xs.getD i 0)
theorem shl_len (xs:List Int) (n:Nat):(shl xs n).length=n:=by simp [shl]
theorem shl_snoc (xs:List Int) (n:Nat) {x:Int} (hx:xs.getD n 0=x):shl xs n ++ [((n:Int)+1,x)]=shl xs (n+1):=by
 unfold shl;rw [List.range_succ,List.map_append,<- hx];rfl
theorem shl_getD (xs:List Int) {n i:Nat} (h:i<n):(shl xs n).getD i (0,0)=((i:Int)+1,xs.getD i 0):=by simp [shl,h]
end
end Go.Proofs.YtljlioglpaogdacGreatDoor
