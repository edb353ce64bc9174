/- croftref.Value, where the wires ahead are inputs and constants. · croftref.Value of a gate, the wires ahead being inputs and constants. -/
import Derived.Test.YtmpnaobjgknfkacDoorToWhoseC
import Derived.Test.YtmpnaobjgknfkacDoorToRefPolyC
import Derived.Deep.RegionLaw
import Derived.Deep.RegionHeld3
namespace Go.Proofs.YtmpnaobjgknfkacDoor
open Go.RowKit Crm

/-- What an input or a constant tells. -/
def lf (D : List Gt) (ins : List Int) (j : Nat) : Int := if (gt D j).k = 1 then nm (ins.getD (ci D j) 0) else nm (gt D j).n
theorem lf_bd (D : List Gt) (ins : List Int) (j : Nat) : 0 ≤ lf D ins j ∧ lf D ins j ≤ 2147483646 := by unfold lf; split <;> exact nm_bd _

end Go.Proofs.YtmpnaobjgknfkacDoor

namespace Go.Proofs.YtmpnaobjgknfkacDoor
open Go.RowKit Crm

/-- What gate i tells. -/
def dv (D : List Gt) (ins : List Int) (i : Nat) : Int :=
  if (gt D i).k = 1 ∨ (gt D i).k = 2 then lf D ins i else if (gt D i).k = 6 then nm (lf D ins (gt D i).a.toNat * (gt D i).n)
  else if (gt D i).k = 3 then nm (lf D ins (gt D i).a.toNat + lf D ins (gt D i).b.toNat) else if (gt D i).k = 4 then nm (lf D ins (gt D i).a.toNat - lf D ins (gt D i).b.toNat) else nm (lf D ins (gt D i).a.toNat * lf D ins (gt D i).b.toNat)
theorem dv_bd (D : List Gt) (ins : List Int) (i : Nat) : 0 ≤ dv D ins i ∧ dv D ins i ≤ 2147483646 := by
  unfold dv
  split
  · exact lf_bd _ _ _
  · repeat' split
    all_goals exact nm_bd _

end Go.Proofs.YtmpnaobjgknfkacDoor
