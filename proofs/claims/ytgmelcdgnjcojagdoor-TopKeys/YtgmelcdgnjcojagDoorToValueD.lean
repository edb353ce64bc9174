/- croftref.Whose. · croftref.Value, where the wires ahead are inputs and constants. · croftref.Value of a gate, the wires ahead being inputs and constants. -/
import Derived.Test.YtgmelcdgnjcojagDoorToCircC
import Derived.Test.YtgmelcdgnjcojagDoorToRefProdC
import Derived.Test.YtgmelcdgnjcojagDoorToRefPolyC
import Derived.Deep.RegionLaw
import Derived.Deep.RegionHeld3
namespace Go.Proofs.YtgmelcdgnjcojagDoor
open Go.RowKit Crm

theorem whl_in {G : List Gt} {k : Nat} {x : Int} (h : (gt G k).k = 1) (hx : (gt G k).a = x) : whl G k ++ [x] = whl G (k + 1) := by rw [whl, if_pos h, hx]
theorem whl_no {G : List Gt} {k : Nat} (h : (gt G k).k ≠ 1) : whl G k = whl G (k + 1) := by rw [whl, if_neg h]
theorem whl_bd {G : List Gt} {n : Nat} (h : ∀ i, i < n → -9223372036854775808 ≤ (gt G i).a ∧ (gt G i).a ≤ 9223372036854775807) : ∀ k, k ≤ n → ∀ x ∈ whl G k, -9223372036854775808 ≤ x ∧ x ≤ 9223372036854775807
  | 0, _, x, hx => by simp [whl] at hx
  | k + 1, hk, x, hx => by
    rw [whl] at hx
    split at hx
    · rcases List.mem_append.1 hx with e | e
      · exact whl_bd h k (by omega) x e
      · rw [List.mem_singleton.1 e]; exact h k (by omega)
    · exact whl_bd h k (by omega) x hx

end Go.Proofs.YtgmelcdgnjcojagDoor

namespace Go.Proofs.YtgmelcdgnjcojagDoor
open Go.RowKit Crm

/-- What an input or a constant tells. -/
def lf (D : List Gt) (ins : List Int) (j : Nat) : Int := if (gt D j).k = 1 then nm (ins.getD (ci D j) 0) else nm (gt D j).n
theorem lf_bd (D : List Gt) (ins : List Int) (j : Nat) : 0 ≤ lf D ins j ∧ lf D ins j ≤ 2147483646 := by unfold lf; split <;> exact nm_bd _

end Go.Proofs.YtgmelcdgnjcojagDoor

namespace Go.Proofs.YtgmelcdgnjcojagDoor
open Go.RowKit Crm

/-- What gate i tells. -/
def dv (D : List Gt) (ins : List Int) (i : Nat) : Int :=
  if (gt D i).k = 1 ∨ (gt D i).k = 2 then lf D ins i else if (gt D i).k = 6 then nm (lf D ins (gt D i).a.toNat * (gt D i).n)
  else if (gt D i).k = 3 then nm (lf D ins (gt D i).a.toNat + lf D ins (gt D i).b.toNat) else if (gt D i).k = 4 then nm (lf D ins (gt D i).a.toNat - lf D ins (gt D i).b.toNat) else nm (lf D ins (gt D i).a.toNat * lf D ins (gt D i).b.toNat)
theorem dv_bd (D : List Gt) (ins : List Int) (i : Nat) : 0 ≤ dv D ins i ∧ dv D ins i ≤ 2147483646 := by
  unfold dv
  split
  · exact lf_bd _ _ _
  · repeat' split
    all_goals exact nm_bd _

end Go.Proofs.YtgmelcdgnjcojagDoor
