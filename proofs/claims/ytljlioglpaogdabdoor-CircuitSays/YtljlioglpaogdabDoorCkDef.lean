/- What the calls of package circuit answer. -/
import Derived.Test.YtljlioglpaogdabDoorCircM
import Derived.Test.YtljlioglpaogdabDoorToShpM
import Derived.Test.YtljlioglpaogdabDoorToDigC
namespace Go.Proofs.YtljlioglpaogdabDoor
set_option linter.unusedVariables false
set_option maxRecDepth 100000
set_option maxHeartbeats 8000000
section
open Crm Go.RowKit
/-- What Inputs answers. -/
def Cin (G : List Gt) (O : List Int) (n m : Nat) (w : World) (e : Ending) (w' : World) : Prop :=
  ((∃ r, r ≠ 0 ∧ Cke G O n m r ∧ e = .returned (.tuple #[.slice none 0 0, .int .i64 r])) ∨
   (Cke G O n m 0 ∧ ∃ v, e = .returned (.tuple #[v, .int .i64 0]) ∧ w'.ownsRow w.heap.size 3 1 v (ci G n) (zns (whl G n)))) ∧ Below w.heap.size w w'
/-- What is wrong with a circuit and its inputs. -/
def Cre (G : List Gt) (O : List Int) (n m q : Nat) (r : Int) : Prop :=
  (r ≠ 0 ∧ Cke G O n m r) ∨ (Cke G O n m 0 ∧ ((q ≠ ci G n ∧ r = 5) ∨ (q = ci G n ∧ r = 0)))
theorem Cre.one {G : List Gt} {O : List Int} {n m q : Nat} {r s : Int} (h : Cre G O n m q r) (k : Cre G O n m q s) : r = s := by
  rcases h with ⟨h1, h2⟩ | ⟨h1, ⟨h2, rfl⟩ | ⟨h2, rfl⟩⟩ <;> rcases k with ⟨k1, k2⟩ | ⟨k1, ⟨k2, rfl⟩ | ⟨k2, rfl⟩⟩
  all_goals first
    | rfl
    | exact h2.one k2
    | exact absurd (h2.one k1) h1
    | exact absurd (k2.one h1) k1
    | exact absurd k2 h2
    | exact absurd h2 k2
theorem Cre.ok {G : List Gt} {O : List Int} {n m q : Nat} (h : Cre G O n m q 0) : Cke G O n m 0 ∧ q = ci G n := by
  rcases h with ⟨h1, _⟩ | ⟨h1, ⟨_, h2⟩ | ⟨h2, _⟩⟩
  · exact absurd rfl h1
  · omega
  · exact ⟨h1, h2⟩
/-- What Run answers. -/
def Crn (G : List Gt) (O ins : List Int) (n m q : Nat) (w : World) (e : Ending) (w' : World) : Prop :=
  ((∃ r, r ≠ 0 ∧ Cre G O n m q r ∧ e = .returned (.tuple #[.slice none 0 0, .int .i64 r])) ∨
   (Cre G O n m q 0 ∧ ∃ v, e = .returned (.tuple #[v, .int .i64 0]) ∧ w'.ownsRow w.heap.size 40 1 v m ((otl G O ins m).map (Value.int .u64)))) ∧ Below w.heap.size w w'
end
end Go.Proofs.YtljlioglpaogdabDoor
