/- Circuits: plain facts. · Ints in order: INSERTION. Plain. -/
import Derived.Test.YtljlioglpaogdacToPolyM3
namespace Go.Proofs.Ytljlioglpaogdac
set_option linter.unusedVariables false
set_option maxRecDepth 100000
set_option maxHeartbeats 8000000
section
open Crm
/-- A gate: its kind, its wires, its number. -/
structure Gt where
  k : Int
  a : Int
  b : Int
  n : Int
def gt (G : List Gt) (i : Nat) : Gt := G.getD i ⟨0, 0, 0, 0⟩
/-- Gate i is right. -/
def okg (i : Nat) (g : Gt) : Prop :=
  (g.k = 1 ∧ (1 ≤ g.a ∧ g.a ≤ 9) ∧ g.b = 0 ∧ g.n = 0) ∨ (g.k = 2 ∧ g.a = 0 ∧ g.b = 0) ∨ (g.k = 6 ∧ (0 ≤ g.a ∧ g.a < (i : Int)) ∧ g.b = 0) ∨
  ((g.k = 3 ∨ g.k = 4 ∨ g.k = 5) ∧ (0 ≤ g.a ∧ g.a < (i : Int)) ∧ (0 ≤ g.b ∧ g.b < (i : Int)) ∧ g.n = 0)
def okG (G : List Gt) (n : Nat) : Prop := ∀ i, i < n → okg i (gt G i)
def okO (O : List Int) (n m : Nat) : Prop := ∀ j, j < m → 0 ≤ O.getD j 0 ∧ O.getD j 0 < (n : Int)
/-- What Check tells. -/
def Cke (G : List Gt) (O : List Int) (n m : Nat) (r : Int) : Prop :=
  ((n = 0 ∨ m = 0) ∧ r = 1) ∨ ((n ≠ 0 ∧ m ≠ 0) ∧ (((30 < n ∨ 30 < m) ∧ r = 2) ∨ ((n ≤ 30 ∧ m ≤ 30) ∧ ((¬ (okG G n ∧ okO O n m) ∧ r = 1) ∨ ((okG G n ∧ okO O n m) ∧ r = 0)))))
theorem Cke.one {G : List Gt} {O : List Int} {n m : Nat} {r s : Int} (h : Cke G O n m r) (k : Cke G O n m s) : r = s := by
  rcases h with ⟨h1, rfl⟩ | ⟨h1, ⟨h2, rfl⟩ | ⟨h2, ⟨h3, rfl⟩ | ⟨h3, rfl⟩⟩⟩ <;> rcases k with ⟨k1, rfl⟩ | ⟨k1, ⟨k2, rfl⟩ | ⟨k2, ⟨k3, rfl⟩ | ⟨k3, rfl⟩⟩⟩
  all_goals first
    | rfl
    | (exfalso; omega)
    | exact absurd k3 h3
    | exact absurd h3 k3
theorem Cke.ok {G : List Gt} {O : List Int} {n m : Nat} (h : Cke G O n m 0) : (1 ≤ n ∧ n ≤ 30) ∧ (1 ≤ m ∧ m ≤ 30) ∧ okG G n ∧ okO O n m := by
  rcases h with ⟨_, h⟩ | ⟨h1, ⟨_, h⟩ | ⟨h2, ⟨_, h⟩ | ⟨h3, _⟩⟩⟩
  · omega
  · omega
  · omega
  · exact ⟨⟨by omega, h2.1⟩, ⟨by omega, h2.2⟩, h3⟩
theorem Cke.bd {G : List Gt} {O : List Int} {n m : Nat} {r : Int} (h : Cke G O n m r) : 0 ≤ r ∧ r ≤ 2 := by
  rcases h with ⟨_, rfl⟩ | ⟨_, ⟨_, rfl⟩ | ⟨_, ⟨_, rfl⟩ | ⟨_, rfl⟩⟩⟩ <;> omega

/-- Whose the inputs of the first k gates are. -/
def whl (G : List Gt) : Nat → List Int
  | 0 => []
  | k + 1 => if (gt G k).k = 1 then whl G k ++ [(gt G k).a] else whl G k
/-- How many inputs the first k gates are. -/
def ci (G : List Gt) (k : Nat) : Nat := (whl G k).length
structure OuI (L0 L : List Int) (i : Nat) : Prop where
  perm : L.Perm L0
  srt : ∀ p q, p < q → q < i → L.getD p 0 ≤ L.getD q 0
theorem OuI.pair {L0 L : List Int} {n : Nat} (h : OuI L0 L n) (hl : L.length = n) : L.Pairwise (· ≤ ·) := by
  rw [List.pairwise_iff_getElem]
  intro i j hi hj hij
  have := h.srt i j hij (by omega)
  simpa [List.getElem?_eq_getElem hi, List.getElem?_eq_getElem hj] using this
/-- There is but one order. -/
theorem srt_one {L0 L1 A B : List Int} {n m : Nat} (h : OuI L0 A n) (k : OuI L1 B m) (hp : L0.Perm L1) (hA : A.length = n) (hB : B.length = m) : A = B :=
  List.Perm.eq_of_pairwise (le := (· ≤ ·)) (fun _ _ _ _ h1 h2 => Int.le_antisymm h1 h2) (h.pair hA) (k.pair hB) ((h.perm.trans hp).trans k.perm.symm)
end
end Go.Proofs.Ytljlioglpaogdac
