/- croftref.Rows, rowOf, TwoNeed, number. · croftref.number: the numbers of a dealing in two variables. -/
import Derived.Test.YtnofegdlainjaadToTRows
import Derived.Test.YtnofegdlainjaadToRefA
namespace Go.Proofs.Ytnofegdlainjaad
open Go.RowKit Crm

theorem two_cells {w : World} {g : Nat} {u v x y : Value} (h0 : w.cell? ⟨g, 0, none⟩ = some u) (h1 : w.cell? ⟨g, 1, none⟩ = some v) :
    ((w.setCell ⟨g, 0, none⟩ x).setCell ⟨g, 1, none⟩ y).cell? ⟨g, 0, none⟩ = some x ∧ ((w.setCell ⟨g, 0, none⟩ x).setCell ⟨g, 1, none⟩ y).cell? ⟨g, 1, none⟩ = some y := by
  refine ⟨?_, ?_⟩
  · rw [World.cell?_setCell_other _ _ _ _ (by simp)]
    exact World.cell?_setCell_same w _ x h0
  · exact World.cell?_setCell_same _ _ y (show (w.setCell ⟨g, 0, none⟩ x).cell? ⟨g, 1, none⟩ = some v by rw [World.cell?_setCell_other _ _ _ _ (by simp)]; exact h1)

/-- What rowOf gives. -/
def RowOf (l : List (Int × List Int)) (n : Nat) (x : Int) (w : World) (e : Ending) (w' : World) : Prop :=
  ((∃ r ai ni ci, r < n ∧ ta l r = x ∧ e = .returned (.tuple #[.agg #[.int .i64 x, .slice ai ni ci], .bool true]) ∧ Rd w' ai ni ci (tc l r)) ∨
   ((∀ r, r < n → ta l r ≠ x) ∧ e = .returned (.tuple #[.agg #[.int .i64 0, .slice none 0 0], .bool false]))) ∧ Below w.heap.size w w'

/-- How many numbers there are besides: by the loop. -/
def nd2 (t : Int) : Nat → Int
  | 0 => -1
  | k + 1 => nd2 t k + (t - k + 1)
theorem nd2_bd : ∀ t, t < 5 → ∀ k, k < 6 → k ≤ t + 1 → -1 ≤ nd2 (t : Nat) k ∧ nd2 (t : Nat) k ≤ 100 := by decide

end Go.Proofs.Ytnofegdlainjaad

namespace Go.Proofs.Ytnofegdlainjaad
open Go.RowKit Crm

/-- The secret, and what is drawn behind it. -/
def dn (s : Int) (ds : List Int) (z : Int) : Int := if z < 0 then s else ds.getD z.toNat 0
/-- Number A(i, j). -/
def A2 (s : Int) (ds : List Int) (t i j : Nat) : Int := nm (if i ≤ j then dn s ds (nd2 t i + ((j : Int) - i)) else dn s ds (nd2 t j + ((i : Int) - j)))
theorem A2_sym (s : Int) (ds : List Int) (t i j : Nat) : A2 s ds t i j = A2 s ds t j i := by
  unfold A2
  by_cases h : i ≤ j
  · by_cases h2 : j ≤ i
    · obtain rfl : i = j := by omega
      rfl
    · rw [if_pos h, if_neg h2]
  · rw [if_neg h, if_pos (by omega)]
theorem A2_bd (s : Int) (ds : List Int) (t i j : Nat) : 0 ≤ A2 s ds t i j ∧ A2 s ds t i j ≤ 2147483646 := nm_bd _
theorem A2_zero (s : Int) (ds : List Int) (t : Nat) : A2 s ds t 0 0 = nm s := by
  unfold A2 dn nd2; rfl
theorem pos_bd : ∀ t, t < 5 → ∀ j, j ≤ 4 → ∀ i, i ≤ j → j ≤ t → -1 ≤ nd2 (t : Nat) i + ((j : Int) - i) ∧ nd2 (t : Nat) i + ((j : Int) - i) < (((t + 1) * (t + 2) / 2 - 1 : Nat) : Int) := by
  intro t ht j hj i hi hjt
  have h : t = 0 ∨ t = 1 ∨ t = 2 ∨ t = 3 ∨ t = 4 := by omega
  have hj2 : j = 0 ∨ j = 1 ∨ j = 2 ∨ j = 3 ∨ j = 4 := by omega
  have hi2 : i = 0 ∨ i = 1 ∨ i = 2 ∨ i = 3 ∨ i = 4 := by omega
  rcases h with rfl | rfl | rfl | rfl | rfl <;> rcases hj2 with rfl | rfl | rfl | rfl | rfl <;> first | (exfalso; omega) | (rcases hi2 with rfl | rfl | rfl | rfl | rfl <;> first | (exfalso; omega) | decide)

end Go.Proofs.Ytnofegdlainjaad
