/- Lists of rows (api.Row) that a call gathers. · What the calls of package circuit answer. -/
import Derived.Test.YtljlioglpaogdagDoorToBadM
import Derived.Test.YtljlioglpaogdagDoorToShortC
import Derived.Test.YtljlioglpaogdagDoorToSortM
import Derived.Test.YtljlioglpaogdagDoorToShpM
namespace Go.Proofs.YtljlioglpaogdagDoor
set_option linter.unusedVariables false
set_option maxRecDepth 100000
set_option maxHeartbeats 8000000
section
open Crm Go.RowKit
/-- The cells of rows. -/
def pvc (l : List (Int × Value)) : List Value := l.flatMap fun p => [.int .i64 p.1, p.2]
theorem pvc_snoc (l : List (Int × Value)) (x : Int) (v : Value) : pvc (l ++ [(x, v)]) = pvc l ++ [.int .i64 x, v] := by simp [pvc]
/-- A list of rows that the call gathers, each row the call's own. -/
structure LsW (w : World) (B : Nat) (v : Value) (L : List (Int × Value)) (l : List (Int × List Int)) : Prop where
  own : w.ownsRow B 80 2 v l.length (pvc L)
  len : L.length = l.length
  at_ : ∀ i, i < l.length → (L.getD i (0, .slice none 0 0)).1 = ta l i
  row : ∀ i, i < l.length → w.ownsRow B 34 1 (L.getD i (0, .slice none 0 0)).2 (tc l i).length ((tc l i).map (Value.int .u64))
  inj : ∀ i j, i < j → j < l.length → (L.getD i (0, .slice none 0 0)).2.ownBlock = none ∨ (L.getD i (0, .slice none 0 0)).2.ownBlock ≠ (L.getD j (0, .slice none 0 0)).2.ownBlock
theorem LsW.below {w w' : World} {B : Nat} {v : Value} {L : List (Int × Value)} {l : List (Int × List Int)} (h : LsW w B v L l) (hb : Below w.heap.size w w') : LsW w' B v L l :=
  ⟨own_below2 h.own hb, h.len, h.at_, fun i hi => own_below (h.row i hi) hb, h.inj⟩
/-- Rows, when another list of numbers grows. -/
theorem LsW.grown {w w' : World} {B : Nat} {v : Value} {L : List (Int × Value)} {l : List (Int × List Int)} {r : Option Nat} (h : LsW w B v L l) (hg : w.grownBy w' r) (h1 : v.ownBlock = none ∨ v.ownBlock ≠ r) (h2 : ∀ i, i < l.length → (L.getD i (0, .slice none 0 0)).2.ownBlock = none ∨ (L.getD i (0, .slice none 0 0)).2.ownBlock ≠ r) : LsW w' B v L l :=
  ⟨h.own.kept hg h1, h.len, h.at_, fun i hi => (h.row i hi).kept hg (h2 i hi), h.inj⟩
/-- One row more. -/
theorem LsW.add {w w' : World} {B : Nat} {v v' u : Value} {L : List (Int × Value)} {l : List (Int × List Int)} {x : Int} {row : List Int} (h : LsW w B v L l) (hr : w.ownsRow B 34 1 u row.length (row.map (Value.int .u64)))
    (hnew : ∀ i, i < l.length → (L.getD i (0, .slice none 0 0)).2.ownBlock = none ∨ (L.getD i (0, .slice none 0 0)).2.ownBlock ≠ u.ownBlock)
    (ho : w'.ownsRow B 80 2 v' (l.length + 1) (pvc L ++ [.int .i64 x, u])) (hg : w.grownBy w' v.ownBlock) : LsW w' B v' (L ++ [(x, u)]) (l ++ [(x, row)]) := by
  have hl := h.len
  have gl : ∀ i, i < l.length → (l ++ [(x, row)]).getD i (0, []) = l.getD i (0, []) := fun i hi => by simp [List.getElem?_append_left hi]
  have gL : ∀ i, i < l.length → (L ++ [(x, u)]).getD i (0, .slice none 0 0) = L.getD i (0, .slice none 0 0) := fun i hi => by simp [List.getElem?_append_left (show i < L.length by omega)]
  have gl' : (l ++ [(x, row)]).getD l.length (0, []) = (x, row) := by simp
  have gL' : (L ++ [(x, u)]).getD l.length (0, .slice none 0 0) = (x, u) := by rw [← hl]; simp
  have hE : (80 : TypeId) ≠ 34 := by decide
  refine ⟨by rw [pvc_snoc]; simpa using ho, by simp [hl], fun i hi => ?_, fun i hi => ?_, fun i j hij hj => ?_⟩
  · have hi2 : i < l.length + 1 := by simpa using hi
    unfold ta
    by_cases e : i = l.length
    · subst e; rw [gl', gL']
    · rw [gl i (by omega), gL i (by omega)]; exact h.at_ i (by omega)
  · have hi2 : i < l.length + 1 := by simpa using hi
    unfold tc
    by_cases e : i = l.length
    · subst e; rw [gl', gL']; exact hr.kept hg (own_apart h.own hr hE)
    · rw [gl i (by omega), gL i (by omega)]; exact (h.row i (by omega)).kept hg (own_apart h.own (h.row i (by omega)) hE)
  · have hj2 : j < l.length + 1 := by simpa using hj
    by_cases e : j = l.length
    · subst e; rw [gL', gL i hij]; exact hnew i hij
    · rw [gL i (by omega), gL j (by omega)]; exact h.inj i j hij (by omega)
/-- What is made later lies elsewhere. -/
theorem LsW.new {w w' : World} {B : Nat} {v u : Value} {L : List (Int × Value)} {l : List (Int × List Int)} {E : TypeId} {n z B2 : Nat} {xs : List Value} (h : LsW w B v L l) (hB : w.heap.size ≤ B2) (hu : w'.ownsRow B2 E z u n xs) : ∀ i, i < l.length → (L.getD i (0, .slice none 0 0)).2.ownBlock = none ∨ (L.getD i (0, .slice none 0 0)).2.ownBlock ≠ u.ownBlock := fun i hi => by
  cases hv : (L.getD i (0, .slice none 0 0)).2.ownBlock with
  | none => exact .inl rfl
  | some g =>
    right
    intro e
    have h1 := ((h.row i hi).lt g hv).2
    have h2 := (hu.lt g e.symm).1
    omega
/-- A row that is being filled: its box. -/
def Box (w : World) (g : Nat) (x : Int) (v : Value) : Prop := w.heap[g]? = some (.cells #[.int .i64 x, v] 80 (0, 0))
theorem Box.lt {w : World} {g : Nat} {x : Int} {v : Value} (h : Box w g x v) : g < w.heap.size := (Array.getElem?_eq_some_iff.1 h).1
theorem Box.cells {w : World} {g : Nat} {x : Int} {v : Value} (h : Box w g x v) : w.cell? ⟨g, 0, none⟩ = some (.int .i64 x) ∧ w.cell? ⟨g, 1, none⟩ = some v := by
  unfold Box at h
  rw [cell_of_row w g 0 _ _ (0, 0) h, cell_of_row w g 1 _ _ (0, 0) h]
  exact ⟨rfl, rfl⟩
theorem Box.frozen {w : World} {g : Nat} {x : Int} {v : Value} (h : Box w g x v) (i : Nat) : w.frozen? ⟨g, i, none⟩ = false := frozen_of_row w g i _ _ h
theorem Box.set {w : World} {g : Nat} {x : Int} {v : Value} (h : Box w g x v) (u : Value) : Box (w.setCell ⟨g, 1, none⟩ u) g x u := by
  have := heap_setCell_same w g 1 _ _ u h
  unfold Box
  rw [this]
  rfl
theorem Box.kept {w w' : World} {g : Nat} {x : Int} {v : Value} {r : Option Nat} (h : Box w g x v) (hg : w.grownBy w' r) (hr : r ≠ some g) : Box w' g x v := by
  unfold Box; rw [hg.block g h.lt (fun e => hr e.symm)]; exact h
/-- A row of other elements lies elsewhere. -/
theorem Box.apart {w : World} {g n z B : Nat} {x : Int} {v u : Value} {E : TypeId} {xs : List Value} (h : Box w g x v) (ho : w.ownsRow B E z u n xs) (hE : E ≠ 80) : u.ownBlock ≠ some g := by
  rcases ho.2 with ⟨rfl, _⟩ | ⟨g', cap, cur, rfl, _, hg, _⟩
  · simp [Value.ownBlock]
  · intro e
    simp [Value.ownBlock] at e
    subst e
    unfold Box at h
    rw [hg] at h
    simp only [Option.some.injEq, Obj.cells.injEq] at h
    exact hE h.2.1
theorem Box.new (w : World) (x : Int) (v : Value) : Box (w.alloc (.cells #[.int .i64 x, v] 80)) w.heap.size x v := heap_alloc_new w _
/-- What Inputs answers. -/
def Cin (G : List Gt) (O : List Int) (n m : Nat) (w : World) (e : Ending) (w' : World) : Prop :=
  ((∃ r, r ≠ 0 ∧ Cke G O n m r ∧ e = .returned (.tuple #[.slice none 0 0, .int .i64 r])) ∨
   (Cke G O n m 0 ∧ ∃ v, e = .returned (.tuple #[v, .int .i64 0]) ∧ w'.ownsRow w.heap.size 3 1 v (ci G n) (zns (whl G n)))) ∧ Below w.heap.size w w'
/-- What is wrong with a circuit and its inputs. -/
def Cre (G : List Gt) (O : List Int) (n m q : Nat) (r : Int) : Prop :=
  (r ≠ 0 ∧ Cke G O n m r) ∨ (Cke G O n m 0 ∧ ((q ≠ ci G n ∧ r = 5) ∨ (q = ci G n ∧ r = 0)))
theorem Cre.one {G : List Gt} {O : List Int} {n m q : Nat} {r s : Int} (h : Cre G O n m q r) (k : Cre G O n m q s) : r = s := by
  rcases h with ⟨h1, h2⟩ | ⟨h1, ⟨h2, rfl⟩ | ⟨h2, rfl⟩⟩ <;> rcases k with ⟨k1, k2⟩ | ⟨k1, ⟨k2, rfl⟩ | ⟨k2, rfl⟩⟩
  all_goals first
    | rfl
    | exact h2.one k2
    | exact absurd (h2.one k1) h1
    | exact absurd (k2.one h1) k1
    | exact absurd k2 h2
    | exact absurd h2 k2
theorem Cre.ok {G : List Gt} {O : List Int} {n m q : Nat} (h : Cre G O n m q 0) : Cke G O n m 0 ∧ q = ci G n := by
  rcases h with ⟨h1, _⟩ | ⟨h1, ⟨_, h2⟩ | ⟨h2, _⟩⟩
  · exact absurd rfl h1
  · omega
  · exact ⟨h1, h2⟩
end
end Go.Proofs.YtljlioglpaogdagDoor
