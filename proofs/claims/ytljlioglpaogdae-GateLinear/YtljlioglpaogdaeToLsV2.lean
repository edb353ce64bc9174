/- Lists of rows of numbers, each row the call's own, no two of them one. · Two lists of rows, all rows of both the call's own, no two of them one. -/
import Derived.Test.YtljlioglpaogdaeToRows2
import Derived.Test.YtljlioglpaogdaeToShortC
import Derived.Deep.AppendLies
import Derived.Deep.RegionLaw
namespace Go.Proofs.Ytljlioglpaogdae
set_option linter.unusedVariables false
set_option maxRecDepth 100000
set_option maxHeartbeats 8000000
section
open Crm Go.RowKit
/-- A list of rows that the call gathers, each row the call's own. -/
structure LsV (w : World) (B : Nat) (v : Value) (L : List Value) (rows : List (List Int)) : Prop where
  own : w.ownsRow B 23 1 v rows.length L
  len : L.length = rows.length
  row : ∀ i, i < rows.length → w.ownsRow B 22 1 (L.getD i (.slice none 0 0)) (rows.getD i []).length ((rows.getD i []).map (Value.int .u64))
  inj : ∀ i j, i < j → j < rows.length → (L.getD i (.slice none 0 0)).ownBlock = none ∨ (L.getD i (.slice none 0 0)).ownBlock ≠ (L.getD j (.slice none 0 0)).ownBlock
theorem LsV.below {w w' : World} {B : Nat} {v : Value} {L : List Value} {rows : List (List Int)} (h : LsV w B v L rows) (hb : Below w.heap.size w w') : LsV w' B v L rows :=
  ⟨own_below h.own hb, h.len, fun i hi => own_below (h.row i hi) hb, h.inj⟩
theorem LsV.drew {w : World} {B : Nat} {v : Value} {L : List Value} {rows : List (List Int)} (h : LsV w B v L rows) : LsV w.drew B v L rows := ⟨h.own, h.len, h.row, h.inj⟩
theorem LsV.drewN {w : World} {B : Nat} {v : Value} {L : List Value} {rows : List (List Int)} (h : LsV w B v L rows) (q : Nat) : LsV (w.drewN q) B v L rows := ⟨h.own, h.len, h.row, h.inj⟩
/-- When a list of other elements, or one that lies elsewhere, grows. -/
theorem LsV.grown {w w' : World} {B : Nat} {v : Value} {L : List Value} {rows : List (List Int)} {r : Option Nat} (h : LsV w B v L rows) (hg : w.grownBy w' r) (h1 : v.ownBlock = none ∨ v.ownBlock ≠ r) (h2 : ∀ i, i < rows.length → (L.getD i (.slice none 0 0)).ownBlock = none ∨ (L.getD i (.slice none 0 0)).ownBlock ≠ r) : LsV w' B v L rows :=
  ⟨h.own.kept hg h1, h.len, fun i hi => (h.row i hi).kept hg (h2 i hi), h.inj⟩
theorem getD_setV {α : Type} (l : List α) (q i : Nat) (x d : α) (hq : q < l.length) : (l.set q x).getD i d = if i = q then x else l.getD i d := by
  by_cases e : i = q
  · subst e; rw [if_pos rfl]; simp [hq]
  · rw [if_neg e]; simp [show ¬ q = i from fun e' => e e'.symm]
/-- Its cells. -/
theorem LsV.cell {w : World} {B n c g q : Nat} {L : List Value} {rows : List (List Int)} (h : LsV w B (.slice (some ⟨g, 0, none⟩) n c) L rows) (hl : rows.length = n) (hq : q < n) : w.cell? ⟨g, q, none⟩ = some (L.getD q (.slice none 0 0)) ∧ w.frozen? ⟨g, q, none⟩ = false ∧ g < w.heap.size := by
  have ho := h.own
  rw [hl] at ho
  have hL := h.len
  obtain ⟨g', u, e1, e2, e3, e4, e5⟩ := own_at ho hq
  simp only [Option.some.injEq, Addr.mk.injEq, and_true] at e1
  subst e1
  refine ⟨?_, own_frozen ho q, e3⟩
  rw [e5, ← e4]
  simp [List.getElem?_eq_getElem (show q < L.length by omega)]
/-- One row of it. -/
theorem LsV.one {w : World} {B n q : Nat} {v : Value} {L : List Value} {rows : List (List Int)} (h : LsV w B v L rows) (hl : rows.length = n) (hq : q < n) (hb : ∀ x ∈ rows.getD q [], 0 ≤ x ∧ x ≤ 18446744073709551615) : ∃ a c, L.getD q (.slice none 0 0) = .slice a (rows.getD q []).length c ∧ Rd w a (rows.getD q []).length c (rows.getD q []) := by
  obtain ⟨a, c, e, hr, _⟩ := Rd.own (h.row q (by omega)) hb
  exact ⟨a, c, e, hr⟩
/-- The blocks of A are none of B's. -/
def Apt (A B : List Value) : Prop := ∀ i j, (A.getD i (.slice none 0 0)).ownBlock = none ∨ (A.getD i (.slice none 0 0)).ownBlock ≠ (B.getD j (.slice none 0 0)).ownBlock
theorem Apt.symm {A B : List Value} (h : Apt A B) : Apt B A := fun i j => by
  rcases h j i with e | e
  · by_cases hb : (B.getD i (.slice none 0 0)).ownBlock = none
    · exact .inl hb
    · exact .inr (by rw [e]; exact hb)
  · exact .inr (fun e' => e e'.symm)
/-- A row of A is laid anew: where it lay, or where nothing lay. -/
theorem Apt.set {A B : List Value} {q H : Nat} {u : Value} (h : Apt A B) (hq : q < A.length) (hB : ∀ j k, (B.getD j (.slice none 0 0)).ownBlock = some k → k < H) (hu : u.ownBlock = (A.getD q (.slice none 0 0)).ownBlock ∨ ∃ k, u.ownBlock = some k ∧ H ≤ k) : Apt (A.set q u) B := fun i j => by
  rw [getD_setV _ _ _ _ _ hq]
  by_cases e : i = q
  · rw [if_pos e]
    rcases hu with hu | ⟨k, hu, hk⟩
    · rw [hu]; exact h q j
    · right
      rw [hu]
      intro e'
      have := hB j k e'.symm
      omega
  · rw [if_neg e]; exact h i j
/-- One row more in A. -/
theorem Apt.add {A B : List Value} {u : Value} (h : Apt A B) (hu : ∀ j, u.ownBlock = none ∨ u.ownBlock ≠ (B.getD j (.slice none 0 0)).ownBlock) : Apt (A ++ [u]) B := fun i j => by
  rw [List.getD_eq_getElem?_getD]
  rcases Nat.lt_trichotomy i A.length with e | e | e
  · rw [List.getElem?_append_left e, ← List.getD_eq_getElem?_getD]; exact h i j
  · rw [List.getElem?_append_right (by omega), e, Nat.sub_self]; exact hu j
  · rw [List.getElem?_eq_none (by simp; omega)]; exact .inl rfl
/-- One row more: the outer list grows. -/
theorem LsV.add {w w' : World} {B : Nat} {v v' u : Value} {L : List Value} {rows : List (List Int)} {row : List Int} (h : LsV w B v L rows) (hr : w.ownsRow B 22 1 u row.length (row.map (Value.int .u64)))
    (hnew : ∀ i, i < rows.length → (L.getD i (.slice none 0 0)).ownBlock = none ∨ (L.getD i (.slice none 0 0)).ownBlock ≠ u.ownBlock)
    (ho : w'.ownsRow B 23 1 v' (rows.length + 1) (L ++ [u])) (hg : w.grownBy w' v.ownBlock) : LsV w' B v' (L ++ [u]) (rows ++ [row]) := by
  have hl := h.len
  have gl : ∀ i, i < rows.length → (rows ++ [row]).getD i [] = rows.getD i [] := fun i hi => by simp [List.getElem?_append_left hi]
  have gL : ∀ i, i < rows.length → (L ++ [u]).getD i (.slice none 0 0) = L.getD i (.slice none 0 0) := fun i hi => by simp [List.getElem?_append_left (show i < L.length by omega)]
  have gl' : (rows ++ [row]).getD rows.length [] = row := by simp
  have gL' : (L ++ [u]).getD rows.length (.slice none 0 0) = u := by rw [← hl]; simp
  have hE : (23 : TypeId) ≠ 22 := by decide
  refine ⟨by simpa using ho, by simp [hl], fun i hi => ?_, fun i j hij hj => ?_⟩
  · have hi2 : i < rows.length + 1 := by simpa using hi
    by_cases e : i = rows.length
    · subst e; rw [gl', gL']; exact hr.kept hg (own_apart h.own hr hE)
    · rw [gl i (by omega), gL i (by omega)]; exact (h.row i (by omega)).kept hg (own_apart h.own (h.row i (by omega)) hE)
  · have hj2 : j < rows.length + 1 := by simpa using hj
    by_cases e : j = rows.length
    · subst e; rw [gL', gL i hij]; exact hnew i hij
    · rw [gL i (by omega), gL j (by omega)]; exact h.inj i j hij (by omega)
end
end Go.Proofs.Ytljlioglpaogdae
