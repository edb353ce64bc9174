/- Ints in order: INSERTION. Plain. -/
import Derived.Test.YtljlioglpaogdabToGaussM
namespace Go.Proofs.Ytljlioglpaogdab
set_option linter.unusedVariables false
set_option maxRecDepth 100000
set_option maxHeartbeats 8000000
section
open Crm
/-- Two neighbours change places. -/
def swp (L : List Int) (j : Nat) : List Int := (L.set (j + 1) (L.getD j 0)).set j (L.getD (j + 1) 0)
theorem swp_perm : ∀ (L : List Int) (j : Nat), j + 1 < L.length → (swp L j).Perm L
  | [], j, h => by simp at h
  | [a], j, h => by simp at h
  | a :: b :: l, 0, _ => List.Perm.swap _ _ _
  | a :: b :: l, j + 1, h => (swp_perm (b :: l) j (by simpa using h)).cons a
theorem swp_getD {L : List Int} {j : Nat} (h : j + 1 < L.length) (t : Nat) : (swp L j).getD t 0 = if t = j then L.getD (j + 1) 0 else if t = j + 1 then L.getD j 0 else L.getD t 0 := by
  unfold swp
  rw [getD_set, getD_set, List.length_set]
  by_cases e1 : t = j
  · subst e1; rw [if_pos ⟨rfl, by omega⟩, if_pos rfl]
  · rw [if_neg (fun h => e1 h.1.symm), if_neg e1]
    by_cases e2 : t = j + 1
    · subst e2; rw [if_pos ⟨rfl, h⟩, if_pos rfl]
    · rw [if_neg (fun h => e2 h.1.symm), if_neg e2]
/-- In order but for place j, up to place i. -/
structure InI (L0 L : List Int) (i j : Nat) : Prop where
  perm : L.Perm L0
  srt : ∀ p q, p < q → q ≤ i → q ≠ j → L.getD p 0 ≤ L.getD q 0
structure OuI (L0 L : List Int) (i : Nat) : Prop where
  perm : L.Perm L0
  srt : ∀ p q, p < q → q < i → L.getD p 0 ≤ L.getD q 0
theorem in_start {L0 L : List Int} {i : Nat} (h : OuI L0 L i) : InI L0 L i i := ⟨h.perm, fun p q h1 h2 h3 => h.srt p q h1 (by omega)⟩
theorem in_step {L0 L : List Int} {i j : Nat} (h : InI L0 L i (j + 1)) (hj : j + 1 ≤ i) (hi : i < L.length) (hlt : L.getD (j + 1) 0 < L.getD j 0) : InI L0 (swp L j) i j := by
  refine ⟨(swp_perm L j (by omega)).trans h.perm, fun p q h1 h2 h3 => ?_⟩
  rw [swp_getD (by omega), swp_getD (by omega), if_neg h3]
  have hs := h.srt
  by_cases e : q = j + 1
  · subst e
    rw [if_pos rfl]
    by_cases e2 : p = j
    · subst e2; rw [if_pos rfl]; omega
    · rw [if_neg e2, if_neg (by omega)]
      exact hs p j (by omega) (by omega) (by omega)
  · rw [if_neg e]
    have h4 := hs p q h1 h2 e
    by_cases e2 : p = j
    · subst e2; rw [if_pos rfl]; exact hs (p + 1) q (by omega) h2 e
    · rw [if_neg e2]
      by_cases e3 : p = j + 1
      · subst e3; rw [if_pos rfl]; exact hs j q (by omega) h2 e
      · rw [if_neg e3]; exact h4
theorem in_end0 {L0 L : List Int} {i : Nat} (h : InI L0 L i 0) : OuI L0 L (i + 1) := ⟨h.perm, fun p q h1 h2 => h.srt p q h1 (by omega) (by omega)⟩
theorem in_end {L0 L : List Int} {i j : Nat} (h : InI L0 L i (j + 1)) (hj : j + 1 ≤ i) (hle : L.getD j 0 ≤ L.getD (j + 1) 0) : OuI L0 L (i + 1) := by
  refine ⟨h.perm, fun p q h1 h2 => ?_⟩
  by_cases e : q = j + 1
  · subst e
    by_cases e2 : p = j
    · subst e2; exact hle
    · exact Int.le_trans (h.srt p j (by omega) (by omega) (by omega)) hle
  · exact h.srt p q h1 (by omega) e
theorem OuI.pair {L0 L : List Int} {n : Nat} (h : OuI L0 L n) (hl : L.length = n) : L.Pairwise (· ≤ ·) := by
  rw [List.pairwise_iff_getElem]
  intro i j hi hj hij
  have := h.srt i j hij (by omega)
  simpa [List.getElem?_eq_getElem hi, List.getElem?_eq_getElem hj] using this
/-- There is but one order. -/
theorem srt_one {L0 L1 A B : List Int} {n m : Nat} (h : OuI L0 A n) (k : OuI L1 B m) (hp : L0.Perm L1) (hA : A.length = n) (hB : B.length = m) : A = B :=
  List.Perm.eq_of_pairwise (le := (· ≤ ·)) (fun _ _ _ _ h1 h2 => Int.le_antisymm h1 h2) (h.pair hA) (k.pair hB) ((h.perm.trans hp).trans k.perm.symm)
end
end Go.Proofs.Ytljlioglpaogdab
