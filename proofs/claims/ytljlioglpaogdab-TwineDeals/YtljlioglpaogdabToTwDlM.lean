/- twine.starts: lists of two-cell elements that are made and then written. · A list of rows that is made and then filled. -/
import Derived.Test.YtljlioglpaogdabToRows2
import Derived.Test.YtljlioglpaogdabDecodeM
import Derived.Test.YtljlioglpaogdabToTrimC
import Derived.Test.YtljlioglpaogdabDealtC
import Derived.Test.YtljlioglpaogdabFitC
import Derived.Test.YtljlioglpaogdabLstC
import Derived.Deep.RegionHeld3
import Derived.Deep.AppendLies
import Derived.Deep.RegionLaw
import Derived.Test.YtljlioglpaogdabToTwApC
namespace Go.Proofs.Ytljlioglpaogdab
set_option linter.unusedVariables false
set_option maxRecDepth 100000
set_option maxHeartbeats 8000000
section
open Crm Go.RowKit
theorem made2 (u v : Value) : ∀ n, (madeCells #[u, v] (n * 2)).toList = (List.replicate n ()).flatMap fun _ => [u, v]
  | 0 => by simp [madeCells]
  | n + 1 => by
    have h : ∀ m, (madeCells #[u, v] m).toList = (List.range m).map fun i => (#[u, v] : Array Value)[i % 2]! := fun m => by simp [madeCells]
    have ih := made2 u v n
    have e : (n + 1) * 2 = n * 2 + 1 + 1 := by omega
    rw [h] at ih
    rw [h, e, List.range_succ, List.range_succ, List.map_append, List.map_append, ih, List.replicate_succ', List.flatMap_append]
    have e0 : n * 2 % 2 = 0 := by omega
    have e1 : (n * 2 + 1) % 2 = 1 := by omega
    simp [e0, e1]
theorem made2_pvc (n : Nat) : (madeCells (Value.agg #[.int .i64 0, .slice none 0 0]).cells (n * 2)).toList = pvc (List.replicate n (0, .slice none 0 0)) := by
  have e : (Value.agg #[.int .i64 0, .slice none 0 0]).cells = #[.int .i64 0, .slice none 0 0] := rfl
  rw [e, made2]
  induction n with
  | zero => rfl
  | succ n ih => rw [List.replicate_succ, List.replicate_succ, List.flatMap_cons, ih]; rfl
theorem pvc_set2 : ∀ (l : List (Int × Value)) (q : Nat) (x : Int) (u : Value), ((pvc l).set (q * 2) (.int .i64 x)).set (q * 2 + 1) u = pvc (l.set q (x, u))
  | [], q, x, u => by simp [pvc]
  | p :: l, 0, x, u => rfl
  | p :: l, q + 1, x, u => by
    have := pvc_set2 l q x u
    have e1 : (q + 1) * 2 = q * 2 + 1 + 1 := by omega
    rw [e1]
    show _ :: _ :: ((pvc l).set (q * 2) (.int .i64 x)).set (q * 2 + 1) u = _
    rw [this]
    rfl
theorem getD_set_ne {α : Type} (l : List α) {i q : Nat} (x d : α) (h : i ≠ q) : (l.set q x).getD i d = l.getD i d := by
  simp [show ¬ q = i from fun e => h e.symm]
theorem getD_set_eq {α : Type} (l : List α) {q : Nat} (x d : α) (h : q < l.length) : (l.set q x).getD q d = x := by simp [h]
/-- Rows that are made, none of them filled. -/
theorem lsw_made {w : World} {B n : Nat} {v : Value} (h : w.ownsRow B 83 2 v n (madeCells (Value.agg #[.int .i64 0, .slice none 0 0]).cells (n * 2)).toList) : LsW w B v (List.replicate n (0, .slice none 0 0)) (List.replicate n (0, [])) := by
  have g1 : ∀ i, (List.replicate n ((0 : Int), Value.slice none 0 0)).getD i (0, .slice none 0 0) = (0, .slice none 0 0) := fun i => by
    rw [List.getD_eq_getElem?_getD, List.getElem?_replicate]; split <;> rfl
  have g2 : ∀ i, (List.replicate n ((0 : Int), ([] : List Int))).getD i (0, []) = (0, []) := fun i => by
    rw [List.getD_eq_getElem?_getD, List.getElem?_replicate]; split <;> rfl
  refine ⟨by rw [List.length_replicate, ← made2_pvc]; exact h, by simp, fun i _ => by rw [g1]; unfold ta; rw [g2], fun i _ => ?_, fun i j _ _ => by rw [g1]; exact .inl rfl⟩
  unfold tc
  rw [g1, g2]
  exact World.ownsRow_nil _ _ _ _
/-- One row is laid at its place. -/
theorem LsW.put {w : World} {B n c g q : Nat} {u : Value} {L : List (Int × Value)} {l : List (Int × List Int)} {x : Int} {row : List Int} (h : LsW w B (.slice (some ⟨g, 0, none⟩) n c) L l) (hl : l.length = n) (hq : q < n) (hr : w.ownsRow B 28 1 u row.length (row.map (Value.int .u64)))
    (hnew : ∀ i, i < l.length → (L.getD i (0, .slice none 0 0)).2.ownBlock = none ∨ (L.getD i (0, .slice none 0 0)).2.ownBlock ≠ u.ownBlock) :
    LsW ((w.setCell ⟨g, q * 2, none⟩ (.int .i64 x)).setCell ⟨g, q * 2 + 1, none⟩ u) B (.slice (some ⟨g, 0, none⟩) n c) (L.set q (x, u)) (l.set q (x, row)) := by
  have hL := h.len
  have hE : (83 : TypeId) ≠ 28 := by decide
  have hg : w.grownBy ((w.setCell ⟨g, q * 2, none⟩ (.int .i64 x)).setCell ⟨g, q * 2 + 1, none⟩ u) (some g) := grown_trans (grown_set _ _ _ _) (grown_set _ _ _ _)
  have ho := h.own
  rw [hl] at ho
  refine ⟨?_, by simp [hL], fun i hi => ?_, fun i hi => ?_, fun i j hij hj => ?_⟩
  · rw [List.length_set, hl, ← pvc_set2]
    exact own_set2 (own_set2 ho _ _) _ _
  · rw [List.length_set] at hi
    unfold ta
    by_cases e : i = q
    · subst e; rw [getD_set_eq _ _ _ (by omega), getD_set_eq _ _ _ (by omega)]
    · rw [getD_set_ne _ _ _ e, getD_set_ne _ _ _ e]; exact h.at_ i hi
  · rw [List.length_set] at hi
    unfold tc
    by_cases e : i = q
    · subst e
      rw [getD_set_eq _ _ _ (by omega), getD_set_eq _ _ _ (by omega)]
      exact hr.kept hg (own_apart ho hr hE)
    · rw [getD_set_ne _ _ _ e, getD_set_ne _ _ _ e]
      exact (h.row i hi).kept hg (own_apart ho (h.row i hi) hE)
  · rw [List.length_set] at hj
    by_cases e : i = q
    · subst e
      rw [getD_set_eq _ _ _ (by omega), getD_set_ne _ _ _ (show j ≠ i by omega)]
      rcases hnew j hj with e1 | e1
      · by_cases hu : u.ownBlock = none
        · exact .inl hu
        · exact .inr (by rw [e1]; exact hu)
      · exact .inr (fun e2 => e1 e2.symm)
    · by_cases e' : j = q
      · subst e'
        rw [getD_set_eq _ _ _ (by omega), getD_set_ne _ _ _ e]
        exact hnew i (by omega)
      · rw [getD_set_ne _ _ _ e, getD_set_ne _ _ _ e']
        exact h.inj i j hij hj
theorem own_baseZ {w : World} {B B' n z : Nat} {E : TypeId} {v : Value} {xs : List Value} (h : w.ownsRow B E z v n xs) (hB : B' ≤ B) : w.ownsRow B' E z v n xs := by
  refine ⟨h.1, ?_⟩
  rcases h.2 with h1 | ⟨g, cap, cur, e, hb, h2⟩
  · exact .inl h1
  · exact .inr ⟨g, cap, cur, e, Nat.le_trans hB hb, h2⟩
theorem LsW.base {w : World} {B B' : Nat} {v : Value} {L : List (Int × Value)} {l : List (Int × List Int)} (h : LsW w B v L l) (hB : B' ≤ B) : LsW w B' v L l :=
  ⟨own_baseZ h.own hB, h.len, h.at_, fun i hi => own_baseZ (h.row i hi) hB, h.inj⟩
/-- Its cells. -/
theorem LsW.cells {w : World} {B n c g q : Nat} {L : List (Int × Value)} {l : List (Int × List Int)} (h : LsW w B (.slice (some ⟨g, 0, none⟩) n c) L l) (hl : l.length = n) (hq : q < n) :
    (∃ a, w.cell? ⟨g, q * 2, none⟩ = some a) ∧ (∃ a, w.cell? ⟨g, q * 2 + 1, none⟩ = some a) ∧ w.frozen? ⟨g, q * 2, none⟩ = false ∧ w.frozen? ⟨g, q * 2 + 1, none⟩ = false := by
  have hL := h.len
  have ho := h.own
  rw [hl] at ho
  have hp := pvc_get L q (by omega)
  have a1 := ho.cells (g := g) rfl _ _ hp.1
  have a2 := ho.cells (g := g) rfl _ _ hp.2
  rw [Addr.add_lit] at a1 a2
  exact ⟨⟨_, by simpa using a1⟩, ⟨_, by simpa using a2⟩, own_frozen2 ho _, own_frozen2 ho _⟩
/-- The first k of n rows are dealt. -/
def dlw (s : Int) (ds : List Int) (t n k : Nat) : List (Int × List Int) := (List.range n).map fun r : Nat => if r < k then ((r : Int) + 1, rowK s ds t ((r : Int) + 1) (t + 1)) else (0, [])
theorem dlw_len (s : Int) (ds : List Int) (t n k : Nat) : (dlw s ds t n k).length = n := by simp [dlw]
theorem dlw_zero (s : Int) (ds : List Int) (t n : Nat) : List.replicate n (0, []) = dlw s ds t n 0 := by
  apply List.ext_getElem?
  intro i
  by_cases hi : i < n
  · simp [dlw, hi]
  · simp [dlw, hi]
theorem dlw_set (s : Int) (ds : List Int) (t n k : Nat) : (dlw s ds t n k).set k ((k : Int) + 1, rowK s ds t ((k : Int) + 1) (t + 1)) = dlw s ds t n (k + 1) := by
  apply List.ext_getElem?
  intro i
  rw [List.getElem?_set]
  by_cases hi : i < n
  · by_cases e : k = i
    · subst e; simp [dlw, hi]
    · have : (i < k + 1) = (i < k) := by apply propext; omega
      simp [dlw, hi, e, this]
  · by_cases e : k = i
    · subst e; simp [dlw, hi]
    · simp [dlw, hi, e]
theorem dlw_full (s : Int) (ds : List Int) (t n : Nat) : dlw s ds t n n = dealA s ds t n := by
  unfold dlw dealA
  refine List.map_congr_left fun i hi => ?_
  rw [if_pos (List.mem_range.1 hi)]
end
end Go.Proofs.Ytljlioglpaogdab
