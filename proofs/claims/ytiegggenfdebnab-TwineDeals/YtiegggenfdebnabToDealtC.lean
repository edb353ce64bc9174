/- croftkeep.crew, filled, shares. · croftkeep.dealt; shares that are written. -/
import Derived.Test.YtiegggenfdebnabToPlaceC
import Derived.Test.YtiegggenfdebnabToLstC
import Derived.Test.YtiegggenfdebnabToTwoC
import Derived.Test.YtiegggenfdebnabToProdC
import Derived.Test.YtiegggenfdebnabToJoinC
import Derived.Test.YtiegggenfdebnabToOpenC
import Derived.Test.YtiegggenfdebnabToShortC
namespace Go.Proofs.Ytiegggenfdebnab
open Go.RowKit Crm

/-- So many parties, of whom k may look together. -/
def Crewed (e : Ending) : Prop := ∃ k m : Nat, e = .returned (.tuple #[.int .i64 k, .int .i64 m]) ∧ k ≤ 4 ∧ 2 * k + 1 ≤ m ∧ m ≤ 9
/-- Shares of all parties' numbers. -/
def shl (xs : List Int) (n : Nat) : List (Int × Int) := (List.range n).map fun (i : Nat) => ((i : Int) + 1, xs.getD i 0)
theorem shl_len (xs : List Int) (n : Nat) : (shl xs n).length = n := by simp [shl]
theorem shl_snoc (xs : List Int) (n : Nat) {x : Int} (hx : xs.getD n 0 = x) : shl xs n ++ [((n : Int) + 1, x)] = shl xs (n + 1) := by
  unfold shl
  rw [List.range_succ, List.map_append, ← hx]
  rfl
theorem shl_getD (xs : List Int) {n i : Nat} (h : i < n) : (shl xs n).getD i (0, 0) = ((i : Int) + 1, xs.getD i 0) := by simp [shl, h]

end Go.Proofs.Ytiegggenfdebnab

namespace Go.Proofs.Ytiegggenfdebnab
open Go.RowKit Crm

theorem rdS_known2 (w : World) (E : TypeId) : RdS (w.alloc (.cells #[.int .i64 3, .int .u64 11, .int .i64 1, .int .u64 7] E)) (some ⟨w.heap.size, 0, none⟩) 2 2 [(3, 11), (1, 7)] := by
  refine ⟨rfl, Nat.le_refl _, by unfold maxLen; omega, fun i hi => ?_, by simp, fun x hx i hi => ?_⟩
  · match i, hi with
    | 0, _ => decide
    | 1, _ => decide
  · obtain rfl := Option.some.inj hx
    rw [Addr.add_lit, Addr.add_lit, cell_of_row _ _ _ _ E (0, 0) (heap_alloc_new w _), cell_of_row _ _ _ _ E (0, 0) (heap_alloc_new w _)]
    match i, hi with
    | 0, _ => exact ⟨rfl, rfl⟩
    | 1, _ => exact ⟨rfl, rfl⟩
theorem dis_known : dis (fa [(3, 11), (1, 7)]) 2 := by
  intro i hi
  match i, hi with
  | 0, _ => exact ⟨by decide, fun j hj => by omega⟩
  | 1, _ => exact ⟨by decide, fun j hj => by
      match j, hj with
      | 0, _ => decide⟩
theorem hs_known : Hs [(3, 11), (1, 7)] 2 [5, 2] := by
  intro j hj
  match j, hj with
  | 0, _ => decide
  | 1, _ => decide

theorem own_set2 {w : World} {B n c g : Nat} {E : TypeId} {xs : List Value} (h : w.ownsRow B E 2 (.slice (some ⟨g, 0, none⟩) n c) n xs) (i : Nat) (u : Value) : (w.setCell ⟨g, i, none⟩ u).ownsRow B E 2 (.slice (some ⟨g, 0, none⟩) n c) n (xs.set i u) := by
  refine ⟨by rw [List.length_set]; exact h.1, .inr ?_⟩
  rcases h.2 with ⟨e, _⟩ | ⟨g', cap, cur, e, hb, hg, h1, h2, hs, ht⟩
  · simp at e
  · simp only [Value.slice.injEq, Option.some.injEq, Addr.mk.injEq, and_true, true_and] at e
    obtain ⟨rfl, rfl⟩ := e
    refine ⟨g, c, _, rfl, hb, heap_setCell_same w g i _ _ _ hg, h1, h2, by simpa using hs, ?_⟩
    rw [← ht]
    simp [List.take_set]
theorem own_frozen2 {w : World} {B n c g : Nat} {E : TypeId} {xs : List Value} (h : w.ownsRow B E 2 (.slice (some ⟨g, 0, none⟩) n c) n xs) (i : Nat) : w.frozen? ⟨g, i, none⟩ = false := by
  rcases h.2 with ⟨e, _⟩ | ⟨g', cap, cur, e, hb, hg, _⟩
  · simp at e
  · simp only [Value.slice.injEq, Option.some.injEq, Addr.mk.injEq, and_true, true_and] at e
    obtain ⟨rfl, rfl⟩ := e
    exact frozen_of_row w g i _ _ hg
theorem shc_setY : ∀ (l : List (Int × Int)) (q : Nat) (z : Int), (shc l).set (q * 2 + 1) (.int .u64 z) = shc (l.set q ((l.getD q (0, 0)).1, z))
  | [], q, z => by simp [shc]
  | p :: l, 0, z => rfl
  | p :: l, q + 1, z => by
    have := shc_setY l q z
    have e1 : (q + 1) * 2 + 1 = q * 2 + 1 + 1 + 1 := by omega
    rw [e1]
    show _ :: _ :: (shc l).set (q * 2 + 1) (.int .u64 z) = _
    rw [this]
    rfl
/-- Its address, where there is a share. -/
theorem own_at2 {w : World} {base n : Nat} {E : TypeId} {v : Value} {xs : List Value} (h : w.ownsRow base E 2 v n xs) (hn : 0 < n) : ∃ g c, v = .slice (some ⟨g, 0, none⟩) n c ∧ base ≤ g ∧ g < w.heap.size ∧ n ≤ c ∧ c ≤ maxLen := by
  rcases h.2 with ⟨_, rfl⟩ | ⟨g, cap, cur, rfl, hb, hg, h1, h2, _⟩
  · omega
  · exact ⟨g, cap, rfl, hb, (Array.getElem?_eq_some_iff.1 hg).1, h1, h2⟩
theorem sh_cell {w : World} {base n c g : Nat} {E : TypeId} {l : List (Int × Int)} (h : w.ownsRow base E 2 (.slice (some ⟨g, 0, none⟩) n c) n (shc l)) (hl : l.length = n) {k : Nat} (hk : k < n) :
    w.cell? ⟨g, k * 2, none⟩ = some (.int .i64 (l.getD k (0, 0)).1) ∧ w.cell? ⟨g, k * 2 + 1, none⟩ = some (.int .u64 (l.getD k (0, 0)).2) := by
  have h1 := shc_get l k (by omega)
  have a1 := h.cells (g := g) rfl _ _ h1.1
  have a2 := h.cells (g := g) rfl _ _ h1.2
  rw [Addr.add_lit] at a1 a2
  exact ⟨by simpa using a1, by simpa using a2⟩
end Go.Proofs.Ytiegggenfdebnab
