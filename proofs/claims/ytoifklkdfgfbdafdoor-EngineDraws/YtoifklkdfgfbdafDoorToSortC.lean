/- croftkeep.dealt; shares that are written. · croftref.Rows, rowOf, TwoNeed, number. · slices.Sort of a few ints: INSERTION. -/
import Derived.Test.YtoifklkdfgfbdafDoorToPadC
import Derived.Test.YtoifklkdfgfbdafDoorToTRows
import Derived.Test.YtoifklkdfgfbdafDoorToWireC
import Derived.Test.YtoifklkdfgfbdafDoorToAnyM
import Derived.Test.YtoifklkdfgfbdafDoorToPlacedC
import Derived.Test.YtoifklkdfgfbdafDoorToSumC
import Derived.Test.YtoifklkdfgfbdafDoorProg
import Derived.Test.YtoifklkdfgfbdafDoorToOpenG
import Derived.Test.YtoifklkdfgfbdafDoorToSortM
import Derived.Deep.QuietTactic
import Derived.BigQuiet
import Derived.BigRegion
namespace Go.Proofs.YtoifklkdfgfbdafDoor
open Go.RowKit Crm

theorem rdS_known2 (w : World) (E : TypeId) : RdS (w.alloc (.cells #[.int .i64 3, .int .u64 11, .int .i64 1, .int .u64 7] E)) (some ⟨w.heap.size, 0, none⟩) 2 2 [(3, 11), (1, 7)] := by
  refine ⟨rfl, Nat.le_refl _, by unfold maxLen; omega, fun i hi => ?_, by simp, fun x hx i hi => ?_⟩
  · match i, hi with
    | 0, _ => decide
    | 1, _ => decide
  · obtain rfl := Option.some.inj hx
    rw [Addr.add_lit, Addr.add_lit, cell_of_row _ _ _ _ E (0, 0) (heap_alloc_new w _), cell_of_row _ _ _ _ E (0, 0) (heap_alloc_new w _)]
    match i, hi with
    | 0, _ => exact ⟨rfl, rfl⟩
    | 1, _ => exact ⟨rfl, rfl⟩
theorem dis_known : dis (fa [(3, 11), (1, 7)]) 2 := by
  intro i hi
  match i, hi with
  | 0, _ => exact ⟨by decide, fun j hj => by omega⟩
  | 1, _ => exact ⟨by decide, fun j hj => by
      match j, hj with
      | 0, _ => decide⟩
theorem hs_known : Hs [(3, 11), (1, 7)] 2 [5, 2] := by
  intro j hj
  match j, hj with
  | 0, _ => decide
  | 1, _ => decide

theorem own_set2 {w : World} {B n c g : Nat} {E : TypeId} {xs : List Value} (h : w.ownsRow B E 2 (.slice (some ⟨g, 0, none⟩) n c) n xs) (i : Nat) (u : Value) : (w.setCell ⟨g, i, none⟩ u).ownsRow B E 2 (.slice (some ⟨g, 0, none⟩) n c) n (xs.set i u) := by
  refine ⟨by rw [List.length_set]; exact h.1, .inr ?_⟩
  rcases h.2 with ⟨e, _⟩ | ⟨g', cap, cur, e, hb, hg, h1, h2, hs, ht⟩
  · simp at e
  · simp only [Value.slice.injEq, Option.some.injEq, Addr.mk.injEq, and_true, true_and] at e
    obtain ⟨rfl, rfl⟩ := e
    refine ⟨g, c, _, rfl, hb, heap_setCell_same w g i _ _ _ hg, h1, h2, by simpa using hs, ?_⟩
    rw [← ht]
    simp [List.take_set]
theorem own_frozen2 {w : World} {B n c g : Nat} {E : TypeId} {xs : List Value} (h : w.ownsRow B E 2 (.slice (some ⟨g, 0, none⟩) n c) n xs) (i : Nat) : w.frozen? ⟨g, i, none⟩ = false := by
  rcases h.2 with ⟨e, _⟩ | ⟨g', cap, cur, e, hb, hg, _⟩
  · simp at e
  · simp only [Value.slice.injEq, Option.some.injEq, Addr.mk.injEq, and_true, true_and] at e
    obtain ⟨rfl, rfl⟩ := e
    exact frozen_of_row w g i _ _ hg
theorem shc_setY : ∀ (l : List (Int × Int)) (q : Nat) (z : Int), (shc l).set (q * 2 + 1) (.int .u64 z) = shc (l.set q ((l.getD q (0, 0)).1, z))
  | [], q, z => by simp [shc]
  | p :: l, 0, z => rfl
  | p :: l, q + 1, z => by
    have := shc_setY l q z
    have e1 : (q + 1) * 2 + 1 = q * 2 + 1 + 1 + 1 := by omega
    rw [e1]
    show _ :: _ :: (shc l).set (q * 2 + 1) (.int .u64 z) = _
    rw [this]
    rfl
/-- Its address, where there is a share. -/
theorem own_at2 {w : World} {base n : Nat} {E : TypeId} {v : Value} {xs : List Value} (h : w.ownsRow base E 2 v n xs) (hn : 0 < n) : ∃ g c, v = .slice (some ⟨g, 0, none⟩) n c ∧ base ≤ g ∧ g < w.heap.size ∧ n ≤ c ∧ c ≤ maxLen := by
  rcases h.2 with ⟨_, rfl⟩ | ⟨g, cap, cur, rfl, hb, hg, h1, h2, _⟩
  · omega
  · exact ⟨g, cap, rfl, hb, (Array.getElem?_eq_some_iff.1 hg).1, h1, h2⟩
theorem sh_cell {w : World} {base n c g : Nat} {E : TypeId} {l : List (Int × Int)} (h : w.ownsRow base E 2 (.slice (some ⟨g, 0, none⟩) n c) n (shc l)) (hl : l.length = n) {k : Nat} (hk : k < n) :
    w.cell? ⟨g, k * 2, none⟩ = some (.int .i64 (l.getD k (0, 0)).1) ∧ w.cell? ⟨g, k * 2 + 1, none⟩ = some (.int .u64 (l.getD k (0, 0)).2) := by
  have h1 := shc_get l k (by omega)
  have a1 := h.cells (g := g) rfl _ _ h1.1
  have a2 := h.cells (g := g) rfl _ _ h1.2
  rw [Addr.add_lit] at a1 a2
  exact ⟨by simpa using a1, by simpa using a2⟩
end Go.Proofs.YtoifklkdfgfbdafDoor

namespace Go.Proofs.YtoifklkdfgfbdafDoor
open Go.RowKit Crm

theorem two_cells {w : World} {g : Nat} {u v x y : Value} (h0 : w.cell? ⟨g, 0, none⟩ = some u) (h1 : w.cell? ⟨g, 1, none⟩ = some v) :
    ((w.setCell ⟨g, 0, none⟩ x).setCell ⟨g, 1, none⟩ y).cell? ⟨g, 0, none⟩ = some x ∧ ((w.setCell ⟨g, 0, none⟩ x).setCell ⟨g, 1, none⟩ y).cell? ⟨g, 1, none⟩ = some y := by
  refine ⟨?_, ?_⟩
  · rw [World.cell?_setCell_other _ _ _ _ (by simp)]
    exact World.cell?_setCell_same w _ x h0
  · exact World.cell?_setCell_same _ _ y (show (w.setCell ⟨g, 0, none⟩ x).cell? ⟨g, 1, none⟩ = some v by rw [World.cell?_setCell_other _ _ _ _ (by simp)]; exact h1)

/-- What rowOf gives. -/
def RowOf (l : List (Int × List Int)) (n : Nat) (x : Int) (w : World) (e : Ending) (w' : World) : Prop :=
  ((∃ r ai ni ci, r < n ∧ ta l r = x ∧ e = .returned (.tuple #[.agg #[.int .i64 x, .slice ai ni ci], .bool true]) ∧ Rd w' ai ni ci (tc l r)) ∨
   ((∀ r, r < n → ta l r ≠ x) ∧ e = .returned (.tuple #[.agg #[.int .i64 0, .slice none 0 0], .bool false]))) ∧ Below w.heap.size w w'

/-- How many numbers there are besides: by the loop. -/
def nd2 (t : Int) : Nat → Int
  | 0 => -1
  | k + 1 => nd2 t k + (t - k + 1)
theorem nd2_bd : ∀ t, t < 5 → ∀ k, k < 6 → k ≤ t + 1 → -1 ≤ nd2 (t : Nat) k ∧ nd2 (t : Nat) k ≤ 100 := by decide

end Go.Proofs.YtoifklkdfgfbdafDoor

namespace Go.Proofs.YtoifklkdfgfbdafDoor
open Go.RowKit Crm

theorem grown_drewN {a b : World} {r : Option Nat} (h : a.grownBy b r) (q : Nat) : a.grownBy (b.drewN q) r := ⟨h.os, h.tape, h.output, h.size, h.block⟩
set_option maxRecDepth 100000 in
set_option maxHeartbeats 1000000 in
theorem zLen64 (x : Nat) (w : World) (hx : x ≤ 12) :
    Calls Tryd.prog 97 #[.int .u64 x] w fun e w' => (∃ r, e = .returned (.int .i64 r)) ∧ w' = w := by
  match x, hx with
  | 0, _ => go_enter Tryd.func97, Tryd.ntmps97; go_wp2; go_ret; exact ⟨⟨_, rfl⟩, rfl⟩
  | 1, _ => go_enter Tryd.func97, Tryd.ntmps97; go_wp2; go_ret; exact ⟨⟨_, rfl⟩, rfl⟩
  | 2, _ => go_enter Tryd.func97, Tryd.ntmps97; go_wp2; go_ret; exact ⟨⟨_, rfl⟩, rfl⟩
  | 3, _ => go_enter Tryd.func97, Tryd.ntmps97; go_wp2; go_ret; exact ⟨⟨_, rfl⟩, rfl⟩
  | 4, _ => go_enter Tryd.func97, Tryd.ntmps97; go_wp2; go_ret; exact ⟨⟨_, rfl⟩, rfl⟩
  | 5, _ => go_enter Tryd.func97, Tryd.ntmps97; go_wp2; go_ret; exact ⟨⟨_, rfl⟩, rfl⟩
  | 6, _ => go_enter Tryd.func97, Tryd.ntmps97; go_wp2; go_ret; exact ⟨⟨_, rfl⟩, rfl⟩
  | 7, _ => go_enter Tryd.func97, Tryd.ntmps97; go_wp2; go_ret; exact ⟨⟨_, rfl⟩, rfl⟩
  | 8, _ => go_enter Tryd.func97, Tryd.ntmps97; go_wp2; go_ret; exact ⟨⟨_, rfl⟩, rfl⟩
  | 9, _ => go_enter Tryd.func97, Tryd.ntmps97; go_wp2; go_ret; exact ⟨⟨_, rfl⟩, rfl⟩
  | 10, _ => go_enter Tryd.func97, Tryd.ntmps97; go_wp2; go_ret; exact ⟨⟨_, rfl⟩, rfl⟩
  | 11, _ => go_enter Tryd.func97, Tryd.ntmps97; go_wp2; go_ret; exact ⟨⟨_, rfl⟩, rfl⟩
  | 12, _ => go_enter Tryd.func97, Tryd.ntmps97; go_wp2; go_ret; exact ⟨⟨_, rfl⟩, rfl⟩

/-- What Sort leaves: the same ints, in order. -/
def Sorted_ (base n : Nat) (v : Value) (L : List Int) (w : World) (e : Ending) (w' : World) : Prop :=
  e = .returned (.tuple #[]) ∧ ∃ L', OuI L L' n ∧ w'.ownsRow base 3 1 v n (zns L') ∧ w.grownBy w' v.ownBlock

end Go.Proofs.YtoifklkdfgfbdafDoor
