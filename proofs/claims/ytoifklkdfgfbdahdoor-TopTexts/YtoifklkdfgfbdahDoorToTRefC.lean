/- croftref.Join: plain facts. · croftkeep.dealt; shares that are written. · croftref.Rows, rowOf, TwoNeed, number. -/
import Derived.Test.YtoifklkdfgfbdahDoorToBadM
import Derived.Test.YtoifklkdfgfbdahDoorToRDecM
import Derived.Test.YtoifklkdfgfbdahDoorToTellsM
import Derived.Test.YtoifklkdfgfbdahDoorToOpenC
import Derived.Test.YtoifklkdfgfbdahDoorToEnL
import Derived.Test.YtoifklkdfgfbdahDoorToCrewC
import Derived.Test.YtoifklkdfgfbdahDoorToPlacedC
import Derived.Test.YtoifklkdfgfbdahDoorToRefA
namespace Go.Proofs.YtoifklkdfgfbdahDoor
open Crm

/-- Number j of each row, as shares. -/
def colS (l : List (Int × List Int)) (j n : Nat) : List (Int × Int) := (List.range n).map fun r => (ta l r, (tc l r).getD j 0)
theorem colS_len (l : List (Int × List Int)) (j n : Nat) : (colS l j n).length = n := by simp [colS]
theorem colS_getD (l : List (Int × List Int)) (j : Nat) {n r : Nat} (h : r < n) : (colS l j n).getD r (0, 0) = (ta l r, (tc l r).getD j 0) := by simp [colS, h]
theorem colS_snoc (l : List (Int × List Int)) (j n : Nat) {x y : Int} (hx : ta l n = x) (hy : (tc l n).getD j 0 = y) : colS l j n ++ [(x, y)] = colS l j (n + 1) := by rw [← hx, ← hy]; simp [colS, List.range_succ]
theorem colS_dis {l : List (Int × List Int)} {n : Nat} (h : dis (ta l) n) (j : Nat) : dis (fa (colS l j n)) n := fun i hi => by
  have e : ∀ q, q < n → fa (colS l j n) q = ta l q := fun q hq => by unfold fa; rw [colS_getD l j hq]
  rw [e i hi]
  exact ⟨(h i hi).1, fun q hq => by rw [e q (by omega)]; exact (h i hi).2 q hq⟩
theorem colS_hs {l : List (Int × List Int)} {j n m : Nat} {p : List Int} (hm : m ≤ n) : Hs (colS l j n) m p ↔ ∀ r, r < m → nm (ev p (ta l r)) = nm ((tc l r).getD j 0) := by
  constructor
  · intro h r hr
    have := h r hr
    rwa [colS_getD l j (by omega)] at this
  · intro h r hr
    rw [colS_getD l j (by omega)]
    exact h r hr
/-- A column that no polynomial of t + 1 numbers has. -/
theorem col_no {l : List (Int × List Int)} {n t j : Nat} {p : List Int} (hd : dis (ta l) n) (hn : t < n) (hj : j ≤ t) (hp : p.length ≤ t + 1) (hH : Hs (colS l j n) (t + 1) p) (hb : (bdl (colS l j n) p n).length ≠ 0) : ∀ G, ¬ TwF l n t G := fun G hG => hb <| by
  rw [bdl_nil]
  have h1 : Hs (colS l j n) n (G j) := (colS_hs (Nat.le_refl _)).2 (hG.val j hj)
  have h2 := hs_one (l := colS l j n) (n := t + 1) (dis_okk (dis_le (colS_dis hd j) (by omega))) hH (fun r hr => h1 r (by omega)) hp (hG.le j hj)
  intro r hr
  rw [ev_one h2]
  exact h1 r hr
/-- The first k columns. -/
structure Cls (l : List (Int × List Int)) (n t k : Nat) (F : List (List Int)) : Prop where
  len : F.length = k
  wid : ∀ q, q < k → (F.getD q []).length = t + 1
  bd : ∀ q, q < k → ∀ x ∈ F.getD q [], 0 ≤ x ∧ x ≤ 2147483646
  val : ∀ q, q < k → ∀ r, r < n → nm (ev (F.getD q []) (ta l r)) = nm ((tc l r).getD q 0)
theorem cls_nil (l : List (Int × List Int)) (n t : Nat) : Cls l n t 0 [] := ⟨rfl, fun q hq => by omega, fun q hq => by omega, fun q hq => by omega⟩
theorem cls_add {l : List (Int × List Int)} {n t k : Nat} {F : List (List Int)} {p : List Int} (h : Cls l n t k F) (hp : p.length ≤ t + 1) (hb : (bdl (colS l k n) p n).length = 0) : Cls l n t (k + 1) (F ++ [pdn p (t + 1)]) := by
  have hl := h.len
  have g1 : ∀ q, q < k → (F ++ [pdn p (t + 1)]).getD q [] = F.getD q [] := fun q hq => by simp [List.getElem?_append_left (show q < F.length by omega)]
  have g2 : (F ++ [pdn p (t + 1)]).getD k [] = pdn p (t + 1) := by rw [← hl]; simp
  have hH := (colS_hs (Nat.le_refl _)).1 ((bdl_nil _ _ _).1 hb)
  refine ⟨by simp [hl], fun q hq => ?_, fun q hq => ?_, fun q hq r hr => ?_⟩
  · by_cases e : q = k
    · rw [e, g2, pdn_len]
    · rw [g1 q (by omega)]; exact h.wid q (by omega)
  · by_cases e : q = k
    · rw [e, g2]; exact pdn_bd _ _
    · rw [g1 q (by omega)]; exact h.bd q (by omega)
  · by_cases e : q = k
    · rw [e, g2, ← hH r hr]
      refine ev_congr _ _ _ fun i => ?_
      by_cases hi : i < t + 1
      · rw [pdn_getD p hi, nm_nm]
      · rw [getD_big (by rw [pdn_len]; omega), getD_big (show p.length ≤ i by omega)]
    · rw [g1 q (by omega)]; exact h.val q (by omega) r hr
/-- Column i's number j. -/
def cn (F : List (List Int)) (i j : Nat) : Int := (F.getD i []).getD j 0
theorem cls_no {l : List (Int × List Int)} {n t i j : Nat} {F : List (List Int)} (hd : dis (ta l) n) (hn : t < n) (h : Cls l n t (t + 1) F) (hi : i ≤ t) (hj : j ≤ t) (hne : cn F i j ≠ cn F j i) : ∀ G, ¬ TwF l n t G := fun G hG => hne <| by
  have e : ∀ a b, a ≤ t → b ≤ t → cn F a b = nm ((G a).getD b 0) := fun a b ha hb => by
    have h1 := col_one hd hn (by rw [h.wid a (by omega)]; exact Nat.le_refl _) (hG.le a ha) (fun r hr => by rw [h.val a (by omega) r hr, hG.val a ha r hr])
    have h2 := getD_bd' (h.bd a (by omega)) b
    unfold cn
    rw [← nm_small h2.1 h2.2, ← nrm_getD, h1, nrm_getD]
  rw [e i j hi hj, e j i hj hi]
  exact hG.sym i j hi hj
theorem cls_yes {l : List (Int × List Int)} {n t : Nat} {F : List (List Int)} (h : Cls l n t (t + 1) F) (hs : ∀ i j, i ≤ t → j < i → cn F i j = cn F j i) : TwF l n t (fun j => F.getD j []) ∧ cn F 0 0 = nm ((F.getD 0 []).getD 0 0) := by
  refine ⟨⟨fun j hj => by rw [h.wid j (by omega)]; exact Nat.le_refl _, fun i j hi hj => ?_, fun j hj r hr => h.val j (by omega) r hr⟩, ?_⟩
  · rcases Nat.lt_trichotomy i j with h1 | h1 | h1
    · have := hs j i hj h1
      unfold cn at this
      rw [this]
    · rw [h1]
    · have := hs i j hi h1
      unfold cn at this
      rw [this]
  · have h2 := getD_bd' (h.bd 0 (by omega)) 0
    unfold cn
    rw [nm_small h2.1 h2.2]
end Go.Proofs.YtoifklkdfgfbdahDoor

namespace Go.Proofs.YtoifklkdfgfbdahDoor
open Go.RowKit Crm

theorem rdS_known2 (w : World) (E : TypeId) : RdS (w.alloc (.cells #[.int .i64 3, .int .u64 11, .int .i64 1, .int .u64 7] E)) (some ⟨w.heap.size, 0, none⟩) 2 2 [(3, 11), (1, 7)] := by
  refine ⟨rfl, Nat.le_refl _, by unfold maxLen; omega, fun i hi => ?_, by simp, fun x hx i hi => ?_⟩
  · match i, hi with
    | 0, _ => decide
    | 1, _ => decide
  · obtain rfl := Option.some.inj hx
    rw [Addr.add_lit, Addr.add_lit, cell_of_row _ _ _ _ E (0, 0) (heap_alloc_new w _), cell_of_row _ _ _ _ E (0, 0) (heap_alloc_new w _)]
    match i, hi with
    | 0, _ => exact ⟨rfl, rfl⟩
    | 1, _ => exact ⟨rfl, rfl⟩
theorem dis_known : dis (fa [(3, 11), (1, 7)]) 2 := by
  intro i hi
  match i, hi with
  | 0, _ => exact ⟨by decide, fun j hj => by omega⟩
  | 1, _ => exact ⟨by decide, fun j hj => by
      match j, hj with
      | 0, _ => decide⟩
theorem hs_known : Hs [(3, 11), (1, 7)] 2 [5, 2] := by
  intro j hj
  match j, hj with
  | 0, _ => decide
  | 1, _ => decide

theorem own_set2 {w : World} {B n c g : Nat} {E : TypeId} {xs : List Value} (h : w.ownsRow B E 2 (.slice (some ⟨g, 0, none⟩) n c) n xs) (i : Nat) (u : Value) : (w.setCell ⟨g, i, none⟩ u).ownsRow B E 2 (.slice (some ⟨g, 0, none⟩) n c) n (xs.set i u) := by
  refine ⟨by rw [List.length_set]; exact h.1, .inr ?_⟩
  rcases h.2 with ⟨e, _⟩ | ⟨g', cap, cur, e, hb, hg, h1, h2, hs, ht⟩
  · simp at e
  · simp only [Value.slice.injEq, Option.some.injEq, Addr.mk.injEq, and_true, true_and] at e
    obtain ⟨rfl, rfl⟩ := e
    refine ⟨g, c, _, rfl, hb, heap_setCell_same w g i _ _ _ hg, h1, h2, by simpa using hs, ?_⟩
    rw [← ht]
    simp [List.take_set]
theorem own_frozen2 {w : World} {B n c g : Nat} {E : TypeId} {xs : List Value} (h : w.ownsRow B E 2 (.slice (some ⟨g, 0, none⟩) n c) n xs) (i : Nat) : w.frozen? ⟨g, i, none⟩ = false := by
  rcases h.2 with ⟨e, _⟩ | ⟨g', cap, cur, e, hb, hg, _⟩
  · simp at e
  · simp only [Value.slice.injEq, Option.some.injEq, Addr.mk.injEq, and_true, true_and] at e
    obtain ⟨rfl, rfl⟩ := e
    exact frozen_of_row w g i _ _ hg
theorem shc_setY : ∀ (l : List (Int × Int)) (q : Nat) (z : Int), (shc l).set (q * 2 + 1) (.int .u64 z) = shc (l.set q ((l.getD q (0, 0)).1, z))
  | [], q, z => by simp [shc]
  | p :: l, 0, z => rfl
  | p :: l, q + 1, z => by
    have := shc_setY l q z
    have e1 : (q + 1) * 2 + 1 = q * 2 + 1 + 1 + 1 := by omega
    rw [e1]
    show _ :: _ :: (shc l).set (q * 2 + 1) (.int .u64 z) = _
    rw [this]
    rfl
/-- Its address, where there is a share. -/
theorem own_at2 {w : World} {base n : Nat} {E : TypeId} {v : Value} {xs : List Value} (h : w.ownsRow base E 2 v n xs) (hn : 0 < n) : ∃ g c, v = .slice (some ⟨g, 0, none⟩) n c ∧ base ≤ g ∧ g < w.heap.size ∧ n ≤ c ∧ c ≤ maxLen := by
  rcases h.2 with ⟨_, rfl⟩ | ⟨g, cap, cur, rfl, hb, hg, h1, h2, _⟩
  · omega
  · exact ⟨g, cap, rfl, hb, (Array.getElem?_eq_some_iff.1 hg).1, h1, h2⟩
theorem sh_cell {w : World} {base n c g : Nat} {E : TypeId} {l : List (Int × Int)} (h : w.ownsRow base E 2 (.slice (some ⟨g, 0, none⟩) n c) n (shc l)) (hl : l.length = n) {k : Nat} (hk : k < n) :
    w.cell? ⟨g, k * 2, none⟩ = some (.int .i64 (l.getD k (0, 0)).1) ∧ w.cell? ⟨g, k * 2 + 1, none⟩ = some (.int .u64 (l.getD k (0, 0)).2) := by
  have h1 := shc_get l k (by omega)
  have a1 := h.cells (g := g) rfl _ _ h1.1
  have a2 := h.cells (g := g) rfl _ _ h1.2
  rw [Addr.add_lit] at a1 a2
  exact ⟨by simpa using a1, by simpa using a2⟩
end Go.Proofs.YtoifklkdfgfbdahDoor

namespace Go.Proofs.YtoifklkdfgfbdahDoor
open Go.RowKit Crm

theorem two_cells {w : World} {g : Nat} {u v x y : Value} (h0 : w.cell? ⟨g, 0, none⟩ = some u) (h1 : w.cell? ⟨g, 1, none⟩ = some v) :
    ((w.setCell ⟨g, 0, none⟩ x).setCell ⟨g, 1, none⟩ y).cell? ⟨g, 0, none⟩ = some x ∧ ((w.setCell ⟨g, 0, none⟩ x).setCell ⟨g, 1, none⟩ y).cell? ⟨g, 1, none⟩ = some y := by
  refine ⟨?_, ?_⟩
  · rw [World.cell?_setCell_other _ _ _ _ (by simp)]
    exact World.cell?_setCell_same w _ x h0
  · exact World.cell?_setCell_same _ _ y (show (w.setCell ⟨g, 0, none⟩ x).cell? ⟨g, 1, none⟩ = some v by rw [World.cell?_setCell_other _ _ _ _ (by simp)]; exact h1)

/-- What rowOf gives. -/
def RowOf (l : List (Int × List Int)) (n : Nat) (x : Int) (w : World) (e : Ending) (w' : World) : Prop :=
  ((∃ r ai ni ci, r < n ∧ ta l r = x ∧ e = .returned (.tuple #[.agg #[.int .i64 x, .slice ai ni ci], .bool true]) ∧ Rd w' ai ni ci (tc l r)) ∨
   ((∀ r, r < n → ta l r ≠ x) ∧ e = .returned (.tuple #[.agg #[.int .i64 0, .slice none 0 0], .bool false]))) ∧ Below w.heap.size w w'

/-- How many numbers there are besides: by the loop. -/
def nd2 (t : Int) : Nat → Int
  | 0 => -1
  | k + 1 => nd2 t k + (t - k + 1)
theorem nd2_bd : ∀ t, t < 5 → ∀ k, k < 6 → k ≤ t + 1 → -1 ≤ nd2 (t : Nat) k ∧ nd2 (t : Nat) k ≤ 100 := by decide

end Go.Proofs.YtoifklkdfgfbdahDoor
