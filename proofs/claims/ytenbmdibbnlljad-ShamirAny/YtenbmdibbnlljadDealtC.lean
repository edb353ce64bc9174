/- croftkeep.dealt; shares that are written. -/
import Derived.Test.YtenbmdibbnlljadTellsM
import Derived.Test.YtenbmdibbnlljadOpenC
import Derived.Test.YtenbmdibbnlljadShortC
import Derived.Test.YtenbmdibbnlljadCrewC
namespace Go.Proofs.Ytenbmdibbnlljad
open Go.RowKit Crm

theorem rdS_known2 (w : World) (E : TypeId) : RdS (w.alloc (.cells #[.int .i64 3, .int .u64 11, .int .i64 1, .int .u64 7] E)) (some ⟨w.heap.size, 0, none⟩) 2 2 [(3, 11), (1, 7)] := by
  refine ⟨rfl, Nat.le_refl _, by unfold maxLen; omega, fun i hi => ?_, by simp, fun x hx i hi => ?_⟩
  · match i, hi with
    | 0, _ => decide
    | 1, _ => decide
  · obtain rfl := Option.some.inj hx
    rw [Addr.add_lit, Addr.add_lit, cell_of_row _ _ _ _ E (0, 0) (heap_alloc_new w _), cell_of_row _ _ _ _ E (0, 0) (heap_alloc_new w _)]
    match i, hi with
    | 0, _ => exact ⟨rfl, rfl⟩
    | 1, _ => exact ⟨rfl, rfl⟩
theorem dis_known : dis (fa [(3, 11), (1, 7)]) 2 := by
  intro i hi
  match i, hi with
  | 0, _ => exact ⟨by decide, fun j hj => by omega⟩
  | 1, _ => exact ⟨by decide, fun j hj => by
      match j, hj with
      | 0, _ => decide⟩
theorem hs_known : Hs [(3, 11), (1, 7)] 2 [5, 2] := by
  intro j hj
  match j, hj with
  | 0, _ => decide
  | 1, _ => decide

set_option maxRecDepth 100000 in
set_option maxHeartbeats 1000000 in
theorem kDealt (w : World) : Calls Try.prog 26 #[] w fun e w' => e = .returned (.bool true) ∧ Below w.heap.size w w' := by
  have hb1 := below_one w (.cells #[.int .u64 2] 23)
  have r1 : Rd (w.alloc (.cells #[.int .u64 2] 23)) (some ⟨w.heap.size, 0, none⟩) 1 1 [2] := (Blk.lit1 w 2).whole 1 rfl (by unfold maxLen; omega) (fun u hu => by rw [List.mem_singleton.1 hu]; omega)
  go_enter Try.func26, Try.ntmps26
  go_wp2_with fail
  generalize w.alloc (.cells #[.int .u64 2] 23) = v1 at *
  refine (cDealOK 5 _ _ _ _ 3 _ r1 (by omega) (by omega) (by omega) (by omega) (by omega)).mono ?_
  rintro e v2 ⟨g, rfl, hr2, _, hb2⟩
  have ed : dl [5, 2] 3 = [7, 9, 11] := by decide
  rw [ed] at hr2
  have hw2 := hb1.trans (hb2.mono hb1.size)
  have hb3 := below_one v2 (.cells #[.int .i64 3, .int .u64 11, .int .i64 1, .int .u64 7] 38)
  have r3 := rdS_known2 v2 38
  clear hb1 hb2 r1 ed
  go_wp2_with fail
  generalize v2.alloc (.cells #[.int .i64 3, .int .u64 11, .int .i64 1, .int .u64 7] 38) = v3 at *
  refine (cOpenS _ _ _ _ _ _ r3).mono ?_
  rintro e v4 ⟨x, r, rfl, hO, hb4⟩
  obtain ⟨rfl, rfl⟩ := any_open (C := [5, 2]) (k := 1) dis_known (by omega) (by omega) (by simp) hs_known hO
  have ex : nm (ev [5, 2] 0) = 5 := by decide
  rw [ex]
  have hr4 := (hr2.below hb3).below hb4
  have hw4 := (hw2.trans (hb3.mono hw2.size)).trans (hb4.mono (hw2.trans (hb3.mono hw2.size)).size)
  clear hO hr2 hb3 r3 hb4 hw2 ex
  have hb5 := below_one v4 (.cells #[.int .u64 7, .int .u64 9, .int .u64 11] 23)
  have r5 := rd_of3 v4 (x := 7) (y := 9) (z := 11) (by omega) (by omega) (by omega)
  go_wp2_with fail
  generalize v4.alloc (.cells #[.int .u64 7, .int .u64 9, .int .u64 11] 23) = v5 at *
  have hw5 := hw4.trans (hb5.mono hw4.size)
  refine (cSame _ _ _ _ _ _ _ _ (hr4.below hb5) r5).mono ?_
  rintro e v6 ⟨rfl, hb6⟩
  have hw6 := hw5.trans (hb6.mono hw5.size)
  clear hb6 hw5 hb5 r5 hr4 hw4
  go_wp2
  go_ret
  exact ⟨rfl, hw6⟩

theorem own_set2 {w : World} {B n c g : Nat} {E : TypeId} {xs : List Value} (h : w.ownsRow B E 2 (.slice (some ⟨g, 0, none⟩) n c) n xs) (i : Nat) (u : Value) : (w.setCell ⟨g, i, none⟩ u).ownsRow B E 2 (.slice (some ⟨g, 0, none⟩) n c) n (xs.set i u) := by
  refine ⟨by rw [List.length_set]; exact h.1, .inr ?_⟩
  rcases h.2 with ⟨e, _⟩ | ⟨g', cap, cur, e, hb, hg, h1, h2, hs, ht⟩
  · simp at e
  · simp only [Value.slice.injEq, Option.some.injEq, Addr.mk.injEq, and_true, true_and] at e
    obtain ⟨rfl, rfl⟩ := e
    refine ⟨g, c, _, rfl, hb, heap_setCell_same w g i _ _ _ hg, h1, h2, by simpa using hs, ?_⟩
    rw [← ht]
    simp [List.take_set]
theorem own_frozen2 {w : World} {B n c g : Nat} {E : TypeId} {xs : List Value} (h : w.ownsRow B E 2 (.slice (some ⟨g, 0, none⟩) n c) n xs) (i : Nat) : w.frozen? ⟨g, i, none⟩ = false := by
  rcases h.2 with ⟨e, _⟩ | ⟨g', cap, cur, e, hb, hg, _⟩
  · simp at e
  · simp only [Value.slice.injEq, Option.some.injEq, Addr.mk.injEq, and_true, true_and] at e
    obtain ⟨rfl, rfl⟩ := e
    exact frozen_of_row w g i _ _ hg
theorem shc_setY : ∀ (l : List (Int × Int)) (q : Nat) (z : Int), (shc l).set (q * 2 + 1) (.int .u64 z) = shc (l.set q ((l.getD q (0, 0)).1, z))
  | [], q, z => by simp [shc]
  | p :: l, 0, z => rfl
  | p :: l, q + 1, z => by
    have := shc_setY l q z
    have e1 : (q + 1) * 2 + 1 = q * 2 + 1 + 1 + 1 := by omega
    rw [e1]
    show _ :: _ :: (shc l).set (q * 2 + 1) (.int .u64 z) = _
    rw [this]
    rfl
/-- Its address, where there is a share. -/
theorem own_at2 {w : World} {base n : Nat} {E : TypeId} {v : Value} {xs : List Value} (h : w.ownsRow base E 2 v n xs) (hn : 0 < n) : ∃ g c, v = .slice (some ⟨g, 0, none⟩) n c ∧ base ≤ g ∧ g < w.heap.size ∧ n ≤ c ∧ c ≤ maxLen := by
  rcases h.2 with ⟨_, rfl⟩ | ⟨g, cap, cur, rfl, hb, hg, h1, h2, _⟩
  · omega
  · exact ⟨g, cap, rfl, hb, (Array.getElem?_eq_some_iff.1 hg).1, h1, h2⟩
theorem sh_cell {w : World} {base n c g : Nat} {E : TypeId} {l : List (Int × Int)} (h : w.ownsRow base E 2 (.slice (some ⟨g, 0, none⟩) n c) n (shc l)) (hl : l.length = n) {k : Nat} (hk : k < n) :
    w.cell? ⟨g, k * 2, none⟩ = some (.int .i64 (l.getD k (0, 0)).1) ∧ w.cell? ⟨g, k * 2 + 1, none⟩ = some (.int .u64 (l.getD k (0, 0)).2) := by
  have h1 := shc_get l k (by omega)
  have a1 := h.cells (g := g) rfl _ _ h1.1
  have a2 := h.cells (g := g) rfl _ _ h1.2
  rw [Addr.add_lit] at a1 a2
  exact ⟨by simpa using a1, by simpa using a2⟩
end Go.Proofs.Ytenbmdibbnlljad
