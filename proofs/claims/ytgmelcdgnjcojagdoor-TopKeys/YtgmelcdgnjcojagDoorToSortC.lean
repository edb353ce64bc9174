/- croftkeep.dealt; shares that are written. · croftref.Rows, rowOf, TwoNeed, number. · slices.Sort of a few ints: INSERTION. -/
import Derived.Test.YtgmelcdgnjcojagDoorToTellsM
import Derived.Test.YtgmelcdgnjcojagDoorToTRows
import Derived.Test.YtgmelcdgnjcojagDoorToWireC
import Derived.Test.YtgmelcdgnjcojagDoorToCrewC
import Derived.Test.YtgmelcdgnjcojagDoorToIntsC
import Derived.Test.YtgmelcdgnjcojagDoorToRefPolyC
import Derived.Test.YtgmelcdgnjcojagDoorProg
import Derived.Test.YtgmelcdgnjcojagDoorToSortM
import Derived.Deep.QuietTactic
import Derived.BigQuiet
import Derived.BigRegion
namespace Go.Proofs.YtgmelcdgnjcojagDoor
open Go.RowKit Crm

theorem rdS_known2 (w : World) (E : TypeId) : RdS (w.alloc (.cells #[.int .i64 3, .int .u64 11, .int .i64 1, .int .u64 7] E)) (some ⟨w.heap.size, 0, none⟩) 2 2 [(3, 11), (1, 7)] := by
  refine ⟨rfl, Nat.le_refl _, by unfold maxLen; omega, fun i hi => ?_, by simp, fun x hx i hi => ?_⟩
  · match i, hi with
    | 0, _ => decide
    | 1, _ => decide
  · obtain rfl := Option.some.inj hx
    rw [Addr.add_lit, Addr.add_lit, cell_of_row _ _ _ _ E (0, 0) (heap_alloc_new w _), cell_of_row _ _ _ _ E (0, 0) (heap_alloc_new w _)]
    match i, hi with
    | 0, _ => exact ⟨rfl, rfl⟩
    | 1, _ => exact ⟨rfl, rfl⟩
theorem dis_known : dis (fa [(3, 11), (1, 7)]) 2 := by
  intro i hi
  match i, hi with
  | 0, _ => exact ⟨by decide, fun j hj => by omega⟩
  | 1, _ => exact ⟨by decide, fun j hj => by
      match j, hj with
      | 0, _ => decide⟩
theorem hs_known : Hs [(3, 11), (1, 7)] 2 [5, 2] := by
  intro j hj
  match j, hj with
  | 0, _ => decide
  | 1, _ => decide

set_option maxRecDepth 100000 in
set_option maxHeartbeats 1000000 in
theorem kDealt (w : World) : Calls Tryd.prog 9 #[] w fun e w' => e = .returned (.bool true) ∧ Below w.heap.size w w' := by
  have hb1 := below_one w (.cells #[.int .u64 2] 34)
  have r1 : Rd (w.alloc (.cells #[.int .u64 2] 34)) (some ⟨w.heap.size, 0, none⟩) 1 1 [2] := (Blk.lit1 w 2).whole 1 rfl (by unfold maxLen; omega) (fun u hu => by rw [List.mem_singleton.1 hu]; omega)
  go_enter Tryd.func9, Tryd.ntmps9
  go_wp2_with fail
  generalize w.alloc (.cells #[.int .u64 2] 34) = v1 at *
  refine (cDealOK 5 _ _ _ _ 3 _ r1 (by omega) (by omega) (by omega) (by omega) (by omega)).mono ?_
  rintro e v2 ⟨g, rfl, hr2, _, hb2⟩
  have ed : dl [5, 2] 3 = [7, 9, 11] := by decide
  rw [ed] at hr2
  have hw2 := hb1.trans (hb2.mono hb1.size)
  have hb3 := below_one v2 (.cells #[.int .i64 3, .int .u64 11, .int .i64 1, .int .u64 7] 68)
  have r3 := rdS_known2 v2 68
  clear hb1 hb2 r1 ed
  go_wp2_with fail
  generalize v2.alloc (.cells #[.int .i64 3, .int .u64 11, .int .i64 1, .int .u64 7] 68) = v3 at *
  refine (cOpenS _ _ _ _ _ _ r3).mono ?_
  rintro e v4 ⟨x, r, rfl, hO, hb4⟩
  obtain ⟨rfl, rfl⟩ := any_open (C := [5, 2]) (k := 1) dis_known (by omega) (by omega) (by simp) hs_known hO
  have ex : nm (ev [5, 2] 0) = 5 := by decide
  rw [ex]
  have hr4 := (hr2.below hb3).below hb4
  have hw4 := (hw2.trans (hb3.mono hw2.size)).trans (hb4.mono (hw2.trans (hb3.mono hw2.size)).size)
  clear hO hr2 hb3 r3 hb4 hw2 ex
  have hb5 := below_one v4 (.cells #[.int .u64 7, .int .u64 9, .int .u64 11] 34)
  have r5 := rd_of3 v4 (x := 7) (y := 9) (z := 11) (by omega) (by omega) (by omega)
  go_wp2_with fail
  generalize v4.alloc (.cells #[.int .u64 7, .int .u64 9, .int .u64 11] 34) = v5 at *
  have hw5 := hw4.trans (hb5.mono hw4.size)
  refine (cSame _ _ _ _ _ _ _ _ (hr4.below hb5) r5).mono ?_
  rintro e v6 ⟨rfl, hb6⟩
  have hw6 := hw5.trans (hb6.mono hw5.size)
  clear hb6 hw5 hb5 r5 hr4 hw4
  go_wp2
  go_ret
  exact ⟨rfl, hw6⟩

theorem own_set2 {w : World} {B n c g : Nat} {E : TypeId} {xs : List Value} (h : w.ownsRow B E 2 (.slice (some ⟨g, 0, none⟩) n c) n xs) (i : Nat) (u : Value) : (w.setCell ⟨g, i, none⟩ u).ownsRow B E 2 (.slice (some ⟨g, 0, none⟩) n c) n (xs.set i u) := by
  refine ⟨by rw [List.length_set]; exact h.1, .inr ?_⟩
  rcases h.2 with ⟨e, _⟩ | ⟨g', cap, cur, e, hb, hg, h1, h2, hs, ht⟩
  · simp at e
  · simp only [Value.slice.injEq, Option.some.injEq, Addr.mk.injEq, and_true, true_and] at e
    obtain ⟨rfl, rfl⟩ := e
    refine ⟨g, c, _, rfl, hb, heap_setCell_same w g i _ _ _ hg, h1, h2, by simpa using hs, ?_⟩
    rw [← ht]
    simp [List.take_set]
theorem own_frozen2 {w : World} {B n c g : Nat} {E : TypeId} {xs : List Value} (h : w.ownsRow B E 2 (.slice (some ⟨g, 0, none⟩) n c) n xs) (i : Nat) : w.frozen? ⟨g, i, none⟩ = false := by
  rcases h.2 with ⟨e, _⟩ | ⟨g', cap, cur, e, hb, hg, _⟩
  · simp at e
  · simp only [Value.slice.injEq, Option.some.injEq, Addr.mk.injEq, and_true, true_and] at e
    obtain ⟨rfl, rfl⟩ := e
    exact frozen_of_row w g i _ _ hg
theorem shc_setY : ∀ (l : List (Int × Int)) (q : Nat) (z : Int), (shc l).set (q * 2 + 1) (.int .u64 z) = shc (l.set q ((l.getD q (0, 0)).1, z))
  | [], q, z => by simp [shc]
  | p :: l, 0, z => rfl
  | p :: l, q + 1, z => by
    have := shc_setY l q z
    have e1 : (q + 1) * 2 + 1 = q * 2 + 1 + 1 + 1 := by omega
    rw [e1]
    show _ :: _ :: (shc l).set (q * 2 + 1) (.int .u64 z) = _
    rw [this]
    rfl
/-- Its address, where there is a share. -/
theorem own_at2 {w : World} {base n : Nat} {E : TypeId} {v : Value} {xs : List Value} (h : w.ownsRow base E 2 v n xs) (hn : 0 < n) : ∃ g c, v = .slice (some ⟨g, 0, none⟩) n c ∧ base ≤ g ∧ g < w.heap.size ∧ n ≤ c ∧ c ≤ maxLen := by
  rcases h.2 with ⟨_, rfl⟩ | ⟨g, cap, cur, rfl, hb, hg, h1, h2, _⟩
  · omega
  · exact ⟨g, cap, rfl, hb, (Array.getElem?_eq_some_iff.1 hg).1, h1, h2⟩
theorem sh_cell {w : World} {base n c g : Nat} {E : TypeId} {l : List (Int × Int)} (h : w.ownsRow base E 2 (.slice (some ⟨g, 0, none⟩) n c) n (shc l)) (hl : l.length = n) {k : Nat} (hk : k < n) :
    w.cell? ⟨g, k * 2, none⟩ = some (.int .i64 (l.getD k (0, 0)).1) ∧ w.cell? ⟨g, k * 2 + 1, none⟩ = some (.int .u64 (l.getD k (0, 0)).2) := by
  have h1 := shc_get l k (by omega)
  have a1 := h.cells (g := g) rfl _ _ h1.1
  have a2 := h.cells (g := g) rfl _ _ h1.2
  rw [Addr.add_lit] at a1 a2
  exact ⟨by simpa using a1, by simpa using a2⟩
end Go.Proofs.YtgmelcdgnjcojagDoor

namespace Go.Proofs.YtgmelcdgnjcojagDoor
open Go.RowKit Crm

theorem two_cells {w : World} {g : Nat} {u v x y : Value} (h0 : w.cell? ⟨g, 0, none⟩ = some u) (h1 : w.cell? ⟨g, 1, none⟩ = some v) :
    ((w.setCell ⟨g, 0, none⟩ x).setCell ⟨g, 1, none⟩ y).cell? ⟨g, 0, none⟩ = some x ∧ ((w.setCell ⟨g, 0, none⟩ x).setCell ⟨g, 1, none⟩ y).cell? ⟨g, 1, none⟩ = some y := by
  refine ⟨?_, ?_⟩
  · rw [World.cell?_setCell_other _ _ _ _ (by simp)]
    exact World.cell?_setCell_same w _ x h0
  · exact World.cell?_setCell_same _ _ y (show (w.setCell ⟨g, 0, none⟩ x).cell? ⟨g, 1, none⟩ = some v by rw [World.cell?_setCell_other _ _ _ _ (by simp)]; exact h1)

/-- What rowOf gives. -/
def RowOf (l : List (Int × List Int)) (n : Nat) (x : Int) (w : World) (e : Ending) (w' : World) : Prop :=
  ((∃ r ai ni ci, r < n ∧ ta l r = x ∧ e = .returned (.tuple #[.agg #[.int .i64 x, .slice ai ni ci], .bool true]) ∧ Rd w' ai ni ci (tc l r)) ∨
   ((∀ r, r < n → ta l r ≠ x) ∧ e = .returned (.tuple #[.agg #[.int .i64 0, .slice none 0 0], .bool false]))) ∧ Below w.heap.size w w'

/-- How many numbers there are besides: by the loop. -/
def nd2 (t : Int) : Nat → Int
  | 0 => -1
  | k + 1 => nd2 t k + (t - k + 1)
theorem nd2_bd : ∀ t, t < 5 → ∀ k, k < 6 → k ≤ t + 1 → -1 ≤ nd2 (t : Nat) k ∧ nd2 (t : Nat) k ≤ 100 := by decide

end Go.Proofs.YtgmelcdgnjcojagDoor

namespace Go.Proofs.YtgmelcdgnjcojagDoor
open Go.RowKit Crm

theorem grown_drewN {a b : World} {r : Option Nat} (h : a.grownBy b r) (q : Nat) : a.grownBy (b.drewN q) r := ⟨h.os, h.tape, h.output, h.size, h.block⟩
set_option maxRecDepth 100000 in
theorem zLess (x y : Int) (w : World) :
    Calls Tryd.prog 130 #[.int .i64 x, .int .i64 y] w fun e w' => e = .returned (.bool (decide (x < y))) ∧ w' = w := by
  have hx : (x != x) = false := by simp
  go_enter Tryd.func130, Tryd.ntmps130
  by_cases h : x < y
  · go_wp2
    go_ret
    exact ⟨by simp [h], rfl⟩
  · go_wp2
    go_ret
    exact ⟨by simp [h], rfl⟩

set_option maxRecDepth 100000 in
set_option maxHeartbeats 1000000 in
theorem zLen64 (x : Nat) (w : World) (hx : x ≤ 12) :
    Calls Tryd.prog 134 #[.int .u64 x] w fun e w' => (∃ r, e = .returned (.int .i64 r)) ∧ w' = w := by
  match x, hx with
  | 0, _ => go_enter Tryd.func134, Tryd.ntmps134; go_wp2; go_ret; exact ⟨⟨_, rfl⟩, rfl⟩
  | 1, _ => go_enter Tryd.func134, Tryd.ntmps134; go_wp2; go_ret; exact ⟨⟨_, rfl⟩, rfl⟩
  | 2, _ => go_enter Tryd.func134, Tryd.ntmps134; go_wp2; go_ret; exact ⟨⟨_, rfl⟩, rfl⟩
  | 3, _ => go_enter Tryd.func134, Tryd.ntmps134; go_wp2; go_ret; exact ⟨⟨_, rfl⟩, rfl⟩
  | 4, _ => go_enter Tryd.func134, Tryd.ntmps134; go_wp2; go_ret; exact ⟨⟨_, rfl⟩, rfl⟩
  | 5, _ => go_enter Tryd.func134, Tryd.ntmps134; go_wp2; go_ret; exact ⟨⟨_, rfl⟩, rfl⟩
  | 6, _ => go_enter Tryd.func134, Tryd.ntmps134; go_wp2; go_ret; exact ⟨⟨_, rfl⟩, rfl⟩
  | 7, _ => go_enter Tryd.func134, Tryd.ntmps134; go_wp2; go_ret; exact ⟨⟨_, rfl⟩, rfl⟩
  | 8, _ => go_enter Tryd.func134, Tryd.ntmps134; go_wp2; go_ret; exact ⟨⟨_, rfl⟩, rfl⟩
  | 9, _ => go_enter Tryd.func134, Tryd.ntmps134; go_wp2; go_ret; exact ⟨⟨_, rfl⟩, rfl⟩
  | 10, _ => go_enter Tryd.func134, Tryd.ntmps134; go_wp2; go_ret; exact ⟨⟨_, rfl⟩, rfl⟩
  | 11, _ => go_enter Tryd.func134, Tryd.ntmps134; go_wp2; go_ret; exact ⟨⟨_, rfl⟩, rfl⟩
  | 12, _ => go_enter Tryd.func134, Tryd.ntmps134; go_wp2; go_ret; exact ⟨⟨_, rfl⟩, rfl⟩

set_option maxRecDepth 100000 in
theorem zLen (x : Nat) (w : World) (hx : x ≤ 12) :
    Calls Tryd.prog 121 #[.int .u64 x] w fun e w' => (∃ r, e = .returned (.int .i64 r)) ∧ w' = w := by
  go_enter Tryd.func121, Tryd.ntmps121
  go_wp2_with (go_at_call 134; refine (zLen64 _ _ hx).mono ?_; rintro e w3 ⟨⟨r, rfl⟩, hw⟩; have hw := hw.symm; subst hw)
  go_ret
  exact ⟨⟨_, rfl⟩, rfl⟩

set_option maxRecDepth 100000 in
set_option maxHeartbeats 1000000 in
theorem zIns (g n c base : Nat) (L : List Int) (w : World) (h : w.ownsRow base 3 1 (.slice (some ⟨g, 0, none⟩) n c) n (zns L)) (hn : n ≤ 12) :
    Calls Tryd.prog 124 #[.slice (some ⟨g, 0, none⟩) n c, .int .i64 0, .int .i64 n] w fun e w' => e = .returned (.tuple #[]) ∧ ∃ L', OuI L L' n ∧ w'.ownsRow base 3 1 (.slice (some ⟨g, 0, none⟩) n c) n (zns L') ∧ w.grownBy w' (some g) := by
  have hlL : L.length = n := by have := h.1; rw [zns_len] at this; omega
  have hcap : n ≤ c ∧ c ≤ maxLen := by
    rcases h.2 with ⟨e, _⟩ | ⟨_, _, _, e, _, _, h1, h2, _⟩
    · simp at e
    · simp only [Value.slice.injEq, true_and] at e
      obtain ⟨_, rfl⟩ := e
      exact ⟨h1, h2⟩
  unfold maxLen at hcap
  go_enter Tryd.func124, Tryd.ntmps124
  go_wp2
  go_loopw [6] (fun i wr => ∃ (k : Nat) (L' : List Int), 1 ≤ k ∧ k ≤ n + 1 ∧ i = .int .i64 k ∧ Hid (OuI L L' k) ∧ wr.ownsRow base 3 1 (.slice (some ⟨g, 0, none⟩) n c) n (zns L') ∧ w.grownBy wr (some g)) (fun i _ => n + 1 - (intOf i).toNat)
  case atStart => exact ⟨1, L, Nat.le_refl _, by omega, rfl, ⟨List.Perm.refl _, fun p q h1 h2 => by omega⟩, h, grown_below (Below.refl _ _) _⟩
  case round =>
    obtain ⟨k, L1, hk1, hkn, rfl, HO, hown, hgr⟩ := hrel
    by_cases hlt : k < n
    · have HI0 : Hid (InI L L1 k k) := in_start HO.out
      go_wp2
      obtain ⟨wo, hwo⟩ : ∃ wo, wo = wr := ⟨_, rfl⟩
      subst hwo
      go_loopw [7] (fun i wr => ∃ (j : Nat) (L' : List Int), j ≤ k ∧ i = .int .i64 j ∧ Hid (InI L L' k j) ∧ wr.ownsRow base 3 1 (.slice (some ⟨g, 0, none⟩) n c) n (zns L') ∧ w.grownBy wr (some g)) (fun i _ => (intOf i).toNat)
      case atStart => exact ⟨k, L1, Nat.le_refl _, rfl, HI0, hown, hgr⟩
      case round =>
        clear HI0 HO hown hgr
        obtain ⟨j, L2, hj, rfl, HI, hown, hgr⟩ := hrel
        have hl2 : L2.length = n := by have := hown.1; rw [zns_len] at this; omega
        cases j with
        | zero =>
          have HO2 : Hid (OuI L L2 (k + 1)) := in_end0 HI.out
          go_wp2
          go_quiet (fail)
          all_goals
            go_wp2
            go_roundw
            case rel => exact ⟨k + 1, L2, by omega, by omega, by go_num, HO2, hown, grown_drewN hgr _⟩
            case measure => simp [intOf]; omega
        | succ m =>
          obtain ⟨x, HX⟩ : ∃ x, Hid (L2.getD (m + 1) 0 = x) := ⟨_, rfl⟩
          obtain ⟨y, HY⟩ : ∃ y, Hid (L2.getD m 0 = y) := ⟨_, rfl⟩
          have hcx := zns_at hown (show m + 1 < n by omega)
          have hcy := zns_at hown (show m < n by omega)
          rw [HX.out] at hcx
          rw [HY.out] at hcy
          by_cases hxy : x < y
          · have hdec : decide (x < y) = true := by simp [hxy]
            have HI2 : Hid (InI L (swp L2 m) k m) := in_step HI.out (by omega) (by omega) (by rw [HX.out, HY.out]; exact hxy)
            clear hxy
            go_wp2
            go_quiet ((go_at_call 130; exact Calls.quiet_of_same (zLess _ _ _)))
            have hcx2 : (wr.drewN nq).cell? ⟨g, m + 1, none⟩ = some (.int .i64 x) := hcx
            have hcy2 : (wr.drewN nq).cell? ⟨g, m, none⟩ = some (.int .i64 y) := hcy
            have hown2 : (wr.drewN nq).ownsRow base 3 1 (.slice (some ⟨g, 0, none⟩) n c) n (zns L2) := hown
            have hgr2 := grown_drewN hgr nq
            generalize wr.drewN nq = wd at *
            have hf1 := own_frozen hown2 (m + 1)
            have hf2 := own_frozen hown2 m
            have hown3 := own_set (own_set hown2 (m + 1) (.int .i64 y)) m (.int .i64 x)
            have hgr3 := grown_trans hgr2 (grown_trans (grown_set wd g (m + 1) (.int .i64 y)) (grown_set _ g m (.int .i64 x)))
            have HE : Hid ((L2.set (m + 1) y).set m x = swp L2 m) := by unfold Hid swp; rw [HX.out, HY.out]
            rw [zns_set, zns_set, HE.out] at hown3
            go_wp2
            go_region
            all_goals
              go_wp2
              go_roundw
              case rel => exact ⟨m, _, by omega, by go_num, HI2, hown3, by first | exact hgr3 | exact grown_drew hgr3⟩
              case measure => simp [intOf]
          · have hdec : decide (x < y) = false := by simp; omega
            have HO2 : Hid (OuI L L2 (k + 1)) := in_end HI.out (by omega) (by rw [HX.out, HY.out]; omega)
            clear hxy
            go_wp2
            go_quiet ((go_at_call 130; exact Calls.quiet_of_same (zLess _ _ _)))
            all_goals
              go_wp2
              go_roundw
              case rel => exact ⟨k + 1, L2, by omega, by omega, by go_num, HO2, hown, grown_drewN hgr _⟩
              case measure => simp [intOf]; omega
    · have HO2 : Hid (OuI L L1 n) := ⟨HO.out.perm, fun p q h1 h2 => HO.out.srt p q h1 (by omega)⟩
      go_wp2
      exact bodyPost_end (v := .tuple #[]) (by simp [results, Tryd.results124, go_sem]) rfl ⟨rfl, L1, HO2.out, hown, hgr⟩

/-- What Sort leaves: the same ints, in order. -/
def Sorted_ (base n : Nat) (v : Value) (L : List Int) (w : World) (e : Ending) (w' : World) : Prop :=
  e = .returned (.tuple #[]) ∧ ∃ L', OuI L L' n ∧ w'.ownsRow base 3 1 v n (zns L') ∧ w.grownBy w' v.ownBlock

set_option maxRecDepth 100000 in
theorem zPdq (g n c base : Nat) (L : List Int) (r : Int) (w : World) (h : w.ownsRow base 3 1 (.slice (some ⟨g, 0, none⟩) n c) n (zns L)) (hn : n ≤ 12) :
    Calls Tryd.prog 120 #[.slice (some ⟨g, 0, none⟩) n c, .int .i64 0, .int .i64 n, .int .i64 r] w fun e w' => Sorted_ base n (.slice (some ⟨g, 0, none⟩) n c) L w e w' := by
  go_enter Tryd.func120, Tryd.ntmps120
  go_wp2
  go_loopw [1, 2] (fun a b wr => a = .int .i64 0 ∧ b = .int .i64 n ∧ wr = w) (fun _ _ _ => 0)
  case atStart => exact ⟨rfl, rfl, rfl⟩
  case round =>
    obtain ⟨rfl, rfl, hw⟩ := hrel
    subst hw
    go_wp2_with fail
    refine (zIns _ _ _ _ _ _ h hn).mono ?_
    rintro e w1 ⟨rfl, L', hO, hown, hgr⟩
    go_wp2
    exact bodyPost_ret (v := .tuple #[]) (by simp [results, Tryd.results120, go_sem]) rfl ⟨rfl, L', hO, hown, hgr⟩

set_option maxRecDepth 100000 in
theorem zSort (g n c base : Nat) (L : List Int) (w : World) (h : w.ownsRow base 3 1 (.slice (some ⟨g, 0, none⟩) n c) n (zns L)) (hn : n ≤ 12) :
    Calls Tryd.prog 113 #[.slice (some ⟨g, 0, none⟩) n c] w fun e w' => Sorted_ base n (.slice (some ⟨g, 0, none⟩) n c) L w e w' := by
  go_enter Tryd.func113, Tryd.ntmps113
  go_wp2_with fail
  refine (zLen _ _ hn).mono ?_
  rintro e w3 ⟨⟨r, rfl⟩, hw⟩
  have hw := hw.symm
  subst hw
  go_wp2_with fail
  refine (zPdq _ _ _ _ _ _ _ h hn).mono ?_
  rintro e w1 ⟨rfl, L', hO, hown, hgr⟩
  go_wp2
  exact bodyPost_end (v := .tuple #[]) (by simp [results, Tryd.results113, go_sem]) rfl ⟨rfl, L', hO, hown, hgr⟩

set_option maxRecDepth 100000 in
theorem zIns0 (a : Option Addr) (c : Nat) (w : World) :
    Calls Tryd.prog 124 #[.slice a 0 c, .int .i64 0, .int .i64 0] w fun e w' => e = .returned (.tuple #[]) ∧ w' = w := by
  go_enter Tryd.func124, Tryd.ntmps124
  go_wp2
  go_loopw [6] (fun i wr => i = .int .i64 1 ∧ wr = w) (fun _ _ => 0)
  case atStart => exact ⟨rfl, rfl⟩
  case round =>
    obtain ⟨rfl, hw⟩ := hrel
    subst hw
    go_wp2
    exact bodyPost_end (v := .tuple #[]) (by simp [results, Tryd.results124, go_sem]) rfl ⟨rfl, rfl⟩
set_option maxRecDepth 100000 in
theorem zPdq0 (a : Option Addr) (c : Nat) (r : Int) (w : World) :
    Calls Tryd.prog 120 #[.slice a 0 c, .int .i64 0, .int .i64 0, .int .i64 r] w fun e w' => e = .returned (.tuple #[]) ∧ w' = w := by
  go_enter Tryd.func120, Tryd.ntmps120
  go_wp2
  go_loopw [1, 2] (fun x b wr => x = .int .i64 0 ∧ b = .int .i64 0 ∧ wr = w) (fun _ _ _ => 0)
  case atStart => exact ⟨rfl, rfl, rfl⟩
  case round =>
    obtain ⟨rfl, rfl, hw⟩ := hrel
    subst hw
    go_wp2_with fail
    refine (zIns0 _ _ _).mono ?_
    rintro e w1 ⟨rfl, hw⟩
    have hw := hw.symm
    subst hw
    go_wp2
    exact bodyPost_ret (v := .tuple #[]) (by simp [results, Tryd.results120, go_sem]) rfl ⟨rfl, rfl⟩
set_option maxRecDepth 100000 in
theorem zSort0 (a : Option Addr) (c : Nat) (w : World) :
    Calls Tryd.prog 113 #[.slice a 0 c] w fun e w' => e = .returned (.tuple #[]) ∧ w' = w := by
  go_enter Tryd.func113, Tryd.ntmps113
  go_wp2_with fail
  refine (zLen 0 _ (by omega)).mono ?_
  rintro e w3 ⟨⟨r, rfl⟩, hw⟩
  have hw := hw.symm
  subst hw
  go_wp2_with fail
  refine (zPdq0 _ _ _ _).mono ?_
  rintro e w1 ⟨rfl, hw⟩
  have hw := hw.symm
  subst hw
  go_wp2
  exact bodyPost_end (v := .tuple #[]) (by simp [results, Tryd.results113, go_sem]) rfl ⟨rfl, rfl⟩

/-- Sort of what a call has gathered, nil too. -/
theorem zSorts (v : Value) (n base : Nat) (L : List Int) (w : World) (h : w.ownsRow base 3 1 v n (zns L)) (hn : n ≤ 12) :
    Calls Tryd.prog 113 #[v] w fun e w' => Sorted_ base n v L w e w' := by
  rcases h.2 with ⟨rfl, rfl⟩ | ⟨g, cap, cur, rfl, _⟩
  · refine (zSort0 _ _ _).mono ?_
    rintro e w' ⟨rfl, rfl⟩
    exact ⟨rfl, L, ⟨List.Perm.refl _, fun p q _ hq => by omega⟩, h, grown_below (Below.refl _ _) _⟩
  · exact zSort _ _ _ _ _ _ h hn
end Go.Proofs.YtgmelcdgnjcojagDoor
