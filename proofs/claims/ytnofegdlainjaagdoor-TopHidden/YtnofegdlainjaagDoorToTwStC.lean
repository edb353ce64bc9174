/- shamir.Open. · croftkeep.dealt; shares that are written. · twine.starts: lists of two-cell elements that are made and then written. -/
import Derived.Test.YtnofegdlainjaagDoorToCheckC
import Derived.Test.YtnofegdlainjaagDoorToThroughC
import Derived.Test.YtnofegdlainjaagDoorToPadC
import Derived.Test.YtnofegdlainjaagDoorToTJoinC
import Derived.Test.YtnofegdlainjaagDoorToAnyM
import Derived.Test.YtnofegdlainjaagDoorToTwoC
import Derived.Deep.RegionHeld3
namespace Go.Proofs.YtnofegdlainjaagDoor
open Go.RowKit Crm

set_option maxRecDepth 100000 in
set_option maxHeartbeats 1000000 in
theorem cOpenS (a : Option Addr) (n c : Nat) (l : List (Int × Int)) (t : Int) (w : World) (h : RdS w a n c l) :
    Calls Tryd.prog 41 #[.int .i64 t, .slice a n c] w fun e w' => ∃ x r, e = .returned (.tuple #[.int .u64 x, .int .i64 r]) ∧ Opn l n t x r ∧ Below w.heap.size w w' := by
  go_enter Tryd.func41, Tryd.ntmps41
  go_wp2_with fail
  refine (cCheckS _ _ _ _ _ _ h).mono ?_
  rintro e w1 ⟨r, rfl, hS, hb1⟩
  by_cases hr : r = 0
  · subst hr
    have HS : Hid (She l n t 0) := hS
    obtain ⟨t0, t4, hd, htn, hn9⟩ := hS.ok
    have HD : Hid (okk l n) := dis_okk hd
    clear hd hS
    go_wp2_with fail
    refine (cThroughOK _ _ _ _ _ (h.below hb1) (by omega) HD.out).mono ?_
    rintro e w2 ⟨S, g, rfl, hls, hbs, hvs, hr2, hb2⟩
    have HO : Hid (_ ∧ _) := opn_newton HS.out hls hbs hvs
    have hb12 := hb1.trans (hb2.mono hb1.size)
    have htl := tl_le S n
    obtain ⟨T, hT⟩ : ∃ T, T = tl S n := ⟨_, rfl⟩
    rw [← hT] at hr2 HO htl ⊢
    clear hls hbs hvs hb1 hb2 hT
    by_cases hlt : (T : Int) ≤ t + 1
    · have HN : Hid (Opn l n t (nm (ev (trm S) 0)) 0) := HO.out.1 hlt
      clear HO
      go_wp2_with fail
      refine (cEvalOK _ _ _ _ _ _ hr2 (by omega) (by omega) (by omega)).mono ?_
      rintro e w3 ⟨rfl, hb3⟩
      have hb13 := hb12.trans (hb3.mono hb12.size)
      clear hb3 hr2
      go_wp2
      go_ret2
      exact ⟨_, _, rfl, HN.out, hb13⟩
    · have HN : Hid (Opn l n t 0 6) := HO.out.2 (by omega)
      clear HO
      go_wp2
      go_ret2
      exact ⟨_, _, rfl, HN.out, hb12⟩
  · have hrb : (r != 0) = true := by rw [bne_iff_ne]; exact hr
    have HS : Hid (Opn l n t 0 r) := Or.inl ⟨hS, hr, rfl⟩
    clear hr hS
    go_wp2
    go_ret2
    exact ⟨_, _, rfl, HS.out, hb1⟩
end Go.Proofs.YtnofegdlainjaagDoor

namespace Go.Proofs.YtnofegdlainjaagDoor
open Go.RowKit Crm

theorem rdS_known2 (w : World) (E : TypeId) : RdS (w.alloc (.cells #[.int .i64 3, .int .u64 11, .int .i64 1, .int .u64 7] E)) (some ⟨w.heap.size, 0, none⟩) 2 2 [(3, 11), (1, 7)] := by
  refine ⟨rfl, Nat.le_refl _, by unfold maxLen; omega, fun i hi => ?_, by simp, fun x hx i hi => ?_⟩
  · match i, hi with
    | 0, _ => decide
    | 1, _ => decide
  · obtain rfl := Option.some.inj hx
    rw [Addr.add_lit, Addr.add_lit, cell_of_row _ _ _ _ E (0, 0) (heap_alloc_new w _), cell_of_row _ _ _ _ E (0, 0) (heap_alloc_new w _)]
    match i, hi with
    | 0, _ => exact ⟨rfl, rfl⟩
    | 1, _ => exact ⟨rfl, rfl⟩
theorem dis_known : dis (fa [(3, 11), (1, 7)]) 2 := by
  intro i hi
  match i, hi with
  | 0, _ => exact ⟨by decide, fun j hj => by omega⟩
  | 1, _ => exact ⟨by decide, fun j hj => by
      match j, hj with
      | 0, _ => decide⟩
theorem hs_known : Hs [(3, 11), (1, 7)] 2 [5, 2] := by
  intro j hj
  match j, hj with
  | 0, _ => decide
  | 1, _ => decide

set_option maxRecDepth 100000 in
set_option maxHeartbeats 1000000 in
theorem kDealt (w : World) : Calls Tryd.prog 8 #[] w fun e w' => e = .returned (.bool true) ∧ Below w.heap.size w w' := by
  have hb1 := below_one w (.cells #[.int .u64 2] 34)
  have r1 : Rd (w.alloc (.cells #[.int .u64 2] 34)) (some ⟨w.heap.size, 0, none⟩) 1 1 [2] := (Blk.lit1 w 2).whole 1 rfl (by unfold maxLen; omega) (fun u hu => by rw [List.mem_singleton.1 hu]; omega)
  go_enter Tryd.func8, Tryd.ntmps8
  go_wp2_with fail
  generalize w.alloc (.cells #[.int .u64 2] 34) = v1 at *
  refine (cDealOK 5 _ _ _ _ 3 _ r1 (by omega) (by omega) (by omega) (by omega) (by omega)).mono ?_
  rintro e v2 ⟨g, rfl, hr2, _, hb2⟩
  have ed : dl [5, 2] 3 = [7, 9, 11] := by decide
  rw [ed] at hr2
  have hw2 := hb1.trans (hb2.mono hb1.size)
  have hb3 := below_one v2 (.cells #[.int .i64 3, .int .u64 11, .int .i64 1, .int .u64 7] 68)
  have r3 := rdS_known2 v2 68
  clear hb1 hb2 r1 ed
  go_wp2_with fail
  generalize v2.alloc (.cells #[.int .i64 3, .int .u64 11, .int .i64 1, .int .u64 7] 68) = v3 at *
  refine (cOpenS _ _ _ _ _ _ r3).mono ?_
  rintro e v4 ⟨x, r, rfl, hO, hb4⟩
  obtain ⟨rfl, rfl⟩ := any_open (C := [5, 2]) (k := 1) dis_known (by omega) (by omega) (by simp) hs_known hO
  have ex : nm (ev [5, 2] 0) = 5 := by decide
  rw [ex]
  have hr4 := (hr2.below hb3).below hb4
  have hw4 := (hw2.trans (hb3.mono hw2.size)).trans (hb4.mono (hw2.trans (hb3.mono hw2.size)).size)
  clear hO hr2 hb3 r3 hb4 hw2 ex
  have hb5 := below_one v4 (.cells #[.int .u64 7, .int .u64 9, .int .u64 11] 34)
  have r5 := rd_of3 v4 (x := 7) (y := 9) (z := 11) (by omega) (by omega) (by omega)
  go_wp2_with fail
  generalize v4.alloc (.cells #[.int .u64 7, .int .u64 9, .int .u64 11] 34) = v5 at *
  have hw5 := hw4.trans (hb5.mono hw4.size)
  refine (cSame _ _ _ _ _ _ _ _ (hr4.below hb5) r5).mono ?_
  rintro e v6 ⟨rfl, hb6⟩
  have hw6 := hw5.trans (hb6.mono hw5.size)
  clear hb6 hw5 hb5 r5 hr4 hw4
  go_wp2
  go_ret
  exact ⟨rfl, hw6⟩

theorem own_set2 {w : World} {B n c g : Nat} {E : TypeId} {xs : List Value} (h : w.ownsRow B E 2 (.slice (some ⟨g, 0, none⟩) n c) n xs) (i : Nat) (u : Value) : (w.setCell ⟨g, i, none⟩ u).ownsRow B E 2 (.slice (some ⟨g, 0, none⟩) n c) n (xs.set i u) := by
  refine ⟨by rw [List.length_set]; exact h.1, .inr ?_⟩
  rcases h.2 with ⟨e, _⟩ | ⟨g', cap, cur, e, hb, hg, h1, h2, hs, ht⟩
  · simp at e
  · simp only [Value.slice.injEq, Option.some.injEq, Addr.mk.injEq, and_true, true_and] at e
    obtain ⟨rfl, rfl⟩ := e
    refine ⟨g, c, _, rfl, hb, heap_setCell_same w g i _ _ _ hg, h1, h2, by simpa using hs, ?_⟩
    rw [← ht]
    simp [List.take_set]
theorem own_frozen2 {w : World} {B n c g : Nat} {E : TypeId} {xs : List Value} (h : w.ownsRow B E 2 (.slice (some ⟨g, 0, none⟩) n c) n xs) (i : Nat) : w.frozen? ⟨g, i, none⟩ = false := by
  rcases h.2 with ⟨e, _⟩ | ⟨g', cap, cur, e, hb, hg, _⟩
  · simp at e
  · simp only [Value.slice.injEq, Option.some.injEq, Addr.mk.injEq, and_true, true_and] at e
    obtain ⟨rfl, rfl⟩ := e
    exact frozen_of_row w g i _ _ hg
theorem shc_setY : ∀ (l : List (Int × Int)) (q : Nat) (z : Int), (shc l).set (q * 2 + 1) (.int .u64 z) = shc (l.set q ((l.getD q (0, 0)).1, z))
  | [], q, z => by simp [shc]
  | p :: l, 0, z => rfl
  | p :: l, q + 1, z => by
    have := shc_setY l q z
    have e1 : (q + 1) * 2 + 1 = q * 2 + 1 + 1 + 1 := by omega
    rw [e1]
    show _ :: _ :: (shc l).set (q * 2 + 1) (.int .u64 z) = _
    rw [this]
    rfl
/-- Its address, where there is a share. -/
theorem own_at2 {w : World} {base n : Nat} {E : TypeId} {v : Value} {xs : List Value} (h : w.ownsRow base E 2 v n xs) (hn : 0 < n) : ∃ g c, v = .slice (some ⟨g, 0, none⟩) n c ∧ base ≤ g ∧ g < w.heap.size ∧ n ≤ c ∧ c ≤ maxLen := by
  rcases h.2 with ⟨_, rfl⟩ | ⟨g, cap, cur, rfl, hb, hg, h1, h2, _⟩
  · omega
  · exact ⟨g, cap, rfl, hb, (Array.getElem?_eq_some_iff.1 hg).1, h1, h2⟩
theorem sh_cell {w : World} {base n c g : Nat} {E : TypeId} {l : List (Int × Int)} (h : w.ownsRow base E 2 (.slice (some ⟨g, 0, none⟩) n c) n (shc l)) (hl : l.length = n) {k : Nat} (hk : k < n) :
    w.cell? ⟨g, k * 2, none⟩ = some (.int .i64 (l.getD k (0, 0)).1) ∧ w.cell? ⟨g, k * 2 + 1, none⟩ = some (.int .u64 (l.getD k (0, 0)).2) := by
  have h1 := shc_get l k (by omega)
  have a1 := h.cells (g := g) rfl _ _ h1.1
  have a2 := h.cells (g := g) rfl _ _ h1.2
  rw [Addr.add_lit] at a1 a2
  exact ⟨by simpa using a1, by simpa using a2⟩
end Go.Proofs.YtnofegdlainjaagDoor

namespace Go.Proofs.YtnofegdlainjaagDoor
open Go.RowKit Crm

theorem made2 (u v : Value) : ∀ n, (madeCells #[u, v] (n * 2)).toList = (List.replicate n ()).flatMap fun _ => [u, v]
  | 0 => by simp [madeCells]
  | n + 1 => by
    have h : ∀ m, (madeCells #[u, v] m).toList = (List.range m).map fun i => (#[u, v] : Array Value)[i % 2]! := fun m => by simp [madeCells]
    have ih := made2 u v n
    have e : (n + 1) * 2 = n * 2 + 1 + 1 := by omega
    rw [h] at ih
    rw [h, e, List.range_succ, List.range_succ, List.map_append, List.map_append, ih, List.replicate_succ', List.flatMap_append]
    have e0 : n * 2 % 2 = 0 := by omega
    have e1 : (n * 2 + 1) % 2 = 1 := by omega
    simp [e0, e1]
theorem made2_shc (n : Nat) : (madeCells (Value.agg #[.int .i64 0, .int .u64 0]).cells (n * 2)).toList = shc (List.replicate n (0, 0)) := by
  have e : (Value.agg #[.int .i64 0, .int .u64 0]).cells = #[.int .i64 0, .int .u64 0] := rfl
  rw [e, made2]
  induction n with
  | zero => rfl
  | succ n ih => rw [List.replicate_succ, List.replicate_succ, List.flatMap_cons, ih]; rfl
theorem shc_set2 : ∀ (l : List (Int × Int)) (q : Nat) (x z : Int), ((shc l).set (q * 2) (.int .i64 x)).set (q * 2 + 1) (.int .u64 z) = shc (l.set q (x, z))
  | [], q, x, z => by simp [shc]
  | p :: l, 0, x, z => rfl
  | p :: l, q + 1, x, z => by
    have := shc_set2 l q x z
    have e1 : (q + 1) * 2 = q * 2 + 1 + 1 := by omega
    rw [e1]
    show _ :: _ :: ((shc l).set (q * 2) (.int .i64 x)).set (q * 2 + 1) (.int .u64 z) = _
    rw [this]
    rfl
/-- A list of shares that is filled from its beginning on. -/
def fils (f : Nat → Int × Int) (n k : Nat) : List (Int × Int) := (List.range n).map fun i => if i < k then f i else (0, 0)
theorem fils_len (f : Nat → Int × Int) (n k : Nat) : (fils f n k).length = n := by simp [fils]
theorem fils_zero (f : Nat → Int × Int) (n : Nat) : List.replicate n (0, 0) = fils f n 0 := by
  apply List.ext_getElem?
  intro i
  by_cases hi : i < n
  · simp [fils, hi]
  · simp [fils, hi]
theorem fils_set {f : Nat → Int × Int} {n k : Nat} (v : Int × Int) (hv : v = f k) : (fils f n k).set k v = fils f n (k + 1) := by
  apply List.ext_getElem?
  intro i
  rw [List.getElem?_set]
  by_cases hi : i < n
  · by_cases e : k = i
    · subst e; simp [fils, hi, hv]
    · have : (i < k + 1) = (i < k) := by apply propext; omega
      simp [fils, hi, e, this]
  · by_cases e : k = i
    · subst e; simp [fils, hi]
    · simp [fils, hi, e]
theorem fils_full (f : Nat → Int × Int) (n : Nat) : fils f n n = (List.range n).map f := by
  unfold fils
  refine List.map_congr_left fun i hi => ?_
  rw [if_pos (List.mem_range.1 hi)]

set_option maxRecDepth 100000 in
set_option maxHeartbeats 1000000 in
theorem cStarts (a : Option Addr) (n c : Nat) (l : List (Int × List Int)) (w : World) (h : RdW w a n c l) (hn : n ≤ 9) (hw : ∀ i, i < n → 1 ≤ (tc l i).length) :
    Calls Tryd.prog 71 #[.slice a n c] w fun e w' => ∃ b d, e = .returned (.slice b n d) ∧ RdS w' b n d (colS l 0 n) ∧ Below w.heap.size w w' := by
  obtain ⟨i0, hi, hz0, hz1, hz2⟩ := info_parts infoSh
  have HW : Hid (∀ i, i < n → 1 ≤ (tc l i).length) := hw
  have hcap := h.cap
  clear hw
  go_enter Tryd.func71, Tryd.ntmps71
  go_wp2_with (at_make; refine wpList_make_full _ rfl _ _ 66 rfl w.heap.size 68 i0 (.agg #[.int .i64 0, .int .u64 0]) 2 Tryd.underlying66 hi hz0 hz1 .i64 .i64 _ _ n rfl rfl (by omega) (by omega) (by rw [hz2]; omega) (by unfold maxLen; omega) (Nat.le_refl _) ?_; intro w1 hown hgrow; rw [made2_shc, fils_zero (fun r => (ta l r, (tc l r).getD 0 0))] at hown; have hb1 : Below w.heap.size w w1 := (Below.refl _ _).grown hgrow (Nat.le_refl _) (by simp); clear hgrow)
  obtain ⟨F, HF⟩ : ∃ F : Nat → Int × Int, Hid ((fun r => (ta l r, (tc l r).getD 0 0)) = F) := ⟨_, rfl⟩
  rw [HF.out] at hown
  go_loopw [11] (fun i wr => ∃ k : Nat, k ≤ n ∧ i = .int .i64 k ∧ wr.ownsRow w.heap.size 68 2 (.slice (some ⟨w.heap.size, 0, none⟩) n n) n (shc (fils F n k)) ∧ Below w.heap.size w wr) (fun i _ => n - (intOf i).toNat)
  case atStart => exact ⟨0, Nat.zero_le _, rfl, hown, hb1⟩
  case round =>
    clear hown hb1
    obtain ⟨k, hk, rfl, hown, hbel⟩ := hrel
    have hs1 := hbel.size
    by_cases hlt : k < n
    · obtain ⟨b, o, x, ai, ni, ci, row, rfl, hbb, HX, HRow, hx0, hx1, hcx, hcr, hrow⟩ := (h.below hbel).one hlt
      have hni : 1 ≤ ni := by have := HW.out k hlt; rw [HRow.out, hrow.len] at this; exact this
      have hbA0 : Below wr.heap.size wr (wr.alloc (.cells #[.int .i64 x, .slice ai ni ci] 80)) := (Below.refl _ _).alloc (Nat.le_refl _) _
      have hbA := hbel.trans (hbA0.mono hs1)
      have hownA := own_below2 hown hbA0
      have hcA0 := cell_alloc0 wr (.int .i64 x) (.slice ai ni ci) 80
      have hcA1 := cell_alloc1 wr (.int .i64 x) (.slice ai ni ci) 80
      obtain ⟨b2, o2, y, rfl, hbb2, HY, hy0, hy1, hcy⟩ := (hrow.below hbA0).one (show 0 < ni by omega)
      have hFk : (x, y) = F k := by rw [← HF.out]; show (x, y) = (ta l k, (tc l k).getD 0 0); rw [HX.out, HRow.out, HY.out]
      obtain ⟨d0, d1⟩ := sh_cell hownA (fils_len F n k) hlt
      have ef0 := own_frozen2 hownA (k * 2)
      have ef1 := own_frozen2 hownA (k * 2 + 1)
      have hown8 := own_set2 (own_set2 hownA (k * 2) (.int .i64 x)) (k * 2 + 1) (.int .u64 y)
      rw [shc_set2, fils_set (x, y) hFk] at hown8
      have Hown8 : Hid (World.ownsRow _ _ _ _ _ _ _) := hown8
      have Hb8 : Hid (Below _ _ _) := (hbA.setCell (p := ⟨w.heap.size, k * 2, none⟩) (Nat.le_refl _) (.int .i64 x)).setCell (p := ⟨w.heap.size, k * 2 + 1, none⟩) (Nat.le_refl _) (.int .u64 y)
      rw [Nat.add_zero] at hcy
      have hn0 : 0 < ni := hni
      have hbb2' : b2 < (wr.alloc (.cells #[.int .i64 x, .slice (some ⟨b2, o2, none⟩) ni ci] 80)).heap.size := hbb2
      clear hown hownA hown8 hFk hbA0 hbb2
      go_wp2
      generalize wr.alloc (.cells #[.int .i64 x, .slice (some ⟨b2, o2, none⟩) ni ci] 80) = W at *
      clear hcx hcr hrow
      go_region
      all_goals
        have hown9 : World.ownsRow _ _ _ _ _ _ _ := Hown8.out
        have hb9 := Hb8.out.drew
        clear hbA hcA0 hcA1 hcy d0 d1 ef0 ef1 Hown8 Hb8
        go_wp2
        go_roundw
        case rel => exact ⟨k + 1, by omega, by go_num, hown9, hb9⟩
        case measure => simp [intOf]; omega
    · have hkn : k = n := by omega
      subst hkn
      obtain ⟨b, d, e, hr⟩ := RdS.own hown (fils_len F k k) (fun r hr => by
        rw [fils_full, ← HF.out]
        have h1 := h.bd r hr
        have h2 := getD_bd (h.nbd hr) 0
        simp only [List.getD_eq_getElem?_getD, List.getElem?_map, List.getElem?_range hr, Option.map_some, Option.getD_some]
        exact ⟨h1, h2⟩)
      rw [fils_full, ← HF.out] at hr
      simp only [Value.slice.injEq, true_and] at e
      obtain ⟨rfl, rfl⟩ := e
      have hr2 : RdS wr (some ⟨w.heap.size, 0, none⟩) k k (colS l 0 k) := hr
      clear hr hown
      go_wp2
      go_ret
      exact ⟨_, _, rfl, hr2, hbel⟩
end Go.Proofs.YtnofegdlainjaagDoor
