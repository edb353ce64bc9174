/- croftkeep.dealt; shares that are written. · The walk of croftkeep.ShamirTells. -/
import Derived.Test.YtljlioglpaogdadToOpenC
import Derived.Test.YtljlioglpaogdadToIntsC
import Derived.Test.YtljlioglpaogdadCrewC
namespace Go.Proofs.Ytljlioglpaogdad
set_option linter.unusedVariables false
set_option maxRecDepth 100000
set_option maxHeartbeats 8000000
section
open Crm Go.RowKit
theorem rdS_known2 (w : World) (E : TypeId) : RdS (w.alloc (.cells #[.int .i64 3, .int .u64 11, .int .i64 1, .int .u64 7] E)) (some ⟨w.heap.size, 0, none⟩) 2 2 [(3, 11), (1, 7)] := by
  refine ⟨rfl, Nat.le_refl _, by unfold maxLen; omega, fun i hi => ?_, by simp, fun x hx i hi => ?_⟩
  · match i, hi with
    | 0, _ => decide
    | 1, _ => decide
  · obtain rfl := Option.some.inj hx
    rw [Addr.add_lit, Addr.add_lit, cell_of_row _ _ _ _ E (0, 0) (heap_alloc_new w _), cell_of_row _ _ _ _ E (0, 0) (heap_alloc_new w _)]
    match i, hi with
    | 0, _ => exact ⟨rfl, rfl⟩
    | 1, _ => exact ⟨rfl, rfl⟩
theorem dis_known : dis (fa [(3, 11), (1, 7)]) 2 := by
  intro i hi
  match i, hi with
  | 0, _ => exact ⟨by decide, fun j hj => by omega⟩
  | 1, _ => exact ⟨by decide, fun j hj => by
      match j, hj with
      | 0, _ => decide⟩
theorem hs_known : Hs [(3, 11), (1, 7)] 2 [5, 2] := by
  intro j hj
  match j, hj with
  | 0, _ => decide
  | 1, _ => decide

theorem kDealt (w : World) : Calls Try.prog 27 #[] w fun e w' => e = .returned (.bool true) ∧ Below w.heap.size w w' := by
  have hb1 := below_one w (.cells #[.int .u64 2] 23)
  have r1 : Rd (w.alloc (.cells #[.int .u64 2] 23)) (some ⟨w.heap.size, 0, none⟩) 1 1 [2] := (Blk.lit1 w 2).whole 1 rfl (by unfold maxLen; omega) (fun u hu => by rw [List.mem_singleton.1 hu]; omega)
  go_enter Try.func27, Try.ntmps27
  go_wp2_with fail
  generalize w.alloc (.cells #[.int .u64 2] 23) = v1 at *
  refine (cDealOK 5 _ _ _ _ 3 _ r1 (by omega) (by omega) (by omega) (by omega) (by omega)).mono ?_
  rintro e v2 ⟨g, rfl, hr2, _, hb2⟩
  have ed : dl [5, 2] 3 = [7, 9, 11] := by decide
  rw [ed] at hr2
  have hw2 := hb1.trans (hb2.mono hb1.size)
  have hb3 := below_one v2 (.cells #[.int .i64 3, .int .u64 11, .int .i64 1, .int .u64 7] 38)
  have r3 := rdS_known2 v2 38
  clear hb1 hb2 r1 ed
  go_wp2_with fail
  generalize v2.alloc (.cells #[.int .i64 3, .int .u64 11, .int .i64 1, .int .u64 7] 38) = v3 at *
  refine (cOpenS _ _ _ _ _ _ r3).mono ?_
  rintro e v4 ⟨x, r, rfl, hO, hb4⟩
  obtain ⟨rfl, rfl⟩ := any_open (C := [5, 2]) (k := 1) dis_known (by omega) (by omega) (by simp) hs_known hO
  have ex : nm (ev [5, 2] 0) = 5 := by decide
  rw [ex]
  have hr4 := (hr2.below hb3).below hb4
  have hw4 := (hw2.trans (hb3.mono hw2.size)).trans (hb4.mono (hw2.trans (hb3.mono hw2.size)).size)
  clear hO hr2 hb3 r3 hb4 hw2 ex
  have hb5 := below_one v4 (.cells #[.int .u64 7, .int .u64 9, .int .u64 11] 23)
  have r5 := rd_of3 v4 (x := 7) (y := 9) (z := 11) (by omega) (by omega) (by omega)
  go_wp2_with fail
  generalize v4.alloc (.cells #[.int .u64 7, .int .u64 9, .int .u64 11] 23) = v5 at *
  have hw5 := hw4.trans (hb5.mono hw4.size)
  refine (cSame _ _ _ _ _ _ _ _ (hr4.below hb5) r5).mono ?_
  rintro e v6 ⟨rfl, hb6⟩
  have hw6 := hw5.trans (hb6.mono hw5.size)
  clear hb6 hw5 hb5 r5 hr4 hw4
  go_wp2
  go_ret
  exact ⟨rfl, hw6⟩

theorem own_set2 {w : World} {B n c g : Nat} {E : TypeId} {xs : List Value} (h : w.ownsRow B E 2 (.slice (some ⟨g, 0, none⟩) n c) n xs) (i : Nat) (u : Value) : (w.setCell ⟨g, i, none⟩ u).ownsRow B E 2 (.slice (some ⟨g, 0, none⟩) n c) n (xs.set i u) := by
  refine ⟨by rw [List.length_set]; exact h.1, .inr ?_⟩
  rcases h.2 with ⟨e, _⟩ | ⟨g', cap, cur, e, hb, hg, h1, h2, hs, ht⟩
  · simp at e
  · simp only [Value.slice.injEq, Option.some.injEq, Addr.mk.injEq, and_true, true_and] at e
    obtain ⟨rfl, rfl⟩ := e
    refine ⟨g, c, _, rfl, hb, heap_setCell_same w g i _ _ _ hg, h1, h2, by simpa using hs, ?_⟩
    rw [← ht]
    simp [List.take_set]
theorem own_frozen2 {w : World} {B n c g : Nat} {E : TypeId} {xs : List Value} (h : w.ownsRow B E 2 (.slice (some ⟨g, 0, none⟩) n c) n xs) (i : Nat) : w.frozen? ⟨g, i, none⟩ = false := by
  rcases h.2 with ⟨e, _⟩ | ⟨g', cap, cur, e, hb, hg, _⟩
  · simp at e
  · simp only [Value.slice.injEq, Option.some.injEq, Addr.mk.injEq, and_true, true_and] at e
    obtain ⟨rfl, rfl⟩ := e
    exact frozen_of_row w g i _ _ hg
theorem shc_setY : ∀ (l : List (Int × Int)) (q : Nat) (z : Int), (shc l).set (q * 2 + 1) (.int .u64 z) = shc (l.set q ((l.getD q (0, 0)).1, z))
  | [], q, z => by simp [shc]
  | p :: l, 0, z => rfl
  | p :: l, q + 1, z => by
    have := shc_setY l q z
    have e1 : (q + 1) * 2 + 1 = q * 2 + 1 + 1 + 1 := by omega
    rw [e1]
    show _ :: _ :: (shc l).set (q * 2 + 1) (.int .u64 z) = _
    rw [this]
    rfl
/-- Its address, where there is a share. -/
theorem own_at2 {w : World} {base n : Nat} {E : TypeId} {v : Value} {xs : List Value} (h : w.ownsRow base E 2 v n xs) (hn : 0 < n) : ∃ g c, v = .slice (some ⟨g, 0, none⟩) n c ∧ base ≤ g ∧ g < w.heap.size ∧ n ≤ c ∧ c ≤ maxLen := by
  rcases h.2 with ⟨_, rfl⟩ | ⟨g, cap, cur, rfl, hb, hg, h1, h2, _⟩
  · omega
  · exact ⟨g, cap, rfl, hb, (Array.getElem?_eq_some_iff.1 hg).1, h1, h2⟩
theorem sh_cell {w : World} {base n c g : Nat} {E : TypeId} {l : List (Int × Int)} (h : w.ownsRow base E 2 (.slice (some ⟨g, 0, none⟩) n c) n (shc l)) (hl : l.length = n) {k : Nat} (hk : k < n) :
    w.cell? ⟨g, k * 2, none⟩ = some (.int .i64 (l.getD k (0, 0)).1) ∧ w.cell? ⟨g, k * 2 + 1, none⟩ = some (.int .u64 (l.getD k (0, 0)).2) := by
  have h1 := shc_get l k (by omega)
  have a1 := h.cells (g := g) rfl _ _ h1.1
  have a2 := h.cells (g := g) rfl _ _ h1.2
  rw [Addr.add_lit] at a1 a2
  exact ⟨by simpa using a1, by simpa using a2⟩
theorem set_getD {l : List (Int × Int)} {q j : Nat} {p : Int × Int} (hj : j < l.length) : (l.set q p).getD j (0, 0) = if j = q then p else l.getD j (0, 0) := by
  by_cases e : j = q
  · subst e; simp [hj]
  · simp [e, show ¬ q = j from fun e' => e e'.symm]

theorem shamirTellsW (s : Int) (a0 : Option Addr) (n0 c0 : Nat) (xs : List Int) (t n i b : Int) (w : World) (hs0 : 0 ≤ s) (hs1 : s ≤ 18446744073709551615) (h0 : Rd w a0 n0 c0 xs) (hb0 : 0 ≤ b) (hb1 : b ≤ 18446744073709551615) :
    Calls Try.prog 7 #[.int .u64 s, .slice a0 n0 c0, .int .i64 t, .int .i64 n, .int .i64 i, .int .u64 b] w fun e w' => e = .returned (.bool true) ∧ Below w.heap.size w w' := by
  go_enter Try.func7, Try.ntmps7
  go_wp2_with fail
  refine (kDealt _).mono ?_
  rintro e w1 ⟨rfl, hw1⟩
  go_wp2_with fail
  refine (kCrew _ _ _).mono ?_
  rintro e w2 ⟨⟨k, m, rfl, hk, hkm, hm⟩, hw⟩
  have hw := hw.symm
  subst hw
  go_wp2_with fail
  refine (kFilled _ _ _ _ k _ (h0.below hw1) hk).mono ?_
  rintro e w3 ⟨g3, rfl, hr3, hb3⟩
  have HPl : Hid ((padded xs k).length = k) := padded_len xs k
  generalize padded xs k = P at hr3 HPl
  have hw3 := hw1.trans (hb3.mono hw1.size)
  clear hw1 hb3 h0
  go_wp2_with fail
  refine (cDealOK s _ _ _ _ m _ hr3 hs0 hs1 hk (by omega) hm).mono ?_
  rintro e w4 ⟨g4, rfl, hr4, _, hb4⟩
  have hw4 := hw3.trans (hb4.mono hw3.size)
  clear hw3 hb4 hr3
  obtain ⟨C, HC⟩ : ∃ C, Hid (s :: P = C) := ⟨_, rfl⟩
  have HCl : Hid (C.length ≤ k + 1) := by unfold Hid; rw [← HC.out]; simp [HPl.out]
  rw [HC.out] at hr4
  have hnb := nm_bd b
  by_cases h1 : m < k + 2
  · go_wp2_with fail
    go_ret
    exact ⟨rfl, hw4⟩
  · by_cases h2 : nm b = 0
    · have h2b : (nm b == 0) = true := by rw [beq_iff_eq]; exact h2
      clear h2
      go_wp2_with (go_at_call 23; refine (fNorm _ _ (by omega) (by omega)).mono ?_; rintro e w' ⟨rfl, hw⟩; have hw := hw.symm; subst hw)
      go_ret
      exact ⟨rfl, hw4⟩
    · have h2b : (nm b == 0) = false := by rw [beq_eq_false_iff_ne]; exact h2
      have H2 : Hid (nm b ≠ 0) := h2
      clear h2
      go_wp2_with fail
      refine (fNorm _ _ (by omega) (by omega)).mono ?_
      rintro e w' ⟨rfl, hw⟩
      have hw := hw.symm
      subst hw
      go_wp2_with fail
      refine (kShares _ _ _ _ _ hr4 hm).mono ?_
      rintro e w5 ⟨v, rfl, hown, hb5⟩
      have hw5 := hw4.trans (hb5.mono hw4.size)
      have hs4 := hw4.size
      have hll := shl_len (dl C m) m
      obtain ⟨g, c, rfl, hg1, hg2, hcm, hcx⟩ := own_at2 hown (by omega)
      unfold maxLen at hcx
      clear hw4 hb5 hr4 h2b
      go_wp2_with fail
      refine (rRest _ m _ (by omega) (by omega)).mono ?_
      rintro e w6 ⟨⟨q, hq, rfl⟩, hw⟩
      have hw := hw.symm
      subst hw
      have hcq := (sh_cell hown hll hq).2
      rw [shl_getD _ hq, dl_getD C hq] at hcq
      have hfq := own_frozen2 hown (q * 2 + 1)
      have hy := dlf_bd C q
      obtain ⟨y, HY⟩ : ∃ y, Hid (dlf C q = y) := ⟨_, rfl⟩
      rw [HY.out] at hcq hy
      have hnz := nm_bd (y + b)
      obtain ⟨z, HZ⟩ : ∃ z, Hid (nm (y + b) = z) := ⟨_, rfl⟩
      rw [HZ.out] at hnz
      have hown7 := own_set2 hown (q * 2 + 1) (.int .u64 z)
      rw [shc_setY, shl_getD _ hq] at hown7
      have hw7 := below_grown hw5 (grown_set w5 g (q * 2 + 1) (.int .u64 z)) (by omega)
      obtain ⟨l, HL⟩ : ∃ l, Hid ((shl (dl C m) m).set q ((q : Int) + 1, z) = l) := ⟨_, rfl⟩
      have Hl : Hid (∀ j, j < m → l.getD j (0, 0) = ((j : Int) + 1, if j = q then nm (dlf C j + b) else dlf C j)) := fun j hj => by
        rw [← HL.out, set_getD (by omega)]
        by_cases e : j = q
        · subst e; rw [if_pos rfl, if_pos rfl, HY.out, HZ.out]
        · rw [if_neg e, if_neg e, shl_getD _ hj, dl_getD C hj]
      have Hll : Hid (l.length = m) := by unfold Hid; rw [← HL.out, List.length_set]; exact hll
      simp only at hown7
      rw [HL.out] at hown7
      have hbd : ∀ j, j < m → (-9223372036854775808 ≤ (l.getD j (0, 0)).1 ∧ (l.getD j (0, 0)).1 ≤ 9223372036854775807) ∧ 0 ≤ (l.getD j (0, 0)).2 ∧ (l.getD j (0, 0)).2 ≤ 18446744073709551615 := fun j hj => by
        rw [Hl.out j hj]
        refine ⟨⟨by simp only; omega, by simp only; omega⟩, ?_⟩
        simp only
        split
        · have := nm_bd (dlf C j + b); omega
        · have := dlf_bd C j; omega
      obtain ⟨a7, c7, e7, hR7⟩ := RdS.own hown7 Hll.out hbd
      simp only [Value.slice.injEq, true_and] at e7
      obtain ⟨rfl, rfl⟩ := e7
      clear hbd hown7
      go_wp2_with (go_at_call 20; refine (fAdd _ _ _ (by omega) (by omega) (by omega) (by omega)).mono ?_; rintro e w' ⟨rfl, hw⟩; have hw := hw.symm; subst hw; rw [HZ.out])
      generalize w5.setCell ⟨g, q * 2 + 1, none⟩ (.int .u64 z) = w7 at *
      refine (cOpenS _ _ _ _ _ _ hR7).mono ?_
      rintro e w8 ⟨x, r, rfl, hO, hb8⟩
      obtain rfl := wrong_told hk HCl.out (by omega) hm hq H2.out Hl.out hO
      have hw8 := hw7.trans (hb8.mono hw7.size)
      clear hO hb8 hw7
      go_wp2
      go_ret
      exact ⟨rfl, hw8⟩
end
end Go.Proofs.Ytljlioglpaogdad
