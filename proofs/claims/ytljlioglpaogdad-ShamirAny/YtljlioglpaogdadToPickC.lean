/- Any shares of a dealing, and their weights: plain facts. · croftkeep.dealt; shares that are written. · slices.Clone and slices.Delete of shares. · croftkeep.picked. -/
import Derived.Test.YtljlioglpaogdadToWeightC
import Derived.Test.YtljlioglpaogdadCrewC
import Derived.Test.YtljlioglpaogdadToGaussM
import Derived.Test.YtljlioglpaogdadToShortC
import Derived.Test.YtljlioglpaogdadToOwnC
import Derived.Deep.RegionLaw
import Derived.Lib.SliceRun
namespace Go.Proofs.Ytljlioglpaogdad
set_option linter.unusedVariables false
set_option maxRecDepth 100000
set_option maxHeartbeats 8000000
section
open Crm
theorem shl_mem {C : List Int} {m : Nat} {p : Int × Int} (h : p ∈ shl (dl C m) m) : ∃ i, i < m ∧ p = ((i : Int) + 1, dlf C i) := by
  obtain ⟨i, hi, rfl⟩ := List.mem_map.1 h
  have hi' : i < m := by simpa using hi
  exact ⟨i, hi', by rw [dl_getD C hi']⟩
theorem shl_pair (xs : List Int) (m : Nat) : (shl xs m).Pairwise (fun p q => p.1 ≠ q.1) := by
  unfold shl
  rw [List.pairwise_map, List.pairwise_iff_getElem]
  intro i j hi hj hij
  simp
  omega
/-- What was picked. -/
theorem picked_ok {C : List Int} {m K : Nat} {out rem : List (Int × Int)} (hm : m ≤ 9) (hlo : out.length = K) (hp : (out ++ rem).Perm (shl (dl C m) m)) :
    dis (fa out) K ∧ Hs out K C ∧ (∀ j, j < K → fy out j = nm (ev C (fa out j)) ∧ 0 ≤ fy out j ∧ fy out j ≤ 2147483646) := by
  have hmem : ∀ j, j < K → ∃ i, i < m ∧ out.getD j (0, 0) = ((i : Int) + 1, dlf C i) := fun j hj => by
    refine shl_mem (hp.subset (List.mem_append_left _ ?_))
    rw [List.getD_eq_getElem?_getD, List.getElem?_eq_getElem (show j < out.length by omega)]
    exact List.getElem_mem _
  have hpw : out.Pairwise (fun p q => p.1 ≠ q.1) := by
    have h1 := (hp.pairwise_iff (R := fun (p q : Int × Int) => p.1 ≠ q.1) (fun h => fun e => h e.symm)).2 (shl_pair (dl C m) m)
    exact (List.pairwise_append.1 h1).1
  have hval : ∀ j, j < K → fy out j = nm (ev C (fa out j)) ∧ 0 ≤ fy out j ∧ fy out j ≤ 2147483646 := fun j hj => by
    obtain ⟨i, _, e⟩ := hmem j hj
    unfold fy fa
    rw [e]
    exact ⟨rfl, (dlf_bd C i).1, (dlf_bd C i).2⟩
  refine ⟨fun j hj => ?_, fun j hj => ?_, hval⟩
  · obtain ⟨i, hi, e⟩ := hmem j hj
    refine ⟨by unfold fa; rw [e]; simp only; omega, fun q hq => ?_⟩
    have h2 := List.pairwise_iff_getElem.1 hpw q j (by omega) (by omega) hq
    unfold fa
    rw [List.getD_eq_getElem?_getD, List.getElem?_eq_getElem (show q < out.length by omega), List.getD_eq_getElem?_getD, List.getElem?_eq_getElem (show j < out.length by omega)]
    exact h2
  · have := (hval j hj).1
    unfold fy fa at this
    rw [this, nm_nm]

/-- The weights make of the values the value at 0. -/
theorem sum_wt {ts C : List Int} {K : Nat} (hd : dis (fi ts) K) (hC : C.length ≤ K) (y : Nat → Int) (hy : ∀ j, j < K → nm (y j) = nm (ev C (ts.getD j 0))) : nm (sm (fun i => wt ts K i * y i) K) = nm (ev C 0) := by
  have main : ∀ k, k ≤ K → ∃ R : List Int, R.length ≤ K ∧ (∀ j, j < K → nm (ev R (ts.getD j 0)) = if j < k then nm (y j) else 0) ∧ nm (ev R 0) = nm (sm (fun i => wt ts K i * y i) k) := by
    intro k
    induction k with
    | zero => exact fun _ => ⟨[], Nat.zero_le _, fun j _ => by rw [if_neg (by omega)]; rfl, rfl⟩
    | succ k ih =>
      intro hk
      obtain ⟨R, r1, r2, r3⟩ := ih (by omega)
      obtain ⟨Q, q1, q2, q3⟩ := wt_wgt hd (show k < K by omega)
      have hev : ∀ x, nm (ev (sml R (cvl [y k] Q)) x) = nm (ev R x + y k * ev Q x) := fun x => by
        rw [sml_ev]
        refine nm_add_congr rfl ?_
        rw [cvl_ev, ev, ev, Int.mul_zero, Int.add_zero]
      refine ⟨sml R (cvl [y k] Q), ?_, fun j hj => ?_, ?_⟩
      · rw [sml_len, cvl_len, List.length_singleton]; omega
      · rw [hev]
        have h1 := q2 j hj
        have h2 := r2 j hj
        by_cases e : j = k
        · subst e
          rw [if_pos rfl] at h1
          rw [if_neg (by omega)] at h2
          rw [if_pos (by omega), nm_add_congr (c := 0) (d := y j * 1) h2 (nm_mul_congr rfl (by rw [h1]; rfl)), Int.zero_add, Int.mul_one]
        · rw [if_neg e] at h1
          rw [nm_add_congr (c := ev R (ts.getD j 0)) (d := y k * 0) rfl (nm_mul_congr rfl (by rw [h1]; rfl)), Int.mul_zero, Int.add_zero, h2]
          by_cases e2 : j < k
          · rw [if_pos e2, if_pos (by omega)]
          · rw [if_neg e2, if_neg (by omega)]
      · rw [hev, sm]
        refine nm_add_congr r3 ?_
        rw [q3, nm_mull, Int.mul_comm]
  obtain ⟨R, r1, r2, r3⟩ := main K (Nat.le_refl _)
  rw [← r3]
  have hw : ∀ j, j < K → ((List.range K).map fun k => (ts.getD k 0, y k)).getD j (0, 0) = (ts.getD j 0, y j) := fun j hj => by simp [hj]
  refine ev_one (hs_one (l := (List.range K).map fun k => (ts.getD k 0, y k)) (n := K) (fun j hj => ?_) (fun j hj => ?_) (fun j hj => ?_) r1 hC) 0
  · rw [hw j hj]
    refine ⟨⟨(hd j hj).1.1, by have := (hd j hj).1.2; unfold fi at this; simp only; omega⟩, fun q hq => ?_⟩
    rw [hw q (by omega)]
    exact (hd j hj).2 q hq
  · rw [hw j hj]
    simp only
    rw [r2 j hj, if_pos hj]
  · rw [hw j hj]
    simp only
    exact (hy j hj).symm
end
section
open Crm Go.RowKit
theorem rdS_known2 (w : World) (E : TypeId) : RdS (w.alloc (.cells #[.int .i64 3, .int .u64 11, .int .i64 1, .int .u64 7] E)) (some ⟨w.heap.size, 0, none⟩) 2 2 [(3, 11), (1, 7)] := by
  refine ⟨rfl, Nat.le_refl _, by unfold maxLen; omega, fun i hi => ?_, by simp, fun x hx i hi => ?_⟩
  · match i, hi with
    | 0, _ => decide
    | 1, _ => decide
  · obtain rfl := Option.some.inj hx
    rw [Addr.add_lit, Addr.add_lit, cell_of_row _ _ _ _ E (0, 0) (heap_alloc_new w _), cell_of_row _ _ _ _ E (0, 0) (heap_alloc_new w _)]
    match i, hi with
    | 0, _ => exact ⟨rfl, rfl⟩
    | 1, _ => exact ⟨rfl, rfl⟩
theorem dis_known : dis (fa [(3, 11), (1, 7)]) 2 := by
  intro i hi
  match i, hi with
  | 0, _ => exact ⟨by decide, fun j hj => by omega⟩
  | 1, _ => exact ⟨by decide, fun j hj => by
      match j, hj with
      | 0, _ => decide⟩
theorem hs_known : Hs [(3, 11), (1, 7)] 2 [5, 2] := by
  intro j hj
  match j, hj with
  | 0, _ => decide
  | 1, _ => decide

theorem kDealt (w : World) : Calls Try.prog 27 #[] w fun e w' => e = .returned (.bool true) ∧ Below w.heap.size w w' := by
  have hb1 := below_one w (.cells #[.int .u64 2] 23)
  have r1 : Rd (w.alloc (.cells #[.int .u64 2] 23)) (some ⟨w.heap.size, 0, none⟩) 1 1 [2] := (Blk.lit1 w 2).whole 1 rfl (by unfold maxLen; omega) (fun u hu => by rw [List.mem_singleton.1 hu]; omega)
  go_enter Try.func27, Try.ntmps27
  go_wp2_with fail
  generalize w.alloc (.cells #[.int .u64 2] 23) = v1 at *
  refine (cDealOK 5 _ _ _ _ 3 _ r1 (by omega) (by omega) (by omega) (by omega) (by omega)).mono ?_
  rintro e v2 ⟨g, rfl, hr2, _, hb2⟩
  have ed : dl [5, 2] 3 = [7, 9, 11] := by decide
  rw [ed] at hr2
  have hw2 := hb1.trans (hb2.mono hb1.size)
  have hb3 := below_one v2 (.cells #[.int .i64 3, .int .u64 11, .int .i64 1, .int .u64 7] 38)
  have r3 := rdS_known2 v2 38
  clear hb1 hb2 r1 ed
  go_wp2_with fail
  generalize v2.alloc (.cells #[.int .i64 3, .int .u64 11, .int .i64 1, .int .u64 7] 38) = v3 at *
  refine (cOpenS _ _ _ _ _ _ r3).mono ?_
  rintro e v4 ⟨x, r, rfl, hO, hb4⟩
  obtain ⟨rfl, rfl⟩ := any_open (C := [5, 2]) (k := 1) dis_known (by omega) (by omega) (by simp) hs_known hO
  have ex : nm (ev [5, 2] 0) = 5 := by decide
  rw [ex]
  have hr4 := (hr2.below hb3).below hb4
  have hw4 := (hw2.trans (hb3.mono hw2.size)).trans (hb4.mono (hw2.trans (hb3.mono hw2.size)).size)
  clear hO hr2 hb3 r3 hb4 hw2 ex
  have hb5 := below_one v4 (.cells #[.int .u64 7, .int .u64 9, .int .u64 11] 23)
  have r5 := rd_of3 v4 (x := 7) (y := 9) (z := 11) (by omega) (by omega) (by omega)
  go_wp2_with fail
  generalize v4.alloc (.cells #[.int .u64 7, .int .u64 9, .int .u64 11] 23) = v5 at *
  have hw5 := hw4.trans (hb5.mono hw4.size)
  refine (cSame _ _ _ _ _ _ _ _ (hr4.below hb5) r5).mono ?_
  rintro e v6 ⟨rfl, hb6⟩
  have hw6 := hw5.trans (hb6.mono hw5.size)
  clear hb6 hw5 hb5 r5 hr4 hw4
  go_wp2
  go_ret
  exact ⟨rfl, hw6⟩

theorem own_set2 {w : World} {B n c g : Nat} {E : TypeId} {xs : List Value} (h : w.ownsRow B E 2 (.slice (some ⟨g, 0, none⟩) n c) n xs) (i : Nat) (u : Value) : (w.setCell ⟨g, i, none⟩ u).ownsRow B E 2 (.slice (some ⟨g, 0, none⟩) n c) n (xs.set i u) := by
  refine ⟨by rw [List.length_set]; exact h.1, .inr ?_⟩
  rcases h.2 with ⟨e, _⟩ | ⟨g', cap, cur, e, hb, hg, h1, h2, hs, ht⟩
  · simp at e
  · simp only [Value.slice.injEq, Option.some.injEq, Addr.mk.injEq, and_true, true_and] at e
    obtain ⟨rfl, rfl⟩ := e
    refine ⟨g, c, _, rfl, hb, heap_setCell_same w g i _ _ _ hg, h1, h2, by simpa using hs, ?_⟩
    rw [← ht]
    simp [List.take_set]
theorem own_frozen2 {w : World} {B n c g : Nat} {E : TypeId} {xs : List Value} (h : w.ownsRow B E 2 (.slice (some ⟨g, 0, none⟩) n c) n xs) (i : Nat) : w.frozen? ⟨g, i, none⟩ = false := by
  rcases h.2 with ⟨e, _⟩ | ⟨g', cap, cur, e, hb, hg, _⟩
  · simp at e
  · simp only [Value.slice.injEq, Option.some.injEq, Addr.mk.injEq, and_true, true_and] at e
    obtain ⟨rfl, rfl⟩ := e
    exact frozen_of_row w g i _ _ hg
/-- Its address, where there is a share. -/
theorem own_at2 {w : World} {base n : Nat} {E : TypeId} {v : Value} {xs : List Value} (h : w.ownsRow base E 2 v n xs) (hn : 0 < n) : ∃ g c, v = .slice (some ⟨g, 0, none⟩) n c ∧ base ≤ g ∧ g < w.heap.size ∧ n ≤ c ∧ c ≤ maxLen := by
  rcases h.2 with ⟨_, rfl⟩ | ⟨g, cap, cur, rfl, hb, hg, h1, h2, _⟩
  · omega
  · exact ⟨g, cap, rfl, hb, (Array.getElem?_eq_some_iff.1 hg).1, h1, h2⟩
theorem sh_cell {w : World} {base n c g : Nat} {E : TypeId} {l : List (Int × Int)} (h : w.ownsRow base E 2 (.slice (some ⟨g, 0, none⟩) n c) n (shc l)) (hl : l.length = n) {k : Nat} (hk : k < n) :
    w.cell? ⟨g, k * 2, none⟩ = some (.int .i64 (l.getD k (0, 0)).1) ∧ w.cell? ⟨g, k * 2 + 1, none⟩ = some (.int .u64 (l.getD k (0, 0)).2) := by
  have h1 := shc_get l k (by omega)
  have a1 := h.cells (g := g) rfl _ _ h1.1
  have a2 := h.cells (g := g) rfl _ _ h1.2
  rw [Addr.add_lit] at a1 a2
  exact ⟨by simpa using a1, by simpa using a2⟩
/-- Cells that are written one by one. -/
def setL (xs : List Value) : Nat → List Value → List Value
  | _, [] => xs
  | o, v :: r => setL (xs.set o v) (o + 1) r
theorem setL_app (A : List Value) : ∀ (vs Y : List Value) (o : Nat), setL (A ++ Y) (A.length + o) vs = A ++ setL Y o vs
  | [], _, _ => rfl
  | v :: r, Y, o => by
    rw [setL, setL, List.set_append_right _ _ (by omega), Nat.add_sub_cancel_left, Nat.add_assoc, setL_app A r]
theorem setL_one (v : Value) (r Y : List Value) : setL (v :: Y) 1 r = v :: setL Y 0 r := setL_app [v] r Y 0
theorem setL_take : ∀ (vs Y : List Value), vs.length ≤ Y.length → (setL Y 0 vs).take vs.length = vs
  | [], _, _ => by simp
  | v :: r, [], h => by simp at h
  | v :: r, y :: Y, h => by
    rw [setL, List.set_cons_zero, setL_one, List.length_cons, List.take_succ_cons, setL_take r Y (by simpa using h)]
theorem setL_before : ∀ (vs xs : List Value) (o k : Nat), k ≤ o → (setL xs o vs).take k = xs.take k
  | [], _, _, _, _ => rfl
  | v :: r, xs, o, k, h => by
    rw [setL, setL_before r _ (o + 1) k (by omega)]
    rw [List.take_set]
    rw [List.set_eq_of_length_le (by simp; omega)]
theorem own_setL {B n c g : Nat} {E : TypeId} : ∀ (vs : List Value) (o : Nat) {w : World} {xs : List Value}, w.ownsRow B E 2 (.slice (some ⟨g, 0, none⟩) n c) n xs → (w.setCells g o vs).ownsRow B E 2 (.slice (some ⟨g, 0, none⟩) n c) n (setL xs o vs)
  | [], _, _, _, h => h
  | v :: r, o, _, _, h => own_setL r (o + 1) (own_set2 h o v)
theorem grown_setL {g : Nat} : ∀ (vs : List Value) (o : Nat) (w : World), w.grownBy (w.setCells g o vs) (some g)
  | [], _, _ => grown_below (Below.refl _ _) _
  | v :: r, o, w => grown_trans (grown_set w g o v) (grown_setL r (o + 1) _)
theorem own_take2 {w : World} {B n c g m : Nat} {E : TypeId} {xs : List Value} (h : w.ownsRow B E 2 (.slice (some ⟨g, 0, none⟩) n c) n xs) (hm : m ≤ n) : w.ownsRow B E 2 (.slice (some ⟨g, 0, none⟩) m c) m (xs.take (m * 2)) := by
  have hl := h.1
  refine ⟨by rw [List.length_take]; omega, .inr ?_⟩
  rcases h.2 with ⟨e, _⟩ | ⟨g', cap, cur, e, hb, hg, h1, h2, hs, ht⟩
  · simp at e
  · simp only [Value.slice.injEq, Option.some.injEq, Addr.mk.injEq, and_true, true_and] at e
    obtain ⟨rfl, rfl⟩ := e
    refine ⟨g, c, cur, rfl, hb, hg, by omega, h2, hs, ?_⟩
    rw [← ht, List.take_take]
    congr 1
    omega
theorem own_some2 {w : World} {B n c g : Nat} {E : TypeId} {xs : List Value} (h : w.ownsRow B E 2 (.slice (some ⟨g, 0, none⟩) n c) n xs) {t : Nat} (ht : t < n * 2) : (w.cell? ⟨g, t, none⟩).isSome = true := by
  rcases h.2 with ⟨e, _⟩ | ⟨g', cap, cur, e, hb, hg, h1, h2, hs, _⟩
  · simp at e
  · simp only [Value.slice.injEq, Option.some.injEq, Addr.mk.injEq, and_true, true_and] at e
    obtain ⟨rfl, rfl⟩ := e
    rw [cell_of_row w g t cur E (0, 0) hg, Array.getElem?_eq_getElem (by omega)]
    rfl
/-- What is left when one goes. -/
theorem del_cells {l : List (Int × Int)} {n q : Nat} (hl : l.length = n) (hq : q < n) (o : Nat) (ho : (n - 1) * 2 ≤ o) (zs : List Value) :
    (setL (setL (shc l) (q * 2) (shc (l.drop (q + 1)))) o zs).take ((n - 1) * 2) = shc (l.eraseIdx q) := by
  rw [setL_before _ _ _ _ ho]
  have e1 : shc l = shc (l.take q) ++ ([.int .i64 (l.getD q (0, 0)).1, .int .u64 (l.getD q (0, 0)).2] ++ shc (l.drop (q + 1))) := by
    have e0 : l.drop q = l.getD q (0, 0) :: l.drop (q + 1) := by
      rw [List.drop_eq_getElem_cons (by omega)]
      congr 1
      simp [List.getElem?_eq_getElem (show q < l.length by omega)]
    conv => lhs; rw [← List.take_append_drop q l, shc_app, e0]
    rfl
  have e2 : (shc (l.take q)).length = q * 2 := by rw [shc_len, List.length_take]; congr 1; omega
  have e3 : (shc (l.drop (q + 1))).length = (n - (q + 1)) * 2 := by rw [shc_len, List.length_drop, hl]
  have e4 : l.eraseIdx q = l.take q ++ l.drop (q + 1) := List.eraseIdx_eq_take_drop_succ l q
  have e5 : setL (shc l) (q * 2) (shc (l.drop (q + 1))) = shc (l.take q) ++ setL ([.int .i64 (l.getD q (0, 0)).1, .int .u64 (l.getD q (0, 0)).2] ++ shc (l.drop (q + 1))) 0 (shc (l.drop (q + 1))) := by
    have := setL_app (shc (l.take q)) (shc (l.drop (q + 1))) ([.int .i64 (l.getD q (0, 0)).1, .int .u64 (l.getD q (0, 0)).2] ++ shc (l.drop (q + 1))) 0
    rw [e2, ← e1] at this
    exact this
  rw [e5, e4, shc_app, List.take_append, List.take_of_length_le (by omega), e2]
  congr 1
  have e6 : (n - 1) * 2 - q * 2 = (shc (l.drop (q + 1))).length := by rw [e3]; omega
  rw [e6]
  exact setL_take _ _ (by simp; omega)

theorem run_clear1 {P : Program} (w : World) (t e ty : TypeId) (ht : P.underlying t = some (.slice e)) (hv : ∀ w, (zeroValue e).run P w = .ok (.agg #[.int .i64 0, .int .u64 0]) w) (b o c : Nat)
    (hc : ∀ j, j < 2 → (w.cell? ⟨b, o + j, none⟩).isSome = true) (hf : ∀ j, j < 2 → w.frozen? ⟨b, o + j, none⟩ = false) :
    (Builtin.clear_ #[t] ty #[.slice (some ⟨b, o, none⟩) 1 c]).run P w = .ok (.tuple #[]) (w.setCells b o [.int .i64 0, .int .u64 0]) := by
  have hzc : (Builtin.zeroCells (Value.agg #[.int .i64 0, .int .u64 0]).cells 1).toList = [.int .i64 0, .int .u64 0] := by simp [Builtin.zeroCells, Value.cells]; rfl
  have hst := run_storeCells_cells (P := P) b o [.int .i64 0, .int .u64 0] 0 w (by simpa using hc) (by simpa using hf) (by intro v hv'; simp at hv'; rcases hv' with rfl | rfl <;> rfl)
  simp only [Nat.add_zero] at hst
  simp [Builtin.clear_, run_underlying ht, hv, hzc, hst]
theorem zeroSh (w : World) : (zeroValue 38).run Try.prog w = .ok (.agg #[.int .i64 0, .int .u64 0]) w := by
  obtain ⟨i0, hi, hz0, hz1, hz2⟩ := info_parts infoSh
  simp [zeroValue, typeInfo, hi, hz0]

theorem cDelete (g n c base q : Nat) (l : List (Int × Int)) (w : World) (h : w.ownsRow base 38 2 (.slice (some ⟨g, 0, none⟩) n c) n (shc l)) (hl : l.length = n) (hq : q < n) (hn : n ≤ 9) (hnc : n ≤ c) :
    Calls Try.prog 53 #[.slice (some ⟨g, 0, none⟩) n c, .int .i64 q, .int .i64 (q + 1)] w fun e w' => e = .returned (.slice (some ⟨g, 0, none⟩) (n - 1) c) ∧ w'.ownsRow base 38 2 (.slice (some ⟨g, 0, none⟩) (n - 1) c) (n - 1) (shc (l.eraseIdx q)) ∧ w.grownBy w' (some g) := by
  obtain ⟨i0, hi, hz0, hz1, hz2⟩ := info_parts infoSh
  have hqb : ((q : Int) == (q : Int) + 1) = false := by rw [beq_eq_false_iff_ne]; omega
  obtain ⟨news, HN⟩ : ∃ news, Hid (shc (l.drop (q + 1)) = news) := ⟨_, rfl⟩
  have hlen : news.length = (n - (q + 1)) * 2 := by rw [← HN.out, shc_len, List.length_drop, hl]
  obtain ⟨A, hA, hsrc⟩ : ∃ A : Addr, (if c = q + 1 then some (⟨g, 0, none⟩ : Addr) else some ⟨g, (q + 1) * 2, none⟩) = some A ∧ Hid (∀ t u, news[t]? = some u → w.drew.cell? (A.add t) = some u) := by
    by_cases hc : c = q + 1
    · refine ⟨⟨g, 0, none⟩, by simp [hc], fun t u hu => ?_⟩
      have h0 : news.length = 0 := by rw [hlen]; omega
      rw [List.length_eq_zero_iff.1 h0] at hu
      simp at hu
    · refine ⟨⟨g, (q + 1) * 2, none⟩, by simp [hc], fun t u hu => ?_⟩
      have e1 : (shc l)[(q + 1) * 2 + t]? = some u := by
        rw [← hu, ← HN.out]
        conv => lhs; rw [← List.take_append_drop (q + 1) l, shc_app]
        rw [List.getElem?_append_right (by rw [shc_len, List.length_take]; omega), shc_len, List.length_take]
        congr 1
        omega
      have := h.cells (g := g) rfl _ _ e1
      rw [Addr.add_lit] at this ⊢
      simpa using this
  have s1 : Hid (news.length = (n - (q + 1)) * 2) := hlen
  have s2 : Hid (∀ u ∈ news, u.oneCell' = true) := by
    intro u hu
    rw [← HN.out] at hu
    obtain ⟨p, _, hp⟩ := List.mem_flatMap.1 hu
    simp at hp
    rcases hp with rfl | rfl <;> rfl
  have s3 : Hid (∀ t, t < news.length → (w.drew.cell? ⟨g, 0 + q * 2 + t, none⟩).isSome = true ∧ w.drew.frozen? ⟨g, 0 + q * 2 + t, none⟩ = false) := by
    intro t ht
    rw [hlen] at ht
    exact ⟨own_some2 (w := w) h (by omega), own_frozen2 (w := w) h _⟩
  have hd : w.drew.ownsRow base 38 2 (.slice (some ⟨g, 0, none⟩) n c) n (shc l) := h
  have hgd : w.grownBy w.drew (some g) := grown_drew (grown_below (Below.refl _ _) _)
  obtain ⟨W1, hW1⟩ : ∃ W1, W1 = w.drew.setCells g (0 + q * 2) news := ⟨_, rfl⟩
  have hown1 := own_setL news (0 + q * 2) hd
  have hg1 := grown_trans hgd (grown_setL (g := g) news (0 + q * 2) w.drew)
  rw [← hW1] at hown1 hg1
  have HW : Hid (W1 = w.drew.setCells g (0 + q * 2) news) := hW1
  have hm : q + (n - (q + 1)) = n - 1 := by omega
  have hqc : q ≤ c := by omega
  have hqc1 : q + 1 ≤ c := by omega
  have hq0 : (0 : Int) ≤ (q : Int) + 1 := by omega
  have hq1 : (q : Int) + 1 ≤ (n : Int) := by omega
  have hcl : ∀ ty, (Builtin.clear_ #[39] ty #[.slice (some ⟨g, (n - 1) * 2, none⟩) 1 (c - (n - 1))]).run Try.prog W1 = .ok (.tuple #[]) (W1.setCells g ((n - 1) * 2) [.int .i64 0, .int .u64 0]) :=
    fun ty => run_clear1 W1 _ _ ty Try.underlying39 zeroSh g ((n - 1) * 2) _ (fun t ht => own_some2 hown1 (by omega)) (fun t _ => own_frozen2 hown1 _)
  clear hW1
  go_enter Try.func53, Try.ntmps53
  go_wp2_with fail
  go_region_law (refine step_append_room rfl (.tmp 22) (.tmp 25) 39 rfl 38 i0 2 Try.underlying39 hi hz1 g 0 q c (by simp [Act.eval, Act.put]) A (n - (q + 1)) (c - (q + 1)) news (by simp [Act.eval, Act.put]) s1.out hsrc.out s2.out (by omega) s3.out ?_; rw [← HW.out])
  have hcn : ¬ c = n - 1 := by omega
  have hn1 : n - 1 ≤ n := by omega
  have hn2 : n - (n - 1) = 1 := by omega
  have hown2 := own_take2 (own_setL [.int .i64 0, .int .u64 0] ((n - 1) * 2) hown1) hn1
  rw [← HN.out, Nat.zero_add, del_cells hl hq _ (Nat.le_refl _)] at hown2
  have hg2 := grown_trans hg1 (grown_setL (g := g) [.int .i64 0, .int .u64 0] ((n - 1) * 2) W1)
  have HO2 : Hid (_ ∧ _) := ⟨hown2, hg2⟩
  clear hown2 hg2
  go_wp2
  go_ret
  exact ⟨rfl, HO2.out.1, HO2.out.2⟩

theorem own_cells2 {w : World} {base n c g : Nat} {E : TypeId} {xs : List Value} (h : w.ownsRow base E 2 (.slice (some ⟨g, 0, none⟩) n c) n xs) : ∀ j u, xs[j]? = some u → w.cell? ((⟨g, 0, none⟩ : Addr).add j) = some u := fun j u hj => h.cells (g := g) rfl j u hj
theorem cCloneS (v : Value) (n base : Nat) (l : List (Int × Int)) (w : World) (h : w.ownsRow base 38 2 v n (shc l)) (hn : 0 < n) (hn9 : n ≤ 9) :
    Calls Try.prog 52 #[v] w fun e w' => ∃ v', e = .returned v' ∧ w'.ownsRow w.heap.size 38 2 v' n (shc l) ∧ Below w.heap.size w w' := by
  obtain ⟨i0, hi, hz0, hz1, hz2⟩ := info_parts infoSh
  obtain ⟨g, c, rfl, hb, hb2, _, _⟩ := own_at2 h hn
  have hcells := own_cells2 h
  have hlen := h.1
  have h1 := shc_one l
  have hnil := fun W : World => eql_nil (P := Try.prog) W _ _ ⟨g, 0, none⟩ n c Try.underlying39
  go_enter Try.func52, Try.ntmps52
  go_wp2_with (at_builtin; refine wpList_append_own _ rfl _ _ 39 rfl w.heap.size 38 i0 (.agg #[.int .i64 0, .int .u64 0]) 2 16 Try.underlying39 hi hz0 hz1 hz2 rfl (by decide) (.slice (some ⟨w.heap.size, 0, none⟩) 0 0) 0 [] (by rfl) (World.ownsRow_made w #[] 0 (Nat.le_refl _) (Nat.zero_le _) rfl) ⟨g, 0, none⟩ n c (shc l) (by rfl) hlen ?c1 h1 (by unfold maxLen; omega) (by omega) (by simp) ?_)
  case c1 =>
    intro j u hj
    have := hcells j u hj
    rw [Addr.add_lit] at this ⊢
    rw [World.cell?_of_block (w := w) (Below.heap_alloc _ _ _ hb2)]
    exact this
  · intro v' w1 hown hgrow _
    have hbel : Below w.heap.size w w1 := ((Below.refl w.heap.size w).alloc (Nat.le_refl _) _).grown hgrow (by simp) (fun k hk => by simp [Value.ownBlock] at hk; omega)
    go_wp2
    go_ret
    exact ⟨_, rfl, hown, hbel⟩
theorem own_keepB {w w' : World} {base B n c g : Nat} {E : TypeId} {xs : List Value} (h : w.ownsRow base E 2 (.slice (some ⟨g, 0, none⟩) n c) n xs) (hb : Below B w w') (hg : g < B) : w'.ownsRow base E 2 (.slice (some ⟨g, 0, none⟩) n c) n xs := by
  refine ⟨h.1, .inr ?_⟩
  rcases h.2 with ⟨e, _⟩ | ⟨g', cap, cur, e, hb', hgr, h1, h2, hs, ht⟩
  · simp at e
  · simp only [Value.slice.injEq, Option.some.injEq, Addr.mk.injEq, and_true, true_and] at e
    obtain ⟨rfl, rfl⟩ := e
    exact ⟨g, c, cur, rfl, hb', by rw [hb.block g hg]; exact hgr, h1, h2, hs, ht⟩
theorem own_keepG {w w' : World} {base n g : Nat} {E : TypeId} {v : Value} {xs : List Value} (h : w.ownsRow base E 2 v n xs) (hg : w.grownBy w' (some g)) (hlt : g < base) : w'.ownsRow base E 2 v n xs := by
  refine ⟨h.1, ?_⟩
  rcases h.2 with h' | ⟨g', cap, cur, e, hb', hgr, h1⟩
  · exact .inl h'
  · refine .inr ⟨g', cap, cur, e, hb', ?_, h1⟩
    rw [hg.block g' (Array.getElem?_eq_some_iff.1 hgr).1 (by simp; omega)]
    exact hgr
theorem er_perm : ∀ (l : List (Int × Int)) (q : Nat) (h : q < l.length), (l[q] :: l.eraseIdx q).Perm l
  | [], q, h => by simp at h
  | a :: l, 0, _ => List.Perm.refl _
  | a :: l, q + 1, h => by
    have hq : q < l.length := by simpa using h
    have ih := er_perm l q hq
    show (l[q] :: a :: l.eraseIdx q).Perm (a :: l)
    exact (List.Perm.swap a _ _).trans (ih.cons a)
/-- One more is picked. -/
structure Pk (l out rem : List (Int × Int)) (n k : Nat) : Prop where
  lo : out.length = k
  lr : rem.length = n - k
  perm : (out ++ rem).Perm l
theorem pk_start {l : List (Int × Int)} {n : Nat} (hl : l.length = n) : Pk l [] l n 0 := ⟨rfl, by omega, List.Perm.refl _⟩
theorem pk_step {l out rem : List (Int × Int)} {n k q : Nat} {x y : Int} (h : Pk l out rem n k) (hq : q < n - k) (hx : (rem.getD q (0, 0)).1 = x) (hy : (rem.getD q (0, 0)).2 = y) : Pk l (out ++ [(x, y)]) (rem.eraseIdx q) n (k + 1) := by
  have hlr := h.lr
  have e : rem[q]'(by omega) = (x, y) := by
    have e1 : rem.getD q (0, 0) = rem[q]'(by omega) := by simp [List.getElem?_eq_getElem (show q < rem.length by omega)]
    rw [← e1, ← hx, ← hy]
  refine ⟨by simp [h.lo], by rw [List.length_eraseIdx_of_lt (by omega)]; omega, ?_⟩
  have h1 := er_perm rem q (by omega)
  rw [e] at h1
  rw [List.append_assoc]
  exact (List.Perm.append_left out h1).trans h.perm

/-- What picked leaves. -/
def Picks (l : List (Int × Int)) (K : Nat) (w : World) (e : Ending) (w' : World) : Prop :=
  ∃ out rem v', e = .returned v' ∧ out.length = K ∧ (out ++ rem).Perm l ∧ w'.ownsRow w.heap.size 38 2 v' K (shc out) ∧ Below w.heap.size w w'

theorem kPicked (v : Value) (n base : Nat) (l : List (Int × Int)) (a1 : Option Addr) (n1 c1 : Nat) (ts : List Int) (K : Nat) (w : World) (h : w.ownsRow base 38 2 v n (shc l)) (hl : l.length = n) (hn : 0 < n) (hn9 : n ≤ 9) (hK : K ≤ n)
    (hbd : ∀ p ∈ l, (1 ≤ p.1 ∧ p.1 ≤ 9) ∧ 0 ≤ p.2 ∧ p.2 ≤ 2147483646) (hT : RdI w a1 n1 c1 ts) :
    Calls Try.prog 31 #[v, .slice a1 n1 c1, .int .i64 K] w fun e w' => Picks l K w e w' := by
  have hTc := hT.cap
  have hTm := hT.max
  unfold maxLen at hTm
  have HBD : Hid (∀ p ∈ l, (1 ≤ p.1 ∧ p.1 ≤ 9) ∧ 0 ≤ p.2 ∧ p.2 ≤ 2147483646) := hbd
  clear hbd
  obtain ⟨g0, c0, rfl, _, _, _, _⟩ := own_at2 h hn
  go_enter Try.func31, Try.ntmps31
  go_wp2_with fail
  refine (cCloneS _ _ _ _ _ h hn hn9).mono ?_
  rintro e w1 ⟨v1, rfl, hown1, hb1⟩
  obtain ⟨g, c, rfl, hg1, hg2, hnc, hcm⟩ := own_at2 hown1 hn
  unfold maxLen at hcm
  have hs1 := hb1.size
  clear h
  go_wp2
  go_loopw [0, 7, 13] (fun r v i wr => ∃ (k : Nat) (out rem : List (Int × Int)), k ≤ K ∧ i = .int .i64 k ∧ r = .slice (some ⟨g, 0, none⟩) (n - k) c ∧ Hid (Pk l out rem n k) ∧ wr.ownsRow w.heap.size 38 2 r (n - k) (shc rem) ∧ wr.ownsRow w1.heap.size 38 2 v k (shc out) ∧ Below w.heap.size w wr ∧ w1.heap.size ≤ wr.heap.size) (fun _ _ i _ => K - (intOf i).toNat)
  case atStart => exact ⟨0, [], l, Nat.zero_le _, rfl, rfl, pk_start hl, hown1, World.ownsRow_nil _ _ _ _, hb1, Nat.le_refl _⟩
  case round =>
    clear hown1 hb1
    obtain ⟨k, out, rem, hk, rfl, rfl, HP, hownR, hownO, hbel, hsz⟩ := hrel
    have hlr := HP.out.lr
    have hlo := HP.out.lo
    by_cases hlt : k < K
    · have HF : Hid (∀ (q : Nat), q < n - k → ∃ x y, Hid ((rem.getD q (0, 0)).1 = x) ∧ Hid ((rem.getD q (0, 0)).2 = y) ∧ (1 ≤ x ∧ x ≤ 9) ∧ (0 ≤ y ∧ y ≤ 2147483646) ∧ wr.cell? ⟨g, q * 2, none⟩ = some (.int .i64 x) ∧ wr.cell? ⟨g, q * 2 + 1, none⟩ = some (.int .u64 y)) := fun q hq => by
        have h1 := sh_cell hownR hlr hq
        have h2 := HBD.out (rem.getD q (0, 0)) (HP.out.perm.subset (List.mem_append_right _ (by
          rw [List.getD_eq_getElem?_getD, List.getElem?_eq_getElem (show q < rem.length by omega)]; exact List.getElem_mem _)))
        exact ⟨_, _, rfl, rfl, h2.1, h2.2, h1.1, h1.2⟩
      by_cases hkp : k < n1
      · obtain ⟨b, o, t, rfl, hbb, HX, ht0, ht1, hct⟩ := (hT.below hbel).one hkp
        go_wp2_with fail
        refine (rRest _ (n - k) _ (by omega) (by omega)).mono ?_
        rintro e w2 ⟨⟨q, hq, rfl⟩, hw⟩
        have hw := hw.symm
        subst hw
        obtain ⟨x, y, HXX, HYY, hx, hy, hcx, hcy⟩ := HF.out q hq
        have HP2 : Hid (Pk l (out ++ [(x, y)]) (rem.eraseIdx q) n (k + 1)) := pk_step HP.out hq HXX.out HYY.out
        clear HF
        go_wp2_with (at_builtin; refine wpList_appS Try.underlying39 infoSh _ rfl _ _ rfl w1.heap.size _ _ _ rfl hownO _ _ rfl (by omega) (by omega) ?_; intro v' w7 hown7 hbel7)
        have hownR7 := own_keepB hownR hbel7 hg2
        have hbw7 := hbel.trans (hbel7.mono hs1)
        have hsz7 := hbel7.size
        clear hownR hownO hbel hbel7 hcx hcy hct
        refine (cDelete g (n - k) c w.heap.size q _ _ hownR7 hlr hq (by omega) (by omega)).mono ?_
        rintro e w8 ⟨rfl, hownR8, hgr8⟩
        have e8 : n - k - 1 = n - (k + 1) := by omega
        rw [e8] at hownR8 ⊢
        have hown8 := own_keepG hown7 hgr8 hg2
        have hbw8 := below_grown hbw7 hgr8 hg1
        have hsz8 : w1.heap.size ≤ w8.heap.size := by have := hgr8.size; omega
        clear hgr8 hown7 hbw7 hownR7 e8
        go_wp2
        go_roundw
        case rel => exact ⟨k + 1, _, _, by omega, by go_num, rfl, HP2, hownR8, hown8, hbw8, hsz8⟩
        case measure => simp [intOf]; omega
      · obtain ⟨x, y, HXX, HYY, hx, hy, hcx, hcy⟩ := HF.out 0 (by omega)
        have HP2 : Hid (Pk l (out ++ [(x, y)]) (rem.eraseIdx 0) n (k + 1)) := pk_step HP.out (by omega) HXX.out HYY.out
        clear HF
        go_wp2_with (at_builtin; refine wpList_appS Try.underlying39 infoSh _ rfl _ _ rfl w1.heap.size _ _ _ rfl hownO _ _ rfl (by omega) (by omega) ?_; intro v' w7 hown7 hbel7)
        have hownR7 := own_keepB hownR hbel7 hg2
        have hbw7 := hbel.trans (hbel7.mono hs1)
        have hsz7 := hbel7.size
        clear hownR hownO hbel hbel7 hcx hcy
        refine (cDelete g (n - k) c w.heap.size 0 _ _ hownR7 hlr (by omega) (by omega) (by omega)).mono ?_
        rintro e w8 ⟨rfl, hownR8, hgr8⟩
        have e8 : n - k - 1 = n - (k + 1) := by omega
        rw [e8] at hownR8 ⊢
        have hown8 := own_keepG hown7 hgr8 hg2
        have hbw8 := below_grown hbw7 hgr8 hg1
        have hsz8 : w1.heap.size ≤ w8.heap.size := by have := hgr8.size; omega
        clear hgr8 hown7 hbw7 hownR7 e8
        go_wp2
        go_roundw
        case rel => exact ⟨k + 1, _, _, by omega, by go_num, rfl, HP2, hownR8, hown8, hbw8, hsz8⟩
        case measure => simp [intOf]; omega
    · have hkK : k = K := by omega
      subst hkK
      have hownO2 : wr.ownsRow w.heap.size 38 2 u7 k (shc out) := by
        rcases hownO.2 with h' | ⟨g', cap, cur, e1, e2, e3⟩
        · exact ⟨hownO.1, Or.inl h'⟩
        · exact ⟨hownO.1, Or.inr ⟨g', cap, cur, e1, by omega, e3⟩⟩
      go_wp2
      go_ret
      exact ⟨out, rem, _, rfl, HP.out.lo, HP.out.perm, hownO2, hbel⟩
end
end Go.Proofs.Ytljlioglpaogdad
