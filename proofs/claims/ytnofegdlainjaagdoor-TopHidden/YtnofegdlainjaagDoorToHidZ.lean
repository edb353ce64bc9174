/- hide.different. · The places of the pairs of a dealing in two variables: plain facts. · The five numbers that hide.zeros reckons, and the pairs of powers that hide.places tells: plain facts. -/
import Derived.Test.YtnofegdlainjaagDoorToCheckC
import Derived.Test.YtnofegdlainjaagDoorToHidM
import Derived.Test.YtnofegdlainjaagDoorToTwDef
import Derived.Test.YtnofegdlainjaagDoorToSortC
namespace Go.Proofs.YtnofegdlainjaagDoor
open Go.RowKit Crm

/-- Row g holds the marks M. -/
def BlkT (w : World) (g : Nat) (M : List Bool) : Prop := w.heap[g]? = some (.cells (M.map Value.bool).toArray 125 (0, 0))
theorem BlkT.lt {w : World} {g : Nat} {M : List Bool} (h : BlkT w g M) : g < w.heap.size := (Array.getElem?_eq_some_iff.1 h).1
theorem BlkT.cell {w : World} {g : Nat} {M : List Bool} (h : BlkT w g M) {i : Nat} (hi : i < M.length) : w.cell? ⟨g, i, none⟩ = some (.bool (M.getD i false)) := by
  rw [cell_of_row w g i _ _ (0, 0) h]
  simp [List.getElem?_eq_getElem hi]
theorem BlkT.frozen {w : World} {g : Nat} {M : List Bool} (h : BlkT w g M) (i : Nat) : w.frozen? ⟨g, i, none⟩ = false := frozen_of_row w g i _ _ h
theorem BlkT.set {w : World} {g : Nat} {M : List Bool} (h : BlkT w g M) (i : Nat) (v : Bool) : BlkT (w.setCell ⟨g, i, none⟩ (.bool v)) g (M.set i v) := by
  have := heap_setCell_same w g i _ _ (.bool v) h
  unfold BlkT
  rw [this]
  simp [List.map_set]

set_option maxRecDepth 100000 in
set_option maxHeartbeats 1000000 in
theorem hDifferent (a : Option Addr) (n c : Nat) (ts : List Int) (w : World) (h : RdI w a n c ts) :
    Calls Tryd.prog 51 #[.slice a n c] w fun e w' => Tells (dis (fi ts) n) w e w' := by
  have hcap := h.cap
  have hmax := h.max
  unfold maxLen at hmax
  go_enter Tryd.func51, Tryd.ntmps51
  go_wp2
  go_loopw [8] (fun i wr => ∃ (k : Nat) (M : List Bool), k ≤ n ∧ i = .int .i64 k ∧ Hid (Mk (fi ts) k M) ∧ BlkT wr w.heap.size M ∧ Below w.heap.size w wr) (fun i _ => n - (intOf i).toNat)
  case atStart => exact ⟨0, _, Nat.zero_le _, rfl, mk_start _, heap_alloc_new w _, (Below.refl _ _).alloc (Nat.le_refl _) _⟩
  case round =>
    obtain ⟨k, M, hk, rfl, HM, hB, hbel⟩ := hrel
    have hlM := HM.out.len
    have hltB := hB.lt
    by_cases hlt : k < n
    · obtain ⟨b, o, x, rfl, hbb, HX, hx0, hx1, hcx⟩ := (h.below hbel).one hlt
      by_cases hx2 : x < 1
      · have HN : Hid (¬ dis (fi ts) n) := mk_out hlt HX.out (.inl hx2)
        go_wp2
        go_ret
        exact .no HN.out hbel
      · by_cases hx9 : 9 < x
        · have HN : Hid (¬ dis (fi ts) n) := mk_out hlt HX.out (.inr hx9)
          go_wp2
          go_ret
          exact .no HN.out hbel
        · obtain ⟨p, rfl⟩ : ∃ p : Nat, x = p := ⟨x.toNat, by omega⟩
          have hcp := hB.cell (i := p) (by omega)
          cases hm : M.getD p false with
          | true =>
            have HN : Hid (¬ dis (fi ts) n) := mk_twice HM.out hlt HX.out (by omega) (by omega) hm
            rw [hm] at hcp
            clear hm
            go_wp2
            go_ret
            exact .no HN.out hbel
          | false =>
            have HM2 : Hid (Mk (fi ts) (k + 1) (M.set p true)) := mk_step HM.out HX.out (by omega) (by omega) hm
            rw [hm] at hcp
            have hfz := hB.frozen p
            have hB3 := hB.set p true
            have hbel3 := below_grown hbel (grown_set wr w.heap.size p (.bool true)) (Nat.le_refl _)
            clear hm hB hbel
            go_wp2
            go_roundw
            case rel => exact ⟨k + 1, _, by omega, by go_num, HM2, hB3, hbel3⟩
            case measure => simp [intOf]; omega
    · have hkn : k = n := by omega
      subst hkn
      have HD : Hid (dis (fi ts) k) := HM.out.dis
      go_wp2
      go_ret
      exact .yes HD.out hbel
end Go.Proofs.YtnofegdlainjaagDoor

namespace Go.Proofs.YtnofegdlainjaagDoor
open Crm

/-- The place of the pair i, j. -/
def pp (t i j : Nat) : Nat := (nd2 (t : Nat) i + ((j : Int) - i)).toNat
theorem pp_zero (t : Nat) : pp t 0 0 = 0 := rfl
theorem pp_first (t : Nat) : pp t 0 1 = pp t 0 0 := rfl
theorem pp_step {t i j : Nat} (ht : t ≤ 4) (hij : i ≤ j) (hj : j ≤ t) (h0 : 0 < i + j) : pp t i (j + 1) = pp t i j + 1 := by
  have h := (hpl_at t (by omega) j (by omega) i hij hj h0).2
  unfold pp
  omega
theorem pp_row (t i : Nat) : pp t i (t + 1) = pp t (i + 1) (i + 1) := by
  unfold pp
  rw [nd2]
  omega
theorem pp_end {t : Nat} (ht : t ≤ 4) : pp t (t + 1) (t + 1) = need2 t := by
  have hcase : t = 0 ∨ t = 1 ∨ t = 2 ∨ t = 3 ∨ t = 4 := by omega
  rcases hcase with rfl | rfl | rfl | rfl | rfl <;> decide
theorem pp_lt {t i j : Nat} (ht : t ≤ 4) (hij : i ≤ j) (hj : j ≤ t) (h0 : 0 < i + j) : pp t i j < need2 t := by
  have h := (hpl_at t (by omega) j (by omega) i hij hj h0).2
  have h3 := (pos_bd t (by omega) j (by omega) i hij hj).2
  unfold pp need2
  omega
theorem pp_le {t i j : Nat} (ht : t ≤ 4) (hi : i ≤ t) (hij : i ≤ j) (hj : j ≤ t + 1) : pp t i j ≤ 14 := by
  have hn := need2_bd ht
  by_cases h0 : i + j = 0
  · obtain rfl : i = 0 := by omega
    obtain rfl : j = 0 := by omega
    rw [pp_zero]
    omega
  · by_cases hjt : j ≤ t
    · have := pp_lt ht hij hjt (by omega)
      omega
    · obtain rfl : j = t + 1 := by omega
      by_cases h00 : 0 < i + t
      · have := pp_lt ht (show i ≤ t by omega) (Nat.le_refl t) h00
        rw [pp_step ht (by omega) (Nat.le_refl t) h00]
        omega
      · obtain rfl : i = 0 := by omega
        obtain rfl : t = 0 := by omega
        decide
/-- One number more. -/
theorem twl_step {who : List Int} {k t i j : Nat} {a b : Int} {ds : List Int} (ht : t ≤ 4) (hij : i ≤ j) (hj : j ≤ t) (h0 : 0 < i + j) : twl who k a b ds t (pp t i j) ++ [nm (ds.getD (pp t i j) 0 + nm (b - a) * nm ((bl who k).getD i 0 * (bl who k).getD j 0))] = twl who k a b ds t (pp t i (j + 1)) := by
  have h := (hpl_at t (by omega) j (by omega) i hij hj h0).1
  rw [pp_step ht hij hj h0, ← twl_snoc]
  unfold twf
  have e : (hpl t).getD (pp t i j) (0, 0) = (i, j) := h
  rw [e]
end Go.Proofs.YtnofegdlainjaagDoor

namespace Go.Proofs.YtnofegdlainjaagDoor
open Crm

theorem pc_two (p : List Int) (u v : Int) (i : Nat) : pc p [u, v] (i + 1) p.length = p.getD i 0 * v + p.getD (i + 1) 0 * u := by
  rw [← pc_ge p [u, v] (i + 1) (i + 2), show p.length + (i + 2) = i + 1 + 1 + p.length by omega, pc_more, pc, pc, pc_far _ _ _ _ (by simp), tm, tm, if_pos (by omega), if_pos (by omega), show i + 1 - i = 1 by omega, Nat.sub_self, Int.zero_add]
  rfl
/-- One party more: each number, less the one below it by that party. -/
theorem bl_step (who : List Int) (k i : Nat) : (bl who (k + 1)).getD (i + 1) 0 = nm ((bl who k).getD (i + 1) 0 - nm ((bl who k).getD i 0 * iv (who.getD k 0))) := by
  rw [bl, cvl_getD, pc_two, Int.mul_one, nm_subr, ← nm_addl, nm_mulr, nm_addl, Int.mul_neg]
  congr 1
  omega
/-- The numbers above i are reckoned with one party more. -/
def zm (who : List Int) (k i : Nat) : List Int := (List.range 5).map fun j => if i < j then (bl who (k + 1)).getD j 0 else (bl who k).getD j 0
def zr (who : List Int) (k : Nat) : List Int := (List.range 5).map fun j => (bl who k).getD j 0
theorem zm_len (who : List Int) (k i : Nat) : (zm who k i).length = 5 := by simp [zm]
theorem zr_len (who : List Int) (k : Nat) : (zr who k).length = 5 := by simp [zr]
theorem zr_zero (who : List Int) : zr who 0 = [1, 0, 0, 0, 0] := rfl
theorem zr_getD (who : List Int) (k : Nat) {j : Nat} (h : j < 5) : (zr who k).getD j 0 = (bl who k).getD j 0 := by simp [zr, h]
theorem zm_getD (who : List Int) (k i : Nat) {j : Nat} (h : j < 5) : (zm who k i).getD j 0 = if i < j then (bl who (k + 1)).getD j 0 else (bl who k).getD j 0 := by simp [zm, h]
theorem zm_start (who : List Int) (k : Nat) : zm who k 4 = zr who k := by
  unfold zm zr
  refine List.map_congr_left fun j hj => ?_
  have := List.mem_range.1 hj
  rw [if_neg (by omega)]
theorem zm_end (who : List Int) (k : Nat) : zm who k 0 = zr who (k + 1) := by
  unfold zm zr
  refine List.map_congr_left fun j hj => ?_
  by_cases h : 0 < j
  · rw [if_pos h]
  · obtain rfl : j = 0 := by omega
    rw [if_neg h, bl_first, bl_first]
theorem zm_bd (who : List Int) (k i : Nat) : ∀ x ∈ zm who k i, 0 ≤ x ∧ x ≤ 2147483646 := fun x hx => by
  obtain ⟨j, _, rfl⟩ := List.mem_map.1 hx
  split
  · exact getD_bd' (bl_bd who (k + 1)) j
  · exact getD_bd' (bl_bd who k) j
theorem zr_bd (who : List Int) (k : Nat) : ∀ x ∈ zr who k, 0 ≤ x ∧ x ≤ 2147483646 := fun x hx => by
  obtain ⟨j, _, rfl⟩ := List.mem_map.1 hx
  exact getD_bd' (bl_bd who k) j
theorem zm_step (who : List Int) (k : Nat) {i : Nat} (h : i < 4) : (zm who k (i + 1)).set (i + 1) (nm ((zm who k (i + 1)).getD (i + 1) 0 - nm ((zm who k (i + 1)).getD i 0 * iv (who.getD k 0)))) = zm who k i := by
  rw [zm_getD _ _ _ (by omega), zm_getD _ _ _ (by omega), if_neg (by omega), if_neg (by omega), ← bl_step]
  apply List.ext_getElem?
  intro j
  rw [List.getElem?_set]
  by_cases hj : j < 5
  · by_cases e : i + 1 = j
    · subst e
      rw [if_pos rfl, if_pos (by rw [zm_len]; omega)]
      simp [zm, hj]
    · have : (i + 1 < j) = (i < j) := by apply propext; omega
      simp [zm, hj, e, this]
  · by_cases e : i + 1 = j
    · omega
    · simp [zm, hj, e]

theorem shf_num (x a b B : Int) : nm (x + nm (nm (b + nm (-a)) * B)) = nm (x + nm (b - a) * B) := by
  rw [nm_addr]
  refine nm_add_congr rfl (nm_mul_congr ?_ rfl)
  rw [nm_nm, nm_nm, nm_addr, Int.sub_eq_add_neg]
theorem twl_num (x a b B : Int) : nm (x + nm (nm (b + nm (-a)) * nm B)) = nm (x + nm (b - a) * nm B) := shf_num _ _ _ _
theorem needI {t : Nat} (ht : t ≤ 4) : ((t : Int) + 1) * ((t : Int) + 2) / 2 - 1 = (need2 t : Int) := by
  have hcase : t = 0 ∨ t = 1 ∨ t = 2 ∨ t = 3 ∨ t = 4 := by omega
  rcases hcase with rfl | rfl | rfl | rfl | rfl <;> decide

/-- All pairs of powers, in order, as ints. -/
def fpl (t : Nat) : List (Int × Int) := (0, 0) :: (hpl t).map fun x => ((x.1 : Int), (x.2 : Int))
/-- The place of the pair i, j among all. -/
def pf (t i j : Nat) : Nat := (nd2 (t : Nat) i + ((j : Int) - i) + 1).toNat
theorem fpl_len {t : Nat} (h : t ≤ 4) : (fpl t).length = need2 t + 1 := by
  unfold fpl need2
  rw [List.length_cons, List.length_map, hpl_len t (by omega)]
theorem pf_zero (t : Nat) : pf t 0 0 = 0 := rfl
theorem pf_pp {t i j : Nat} (ht : t ≤ 4) (hij : i ≤ j) (hj : j ≤ t) (h0 : 0 < i + j) : pf t i j = pp t i j + 1 := by
  have h := (hpl_at t (by omega) j (by omega) i hij hj h0).2
  unfold pf pp
  omega
theorem pf_step {t i j : Nat} (ht : t ≤ 4) (hij : i ≤ j) (hj : j ≤ t) : pf t i (j + 1) = pf t i j + 1 := by
  by_cases h0 : 0 < i + j
  · have h := (hpl_at t (by omega) j (by omega) i hij hj h0).2
    unfold pf
    omega
  · obtain rfl : i = 0 := by omega
    obtain rfl : j = 0 := by omega
    rfl
theorem pf_row (t i : Nat) : pf t i (t + 1) = pf t (i + 1) (i + 1) := by
  unfold pf
  rw [nd2]
  omega
theorem pf_end {t : Nat} (ht : t ≤ 4) : pf t (t + 1) (t + 1) = need2 t + 1 := by
  have hcase : t = 0 ∨ t = 1 ∨ t = 2 ∨ t = 3 ∨ t = 4 := by omega
  rcases hcase with rfl | rfl | rfl | rfl | rfl <;> decide
theorem pf_lt {t i j : Nat} (ht : t ≤ 4) (hij : i ≤ j) (hj : j ≤ t) : pf t i j < need2 t + 1 := by
  by_cases h0 : 0 < i + j
  · have := pp_lt ht hij hj h0
    rw [pf_pp ht hij hj h0]
    omega
  · obtain rfl : i = 0 := by omega
    obtain rfl : j = 0 := by omega
    rw [pf_zero]
    omega
theorem fpl_at {t i j : Nat} (ht : t ≤ 4) (hij : i ≤ j) (hj : j ≤ t) : (fpl t)[pf t i j]? = some ((i : Int), (j : Int)) := by
  by_cases h0 : 0 < i + j
  · have h := (hpl_at t (by omega) j (by omega) i hij hj h0).1
    have hl := pp_lt ht hij hj h0
    have e : (hpl t).getD (pp t i j) (0, 0) = (i, j) := h
    have hlen := hpl_len t (by omega)
    unfold need2 at hl
    rw [pf_pp ht hij hj h0, fpl, List.getElem?_cons_succ, List.getElem?_map]
    rw [List.getD_eq_getElem?_getD, List.getElem?_eq_getElem (by omega), Option.getD_some] at e
    rw [List.getElem?_eq_getElem (by omega), e]
    rfl
  · obtain rfl : i = 0 := by omega
    obtain rfl : j = 0 := by omega
    rfl
/-- The pairs ahead of i, j. -/
def fpt (t p : Nat) : List (Int × Int) := (fpl t).take p
theorem fpt_step {t i j : Nat} (ht : t ≤ 4) (hij : i ≤ j) (hj : j ≤ t) : fpt t (pf t i j) ++ [((i : Int), (j : Int))] = fpt t (pf t i j + 1) := by
  unfold fpt
  rw [List.take_add_one, fpl_at ht hij hj]
  rfl
theorem fpt_len {t p : Nat} (ht : t ≤ 4) (hp : p ≤ need2 t + 1) : (fpt t p).length = p := by
  unfold fpt
  rw [List.length_take, fpl_len ht]
  omega
theorem fpt_full {t : Nat} (ht : t ≤ 4) : fpt t (need2 t + 1) = fpl t := by
  unfold fpt
  rw [List.take_of_length_le (by rw [fpl_len ht]; omega)]
/-- The pairs but the first. -/
def hpi (t : Nat) : List (Int × Int) := (hpl t).map fun x => ((x.1 : Int), (x.2 : Int))
theorem hpi_len {t : Nat} (h : t ≤ 4) : (hpi t).length = need2 t := by
  unfold hpi need2
  rw [List.length_map, hpl_len t (by omega)]
theorem hpi_at (t : Nat) {p : Nat} (h : p < (hpl t).length) : (hpi t).getD p (0, 0) = ((((hpl t).getD p (0, 0)).1 : Int), (((hpl t).getD p (0, 0)).2 : Int)) := by
  unfold hpi
  simp [h]
theorem hpl_bd : ∀ t, t < 5 → ∀ x ∈ hpl t, x.1 ≤ 4 ∧ x.2 ≤ 4 := by decide
theorem hpi_bd {t p : Nat} (ht : t ≤ 4) (h : p < need2 t) : ∃ i j : Nat, (hpl t).getD p (0, 0) = (i, j) ∧ (hpi t).getD p (0, 0) = ((i : Int), (j : Int)) ∧ i ≤ 4 ∧ j ≤ 4 := by
  have hl := hpl_len t (by omega)
  unfold need2 at h
  have hm : (hpl t).getD p (0, 0) ∈ hpl t := by
    rw [List.getD_eq_getElem?_getD, List.getElem?_eq_getElem (by omega), Option.getD_some]
    exact List.getElem_mem _
  have hb := hpl_bd t (by omega) _ hm
  exact ⟨((hpl t).getD p (0, 0)).1, ((hpl t).getD p (0, 0)).2, rfl, hpi_at t (by omega), hb.1, hb.2⟩
end Go.Proofs.YtnofegdlainjaagDoor
