/- The places of the pairs of a dealing in two variables: plain facts. · The five numbers that hide.zeros reckons, and the pairs of powers that hide.places tells: plain facts. · hide.zeros. -/
import Derived.Test.YtgmelcdgnjcojagDoorToHidD
import Derived.Test.YtgmelcdgnjcojagDoorToTwSqM
import Derived.Test.YtgmelcdgnjcojagDoorToRefProdC
import Derived.Test.YtgmelcdgnjcojagDoorToNewtonM
import Derived.Test.YtgmelcdgnjcojagDoorToOpenG
import Derived.Deep.RegionWith
import Derived.Deep.Cut
import Derived.Laws.Rows
import Derived.Laws.Tables
import Derived.Laws.CopyOwn
namespace Go.Proofs.YtgmelcdgnjcojagDoor
open Crm

/-- The place of the pair i, j. -/
def pp (t i j : Nat) : Nat := (nd2 (t : Nat) i + ((j : Int) - i)).toNat
theorem pp_zero (t : Nat) : pp t 0 0 = 0 := rfl
theorem pp_first (t : Nat) : pp t 0 1 = pp t 0 0 := rfl
theorem pp_step {t i j : Nat} (ht : t ≤ 4) (hij : i ≤ j) (hj : j ≤ t) (h0 : 0 < i + j) : pp t i (j + 1) = pp t i j + 1 := by
  have h := (hpl_at t (by omega) j (by omega) i hij hj h0).2
  unfold pp
  omega
theorem pp_row (t i : Nat) : pp t i (t + 1) = pp t (i + 1) (i + 1) := by
  unfold pp
  rw [nd2]
  omega
theorem pp_end {t : Nat} (ht : t ≤ 4) : pp t (t + 1) (t + 1) = need2 t := by
  have hcase : t = 0 ∨ t = 1 ∨ t = 2 ∨ t = 3 ∨ t = 4 := by omega
  rcases hcase with rfl | rfl | rfl | rfl | rfl <;> decide
theorem pp_lt {t i j : Nat} (ht : t ≤ 4) (hij : i ≤ j) (hj : j ≤ t) (h0 : 0 < i + j) : pp t i j < need2 t := by
  have h := (hpl_at t (by omega) j (by omega) i hij hj h0).2
  have h3 := (pos_bd t (by omega) j (by omega) i hij hj).2
  unfold pp need2
  omega
theorem pp_le {t i j : Nat} (ht : t ≤ 4) (hi : i ≤ t) (hij : i ≤ j) (hj : j ≤ t + 1) : pp t i j ≤ 14 := by
  have hn := need2_bd ht
  by_cases h0 : i + j = 0
  · obtain rfl : i = 0 := by omega
    obtain rfl : j = 0 := by omega
    rw [pp_zero]
    omega
  · by_cases hjt : j ≤ t
    · have := pp_lt ht hij hjt (by omega)
      omega
    · obtain rfl : j = t + 1 := by omega
      by_cases h00 : 0 < i + t
      · have := pp_lt ht (show i ≤ t by omega) (Nat.le_refl t) h00
        rw [pp_step ht (by omega) (Nat.le_refl t) h00]
        omega
      · obtain rfl : i = 0 := by omega
        obtain rfl : t = 0 := by omega
        decide
/-- One number more. -/
theorem twl_step {who : List Int} {k t i j : Nat} {a b : Int} {ds : List Int} (ht : t ≤ 4) (hij : i ≤ j) (hj : j ≤ t) (h0 : 0 < i + j) : twl who k a b ds t (pp t i j) ++ [nm (ds.getD (pp t i j) 0 + nm (b - a) * nm ((bl who k).getD i 0 * (bl who k).getD j 0))] = twl who k a b ds t (pp t i (j + 1)) := by
  have h := (hpl_at t (by omega) j (by omega) i hij hj h0).1
  rw [pp_step ht hij hj h0, ← twl_snoc]
  unfold twf
  have e : (hpl t).getD (pp t i j) (0, 0) = (i, j) := h
  rw [e]
end Go.Proofs.YtgmelcdgnjcojagDoor

namespace Go.Proofs.YtgmelcdgnjcojagDoor
open Crm

theorem pc_two (p : List Int) (u v : Int) (i : Nat) : pc p [u, v] (i + 1) p.length = p.getD i 0 * v + p.getD (i + 1) 0 * u := by
  rw [← pc_ge p [u, v] (i + 1) (i + 2), show p.length + (i + 2) = i + 1 + 1 + p.length by omega, pc_more, pc, pc, pc_far _ _ _ _ (by simp), tm, tm, if_pos (by omega), if_pos (by omega), show i + 1 - i = 1 by omega, Nat.sub_self, Int.zero_add]
  rfl
/-- One party more: each number, less the one below it by that party. -/
theorem bl_step (who : List Int) (k i : Nat) : (bl who (k + 1)).getD (i + 1) 0 = nm ((bl who k).getD (i + 1) 0 - nm ((bl who k).getD i 0 * iv (who.getD k 0))) := by
  rw [bl, cvl_getD, pc_two, Int.mul_one, nm_subr, ← nm_addl, nm_mulr, nm_addl, Int.mul_neg]
  congr 1
  omega
/-- The numbers above i are reckoned with one party more. -/
def zm (who : List Int) (k i : Nat) : List Int := (List.range 5).map fun j => if i < j then (bl who (k + 1)).getD j 0 else (bl who k).getD j 0
def zr (who : List Int) (k : Nat) : List Int := (List.range 5).map fun j => (bl who k).getD j 0
theorem zm_len (who : List Int) (k i : Nat) : (zm who k i).length = 5 := by simp [zm]
theorem zr_len (who : List Int) (k : Nat) : (zr who k).length = 5 := by simp [zr]
theorem zr_zero (who : List Int) : zr who 0 = [1, 0, 0, 0, 0] := rfl
theorem zr_getD (who : List Int) (k : Nat) {j : Nat} (h : j < 5) : (zr who k).getD j 0 = (bl who k).getD j 0 := by simp [zr, h]
theorem zm_getD (who : List Int) (k i : Nat) {j : Nat} (h : j < 5) : (zm who k i).getD j 0 = if i < j then (bl who (k + 1)).getD j 0 else (bl who k).getD j 0 := by simp [zm, h]
theorem zm_start (who : List Int) (k : Nat) : zm who k 4 = zr who k := by
  unfold zm zr
  refine List.map_congr_left fun j hj => ?_
  have := List.mem_range.1 hj
  rw [if_neg (by omega)]
theorem zm_end (who : List Int) (k : Nat) : zm who k 0 = zr who (k + 1) := by
  unfold zm zr
  refine List.map_congr_left fun j hj => ?_
  by_cases h : 0 < j
  · rw [if_pos h]
  · obtain rfl : j = 0 := by omega
    rw [if_neg h, bl_first, bl_first]
theorem zm_bd (who : List Int) (k i : Nat) : ∀ x ∈ zm who k i, 0 ≤ x ∧ x ≤ 2147483646 := fun x hx => by
  obtain ⟨j, _, rfl⟩ := List.mem_map.1 hx
  split
  · exact getD_bd' (bl_bd who (k + 1)) j
  · exact getD_bd' (bl_bd who k) j
theorem zr_bd (who : List Int) (k : Nat) : ∀ x ∈ zr who k, 0 ≤ x ∧ x ≤ 2147483646 := fun x hx => by
  obtain ⟨j, _, rfl⟩ := List.mem_map.1 hx
  exact getD_bd' (bl_bd who k) j
theorem zm_step (who : List Int) (k : Nat) {i : Nat} (h : i < 4) : (zm who k (i + 1)).set (i + 1) (nm ((zm who k (i + 1)).getD (i + 1) 0 - nm ((zm who k (i + 1)).getD i 0 * iv (who.getD k 0)))) = zm who k i := by
  rw [zm_getD _ _ _ (by omega), zm_getD _ _ _ (by omega), if_neg (by omega), if_neg (by omega), ← bl_step]
  apply List.ext_getElem?
  intro j
  rw [List.getElem?_set]
  by_cases hj : j < 5
  · by_cases e : i + 1 = j
    · subst e
      rw [if_pos rfl, if_pos (by rw [zm_len]; omega)]
      simp [zm, hj]
    · have : (i + 1 < j) = (i < j) := by apply propext; omega
      simp [zm, hj, e, this]
  · by_cases e : i + 1 = j
    · omega
    · simp [zm, hj, e]

theorem shf_num (x a b B : Int) : nm (x + nm (nm (b + nm (-a)) * B)) = nm (x + nm (b - a) * B) := by
  rw [nm_addr]
  refine nm_add_congr rfl (nm_mul_congr ?_ rfl)
  rw [nm_nm, nm_nm, nm_addr, Int.sub_eq_add_neg]
theorem twl_num (x a b B : Int) : nm (x + nm (nm (b + nm (-a)) * nm B)) = nm (x + nm (b - a) * nm B) := shf_num _ _ _ _
theorem needI {t : Nat} (ht : t ≤ 4) : ((t : Int) + 1) * ((t : Int) + 2) / 2 - 1 = (need2 t : Int) := by
  have hcase : t = 0 ∨ t = 1 ∨ t = 2 ∨ t = 3 ∨ t = 4 := by omega
  rcases hcase with rfl | rfl | rfl | rfl | rfl <;> decide

/-- All pairs of powers, in order, as ints. -/
def fpl (t : Nat) : List (Int × Int) := (0, 0) :: (hpl t).map fun x => ((x.1 : Int), (x.2 : Int))
/-- The place of the pair i, j among all. -/
def pf (t i j : Nat) : Nat := (nd2 (t : Nat) i + ((j : Int) - i) + 1).toNat
theorem fpl_len {t : Nat} (h : t ≤ 4) : (fpl t).length = need2 t + 1 := by
  unfold fpl need2
  rw [List.length_cons, List.length_map, hpl_len t (by omega)]
theorem pf_zero (t : Nat) : pf t 0 0 = 0 := rfl
theorem pf_pp {t i j : Nat} (ht : t ≤ 4) (hij : i ≤ j) (hj : j ≤ t) (h0 : 0 < i + j) : pf t i j = pp t i j + 1 := by
  have h := (hpl_at t (by omega) j (by omega) i hij hj h0).2
  unfold pf pp
  omega
theorem pf_step {t i j : Nat} (ht : t ≤ 4) (hij : i ≤ j) (hj : j ≤ t) : pf t i (j + 1) = pf t i j + 1 := by
  by_cases h0 : 0 < i + j
  · have h := (hpl_at t (by omega) j (by omega) i hij hj h0).2
    unfold pf
    omega
  · obtain rfl : i = 0 := by omega
    obtain rfl : j = 0 := by omega
    rfl
theorem pf_row (t i : Nat) : pf t i (t + 1) = pf t (i + 1) (i + 1) := by
  unfold pf
  rw [nd2]
  omega
theorem pf_end {t : Nat} (ht : t ≤ 4) : pf t (t + 1) (t + 1) = need2 t + 1 := by
  have hcase : t = 0 ∨ t = 1 ∨ t = 2 ∨ t = 3 ∨ t = 4 := by omega
  rcases hcase with rfl | rfl | rfl | rfl | rfl <;> decide
theorem pf_lt {t i j : Nat} (ht : t ≤ 4) (hij : i ≤ j) (hj : j ≤ t) : pf t i j < need2 t + 1 := by
  by_cases h0 : 0 < i + j
  · have := pp_lt ht hij hj h0
    rw [pf_pp ht hij hj h0]
    omega
  · obtain rfl : i = 0 := by omega
    obtain rfl : j = 0 := by omega
    rw [pf_zero]
    omega
theorem fpl_at {t i j : Nat} (ht : t ≤ 4) (hij : i ≤ j) (hj : j ≤ t) : (fpl t)[pf t i j]? = some ((i : Int), (j : Int)) := by
  by_cases h0 : 0 < i + j
  · have h := (hpl_at t (by omega) j (by omega) i hij hj h0).1
    have hl := pp_lt ht hij hj h0
    have e : (hpl t).getD (pp t i j) (0, 0) = (i, j) := h
    have hlen := hpl_len t (by omega)
    unfold need2 at hl
    rw [pf_pp ht hij hj h0, fpl, List.getElem?_cons_succ, List.getElem?_map]
    rw [List.getD_eq_getElem?_getD, List.getElem?_eq_getElem (by omega), Option.getD_some] at e
    rw [List.getElem?_eq_getElem (by omega), e]
    rfl
  · obtain rfl : i = 0 := by omega
    obtain rfl : j = 0 := by omega
    rfl
/-- The pairs ahead of i, j. -/
def fpt (t p : Nat) : List (Int × Int) := (fpl t).take p
theorem fpt_step {t i j : Nat} (ht : t ≤ 4) (hij : i ≤ j) (hj : j ≤ t) : fpt t (pf t i j) ++ [((i : Int), (j : Int))] = fpt t (pf t i j + 1) := by
  unfold fpt
  rw [List.take_add_one, fpl_at ht hij hj]
  rfl
theorem fpt_len {t p : Nat} (ht : t ≤ 4) (hp : p ≤ need2 t + 1) : (fpt t p).length = p := by
  unfold fpt
  rw [List.length_take, fpl_len ht]
  omega
theorem fpt_full {t : Nat} (ht : t ≤ 4) : fpt t (need2 t + 1) = fpl t := by
  unfold fpt
  rw [List.take_of_length_le (by rw [fpl_len ht]; omega)]
/-- The pairs but the first. -/
def hpi (t : Nat) : List (Int × Int) := (hpl t).map fun x => ((x.1 : Int), (x.2 : Int))
theorem hpi_len {t : Nat} (h : t ≤ 4) : (hpi t).length = need2 t := by
  unfold hpi need2
  rw [List.length_map, hpl_len t (by omega)]
theorem hpi_at (t : Nat) {p : Nat} (h : p < (hpl t).length) : (hpi t).getD p (0, 0) = ((((hpl t).getD p (0, 0)).1 : Int), (((hpl t).getD p (0, 0)).2 : Int)) := by
  unfold hpi
  simp [h]
theorem hpl_bd : ∀ t, t < 5 → ∀ x ∈ hpl t, x.1 ≤ 4 ∧ x.2 ≤ 4 := by decide
theorem hpi_bd {t p : Nat} (ht : t ≤ 4) (h : p < need2 t) : ∃ i j : Nat, (hpl t).getD p (0, 0) = (i, j) ∧ (hpi t).getD p (0, 0) = ((i : Int), (j : Int)) ∧ i ≤ 4 ∧ j ≤ 4 := by
  have hl := hpl_len t (by omega)
  unfold need2 at h
  have hm : (hpl t).getD p (0, 0) ∈ hpl t := by
    rw [List.getD_eq_getElem?_getD, List.getElem?_eq_getElem (by omega), Option.getD_some]
    exact List.getElem_mem _
  have hb := hpl_bd t (by omega) _ hm
  exact ⟨((hpl t).getD p (0, 0)).1, ((hpl t).getD p (0, 0)).2, rfl, hpi_at t (by omega), hb.1, hb.2⟩
end Go.Proofs.YtgmelcdgnjcojagDoor

namespace Go.Proofs.YtgmelcdgnjcojagDoor
open Go.RowKit Crm

/-- Block g holds the five numbers C. -/
def BlkP (w : World) (g : Nat) (C : List Int) : Prop := w.heap[g]? = some (.cells (C.map (Value.int .u64)).toArray 103 (0, 0))
theorem BlkP.lt {w : World} {g : Nat} {C : List Int} (h : BlkP w g C) : g < w.heap.size := (Array.getElem?_eq_some_iff.1 h).1
theorem BlkP.cell {w : World} {g : Nat} {C : List Int} (h : BlkP w g C) {i : Nat} (hi : i < C.length) : w.cell? ⟨g, i, none⟩ = some (.int .u64 (C.getD i 0)) := by
  rw [cell_of_row w g i _ _ (0, 0) h]
  simp [List.getElem?_eq_getElem hi]
theorem BlkP.frozen {w : World} {g : Nat} {C : List Int} (h : BlkP w g C) (i : Nat) : w.frozen? ⟨g, i, none⟩ = false := frozen_of_row w g i _ _ h
theorem BlkP.set {w : World} {g : Nat} {C : List Int} (h : BlkP w g C) (i : Nat) (v : Int) : BlkP (w.setCell ⟨g, i, none⟩ (.int .u64 v)) g (C.set i v) := by
  have := heap_setCell_same w g i _ _ (.int .u64 v) h
  unfold BlkP
  rw [this]
  simp [List.map_set]
theorem BlkP.below {w w' : World} {B g : Nat} {C : List Int} (h : BlkP w g C) (hb : Below B w w') (hg : g < B) : BlkP w' g C := by
  unfold BlkP; rw [hb.block g hg]; exact h
theorem BlkP.other {w : World} {g g' i : Nat} {C : List Int} {v : Value} (h : BlkP w g C) (hg : g' ≠ g) : BlkP (w.setCell ⟨g', i, none⟩ v) g C := by
  unfold BlkP; rw [heap_setCell_other w ⟨g', i, none⟩ g v (fun e => hg e.symm)]; exact h
theorem infoPw : (Tryd.prog.info? 103).map (·.size) = some 5 := by kernel_rfl
theorem pw_one (C : List Int) : (C.map (Value.int .u64)).toArray.all (·.oneCell') = true := by
  rw [Array.all_eq_true_iff_forall_mem]
  intro v hv
  obtain ⟨x, _, rfl⟩ := List.mem_map.1 (show v ∈ C.map (Value.int .u64) by simpa using hv)
  rfl
def pw0 : List Int := [0, 0, 0, 0, 0]
def pw1 : List Int := [1, 0, 0, 0, 0]
theorem pw_new (w : World) {A : World} (hA : A = ((w.alloc (.cells #[.int .u64 0, .int .u64 0, .int .u64 0, .int .u64 0, .int .u64 0] 103)).alloc (.cells #[.int .u64 1, .int .u64 0, .int .u64 0, .int .u64 0, .int .u64 0] 103))) : BlkP A w.heap.size pw0 ∧ BlkP A (w.heap.size + 1) pw1 ∧ Below w.heap.size w A := by
  subst hA
  have h1 : BlkP (w.alloc (.cells #[.int .u64 0, .int .u64 0, .int .u64 0, .int .u64 0, .int .u64 0] 103)) w.heap.size pw0 := heap_alloc_new w _
  have h2 : BlkP ((w.alloc (.cells #[.int .u64 0, .int .u64 0, .int .u64 0, .int .u64 0, .int .u64 0] 103)).alloc (.cells #[.int .u64 1, .int .u64 0, .int .u64 0, .int .u64 0, .int .u64 0] 103)) (w.alloc (.cells #[.int .u64 0, .int .u64 0, .int .u64 0, .int .u64 0, .int .u64 0] 103)).heap.size pw1 := heap_alloc_new _ _
  have e : (w.alloc (.cells #[.int .u64 0, .int .u64 0, .int .u64 0, .int .u64 0, .int .u64 0] 103)).heap.size = w.heap.size + 1 := by simp
  rw [e] at h2
  exact ⟨h1.below ((Below.refl _ _).alloc (Nat.le_refl _) _) h1.lt, h2, ((Below.refl _ _).alloc (Nat.le_refl _) _).alloc (by simp) _⟩
theorem BlkP.row {w : World} {g : Nat} {C D : List Int} (h : BlkP w g C) : BlkP (w.setRow g (D.map (Value.int .u64)).toArray) g D := setRow_heap _ _ _ _ _ _ h
theorem BlkP.rowO {w : World} {g k : Nat} {C : List Int} {cs : Array Value} (h : BlkP w g C) (hk : g ≠ k) : BlkP (w.setRow k cs) g C := by
  unfold BlkP; rw [setRow_other _ _ _ _ hk]; exact h

set_option maxRecDepth 100000 in
set_option maxHeartbeats 2000000 in
theorem hZeros (a : Option Addr) (k c : Nat) (who : List Int) (w : World) (h : RdI w a k c who) (hd : dis (fi who) k) :
    Calls Tryd.prog 58 #[.slice a k c] w fun e w' => e = .returned (.agg ((zr who k).map (Value.int .u64)).toArray) ∧ Below w.heap.size w w' := by
  have hcap := h.cap
  have hmax := h.max
  unfold maxLen at hmax
  have HD : Hid (dis (fi who) k) := hd
  clear hd
  go_enter Tryd.func58, Tryd.ntmps58
  go_upto_region 2 with fail
  generalize hW : ((w.alloc (.cells #[.int .u64 0, .int .u64 0, .int .u64 0, .int .u64 0, .int .u64 0] 103)).alloc (.cells #[.int .u64 1, .int .u64 0, .int .u64 0, .int .u64 0, .int .u64 0] 103)) = w0
  obtain ⟨hq0, hq1, hbq⟩ := pw_new w hW.symm
  clear hW
  go_wp2
  go_loopw [12] (fun v wr => ∃ j : Nat, j ≤ k ∧ v = .int .i64 j ∧ BlkP wr w.heap.size pw0 ∧ BlkP wr (w.heap.size + 1) (zr who j) ∧ Below w.heap.size w wr) (fun v _ => k - (intOf v).toNat)
  case atStart => exact ⟨0, Nat.zero_le _, rfl, hq0, hq1, hbq⟩
  case round =>
    clear hq0 hq1 hbq
    obtain ⟨j, hj, rfl, hq0, hq1, hbel⟩ := hrel
    by_cases hlt : j < k
    · obtain ⟨b, o, x, rfl, hbb, HX, hx0, hx1, hcx⟩ := (h.below hbel).one hlt
      have hd := (HD.out j hlt).1
      have hdx : fi who j = x := HX.out
      rw [hdx] at hd
      obtain ⟨hd1, hd9⟩ := hd
      clear hdx
      have HNZ : Hid (nm x ≠ 0) := by unfold Hid; rw [nm_small (by omega) (by omega)]; omega
      have hib := iv_bd x
      obtain ⟨y, HY⟩ : ∃ y, Hid (iv x = y) := ⟨_, rfl⟩
      rw [HY.out] at hib
      have HYw : Hid (iv (who.getD j 0) = y) := by unfold Hid; rw [HX.out]; exact HY.out
      have hwx : IntKind.u64.wrap x = x := by rw [IntKind.wrap_u64]; omega
      rw [← zm_start] at hq1
      obtain ⟨wo, hwo⟩ : ∃ q, q = wr := ⟨_, rfl⟩
      subst hwo
      go_wp2_with (go_at_call 87; refine (fInv1 x _ (by omega) (by omega) HNZ.out).mono ?_; rintro e w3 ⟨rfl, hw⟩; have hw := hw.symm; subst hw; rw [HY.out])
      go_loopw [8] (fun v wr => ∃ i : Nat, i ≤ 4 ∧ v = .int .i64 i ∧ BlkP wr w.heap.size pw0 ∧ BlkP wr (w.heap.size + 1) (zm who j i) ∧ Below w.heap.size w wr) (fun v _ => (intOf v).toNat)
      case atStart => exact ⟨4, Nat.le_refl _, rfl, hq0, hq1, hbel⟩
      case round =>
        clear hq0 hq1 hbel
        obtain ⟨i, hi, rfl, hq0, hq1, hbel⟩ := hrel
        by_cases hi0 : 0 < i
        · obtain ⟨i, rfl⟩ : ∃ q, i = q + 1 := ⟨i - 1, by omega⟩
          have hl := zm_len who j (i + 1)
          have hlt1 := hq1.lt
          have c1 := hq1.cell (i := i + 1) (by omega)
          have c0 := hq1.cell (i := i) (by omega)
          have f1 := hq1.frozen (i + 1)
          have HS := hq1.set (i + 1) (nm ((zm who j (i + 1)).getD (i + 1) 0 - nm ((zm who j (i + 1)).getD i 0 * iv (who.getD j 0))))
          rw [zm_step who j (by omega), HYw.out] at HS
          have hb1 := getD_bd' (zm_bd who j (i + 1)) (i + 1)
          have hb0 := getD_bd' (zm_bd who j (i + 1)) i
          obtain ⟨u, HU⟩ : ∃ u, Hid ((zm who j (i + 1)).getD (i + 1) 0 = u) := ⟨_, rfl⟩
          obtain ⟨v, HV⟩ : ∃ v, Hid ((zm who j (i + 1)).getD i 0 = v) := ⟨_, rfl⟩
          rw [HU.out] at c1 HS hb1
          rw [HV.out] at c0 HS hb0
          have hm := nm_bd (v * y)
          have HS1 : Hid (BlkP _ _ _) := HS
          have HS0 : Hid (BlkP _ _ _) := hq0.other (g' := w.heap.size + 1) (i := i + 1) (v := .int .u64 (nm (u - nm (v * y)))) (by omega)
          have HBl : Hid (Below _ _ _) := hbel.setCell (p := ⟨w.heap.size + 1, i + 1, none⟩) (by simp) (.int .u64 (nm (u - nm (v * y))))
          clear HS hq0 hq1 hbel
          obtain ⟨m, HMm⟩ : ∃ m, Hid (i + 1 = m) := ⟨_, rfl⟩
          have hmi : (m : Int) - 1 = (i : Int) := by have := HMm.out; omega
          have hm4 : m ≤ 4 := by have := HMm.out; omega
          rw [HMm.out] at c1 f1 HS0 HS1 HBl hi hi0 ⊢
          have hw1 : IntKind.i64.wrap (i : Int) = (i : Int) := by rw [IntKind.wrap_i64]; omega
          have hw2 : IntKind.i64.wrap ((m : Int) - 1) = (i : Int) := by rw [hmi]; exact hw1
          have hi4 : (i : Int) < 5 := by omega
          have hi5 : (m : Int) < 5 := by omega
          go_wp2
          go_region_with (first | (go_at_call 49; refine (fMul _ _ _ (by omega) (by omega) (by omega) (by omega)).mono ?_; rintro e w' ⟨rfl, rfl⟩) | (go_at_call 59; refine (fSub _ _ _ (by omega) (by omega) (by omega) (by omega)).mono ?_; rintro e w' ⟨rfl, rfl⟩))
          all_goals
            go_wp2
            go_roundw
            case rel => exact ⟨i, by omega, by go_num, HS0.out, HS1.out, HBl.out.drew⟩
            case measure => have := HMm.out; simp [intOf]; omega
        · obtain rfl : i = 0 := by omega
          rw [zm_end] at hq1
          go_wp2
          go_roundw
          case rel => exact ⟨j + 1, by omega, by go_num, hq0, hq1, hbel⟩
          case measure => simp [intOf]; omega
    · obtain rfl : j = k := by omega
      have hl := zr_len who j
      have Hin : Hid ((Tryd.prog.info? 103).map (·.size) = some ((zr who j).map (Value.int .u64)).toArray.size) := by unfold Hid; simp only [List.size_toArray, List.length_map, hl]; exact infoPw
      have Hne : Hid ((pw0.map (Value.int .u64)).toArray.size = ((zr who j).map (Value.int .u64)).toArray.size) := by unfold Hid; simp [hl, pw0]
      have Hon : Hid (((zr who j).map (Value.int .u64)).toArray.all (·.oneCell') = true) := pw_one _
      have hbZ := below_setRow hbel (Nat.le_refl _) ((zr who j).map (Value.int .u64)).toArray
      have HZ : Hid (_ = _) := setRow_heap _ w.heap.size _ ((zr who j).map (Value.int .u64)).toArray _ (0, 0) hq0
      clear hl
      go_wp2_with (first | (refine wpList_load_row rfl 103 _ rfl (w.heap.size + 1) rfl 103 ((zr who j).map (Value.int .u64)).toArray (0, 0) _ hq1 Tryd.underlying103 rfl Hin.out ?_) | (refine wpList_store_row rfl 103 _ _ rfl w.heap.size ((zr who j).map (Value.int .u64)).toArray rfl rfl 103 (pw0.map (Value.int .u64)).toArray hq0 Hin.out Hne.out Hon.out ?_))
      exact bodyPost_ret (v := .agg ((zr who j).map (Value.int .u64)).toArray) (results_cell_row Tryd.results58 _ _ w.heap.size 103 _ (0, 0) _ rfl HZ.out Tryd.underlying103 rfl Hin.out) rfl ⟨rfl, hbZ⟩
end Go.Proofs.YtgmelcdgnjcojagDoor
