/- What the calls of package twine answer. · What the calls of package hide answer. · hide.different. · The places of the pairs of a dealing in two variables: plain facts. · The five numbers that hide.zeros reckons, and the pairs of powers that hide.places tells: plain facts. · The square of numbers of a dealing in two variables: plain facts, and its block. · twine.Need, value, allHave. · (*twine.square).row. · hide.places. -/
import Derived.Test.YtljlioglpaogdacToContC
import Derived.Test.YtljlioglpaogdacToPolyM3
import Derived.Test.YtljlioglpaogdacToRows2
import Derived.Test.YtljlioglpaogdacDecodeM
import Derived.Test.YtljlioglpaogdacFitC
import Derived.Test.YtljlioglpaogdacToLsV
import Derived.Test.YtljlioglpaogdacToTEqC
import Derived.Test.YtljlioglpaogdacToRefProdC
import Derived.Deep.AppendLies
import Derived.Deep.RegionLaw
import Derived.Test.YtljlioglpaogdacToHidM
import Derived.Laws.Rows
import Derived.Laws.Tables
import Derived.Deep.RegionWith
import Derived.Test.YtljlioglpaogdacToRefWC
namespace Go.Proofs.Ytljlioglpaogdac
set_option linter.unusedVariables false
set_option maxRecDepth 100000
set_option maxHeartbeats 8000000
section
open Crm Go.RowKit
/-- How many numbers there are besides the secret. -/
def need2 (t : Nat) : Nat := (t + 1) * (t + 2) / 2 - 1
theorem need2_bd {t : Nat} (h : t ≤ 4) : need2 t ≤ 14 := by
  have hcase : t = 0 ∨ t = 1 ∨ t = 2 ∨ t = 3 ∨ t = 4 := by omega
  rcases hcase with rfl | rfl | rfl | rfl | rfl <;> decide
/-- What Need answers. -/
def Nds (t : Int) (w : World) (e : Ending) (w' : World) : Prop :=
  (((t < 0 ∨ 4 < t) ∧ e = .returned (.tuple #[.int .i64 0, .int .i64 1])) ∨ ∃ k : Nat, t = (k : Int) ∧ k ≤ 4 ∧ e = .returned (.tuple #[.int .i64 (need2 k : Nat), .int .i64 0])) ∧ Below w.heap.size w w'
/-- What is wrong with what Shift is handed. -/
def Hse (who : List Int) (k q : Nat) (r : Int) : Prop := (¬ dis (fi who) k ∧ r = 5) ∨ (dis (fi who) k ∧ ((¬ (q ≤ 4 ∧ k ≤ q) ∧ r = 1) ∨ ((q ≤ 4 ∧ k ≤ q) ∧ r = 0)))
theorem Hse.one {who : List Int} {k q : Nat} {r s : Int} (h : Hse who k q r) (g : Hse who k q s) : r = s := by
  rcases h with ⟨h1, rfl⟩ | ⟨h1, ⟨h2, rfl⟩ | ⟨h2, rfl⟩⟩ <;> rcases g with ⟨k1, rfl⟩ | ⟨k1, ⟨k2, rfl⟩ | ⟨k2, rfl⟩⟩
  all_goals first
    | rfl
    | exact absurd k1 h1
    | exact absurd h1 k1
    | exact absurd k2 h2
    | exact absurd h2 k2
theorem Hse.ok {who : List Int} {k q : Nat} (h : Hse who k q 0) : dis (fi who) k ∧ q ≤ 4 ∧ k ≤ q := by
  rcases h with ⟨_, h⟩ | ⟨h1, ⟨_, h⟩ | ⟨h2, _⟩⟩
  · omega
  · omega
  · exact ⟨h1, h2.1, h2.2⟩
/-- What Shift answers. -/
def Hsh (who : List Int) (k : Nat) (a b : Int) (ds : List Int) (q : Nat) (w : World) (e : Ending) (w' : World) : Prop :=
  ((∃ r, r ≠ 0 ∧ Hse who k q r ∧ e = .returned (.tuple #[.slice none 0 0, .int .i64 r])) ∨
   (Hse who k q 0 ∧ ∃ v, e = .returned (.tuple #[v, .int .i64 0]) ∧ w'.ownsRow w.heap.size 23 1 v q ((shf who k a b ds q).map (Value.int .u64)))) ∧ Below w.heap.size w w'
/-- What is wrong with what Twine is handed. -/
def Hte (who : List Int) (k : Nat) (t : Int) (q : Nat) (r : Int) : Prop := (¬ dis (fi who) k ∧ r = 5) ∨ (dis (fi who) k ∧ ((¬ ((0 ≤ t ∧ t ≤ 4) ∧ (k : Int) ≤ t ∧ q = need2 t.toNat) ∧ r = 1) ∨ (((0 ≤ t ∧ t ≤ 4) ∧ (k : Int) ≤ t ∧ q = need2 t.toNat) ∧ r = 0)))
theorem Hte.one {who : List Int} {k q : Nat} {t r s : Int} (h : Hte who k t q r) (g : Hte who k t q s) : r = s := by
  rcases h with ⟨h1, rfl⟩ | ⟨h1, ⟨h2, rfl⟩ | ⟨h2, rfl⟩⟩ <;> rcases g with ⟨k1, rfl⟩ | ⟨k1, ⟨k2, rfl⟩ | ⟨k2, rfl⟩⟩
  all_goals first
    | rfl
    | exact absurd k1 h1
    | exact absurd h1 k1
    | exact absurd k2 h2
    | exact absurd h2 k2
theorem Hte.ok {who : List Int} {k q : Nat} {t : Int} (h : Hte who k t q 0) : dis (fi who) k ∧ (0 ≤ t ∧ t ≤ 4) ∧ (k : Int) ≤ t ∧ q = need2 t.toNat := by
  rcases h with ⟨_, h⟩ | ⟨h1, ⟨_, h⟩ | ⟨h2, _⟩⟩
  · omega
  · omega
  · exact ⟨h1, h2⟩
/-- What Twine answers. -/
def Htw (who : List Int) (k : Nat) (t : Int) (a b : Int) (ds : List Int) (q : Nat) (w : World) (e : Ending) (w' : World) : Prop :=
  ((∃ r, r ≠ 0 ∧ Hte who k t q r ∧ e = .returned (.tuple #[.slice none 0 0, .int .i64 r])) ∨
   (Hte who k t q 0 ∧ ∃ v, e = .returned (.tuple #[v, .int .i64 0]) ∧ w'.ownsRow w.heap.size 23 1 v q ((twl who k a b ds t.toNat q).map (Value.int .u64)))) ∧ Below w.heap.size w w'
/-- What is told. -/
def wls (who : List Int) (k : Nat) (a b : Int) (ds : List Int) (q : Nat) (r : Int) : List Int := if r = 0 then shf who k a b ds q else []
def wlt (who : List Int) (k : Nat) (t : Int) (a b : Int) (ds : List Int) (q : Nat) (r : Int) : List Int := if r = 0 then twl who k a b ds t.toNat q else []
theorem Hsh.rd {who : List Int} {k q : Nat} {a b r : Int} {ds : List Int} {w w' : World} {e : Ending} (h : Hsh who k a b ds q w e w') (hr : Hse who k q r) : ∃ a' c', e = .returned (.tuple #[.slice a' (wls who k a b ds q r).length c', .int .i64 r]) ∧ Rd w' a' (wls who k a b ds q r).length c' (wls who k a b ds q r) := by
  rcases h.1 with ⟨s, h1, h2, rfl⟩ | ⟨h1, v, rfl, ho⟩
  · obtain rfl := h2.one hr
    unfold wls
    rw [if_neg h1]
    exact ⟨none, 0, rfl, nil_rd _⟩
  · obtain rfl : 0 = r := h1.one hr
    unfold wls
    rw [if_pos rfl, shf_len]
    obtain ⟨a', c', rfl, hr', _⟩ := Rd.own ho (bd_u64 (shf_bd _ _ _ _ _ _))
    exact ⟨a', c', rfl, hr'⟩
theorem Htw.rd {who : List Int} {k q : Nat} {t a b r : Int} {ds : List Int} {w w' : World} {e : Ending} (h : Htw who k t a b ds q w e w') (hr : Hte who k t q r) : ∃ a' c', e = .returned (.tuple #[.slice a' (wlt who k t a b ds q r).length c', .int .i64 r]) ∧ Rd w' a' (wlt who k t a b ds q r).length c' (wlt who k t a b ds q r) := by
  rcases h.1 with ⟨s, h1, h2, rfl⟩ | ⟨h1, v, rfl, ho⟩
  · obtain rfl := h2.one hr
    unfold wlt
    rw [if_neg h1]
    exact ⟨none, 0, rfl, nil_rd _⟩
  · obtain rfl : 0 = r := h1.one hr
    unfold wlt
    rw [if_pos rfl, twl_len]
    obtain ⟨a', c', rfl, hr', _⟩ := Rd.own ho (bd_u64 (twl_bd _ _ _ _ _ _ _))
    exact ⟨a', c', rfl, hr'⟩
/-- A list that is gathered reads as what is told. -/
def Gth (L : List Int) (w : World) (v : Value) : Prop := ∃ a c, v = .slice a L.length c ∧ Rd w a L.length c L
theorem gth_nil (w : World) : Gth [] w (.slice none 0 0) := ⟨none, 0, rfl, nil_rd _⟩
theorem gth_own {w : World} {B n : Nat} {v : Value} {L : List Int} (h : w.ownsRow B 23 1 v n (L.map (Value.int .u64))) (hl : L.length = n) (hb : ∀ x ∈ L, 0 ≤ x ∧ x ≤ 18446744073709551615) : Gth L w v := by
  subst hl
  obtain ⟨a, c, rfl, hr, _⟩ := Rd.own h hb
  exact ⟨a, c, rfl, hr⟩
theorem dis_nz {who : List Int} {k : Nat} (h : dis (fi who) k) : ∀ j, j < k → nm (who.getD j 0) ≠ 0 := fun j hj => by
  have := (h j hj).1
  unfold fi at this
  rw [nm_small (by omega) (by omega)]
  omega
/-- Row g holds the marks M. -/
def BlkT (w : World) (g : Nat) (M : List Bool) : Prop := w.heap[g]? = some (.cells (M.map Value.bool).toArray 93 (0, 0))
theorem BlkT.lt {w : World} {g : Nat} {M : List Bool} (h : BlkT w g M) : g < w.heap.size := (Array.getElem?_eq_some_iff.1 h).1
theorem BlkT.cell {w : World} {g : Nat} {M : List Bool} (h : BlkT w g M) {i : Nat} (hi : i < M.length) : w.cell? ⟨g, i, none⟩ = some (.bool (M.getD i false)) := by
  rw [cell_of_row w g i _ _ (0, 0) h]
  simp [List.getElem?_eq_getElem hi]
theorem BlkT.frozen {w : World} {g : Nat} {M : List Bool} (h : BlkT w g M) (i : Nat) : w.frozen? ⟨g, i, none⟩ = false := frozen_of_row w g i _ _ h
theorem BlkT.set {w : World} {g : Nat} {M : List Bool} (h : BlkT w g M) (i : Nat) (v : Bool) : BlkT (w.setCell ⟨g, i, none⟩ (.bool v)) g (M.set i v) := by
  have := heap_setCell_same w g i _ _ (.bool v) h
  unfold BlkT
  rw [this]
  simp [List.map_set]

theorem hDifferent (a : Option Addr) (n c : Nat) (ts : List Int) (w : World) (h : RdI w a n c ts) :
    Calls Try.prog 42 #[.slice a n c] w fun e w' => Tells (dis (fi ts) n) w e w' := by
  have hcap := h.cap
  have hmax := h.max
  unfold maxLen at hmax
  go_enter Try.func42, Try.ntmps42
  go_wp2
  go_loopw [8] (fun i wr => ∃ (k : Nat) (M : List Bool), k ≤ n ∧ i = .int .i64 k ∧ Hid (Mk (fi ts) k M) ∧ BlkT wr w.heap.size M ∧ Below w.heap.size w wr) (fun i _ => n - (intOf i).toNat)
  case atStart => exact ⟨0, _, Nat.zero_le _, rfl, mk_start _, heap_alloc_new w _, (Below.refl _ _).alloc (Nat.le_refl _) _⟩
  case round =>
    obtain ⟨k, M, hk, rfl, HM, hB, hbel⟩ := hrel
    have hlM := HM.out.len
    have hltB := hB.lt
    by_cases hlt : k < n
    · obtain ⟨b, o, x, rfl, hbb, HX, hx0, hx1, hcx⟩ := (h.below hbel).one hlt
      by_cases hx2 : x < 1
      · have HN : Hid (¬ dis (fi ts) n) := mk_out hlt HX.out (.inl hx2)
        go_wp2
        go_ret
        exact .no HN.out hbel
      · by_cases hx9 : 9 < x
        · have HN : Hid (¬ dis (fi ts) n) := mk_out hlt HX.out (.inr hx9)
          go_wp2
          go_ret
          exact .no HN.out hbel
        · obtain ⟨p, rfl⟩ : ∃ p : Nat, x = p := ⟨x.toNat, by omega⟩
          have hcp := hB.cell (i := p) (by omega)
          cases hm : M.getD p false with
          | true =>
            have HN : Hid (¬ dis (fi ts) n) := mk_twice HM.out hlt HX.out (by omega) (by omega) hm
            rw [hm] at hcp
            clear hm
            go_wp2
            go_ret
            exact .no HN.out hbel
          | false =>
            have HM2 : Hid (Mk (fi ts) (k + 1) (M.set p true)) := mk_step HM.out HX.out (by omega) (by omega) hm
            rw [hm] at hcp
            have hfz := hB.frozen p
            have hB3 := hB.set p true
            have hbel3 := below_grown hbel (grown_set wr w.heap.size p (.bool true)) (Nat.le_refl _)
            clear hm hB hbel
            go_wp2
            go_roundw
            case rel => exact ⟨k + 1, _, by omega, by go_num, HM2, hB3, hbel3⟩
            case measure => simp [intOf]; omega
    · have hkn : k = n := by omega
      subst hkn
      have HD : Hid (dis (fi ts) k) := HM.out.dis
      go_wp2
      go_ret
      exact .yes HD.out hbel
end
section
open Crm
/-- The place of the pair i, j. -/
def pp (t i j : Nat) : Nat := (nd2 (t : Nat) i + ((j : Int) - i)).toNat
theorem pp_zero (t : Nat) : pp t 0 0 = 0 := rfl
theorem pp_first (t : Nat) : pp t 0 1 = pp t 0 0 := rfl
theorem pp_step {t i j : Nat} (ht : t ≤ 4) (hij : i ≤ j) (hj : j ≤ t) (h0 : 0 < i + j) : pp t i (j + 1) = pp t i j + 1 := by
  have h := (hpl_at t (by omega) j (by omega) i hij hj h0).2
  unfold pp
  omega
theorem pp_row (t i : Nat) : pp t i (t + 1) = pp t (i + 1) (i + 1) := by
  unfold pp
  rw [nd2]
  omega
theorem pp_end {t : Nat} (ht : t ≤ 4) : pp t (t + 1) (t + 1) = need2 t := by
  have hcase : t = 0 ∨ t = 1 ∨ t = 2 ∨ t = 3 ∨ t = 4 := by omega
  rcases hcase with rfl | rfl | rfl | rfl | rfl <;> decide
theorem pp_lt {t i j : Nat} (ht : t ≤ 4) (hij : i ≤ j) (hj : j ≤ t) (h0 : 0 < i + j) : pp t i j < need2 t := by
  have h := (hpl_at t (by omega) j (by omega) i hij hj h0).2
  have h3 := (pos_bd t (by omega) j (by omega) i hij hj).2
  unfold pp need2
  omega
theorem pp_le {t i j : Nat} (ht : t ≤ 4) (hi : i ≤ t) (hij : i ≤ j) (hj : j ≤ t + 1) : pp t i j ≤ 14 := by
  have hn := need2_bd ht
  by_cases h0 : i + j = 0
  · obtain rfl : i = 0 := by omega
    obtain rfl : j = 0 := by omega
    rw [pp_zero]
    omega
  · by_cases hjt : j ≤ t
    · have := pp_lt ht hij hjt (by omega)
      omega
    · obtain rfl : j = t + 1 := by omega
      by_cases h00 : 0 < i + t
      · have := pp_lt ht (show i ≤ t by omega) (Nat.le_refl t) h00
        rw [pp_step ht (by omega) (Nat.le_refl t) h00]
        omega
      · obtain rfl : i = 0 := by omega
        obtain rfl : t = 0 := by omega
        decide
/-- One number more. -/
theorem twl_step {who : List Int} {k t i j : Nat} {a b : Int} {ds : List Int} (ht : t ≤ 4) (hij : i ≤ j) (hj : j ≤ t) (h0 : 0 < i + j) : twl who k a b ds t (pp t i j) ++ [nm (ds.getD (pp t i j) 0 + nm (b - a) * nm ((bl who k).getD i 0 * (bl who k).getD j 0))] = twl who k a b ds t (pp t i (j + 1)) := by
  have h := (hpl_at t (by omega) j (by omega) i hij hj h0).1
  rw [pp_step ht hij hj h0, ← twl_snoc]
  unfold twf
  have e : (hpl t).getD (pp t i j) (0, 0) = (i, j) := h
  rw [e]
theorem pc_two (p : List Int) (u v : Int) (i : Nat) : pc p [u, v] (i + 1) p.length = p.getD i 0 * v + p.getD (i + 1) 0 * u := by
  rw [← pc_ge p [u, v] (i + 1) (i + 2), show p.length + (i + 2) = i + 1 + 1 + p.length by omega, pc_more, pc, pc, pc_far _ _ _ _ (by simp), tm, tm, if_pos (by omega), if_pos (by omega), show i + 1 - i = 1 by omega, Nat.sub_self, Int.zero_add]
  rfl
/-- One party more: each number, less the one below it by that party. -/
theorem bl_step (who : List Int) (k i : Nat) : (bl who (k + 1)).getD (i + 1) 0 = nm ((bl who k).getD (i + 1) 0 - nm ((bl who k).getD i 0 * iv (who.getD k 0))) := by
  rw [bl, cvl_getD, pc_two, Int.mul_one, nm_subr, ← nm_addl, nm_mulr, nm_addl, Int.mul_neg]
  congr 1
  omega
/-- The numbers above i are reckoned with one party more. -/
def zm (who : List Int) (k i : Nat) : List Int := (List.range 5).map fun j => if i < j then (bl who (k + 1)).getD j 0 else (bl who k).getD j 0
def zr (who : List Int) (k : Nat) : List Int := (List.range 5).map fun j => (bl who k).getD j 0
theorem zm_len (who : List Int) (k i : Nat) : (zm who k i).length = 5 := by simp [zm]
theorem zr_len (who : List Int) (k : Nat) : (zr who k).length = 5 := by simp [zr]
theorem zr_getD (who : List Int) (k : Nat) {j : Nat} (h : j < 5) : (zr who k).getD j 0 = (bl who k).getD j 0 := by simp [zr, h]
theorem zm_getD (who : List Int) (k i : Nat) {j : Nat} (h : j < 5) : (zm who k i).getD j 0 = if i < j then (bl who (k + 1)).getD j 0 else (bl who k).getD j 0 := by simp [zm, h]
theorem zm_start (who : List Int) (k : Nat) : zm who k 4 = zr who k := by
  unfold zm zr
  refine List.map_congr_left fun j hj => ?_
  have := List.mem_range.1 hj
  rw [if_neg (by omega)]
theorem zm_end (who : List Int) (k : Nat) : zm who k 0 = zr who (k + 1) := by
  unfold zm zr
  refine List.map_congr_left fun j hj => ?_
  by_cases h : 0 < j
  · rw [if_pos h]
  · obtain rfl : j = 0 := by omega
    rw [if_neg h, bl_first, bl_first]
theorem zm_bd (who : List Int) (k i : Nat) : ∀ x ∈ zm who k i, 0 ≤ x ∧ x ≤ 2147483646 := fun x hx => by
  obtain ⟨j, _, rfl⟩ := List.mem_map.1 hx
  split
  · exact getD_bd' (bl_bd who (k + 1)) j
  · exact getD_bd' (bl_bd who k) j
theorem zm_step (who : List Int) (k : Nat) {i : Nat} (h : i < 4) : (zm who k (i + 1)).set (i + 1) (nm ((zm who k (i + 1)).getD (i + 1) 0 - nm ((zm who k (i + 1)).getD i 0 * iv (who.getD k 0)))) = zm who k i := by
  rw [zm_getD _ _ _ (by omega), zm_getD _ _ _ (by omega), if_neg (by omega), if_neg (by omega), ← bl_step]
  apply List.ext_getElem?
  intro j
  rw [List.getElem?_set]
  by_cases hj : j < 5
  · by_cases e : i + 1 = j
    · subst e
      rw [if_pos rfl, if_pos (by rw [zm_len]; omega)]
      simp [zm, hj]
    · have : (i + 1 < j) = (i < j) := by apply propext; omega
      simp [zm, hj, e, this]
  · by_cases e : i + 1 = j
    · omega
    · simp [zm, hj, e]

theorem shf_num (x a b B : Int) : nm (x + nm (nm (b + nm (-a)) * B)) = nm (x + nm (b - a) * B) := by
  rw [nm_addr]
  refine nm_add_congr rfl (nm_mul_congr ?_ rfl)
  rw [nm_nm, nm_nm, nm_addr, Int.sub_eq_add_neg]
theorem twl_num (x a b B : Int) : nm (x + nm (nm (b + nm (-a)) * nm B)) = nm (x + nm (b - a) * nm B) := shf_num _ _ _ _
/-- All pairs of powers, in order, as ints. -/
def fpl (t : Nat) : List (Int × Int) := (0, 0) :: (hpl t).map fun x => ((x.1 : Int), (x.2 : Int))
/-- The place of the pair i, j among all. -/
def pf (t i j : Nat) : Nat := (nd2 (t : Nat) i + ((j : Int) - i) + 1).toNat
theorem fpl_len {t : Nat} (h : t ≤ 4) : (fpl t).length = need2 t + 1 := by
  unfold fpl need2
  rw [List.length_cons, List.length_map, hpl_len t (by omega)]
theorem pf_zero (t : Nat) : pf t 0 0 = 0 := rfl
theorem pf_pp {t i j : Nat} (ht : t ≤ 4) (hij : i ≤ j) (hj : j ≤ t) (h0 : 0 < i + j) : pf t i j = pp t i j + 1 := by
  have h := (hpl_at t (by omega) j (by omega) i hij hj h0).2
  unfold pf pp
  omega
theorem pf_step {t i j : Nat} (ht : t ≤ 4) (hij : i ≤ j) (hj : j ≤ t) : pf t i (j + 1) = pf t i j + 1 := by
  by_cases h0 : 0 < i + j
  · have h := (hpl_at t (by omega) j (by omega) i hij hj h0).2
    unfold pf
    omega
  · obtain rfl : i = 0 := by omega
    obtain rfl : j = 0 := by omega
    rfl
theorem pf_row (t i : Nat) : pf t i (t + 1) = pf t (i + 1) (i + 1) := by
  unfold pf
  rw [nd2]
  omega
theorem pf_end {t : Nat} (ht : t ≤ 4) : pf t (t + 1) (t + 1) = need2 t + 1 := by
  have hcase : t = 0 ∨ t = 1 ∨ t = 2 ∨ t = 3 ∨ t = 4 := by omega
  rcases hcase with rfl | rfl | rfl | rfl | rfl <;> decide
theorem pf_lt {t i j : Nat} (ht : t ≤ 4) (hij : i ≤ j) (hj : j ≤ t) : pf t i j < need2 t + 1 := by
  by_cases h0 : 0 < i + j
  · have := pp_lt ht hij hj h0
    rw [pf_pp ht hij hj h0]
    omega
  · obtain rfl : i = 0 := by omega
    obtain rfl : j = 0 := by omega
    rw [pf_zero]
    omega
theorem fpl_at {t i j : Nat} (ht : t ≤ 4) (hij : i ≤ j) (hj : j ≤ t) : (fpl t)[pf t i j]? = some ((i : Int), (j : Int)) := by
  by_cases h0 : 0 < i + j
  · have h := (hpl_at t (by omega) j (by omega) i hij hj h0).1
    have hl := pp_lt ht hij hj h0
    have e : (hpl t).getD (pp t i j) (0, 0) = (i, j) := h
    have hlen := hpl_len t (by omega)
    unfold need2 at hl
    rw [pf_pp ht hij hj h0, fpl, List.getElem?_cons_succ, List.getElem?_map]
    rw [List.getD_eq_getElem?_getD, List.getElem?_eq_getElem (by omega), Option.getD_some] at e
    rw [List.getElem?_eq_getElem (by omega), e]
    rfl
  · obtain rfl : i = 0 := by omega
    obtain rfl : j = 0 := by omega
    rfl
/-- The pairs ahead of i, j. -/
def fpt (t p : Nat) : List (Int × Int) := (fpl t).take p
theorem fpt_step {t i j : Nat} (ht : t ≤ 4) (hij : i ≤ j) (hj : j ≤ t) : fpt t (pf t i j) ++ [((i : Int), (j : Int))] = fpt t (pf t i j + 1) := by
  unfold fpt
  rw [List.take_add_one, fpl_at ht hij hj]
  rfl
theorem fpt_full {t : Nat} (ht : t ≤ 4) : fpt t (need2 t + 1) = fpl t := by
  unfold fpt
  rw [List.take_of_length_le (by rw [fpl_len ht]; omega)]
/-- The pairs but the first. -/
def hpi (t : Nat) : List (Int × Int) := (hpl t).map fun x => ((x.1 : Int), (x.2 : Int))
theorem hpi_len {t : Nat} (h : t ≤ 4) : (hpi t).length = need2 t := by
  unfold hpi need2
  rw [List.length_map, hpl_len t (by omega)]
theorem hpi_at (t : Nat) {p : Nat} (h : p < (hpl t).length) : (hpi t).getD p (0, 0) = ((((hpl t).getD p (0, 0)).1 : Int), (((hpl t).getD p (0, 0)).2 : Int)) := by
  unfold hpi
  simp [h]
theorem hpl_bd : ∀ t, t < 5 → ∀ x ∈ hpl t, x.1 ≤ 4 ∧ x.2 ≤ 4 := by decide
theorem hpi_bd {t p : Nat} (ht : t ≤ 4) (h : p < need2 t) : ∃ i j : Nat, (hpl t).getD p (0, 0) = (i, j) ∧ (hpi t).getD p (0, 0) = ((i : Int), (j : Int)) ∧ i ≤ 4 ∧ j ≤ 4 := by
  have hl := hpl_len t (by omega)
  unfold need2 at h
  have hm : (hpl t).getD p (0, 0) ∈ hpl t := by
    rw [List.getD_eq_getElem?_getD, List.getElem?_eq_getElem (by omega), Option.getD_some]
    exact List.getElem_mem _
  have hb := hpl_bd t (by omega) _ hm
  exact ⟨((hpl t).getD p (0, 0)).1, ((hpl t).getD p (0, 0)).2, rfl, hpi_at t (by omega), hb.1, hb.2⟩
end
section
open Crm Go.RowKit
/-- What is left of a list when its first number is taken. -/
theorem Rd.tail {w : World} {b o n c : Nat} {xs : List Int} {a : Option Addr} (h : Rd w (some ⟨b, o, none⟩) (n + 1) (c + 1) xs) (ha : (0 < n → a = some ⟨b, o + 1, none⟩) ∧ a ≠ none) : Rd w a n c (xs.drop 1) := by
  have h1 := h.cap
  have h2 := h.max
  refine ⟨by have := h.len; simp; omega, by omega, by omega, fun x hx => h.bd x (List.mem_of_mem_drop hx), fun e => absurd e ha.2, fun x hx i hi => ?_⟩
  rw [ha.1 (by omega)] at hx
  obtain rfl := Option.some.inj hx
  have := h.cell _ rfl (i + 1) (by omega)
  rw [Addr.add_lit] at this ⊢
  rw [show o + 1 + i = o + (i + 1) by omega, this]
  congr 2
  simp
theorem cTwNeed (t : Int) (w : World) : Calls Try.prog 44 #[.int .i64 t] w fun e w' => Nds t w e w' := by
  by_cases h1 : t < 0
  · have HT : Hid (t < 0 ∨ 4 < t) := .inl h1
    go_enter Try.func44, Try.ntmps44
    go_wp2
    go_ret2
    exact ⟨.inl ⟨HT.out, rfl⟩, Below.refl _ _⟩
  · by_cases h2 : 4 < t
    · have HT : Hid (t < 0 ∨ 4 < t) := .inr h2
      go_enter Try.func44, Try.ntmps44
      go_wp2
      go_ret2
      exact ⟨.inl ⟨HT.out, rfl⟩, Below.refl _ _⟩
    · have hk : t = 0 ∨ t = 1 ∨ t = 2 ∨ t = 3 ∨ t = 4 := by omega
      clear h1 h2
      rcases hk with rfl | rfl | rfl | rfl | rfl
      · go_enter Try.func44, Try.ntmps44
        go_wp2
        go_ret2
        exact ⟨.inr ⟨0, rfl, by omega, rfl⟩, Below.refl _ _⟩
      · go_enter Try.func44, Try.ntmps44
        go_wp2
        go_ret2
        exact ⟨.inr ⟨1, rfl, by omega, rfl⟩, Below.refl _ _⟩
      · go_enter Try.func44, Try.ntmps44
        go_wp2
        go_ret2
        exact ⟨.inr ⟨2, rfl, by omega, rfl⟩, Below.refl _ _⟩
      · go_enter Try.func44, Try.ntmps44
        go_wp2
        go_ret2
        exact ⟨.inr ⟨3, rfl, by omega, rfl⟩, Below.refl _ _⟩
      · go_enter Try.func44, Try.ntmps44
        go_wp2
        go_ret2
        exact ⟨.inr ⟨4, rfl, by omega, rfl⟩, Below.refl _ _⟩
/-- A row of the call's own, all of it. -/
theorem Blk.own {w : World} {g n B : Nat} {L : List Int} (h : Blk w g L) (hl : L.length = n) (hB : B ≤ g) (hn : n ≤ 1000) : w.ownsRow B 23 1 (.slice (some ⟨g, 0, none⟩) n n) n (L.map (Value.int .u64)) :=
  ⟨by simp [hl], .inr ⟨g, n, _, rfl, hB, h, Nat.le_refl _, by unfold maxLen; omega, by simp [hl], by rw [List.take_of_length_le (by simp [hl])]⟩⟩
/-- What is left of pairs when the first is taken. -/
theorem RdP.tail {w : World} {b o n c : Nat} {p : Int × Int} {l : List (Int × Int)} {a : Option Addr} (h : RdP w (some ⟨b, o, none⟩) (n + 1) (c + 1) (p :: l)) (ha : (0 < n → a = some ⟨b, o + 2, none⟩) ∧ a ≠ none) : RdP w a n c l := by
  have h1 := h.cap
  have h2 := h.max
  refine ⟨by have := h.len; simpa using this, by omega, by omega, fun e => absurd e ha.2, fun x hx i hi => ?_⟩
  rw [ha.1 (by omega)] at hx
  obtain rfl := Option.some.inj hx
  have := h.cell _ rfl (i + 1) (by omega)
  rw [Addr.add_lit, Addr.add_lit] at this ⊢
  rw [show o + 2 + i * 2 = o + (i + 1) * 2 by omega, show o + 2 + (i * 2 + 1) = o + ((i + 1) * 2 + 1) by omega]
  exact this

theorem RdP.grown {w w' : World} {a : Option Addr} {n c : Nat} {l : List (Int × Int)} {r : Option Nat} (h : RdP w a n c l) (hg : w.grownBy w' r) (hne : ∀ x, a = some x → some x.block ≠ r) : RdP w' a n c l := by
  refine ⟨h.len, h.cap, h.max, h.nil, fun x hx i hi => ?_⟩
  have hb : ∀ k, (x.add k).block = x.block := fun k => by unfold Addr.add; split <;> rfl
  have := h.cell x hx i hi
  exact ⟨hg.cell this.1 (by rw [hb]; exact hne x hx), hg.cell this.2 (by rw [hb]; exact hne x hx)⟩

theorem own_ge {w : World} {B g o n m c z : Nat} {E : TypeId} {xs : List Value} (h : w.ownsRow B E z (.slice (some ⟨g, o, none⟩) n c) m xs) : B ≤ g := by
  rcases h.2 with ⟨e, _⟩ | ⟨g', cap, cur, e, hb', _⟩
  · cases e
  · simp only [Value.slice.injEq, Option.some.injEq, Addr.mk.injEq] at e
    rw [e.1.1]
    exact hb'

theorem hPlaces (t : Nat) (w : World) (ht : t ≤ 4) :
    Calls Try.prog 45 #[.int .i64 t] w fun e w' => ∃ a c, e = .returned (.slice a (need2 t) c) ∧ RdP w' a (need2 t) c (hpi t) ∧ (∀ x, a = some x → w.heap.size ≤ x.block) ∧ Below w.heap.size w w' := by
  obtain ⟨M, HM⟩ : ∃ M, Hid (need2 t = M) := ⟨_, rfl⟩
  have hM : M ≤ 14 := by rw [← HM.out]; exact need2_bd ht
  rw [HM.out]
  go_enter Try.func45, Try.ntmps45
  go_wp2
  go_loopw [3, 8] (fun v i wr => ∃ k p : Nat, k ≤ t + 1 ∧ i = .int .i64 k ∧ Hid (pf t k k = p) ∧ p ≤ M + 1 ∧ wr.ownsRow w.heap.size 69 2 v p (ppc (fpt t p)) ∧ Below w.heap.size w wr) (fun _ i _ => t + 1 - (intOf i).toNat)
  case atStart => exact ⟨0, 0, Nat.zero_le _, rfl, rfl, Nat.zero_le _, World.ownsRow_nil _ _ _ _, Below.refl _ _⟩
  case round =>
    obtain ⟨k, p, hk, rfl, HP, hp, hown, hbel⟩ := hrel
    by_cases hkt : k < t + 1
    · have hkd : decide ((k : Int) < (t : Int) + 1) = true := decide_eq_true (by omega)
      obtain ⟨wo, hwo⟩ : ∃ q, q = wr := ⟨_, rfl⟩
      subst hwo
      go_wp2
      go_loopw [3, 5] (fun v i wr => ∃ j p : Nat, k ≤ j ∧ j ≤ t + 1 ∧ i = .int .i64 j ∧ Hid (pf t k j = p) ∧ p ≤ M + 1 ∧ wr.ownsRow w.heap.size 69 2 v p (ppc (fpt t p)) ∧ Below w.heap.size w wr) (fun _ i _ => t + 1 - (intOf i).toNat)
      case atStart => exact ⟨k, p, Nat.le_refl _, by omega, rfl, HP, hp, hown, hbel⟩
      case round =>
        clear HP hp hown hbel
        obtain ⟨j, p, hkj, hj, rfl, HP, hp, hown, hbel⟩ := hrel
        have hs := hbel.size
        by_cases hjt : j ≤ t
        · have hlt := pf_lt ht hkj hjt
          rw [HP.out, HM.out] at hlt
          have HP2 : Hid (pf t k (j + 1) = p + 1) := by unfold Hid; rw [pf_step ht hkj hjt, HP.out]
          have HF : Hid (fpt t p ++ [((k : Int), (j : Int))] = fpt t (p + 1)) := by unfold Hid; rw [← HP.out]; exact fpt_step ht hkj hjt
          have hjti : (j : Int) ≤ (t : Int) := by omega
          go_wp2_with (at_builtin; refine wpList_app2 Try.underlying67 infoPair rfl (by omega) _ rfl _ _ rfl w.heap.size _ _ _ rfl hown (.int .i64 k) (.int .i64 j) rfl rfl rfl (by omega) hs ?_; intro v7 w7 hown7 hgr7 _; rw [ppc_snoc, HF.out] at hown7; have hb7 := hbel.grown hgr7 hs (fun q hq => (hown.lt q hq).1); clear hgr7 hown hbel)
          go_roundw
          case rel => exact ⟨j + 1, p + 1, by omega, by omega, by go_num, HP2, by omega, hown7, hb7⟩
          case measure => simp [intOf]; omega
        · obtain rfl : j = t + 1 := by omega
          have HP2 : Hid (pf t (k + 1) (k + 1) = p) := by unfold Hid; rw [← pf_row]; exact HP.out
          have hjn : ¬ (((t + 1 : Nat) : Int) ≤ (t : Int)) := by omega
          go_wp2
          go_roundw
          case rel => exact ⟨k + 1, p, by omega, by go_num, HP2, hp, hown, hbel⟩
          case measure => simp [intOf]; omega
    · obtain rfl : k = t + 1 := by omega
      obtain rfl : p = M + 1 := by rw [← HP.out, pf_end ht, HM.out]
      have e1 : fpt t (M + 1) = (0, 0) :: hpi t := by rw [← HM.out]; exact fpt_full ht
      rw [e1] at hown
      obtain ⟨a, c, rfl, hr⟩ := RdP.own hown (by rw [List.length_cons, hpi_len ht, HM.out])
      have hc := hr.cap
      have hcm := hr.max
      unfold maxLen at hcm
      obtain ⟨cd, rfl⟩ : ∃ q, c = q + 1 := ⟨c - 1, by omega⟩
      obtain ⟨b, o, x, y, rfl, hbb, _, _, _⟩ := hr.one (show 0 < M + 1 by omega)
      have hob2 := own_ge hown
      clear hown e1
      by_cases hcd : cd = 0
      · subst hcd
        obtain rfl : M = 0 := by omega
        have hr2 := hr.tail (a := some ⟨b, o, none⟩) ⟨fun h0 => by omega, by simp⟩
        go_wp2
        go_ret
        exact ⟨_, _, rfl, hr2, fun x hx => by obtain rfl := Option.some.inj hx; exact hob2, hbel⟩
      · have hr2 := hr.tail (a := some ⟨b, o + 2, none⟩) ⟨fun h0 => rfl, by simp⟩
        go_wp2
        go_ret
        exact ⟨_, _, rfl, hr2, fun x hx => by obtain rfl := Option.some.inj hx; exact hob2, hbel⟩
end
end Go.Proofs.Ytljlioglpaogdac
