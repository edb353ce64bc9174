/- croftref.Join. · What the calls of package twine answer. · What the calls of package hide answer. · hide.different. · The places of the pairs of a dealing in two variables: plain facts. · The five numbers that hide.zeros reckons, and the pairs of powers that hide.places tells: plain facts. · The square of numbers of a dealing in two variables: plain facts, and its block. · twine.Need, value, allHave. · (*twine.square).row. · hide.places. · Rows by party: the table that package twine makes of rows. -/
import Derived.Test.YtljlioglpaogdaeToTJoinM
import Derived.Test.YtljlioglpaogdaeToCheckC
import Derived.Test.YtljlioglpaogdaeFitC
import Derived.Test.YtljlioglpaogdaeLstC
import Derived.Deep.AppendLies
import Derived.Deep.RegionLaw
import Derived.Test.YtljlioglpaogdaeToTEqC
import Derived.Test.YtljlioglpaogdaeToBadM
import Derived.Test.YtljlioglpaogdaeToRefProdC
import Derived.Test.YtljlioglpaogdaeToDealtC
import Derived.Laws.Rows
import Derived.Laws.Tables
import Derived.Test.YtljlioglpaogdaeToOpenC
namespace Go.Proofs.Ytljlioglpaogdae
set_option linter.unusedVariables false
set_option maxRecDepth 100000
set_option maxHeartbeats 8000000
section
open Crm Go.RowKit
theorem RdW.nbd {w : World} {a : Option Addr} {n c : Nat} {l : List (Int × List Int)} (h : RdW w a n c l) {i : Nat} (hi : i < n) : ∀ x ∈ tc l i, 0 ≤ x ∧ x ≤ 18446744073709551615 := by
  obtain ⟨b, o, x, ai, ni, ci, row, _, _, _, HRow, _, _, _, _, hrow⟩ := h.one hi
  rw [HRow.out]; exact hrow.bd

/-- What Join answers. -/
def Jns (l : List (Int × List Int)) (n : Nat) (t : Int) (w : World) (e : Ending) (w' : World) : Prop := ∃ x r, e = .returned (.tuple #[.int .u64 x, .int .i64 r]) ∧ Jnd l n t x r ∧ Below w.heap.size w w'
/-- How many numbers there are besides the secret. -/
def need2 (t : Nat) : Nat := (t + 1) * (t + 2) / 2 - 1
theorem need2_bd {t : Nat} (h : t ≤ 4) : need2 t ≤ 14 := by
  have hcase : t = 0 ∨ t = 1 ∨ t = 2 ∨ t = 3 ∨ t = 4 := by omega
  rcases hcase with rfl | rfl | rfl | rfl | rfl <;> decide
/-- What Need answers. -/
def Nds (t : Int) (w : World) (e : Ending) (w' : World) : Prop :=
  (((t < 0 ∨ 4 < t) ∧ e = .returned (.tuple #[.int .i64 0, .int .i64 1])) ∨ ∃ k : Nat, t = (k : Int) ∧ k ≤ 4 ∧ e = .returned (.tuple #[.int .i64 (need2 k : Nat), .int .i64 0])) ∧ Below w.heap.size w w'
/-- What is dealt with m draws for n parties is dealt rightly. -/
def Dwk (t n : Int) (m k : Nat) : Prop := t = (k : Int) ∧ k ≤ 4 ∧ m = need2 k ∧ (k : Int) + 1 ≤ n ∧ n ≤ 9
/-- What Deal answers. -/
def Dwl (s : Int) (ds : List Int) (t n : Int) (m : Nat) (w : World) (e : Ending) (w' : World) : Prop :=
  (((∀ k, ¬ Dwk t n m k) ∧ e = .returned (.tuple #[.slice none 0 0, .int .i64 1])) ∨ ∃ (k q : Nat) (v : Value) (L : List (Int × Value)), Dwk t n m k ∧ n = (q : Int) ∧ e = .returned (.tuple #[v, .int .i64 0]) ∧ LsW w' w.heap.size v L (dealA s ds k q)) ∧ Below w.heap.size w w'
/-- Rows that are dealt are read. -/
theorem deal_rd {w : World} {B : Nat} {v : Value} {L : List (Int × Value)} {s : Int} {ds : List Int} {t q : Nat} (h : LsW w B v L (dealA s ds t q)) (hq : q ≤ 9) : ∃ a c, v = .slice a q c ∧ RdW w a q c (dealA s ds t q) :=
  h.rdW (dealA_len _ _ _ _) (fun i hi => by unfold ta; rw [dealA_getD s ds t hi]; simp only; omega) (fun i hi => by unfold tc; rw [dealA_getD s ds t hi]; exact bd_u64 (rowK_bd _ _ _ _ _))
/-- What is wrong with what Shift is handed. -/
def Hse (who : List Int) (k q : Nat) (r : Int) : Prop := (¬ dis (fi who) k ∧ r = 5) ∨ (dis (fi who) k ∧ ((¬ (q ≤ 4 ∧ k ≤ q) ∧ r = 1) ∨ ((q ≤ 4 ∧ k ≤ q) ∧ r = 0)))
theorem Hse.one {who : List Int} {k q : Nat} {r s : Int} (h : Hse who k q r) (g : Hse who k q s) : r = s := by
  rcases h with ⟨h1, rfl⟩ | ⟨h1, ⟨h2, rfl⟩ | ⟨h2, rfl⟩⟩ <;> rcases g with ⟨k1, rfl⟩ | ⟨k1, ⟨k2, rfl⟩ | ⟨k2, rfl⟩⟩
  all_goals first
    | rfl
    | exact absurd k1 h1
    | exact absurd h1 k1
    | exact absurd k2 h2
    | exact absurd h2 k2
theorem Hse.ok {who : List Int} {k q : Nat} (h : Hse who k q 0) : dis (fi who) k ∧ q ≤ 4 ∧ k ≤ q := by
  rcases h with ⟨_, h⟩ | ⟨h1, ⟨_, h⟩ | ⟨h2, _⟩⟩
  · omega
  · omega
  · exact ⟨h1, h2.1, h2.2⟩
/-- What Shift answers. -/
def Hsh (who : List Int) (k : Nat) (a b : Int) (ds : List Int) (q : Nat) (w : World) (e : Ending) (w' : World) : Prop :=
  ((∃ r, r ≠ 0 ∧ Hse who k q r ∧ e = .returned (.tuple #[.slice none 0 0, .int .i64 r])) ∨
   (Hse who k q 0 ∧ ∃ v, e = .returned (.tuple #[v, .int .i64 0]) ∧ w'.ownsRow w.heap.size 22 1 v q ((shf who k a b ds q).map (Value.int .u64)))) ∧ Below w.heap.size w w'
/-- What is wrong with what Twine is handed. -/
def Hte (who : List Int) (k : Nat) (t : Int) (q : Nat) (r : Int) : Prop := (¬ dis (fi who) k ∧ r = 5) ∨ (dis (fi who) k ∧ ((¬ ((0 ≤ t ∧ t ≤ 4) ∧ (k : Int) ≤ t ∧ q = need2 t.toNat) ∧ r = 1) ∨ (((0 ≤ t ∧ t ≤ 4) ∧ (k : Int) ≤ t ∧ q = need2 t.toNat) ∧ r = 0)))
theorem Hte.one {who : List Int} {k q : Nat} {t r s : Int} (h : Hte who k t q r) (g : Hte who k t q s) : r = s := by
  rcases h with ⟨h1, rfl⟩ | ⟨h1, ⟨h2, rfl⟩ | ⟨h2, rfl⟩⟩ <;> rcases g with ⟨k1, rfl⟩ | ⟨k1, ⟨k2, rfl⟩ | ⟨k2, rfl⟩⟩
  all_goals first
    | rfl
    | exact absurd k1 h1
    | exact absurd h1 k1
    | exact absurd k2 h2
    | exact absurd h2 k2
theorem Hte.ok {who : List Int} {k q : Nat} {t : Int} (h : Hte who k t q 0) : dis (fi who) k ∧ (0 ≤ t ∧ t ≤ 4) ∧ (k : Int) ≤ t ∧ q = need2 t.toNat := by
  rcases h with ⟨_, h⟩ | ⟨h1, ⟨_, h⟩ | ⟨h2, _⟩⟩
  · omega
  · omega
  · exact ⟨h1, h2⟩
/-- What Twine answers. -/
def Htw (who : List Int) (k : Nat) (t : Int) (a b : Int) (ds : List Int) (q : Nat) (w : World) (e : Ending) (w' : World) : Prop :=
  ((∃ r, r ≠ 0 ∧ Hte who k t q r ∧ e = .returned (.tuple #[.slice none 0 0, .int .i64 r])) ∨
   (Hte who k t q 0 ∧ ∃ v, e = .returned (.tuple #[v, .int .i64 0]) ∧ w'.ownsRow w.heap.size 22 1 v q ((twl who k a b ds t.toNat q).map (Value.int .u64)))) ∧ Below w.heap.size w w'
/-- What is told. -/
def wls (who : List Int) (k : Nat) (a b : Int) (ds : List Int) (q : Nat) (r : Int) : List Int := if r = 0 then shf who k a b ds q else []
def wlt (who : List Int) (k : Nat) (t : Int) (a b : Int) (ds : List Int) (q : Nat) (r : Int) : List Int := if r = 0 then twl who k a b ds t.toNat q else []
theorem Hsh.rd {who : List Int} {k q : Nat} {a b r : Int} {ds : List Int} {w w' : World} {e : Ending} (h : Hsh who k a b ds q w e w') (hr : Hse who k q r) : ∃ a' c', e = .returned (.tuple #[.slice a' (wls who k a b ds q r).length c', .int .i64 r]) ∧ Rd w' a' (wls who k a b ds q r).length c' (wls who k a b ds q r) := by
  rcases h.1 with ⟨s, h1, h2, rfl⟩ | ⟨h1, v, rfl, ho⟩
  · obtain rfl := h2.one hr
    unfold wls
    rw [if_neg h1]
    exact ⟨none, 0, rfl, nil_rd _⟩
  · obtain rfl : 0 = r := h1.one hr
    unfold wls
    rw [if_pos rfl, shf_len]
    obtain ⟨a', c', rfl, hr', _⟩ := Rd.own ho (bd_u64 (shf_bd _ _ _ _ _ _))
    exact ⟨a', c', rfl, hr'⟩
theorem Htw.rd {who : List Int} {k q : Nat} {t a b r : Int} {ds : List Int} {w w' : World} {e : Ending} (h : Htw who k t a b ds q w e w') (hr : Hte who k t q r) : ∃ a' c', e = .returned (.tuple #[.slice a' (wlt who k t a b ds q r).length c', .int .i64 r]) ∧ Rd w' a' (wlt who k t a b ds q r).length c' (wlt who k t a b ds q r) := by
  rcases h.1 with ⟨s, h1, h2, rfl⟩ | ⟨h1, v, rfl, ho⟩
  · obtain rfl := h2.one hr
    unfold wlt
    rw [if_neg h1]
    exact ⟨none, 0, rfl, nil_rd _⟩
  · obtain rfl : 0 = r := h1.one hr
    unfold wlt
    rw [if_pos rfl, twl_len]
    obtain ⟨a', c', rfl, hr', _⟩ := Rd.own ho (bd_u64 (twl_bd _ _ _ _ _ _ _))
    exact ⟨a', c', rfl, hr'⟩
theorem Hsh.told {who : List Int} {k q : Nat} {a b : Int} {ds : List Int} {w w' : World} {e : Ending} (h : Hsh who k a b ds q w e w') (hr : Hse who k q 0) : ∃ a' c', e = .returned (.tuple #[.slice a' q c', .int .i64 0]) ∧ Rd w' a' q c' (shf who k a b ds q) := by
  obtain ⟨a', c', e1, h1⟩ := h.rd hr
  have e2 : wls who k a b ds q 0 = shf who k a b ds q := if_pos rfl
  rw [e2, shf_len] at e1 h1
  exact ⟨a', c', e1, h1⟩
theorem Htw.told {who : List Int} {k q : Nat} {t a b : Int} {ds : List Int} {w w' : World} {e : Ending} (h : Htw who k t a b ds q w e w') (hr : Hte who k t q 0) : ∃ a' c', e = .returned (.tuple #[.slice a' q c', .int .i64 0]) ∧ Rd w' a' q c' (twl who k a b ds t.toNat q) := by
  obtain ⟨a', c', e1, h1⟩ := h.rd hr
  have e2 : wlt who k t a b ds q 0 = twl who k a b ds t.toNat q := if_pos rfl
  rw [e2, twl_len] at e1 h1
  exact ⟨a', c', e1, h1⟩
theorem dis_nz {who : List Int} {k : Nat} (h : dis (fi who) k) : ∀ j, j < k → nm (who.getD j 0) ≠ 0 := fun j hj => by
  have := (h j hj).1
  unfold fi at this
  rw [nm_small (by omega) (by omega)]
  omega
/-- Row g holds the marks M. -/
def BlkT (w : World) (g : Nat) (M : List Bool) : Prop := w.heap[g]? = some (.cells (M.map Value.bool).toArray 105 (0, 0))
theorem BlkT.lt {w : World} {g : Nat} {M : List Bool} (h : BlkT w g M) : g < w.heap.size := (Array.getElem?_eq_some_iff.1 h).1
theorem BlkT.cell {w : World} {g : Nat} {M : List Bool} (h : BlkT w g M) {i : Nat} (hi : i < M.length) : w.cell? ⟨g, i, none⟩ = some (.bool (M.getD i false)) := by
  rw [cell_of_row w g i _ _ (0, 0) h]
  simp [List.getElem?_eq_getElem hi]
theorem BlkT.frozen {w : World} {g : Nat} {M : List Bool} (h : BlkT w g M) (i : Nat) : w.frozen? ⟨g, i, none⟩ = false := frozen_of_row w g i _ _ h
theorem BlkT.set {w : World} {g : Nat} {M : List Bool} (h : BlkT w g M) (i : Nat) (v : Bool) : BlkT (w.setCell ⟨g, i, none⟩ (.bool v)) g (M.set i v) := by
  have := heap_setCell_same w g i _ _ (.bool v) h
  unfold BlkT
  rw [this]
  simp [List.map_set]

theorem hDifferent (a : Option Addr) (n c : Nat) (ts : List Int) (w : World) (h : RdI w a n c ts) :
    Calls Try.prog 52 #[.slice a n c] w fun e w' => Tells (dis (fi ts) n) w e w' := by
  have hcap := h.cap
  have hmax := h.max
  unfold maxLen at hmax
  go_enter Try.func52, Try.ntmps52
  go_wp2
  go_loopw [8] (fun i wr => ∃ (k : Nat) (M : List Bool), k ≤ n ∧ i = .int .i64 k ∧ Hid (Mk (fi ts) k M) ∧ BlkT wr w.heap.size M ∧ Below w.heap.size w wr) (fun i _ => n - (intOf i).toNat)
  case atStart => exact ⟨0, _, Nat.zero_le _, rfl, mk_start _, heap_alloc_new w _, (Below.refl _ _).alloc (Nat.le_refl _) _⟩
  case round =>
    obtain ⟨k, M, hk, rfl, HM, hB, hbel⟩ := hrel
    have hlM := HM.out.len
    have hltB := hB.lt
    by_cases hlt : k < n
    · obtain ⟨b, o, x, rfl, hbb, HX, hx0, hx1, hcx⟩ := (h.below hbel).one hlt
      by_cases hx2 : x < 1
      · have HN : Hid (¬ dis (fi ts) n) := mk_out hlt HX.out (.inl hx2)
        go_wp2
        go_ret
        exact .no HN.out hbel
      · by_cases hx9 : 9 < x
        · have HN : Hid (¬ dis (fi ts) n) := mk_out hlt HX.out (.inr hx9)
          go_wp2
          go_ret
          exact .no HN.out hbel
        · obtain ⟨p, rfl⟩ : ∃ p : Nat, x = p := ⟨x.toNat, by omega⟩
          have hcp := hB.cell (i := p) (by omega)
          cases hm : M.getD p false with
          | true =>
            have HN : Hid (¬ dis (fi ts) n) := mk_twice HM.out hlt HX.out (by omega) (by omega) hm
            rw [hm] at hcp
            clear hm
            go_wp2
            go_ret
            exact .no HN.out hbel
          | false =>
            have HM2 : Hid (Mk (fi ts) (k + 1) (M.set p true)) := mk_step HM.out HX.out (by omega) (by omega) hm
            rw [hm] at hcp
            have hfz := hB.frozen p
            have hB3 := hB.set p true
            have hbel3 := below_grown hbel (grown_set wr w.heap.size p (.bool true)) (Nat.le_refl _)
            clear hm hB hbel
            go_wp2
            go_roundw
            case rel => exact ⟨k + 1, _, by omega, by go_num, HM2, hB3, hbel3⟩
            case measure => simp [intOf]; omega
    · have hkn : k = n := by omega
      subst hkn
      have HD : Hid (dis (fi ts) k) := HM.out.dis
      go_wp2
      go_ret
      exact .yes HD.out hbel
end
section
open Crm
/-- The place of the pair i, j. -/
def pp (t i j : Nat) : Nat := (nd2 (t : Nat) i + ((j : Int) - i)).toNat
theorem pp_lt {t i j : Nat} (ht : t ≤ 4) (hij : i ≤ j) (hj : j ≤ t) (h0 : 0 < i + j) : pp t i j < need2 t := by
  have h := (hpl_at t (by omega) j (by omega) i hij hj h0).2
  have h3 := (pos_bd t (by omega) j (by omega) i hij hj).2
  unfold pp need2
  omega
theorem pc_two (p : List Int) (u v : Int) (i : Nat) : pc p [u, v] (i + 1) p.length = p.getD i 0 * v + p.getD (i + 1) 0 * u := by
  rw [← pc_ge p [u, v] (i + 1) (i + 2), show p.length + (i + 2) = i + 1 + 1 + p.length by omega, pc_more, pc, pc, pc_far _ _ _ _ (by simp), tm, tm, if_pos (by omega), if_pos (by omega), show i + 1 - i = 1 by omega, Nat.sub_self, Int.zero_add]
  rfl
/-- One party more: each number, less the one below it by that party. -/
theorem bl_step (who : List Int) (k i : Nat) : (bl who (k + 1)).getD (i + 1) 0 = nm ((bl who k).getD (i + 1) 0 - nm ((bl who k).getD i 0 * iv (who.getD k 0))) := by
  rw [bl, cvl_getD, pc_two, Int.mul_one, nm_subr, ← nm_addl, nm_mulr, nm_addl, Int.mul_neg]
  congr 1
  omega
/-- The numbers above i are reckoned with one party more. -/
def zm (who : List Int) (k i : Nat) : List Int := (List.range 5).map fun j => if i < j then (bl who (k + 1)).getD j 0 else (bl who k).getD j 0
def zr (who : List Int) (k : Nat) : List Int := (List.range 5).map fun j => (bl who k).getD j 0
theorem zm_len (who : List Int) (k i : Nat) : (zm who k i).length = 5 := by simp [zm]
theorem zr_len (who : List Int) (k : Nat) : (zr who k).length = 5 := by simp [zr]
theorem zr_getD (who : List Int) (k : Nat) {j : Nat} (h : j < 5) : (zr who k).getD j 0 = (bl who k).getD j 0 := by simp [zr, h]
theorem zm_getD (who : List Int) (k i : Nat) {j : Nat} (h : j < 5) : (zm who k i).getD j 0 = if i < j then (bl who (k + 1)).getD j 0 else (bl who k).getD j 0 := by simp [zm, h]
theorem zm_start (who : List Int) (k : Nat) : zm who k 4 = zr who k := by
  unfold zm zr
  refine List.map_congr_left fun j hj => ?_
  have := List.mem_range.1 hj
  rw [if_neg (by omega)]
theorem zm_end (who : List Int) (k : Nat) : zm who k 0 = zr who (k + 1) := by
  unfold zm zr
  refine List.map_congr_left fun j hj => ?_
  by_cases h : 0 < j
  · rw [if_pos h]
  · obtain rfl : j = 0 := by omega
    rw [if_neg h, bl_first, bl_first]
theorem zm_bd (who : List Int) (k i : Nat) : ∀ x ∈ zm who k i, 0 ≤ x ∧ x ≤ 2147483646 := fun x hx => by
  obtain ⟨j, _, rfl⟩ := List.mem_map.1 hx
  split
  · exact getD_bd' (bl_bd who (k + 1)) j
  · exact getD_bd' (bl_bd who k) j
theorem zm_step (who : List Int) (k : Nat) {i : Nat} (h : i < 4) : (zm who k (i + 1)).set (i + 1) (nm ((zm who k (i + 1)).getD (i + 1) 0 - nm ((zm who k (i + 1)).getD i 0 * iv (who.getD k 0)))) = zm who k i := by
  rw [zm_getD _ _ _ (by omega), zm_getD _ _ _ (by omega), if_neg (by omega), if_neg (by omega), ← bl_step]
  apply List.ext_getElem?
  intro j
  rw [List.getElem?_set]
  by_cases hj : j < 5
  · by_cases e : i + 1 = j
    · subst e
      rw [if_pos rfl, if_pos (by rw [zm_len]; omega)]
      simp [zm, hj]
    · have : (i + 1 < j) = (i < j) := by apply propext; omega
      simp [zm, hj, e, this]
  · by_cases e : i + 1 = j
    · omega
    · simp [zm, hj, e]

/-- All pairs of powers, in order, as ints. -/
def fpl (t : Nat) : List (Int × Int) := (0, 0) :: (hpl t).map fun x => ((x.1 : Int), (x.2 : Int))
/-- The place of the pair i, j among all. -/
def pf (t i j : Nat) : Nat := (nd2 (t : Nat) i + ((j : Int) - i) + 1).toNat
theorem fpl_len {t : Nat} (h : t ≤ 4) : (fpl t).length = need2 t + 1 := by
  unfold fpl need2
  rw [List.length_cons, List.length_map, hpl_len t (by omega)]
theorem pf_zero (t : Nat) : pf t 0 0 = 0 := rfl
theorem pf_pp {t i j : Nat} (ht : t ≤ 4) (hij : i ≤ j) (hj : j ≤ t) (h0 : 0 < i + j) : pf t i j = pp t i j + 1 := by
  have h := (hpl_at t (by omega) j (by omega) i hij hj h0).2
  unfold pf pp
  omega
theorem pf_step {t i j : Nat} (ht : t ≤ 4) (hij : i ≤ j) (hj : j ≤ t) : pf t i (j + 1) = pf t i j + 1 := by
  by_cases h0 : 0 < i + j
  · have h := (hpl_at t (by omega) j (by omega) i hij hj h0).2
    unfold pf
    omega
  · obtain rfl : i = 0 := by omega
    obtain rfl : j = 0 := by omega
    rfl
theorem pf_row (t i : Nat) : pf t i (t + 1) = pf t (i + 1) (i + 1) := by
  unfold pf
  rw [nd2]
  omega
theorem pf_end {t : Nat} (ht : t ≤ 4) : pf t (t + 1) (t + 1) = need2 t + 1 := by
  have hcase : t = 0 ∨ t = 1 ∨ t = 2 ∨ t = 3 ∨ t = 4 := by omega
  rcases hcase with rfl | rfl | rfl | rfl | rfl <;> decide
theorem pf_lt {t i j : Nat} (ht : t ≤ 4) (hij : i ≤ j) (hj : j ≤ t) : pf t i j < need2 t + 1 := by
  by_cases h0 : 0 < i + j
  · have := pp_lt ht hij hj h0
    rw [pf_pp ht hij hj h0]
    omega
  · obtain rfl : i = 0 := by omega
    obtain rfl : j = 0 := by omega
    rw [pf_zero]
    omega
theorem fpl_at {t i j : Nat} (ht : t ≤ 4) (hij : i ≤ j) (hj : j ≤ t) : (fpl t)[pf t i j]? = some ((i : Int), (j : Int)) := by
  by_cases h0 : 0 < i + j
  · have h := (hpl_at t (by omega) j (by omega) i hij hj h0).1
    have hl := pp_lt ht hij hj h0
    have e : (hpl t).getD (pp t i j) (0, 0) = (i, j) := h
    have hlen := hpl_len t (by omega)
    unfold need2 at hl
    rw [pf_pp ht hij hj h0, fpl, List.getElem?_cons_succ, List.getElem?_map]
    rw [List.getD_eq_getElem?_getD, List.getElem?_eq_getElem (by omega), Option.getD_some] at e
    rw [List.getElem?_eq_getElem (by omega), e]
    rfl
  · obtain rfl : i = 0 := by omega
    obtain rfl : j = 0 := by omega
    rfl
/-- The pairs ahead of i, j. -/
def fpt (t p : Nat) : List (Int × Int) := (fpl t).take p
theorem fpt_step {t i j : Nat} (ht : t ≤ 4) (hij : i ≤ j) (hj : j ≤ t) : fpt t (pf t i j) ++ [((i : Int), (j : Int))] = fpt t (pf t i j + 1) := by
  unfold fpt
  rw [List.take_add_one, fpl_at ht hij hj]
  rfl
theorem fpt_full {t : Nat} (ht : t ≤ 4) : fpt t (need2 t + 1) = fpl t := by
  unfold fpt
  rw [List.take_of_length_le (by rw [fpl_len ht]; omega)]
/-- The pairs but the first. -/
def hpi (t : Nat) : List (Int × Int) := (hpl t).map fun x => ((x.1 : Int), (x.2 : Int))
theorem hpi_len {t : Nat} (h : t ≤ 4) : (hpi t).length = need2 t := by
  unfold hpi need2
  rw [List.length_map, hpl_len t (by omega)]
theorem hpi_at (t : Nat) {p : Nat} (h : p < (hpl t).length) : (hpi t).getD p (0, 0) = ((((hpl t).getD p (0, 0)).1 : Int), (((hpl t).getD p (0, 0)).2 : Int)) := by
  unfold hpi
  simp [h]
theorem hpl_bd : ∀ t, t < 5 → ∀ x ∈ hpl t, x.1 ≤ 4 ∧ x.2 ≤ 4 := by decide
theorem hpi_bd {t p : Nat} (ht : t ≤ 4) (h : p < need2 t) : ∃ i j : Nat, (hpl t).getD p (0, 0) = (i, j) ∧ (hpi t).getD p (0, 0) = ((i : Int), (j : Int)) ∧ i ≤ 4 ∧ j ≤ 4 := by
  have hl := hpl_len t (by omega)
  unfold need2 at h
  have hm : (hpl t).getD p (0, 0) ∈ hpl t := by
    rw [List.getD_eq_getElem?_getD, List.getElem?_eq_getElem (by omega), Option.getD_some]
    exact List.getElem_mem _
  have hb := hpl_bd t (by omega) _ hm
  exact ⟨((hpl t).getD p (0, 0)).1, ((hpl t).getD p (0, 0)).2, rfl, hpi_at t (by omega), hb.1, hb.2⟩
end
section
open Crm Go.RowKit
/-- Block g holds the square's numbers. -/
def BlkQ (w : World) (g : Nat) (C : List Int) : Prop := w.heap[g]? = some (.cells (C.map (Value.int .u64)).toArray 84 (0, 0))
theorem BlkQ.lt {w : World} {g : Nat} {C : List Int} (h : BlkQ w g C) : g < w.heap.size := (Array.getElem?_eq_some_iff.1 h).1
theorem BlkQ.cell {w : World} {g : Nat} {C : List Int} (h : BlkQ w g C) {i : Nat} (hi : i < C.length) : w.cell? ⟨g, i, none⟩ = some (.int .u64 (C.getD i 0)) := by
  rw [cell_of_row w g i _ _ (0, 0) h]
  simp [List.getElem?_eq_getElem hi]
theorem BlkQ.frozen {w : World} {g : Nat} {C : List Int} (h : BlkQ w g C) (i : Nat) : w.frozen? ⟨g, i, none⟩ = false := frozen_of_row w g i _ _ h
theorem BlkQ.set {w : World} {g : Nat} {C : List Int} (h : BlkQ w g C) (i : Nat) (v : Int) : BlkQ (w.setCell ⟨g, i, none⟩ (.int .u64 v)) g (C.set i v) := by
  have := heap_setCell_same w g i _ _ (.int .u64 v) h
  unfold BlkQ
  rw [this]
  simp [List.map_set]
theorem BlkQ.below {w w' : World} {B g : Nat} {C : List Int} (h : BlkQ w g C) (hb : Below B w w') (hg : g < B) : BlkQ w' g C := by
  unfold BlkQ; rw [hb.block g hg]; exact h
theorem BlkQ.other {w : World} {g g' i : Nat} {C : List Int} {v : Value} (h : BlkQ w g C) (hg : g' ≠ g) : BlkQ (w.setCell ⟨g', i, none⟩ v) g C := by
  unfold BlkQ; rw [heap_setCell_other w ⟨g', i, none⟩ g v (fun e => hg e.symm)]; exact h
/-- A part of a row of it. -/
theorem BlkQ.rd {w : World} {g : Nat} {C : List Int} (h : BlkQ w g C) (o n c : Nat) (hc : n ≤ c) (hm : c ≤ maxLen) (hn : o + n ≤ C.length) (hL : ∀ x ∈ C, 0 ≤ x ∧ x ≤ 18446744073709551615) : Rd w (some ⟨g, o, none⟩) n c ((C.drop o).take n) := by
  refine ⟨by simp; omega, hc, hm, fun x hx => hL x (List.mem_of_mem_drop (List.mem_of_mem_take hx)), by simp, fun x hx i hi => ?_⟩
  obtain rfl := Option.some.inj hx
  rw [Addr.add_lit, h.cell (by omega)]
  congr 2
  simp [hi]

theorem dn_cons {s z : Int} {ds : List Int} {q : Nat} (h : (q : Int) = z + 1) : (s :: ds).getD q 0 = dn s ds z := by
  unfold dn
  cases q with
  | zero => rw [if_pos (by omega)]; rfl
  | succ q => rw [if_neg (by omega), cons_getDs]; congr 1; omega
/-- The numbers ahead of (i, j) are laid. -/
structure Sqr (s : Int) (ds : List Int) (t i j : Nat) (C : List Int) : Prop where
  len : C.length = 25
  bd : ∀ x ∈ C, 0 ≤ x ∧ x ≤ 18446744073709551615
  val : ∀ a b : Nat, a ≤ b → b ≤ t → (a < i ∨ (a = i ∧ b < j)) → C.getD (a * 5 + b) 0 = dn s ds (nd2 t a + ((b : Int) - a)) ∧ C.getD (b * 5 + a) 0 = dn s ds (nd2 t a + ((b : Int) - a))
theorem sqr_start (s : Int) (ds : List Int) (t : Nat) : Sqr s ds t 0 0 (List.replicate 25 0) :=
  ⟨by simp, fun x hx => by rw [List.eq_of_mem_replicate hx]; omega, fun a b _ _ h => by omega⟩
theorem sqr_step {s v : Int} {ds C : List Int} {t i j : Nat} (h : Sqr s ds t i j C) (ht : t ≤ 4) (hij : i ≤ j) (hj : j ≤ t) (hv : v = dn s ds (nd2 t i + ((j : Int) - i))) (hv0 : 0 ≤ v) (hv1 : v ≤ 18446744073709551615) : Sqr s ds t i (j + 1) ((C.set (i * 5 + j) v).set (j * 5 + i) v) := by
  have hl := h.len
  refine ⟨by simp [hl], bd_set (bd_set h.bd _ ⟨hv0, hv1⟩) _ ⟨hv0, hv1⟩, fun a b hab hb hd => ?_⟩
  by_cases e : a = i ∧ b = j
  · obtain ⟨rfl, rfl⟩ := e
    rw [getD_set, getD_set, getD_set, getD_set, ← hv]
    rw [List.length_set, hl]
    refine ⟨?_, ?_⟩
    · by_cases e : b * 5 + a = a * 5 + b
      · rw [if_pos ⟨e, by omega⟩]
      · rw [if_neg (fun h => e h.1), if_pos ⟨rfl, by omega⟩]
    · rw [if_pos ⟨rfl, by omega⟩]
  · have := h.val a b hab hb (by omega)
    rw [getD_set, getD_set, getD_set, getD_set]
    rw [if_neg (fun h => by omega), if_neg (fun h => by omega), if_neg (fun h => by omega), if_neg (fun h => by omega)]
    exact this
theorem sqr_row {s : Int} {ds C : List Int} {t i j : Nat} (h : Sqr s ds t i j C) (hj : t < j) : Sqr s ds t (i + 1) (i + 1) C :=
  ⟨h.len, h.bd, fun a b hab hb hd => h.val a b hab hb (by omega)⟩
theorem sqr_end {s : Int} {ds C : List Int} {t i j a b : Nat} (h : Sqr s ds t i j C) (hi : t < i) (ha : a ≤ t) (hb : b ≤ t) : nm (C.getD (a * 5 + b) 0) = A2 s ds t a b := by
  unfold A2
  by_cases e : a ≤ b
  · rw [if_pos e, (h.val a b e hb (by omega)).1]
  · rw [if_neg e, (h.val b a (by omega) ha (by omega)).2]
/-- Row j of it tells the row's number j. -/
theorem sqr_ev {s : Int} {ds C : List Int} {t i j k : Nat} (h : Sqr s ds t i j C) (hi : t < i) (hk : k ≤ t) (x : Int) : nm (ev ((C.drop (k * 5)).take (t + 1)) x) = nm (ev (colA s ds t k) x) := by
  refine ev_congr _ _ _ fun q => ?_
  by_cases hq : q ≤ t
  · rw [colA_getD s ds t k hq, take_getD, if_pos (by omega), A2_sym, ← sqr_end h hi hk hq, nm_nm]
    congr 1
    simp
  · rw [getD_big (show (colA s ds t k).length ≤ q by rw [colA_len]; omega), take_getD, if_neg (by omega)]
/-- What is left of a list when its first number is taken. -/
theorem Rd.tail {w : World} {b o n c : Nat} {xs : List Int} {a : Option Addr} (h : Rd w (some ⟨b, o, none⟩) (n + 1) (c + 1) xs) (ha : (0 < n → a = some ⟨b, o + 1, none⟩) ∧ a ≠ none) : Rd w a n c (xs.drop 1) := by
  have h1 := h.cap
  have h2 := h.max
  refine ⟨by have := h.len; simp; omega, by omega, by omega, fun x hx => h.bd x (List.mem_of_mem_drop hx), fun e => absurd e ha.2, fun x hx i hi => ?_⟩
  rw [ha.1 (by omega)] at hx
  obtain rfl := Option.some.inj hx
  have := h.cell _ rfl (i + 1) (by omega)
  rw [Addr.add_lit] at this ⊢
  rw [show o + 1 + i = o + (i + 1) by omega, this]
  congr 2
  simp
theorem cTwNeed (t : Int) (w : World) : Calls Try.prog 21 #[.int .i64 t] w fun e w' => Nds t w e w' := by
  by_cases h1 : t < 0
  · have HT : Hid (t < 0 ∨ 4 < t) := .inl h1
    go_enter Try.func21, Try.ntmps21
    go_wp2
    go_ret2
    exact ⟨.inl ⟨HT.out, rfl⟩, Below.refl _ _⟩
  · by_cases h2 : 4 < t
    · have HT : Hid (t < 0 ∨ 4 < t) := .inr h2
      go_enter Try.func21, Try.ntmps21
      go_wp2
      go_ret2
      exact ⟨.inl ⟨HT.out, rfl⟩, Below.refl _ _⟩
    · have hk : t = 0 ∨ t = 1 ∨ t = 2 ∨ t = 3 ∨ t = 4 := by omega
      clear h1 h2
      rcases hk with rfl | rfl | rfl | rfl | rfl
      · go_enter Try.func21, Try.ntmps21
        go_wp2
        go_ret2
        exact ⟨.inr ⟨0, rfl, by omega, rfl⟩, Below.refl _ _⟩
      · go_enter Try.func21, Try.ntmps21
        go_wp2
        go_ret2
        exact ⟨.inr ⟨1, rfl, by omega, rfl⟩, Below.refl _ _⟩
      · go_enter Try.func21, Try.ntmps21
        go_wp2
        go_ret2
        exact ⟨.inr ⟨2, rfl, by omega, rfl⟩, Below.refl _ _⟩
      · go_enter Try.func21, Try.ntmps21
        go_wp2
        go_ret2
        exact ⟨.inr ⟨3, rfl, by omega, rfl⟩, Below.refl _ _⟩
      · go_enter Try.func21, Try.ntmps21
        go_wp2
        go_ret2
        exact ⟨.inr ⟨4, rfl, by omega, rfl⟩, Below.refl _ _⟩

theorem cTwValue (a : Option Addr) (n c : Nat) (xs : List Int) (x : Nat) (w : World) (h : Rd w a n c xs) (hn : n ≤ 40) (hx : x ≤ 100) :
    Calls Try.prog 76 #[.slice a n c, .int .i64 x] w fun e w' => e = .returned (.int .u64 (nm (ev xs x))) ∧ Below w.heap.size w w' := by
  go_enter Try.func76, Try.ntmps76
  go_wp2_with fail
  refine (cEvalOK _ _ _ _ _ _ h hn (by omega) (by omega)).mono ?_
  rintro e w1 ⟨rfl, hb1⟩
  go_wp2
  go_ret
  exact ⟨rfl, hb1⟩

theorem cAllHave (a : Option Addr) (n c : Nat) (l : List (Int × List Int)) (k : Nat) (w : World) (h : RdW w a n c l) :
    Calls Try.prog 50 #[.slice a n c, .int .i64 k] w fun e w' => Tells (∀ i, i < n → (tc l i).length = k) w e w' := by
  have hcap := h.cap
  have hmax := h.max
  unfold maxLen at hmax
  go_enter Try.func50, Try.ntmps50
  go_wp2
  go_loopw [9] (fun i wr => ∃ q : Nat, q ≤ n ∧ i = .int .i64 q ∧ Hid (∀ i, i < q → (tc l i).length = k) ∧ Below w.heap.size w wr) (fun i _ => n - (intOf i).toNat)
  case atStart => exact ⟨0, Nat.zero_le _, rfl, fun i hi => by omega, Below.refl _ _⟩
  case round =>
    obtain ⟨q, hq, rfl, HQ, hbel⟩ := hrel
    have hs1 := hbel.size
    by_cases hlt : q < n
    · obtain ⟨b, o, x, ai, ni, ci, row, rfl, hbb, HX, HRow, hx0, hx1, hcx, hcr, hrow⟩ := (h.below hbel).one hlt
      have hnl := hrow.len
      have hnc := hrow.cap
      have hnm := hrow.max
      unfold maxLen at hnm
      have HNL : Hid ((tc l q).length = ni) := by unfold Hid; rw [HRow.out]; exact hnl
      have hbA := hbel.alloc hs1 (.cells #[.int .i64 x, .slice ai ni ci] 55)
      have hcA1 := cell_alloc1 wr (.int .i64 x) (.slice ai ni ci) 55
      by_cases hni : ni = k
      · have hnb : ((ni : Int) != (k : Int)) = false := by rw [bne_eq_false_iff_eq]; omega
        have HQ2 : Hid (∀ i, i < q + 1 → (tc l i).length = k) := fun i hi => by
          by_cases e : i = q
          · rw [e, HNL.out]; exact hni
          · exact HQ.out i (by omega)
        clear hni
        go_wp2
        go_roundw
        case rel => exact ⟨q + 1, by omega, by go_num, HQ2, hbA⟩
        case measure => simp [intOf]; omega
      · have hnb : ((ni : Int) != (k : Int)) = true := by rw [bne_iff_ne]; omega
        have HN : Hid (¬ ∀ i, i < n → (tc l i).length = k) := fun hh => hni (by have := hh q hlt; rw [HNL.out] at this; exact this)
        clear hni
        go_wp2
        go_ret
        exact .no HN.out hbA
    · have hqn : q = n := by omega
      subst hqn
      go_wp2
      go_ret
      exact .yes HQ.out hbel
/-- A row of the call's own, all of it. -/
theorem Blk.own {w : World} {g n B : Nat} {L : List Int} (h : Blk w g L) (hl : L.length = n) (hB : B ≤ g) (hn : n ≤ 1000) : w.ownsRow B 22 1 (.slice (some ⟨g, 0, none⟩) n n) n (L.map (Value.int .u64)) :=
  ⟨by simp [hl], .inr ⟨g, n, _, rfl, hB, h, Nat.le_refl _, by unfold maxLen; omega, by simp [hl], by rw [List.take_of_length_le (by simp [hl])]⟩⟩

theorem cSqRow (g : Nat) (C : List Int) (s : Int) (ds : List Int) (t x : Nat) (w : World) (h : BlkQ w g C) (hS : Sqr s ds t (t + 1) (t + 1) C) (ht : t ≤ 4) (hx : x ≤ 9) :
    Calls Try.prog 45 #[.pointer (some ⟨g, 0, none⟩), .int .i64 t, .int .i64 x] w fun e w' => ∃ u, e = .returned (.slice (some ⟨u, 0, none⟩) (t + 1) (t + 1)) ∧ w'.ownsRow w.heap.size 22 1 (.slice (some ⟨u, 0, none⟩) (t + 1) (t + 1)) (t + 1) ((rowK s ds t x (t + 1)).map (Value.int .u64)) ∧ Below w.heap.size w w' := by
  obtain ⟨i0, hi, hz0, hz1, hz2⟩ := info_parts info22
  have HS : Hid (Sqr s ds t (t + 1) (t + 1) C) := hS
  have hglt := h.lt
  clear hS
  obtain ⟨T, HT⟩ : ∃ T, Hid (t + 1 = T) := ⟨_, rfl⟩
  obtain ⟨F, HF⟩ : ∃ F : Nat → Int, Hid ((fun j => nm (ev (colA s ds t j) x)) = F) := ⟨_, rfl⟩
  have HRK : Hid (rowK s ds t x (t + 1) = (List.range T).map F) := by unfold Hid rowK; rw [HT.out, HF.out]
  rw [HRK.out, HT.out]
  have hT5 : T ≤ 5 := by rw [← HT.out]; omega
  have HTi : Hid ((t : Int) + 1 = (T : Int)) := by unfold Hid; rw [← HT.out]; push_cast; rfl
  go_enter Try.func45, Try.ntmps45
  go_wp2_with (at_make; refine wpList_make_full _ rfl _ _ 23 rfl w.heap.size 22 i0 (.int .u64 0) 1 Try.underlying23 hi hz0 hz1 .i64 .i64 _ _ T rfl rfl HTi.out HTi.out (by rw [hz2]; omega) (by unfold maxLen; omega) (Nat.le_refl _) ?_; intro w2 hown hgrow)
  have hB2 : Blk w2 w.heap.size (fil F T 0) := by rw [← fil_zero]; exact Blk.made hown
  have hb2 : Below w.heap.size w w2 := (Below.refl _ _).grown hgrow (Nat.le_refl _) (by simp)
  clear hown hgrow
  go_loopw [14] (fun i wr => ∃ k : Nat, k ≤ T ∧ i = .int .i64 k ∧ Blk wr w.heap.size (fil F T k) ∧ Below w.heap.size w wr) (fun i _ => T - (intOf i).toNat)
  case atStart => exact ⟨0, Nat.zero_le _, rfl, hB2, hb2⟩
  case round =>
    clear hB2 hb2
    obtain ⟨k, hk, rfl, hblk, hbel⟩ := hrel
    by_cases hlt : k < T
    · have hq := h.below hbel hglt
      have hql := hq.lt
      have hl := HS.out.len
      have hrd := hq.rd (k * 5) T 5 hT5 (by unfold maxLen; omega) (by omega) HS.out.bd
      have HV : Hid (nm (ev ((C.drop (k * 5)).take T) x) = F k) := by unfold Hid; rw [← HT.out, sqr_ev HS.out (by omega) (by rw [← HT.out] at hlt; omega), ← HF.out]
      have hk5 : k < 5 := by omega
      have hal : Try.prog.arrayLen 82 = 5 := by simp [Program.arrayLen, Try.underlying82]
      have HTn : Hid (((t : Int) + 1).toNat = T) := by unfold Hid; rw [HTi.out]; rfl
      have hsl : ∀ W, (Instr.sliceAt 82 (.pointer (some ⟨g, k * 5, none⟩)) none (some (.int .i64 ((t : Int) + 1))) none).run Try.prog W = .ok (.slice (some ⟨g, k * 5, none⟩) T 5) W := fun W => by
        rw [run_sliceAt_array_h W 82 ⟨g, k * 5, none⟩ (by simp [Program.arrayLen, Program.elem, Try.underlying82]) .i64 ((t : Int) + 1) (by omega) (by rw [hal]; omega), HTn.out, hal, show Try.prog.elem 82 = 22 from by simp [Program.elem, Try.underlying82]]
        go_simp
      clear hal
      go_wp2_with fail
      refine (cTwValue _ _ _ _ _ _ hrd (by omega) (by omega)).mono ?_
      rintro e w3 ⟨rfl, hb3⟩
      rw [HV.out]
      have hblk3 := hblk.below hb3 hblk.lt
      have hcell := hblk3.cell (i := k) (by rw [fil_len]; exact hlt)
      have hfz := hblk3.frozen k
      have hlt3 := hblk3.lt
      have hblk4 := hblk3.set k (F k)
      rw [fil_set rfl] at hblk4
      have hbel3 := hbel.trans (hb3.mono hbel.size)
      have Hb4 : Hid (Below w.heap.size w (w3.setCell ⟨w.heap.size, k, none⟩ (.int .u64 (F k)))) := hbel3.setCell (Nat.le_refl _) _
      clear hbel hb3 hblk hblk3 hbel3 hrd
      go_wp2
      go_roundw
      case rel => exact ⟨k + 1, by omega, by go_num, hblk4, Hb4.out⟩
      case measure => simp [intOf]; omega
    · have hkn : k = T := by omega
      subst hkn
      rw [fil_full] at hblk
      have ho := hblk.own (n := k) (B := w.heap.size) (by simp) (Nat.le_refl _) (by omega)
      go_wp2
      go_ret
      exact ⟨_, rfl, ho, hbel⟩
/-- What is left of pairs when the first is taken. -/
theorem RdP.tail {w : World} {b o n c : Nat} {p : Int × Int} {l : List (Int × Int)} {a : Option Addr} (h : RdP w (some ⟨b, o, none⟩) (n + 1) (c + 1) (p :: l)) (ha : (0 < n → a = some ⟨b, o + 2, none⟩) ∧ a ≠ none) : RdP w a n c l := by
  have h1 := h.cap
  have h2 := h.max
  refine ⟨by have := h.len; simpa using this, by omega, by omega, fun e => absurd e ha.2, fun x hx i hi => ?_⟩
  rw [ha.1 (by omega)] at hx
  obtain rfl := Option.some.inj hx
  have := h.cell _ rfl (i + 1) (by omega)
  rw [Addr.add_lit, Addr.add_lit] at this ⊢
  rw [show o + 2 + i * 2 = o + (i + 1) * 2 by omega, show o + 2 + (i * 2 + 1) = o + ((i + 1) * 2 + 1) by omega]
  exact this

theorem RdP.grown {w w' : World} {a : Option Addr} {n c : Nat} {l : List (Int × Int)} {r : Option Nat} (h : RdP w a n c l) (hg : w.grownBy w' r) (hne : ∀ x, a = some x → some x.block ≠ r) : RdP w' a n c l := by
  refine ⟨h.len, h.cap, h.max, h.nil, fun x hx i hi => ?_⟩
  have hb : ∀ k, (x.add k).block = x.block := fun k => by unfold Addr.add; split <;> rfl
  have := h.cell x hx i hi
  exact ⟨hg.cell this.1 (by rw [hb]; exact hne x hx), hg.cell this.2 (by rw [hb]; exact hne x hx)⟩

theorem own_ge {w : World} {B g o n m c z : Nat} {E : TypeId} {xs : List Value} (h : w.ownsRow B E z (.slice (some ⟨g, o, none⟩) n c) m xs) : B ≤ g := by
  rcases h.2 with ⟨e, _⟩ | ⟨g', cap, cur, e, hb', _⟩
  · cases e
  · simp only [Value.slice.injEq, Option.some.injEq, Addr.mk.injEq] at e
    rw [e.1.1]
    exact hb'

theorem hPlaces (t : Nat) (w : World) (ht : t ≤ 4) :
    Calls Try.prog 54 #[.int .i64 t] w fun e w' => ∃ a c, e = .returned (.slice a (need2 t) c) ∧ RdP w' a (need2 t) c (hpi t) ∧ (∀ x, a = some x → w.heap.size ≤ x.block) ∧ Below w.heap.size w w' := by
  obtain ⟨M, HM⟩ : ∃ M, Hid (need2 t = M) := ⟨_, rfl⟩
  have hM : M ≤ 14 := by rw [← HM.out]; exact need2_bd ht
  rw [HM.out]
  go_enter Try.func54, Try.ntmps54
  go_wp2
  go_loopw [3, 8] (fun v i wr => ∃ k p : Nat, k ≤ t + 1 ∧ i = .int .i64 k ∧ Hid (pf t k k = p) ∧ p ≤ M + 1 ∧ wr.ownsRow w.heap.size 59 2 v p (ppc (fpt t p)) ∧ Below w.heap.size w wr) (fun _ i _ => t + 1 - (intOf i).toNat)
  case atStart => exact ⟨0, 0, Nat.zero_le _, rfl, rfl, Nat.zero_le _, World.ownsRow_nil _ _ _ _, Below.refl _ _⟩
  case round =>
    obtain ⟨k, p, hk, rfl, HP, hp, hown, hbel⟩ := hrel
    by_cases hkt : k < t + 1
    · have hkd : decide ((k : Int) < (t : Int) + 1) = true := decide_eq_true (by omega)
      obtain ⟨wo, hwo⟩ : ∃ q, q = wr := ⟨_, rfl⟩
      subst hwo
      go_wp2
      go_loopw [3, 5] (fun v i wr => ∃ j p : Nat, k ≤ j ∧ j ≤ t + 1 ∧ i = .int .i64 j ∧ Hid (pf t k j = p) ∧ p ≤ M + 1 ∧ wr.ownsRow w.heap.size 59 2 v p (ppc (fpt t p)) ∧ Below w.heap.size w wr) (fun _ i _ => t + 1 - (intOf i).toNat)
      case atStart => exact ⟨k, p, Nat.le_refl _, by omega, rfl, HP, hp, hown, hbel⟩
      case round =>
        clear HP hp hown hbel
        obtain ⟨j, p, hkj, hj, rfl, HP, hp, hown, hbel⟩ := hrel
        have hs := hbel.size
        by_cases hjt : j ≤ t
        · have hlt := pf_lt ht hkj hjt
          rw [HP.out, HM.out] at hlt
          have HP2 : Hid (pf t k (j + 1) = p + 1) := by unfold Hid; rw [pf_step ht hkj hjt, HP.out]
          have HF : Hid (fpt t p ++ [((k : Int), (j : Int))] = fpt t (p + 1)) := by unfold Hid; rw [← HP.out]; exact fpt_step ht hkj hjt
          have hjti : (j : Int) ≤ (t : Int) := by omega
          go_wp2_with (at_builtin; refine wpList_app2 Try.underlying50 infoPair rfl (by omega) _ rfl _ _ rfl w.heap.size _ _ _ rfl hown (.int .i64 k) (.int .i64 j) rfl rfl rfl (by omega) hs ?_; intro v7 w7 hown7 hgr7 _; rw [ppc_snoc, HF.out] at hown7; have hb7 := hbel.grown hgr7 hs (fun q hq => (hown.lt q hq).1); clear hgr7 hown hbel)
          go_roundw
          case rel => exact ⟨j + 1, p + 1, by omega, by omega, by go_num, HP2, by omega, hown7, hb7⟩
          case measure => simp [intOf]; omega
        · obtain rfl : j = t + 1 := by omega
          have HP2 : Hid (pf t (k + 1) (k + 1) = p) := by unfold Hid; rw [← pf_row]; exact HP.out
          have hjn : ¬ (((t + 1 : Nat) : Int) ≤ (t : Int)) := by omega
          go_wp2
          go_roundw
          case rel => exact ⟨k + 1, p, by omega, by go_num, HP2, hp, hown, hbel⟩
          case measure => simp [intOf]; omega
    · obtain rfl : k = t + 1 := by omega
      obtain rfl : p = M + 1 := by rw [← HP.out, pf_end ht, HM.out]
      have e1 : fpt t (M + 1) = (0, 0) :: hpi t := by rw [← HM.out]; exact fpt_full ht
      rw [e1] at hown
      obtain ⟨a, c, rfl, hr⟩ := RdP.own hown (by rw [List.length_cons, hpi_len ht, HM.out])
      have hc := hr.cap
      have hcm := hr.max
      unfold maxLen at hcm
      obtain ⟨cd, rfl⟩ : ∃ q, c = q + 1 := ⟨c - 1, by omega⟩
      obtain ⟨b, o, x, y, rfl, hbb, _, _, _⟩ := hr.one (show 0 < M + 1 by omega)
      have hob2 := own_ge hown
      clear hown e1
      by_cases hcd : cd = 0
      · subst hcd
        obtain rfl : M = 0 := by omega
        have hr2 := hr.tail (a := some ⟨b, o, none⟩) ⟨fun h0 => by omega, by simp⟩
        go_wp2
        go_ret
        exact ⟨_, _, rfl, hr2, fun x hx => by obtain rfl := Option.some.inj hx; exact hob2, hbel⟩
      · have hr2 := hr.tail (a := some ⟨b, o + 2, none⟩) ⟨fun h0 => rfl, by simp⟩
        go_wp2
        go_ret
        exact ⟨_, _, rfl, hr2, fun x hx => by obtain rfl := Option.some.inj hx; exact hob2, hbel⟩
/-- No row. -/
def nil10 : List Value := List.replicate 10 (.slice none 0 0)
/-- Block g holds the table S. -/
def BlkV (w : World) (g : Nat) (S : List Value) : Prop := w.heap[g]? = some (.cells S.toArray 88 (0, 0))
theorem BlkV.lt {w : World} {g : Nat} {S : List Value} (h : BlkV w g S) : g < w.heap.size := (Array.getElem?_eq_some_iff.1 h).1
theorem BlkV.cell {w : World} {g : Nat} {S : List Value} (h : BlkV w g S) {i : Nat} {v : Value} (hi : S[i]? = some v) : w.cell? ⟨g, i, none⟩ = some v := by
  rw [cell_of_row w g i _ _ (0, 0) h]
  simpa using hi
theorem BlkV.frozen {w : World} {g : Nat} {S : List Value} (h : BlkV w g S) (i : Nat) : w.frozen? ⟨g, i, none⟩ = false := frozen_of_row w g i _ _ h
theorem BlkV.set {w : World} {g : Nat} {S : List Value} (h : BlkV w g S) (i : Nat) (v : Value) : BlkV (w.setCell ⟨g, i, none⟩ v) g (S.set i v) := by
  have := heap_setCell_same w g i _ _ v h
  unfold BlkV
  rw [this]
  simp
theorem BlkV.below {w w' : World} {B g : Nat} {S : List Value} (h : BlkV w g S) (hb : Below B w w') (hg : g < B) : BlkV w' g S := by
  unfold BlkV; rw [hb.block g hg]; exact h
theorem BlkV.other {w : World} {g g' i : Nat} {S : List Value} {v : Value} (h : BlkV w g S) (hg : g' ≠ g) : BlkV (w.setCell ⟨g', i, none⟩ v) g S := by
  unfold BlkV; rw [heap_setCell_other w ⟨g', i, none⟩ g v (fun e => hg e.symm)]; exact h

/-- The table has the first k rows of l, each at its party. -/
structure Pt (w : World) (l : List (Int × List Int)) (k : Nat) (S : List Value) : Prop where
  len : S.length = 10
  row : ∀ p : Nat, p < 10 → ∃ a m c, S[p]? = some (.slice a m c) ∧ m ≤ 5 ∧ ((m = 0 ∧ ∀ r, r < k → ta l r ≠ (p : Int)) ∨ (∃ r, r < k ∧ ta l r = (p : Int) ∧ 1 ≤ m ∧ Rd w a m c (tc l r)))
  rwk : Rwk l k
theorem Pt.below {w w' : World} {l : List (Int × List Int)} {k : Nat} {S : List Value} (h : Pt w l k S) (hb : Below w.heap.size w w') : Pt w' l k S := by
  refine ⟨h.len, fun p hp => ?_, h.rwk⟩
  obtain ⟨a, m, c, h1, h2, h3⟩ := h.row p hp
  refine ⟨a, m, c, h1, h2, ?_⟩
  rcases h3 with h3 | ⟨r, r1, r2, r3, r4⟩
  · exact .inl h3
  · exact .inr ⟨r, r1, r2, r3, r4.below hb⟩
theorem pt_start (w : World) (l : List (Int × List Int)) : Pt w l 0 nil10 :=
  ⟨rfl, fun p hp => ⟨none, 0, 0, by unfold nil10; rw [List.getElem?_replicate, if_pos hp], by omega, .inl ⟨rfl, fun r hr => by omega⟩⟩, rwk_zero l⟩
theorem pt_step {w : World} {l : List (Int × List Int)} {k p m c c0 : Nat} {S : List Value} {a a0 : Option Addr} (h : Pt w l k S) (hp : ta l k = (p : Int)) (h1 : 1 ≤ p) (h9 : p ≤ 9) (hr : Rd w a m c (tc l k)) (m1 : 1 ≤ m) (m5 : m ≤ 5) (hS : S[p]? = some (.slice a0 0 c0)) : Pt w l (k + 1) (S.set p (.slice a m c)) := by
  have hno : ∀ r, r < k → ta l r ≠ (p : Int) := by
    obtain ⟨a', m', c', e1, e2, e3⟩ := h.row p (by omega)
    rw [hS] at e1
    simp only [Option.some.injEq, Value.slice.injEq] at e1
    obtain ⟨rfl, rfl, rfl⟩ := e1
    rcases e3 with e3 | ⟨r, _, _, e4, _⟩
    · exact e3.2
    · omega
  have hl := h.len
  refine ⟨by rw [List.length_set]; exact hl, fun q hq => ?_, rwk_succ h.rwk hp hr.len (by omega) (by omega) m1 m5 hno⟩
  by_cases e : q = p
  · subst e
    exact ⟨a, m, c, by rw [List.getElem?_set_self (by omega)], m5, .inr ⟨k, by omega, hp, m1, hr⟩⟩
  · obtain ⟨a', m', c', e1, e2, e3⟩ := h.row q hq
    refine ⟨a', m', c', by rw [List.getElem?_set_ne (fun e' => e e'.symm)]; exact e1, e2, ?_⟩
    rcases e3 with ⟨e3, e4⟩ | ⟨r, e3, e4, e5, e6⟩
    · refine .inl ⟨e3, fun r hr => ?_⟩
      by_cases er : r = k
      · rw [er, hp]; omega
      · exact e4 r (by omega)
    · exact .inr ⟨r, by omega, e4, e5, e6⟩
theorem pt_twice {w : World} {l : List (Int × List Int)} {k n p m c : Nat} {S : List Value} {a : Option Addr} (h : Pt w l k S) (hk : k < n) (hp : ta l k = (p : Int)) (h9 : p ≤ 9) (hS : S[p]? = some (.slice a m c)) (hm : 0 < m) : ¬ Rwk l n := fun hR => by
  obtain ⟨a', m', c', e1, e2, e3⟩ := h.row p (by omega)
  rw [hS] at e1
  simp only [Option.some.injEq, Value.slice.injEq] at e1
  obtain ⟨rfl, rfl, rfl⟩ := e1
  rcases e3 with e3 | ⟨r, e4, e5, _, _⟩
  · omega
  · exact (hR k hk).1.2 r e4 (by rw [e5, hp])
theorem nil10_one : (nil10.toArray.all (·.oneCell')) = true := by
  rw [Array.all_eq_true_iff_forall_mem]
  intro v hv
  obtain rfl := List.eq_of_mem_replicate (show v ∈ List.replicate 10 _ from (by simpa [nil10] using hv : v ∈ nil10))
  rfl
theorem Pt.one {w : World} {l : List (Int × List Int)} {k : Nat} {S : List Value} (h : Pt w l k S) : (S.toArray.all (·.oneCell')) = true := by
  rw [Array.all_eq_true_iff_forall_mem]
  intro v hv
  obtain ⟨i, hi, rfl⟩ := List.getElem_of_mem (show v ∈ S by simpa using hv)
  obtain ⟨a, m, c, h1, _⟩ := h.row i (by have := h.len; omega)
  rw [List.getElem?_eq_getElem hi] at h1
  rw [Option.some.inj h1]
  rfl
theorem Pt.size {w : World} {l : List (Int × List Int)} {k : Nat} {S : List Value} (h : Pt w l k S) : S.toArray.size = 10 := by simpa using h.len
/-- What byParty answers. -/
def Byp (l : List (Int × List Int)) (n : Nat) (w : World) (e : Ending) (w' : World) : Prop :=
  ((∃ S, Pt w' l n S ∧ e = .returned (.tuple #[.agg S.toArray, .bool true])) ∨ (¬ Rwk l n ∧ e = .returned (.tuple #[.agg nil10.toArray, .bool false]))) ∧ Below w.heap.size w w'
end
end Go.Proofs.Ytljlioglpaogdae
