/- What the calls of package twine answer. · What the calls of package hide answer. · hide.different. · The five numbers that hide.zeros reckons, and the pairs of powers that hide.places tells: plain facts. · (*twine.square).row. · hide.places. -/
import Derived.Test.YtljlioglpaogdadToOcC
import Derived.Test.YtljlioglpaogdadToSomeC
import Derived.Test.YtljlioglpaogdadToPolyM3
import Derived.Test.YtljlioglpaogdadDecodeM
import Derived.Test.YtljlioglpaogdadFitC
import Derived.Test.YtljlioglpaogdadToLstC
import Derived.Test.YtljlioglpaogdadToTEqC
import Derived.Test.YtljlioglpaogdadToRefProdC
import Derived.Test.YtljlioglpaogdadProg
import Derived.WalkKit
import Derived.WalkSpells
import Derived.WalkLawsBesides
import Derived.Deep.AppendLies
import Derived.Deep.RegionLaw
import Derived.Test.YtljlioglpaogdadToHidM
import Derived.Test.YtljlioglpaogdadToOpenC
import Derived.Laws.Rows
import Derived.Laws.Tables
namespace Go.Proofs.Ytljlioglpaogdad
set_option linter.unusedVariables false
set_option maxRecDepth 100000
set_option maxHeartbeats 8000000
section
open Crm Go.RowKit
/-- How many numbers there are besides the secret. -/
def need2 (t : Nat) : Nat := (t + 1) * (t + 2) / 2 - 1
/-- What is wrong with what Shift is handed. -/
def Hse (who : List Int) (k q : Nat) (r : Int) : Prop := (¬ dis (fi who) k ∧ r = 5) ∨ (dis (fi who) k ∧ ((¬ (q ≤ 4 ∧ k ≤ q) ∧ r = 1) ∨ ((q ≤ 4 ∧ k ≤ q) ∧ r = 0)))
theorem Hse.one {who : List Int} {k q : Nat} {r s : Int} (h : Hse who k q r) (g : Hse who k q s) : r = s := by
  rcases h with ⟨h1, rfl⟩ | ⟨h1, ⟨h2, rfl⟩ | ⟨h2, rfl⟩⟩ <;> rcases g with ⟨k1, rfl⟩ | ⟨k1, ⟨k2, rfl⟩ | ⟨k2, rfl⟩⟩
  all_goals first
    | rfl
    | exact absurd k1 h1
    | exact absurd h1 k1
    | exact absurd k2 h2
    | exact absurd h2 k2
theorem Hse.ok {who : List Int} {k q : Nat} (h : Hse who k q 0) : dis (fi who) k ∧ q ≤ 4 ∧ k ≤ q := by
  rcases h with ⟨_, h⟩ | ⟨h1, ⟨_, h⟩ | ⟨h2, _⟩⟩
  · omega
  · omega
  · exact ⟨h1, h2.1, h2.2⟩
/-- What Shift answers. -/
def Hsh (who : List Int) (k : Nat) (a b : Int) (ds : List Int) (q : Nat) (w : World) (e : Ending) (w' : World) : Prop :=
  ((∃ r, r ≠ 0 ∧ Hse who k q r ∧ e = .returned (.tuple #[.slice none 0 0, .int .i64 r])) ∨
   (Hse who k q 0 ∧ ∃ v, e = .returned (.tuple #[v, .int .i64 0]) ∧ w'.ownsRow w.heap.size 23 1 v q ((shf who k a b ds q).map (Value.int .u64)))) ∧ Below w.heap.size w w'
/-- What is wrong with what Twine is handed. -/
def Hte (who : List Int) (k : Nat) (t : Int) (q : Nat) (r : Int) : Prop := (¬ dis (fi who) k ∧ r = 5) ∨ (dis (fi who) k ∧ ((¬ ((0 ≤ t ∧ t ≤ 4) ∧ (k : Int) ≤ t ∧ q = need2 t.toNat) ∧ r = 1) ∨ (((0 ≤ t ∧ t ≤ 4) ∧ (k : Int) ≤ t ∧ q = need2 t.toNat) ∧ r = 0)))
theorem Hte.one {who : List Int} {k q : Nat} {t r s : Int} (h : Hte who k t q r) (g : Hte who k t q s) : r = s := by
  rcases h with ⟨h1, rfl⟩ | ⟨h1, ⟨h2, rfl⟩ | ⟨h2, rfl⟩⟩ <;> rcases g with ⟨k1, rfl⟩ | ⟨k1, ⟨k2, rfl⟩ | ⟨k2, rfl⟩⟩
  all_goals first
    | rfl
    | exact absurd k1 h1
    | exact absurd h1 k1
    | exact absurd k2 h2
    | exact absurd h2 k2
theorem Hte.ok {who : List Int} {k q : Nat} {t : Int} (h : Hte who k t q 0) : dis (fi who) k ∧ (0 ≤ t ∧ t ≤ 4) ∧ (k : Int) ≤ t ∧ q = need2 t.toNat := by
  rcases h with ⟨_, h⟩ | ⟨h1, ⟨_, h⟩ | ⟨h2, _⟩⟩
  · omega
  · omega
  · exact ⟨h1, h2⟩
/-- What Twine answers. -/
def Htw (who : List Int) (k : Nat) (t : Int) (a b : Int) (ds : List Int) (q : Nat) (w : World) (e : Ending) (w' : World) : Prop :=
  ((∃ r, r ≠ 0 ∧ Hte who k t q r ∧ e = .returned (.tuple #[.slice none 0 0, .int .i64 r])) ∨
   (Hte who k t q 0 ∧ ∃ v, e = .returned (.tuple #[v, .int .i64 0]) ∧ w'.ownsRow w.heap.size 23 1 v q ((twl who k a b ds t.toNat q).map (Value.int .u64)))) ∧ Below w.heap.size w w'
/-- What is told. -/
def wls (who : List Int) (k : Nat) (a b : Int) (ds : List Int) (q : Nat) (r : Int) : List Int := if r = 0 then shf who k a b ds q else []
def wlt (who : List Int) (k : Nat) (t : Int) (a b : Int) (ds : List Int) (q : Nat) (r : Int) : List Int := if r = 0 then twl who k a b ds t.toNat q else []
theorem Hsh.rd {who : List Int} {k q : Nat} {a b r : Int} {ds : List Int} {w w' : World} {e : Ending} (h : Hsh who k a b ds q w e w') (hr : Hse who k q r) : ∃ a' c', e = .returned (.tuple #[.slice a' (wls who k a b ds q r).length c', .int .i64 r]) ∧ Rd w' a' (wls who k a b ds q r).length c' (wls who k a b ds q r) := by
  rcases h.1 with ⟨s, h1, h2, rfl⟩ | ⟨h1, v, rfl, ho⟩
  · obtain rfl := h2.one hr
    unfold wls
    rw [if_neg h1]
    exact ⟨none, 0, rfl, nil_rd _⟩
  · obtain rfl : 0 = r := h1.one hr
    unfold wls
    rw [if_pos rfl, shf_len]
    obtain ⟨a', c', rfl, hr', _⟩ := Rd.own ho (bd_u64 (shf_bd _ _ _ _ _ _))
    exact ⟨a', c', rfl, hr'⟩
theorem Htw.rd {who : List Int} {k q : Nat} {t a b r : Int} {ds : List Int} {w w' : World} {e : Ending} (h : Htw who k t a b ds q w e w') (hr : Hte who k t q r) : ∃ a' c', e = .returned (.tuple #[.slice a' (wlt who k t a b ds q r).length c', .int .i64 r]) ∧ Rd w' a' (wlt who k t a b ds q r).length c' (wlt who k t a b ds q r) := by
  rcases h.1 with ⟨s, h1, h2, rfl⟩ | ⟨h1, v, rfl, ho⟩
  · obtain rfl := h2.one hr
    unfold wlt
    rw [if_neg h1]
    exact ⟨none, 0, rfl, nil_rd _⟩
  · obtain rfl : 0 = r := h1.one hr
    unfold wlt
    rw [if_pos rfl, twl_len]
    obtain ⟨a', c', rfl, hr', _⟩ := Rd.own ho (bd_u64 (twl_bd _ _ _ _ _ _ _))
    exact ⟨a', c', rfl, hr'⟩
theorem Hsh.told {who : List Int} {k q : Nat} {a b : Int} {ds : List Int} {w w' : World} {e : Ending} (h : Hsh who k a b ds q w e w') (hr : Hse who k q 0) : ∃ a' c', e = .returned (.tuple #[.slice a' q c', .int .i64 0]) ∧ Rd w' a' q c' (shf who k a b ds q) := by
  obtain ⟨a', c', e1, h1⟩ := h.rd hr
  have e2 : wls who k a b ds q 0 = shf who k a b ds q := if_pos rfl
  rw [e2, shf_len] at e1 h1
  exact ⟨a', c', e1, h1⟩
theorem Htw.told {who : List Int} {k q : Nat} {t a b : Int} {ds : List Int} {w w' : World} {e : Ending} (h : Htw who k t a b ds q w e w') (hr : Hte who k t q 0) : ∃ a' c', e = .returned (.tuple #[.slice a' q c', .int .i64 0]) ∧ Rd w' a' q c' (twl who k a b ds t.toNat q) := by
  obtain ⟨a', c', e1, h1⟩ := h.rd hr
  have e2 : wlt who k t a b ds q 0 = twl who k a b ds t.toNat q := if_pos rfl
  rw [e2, twl_len] at e1 h1
  exact ⟨a', c', e1, h1⟩
theorem dis_nz {who : List Int} {k : Nat} (h : dis (fi who) k) : ∀ j, j < k → nm (who.getD j 0) ≠ 0 := fun j hj => by
  have := (h j hj).1
  unfold fi at this
  rw [nm_small (by omega) (by omega)]
  omega
/-- Row g holds the marks M. -/
def BlkT (w : World) (g : Nat) (M : List Bool) : Prop := w.heap[g]? = some (.cells (M.map Value.bool).toArray 79 (0, 0))
theorem BlkT.lt {w : World} {g : Nat} {M : List Bool} (h : BlkT w g M) : g < w.heap.size := (Array.getElem?_eq_some_iff.1 h).1
theorem BlkT.cell {w : World} {g : Nat} {M : List Bool} (h : BlkT w g M) {i : Nat} (hi : i < M.length) : w.cell? ⟨g, i, none⟩ = some (.bool (M.getD i false)) := by
  rw [cell_of_row w g i _ _ (0, 0) h]
  simp [List.getElem?_eq_getElem hi]
theorem BlkT.frozen {w : World} {g : Nat} {M : List Bool} (h : BlkT w g M) (i : Nat) : w.frozen? ⟨g, i, none⟩ = false := frozen_of_row w g i _ _ h
theorem BlkT.set {w : World} {g : Nat} {M : List Bool} (h : BlkT w g M) (i : Nat) (v : Bool) : BlkT (w.setCell ⟨g, i, none⟩ (.bool v)) g (M.set i v) := by
  have := heap_setCell_same w g i _ _ (.bool v) h
  unfold BlkT
  rw [this]
  simp [List.map_set]

theorem hDifferent (a : Option Addr) (n c : Nat) (ts : List Int) (w : World) (h : RdI w a n c ts) :
    Calls Try.prog 57 #[.slice a n c] w fun e w' => Tells (dis (fi ts) n) w e w' := by
  have hcap := h.cap
  have hmax := h.max
  unfold maxLen at hmax
  go_enter Try.func57, Try.ntmps57
  go_wp2
  go_loopw [8] (fun i wr => ∃ (k : Nat) (M : List Bool), k ≤ n ∧ i = .int .i64 k ∧ Hid (Mk (fi ts) k M) ∧ BlkT wr w.heap.size M ∧ Below w.heap.size w wr) (fun i _ => n - (intOf i).toNat)
  case atStart => exact ⟨0, _, Nat.zero_le _, rfl, mk_start _, heap_alloc_new w _, (Below.refl _ _).alloc (Nat.le_refl _) _⟩
  case round =>
    obtain ⟨k, M, hk, rfl, HM, hB, hbel⟩ := hrel
    have hlM := HM.out.len
    have hltB := hB.lt
    by_cases hlt : k < n
    · obtain ⟨b, o, x, rfl, hbb, HX, hx0, hx1, hcx⟩ := (h.below hbel).one hlt
      by_cases hx2 : x < 1
      · have HN : Hid (¬ dis (fi ts) n) := mk_out hlt HX.out (.inl hx2)
        go_wp2
        go_ret
        exact .no HN.out hbel
      · by_cases hx9 : 9 < x
        · have HN : Hid (¬ dis (fi ts) n) := mk_out hlt HX.out (.inr hx9)
          go_wp2
          go_ret
          exact .no HN.out hbel
        · obtain ⟨p, rfl⟩ : ∃ p : Nat, x = p := ⟨x.toNat, by omega⟩
          have hcp := hB.cell (i := p) (by omega)
          cases hm : M.getD p false with
          | true =>
            have HN : Hid (¬ dis (fi ts) n) := mk_twice HM.out hlt HX.out (by omega) (by omega) hm
            rw [hm] at hcp
            clear hm
            go_wp2
            go_ret
            exact .no HN.out hbel
          | false =>
            have HM2 : Hid (Mk (fi ts) (k + 1) (M.set p true)) := mk_step HM.out HX.out (by omega) (by omega) hm
            rw [hm] at hcp
            have hfz := hB.frozen p
            have hB3 := hB.set p true
            have hbel3 := below_grown hbel (grown_set wr w.heap.size p (.bool true)) (Nat.le_refl _)
            clear hm hB hbel
            go_wp2
            go_roundw
            case rel => exact ⟨k + 1, _, by omega, by go_num, HM2, hB3, hbel3⟩
            case measure => simp [intOf]; omega
    · have hkn : k = n := by omega
      subst hkn
      have HD : Hid (dis (fi ts) k) := HM.out.dis
      go_wp2
      go_ret
      exact .yes HD.out hbel
end
section
open Crm
theorem pc_two (p : List Int) (u v : Int) (i : Nat) : pc p [u, v] (i + 1) p.length = p.getD i 0 * v + p.getD (i + 1) 0 * u := by
  rw [← pc_ge p [u, v] (i + 1) (i + 2), show p.length + (i + 2) = i + 1 + 1 + p.length by omega, pc_more, pc, pc, pc_far _ _ _ _ (by simp), tm, tm, if_pos (by omega), if_pos (by omega), show i + 1 - i = 1 by omega, Nat.sub_self, Int.zero_add]
  rfl
/-- One party more: each number, less the one below it by that party. -/
theorem bl_step (who : List Int) (k i : Nat) : (bl who (k + 1)).getD (i + 1) 0 = nm ((bl who k).getD (i + 1) 0 - nm ((bl who k).getD i 0 * iv (who.getD k 0))) := by
  rw [bl, cvl_getD, pc_two, Int.mul_one, nm_subr, ← nm_addl, nm_mulr, nm_addl, Int.mul_neg]
  congr 1
  omega
/-- The numbers above i are reckoned with one party more. -/
def zm (who : List Int) (k i : Nat) : List Int := (List.range 5).map fun j => if i < j then (bl who (k + 1)).getD j 0 else (bl who k).getD j 0
def zr (who : List Int) (k : Nat) : List Int := (List.range 5).map fun j => (bl who k).getD j 0
theorem zm_len (who : List Int) (k i : Nat) : (zm who k i).length = 5 := by simp [zm]
theorem zr_len (who : List Int) (k : Nat) : (zr who k).length = 5 := by simp [zr]
theorem zr_getD (who : List Int) (k : Nat) {j : Nat} (h : j < 5) : (zr who k).getD j 0 = (bl who k).getD j 0 := by simp [zr, h]
theorem zm_getD (who : List Int) (k i : Nat) {j : Nat} (h : j < 5) : (zm who k i).getD j 0 = if i < j then (bl who (k + 1)).getD j 0 else (bl who k).getD j 0 := by simp [zm, h]
theorem zm_start (who : List Int) (k : Nat) : zm who k 4 = zr who k := by
  unfold zm zr
  refine List.map_congr_left fun j hj => ?_
  have := List.mem_range.1 hj
  rw [if_neg (by omega)]
theorem zm_end (who : List Int) (k : Nat) : zm who k 0 = zr who (k + 1) := by
  unfold zm zr
  refine List.map_congr_left fun j hj => ?_
  by_cases h : 0 < j
  · rw [if_pos h]
  · obtain rfl : j = 0 := by omega
    rw [if_neg h, bl_first, bl_first]
theorem zm_bd (who : List Int) (k i : Nat) : ∀ x ∈ zm who k i, 0 ≤ x ∧ x ≤ 2147483646 := fun x hx => by
  obtain ⟨j, _, rfl⟩ := List.mem_map.1 hx
  split
  · exact getD_bd' (bl_bd who (k + 1)) j
  · exact getD_bd' (bl_bd who k) j
theorem zm_step (who : List Int) (k : Nat) {i : Nat} (h : i < 4) : (zm who k (i + 1)).set (i + 1) (nm ((zm who k (i + 1)).getD (i + 1) 0 - nm ((zm who k (i + 1)).getD i 0 * iv (who.getD k 0)))) = zm who k i := by
  rw [zm_getD _ _ _ (by omega), zm_getD _ _ _ (by omega), if_neg (by omega), if_neg (by omega), ← bl_step]
  apply List.ext_getElem?
  intro j
  rw [List.getElem?_set]
  by_cases hj : j < 5
  · by_cases e : i + 1 = j
    · subst e
      rw [if_pos rfl, if_pos (by rw [zm_len]; omega)]
      simp [zm, hj]
    · have : (i + 1 < j) = (i < j) := by apply propext; omega
      simp [zm, hj, e, this]
  · by_cases e : i + 1 = j
    · omega
    · simp [zm, hj, e]
end
section
open Crm Go.RowKit
/-- A row of the call's own, all of it. -/
theorem Blk.own {w : World} {g n B : Nat} {L : List Int} (h : Blk w g L) (hl : L.length = n) (hB : B ≤ g) (hn : n ≤ 1000) : w.ownsRow B 23 1 (.slice (some ⟨g, 0, none⟩) n n) n (L.map (Value.int .u64)) :=
  ⟨by simp [hl], .inr ⟨g, n, _, rfl, hB, h, Nat.le_refl _, by unfold maxLen; omega, by simp [hl], by rw [List.take_of_length_le (by simp [hl])]⟩⟩
theorem RdP.grown {w w' : World} {a : Option Addr} {n c : Nat} {l : List (Int × Int)} {r : Option Nat} (h : RdP w a n c l) (hg : w.grownBy w' r) (hne : ∀ x, a = some x → some x.block ≠ r) : RdP w' a n c l := by
  refine ⟨h.len, h.cap, h.max, h.nil, fun x hx i hi => ?_⟩
  have hb : ∀ k, (x.add k).block = x.block := fun k => by unfold Addr.add; split <;> rfl
  have := h.cell x hx i hi
  exact ⟨hg.cell this.1 (by rw [hb]; exact hne x hx), hg.cell this.2 (by rw [hb]; exact hne x hx)⟩
end
end Go.Proofs.Ytljlioglpaogdad
