/- The five numbers that hide.zeros reckons, and the pairs of powers that hide.places tells: plain facts. · The square of numbers of a dealing in two variables: plain facts, and its block. · twine.Need, value, allHave. · (*twine.square).row. · hide.places. · croftref.Played: what each party has seen so far, and the wires' numbers: memory. · What the calls of package gate answer. · croftkeep.dealt; shares that are written. · Rows by party: the table that package twine makes of rows. -/
import Derived.Test.YtljlioglpaogdagDoorToEnDef
import Derived.Test.YtljlioglpaogdagDoorToWireC
import Derived.Test.YtljlioglpaogdagDoorToSomeC
import Derived.Laws.Rows
import Derived.Laws.Tables
import Derived.Test.YtljlioglpaogdagDoorToOpenC
import Derived.Test.YtljlioglpaogdagDoorToCheckC
import Derived.Test.YtljlioglpaogdagDoorToLsV2
import Derived.Test.YtljlioglpaogdagDoorToTopC
namespace Go.Proofs.YtljlioglpaogdagDoor
set_option linter.unusedVariables false
set_option maxRecDepth 100000
set_option maxHeartbeats 8000000
section
open Crm
theorem pc_two (p : List Int) (u v : Int) (i : Nat) : pc p [u, v] (i + 1) p.length = p.getD i 0 * v + p.getD (i + 1) 0 * u := by
  rw [← pc_ge p [u, v] (i + 1) (i + 2), show p.length + (i + 2) = i + 1 + 1 + p.length by omega, pc_more, pc, pc, pc_far _ _ _ _ (by simp), tm, tm, if_pos (by omega), if_pos (by omega), show i + 1 - i = 1 by omega, Nat.sub_self, Int.zero_add]
  rfl
/-- One party more: each number, less the one below it by that party. -/
theorem bl_step (who : List Int) (k i : Nat) : (bl who (k + 1)).getD (i + 1) 0 = nm ((bl who k).getD (i + 1) 0 - nm ((bl who k).getD i 0 * iv (who.getD k 0))) := by
  rw [bl, cvl_getD, pc_two, Int.mul_one, nm_subr, ← nm_addl, nm_mulr, nm_addl, Int.mul_neg]
  congr 1
  omega
/-- The numbers above i are reckoned with one party more. -/
def zm (who : List Int) (k i : Nat) : List Int := (List.range 5).map fun j => if i < j then (bl who (k + 1)).getD j 0 else (bl who k).getD j 0
def zr (who : List Int) (k : Nat) : List Int := (List.range 5).map fun j => (bl who k).getD j 0
theorem zm_len (who : List Int) (k i : Nat) : (zm who k i).length = 5 := by simp [zm]
theorem zr_len (who : List Int) (k : Nat) : (zr who k).length = 5 := by simp [zr]
theorem zr_getD (who : List Int) (k : Nat) {j : Nat} (h : j < 5) : (zr who k).getD j 0 = (bl who k).getD j 0 := by simp [zr, h]
theorem zm_getD (who : List Int) (k i : Nat) {j : Nat} (h : j < 5) : (zm who k i).getD j 0 = if i < j then (bl who (k + 1)).getD j 0 else (bl who k).getD j 0 := by simp [zm, h]
theorem zm_start (who : List Int) (k : Nat) : zm who k 4 = zr who k := by
  unfold zm zr
  refine List.map_congr_left fun j hj => ?_
  have := List.mem_range.1 hj
  rw [if_neg (by omega)]
theorem zm_end (who : List Int) (k : Nat) : zm who k 0 = zr who (k + 1) := by
  unfold zm zr
  refine List.map_congr_left fun j hj => ?_
  by_cases h : 0 < j
  · rw [if_pos h]
  · obtain rfl : j = 0 := by omega
    rw [if_neg h, bl_first, bl_first]
theorem zm_bd (who : List Int) (k i : Nat) : ∀ x ∈ zm who k i, 0 ≤ x ∧ x ≤ 2147483646 := fun x hx => by
  obtain ⟨j, _, rfl⟩ := List.mem_map.1 hx
  split
  · exact getD_bd' (bl_bd who (k + 1)) j
  · exact getD_bd' (bl_bd who k) j
theorem zm_step (who : List Int) (k : Nat) {i : Nat} (h : i < 4) : (zm who k (i + 1)).set (i + 1) (nm ((zm who k (i + 1)).getD (i + 1) 0 - nm ((zm who k (i + 1)).getD i 0 * iv (who.getD k 0)))) = zm who k i := by
  rw [zm_getD _ _ _ (by omega), zm_getD _ _ _ (by omega), if_neg (by omega), if_neg (by omega), ← bl_step]
  apply List.ext_getElem?
  intro j
  rw [List.getElem?_set]
  by_cases hj : j < 5
  · by_cases e : i + 1 = j
    · subst e
      rw [if_pos rfl, if_pos (by rw [zm_len]; omega)]
      simp [zm, hj]
    · have : (i + 1 < j) = (i < j) := by apply propext; omega
      simp [zm, hj, e, this]
  · by_cases e : i + 1 = j
    · omega
    · simp [zm, hj, e]

/-- All pairs of powers, in order, as ints. -/
def fpl (t : Nat) : List (Int × Int) := (0, 0) :: (hpl t).map fun x => ((x.1 : Int), (x.2 : Int))
/-- The place of the pair i, j among all. -/
def pf (t i j : Nat) : Nat := (nd2 (t : Nat) i + ((j : Int) - i) + 1).toNat
theorem fpl_len {t : Nat} (h : t ≤ 4) : (fpl t).length = need2 t + 1 := by
  unfold fpl need2
  rw [List.length_cons, List.length_map, hpl_len t (by omega)]
theorem pf_zero (t : Nat) : pf t 0 0 = 0 := rfl
theorem pf_pp {t i j : Nat} (ht : t ≤ 4) (hij : i ≤ j) (hj : j ≤ t) (h0 : 0 < i + j) : pf t i j = pp t i j + 1 := by
  have h := (hpl_at t (by omega) j (by omega) i hij hj h0).2
  unfold pf pp
  omega
theorem pf_step {t i j : Nat} (ht : t ≤ 4) (hij : i ≤ j) (hj : j ≤ t) : pf t i (j + 1) = pf t i j + 1 := by
  by_cases h0 : 0 < i + j
  · have h := (hpl_at t (by omega) j (by omega) i hij hj h0).2
    unfold pf
    omega
  · obtain rfl : i = 0 := by omega
    obtain rfl : j = 0 := by omega
    rfl
theorem pf_row (t i : Nat) : pf t i (t + 1) = pf t (i + 1) (i + 1) := by
  unfold pf
  rw [nd2]
  omega
theorem pf_end {t : Nat} (ht : t ≤ 4) : pf t (t + 1) (t + 1) = need2 t + 1 := by
  have hcase : t = 0 ∨ t = 1 ∨ t = 2 ∨ t = 3 ∨ t = 4 := by omega
  rcases hcase with rfl | rfl | rfl | rfl | rfl <;> decide
theorem pf_lt {t i j : Nat} (ht : t ≤ 4) (hij : i ≤ j) (hj : j ≤ t) : pf t i j < need2 t + 1 := by
  by_cases h0 : 0 < i + j
  · have := pp_lt ht hij hj h0
    rw [pf_pp ht hij hj h0]
    omega
  · obtain rfl : i = 0 := by omega
    obtain rfl : j = 0 := by omega
    rw [pf_zero]
    omega
theorem fpl_at {t i j : Nat} (ht : t ≤ 4) (hij : i ≤ j) (hj : j ≤ t) : (fpl t)[pf t i j]? = some ((i : Int), (j : Int)) := by
  by_cases h0 : 0 < i + j
  · have h := (hpl_at t (by omega) j (by omega) i hij hj h0).1
    have hl := pp_lt ht hij hj h0
    have e : (hpl t).getD (pp t i j) (0, 0) = (i, j) := h
    have hlen := hpl_len t (by omega)
    unfold need2 at hl
    rw [pf_pp ht hij hj h0, fpl, List.getElem?_cons_succ, List.getElem?_map]
    rw [List.getD_eq_getElem?_getD, List.getElem?_eq_getElem (by omega), Option.getD_some] at e
    rw [List.getElem?_eq_getElem (by omega), e]
    rfl
  · obtain rfl : i = 0 := by omega
    obtain rfl : j = 0 := by omega
    rfl
/-- The pairs ahead of i, j. -/
def fpt (t p : Nat) : List (Int × Int) := (fpl t).take p
theorem fpt_step {t i j : Nat} (ht : t ≤ 4) (hij : i ≤ j) (hj : j ≤ t) : fpt t (pf t i j) ++ [((i : Int), (j : Int))] = fpt t (pf t i j + 1) := by
  unfold fpt
  rw [List.take_add_one, fpl_at ht hij hj]
  rfl
theorem fpt_full {t : Nat} (ht : t ≤ 4) : fpt t (need2 t + 1) = fpl t := by
  unfold fpt
  rw [List.take_of_length_le (by rw [fpl_len ht]; omega)]
/-- The pairs but the first. -/
def hpi (t : Nat) : List (Int × Int) := (hpl t).map fun x => ((x.1 : Int), (x.2 : Int))
theorem hpi_len {t : Nat} (h : t ≤ 4) : (hpi t).length = need2 t := by
  unfold hpi need2
  rw [List.length_map, hpl_len t (by omega)]
theorem hpi_at (t : Nat) {p : Nat} (h : p < (hpl t).length) : (hpi t).getD p (0, 0) = ((((hpl t).getD p (0, 0)).1 : Int), (((hpl t).getD p (0, 0)).2 : Int)) := by
  unfold hpi
  simp [h]
theorem hpl_bd : ∀ t, t < 5 → ∀ x ∈ hpl t, x.1 ≤ 4 ∧ x.2 ≤ 4 := by decide
theorem hpi_bd {t p : Nat} (ht : t ≤ 4) (h : p < need2 t) : ∃ i j : Nat, (hpl t).getD p (0, 0) = (i, j) ∧ (hpi t).getD p (0, 0) = ((i : Int), (j : Int)) ∧ i ≤ 4 ∧ j ≤ 4 := by
  have hl := hpl_len t (by omega)
  unfold need2 at h
  have hm : (hpl t).getD p (0, 0) ∈ hpl t := by
    rw [List.getD_eq_getElem?_getD, List.getElem?_eq_getElem (by omega), Option.getD_some]
    exact List.getElem_mem _
  have hb := hpl_bd t (by omega) _ hm
  exact ⟨((hpl t).getD p (0, 0)).1, ((hpl t).getD p (0, 0)).2, rfl, hpi_at t (by omega), hb.1, hb.2⟩
end
section
open Crm Go.RowKit
/-- Block g holds the square's numbers. -/
def BlkQ (w : World) (g : Nat) (C : List Int) : Prop := w.heap[g]? = some (.cells (C.map (Value.int .u64)).toArray 123 (0, 0))
theorem BlkQ.lt {w : World} {g : Nat} {C : List Int} (h : BlkQ w g C) : g < w.heap.size := (Array.getElem?_eq_some_iff.1 h).1
theorem BlkQ.cell {w : World} {g : Nat} {C : List Int} (h : BlkQ w g C) {i : Nat} (hi : i < C.length) : w.cell? ⟨g, i, none⟩ = some (.int .u64 (C.getD i 0)) := by
  rw [cell_of_row w g i _ _ (0, 0) h]
  simp [List.getElem?_eq_getElem hi]
theorem BlkQ.frozen {w : World} {g : Nat} {C : List Int} (h : BlkQ w g C) (i : Nat) : w.frozen? ⟨g, i, none⟩ = false := frozen_of_row w g i _ _ h
theorem BlkQ.set {w : World} {g : Nat} {C : List Int} (h : BlkQ w g C) (i : Nat) (v : Int) : BlkQ (w.setCell ⟨g, i, none⟩ (.int .u64 v)) g (C.set i v) := by
  have := heap_setCell_same w g i _ _ (.int .u64 v) h
  unfold BlkQ
  rw [this]
  simp [List.map_set]
theorem BlkQ.below {w w' : World} {B g : Nat} {C : List Int} (h : BlkQ w g C) (hb : Below B w w') (hg : g < B) : BlkQ w' g C := by
  unfold BlkQ; rw [hb.block g hg]; exact h
theorem BlkQ.other {w : World} {g g' i : Nat} {C : List Int} {v : Value} (h : BlkQ w g C) (hg : g' ≠ g) : BlkQ (w.setCell ⟨g', i, none⟩ v) g C := by
  unfold BlkQ; rw [heap_setCell_other w ⟨g', i, none⟩ g v (fun e => hg e.symm)]; exact h
/-- A part of a row of it. -/
theorem BlkQ.rd {w : World} {g : Nat} {C : List Int} (h : BlkQ w g C) (o n c : Nat) (hc : n ≤ c) (hm : c ≤ maxLen) (hn : o + n ≤ C.length) (hL : ∀ x ∈ C, 0 ≤ x ∧ x ≤ 18446744073709551615) : Rd w (some ⟨g, o, none⟩) n c ((C.drop o).take n) := by
  refine ⟨by simp; omega, hc, hm, fun x hx => hL x (List.mem_of_mem_drop (List.mem_of_mem_take hx)), by simp, fun x hx i hi => ?_⟩
  obtain rfl := Option.some.inj hx
  rw [Addr.add_lit, h.cell (by omega)]
  congr 2
  simp [hi]

theorem dn_cons {s z : Int} {ds : List Int} {q : Nat} (h : (q : Int) = z + 1) : (s :: ds).getD q 0 = dn s ds z := by
  unfold dn
  cases q with
  | zero => rw [if_pos (by omega)]; rfl
  | succ q => rw [if_neg (by omega), cons_getDs]; congr 1; omega
/-- The numbers ahead of (i, j) are laid. -/
structure Sqr (s : Int) (ds : List Int) (t i j : Nat) (C : List Int) : Prop where
  len : C.length = 25
  bd : ∀ x ∈ C, 0 ≤ x ∧ x ≤ 18446744073709551615
  val : ∀ a b : Nat, a ≤ b → b ≤ t → (a < i ∨ (a = i ∧ b < j)) → C.getD (a * 5 + b) 0 = dn s ds (nd2 t a + ((b : Int) - a)) ∧ C.getD (b * 5 + a) 0 = dn s ds (nd2 t a + ((b : Int) - a))
theorem sqr_start (s : Int) (ds : List Int) (t : Nat) : Sqr s ds t 0 0 (List.replicate 25 0) :=
  ⟨by simp, fun x hx => by rw [List.eq_of_mem_replicate hx]; omega, fun a b _ _ h => by omega⟩
theorem sqr_step {s v : Int} {ds C : List Int} {t i j : Nat} (h : Sqr s ds t i j C) (ht : t ≤ 4) (hij : i ≤ j) (hj : j ≤ t) (hv : v = dn s ds (nd2 t i + ((j : Int) - i))) (hv0 : 0 ≤ v) (hv1 : v ≤ 18446744073709551615) : Sqr s ds t i (j + 1) ((C.set (i * 5 + j) v).set (j * 5 + i) v) := by
  have hl := h.len
  refine ⟨by simp [hl], bd_set (bd_set h.bd _ ⟨hv0, hv1⟩) _ ⟨hv0, hv1⟩, fun a b hab hb hd => ?_⟩
  by_cases e : a = i ∧ b = j
  · obtain ⟨rfl, rfl⟩ := e
    rw [getD_set, getD_set, getD_set, getD_set, ← hv]
    rw [List.length_set, hl]
    refine ⟨?_, ?_⟩
    · by_cases e : b * 5 + a = a * 5 + b
      · rw [if_pos ⟨e, by omega⟩]
      · rw [if_neg (fun h => e h.1), if_pos ⟨rfl, by omega⟩]
    · rw [if_pos ⟨rfl, by omega⟩]
  · have := h.val a b hab hb (by omega)
    rw [getD_set, getD_set, getD_set, getD_set]
    rw [if_neg (fun h => by omega), if_neg (fun h => by omega), if_neg (fun h => by omega), if_neg (fun h => by omega)]
    exact this
theorem sqr_row {s : Int} {ds C : List Int} {t i j : Nat} (h : Sqr s ds t i j C) (hj : t < j) : Sqr s ds t (i + 1) (i + 1) C :=
  ⟨h.len, h.bd, fun a b hab hb hd => h.val a b hab hb (by omega)⟩
theorem sqr_end {s : Int} {ds C : List Int} {t i j a b : Nat} (h : Sqr s ds t i j C) (hi : t < i) (ha : a ≤ t) (hb : b ≤ t) : nm (C.getD (a * 5 + b) 0) = A2 s ds t a b := by
  unfold A2
  by_cases e : a ≤ b
  · rw [if_pos e, (h.val a b e hb (by omega)).1]
  · rw [if_neg e, (h.val b a (by omega) ha (by omega)).2]
/-- Row j of it tells the row's number j. -/
theorem sqr_ev {s : Int} {ds C : List Int} {t i j k : Nat} (h : Sqr s ds t i j C) (hi : t < i) (hk : k ≤ t) (x : Int) : nm (ev ((C.drop (k * 5)).take (t + 1)) x) = nm (ev (colA s ds t k) x) := by
  refine ev_congr _ _ _ fun q => ?_
  by_cases hq : q ≤ t
  · rw [colA_getD s ds t k hq, take_getD, if_pos (by omega), A2_sym, ← sqr_end h hi hk hq, nm_nm]
    congr 1
    simp
  · rw [getD_big (show (colA s ds t k).length ≤ q by rw [colA_len]; omega), take_getD, if_neg (by omega)]
/-- What is left of a list when its first number is taken. -/
theorem Rd.tail {w : World} {b o n c : Nat} {xs : List Int} {a : Option Addr} (h : Rd w (some ⟨b, o, none⟩) (n + 1) (c + 1) xs) (ha : (0 < n → a = some ⟨b, o + 1, none⟩) ∧ a ≠ none) : Rd w a n c (xs.drop 1) := by
  have h1 := h.cap
  have h2 := h.max
  refine ⟨by have := h.len; simp; omega, by omega, by omega, fun x hx => h.bd x (List.mem_of_mem_drop hx), fun e => absurd e ha.2, fun x hx i hi => ?_⟩
  rw [ha.1 (by omega)] at hx
  obtain rfl := Option.some.inj hx
  have := h.cell _ rfl (i + 1) (by omega)
  rw [Addr.add_lit] at this ⊢
  rw [show o + 1 + i = o + (i + 1) by omega, this]
  congr 2
  simp
theorem cTwNeed (t : Int) (w : World) : Calls Tryd.prog 40 #[.int .i64 t] w fun e w' => Nds t w e w' := by
  by_cases h1 : t < 0
  · have HT : Hid (t < 0 ∨ 4 < t) := .inl h1
    go_enter Tryd.func40, Tryd.ntmps40
    go_wp2
    go_ret2
    exact ⟨.inl ⟨HT.out, rfl⟩, Below.refl _ _⟩
  · by_cases h2 : 4 < t
    · have HT : Hid (t < 0 ∨ 4 < t) := .inr h2
      go_enter Tryd.func40, Tryd.ntmps40
      go_wp2
      go_ret2
      exact ⟨.inl ⟨HT.out, rfl⟩, Below.refl _ _⟩
    · have hk : t = 0 ∨ t = 1 ∨ t = 2 ∨ t = 3 ∨ t = 4 := by omega
      clear h1 h2
      rcases hk with rfl | rfl | rfl | rfl | rfl
      · go_enter Tryd.func40, Tryd.ntmps40
        go_wp2
        go_ret2
        exact ⟨.inr ⟨0, rfl, by omega, rfl⟩, Below.refl _ _⟩
      · go_enter Tryd.func40, Tryd.ntmps40
        go_wp2
        go_ret2
        exact ⟨.inr ⟨1, rfl, by omega, rfl⟩, Below.refl _ _⟩
      · go_enter Tryd.func40, Tryd.ntmps40
        go_wp2
        go_ret2
        exact ⟨.inr ⟨2, rfl, by omega, rfl⟩, Below.refl _ _⟩
      · go_enter Tryd.func40, Tryd.ntmps40
        go_wp2
        go_ret2
        exact ⟨.inr ⟨3, rfl, by omega, rfl⟩, Below.refl _ _⟩
      · go_enter Tryd.func40, Tryd.ntmps40
        go_wp2
        go_ret2
        exact ⟨.inr ⟨4, rfl, by omega, rfl⟩, Below.refl _ _⟩

theorem cTwValue (a : Option Addr) (n c : Nat) (xs : List Int) (x : Nat) (w : World) (h : Rd w a n c xs) (hn : n ≤ 40) (hx : x ≤ 100) :
    Calls Tryd.prog 100 #[.slice a n c, .int .i64 x] w fun e w' => e = .returned (.int .u64 (nm (ev xs x))) ∧ Below w.heap.size w w' := by
  go_enter Tryd.func100, Tryd.ntmps100
  go_wp2_with fail
  refine (cEvalOK _ _ _ _ _ _ h hn (by omega) (by omega)).mono ?_
  rintro e w1 ⟨rfl, hb1⟩
  go_wp2
  go_ret
  exact ⟨rfl, hb1⟩

theorem cAllHave (a : Option Addr) (n c : Nat) (l : List (Int × List Int)) (k : Nat) (w : World) (h : RdW w a n c l) :
    Calls Tryd.prog 77 #[.slice a n c, .int .i64 k] w fun e w' => Tells (∀ i, i < n → (tc l i).length = k) w e w' := by
  have hcap := h.cap
  have hmax := h.max
  unfold maxLen at hmax
  go_enter Tryd.func77, Tryd.ntmps77
  go_wp2
  go_loopw [9] (fun i wr => ∃ q : Nat, q ≤ n ∧ i = .int .i64 q ∧ Hid (∀ i, i < q → (tc l i).length = k) ∧ Below w.heap.size w wr) (fun i _ => n - (intOf i).toNat)
  case atStart => exact ⟨0, Nat.zero_le _, rfl, fun i hi => by omega, Below.refl _ _⟩
  case round =>
    obtain ⟨q, hq, rfl, HQ, hbel⟩ := hrel
    have hs1 := hbel.size
    by_cases hlt : q < n
    · obtain ⟨b, o, x, ai, ni, ci, row, rfl, hbb, HX, HRow, hx0, hx1, hcx, hcr, hrow⟩ := (h.below hbel).one hlt
      have hnl := hrow.len
      have hnc := hrow.cap
      have hnm := hrow.max
      unfold maxLen at hnm
      have HNL : Hid ((tc l q).length = ni) := by unfold Hid; rw [HRow.out]; exact hnl
      have hbA := hbel.alloc hs1 (.cells #[.int .i64 x, .slice ai ni ci] 80)
      have hcA1 := cell_alloc1 wr (.int .i64 x) (.slice ai ni ci) 80
      by_cases hni : ni = k
      · have hnb : ((ni : Int) != (k : Int)) = false := by rw [bne_eq_false_iff_eq]; omega
        have HQ2 : Hid (∀ i, i < q + 1 → (tc l i).length = k) := fun i hi => by
          by_cases e : i = q
          · rw [e, HNL.out]; exact hni
          · exact HQ.out i (by omega)
        clear hni
        go_wp2
        go_roundw
        case rel => exact ⟨q + 1, by omega, by go_num, HQ2, hbA⟩
        case measure => simp [intOf]; omega
      · have hnb : ((ni : Int) != (k : Int)) = true := by rw [bne_iff_ne]; omega
        have HN : Hid (¬ ∀ i, i < n → (tc l i).length = k) := fun hh => hni (by have := hh q hlt; rw [HNL.out] at this; exact this)
        clear hni
        go_wp2
        go_ret
        exact .no HN.out hbA
    · have hqn : q = n := by omega
      subst hqn
      go_wp2
      go_ret
      exact .yes HQ.out hbel
/-- A row of the call's own, all of it. -/
theorem Blk.own {w : World} {g n B : Nat} {L : List Int} (h : Blk w g L) (hl : L.length = n) (hB : B ≤ g) (hn : n ≤ 1000) : w.ownsRow B 34 1 (.slice (some ⟨g, 0, none⟩) n n) n (L.map (Value.int .u64)) :=
  ⟨by simp [hl], .inr ⟨g, n, _, rfl, hB, h, Nat.le_refl _, by unfold maxLen; omega, by simp [hl], by rw [List.take_of_length_le (by simp [hl])]⟩⟩

theorem cSqRow (g : Nat) (C : List Int) (s : Int) (ds : List Int) (t x : Nat) (w : World) (h : BlkQ w g C) (hS : Sqr s ds t (t + 1) (t + 1) C) (ht : t ≤ 4) (hx : x ≤ 9) :
    Calls Tryd.prog 74 #[.pointer (some ⟨g, 0, none⟩), .int .i64 t, .int .i64 x] w fun e w' => ∃ u, e = .returned (.slice (some ⟨u, 0, none⟩) (t + 1) (t + 1)) ∧ w'.ownsRow w.heap.size 34 1 (.slice (some ⟨u, 0, none⟩) (t + 1) (t + 1)) (t + 1) ((rowK s ds t x (t + 1)).map (Value.int .u64)) ∧ Below w.heap.size w w' := by
  obtain ⟨i0, hi, hz0, hz1, hz2⟩ := info_parts info34
  have HS : Hid (Sqr s ds t (t + 1) (t + 1) C) := hS
  have hglt := h.lt
  clear hS
  obtain ⟨T, HT⟩ : ∃ T, Hid (t + 1 = T) := ⟨_, rfl⟩
  obtain ⟨F, HF⟩ : ∃ F : Nat → Int, Hid ((fun j => nm (ev (colA s ds t j) x)) = F) := ⟨_, rfl⟩
  have HRK : Hid (rowK s ds t x (t + 1) = (List.range T).map F) := by unfold Hid rowK; rw [HT.out, HF.out]
  rw [HRK.out, HT.out]
  have hT5 : T ≤ 5 := by rw [← HT.out]; omega
  have HTi : Hid ((t : Int) + 1 = (T : Int)) := by unfold Hid; rw [← HT.out]; push_cast; rfl
  go_enter Tryd.func74, Tryd.ntmps74
  go_wp2_with (at_make; refine wpList_make_full _ rfl _ _ 22 rfl w.heap.size 34 i0 (.int .u64 0) 1 Tryd.underlying22 hi hz0 hz1 .i64 .i64 _ _ T rfl rfl HTi.out HTi.out (by rw [hz2]; omega) (by unfold maxLen; omega) (Nat.le_refl _) ?_; intro w2 hown hgrow)
  have hB2 : Blk w2 w.heap.size (fil F T 0) := by rw [← fil_zero]; exact Blk.made hown
  have hb2 : Below w.heap.size w w2 := (Below.refl _ _).grown hgrow (Nat.le_refl _) (by simp)
  clear hown hgrow
  go_loopw [14] (fun i wr => ∃ k : Nat, k ≤ T ∧ i = .int .i64 k ∧ Blk wr w.heap.size (fil F T k) ∧ Below w.heap.size w wr) (fun i _ => T - (intOf i).toNat)
  case atStart => exact ⟨0, Nat.zero_le _, rfl, hB2, hb2⟩
  case round =>
    clear hB2 hb2
    obtain ⟨k, hk, rfl, hblk, hbel⟩ := hrel
    by_cases hlt : k < T
    · have hq := h.below hbel hglt
      have hql := hq.lt
      have hl := HS.out.len
      have hrd := hq.rd (k * 5) T 5 hT5 (by unfold maxLen; omega) (by omega) HS.out.bd
      have HV : Hid (nm (ev ((C.drop (k * 5)).take T) x) = F k) := by unfold Hid; rw [← HT.out, sqr_ev HS.out (by omega) (by rw [← HT.out] at hlt; omega), ← HF.out]
      have hk5 : k < 5 := by omega
      have hal : Tryd.prog.arrayLen 102 = 5 := by simp [Program.arrayLen, Tryd.underlying102]
      have HTn : Hid (((t : Int) + 1).toNat = T) := by unfold Hid; rw [HTi.out]; rfl
      have hsl : ∀ W, (Instr.sliceAt 102 (.pointer (some ⟨g, k * 5, none⟩)) none (some (.int .i64 ((t : Int) + 1))) none).run Tryd.prog W = .ok (.slice (some ⟨g, k * 5, none⟩) T 5) W := fun W => by
        rw [run_sliceAt_array_h W 102 ⟨g, k * 5, none⟩ (by simp [Program.arrayLen, Program.elem, Tryd.underlying102]) .i64 ((t : Int) + 1) (by omega) (by rw [hal]; omega), HTn.out, hal, show Tryd.prog.elem 102 = 34 from by simp [Program.elem, Tryd.underlying102]]
        go_simp
      clear hal
      go_wp2_with fail
      refine (cTwValue _ _ _ _ _ _ hrd (by omega) (by omega)).mono ?_
      rintro e w3 ⟨rfl, hb3⟩
      rw [HV.out]
      have hblk3 := hblk.below hb3 hblk.lt
      have hcell := hblk3.cell (i := k) (by rw [fil_len]; exact hlt)
      have hfz := hblk3.frozen k
      have hlt3 := hblk3.lt
      have hblk4 := hblk3.set k (F k)
      rw [fil_set rfl] at hblk4
      have hbel3 := hbel.trans (hb3.mono hbel.size)
      have Hb4 : Hid (Below w.heap.size w (w3.setCell ⟨w.heap.size, k, none⟩ (.int .u64 (F k)))) := hbel3.setCell (Nat.le_refl _) _
      clear hbel hb3 hblk hblk3 hbel3 hrd
      go_wp2
      go_roundw
      case rel => exact ⟨k + 1, by omega, by go_num, hblk4, Hb4.out⟩
      case measure => simp [intOf]; omega
    · have hkn : k = T := by omega
      subst hkn
      rw [fil_full] at hblk
      have ho := hblk.own (n := k) (B := w.heap.size) (by simp) (Nat.le_refl _) (by omega)
      go_wp2
      go_ret
      exact ⟨_, rfl, ho, hbel⟩
/-- What is left of pairs when the first is taken. -/
theorem RdP.tail {w : World} {b o n c : Nat} {p : Int × Int} {l : List (Int × Int)} {a : Option Addr} (h : RdP w (some ⟨b, o, none⟩) (n + 1) (c + 1) (p :: l)) (ha : (0 < n → a = some ⟨b, o + 2, none⟩) ∧ a ≠ none) : RdP w a n c l := by
  have h1 := h.cap
  have h2 := h.max
  refine ⟨by have := h.len; simpa using this, by omega, by omega, fun e => absurd e ha.2, fun x hx i hi => ?_⟩
  rw [ha.1 (by omega)] at hx
  obtain rfl := Option.some.inj hx
  have := h.cell _ rfl (i + 1) (by omega)
  rw [Addr.add_lit, Addr.add_lit] at this ⊢
  rw [show o + 2 + i * 2 = o + (i + 1) * 2 by omega, show o + 2 + (i * 2 + 1) = o + ((i + 1) * 2 + 1) by omega]
  exact this

theorem RdP.grown {w w' : World} {a : Option Addr} {n c : Nat} {l : List (Int × Int)} {r : Option Nat} (h : RdP w a n c l) (hg : w.grownBy w' r) (hne : ∀ x, a = some x → some x.block ≠ r) : RdP w' a n c l := by
  refine ⟨h.len, h.cap, h.max, h.nil, fun x hx i hi => ?_⟩
  have hb : ∀ k, (x.add k).block = x.block := fun k => by unfold Addr.add; split <;> rfl
  have := h.cell x hx i hi
  exact ⟨hg.cell this.1 (by rw [hb]; exact hne x hx), hg.cell this.2 (by rw [hb]; exact hne x hx)⟩

theorem own_ge {w : World} {B g o n m c z : Nat} {E : TypeId} {xs : List Value} (h : w.ownsRow B E z (.slice (some ⟨g, o, none⟩) n c) m xs) : B ≤ g := by
  rcases h.2 with ⟨e, _⟩ | ⟨g', cap, cur, e, hb', _⟩
  · cases e
  · simp only [Value.slice.injEq, Option.some.injEq, Addr.mk.injEq] at e
    rw [e.1.1]
    exact hb'

theorem hPlaces (t : Nat) (w : World) (ht : t ≤ 4) :
    Calls Tryd.prog 80 #[.int .i64 t] w fun e w' => ∃ a c, e = .returned (.slice a (need2 t) c) ∧ RdP w' a (need2 t) c (hpi t) ∧ (∀ x, a = some x → w.heap.size ≤ x.block) ∧ Below w.heap.size w w' := by
  obtain ⟨M, HM⟩ : ∃ M, Hid (need2 t = M) := ⟨_, rfl⟩
  have hM : M ≤ 14 := by rw [← HM.out]; exact need2_bd ht
  rw [HM.out]
  go_enter Tryd.func80, Tryd.ntmps80
  go_wp2
  go_loopw [3, 8] (fun v i wr => ∃ k p : Nat, k ≤ t + 1 ∧ i = .int .i64 k ∧ Hid (pf t k k = p) ∧ p ≤ M + 1 ∧ wr.ownsRow w.heap.size 136 2 v p (ppc (fpt t p)) ∧ Below w.heap.size w wr) (fun _ i _ => t + 1 - (intOf i).toNat)
  case atStart => exact ⟨0, 0, Nat.zero_le _, rfl, rfl, Nat.zero_le _, World.ownsRow_nil _ _ _ _, Below.refl _ _⟩
  case round =>
    obtain ⟨k, p, hk, rfl, HP, hp, hown, hbel⟩ := hrel
    by_cases hkt : k < t + 1
    · have hkd : decide ((k : Int) < (t : Int) + 1) = true := decide_eq_true (by omega)
      obtain ⟨wo, hwo⟩ : ∃ q, q = wr := ⟨_, rfl⟩
      subst hwo
      go_wp2
      go_loopw [3, 5] (fun v i wr => ∃ j p : Nat, k ≤ j ∧ j ≤ t + 1 ∧ i = .int .i64 j ∧ Hid (pf t k j = p) ∧ p ≤ M + 1 ∧ wr.ownsRow w.heap.size 136 2 v p (ppc (fpt t p)) ∧ Below w.heap.size w wr) (fun _ i _ => t + 1 - (intOf i).toNat)
      case atStart => exact ⟨k, p, Nat.le_refl _, by omega, rfl, HP, hp, hown, hbel⟩
      case round =>
        clear HP hp hown hbel
        obtain ⟨j, p, hkj, hj, rfl, HP, hp, hown, hbel⟩ := hrel
        have hs := hbel.size
        by_cases hjt : j ≤ t
        · have hlt := pf_lt ht hkj hjt
          rw [HP.out, HM.out] at hlt
          have HP2 : Hid (pf t k (j + 1) = p + 1) := by unfold Hid; rw [pf_step ht hkj hjt, HP.out]
          have HF : Hid (fpt t p ++ [((k : Int), (j : Int))] = fpt t (p + 1)) := by unfold Hid; rw [← HP.out]; exact fpt_step ht hkj hjt
          have hjti : (j : Int) ≤ (t : Int) := by omega
          go_wp2_with (at_builtin; refine wpList_app2 Tryd.underlying132 infoPair rfl (by omega) _ rfl _ _ rfl w.heap.size _ _ _ rfl hown (.int .i64 k) (.int .i64 j) rfl rfl rfl (by omega) hs ?_; intro v7 w7 hown7 hgr7 _; rw [ppc_snoc, HF.out] at hown7; have hb7 := hbel.grown hgr7 hs (fun q hq => (hown.lt q hq).1); clear hgr7 hown hbel)
          go_roundw
          case rel => exact ⟨j + 1, p + 1, by omega, by omega, by go_num, HP2, by omega, hown7, hb7⟩
          case measure => simp [intOf]; omega
        · obtain rfl : j = t + 1 := by omega
          have HP2 : Hid (pf t (k + 1) (k + 1) = p) := by unfold Hid; rw [← pf_row]; exact HP.out
          have hjn : ¬ (((t + 1 : Nat) : Int) ≤ (t : Int)) := by omega
          go_wp2
          go_roundw
          case rel => exact ⟨k + 1, p, by omega, by go_num, HP2, hp, hown, hbel⟩
          case measure => simp [intOf]; omega
    · obtain rfl : k = t + 1 := by omega
      obtain rfl : p = M + 1 := by rw [← HP.out, pf_end ht, HM.out]
      have e1 : fpt t (M + 1) = (0, 0) :: hpi t := by rw [← HM.out]; exact fpt_full ht
      rw [e1] at hown
      obtain ⟨a, c, rfl, hr⟩ := RdP.own hown (by rw [List.length_cons, hpi_len ht, HM.out])
      have hc := hr.cap
      have hcm := hr.max
      unfold maxLen at hcm
      obtain ⟨cd, rfl⟩ : ∃ q, c = q + 1 := ⟨c - 1, by omega⟩
      obtain ⟨b, o, x, y, rfl, hbb, _, _, _⟩ := hr.one (show 0 < M + 1 by omega)
      have hob2 := own_ge hown
      clear hown e1
      by_cases hcd : cd = 0
      · subst hcd
        obtain rfl : M = 0 := by omega
        have hr2 := hr.tail (a := some ⟨b, o, none⟩) ⟨fun h0 => by omega, by simp⟩
        go_wp2
        go_ret
        exact ⟨_, _, rfl, hr2, fun x hx => by obtain rfl := Option.some.inj hx; exact hob2, hbel⟩
      · have hr2 := hr.tail (a := some ⟨b, o + 2, none⟩) ⟨fun h0 => rfl, by simp⟩
        go_wp2
        go_ret
        exact ⟨_, _, rfl, hr2, fun x hx => by obtain rfl := Option.some.inj hx; exact hob2, hbel⟩
/-- append of a list that is read to a slice that the call itself gathers, a step of a region that draws; where it lies. -/
theorem step_appM {P : Program} {T E : TypeId} (hT : P.underlying T = some (.slice E)) (info : (P.info? E).map (fun i => (i.zero, i.size, i.bytes)) = some (some (.int .u64 0), 1, 8))
    (w : World) {ops : Array Oper} {o : Oper} {a : Act} {K : Act → World → Prop} {Q : Exit → Act → World → Prop} {F : Prop} (hgd : o.guard = none) (s x : Operand)
    (ho : o.op = .call { callee := .builtin .append, args := #[s, x], argTypes := #[T, T] })
    (base : Nat) (v : Value) (n : Nat) (xs : List Int) (hs : a.eval s = v) (hown : w.ownsRow base E 1 v n (xs.map (Value.int .u64))) (b o2 m c : Nat) (ys : List Int) (hr : Rd w (some ⟨b, o2, none⟩) m c ys) (hx : a.eval x = .slice (some ⟨b, o2, none⟩) m c)
    (hm : 0 < m) (hn : n + m ≤ 1000000) (hbase : base ≤ w.heap.size)
    (h : ∀ g cap w', w'.ownsRow base E 1 (.slice (some ⟨g, 0, none⟩) (n + m) cap) (n + m) ((xs ++ ys).map (Value.int .u64)) → w.grownBy w' v.ownBlock → ((Value.slice (some ⟨g, 0, none⟩) (n + m) cap).ownBlock = v.ownBlock ∨ ∃ k, (Value.slice (some ⟨g, 0, none⟩) (n + m) cap).ownBlock = some k ∧ w.heap.size ≤ k) → K (a.put o.dst (.slice (some ⟨g, 0, none⟩) (n + m) cap)) w') :
    if Region.wanted o (yielded ops a.tmps) = true then Oper.wp P o a w K Q else F := by
  obtain ⟨i0, hi, hz0, hz1, hz2⟩ := info_parts info
  have hyl := hr.len
  refine step_append_lies _ hgd s x T ho base E i0 (.int .u64 0) 1 8 hT hi hz0 hz1 hz2 rfl (by decide) v n _ hs hown ⟨b, o2, none⟩ m c (ys.map (Value.int .u64)) hx (by simp [hyl]) ?_ ?_ hm (by unfold maxLen; omega) (by omega) hbase _ rfl ?_
  · intro j u hj
    have hjm : j < m := by
      have := (List.getElem?_eq_some_iff.1 hj).1
      simp at this
      omega
    rw [hr.cell _ rfl j hjm]
    rw [List.getElem?_map, List.getElem?_eq_getElem (by omega)] at hj
    simp only [Option.map_some, Option.some.injEq] at hj
    rw [← hj, List.getD_eq_getElem?_getD, List.getElem?_eq_getElem (by omega)]
    rfl
  · intro u hu
    obtain ⟨z, _, rfl⟩ := List.mem_map.1 hu
    rfl
  · intro g cap w' hown' hgrow h4 _
    refine h g cap w' (by rw [List.map_append]; exact hown') hgrow ?_
    rcases h4 with e | e
    · exact .inl (by rw [e]; rfl)
    · exact .inr ⟨g, rfl, by omega⟩
/-- What is gathered: what each party has seen, and the wires; what was made between lo and hi lies apart from what is seen. -/
structure Sen (w wr : World) (gs n : Nat) (Ls : List Value) (S : List (List Int)) (vW : Value) (LW : List Value) (W : List (List Int)) (lo hi : Nat) : Prop where
  seen : LsV wr w.heap.size (.slice (some ⟨gs, 0, none⟩) n n) Ls S
  len : S.length = n
  wires : LsV wr w.heap.size vW LW W
  apt : Apt Ls LW
  out : vW.ownBlock ≠ some gs
  far : Far Ls n lo hi
  gl : gs < lo
  hi : hi ≤ wr.heap.size
  bel : Below w.heap.size w wr
theorem Sen.drew {w wr : World} {gs n : Nat} {Ls : List Value} {S : List (List Int)} {vW : Value} {LW : List Value} {W : List (List Int)} {lo hi : Nat} (h : Sen w wr gs n Ls S vW LW W lo hi) : Sen w wr.drew gs n Ls S vW LW W lo hi :=
  ⟨h.seen.drew, h.len, h.wires.drew, h.apt, h.out, h.far, h.gl, h.hi, h.bel.drew⟩
theorem Sen.below {w wr w' : World} {gs n : Nat} {Ls : List Value} {S : List (List Int)} {vW : Value} {LW : List Value} {W : List (List Int)} {lo hi : Nat} (h : Sen w wr gs n Ls S vW LW W lo hi) (hb : Below wr.heap.size wr w') : Sen w w' gs n Ls S vW LW W lo hi :=
  ⟨h.seen.below hb, h.len, h.wires.below hb, h.apt, h.out, h.far, h.gl, Nat.le_trans h.hi hb.size, h.bel.trans (hb.mono h.bel.size)⟩
/-- A row of the call's that was made between lo and hi stays while what is seen grows. -/
def Btw (lo hi : Nat) (v : Value) : Prop := ∀ b, v.ownBlock = some b → lo ≤ b ∧ b < hi
/-- What party j has seen grows. -/
theorem Sen.put {w wr w7 : World} {gs n j : Nat} {Ls : List Value} {S : List (List Int)} {vW v7 : Value} {LW : List Value} {W : List (List Int)} {lo hi : Nat} {row : List Int} (h : Sen w wr gs n Ls S vW LW W lo hi) (hj : j < n)
    (ho : w7.ownsRow w.heap.size 34 1 v7 row.length (row.map (Value.int .u64))) (hg : wr.grownBy w7 (Ls.getD j (.slice none 0 0)).ownBlock) (hat : v7.ownBlock = (Ls.getD j (.slice none 0 0)).ownBlock ∨ ∃ k, v7.ownBlock = some k ∧ wr.heap.size ≤ k) :
    Sen w (w7.setCell ⟨gs, j, none⟩ v7) gs n (Ls.set j v7) (S.set j row) vW LW W lo hi := by
  have hrow := h.seen.row j (by rw [h.len]; exact hj)
  have hE : (34 : TypeId) ≠ 22 := by decide
  have hg2 : w7.grownBy (w7.setCell ⟨gs, j, none⟩ v7) (some gs) := grown_set _ _ _ _
  have hgs := (h.seen.cell h.len hj).2.2
  have hLl : j < Ls.length := by rw [h.seen.len, h.len]; exact hj
  have hWb := h.wires.blk
  have hW7 : LsV w7 w.heap.size vW LW W := h.wires.grown hg (own_apart hrow h.wires.own hE) (fun i _ => h.apt.symm i j)
  have hW8 : LsV (w7.setCell ⟨gs, j, none⟩ v7) w.heap.size vW LW W := by
    refine hW7.grown hg2 (.inr h.out) (fun i hi => ?_)
    have ho7 := h.seen.own.kept hg (own_apart hrow h.seen.own hE)
    exact own_apart ho7 (hW7.row i hi) (by decide)
  refine ⟨h.seen.upd h.len hj ho hg hat, by rw [List.length_set]; exact h.len, hW8, h.apt.set hLl (H := wr.heap.size) (fun i k hk => (hWb i k hk).2) hat, h.out, fun p hp gg hgg => ?_, h.gl, ?_, ?_⟩
  · rw [getD_setV _ _ _ _ _ hLl] at hgg
    split at hgg
    · rcases hat with e | ⟨k, e, hk⟩
      · rw [e] at hgg
        exact h.far j hj gg hgg
      · rw [e] at hgg
        obtain rfl := Option.some.inj hgg
        right
        exact Nat.le_trans h.hi hk
    · exact h.far p hp gg hgg
  · exact Nat.le_trans h.hi (Nat.le_trans hg.size hg2.size)
  · have hb7 : Below w.heap.size w w7 := h.bel.grown hg h.bel.size (fun q hq => (hrow.lt q hq).1)
    exact hb7.setCell (p := ⟨gs, j, none⟩) (h.seen.own.lt gs rfl).1 _
theorem Sen.keep {w wr w7 : World} {gs n j : Nat} {Ls : List Value} {S : List (List Int)} {vW v7 : Value} {LW : List Value} {W : List (List Int)} {lo hi B2 k z : Nat} {E : TypeId} {v : Value} {xs : List Value} (h : Sen w wr gs n Ls S vW LW W lo hi) (hj : j < n)
    (hx : wr.ownsRow B2 E z v k xs) (hv : Btw lo hi v) (hg : wr.grownBy w7 (Ls.getD j (.slice none 0 0)).ownBlock) : (w7.setCell ⟨gs, j, none⟩ v7).ownsRow B2 E z v k xs := by
  have h1 : v.ownBlock = none ∨ v.ownBlock ≠ (Ls.getD j (.slice none 0 0)).ownBlock := by
    cases hb : v.ownBlock with
    | none => exact .inl rfl
    | some b =>
      right
      intro e
      have h2 := hv b hb
      have h3 := h.far j hj b e.symm
      omega
  refine (hx.kept hg h1).kept (grown_set _ _ _ _) ?_
  cases hb : v.ownBlock with
  | none => exact .inl rfl
  | some b =>
    right
    intro e
    have h2 := hv b hb
    have h3 := h.gl
    have := Option.some.inj e
    omega
/-- Rows of which the first q are longer. -/
def sgx (S : Nat → List Int) (X : Nat → List Int) (n q : Nat) : List (List Int) := (List.range n).map fun p => if p < q then S p ++ X p else S p
theorem sgx_len (S X : Nat → List Int) (n q : Nat) : (sgx S X n q).length = n := by simp [sgx]
theorem sgx_zero (S X : Nat → List Int) (n : Nat) : sgx S X n 0 = (List.range n).map S := by simp [sgx]
theorem sgx_full (S X : Nat → List Int) (n : Nat) : sgx S X n n = (List.range n).map fun p => S p ++ X p := by
  unfold sgx
  refine List.map_congr_left fun p hp => ?_
  rw [if_pos (List.mem_range.1 hp)]
theorem sgx_getD (S X : Nat → List Int) {n q : Nat} (h : q < n) : (sgx S X n q).getD q [] = S q := by simp [sgx, h]
theorem sgx_set (S X : Nat → List Int) (n q : Nat) : (sgx S X n q).set q (S q ++ X q) = sgx S X n (q + 1) := by
  apply List.ext_getElem?
  intro p
  rw [List.getElem?_set]
  by_cases hp : p < n
  · by_cases e : q = p
    · subst e; simp [sgx, hp]
    · have : (p < q + 1) = (p < q) := by apply propext; omega
      simp [sgx, hp, e, this]
  · by_cases e : q = p
    · subst e; simp [sgx, hp]
    · simp [sgx, hp, e]
/-- Wires that may be. -/
def Wr1 (n : Nat) : Prop := 1 ≤ n ∧ n ≤ 9
def Wr2 (n m : Nat) : Prop := (1 ≤ n ∧ n ≤ 9) ∧ m = n
theorem wk_one (n : Nat) : Wk [n] 1 ↔ Wr1 n := by
  unfold Wk Wr1
  constructor
  · intro h; exact h.1
  · intro h
    refine ⟨h, fun i hi => ?_⟩
    obtain rfl : i = 0 := by omega
    rfl
theorem wk_two (n m : Nat) : Wk [n, m] 2 ↔ Wr2 n m := by
  unfold Wk Wr2
  constructor
  · intro h; exact ⟨h.1, h.2 1 (by omega)⟩
  · intro h
    refine ⟨h.1, fun i hi => ?_⟩
    match i, hi with
    | 0, _ => rfl
    | 1, _ => exact h.2
theorem len_two {n m : Nat} (h0 : n ≤ 9223372036854775807) (h1 : m ≤ 9223372036854775807) : ∀ i, [n, m].getD i 0 ≤ 9223372036854775807
  | 0 => h0
  | 1 => h1
  | i + 2 => by simp
theorem len_one {n : Nat} (h0 : n ≤ 9223372036854775807) : ∀ i, [n].getD i 0 ≤ 9223372036854775807
  | 0 => h0
  | i + 1 => by simp
/-- What Add, Sub, Scale, Plus answer. -/
def Gts (ok : Prop) (L : List Int) (n : Nat) (w : World) (e : Ending) (w' : World) : Prop :=
  ((¬ ok ∧ e = .returned (.tuple #[.slice none 0 0, .int .i64 5])) ∨ (ok ∧ ∃ v, e = .returned (.tuple #[v, .int .i64 0]) ∧ w'.ownsRow w.heap.size 34 1 v n (L.map (Value.int .u64)))) ∧ Below w.heap.size w w'
/-- What is wrong with what is multiplied. -/
def Gme (t : Int) (n m q : Nat) (r : Int) : Prop :=
  ((t < 0 ∨ 4 < t) ∧ r = 1) ∨ ((0 ≤ t ∧ t ≤ 4) ∧ ((¬ Wr2 n m ∧ r = 5) ∨ (Wr2 n m ∧ (((n : Int) < 2 * t + 1 ∧ r = 4) ∨ (2 * t + 1 ≤ (n : Int) ∧ (((q : Int) ≠ (n : Int) * t ∧ r = 1) ∨ ((q : Int) = (n : Int) * t ∧ r = 0)))))))
theorem Gme.one {t : Int} {n m q : Nat} {r s : Int} (h : Gme t n m q r) (k : Gme t n m q s) : r = s := by
  rcases h with ⟨h1, rfl⟩ | ⟨h1, h2⟩ <;> rcases k with ⟨k1, rfl⟩ | ⟨k1, k2⟩
  · rfl
  · exfalso; omega
  · exfalso; omega
  · rcases h2 with ⟨h2, rfl⟩ | ⟨h2, h3⟩ <;> rcases k2 with ⟨k2, rfl⟩ | ⟨k2, k3⟩
    · rfl
    · exact absurd k2 h2
    · exact absurd h2 k2
    · rcases h3 with ⟨h3, rfl⟩ | ⟨h3, ⟨h4, rfl⟩ | ⟨h4, rfl⟩⟩ <;> rcases k3 with ⟨k3, rfl⟩ | ⟨k3, ⟨k4, rfl⟩ | ⟨k4, rfl⟩⟩
      all_goals first
        | rfl
        | (exfalso; omega)
        | exact absurd k4 h4
        | exact absurd h4 k4
theorem Gme.ok {t : Int} {n m q : Nat} (h : Gme t n m q 0) : ∃ k : Nat, t = (k : Int) ∧ k ≤ 4 ∧ 1 ≤ n ∧ n ≤ 9 ∧ m = n ∧ 2 * k + 1 ≤ n ∧ q = n * k := by
  rcases h with ⟨_, h⟩ | ⟨h1, ⟨_, h⟩ | ⟨h2, ⟨_, h⟩ | ⟨h3, ⟨_, h⟩ | ⟨h4, _⟩⟩⟩⟩
  · omega
  · omega
  · omega
  · omega
  · obtain ⟨k, rfl⟩ : ∃ k : Nat, t = k := ⟨t.toNat, by omega⟩
    refine ⟨k, rfl, by omega, h2.1.1, h2.1.2, h2.2, by omega, ?_⟩
    have : ((q : Nat) : Int) = ((n * k : Nat) : Int) := by rw [h4]; push_cast; rfl
    omega
/-- What Mul answers. -/
def Gtm (t : Int) (xs ys ds : List Int) (n m q : Nat) (w : World) (e : Ending) (w' : World) : Prop :=
  ((∃ r, r ≠ 0 ∧ Gme t n m q r ∧ e = .returned (.tuple #[.slice none 0 0, .slice none 0 0, .int .i64 r])) ∨
   (Gme t n m q 0 ∧ ∃ v u L, e = .returned (.tuple #[v, u, .int .i64 0]) ∧ w'.ownsRow w.heap.size 34 1 v n ((tmO t.toNat xs ys ds n n).map (Value.int .u64)) ∧ LsV w' w.heap.size u L (tmG t.toNat xs ys ds n))) ∧ Below w.heap.size w w'
theorem own_set2 {w : World} {B n c g : Nat} {E : TypeId} {xs : List Value} (h : w.ownsRow B E 2 (.slice (some ⟨g, 0, none⟩) n c) n xs) (i : Nat) (u : Value) : (w.setCell ⟨g, i, none⟩ u).ownsRow B E 2 (.slice (some ⟨g, 0, none⟩) n c) n (xs.set i u) := by
  refine ⟨by rw [List.length_set]; exact h.1, .inr ?_⟩
  rcases h.2 with ⟨e, _⟩ | ⟨g', cap, cur, e, hb, hg, h1, h2, hs, ht⟩
  · simp at e
  · simp only [Value.slice.injEq, Option.some.injEq, Addr.mk.injEq, and_true, true_and] at e
    obtain ⟨rfl, rfl⟩ := e
    refine ⟨g, c, _, rfl, hb, heap_setCell_same w g i _ _ _ hg, h1, h2, by simpa using hs, ?_⟩
    rw [← ht]
    simp [List.take_set]
theorem own_frozen2 {w : World} {B n c g : Nat} {E : TypeId} {xs : List Value} (h : w.ownsRow B E 2 (.slice (some ⟨g, 0, none⟩) n c) n xs) (i : Nat) : w.frozen? ⟨g, i, none⟩ = false := by
  rcases h.2 with ⟨e, _⟩ | ⟨g', cap, cur, e, hb, hg, _⟩
  · simp at e
  · simp only [Value.slice.injEq, Option.some.injEq, Addr.mk.injEq, and_true, true_and] at e
    obtain ⟨rfl, rfl⟩ := e
    exact frozen_of_row w g i _ _ hg
/-- Its address, where there is a share. -/
theorem own_at2 {w : World} {base n : Nat} {E : TypeId} {v : Value} {xs : List Value} (h : w.ownsRow base E 2 v n xs) (hn : 0 < n) : ∃ g c, v = .slice (some ⟨g, 0, none⟩) n c ∧ base ≤ g ∧ g < w.heap.size ∧ n ≤ c ∧ c ≤ maxLen := by
  rcases h.2 with ⟨_, rfl⟩ | ⟨g, cap, cur, rfl, hb, hg, h1, h2, _⟩
  · omega
  · exact ⟨g, cap, rfl, hb, (Array.getElem?_eq_some_iff.1 hg).1, h1, h2⟩
theorem sh_cell {w : World} {base n c g : Nat} {E : TypeId} {l : List (Int × Int)} (h : w.ownsRow base E 2 (.slice (some ⟨g, 0, none⟩) n c) n (shc l)) (hl : l.length = n) {k : Nat} (hk : k < n) :
    w.cell? ⟨g, k * 2, none⟩ = some (.int .i64 (l.getD k (0, 0)).1) ∧ w.cell? ⟨g, k * 2 + 1, none⟩ = some (.int .u64 (l.getD k (0, 0)).2) := by
  have h1 := shc_get l k (by omega)
  have a1 := h.cells (g := g) rfl _ _ h1.1
  have a2 := h.cells (g := g) rfl _ _ h1.2
  rw [Addr.add_lit] at a1 a2
  exact ⟨by simpa using a1, by simpa using a2⟩
/-- No row. -/
def nil10 : List Value := List.replicate 10 (.slice none 0 0)
/-- Block g holds the table S. -/
def BlkV (w : World) (g : Nat) (S : List Value) : Prop := w.heap[g]? = some (.cells S.toArray 128 (0, 0))
theorem BlkV.lt {w : World} {g : Nat} {S : List Value} (h : BlkV w g S) : g < w.heap.size := (Array.getElem?_eq_some_iff.1 h).1
theorem BlkV.cell {w : World} {g : Nat} {S : List Value} (h : BlkV w g S) {i : Nat} {v : Value} (hi : S[i]? = some v) : w.cell? ⟨g, i, none⟩ = some v := by
  rw [cell_of_row w g i _ _ (0, 0) h]
  simpa using hi
theorem BlkV.frozen {w : World} {g : Nat} {S : List Value} (h : BlkV w g S) (i : Nat) : w.frozen? ⟨g, i, none⟩ = false := frozen_of_row w g i _ _ h
theorem BlkV.set {w : World} {g : Nat} {S : List Value} (h : BlkV w g S) (i : Nat) (v : Value) : BlkV (w.setCell ⟨g, i, none⟩ v) g (S.set i v) := by
  have := heap_setCell_same w g i _ _ v h
  unfold BlkV
  rw [this]
  simp
theorem BlkV.below {w w' : World} {B g : Nat} {S : List Value} (h : BlkV w g S) (hb : Below B w w') (hg : g < B) : BlkV w' g S := by
  unfold BlkV; rw [hb.block g hg]; exact h
theorem BlkV.other {w : World} {g g' i : Nat} {S : List Value} {v : Value} (h : BlkV w g S) (hg : g' ≠ g) : BlkV (w.setCell ⟨g', i, none⟩ v) g S := by
  unfold BlkV; rw [heap_setCell_other w ⟨g', i, none⟩ g v (fun e => hg e.symm)]; exact h

/-- The table has the first k rows of l, each at its party. -/
structure Pt (w : World) (l : List (Int × List Int)) (k : Nat) (S : List Value) : Prop where
  len : S.length = 10
  row : ∀ p : Nat, p < 10 → ∃ a m c, S[p]? = some (.slice a m c) ∧ m ≤ 5 ∧ ((m = 0 ∧ ∀ r, r < k → ta l r ≠ (p : Int)) ∨ (∃ r, r < k ∧ ta l r = (p : Int) ∧ 1 ≤ m ∧ Rd w a m c (tc l r)))
  rwk : Rwk l k
theorem Pt.below {w w' : World} {l : List (Int × List Int)} {k : Nat} {S : List Value} (h : Pt w l k S) (hb : Below w.heap.size w w') : Pt w' l k S := by
  refine ⟨h.len, fun p hp => ?_, h.rwk⟩
  obtain ⟨a, m, c, h1, h2, h3⟩ := h.row p hp
  refine ⟨a, m, c, h1, h2, ?_⟩
  rcases h3 with h3 | ⟨r, r1, r2, r3, r4⟩
  · exact .inl h3
  · exact .inr ⟨r, r1, r2, r3, r4.below hb⟩
theorem pt_start (w : World) (l : List (Int × List Int)) : Pt w l 0 nil10 :=
  ⟨rfl, fun p hp => ⟨none, 0, 0, by unfold nil10; rw [List.getElem?_replicate, if_pos hp], by omega, .inl ⟨rfl, fun r hr => by omega⟩⟩, rwk_zero l⟩
theorem pt_step {w : World} {l : List (Int × List Int)} {k p m c c0 : Nat} {S : List Value} {a a0 : Option Addr} (h : Pt w l k S) (hp : ta l k = (p : Int)) (h1 : 1 ≤ p) (h9 : p ≤ 9) (hr : Rd w a m c (tc l k)) (m1 : 1 ≤ m) (m5 : m ≤ 5) (hS : S[p]? = some (.slice a0 0 c0)) : Pt w l (k + 1) (S.set p (.slice a m c)) := by
  have hno : ∀ r, r < k → ta l r ≠ (p : Int) := by
    obtain ⟨a', m', c', e1, e2, e3⟩ := h.row p (by omega)
    rw [hS] at e1
    simp only [Option.some.injEq, Value.slice.injEq] at e1
    obtain ⟨rfl, rfl, rfl⟩ := e1
    rcases e3 with e3 | ⟨r, _, _, e4, _⟩
    · exact e3.2
    · omega
  have hl := h.len
  refine ⟨by rw [List.length_set]; exact hl, fun q hq => ?_, rwk_succ h.rwk hp hr.len (by omega) (by omega) m1 m5 hno⟩
  by_cases e : q = p
  · subst e
    exact ⟨a, m, c, by rw [List.getElem?_set_self (by omega)], m5, .inr ⟨k, by omega, hp, m1, hr⟩⟩
  · obtain ⟨a', m', c', e1, e2, e3⟩ := h.row q hq
    refine ⟨a', m', c', by rw [List.getElem?_set_ne (fun e' => e e'.symm)]; exact e1, e2, ?_⟩
    rcases e3 with ⟨e3, e4⟩ | ⟨r, e3, e4, e5, e6⟩
    · refine .inl ⟨e3, fun r hr => ?_⟩
      by_cases er : r = k
      · rw [er, hp]; omega
      · exact e4 r (by omega)
    · exact .inr ⟨r, by omega, e4, e5, e6⟩
theorem pt_twice {w : World} {l : List (Int × List Int)} {k n p m c : Nat} {S : List Value} {a : Option Addr} (h : Pt w l k S) (hk : k < n) (hp : ta l k = (p : Int)) (h9 : p ≤ 9) (hS : S[p]? = some (.slice a m c)) (hm : 0 < m) : ¬ Rwk l n := fun hR => by
  obtain ⟨a', m', c', e1, e2, e3⟩ := h.row p (by omega)
  rw [hS] at e1
  simp only [Option.some.injEq, Value.slice.injEq] at e1
  obtain ⟨rfl, rfl, rfl⟩ := e1
  rcases e3 with e3 | ⟨r, e4, e5, _, _⟩
  · omega
  · exact (hR k hk).1.2 r e4 (by rw [e5, hp])
theorem nil10_one : (nil10.toArray.all (·.oneCell')) = true := by
  rw [Array.all_eq_true_iff_forall_mem]
  intro v hv
  obtain rfl := List.eq_of_mem_replicate (show v ∈ List.replicate 10 _ from (by simpa [nil10] using hv : v ∈ nil10))
  rfl
theorem Pt.one {w : World} {l : List (Int × List Int)} {k : Nat} {S : List Value} (h : Pt w l k S) : (S.toArray.all (·.oneCell')) = true := by
  rw [Array.all_eq_true_iff_forall_mem]
  intro v hv
  obtain ⟨i, hi, rfl⟩ := List.getElem_of_mem (show v ∈ S by simpa using hv)
  obtain ⟨a, m, c, h1, _⟩ := h.row i (by have := h.len; omega)
  rw [List.getElem?_eq_getElem hi] at h1
  rw [Option.some.inj h1]
  rfl
theorem Pt.size {w : World} {l : List (Int × List Int)} {k : Nat} {S : List Value} (h : Pt w l k S) : S.toArray.size = 10 := by simpa using h.len
/-- What byParty answers. -/
def Byp (l : List (Int × List Int)) (n : Nat) (w : World) (e : Ending) (w' : World) : Prop :=
  ((∃ S, Pt w' l n S ∧ e = .returned (.tuple #[.agg S.toArray, .bool true])) ∨ (¬ Rwk l n ∧ e = .returned (.tuple #[.agg nil10.toArray, .bool false]))) ∧ Below w.heap.size w w'
end
end Go.Proofs.YtljlioglpaogdagDoor
