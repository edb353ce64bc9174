/- What the calls of package twine answer. · What the calls of package hide answer. · (*shamir.parties).join, shamir.Check. -/
import Derived.Test.YtnofegdlainjaagDoorToTPairM
import Derived.Test.YtnofegdlainjaagDoorToTEqC
import Derived.Test.YtnofegdlainjaagDoorToRefA
import Derived.Test.YtnofegdlainjaagDoorToDealC
import Derived.Test.YtnofegdlainjaagDoorToSortM
import Derived.Test.YtnofegdlainjaagDoorToFieldC
import Derived.Test.YtnofegdlainjaagDoorToIntsC
namespace Go.Proofs.YtnofegdlainjaagDoor
open Go.RowKit Crm

/-- How many numbers there are besides the secret. -/
def need2 (t : Nat) : Nat := (t + 1) * (t + 2) / 2 - 1
theorem need2_bd {t : Nat} (h : t ≤ 4) : need2 t ≤ 14 := by
  have hcase : t = 0 ∨ t = 1 ∨ t = 2 ∨ t = 3 ∨ t = 4 := by omega
  rcases hcase with rfl | rfl | rfl | rfl | rfl <;> decide
/-- What Need answers. -/
def Nds (t : Int) (w : World) (e : Ending) (w' : World) : Prop :=
  (((t < 0 ∨ 4 < t) ∧ e = .returned (.tuple #[.int .i64 0, .int .i64 1])) ∨ ∃ k : Nat, t = (k : Int) ∧ k ≤ 4 ∧ e = .returned (.tuple #[.int .i64 (need2 k : Nat), .int .i64 0])) ∧ Below w.heap.size w w'
/-- What is dealt with m draws for n parties is dealt rightly. -/
def Dwk (t n : Int) (m k : Nat) : Prop := t = (k : Int) ∧ k ≤ 4 ∧ m = need2 k ∧ (k : Int) + 1 ≤ n ∧ n ≤ 9
/-- What Deal answers. -/
def Dwl (s : Int) (ds : List Int) (t n : Int) (m : Nat) (w : World) (e : Ending) (w' : World) : Prop :=
  (((∀ k, ¬ Dwk t n m k) ∧ e = .returned (.tuple #[.slice none 0 0, .int .i64 1])) ∨ ∃ (k q : Nat) (v : Value) (L : List (Int × Value)), Dwk t n m k ∧ n = (q : Int) ∧ e = .returned (.tuple #[v, .int .i64 0]) ∧ LsW w' w.heap.size v L (dealA s ds k q)) ∧ Below w.heap.size w w'
/-- What Pairs answers. -/
def Pss (l : List (Int × List Int)) (n : Nat) (w : World) (e : Ending) (w' : World) : Prop :=
  ((¬ Rwk l n ∧ e = .returned (.tuple #[.slice none 0 0, .int .i64 5])) ∨ (Rwk l n ∧ ∃ a k c L, e = .returned (.tuple #[.slice a k c, .int .i64 0]) ∧ RdP w' a k c L ∧ Prs l n L)) ∧ Below w.heap.size w w'
/-- Rows that are dealt are read. -/
theorem deal_rd {w : World} {B : Nat} {v : Value} {L : List (Int × Value)} {s : Int} {ds : List Int} {t q : Nat} (h : LsW w B v L (dealA s ds t q)) (hq : q ≤ 9) : ∃ a c, v = .slice a q c ∧ RdW w a q c (dealA s ds t q) :=
  h.rdW (dealA_len _ _ _ _) (fun i hi => by unfold ta; rw [dealA_getD s ds t hi]; simp only; omega) (fun i hi => by unfold tc; rw [dealA_getD s ds t hi]; exact bd_u64 (rowK_bd _ _ _ _ _))
end Go.Proofs.YtnofegdlainjaagDoor

namespace Go.Proofs.YtnofegdlainjaagDoor
open Go.RowKit Crm

/-- What is wrong with what Shift is handed. -/
def Hse (who : List Int) (k q : Nat) (r : Int) : Prop := (¬ dis (fi who) k ∧ r = 5) ∨ (dis (fi who) k ∧ ((¬ (q ≤ 4 ∧ k ≤ q) ∧ r = 1) ∨ ((q ≤ 4 ∧ k ≤ q) ∧ r = 0)))
theorem Hse.one {who : List Int} {k q : Nat} {r s : Int} (h : Hse who k q r) (g : Hse who k q s) : r = s := by
  rcases h with ⟨h1, rfl⟩ | ⟨h1, ⟨h2, rfl⟩ | ⟨h2, rfl⟩⟩ <;> rcases g with ⟨k1, rfl⟩ | ⟨k1, ⟨k2, rfl⟩ | ⟨k2, rfl⟩⟩
  all_goals first
    | rfl
    | exact absurd k1 h1
    | exact absurd h1 k1
    | exact absurd k2 h2
    | exact absurd h2 k2
theorem Hse.ok {who : List Int} {k q : Nat} (h : Hse who k q 0) : dis (fi who) k ∧ q ≤ 4 ∧ k ≤ q := by
  rcases h with ⟨_, h⟩ | ⟨h1, ⟨_, h⟩ | ⟨h2, _⟩⟩
  · omega
  · omega
  · exact ⟨h1, h2.1, h2.2⟩
/-- What Shift answers. -/
def Hsh (who : List Int) (k : Nat) (a b : Int) (ds : List Int) (q : Nat) (w : World) (e : Ending) (w' : World) : Prop :=
  ((∃ r, r ≠ 0 ∧ Hse who k q r ∧ e = .returned (.tuple #[.slice none 0 0, .int .i64 r])) ∨
   (Hse who k q 0 ∧ ∃ v, e = .returned (.tuple #[v, .int .i64 0]) ∧ w'.ownsRow w.heap.size 34 1 v q ((shf who k a b ds q).map (Value.int .u64)))) ∧ Below w.heap.size w w'
/-- What is wrong with what Twine is handed. -/
def Hte (who : List Int) (k : Nat) (t : Int) (q : Nat) (r : Int) : Prop := (¬ dis (fi who) k ∧ r = 5) ∨ (dis (fi who) k ∧ ((¬ ((0 ≤ t ∧ t ≤ 4) ∧ (k : Int) ≤ t ∧ q = need2 t.toNat) ∧ r = 1) ∨ (((0 ≤ t ∧ t ≤ 4) ∧ (k : Int) ≤ t ∧ q = need2 t.toNat) ∧ r = 0)))
theorem Hte.one {who : List Int} {k q : Nat} {t r s : Int} (h : Hte who k t q r) (g : Hte who k t q s) : r = s := by
  rcases h with ⟨h1, rfl⟩ | ⟨h1, ⟨h2, rfl⟩ | ⟨h2, rfl⟩⟩ <;> rcases g with ⟨k1, rfl⟩ | ⟨k1, ⟨k2, rfl⟩ | ⟨k2, rfl⟩⟩
  all_goals first
    | rfl
    | exact absurd k1 h1
    | exact absurd h1 k1
    | exact absurd k2 h2
    | exact absurd h2 k2
theorem Hte.ok {who : List Int} {k q : Nat} {t : Int} (h : Hte who k t q 0) : dis (fi who) k ∧ (0 ≤ t ∧ t ≤ 4) ∧ (k : Int) ≤ t ∧ q = need2 t.toNat := by
  rcases h with ⟨_, h⟩ | ⟨h1, ⟨_, h⟩ | ⟨h2, _⟩⟩
  · omega
  · omega
  · exact ⟨h1, h2⟩
/-- What Twine answers. -/
def Htw (who : List Int) (k : Nat) (t : Int) (a b : Int) (ds : List Int) (q : Nat) (w : World) (e : Ending) (w' : World) : Prop :=
  ((∃ r, r ≠ 0 ∧ Hte who k t q r ∧ e = .returned (.tuple #[.slice none 0 0, .int .i64 r])) ∨
   (Hte who k t q 0 ∧ ∃ v, e = .returned (.tuple #[v, .int .i64 0]) ∧ w'.ownsRow w.heap.size 34 1 v q ((twl who k a b ds t.toNat q).map (Value.int .u64)))) ∧ Below w.heap.size w w'
/-- What is told. -/
def wls (who : List Int) (k : Nat) (a b : Int) (ds : List Int) (q : Nat) (r : Int) : List Int := if r = 0 then shf who k a b ds q else []
def wlt (who : List Int) (k : Nat) (t : Int) (a b : Int) (ds : List Int) (q : Nat) (r : Int) : List Int := if r = 0 then twl who k a b ds t.toNat q else []
theorem Hsh.rd {who : List Int} {k q : Nat} {a b r : Int} {ds : List Int} {w w' : World} {e : Ending} (h : Hsh who k a b ds q w e w') (hr : Hse who k q r) : ∃ a' c', e = .returned (.tuple #[.slice a' (wls who k a b ds q r).length c', .int .i64 r]) ∧ Rd w' a' (wls who k a b ds q r).length c' (wls who k a b ds q r) := by
  rcases h.1 with ⟨s, h1, h2, rfl⟩ | ⟨h1, v, rfl, ho⟩
  · obtain rfl := h2.one hr
    unfold wls
    rw [if_neg h1]
    exact ⟨none, 0, rfl, nil_rd _⟩
  · obtain rfl : 0 = r := h1.one hr
    unfold wls
    rw [if_pos rfl, shf_len]
    obtain ⟨a', c', rfl, hr', _⟩ := Rd.own ho (bd_u64 (shf_bd _ _ _ _ _ _))
    exact ⟨a', c', rfl, hr'⟩
theorem Htw.rd {who : List Int} {k q : Nat} {t a b r : Int} {ds : List Int} {w w' : World} {e : Ending} (h : Htw who k t a b ds q w e w') (hr : Hte who k t q r) : ∃ a' c', e = .returned (.tuple #[.slice a' (wlt who k t a b ds q r).length c', .int .i64 r]) ∧ Rd w' a' (wlt who k t a b ds q r).length c' (wlt who k t a b ds q r) := by
  rcases h.1 with ⟨s, h1, h2, rfl⟩ | ⟨h1, v, rfl, ho⟩
  · obtain rfl := h2.one hr
    unfold wlt
    rw [if_neg h1]
    exact ⟨none, 0, rfl, nil_rd _⟩
  · obtain rfl : 0 = r := h1.one hr
    unfold wlt
    rw [if_pos rfl, twl_len]
    obtain ⟨a', c', rfl, hr', _⟩ := Rd.own ho (bd_u64 (twl_bd _ _ _ _ _ _ _))
    exact ⟨a', c', rfl, hr'⟩
theorem Hsh.told {who : List Int} {k q : Nat} {a b : Int} {ds : List Int} {w w' : World} {e : Ending} (h : Hsh who k a b ds q w e w') (hr : Hse who k q 0) : ∃ a' c', e = .returned (.tuple #[.slice a' q c', .int .i64 0]) ∧ Rd w' a' q c' (shf who k a b ds q) := by
  obtain ⟨a', c', e1, h1⟩ := h.rd hr
  have e2 : wls who k a b ds q 0 = shf who k a b ds q := if_pos rfl
  rw [e2, shf_len] at e1 h1
  exact ⟨a', c', e1, h1⟩
theorem Htw.told {who : List Int} {k q : Nat} {t a b : Int} {ds : List Int} {w w' : World} {e : Ending} (h : Htw who k t a b ds q w e w') (hr : Hte who k t q 0) : ∃ a' c', e = .returned (.tuple #[.slice a' q c', .int .i64 0]) ∧ Rd w' a' q c' (twl who k a b ds t.toNat q) := by
  obtain ⟨a', c', e1, h1⟩ := h.rd hr
  have e2 : wlt who k t a b ds q 0 = twl who k a b ds t.toNat q := if_pos rfl
  rw [e2, twl_len] at e1 h1
  exact ⟨a', c', e1, h1⟩
/-- A list that is gathered reads as what is told. -/
def Gth (L : List Int) (w : World) (v : Value) : Prop := ∃ a c, v = .slice a L.length c ∧ Rd w a L.length c L
theorem gth_nil (w : World) : Gth [] w (.slice none 0 0) := ⟨none, 0, rfl, nil_rd _⟩
theorem gth_own {w : World} {B n : Nat} {v : Value} {L : List Int} (h : w.ownsRow B 34 1 v n (L.map (Value.int .u64))) (hl : L.length = n) (hb : ∀ x ∈ L, 0 ≤ x ∧ x ≤ 18446744073709551615) : Gth L w v := by
  subst hl
  obtain ⟨a, c, rfl, hr, _⟩ := Rd.own h hb
  exact ⟨a, c, rfl, hr⟩
theorem dis_nz {who : List Int} {k : Nat} (h : dis (fi who) k) : ∀ j, j < k → nm (who.getD j 0) ≠ 0 := fun j hj => by
  have := (h j hj).1
  unfold fi at this
  rw [nm_small (by omega) (by omega)]
  omega
end Go.Proofs.YtnofegdlainjaagDoor

namespace Go.Proofs.YtnofegdlainjaagDoor
open Go.RowKit Crm

/-- Row g holds the marks M. -/
def BlkB (w : World) (g : Nat) (M : List Bool) : Prop := w.heap[g]? = some (.cells (M.map Value.bool).toArray 134 (0, 0))
theorem BlkB.lt {w : World} {g : Nat} {M : List Bool} (h : BlkB w g M) : g < w.heap.size := (Array.getElem?_eq_some_iff.1 h).1
theorem BlkB.cell {w : World} {g : Nat} {M : List Bool} (h : BlkB w g M) {i : Nat} (hi : i < M.length) : w.cell? ⟨g, i, none⟩ = some (.bool (M.getD i false)) := by
  rw [cell_of_row w g i _ _ (0, 0) h]
  simp [List.getElem?_eq_getElem hi]
theorem BlkB.frozen {w : World} {g : Nat} {M : List Bool} (h : BlkB w g M) (i : Nat) : w.frozen? ⟨g, i, none⟩ = false := frozen_of_row w g i _ _ h
theorem BlkB.set {w : World} {g : Nat} {M : List Bool} (h : BlkB w g M) (i : Nat) (v : Bool) : BlkB (w.setCell ⟨g, i, none⟩ (.bool v)) g (M.set i v) := by
  have := heap_setCell_same w g i _ _ (.bool v) h
  unfold BlkB
  rw [this]
  simp [List.map_set]
theorem BlkB.below {w w' : World} {B g : Nat} {M : List Bool} (h : BlkB w g M) (hb : Below B w w') (hg : g < B) : BlkB w' g M := by
  unfold BlkB; rw [hb.block g hg]; exact h

set_option maxRecDepth 100000 in
theorem cJoinO (g : Nat) (x : Int) (w : World) (h : x < 1 ∨ 9 < x) :
    Calls Tryd.prog 86 #[.pointer (some ⟨g, 0, none⟩), .int .i64 x] w fun e w' => e = .returned (.bool false) ∧ w' = w := by
  by_cases h1 : x < 1
  · clear h
    go_enter Tryd.func86, Tryd.ntmps86
    go_wp2
    go_ret
    exact ⟨rfl, rfl⟩
  · have h2 : 9 < x := by omega
    clear h
    go_enter Tryd.func86, Tryd.ntmps86
    go_wp2
    go_ret
    exact ⟨rfl, rfl⟩
set_option maxRecDepth 100000 in
theorem cJoinN (g k : Nat) (M : List Bool) (w : World) (h : BlkB w g M) (hM : M.length = 10) (h1 : 1 ≤ k) (h9 : k ≤ 9) (hk : M.getD k false = true) :
    Calls Tryd.prog 86 #[.pointer (some ⟨g, 0, none⟩), .int .i64 k] w fun e w' => e = .returned (.bool false) ∧ w' = w := by
  have hc := h.cell (i := k) (by omega)
  rw [hk] at hc
  have hlt := h.lt
  go_enter Tryd.func86, Tryd.ntmps86
  go_wp2
  go_ret
  exact ⟨rfl, rfl⟩
set_option maxRecDepth 100000 in
theorem cJoinY (g k : Nat) (M : List Bool) (w : World) (h : BlkB w g M) (hM : M.length = 10) (h1 : 1 ≤ k) (h9 : k ≤ 9) (hk : M.getD k false = false) :
    Calls Tryd.prog 86 #[.pointer (some ⟨g, 0, none⟩), .int .i64 k] w fun e w' => e = .returned (.bool true) ∧ w' = w.setCell ⟨g, k, none⟩ (.bool true) := by
  have hc := h.cell (i := k) (by omega)
  rw [hk] at hc
  have hlt := h.lt
  have hfz := h.frozen k
  go_enter Tryd.func86, Tryd.ntmps86
  go_wp2
  go_ret
  exact ⟨rfl, rfl⟩
end Go.Proofs.YtnofegdlainjaagDoor
