/- What is hidden: the polynomial that is nought at some parties and 1 at 0; draws that are shifted by it: plain facts. · What the calls of package hide answer. · hide.different. -/
import Derived.Test.YtgmelcdgnjcojagDoorToGateM
import Derived.Test.YtgmelcdgnjcojagDoorToTwSqM
import Derived.Test.YtgmelcdgnjcojagDoorToEngM
import Derived.Test.YtgmelcdgnjcojagDoorToTrimC
import Derived.Test.YtgmelcdgnjcojagDoorToOpenG
import Derived.Test.YtgmelcdgnjcojagDoorToFaceC
import Derived.Test.YtgmelcdgnjcojagDoorToCheckC
namespace Go.Proofs.YtgmelcdgnjcojagDoor
open Crm

/-- For each of the first k parties, 1 less x by that party. -/
def bl (who : List Int) : Nat → List Int
  | 0 => [1]
  | k + 1 => cvl (bl who k) [1, nm (-(iv (who.getD k 0)))]
theorem bl_len (who : List Int) : ∀ k, (bl who k).length = k + 1
  | 0 => rfl
  | k + 1 => by rw [bl, cvl_len, bl_len who k]; rfl
theorem bl_bd (who : List Int) : ∀ k, ∀ x ∈ bl who k, 0 ≤ x ∧ x ≤ 2147483646
  | 0 => fun x hx => by rw [List.mem_singleton.1 hx]; decide
  | k + 1 => cvl_bd _ _
theorem bl_succ (who : List Int) (k : Nat) (x : Int) : nm (ev (bl who (k + 1)) x) = nm (ev (bl who k) x * (1 - x * iv (who.getD k 0))) := by
  rw [bl, cvl_ev]
  have e : ev [1, nm (-(iv (who.getD k 0)))] x = 1 + x * nm (-(iv (who.getD k 0))) := by simp [ev]
  rw [e]
  refine nm_mul_congr rfl ?_
  rw [← nm_addr, nm_mulr, nm_addr]
  congr 1
  rw [Int.mul_neg, ← Int.sub_eq_add_neg]
theorem bl_one (who : List Int) : ∀ k, nm (ev (bl who k) 0) = 1
  | 0 => by show nm (ev [1] 0) = 1; decide
  | k + 1 => by rw [bl_succ, ← nm_mull, bl_one who k, Int.zero_mul]; decide
theorem bl_first (who : List Int) (k : Nat) : (bl who k).getD 0 0 = 1 := by
  have h := bl_one who k
  have hb := getD_bd' (bl_bd who k) 0
  have hl := bl_len who k
  cases hq : bl who k with
  | nil => rw [hq] at hl; simp at hl
  | cons a l =>
    rw [hq] at h hb
    rw [ev, Int.zero_mul, Int.add_zero] at h
    rw [cons_getD0] at hb ⊢
    rw [nm_small hb.1 hb.2] at h
    exact h
/-- It is nought at each of them. -/
theorem bl_root {who : List Int} : ∀ {k j : Nat}, j < k → nm (who.getD j 0) ≠ 0 → nm (ev (bl who k) (who.getD j 0)) = 0
  | 0, j, h, _ => by omega
  | k + 1, j, h, hz => by
    rw [bl_succ]
    by_cases e : j = k
    · subst e
      have hi := iv_mul hz
      have e1 : nm (1 - who.getD j 0 * iv (who.getD j 0)) = 0 := by rw [← nm_subr, Int.mul_comm, hi]; decide
      rw [← nm_mulr, e1, Int.mul_zero]
      decide
    · rw [← nm_mull, bl_root (by omega) hz, Int.zero_mul]
      decide
theorem bl_top {who : List Int} : ∀ {k : Nat}, (∀ j, j < k → nm (who.getD j 0) ≠ 0) → (bl who k).getD k 0 ≠ 0
  | 0, _ => by show ([1] : List Int).getD 0 0 ≠ 0; decide
  | k + 1, h => by
    have ih := bl_top (who := who) (k := k) fun j hj => h j (by omega)
    have hb := getD_bd' (bl_bd who k) k
    have hi := iv_mul (h k (by omega))
    have hnz : nm (-(iv (who.getD k 0))) ≠ 0 := fun e => by
      have e2 : nm (iv (who.getD k 0)) = 0 := by unfold nm at e ⊢; omega
      rw [← nm_mull, e2, Int.zero_mul] at hi
      exact absurd hi (by decide)
    rw [bl, cvl_getD, bl_len]
    have e : pc (bl who k) [1, nm (-(iv (who.getD k 0)))] (k + 1) (k + 1) = (bl who k).getD k 0 * nm (-(iv (who.getD k 0))) := by
      rw [pc, pc_far _ _ _ _ (by simp), tm, if_pos (by omega), show k + 1 - k = 1 by omega, Int.zero_add]
      rfl
    rw [e]
    intro e0
    have := nm_mul_zero e0 (by rw [nm_small hb.1 hb.2]; exact ih)
    rw [nm_nm] at this
    exact hnz this
theorem bl_nml {who : List Int} {k : Nat} (h : ∀ j, j < k → nm (who.getD j 0) ≠ 0) : Nml (bl who k) :=
  ⟨bl_bd who k, fun _ => by rw [bl_len, Nat.add_sub_cancel]; exact bl_top h⟩
/-- Draws that are shifted. -/
def shf (who : List Int) (k : Nat) (a b : Int) (ds : List Int) (q : Nat) : List Int := (List.range q).map fun i => nm (ds.getD i 0 + nm (b - a) * (bl who k).getD (i + 1) 0)
theorem shf_len (who : List Int) (k : Nat) (a b : Int) (ds : List Int) (q : Nat) : (shf who k a b ds q).length = q := by simp [shf]
theorem shf_getD (who : List Int) (k : Nat) (a b : Int) (ds : List Int) {q i : Nat} (h : i < q) : (shf who k a b ds q).getD i 0 = nm (ds.getD i 0 + nm (b - a) * (bl who k).getD (i + 1) 0) := by simp [shf, h]
theorem shf_bd (who : List Int) (k : Nat) (a b : Int) (ds : List Int) (q : Nat) : ∀ z ∈ shf who k a b ds q, 0 ≤ z ∧ z ≤ 2147483646 := fun z hz => by
  obtain ⟨i, _, rfl⟩ := List.mem_map.1 hz
  exact nm_bd _
theorem shf_snoc (who : List Int) (k : Nat) (a b : Int) (ds : List Int) (q : Nat) : shf who k a b ds q ++ [nm (ds.getD q 0 + nm (b - a) * (bl who k).getD (q + 1) 0)] = shf who k a b ds (q + 1) := by simp [shf, List.range_succ]
/-- What they tell. -/
theorem shf_ev {who : List Int} {k q : Nat} {a b : Int} {ds : List Int} (hk : k ≤ q) (hq : ds.length = q) (x : Int) : nm (ev (b :: shf who k a b ds q) x) = nm (ev (a :: ds) x + (b - a) * ev (bl who k) x) := by
  rw [← adl_ev]
  refine ev_congr _ _ _ fun t => ?_
  rw [adl_getD]
  cases t with
  | zero => rw [cons_getD0, cons_getD0, bl_first]; congr 1; omega
  | succ i =>
    rw [cons_getDs, cons_getDs]
    by_cases hi : i < q
    · rw [shf_getD who k a b ds hi, nm_nm]
      refine nm_add_congr rfl ?_
      rw [nm_mull]
    · rw [getD_big (by rw [shf_len]; omega), getD_big (xs := ds) (by omega), getD_big (xs := bl who k) (by rw [bl_len]; omega), Int.mul_zero, Int.add_zero]
theorem shf_same {who : List Int} {k q j : Nat} {a b : Int} {ds : List Int} (hk : k ≤ q) (hq : ds.length = q) (hj : j < k) (hz : nm (who.getD j 0) ≠ 0) : nm (ev (b :: shf who k a b ds q) (who.getD j 0)) = nm (ev (a :: ds) (who.getD j 0)) := by
  rw [shf_ev hk hq, ← nm_addr, ← nm_mulr, bl_root hj hz, Int.mul_zero]
  show nm (_ + nm 0) = _
  rw [nm_addr, Int.add_zero]
theorem shf_back (who : List Int) (k : Nat) (a b : Int) (ds : List Int) {q i : Nat} (h : i < q) : (shf who k b a (shf who k a b ds q) q).getD i 0 = nm (ds.getD i 0) := by
  rw [shf_getD _ _ _ _ _ h, shf_getD _ _ _ _ _ h, nm_addl]
  have e : ∀ B : Int, nm (ds.getD i 0 + nm (b - a) * B + nm (a - b) * B) = nm (ds.getD i 0) := fun B => by
    rw [Int.add_assoc, ← Int.add_mul, ← nm_addr, ← nm_mull, nm_addl, nm_addr]
    have : nm (b - a + nm (a - b)) = 0 := by rw [nm_addr, show b - a + (a - b) = 0 by omega]; decide
    rw [this, Int.zero_mul]
    show nm (_ + nm 0) = _
    rw [nm_addr, Int.add_zero]
  exact e _
/-- The pairs of places of a dealing in two variables, in order. -/
def hpl (t : Nat) : List (Nat × Nat) := (List.range (t + 1)).flatMap fun i => ((List.range (t + 1)).filter fun j => decide (i ≤ j ∧ 0 < i + j)).map fun j => (i, j)
theorem hpl_len : ∀ t, t < 5 → (hpl t).length = (t + 1) * (t + 2) / 2 - 1 := by decide
theorem hpl_at : ∀ t, t < 5 → ∀ j, j < 5 → ∀ i, i ≤ j → j ≤ t → 0 < i + j → (hpl t).getD (nd2 (t : Nat) i + ((j : Int) - i)).toNat (0, 0) = (i, j) ∧ 0 ≤ nd2 (t : Nat) i + ((j : Int) - i) := by
  intro t ht j hj i hi hjt h0
  have h1 : t = 0 ∨ t = 1 ∨ t = 2 ∨ t = 3 ∨ t = 4 := by omega
  have h2 : j = 0 ∨ j = 1 ∨ j = 2 ∨ j = 3 ∨ j = 4 := by omega
  have h3 : i = 0 ∨ i = 1 ∨ i = 2 ∨ i = 3 ∨ i = 4 := by omega
  rcases h1 with rfl | rfl | rfl | rfl | rfl <;> rcases h2 with rfl | rfl | rfl | rfl | rfl <;> rcases h3 with rfl | rfl | rfl | rfl | rfl <;> first
    | (exfalso; omega)
    | exact ⟨by decide, by decide⟩
/-- Draws in two variables that are shifted. -/
def twf (who : List Int) (k : Nat) (a b : Int) (ds : List Int) (p : Nat) (x : Nat × Nat) : Int := nm (ds.getD p 0 + nm (b - a) * nm ((bl who k).getD x.1 0 * (bl who k).getD x.2 0))
def twl (who : List Int) (k : Nat) (a b : Int) (ds : List Int) (t q : Nat) : List Int := (List.range q).map fun p => twf who k a b ds p ((hpl t).getD p (0, 0))
theorem twl_len (who : List Int) (k : Nat) (a b : Int) (ds : List Int) (t q : Nat) : (twl who k a b ds t q).length = q := by simp [twl]
theorem twl_getD (who : List Int) (k : Nat) (a b : Int) (ds : List Int) (t : Nat) {q p : Nat} (h : p < q) : (twl who k a b ds t q).getD p 0 = twf who k a b ds p ((hpl t).getD p (0, 0)) := by simp [twl, h]
theorem twl_bd (who : List Int) (k : Nat) (a b : Int) (ds : List Int) (t q : Nat) : ∀ z ∈ twl who k a b ds t q, 0 ≤ z ∧ z ≤ 2147483646 := fun z hz => by
  obtain ⟨i, _, rfl⟩ := List.mem_map.1 hz
  exact nm_bd _
theorem twl_snoc (who : List Int) (k : Nat) (a b : Int) (ds : List Int) (t q : Nat) : twl who k a b ds t q ++ [twf who k a b ds q ((hpl t).getD q (0, 0))] = twl who k a b ds t (q + 1) := by simp [twl, List.range_succ]
theorem twl_le {who : List Int} {k t : Nat} {a b : Int} {ds : List Int} (ht : t ≤ 4) {i j : Nat} (hij : i ≤ j) (hj : j ≤ t) :
    nm (dn b (twl who k a b ds t ((t + 1) * (t + 2) / 2 - 1)) (nd2 t i + ((j : Int) - i))) = nm (dn a ds (nd2 t i + ((j : Int) - i)) + (b - a) * ((bl who k).getD i 0 * (bl who k).getD j 0)) := by
  by_cases h0 : i + j = 0
  · obtain rfl : i = 0 := by omega
    obtain rfl : j = 0 := by omega
    have e : nd2 (t : Int) 0 + (((0 : Nat) : Int) - ((0 : Nat) : Int)) = -1 := rfl
    rw [e]
    have e2 : ∀ (s : Int) (l : List Int), dn s l (-1) = s := fun s l => rfl
    rw [e2, e2, bl_first]
    congr 1
    omega
  · obtain ⟨h1, h2⟩ := hpl_at t (by omega) j (by omega) i hij hj (by omega)
    have h3 := (pos_bd t (by omega) j (by omega) i hij hj).2
    unfold dn
    rw [if_neg (by omega), if_neg (by omega), twl_getD _ _ _ _ _ _ (by omega), h1]
    unfold twf
    rw [nm_nm]
    refine nm_add_congr rfl ?_
    rw [nm_mull, nm_mulr]
theorem twl_A2 {who : List Int} {k t : Nat} {a b : Int} {ds : List Int} (ht : t ≤ 4) {i j : Nat} (hi : i ≤ t) (hj : j ≤ t) :
    A2 b (twl who k a b ds t ((t + 1) * (t + 2) / 2 - 1)) t i j = nm (A2 a ds t i j + (b - a) * ((bl who k).getD i 0 * (bl who k).getD j 0)) := by
  unfold A2
  by_cases h : i ≤ j
  · rw [if_pos h, if_pos h, nm_addl, twl_le ht h hj]
  · rw [if_neg h, if_neg h, nm_addl, twl_le ht (by omega) hi, Int.mul_comm ((bl who k).getD j 0)]
/-- The rows of those who look are the same. -/
theorem twl_row {who : List Int} {k t r : Nat} {a b : Int} {ds : List Int} (ht : t ≤ 4) (hk : k ≤ t) (hr : r < k) (hz : nm (who.getD r 0) ≠ 0) : rowK b (twl who k a b ds t ((t + 1) * (t + 2) / 2 - 1)) t (who.getD r 0) (t + 1) = rowK a ds t (who.getD r 0) (t + 1) := by
  unfold rowK
  refine List.map_congr_left fun j hj => ?_
  have hj := List.mem_range.1 hj
  have e : nm (ev (colA b (twl who k a b ds t ((t + 1) * (t + 2) / 2 - 1)) t j) (who.getD r 0)) = nm (ev (adl ((b - a) * (bl who k).getD j 0) (colA a ds t j) (bl who k)) (who.getD r 0)) := by
    refine ev_congr _ _ _ fun i => ?_
    rw [adl_getD]
    by_cases hi : i ≤ t
    · rw [colA_getD _ _ _ _ hi, colA_getD _ _ _ _ hi, twl_A2 ht hi (by omega), nm_nm, Int.mul_assoc, Int.mul_comm ((bl who k).getD j 0)]
    · have z1 : (colA b (twl who k a b ds t ((t + 1) * (t + 2) / 2 - 1)) t j).getD i 0 = 0 := getD_big (by rw [colA_len]; omega)
      have z2 : (colA a ds t j).getD i 0 = 0 := getD_big (by rw [colA_len]; omega)
      have z3 : (bl who k).getD i 0 = 0 := getD_big (by rw [bl_len]; omega)
      rw [z1, z2, z3, Int.mul_zero, Int.add_zero]
  rw [e, adl_ev, ← nm_addr, ← nm_mulr, bl_root hr hz, Int.mul_zero]
  show nm (_ + nm 0) = _
  rw [nm_addr, Int.add_zero]
end Go.Proofs.YtgmelcdgnjcojagDoor

namespace Go.Proofs.YtgmelcdgnjcojagDoor
open Go.RowKit Crm

/-- What is wrong with what Shift is handed. -/
def Hse (who : List Int) (k q : Nat) (r : Int) : Prop := (¬ dis (fi who) k ∧ r = 5) ∨ (dis (fi who) k ∧ ((¬ (q ≤ 4 ∧ k ≤ q) ∧ r = 1) ∨ ((q ≤ 4 ∧ k ≤ q) ∧ r = 0)))
theorem Hse.one {who : List Int} {k q : Nat} {r s : Int} (h : Hse who k q r) (g : Hse who k q s) : r = s := by
  rcases h with ⟨h1, rfl⟩ | ⟨h1, ⟨h2, rfl⟩ | ⟨h2, rfl⟩⟩ <;> rcases g with ⟨k1, rfl⟩ | ⟨k1, ⟨k2, rfl⟩ | ⟨k2, rfl⟩⟩
  all_goals first
    | rfl
    | exact absurd k1 h1
    | exact absurd h1 k1
    | exact absurd k2 h2
    | exact absurd h2 k2
theorem Hse.ok {who : List Int} {k q : Nat} (h : Hse who k q 0) : dis (fi who) k ∧ q ≤ 4 ∧ k ≤ q := by
  rcases h with ⟨_, h⟩ | ⟨h1, ⟨_, h⟩ | ⟨h2, _⟩⟩
  · omega
  · omega
  · exact ⟨h1, h2.1, h2.2⟩
/-- What Shift answers. -/
def Hsh (who : List Int) (k : Nat) (a b : Int) (ds : List Int) (q : Nat) (w : World) (e : Ending) (w' : World) : Prop :=
  ((∃ r, r ≠ 0 ∧ Hse who k q r ∧ e = .returned (.tuple #[.slice none 0 0, .int .i64 r])) ∨
   (Hse who k q 0 ∧ ∃ v, e = .returned (.tuple #[v, .int .i64 0]) ∧ w'.ownsRow w.heap.size 34 1 v q ((shf who k a b ds q).map (Value.int .u64)))) ∧ Below w.heap.size w w'
/-- What is wrong with what Twine is handed. -/
def Hte (who : List Int) (k : Nat) (t : Int) (q : Nat) (r : Int) : Prop := (¬ dis (fi who) k ∧ r = 5) ∨ (dis (fi who) k ∧ ((¬ ((0 ≤ t ∧ t ≤ 4) ∧ (k : Int) ≤ t ∧ q = need2 t.toNat) ∧ r = 1) ∨ (((0 ≤ t ∧ t ≤ 4) ∧ (k : Int) ≤ t ∧ q = need2 t.toNat) ∧ r = 0)))
theorem Hte.one {who : List Int} {k q : Nat} {t r s : Int} (h : Hte who k t q r) (g : Hte who k t q s) : r = s := by
  rcases h with ⟨h1, rfl⟩ | ⟨h1, ⟨h2, rfl⟩ | ⟨h2, rfl⟩⟩ <;> rcases g with ⟨k1, rfl⟩ | ⟨k1, ⟨k2, rfl⟩ | ⟨k2, rfl⟩⟩
  all_goals first
    | rfl
    | exact absurd k1 h1
    | exact absurd h1 k1
    | exact absurd k2 h2
    | exact absurd h2 k2
theorem Hte.ok {who : List Int} {k q : Nat} {t : Int} (h : Hte who k t q 0) : dis (fi who) k ∧ (0 ≤ t ∧ t ≤ 4) ∧ (k : Int) ≤ t ∧ q = need2 t.toNat := by
  rcases h with ⟨_, h⟩ | ⟨h1, ⟨_, h⟩ | ⟨h2, _⟩⟩
  · omega
  · omega
  · exact ⟨h1, h2⟩
/-- What Twine answers. -/
def Htw (who : List Int) (k : Nat) (t : Int) (a b : Int) (ds : List Int) (q : Nat) (w : World) (e : Ending) (w' : World) : Prop :=
  ((∃ r, r ≠ 0 ∧ Hte who k t q r ∧ e = .returned (.tuple #[.slice none 0 0, .int .i64 r])) ∨
   (Hte who k t q 0 ∧ ∃ v, e = .returned (.tuple #[v, .int .i64 0]) ∧ w'.ownsRow w.heap.size 34 1 v q ((twl who k a b ds t.toNat q).map (Value.int .u64)))) ∧ Below w.heap.size w w'
/-- What is told. -/
def wls (who : List Int) (k : Nat) (a b : Int) (ds : List Int) (q : Nat) (r : Int) : List Int := if r = 0 then shf who k a b ds q else []
def wlt (who : List Int) (k : Nat) (t : Int) (a b : Int) (ds : List Int) (q : Nat) (r : Int) : List Int := if r = 0 then twl who k a b ds t.toNat q else []
theorem Hsh.rd {who : List Int} {k q : Nat} {a b r : Int} {ds : List Int} {w w' : World} {e : Ending} (h : Hsh who k a b ds q w e w') (hr : Hse who k q r) : ∃ a' c', e = .returned (.tuple #[.slice a' (wls who k a b ds q r).length c', .int .i64 r]) ∧ Rd w' a' (wls who k a b ds q r).length c' (wls who k a b ds q r) := by
  rcases h.1 with ⟨s, h1, h2, rfl⟩ | ⟨h1, v, rfl, ho⟩
  · obtain rfl := h2.one hr
    unfold wls
    rw [if_neg h1]
    exact ⟨none, 0, rfl, nil_rd _⟩
  · obtain rfl : 0 = r := h1.one hr
    unfold wls
    rw [if_pos rfl, shf_len]
    obtain ⟨a', c', rfl, hr', _⟩ := Rd.own ho (bd_u64 (shf_bd _ _ _ _ _ _))
    exact ⟨a', c', rfl, hr'⟩
theorem Htw.rd {who : List Int} {k q : Nat} {t a b r : Int} {ds : List Int} {w w' : World} {e : Ending} (h : Htw who k t a b ds q w e w') (hr : Hte who k t q r) : ∃ a' c', e = .returned (.tuple #[.slice a' (wlt who k t a b ds q r).length c', .int .i64 r]) ∧ Rd w' a' (wlt who k t a b ds q r).length c' (wlt who k t a b ds q r) := by
  rcases h.1 with ⟨s, h1, h2, rfl⟩ | ⟨h1, v, rfl, ho⟩
  · obtain rfl := h2.one hr
    unfold wlt
    rw [if_neg h1]
    exact ⟨none, 0, rfl, nil_rd _⟩
  · obtain rfl : 0 = r := h1.one hr
    unfold wlt
    rw [if_pos rfl, twl_len]
    obtain ⟨a', c', rfl, hr', _⟩ := Rd.own ho (bd_u64 (twl_bd _ _ _ _ _ _ _))
    exact ⟨a', c', rfl, hr'⟩
theorem Hsh.told {who : List Int} {k q : Nat} {a b : Int} {ds : List Int} {w w' : World} {e : Ending} (h : Hsh who k a b ds q w e w') (hr : Hse who k q 0) : ∃ a' c', e = .returned (.tuple #[.slice a' q c', .int .i64 0]) ∧ Rd w' a' q c' (shf who k a b ds q) := by
  obtain ⟨a', c', e1, h1⟩ := h.rd hr
  have e2 : wls who k a b ds q 0 = shf who k a b ds q := if_pos rfl
  rw [e2, shf_len] at e1 h1
  exact ⟨a', c', e1, h1⟩
theorem Htw.told {who : List Int} {k q : Nat} {t a b : Int} {ds : List Int} {w w' : World} {e : Ending} (h : Htw who k t a b ds q w e w') (hr : Hte who k t q 0) : ∃ a' c', e = .returned (.tuple #[.slice a' q c', .int .i64 0]) ∧ Rd w' a' q c' (twl who k a b ds t.toNat q) := by
  obtain ⟨a', c', e1, h1⟩ := h.rd hr
  have e2 : wlt who k t a b ds q 0 = twl who k a b ds t.toNat q := if_pos rfl
  rw [e2, twl_len] at e1 h1
  exact ⟨a', c', e1, h1⟩
/-- A list that is gathered reads as what is told. -/
def Gth (L : List Int) (w : World) (v : Value) : Prop := ∃ a c, v = .slice a L.length c ∧ Rd w a L.length c L
theorem gth_nil (w : World) : Gth [] w (.slice none 0 0) := ⟨none, 0, rfl, nil_rd _⟩
theorem gth_own {w : World} {B n : Nat} {v : Value} {L : List Int} (h : w.ownsRow B 34 1 v n (L.map (Value.int .u64))) (hl : L.length = n) (hb : ∀ x ∈ L, 0 ≤ x ∧ x ≤ 18446744073709551615) : Gth L w v := by
  subst hl
  obtain ⟨a, c, rfl, hr, _⟩ := Rd.own h hb
  exact ⟨a, c, rfl, hr⟩
theorem dis_nz {who : List Int} {k : Nat} (h : dis (fi who) k) : ∀ j, j < k → nm (who.getD j 0) ≠ 0 := fun j hj => by
  have := (h j hj).1
  unfold fi at this
  rw [nm_small (by omega) (by omega)]
  omega
end Go.Proofs.YtgmelcdgnjcojagDoor

namespace Go.Proofs.YtgmelcdgnjcojagDoor
open Go.RowKit Crm

/-- Row g holds the marks M. -/
def BlkT (w : World) (g : Nat) (M : List Bool) : Prop := w.heap[g]? = some (.cells (M.map Value.bool).toArray 143 (0, 0))
theorem BlkT.lt {w : World} {g : Nat} {M : List Bool} (h : BlkT w g M) : g < w.heap.size := (Array.getElem?_eq_some_iff.1 h).1
theorem BlkT.cell {w : World} {g : Nat} {M : List Bool} (h : BlkT w g M) {i : Nat} (hi : i < M.length) : w.cell? ⟨g, i, none⟩ = some (.bool (M.getD i false)) := by
  rw [cell_of_row w g i _ _ (0, 0) h]
  simp [List.getElem?_eq_getElem hi]
theorem BlkT.frozen {w : World} {g : Nat} {M : List Bool} (h : BlkT w g M) (i : Nat) : w.frozen? ⟨g, i, none⟩ = false := frozen_of_row w g i _ _ h
theorem BlkT.set {w : World} {g : Nat} {M : List Bool} (h : BlkT w g M) (i : Nat) (v : Bool) : BlkT (w.setCell ⟨g, i, none⟩ (.bool v)) g (M.set i v) := by
  have := heap_setCell_same w g i _ _ (.bool v) h
  unfold BlkT
  rw [this]
  simp [List.map_set]

set_option maxRecDepth 100000 in
set_option maxHeartbeats 1000000 in
theorem hDifferent (a : Option Addr) (n c : Nat) (ts : List Int) (w : World) (h : RdI w a n c ts) :
    Calls Tryd.prog 57 #[.slice a n c] w fun e w' => Tells (dis (fi ts) n) w e w' := by
  have hcap := h.cap
  have hmax := h.max
  unfold maxLen at hmax
  go_enter Tryd.func57, Tryd.ntmps57
  go_wp2
  go_loopw [8] (fun i wr => ∃ (k : Nat) (M : List Bool), k ≤ n ∧ i = .int .i64 k ∧ Hid (Mk (fi ts) k M) ∧ BlkT wr w.heap.size M ∧ Below w.heap.size w wr) (fun i _ => n - (intOf i).toNat)
  case atStart => exact ⟨0, _, Nat.zero_le _, rfl, mk_start _, heap_alloc_new w _, (Below.refl _ _).alloc (Nat.le_refl _) _⟩
  case round =>
    obtain ⟨k, M, hk, rfl, HM, hB, hbel⟩ := hrel
    have hlM := HM.out.len
    have hltB := hB.lt
    by_cases hlt : k < n
    · obtain ⟨b, o, x, rfl, hbb, HX, hx0, hx1, hcx⟩ := (h.below hbel).one hlt
      by_cases hx2 : x < 1
      · have HN : Hid (¬ dis (fi ts) n) := mk_out hlt HX.out (.inl hx2)
        go_wp2
        go_ret
        exact .no HN.out hbel
      · by_cases hx9 : 9 < x
        · have HN : Hid (¬ dis (fi ts) n) := mk_out hlt HX.out (.inr hx9)
          go_wp2
          go_ret
          exact .no HN.out hbel
        · obtain ⟨p, rfl⟩ : ∃ p : Nat, x = p := ⟨x.toNat, by omega⟩
          have hcp := hB.cell (i := p) (by omega)
          cases hm : M.getD p false with
          | true =>
            have HN : Hid (¬ dis (fi ts) n) := mk_twice HM.out hlt HX.out (by omega) (by omega) hm
            rw [hm] at hcp
            clear hm
            go_wp2
            go_ret
            exact .no HN.out hbel
          | false =>
            have HM2 : Hid (Mk (fi ts) (k + 1) (M.set p true)) := mk_step HM.out HX.out (by omega) (by omega) hm
            rw [hm] at hcp
            have hfz := hB.frozen p
            have hB3 := hB.set p true
            have hbel3 := below_grown hbel (grown_set wr w.heap.size p (.bool true)) (Nat.le_refl _)
            clear hm hB hbel
            go_wp2
            go_roundw
            case rel => exact ⟨k + 1, _, by omega, by go_num, HM2, hB3, hbel3⟩
            case measure => simp [intOf]; omega
    · have hkn : k = n := by omega
      subst hkn
      have HD : Hid (dis (fi ts) k) := HM.out.dis
      go_wp2
      go_ret
      exact .yes HD.out hbel
end Go.Proofs.YtgmelcdgnjcojagDoor
