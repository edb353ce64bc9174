/- Parties that reckon together: plain facts. · What is hidden: the polynomial that is nought at some parties and 1 at 0; draws that are shifted by it: plain facts. · croftkeep.dealt; shares that are written. -/
import Derived.Test.YtljlioglpaogdaeToSortM
import Derived.Test.YtljlioglpaogdaeToOpenC
import Derived.Test.YtljlioglpaogdaeCrewC
import Derived.Test.YtljlioglpaogdaeToGaussM
import Derived.Test.YtljlioglpaogdaeToCheckC
namespace Go.Proofs.Ytljlioglpaogdae
set_option linter.unusedVariables false
set_option maxRecDepth 100000
set_option maxHeartbeats 8000000
section
open Crm
/-- Draws that the first i gates take. -/
def dwn (G : List Gt) (n t : Nat) : Nat → Nat
  | 0 => 0
  | i + 1 => dwn G n t i + (if (gt G i).k = 1 then t else if (gt G i).k = 5 then n * t else 0)
/-- Who may run a circuit. -/
def okc (G : List Gt) (N : Nat) (n t : Int) : Prop := (0 ≤ t ∧ t ≤ 4) ∧ (1 ≤ n ∧ n ≤ 9) ∧ 2 * t + 1 ≤ n ∧ ∀ x ∈ whl G N, x ≤ n
/-- What Need tells. -/
def Nde (G : List Gt) (O : List Int) (N m : Nat) (n t r : Int) : Prop := (r ≠ 0 ∧ Cke G O N m r) ∨ (Cke G O N m 0 ∧ ((¬ okc G N n t ∧ r = 1) ∨ (okc G N n t ∧ r = 0)))
theorem Nde.one {G : List Gt} {O : List Int} {N m : Nat} {n t r s : Int} (h : Nde G O N m n t r) (k : Nde G O N m n t s) : r = s := by
  rcases h with ⟨h1, h2⟩ | ⟨h1, ⟨h2, rfl⟩ | ⟨h2, rfl⟩⟩ <;> rcases k with ⟨k1, k2⟩ | ⟨k1, ⟨k2, rfl⟩ | ⟨k2, rfl⟩⟩
  all_goals first
    | rfl
    | exact h2.one k2
    | exact absurd (h2.one k1) h1
    | exact absurd (k2.one h1) k1
    | exact absurd k2 h2
    | exact absurd h2 k2
theorem Nde.ok {G : List Gt} {O : List Int} {N m : Nat} {n t : Int} (h : Nde G O N m n t 0) : Cke G O N m 0 ∧ okc G N n t := by
  rcases h with ⟨h1, _⟩ | ⟨h1, ⟨_, h2⟩ | ⟨h2, _⟩⟩
  · exact absurd rfl h1
  · omega
  · exact ⟨h1, h2⟩
/-- What is wrong with a run. -/
def Ere (G : List Gt) (O : List Int) (N m : Nat) (n t : Int) (q d : Nat) (r : Int) : Prop :=
  (r ≠ 0 ∧ Nde G O N m n t r) ∨ (Nde G O N m n t 0 ∧ ((q ≠ ci G N ∧ r = 5) ∨ (q = ci G N ∧ ((d ≠ dwn G n.toNat t.toNat N ∧ r = 1) ∨ (d = dwn G n.toNat t.toNat N ∧ r = 0)))))
theorem Ere.one {G : List Gt} {O : List Int} {N m : Nat} {n t : Int} {q d : Nat} {r s : Int} (h : Ere G O N m n t q d r) (k : Ere G O N m n t q d s) : r = s := by
  rcases h with ⟨h1, h2⟩ | ⟨h1, ⟨h2, rfl⟩ | ⟨h2, ⟨h3, rfl⟩ | ⟨h3, rfl⟩⟩⟩ <;> rcases k with ⟨k1, k2⟩ | ⟨k1, ⟨k2, rfl⟩ | ⟨k2, ⟨k3, rfl⟩ | ⟨k3, rfl⟩⟩⟩
  all_goals first
    | rfl
    | exact h2.one k2
    | exact absurd (h2.one k1) h1
    | exact absurd (k2.one h1) k1
    | exact absurd k2 h2
    | exact absurd h2 k2
    | exact absurd k3 h3
    | exact absurd h3 k3
/-- For each of the first k parties, 1 less x by that party. -/
def bl (who : List Int) : Nat → List Int
  | 0 => [1]
  | k + 1 => cvl (bl who k) [1, nm (-(iv (who.getD k 0)))]
theorem bl_len (who : List Int) : ∀ k, (bl who k).length = k + 1
  | 0 => rfl
  | k + 1 => by rw [bl, cvl_len, bl_len who k]; rfl
theorem bl_bd (who : List Int) : ∀ k, ∀ x ∈ bl who k, 0 ≤ x ∧ x ≤ 2147483646
  | 0 => fun x hx => by rw [List.mem_singleton.1 hx]; decide
  | k + 1 => cvl_bd _ _
theorem bl_succ (who : List Int) (k : Nat) (x : Int) : nm (ev (bl who (k + 1)) x) = nm (ev (bl who k) x * (1 - x * iv (who.getD k 0))) := by
  rw [bl, cvl_ev]
  have e : ev [1, nm (-(iv (who.getD k 0)))] x = 1 + x * nm (-(iv (who.getD k 0))) := by simp [ev]
  rw [e]
  refine nm_mul_congr rfl ?_
  rw [← nm_addr, nm_mulr, nm_addr]
  congr 1
  rw [Int.mul_neg, ← Int.sub_eq_add_neg]
theorem bl_one (who : List Int) : ∀ k, nm (ev (bl who k) 0) = 1
  | 0 => by show nm (ev [1] 0) = 1; decide
  | k + 1 => by rw [bl_succ, ← nm_mull, bl_one who k, Int.zero_mul]; decide
theorem bl_first (who : List Int) (k : Nat) : (bl who k).getD 0 0 = 1 := by
  have h := bl_one who k
  have hb := getD_bd' (bl_bd who k) 0
  have hl := bl_len who k
  cases hq : bl who k with
  | nil => rw [hq] at hl; simp at hl
  | cons a l =>
    rw [hq] at h hb
    rw [ev, Int.zero_mul, Int.add_zero] at h
    rw [cons_getD0] at hb ⊢
    rw [nm_small hb.1 hb.2] at h
    exact h
/-- It is nought at each of them. -/
theorem bl_root {who : List Int} : ∀ {k j : Nat}, j < k → nm (who.getD j 0) ≠ 0 → nm (ev (bl who k) (who.getD j 0)) = 0
  | 0, j, h, _ => by omega
  | k + 1, j, h, hz => by
    rw [bl_succ]
    by_cases e : j = k
    · subst e
      have hi := iv_mul hz
      have e1 : nm (1 - who.getD j 0 * iv (who.getD j 0)) = 0 := by rw [← nm_subr, Int.mul_comm, hi]; decide
      rw [← nm_mulr, e1, Int.mul_zero]
      decide
    · rw [← nm_mull, bl_root (by omega) hz, Int.zero_mul]
      decide
/-- Draws that are shifted. -/
def shf (who : List Int) (k : Nat) (a b : Int) (ds : List Int) (q : Nat) : List Int := (List.range q).map fun i => nm (ds.getD i 0 + nm (b - a) * (bl who k).getD (i + 1) 0)
theorem shf_len (who : List Int) (k : Nat) (a b : Int) (ds : List Int) (q : Nat) : (shf who k a b ds q).length = q := by simp [shf]
theorem shf_bd (who : List Int) (k : Nat) (a b : Int) (ds : List Int) (q : Nat) : ∀ z ∈ shf who k a b ds q, 0 ≤ z ∧ z ≤ 2147483646 := fun z hz => by
  obtain ⟨i, _, rfl⟩ := List.mem_map.1 hz
  exact nm_bd _
/-- The pairs of places of a dealing in two variables, in order. -/
def hpl (t : Nat) : List (Nat × Nat) := (List.range (t + 1)).flatMap fun i => ((List.range (t + 1)).filter fun j => decide (i ≤ j ∧ 0 < i + j)).map fun j => (i, j)
theorem hpl_len : ∀ t, t < 5 → (hpl t).length = (t + 1) * (t + 2) / 2 - 1 := by decide
theorem hpl_at : ∀ t, t < 5 → ∀ j, j < 5 → ∀ i, i ≤ j → j ≤ t → 0 < i + j → (hpl t).getD (nd2 (t : Nat) i + ((j : Int) - i)).toNat (0, 0) = (i, j) ∧ 0 ≤ nd2 (t : Nat) i + ((j : Int) - i) := by
  intro t ht j hj i hi hjt h0
  have h1 : t = 0 ∨ t = 1 ∨ t = 2 ∨ t = 3 ∨ t = 4 := by omega
  have h2 : j = 0 ∨ j = 1 ∨ j = 2 ∨ j = 3 ∨ j = 4 := by omega
  have h3 : i = 0 ∨ i = 1 ∨ i = 2 ∨ i = 3 ∨ i = 4 := by omega
  rcases h1 with rfl | rfl | rfl | rfl | rfl <;> rcases h2 with rfl | rfl | rfl | rfl | rfl <;> rcases h3 with rfl | rfl | rfl | rfl | rfl <;> first
    | (exfalso; omega)
    | exact ⟨by decide, by decide⟩
/-- Draws in two variables that are shifted. -/
def twf (who : List Int) (k : Nat) (a b : Int) (ds : List Int) (p : Nat) (x : Nat × Nat) : Int := nm (ds.getD p 0 + nm (b - a) * nm ((bl who k).getD x.1 0 * (bl who k).getD x.2 0))
def twl (who : List Int) (k : Nat) (a b : Int) (ds : List Int) (t q : Nat) : List Int := (List.range q).map fun p => twf who k a b ds p ((hpl t).getD p (0, 0))
theorem twl_len (who : List Int) (k : Nat) (a b : Int) (ds : List Int) (t q : Nat) : (twl who k a b ds t q).length = q := by simp [twl]
theorem twl_getD (who : List Int) (k : Nat) (a b : Int) (ds : List Int) (t : Nat) {q p : Nat} (h : p < q) : (twl who k a b ds t q).getD p 0 = twf who k a b ds p ((hpl t).getD p (0, 0)) := by simp [twl, h]
theorem twl_bd (who : List Int) (k : Nat) (a b : Int) (ds : List Int) (t q : Nat) : ∀ z ∈ twl who k a b ds t q, 0 ≤ z ∧ z ≤ 2147483646 := fun z hz => by
  obtain ⟨i, _, rfl⟩ := List.mem_map.1 hz
  exact nm_bd _
theorem twl_le {who : List Int} {k t : Nat} {a b : Int} {ds : List Int} (ht : t ≤ 4) {i j : Nat} (hij : i ≤ j) (hj : j ≤ t) :
    nm (dn b (twl who k a b ds t ((t + 1) * (t + 2) / 2 - 1)) (nd2 t i + ((j : Int) - i))) = nm (dn a ds (nd2 t i + ((j : Int) - i)) + (b - a) * ((bl who k).getD i 0 * (bl who k).getD j 0)) := by
  by_cases h0 : i + j = 0
  · obtain rfl : i = 0 := by omega
    obtain rfl : j = 0 := by omega
    have e : nd2 (t : Int) 0 + (((0 : Nat) : Int) - ((0 : Nat) : Int)) = -1 := rfl
    rw [e]
    have e2 : ∀ (s : Int) (l : List Int), dn s l (-1) = s := fun s l => rfl
    rw [e2, e2, bl_first]
    congr 1
    omega
  · obtain ⟨h1, h2⟩ := hpl_at t (by omega) j (by omega) i hij hj (by omega)
    have h3 := (pos_bd t (by omega) j (by omega) i hij hj).2
    unfold dn
    rw [if_neg (by omega), if_neg (by omega), twl_getD _ _ _ _ _ _ (by omega), h1]
    unfold twf
    rw [nm_nm]
    refine nm_add_congr rfl ?_
    rw [nm_mull, nm_mulr]
theorem twl_A2 {who : List Int} {k t : Nat} {a b : Int} {ds : List Int} (ht : t ≤ 4) {i j : Nat} (hi : i ≤ t) (hj : j ≤ t) :
    A2 b (twl who k a b ds t ((t + 1) * (t + 2) / 2 - 1)) t i j = nm (A2 a ds t i j + (b - a) * ((bl who k).getD i 0 * (bl who k).getD j 0)) := by
  unfold A2
  by_cases h : i ≤ j
  · rw [if_pos h, if_pos h, nm_addl, twl_le ht h hj]
  · rw [if_neg h, if_neg h, nm_addl, twl_le ht (by omega) hi, Int.mul_comm ((bl who k).getD j 0)]
/-- The rows of those who look are the same. -/
theorem twl_row {who : List Int} {k t r : Nat} {a b : Int} {ds : List Int} (ht : t ≤ 4) (hk : k ≤ t) (hr : r < k) (hz : nm (who.getD r 0) ≠ 0) : rowK b (twl who k a b ds t ((t + 1) * (t + 2) / 2 - 1)) t (who.getD r 0) (t + 1) = rowK a ds t (who.getD r 0) (t + 1) := by
  unfold rowK
  refine List.map_congr_left fun j hj => ?_
  have hj := List.mem_range.1 hj
  have e : nm (ev (colA b (twl who k a b ds t ((t + 1) * (t + 2) / 2 - 1)) t j) (who.getD r 0)) = nm (ev (adl ((b - a) * (bl who k).getD j 0) (colA a ds t j) (bl who k)) (who.getD r 0)) := by
    refine ev_congr _ _ _ fun i => ?_
    rw [adl_getD]
    by_cases hi : i ≤ t
    · rw [colA_getD _ _ _ _ hi, colA_getD _ _ _ _ hi, twl_A2 ht hi (by omega), nm_nm, Int.mul_assoc, Int.mul_comm ((bl who k).getD j 0)]
    · have z1 : (colA b (twl who k a b ds t ((t + 1) * (t + 2) / 2 - 1)) t j).getD i 0 = 0 := getD_big (by rw [colA_len]; omega)
      have z2 : (colA a ds t j).getD i 0 = 0 := getD_big (by rw [colA_len]; omega)
      have z3 : (bl who k).getD i 0 = 0 := getD_big (by rw [bl_len]; omega)
      rw [z1, z2, z3, Int.mul_zero, Int.add_zero]
  rw [e, adl_ev, ← nm_addr, ← nm_mulr, bl_root hr hz, Int.mul_zero]
  show nm (_ + nm 0) = _
  rw [nm_addr, Int.add_zero]
end
section
open Crm Go.RowKit
theorem own_set2 {w : World} {B n c g : Nat} {E : TypeId} {xs : List Value} (h : w.ownsRow B E 2 (.slice (some ⟨g, 0, none⟩) n c) n xs) (i : Nat) (u : Value) : (w.setCell ⟨g, i, none⟩ u).ownsRow B E 2 (.slice (some ⟨g, 0, none⟩) n c) n (xs.set i u) := by
  refine ⟨by rw [List.length_set]; exact h.1, .inr ?_⟩
  rcases h.2 with ⟨e, _⟩ | ⟨g', cap, cur, e, hb, hg, h1, h2, hs, ht⟩
  · simp at e
  · simp only [Value.slice.injEq, Option.some.injEq, Addr.mk.injEq, and_true, true_and] at e
    obtain ⟨rfl, rfl⟩ := e
    refine ⟨g, c, _, rfl, hb, heap_setCell_same w g i _ _ _ hg, h1, h2, by simpa using hs, ?_⟩
    rw [← ht]
    simp [List.take_set]
theorem own_frozen2 {w : World} {B n c g : Nat} {E : TypeId} {xs : List Value} (h : w.ownsRow B E 2 (.slice (some ⟨g, 0, none⟩) n c) n xs) (i : Nat) : w.frozen? ⟨g, i, none⟩ = false := by
  rcases h.2 with ⟨e, _⟩ | ⟨g', cap, cur, e, hb, hg, _⟩
  · simp at e
  · simp only [Value.slice.injEq, Option.some.injEq, Addr.mk.injEq, and_true, true_and] at e
    obtain ⟨rfl, rfl⟩ := e
    exact frozen_of_row w g i _ _ hg
theorem sh_cell {w : World} {base n c g : Nat} {E : TypeId} {l : List (Int × Int)} (h : w.ownsRow base E 2 (.slice (some ⟨g, 0, none⟩) n c) n (shc l)) (hl : l.length = n) {k : Nat} (hk : k < n) :
    w.cell? ⟨g, k * 2, none⟩ = some (.int .i64 (l.getD k (0, 0)).1) ∧ w.cell? ⟨g, k * 2 + 1, none⟩ = some (.int .u64 (l.getD k (0, 0)).2) := by
  have h1 := shc_get l k (by omega)
  have a1 := h.cells (g := g) rfl _ _ h1.1
  have a2 := h.cells (g := g) rfl _ _ h1.2
  rw [Addr.add_lit] at a1 a2
  exact ⟨by simpa using a1, by simpa using a2⟩
end
end Go.Proofs.Ytljlioglpaogdae
