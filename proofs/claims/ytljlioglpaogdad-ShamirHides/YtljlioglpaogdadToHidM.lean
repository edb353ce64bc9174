/- Reckoning with shares: plain facts. · Parties that reckon together: plain facts. · What is hidden: the polynomial that is nought at some parties and 1 at 0; draws that are shifted by it: plain facts. -/
import Derived.Test.YtljlioglpaogdadToOpenC
import Derived.Test.YtljlioglpaogdadToLstC
import Derived.Test.YtljlioglpaogdadToPolyM3
import Derived.Test.YtljlioglpaogdadToSortM
import Derived.Test.YtljlioglpaogdadToOcC
import Derived.Test.YtljlioglpaogdadToSomeC
import Derived.Test.YtljlioglpaogdadProg
import Derived.WalkKit
import Derived.WalkSpells
import Derived.WalkLawsBesides
namespace Go.Proofs.Ytljlioglpaogdad
set_option linter.unusedVariables false
set_option maxRecDepth 100000
set_option maxHeartbeats 8000000
section
open Crm
/-- Shares of all parties' numbers are those of the polynomial that has them. -/
theorem shl_hs {C L : List Int} {n : Nat} (h : ∀ i, i < n → L.getD i 0 = nm (ev C ((i : Int) + 1))) : Hs (shl L n) n C := fun j hj => by
  rw [shl_getD L hj]
  simp only
  rw [h j hj, nm_nm]
theorem shl_dis (L : List Int) {n : Nat} (h : n ≤ 9) : dis (fa (shl L n)) n := fun i hi => by
  unfold fa
  rw [shl_getD L hi]
  exact ⟨⟨by simp only; omega, by simp only; omega⟩, fun j hj => by rw [shl_getD L (show j < n by omega)]; simp only; omega⟩
/-- What Open tells of them. -/
theorem shl_open {C L : List Int} {n t : Nat} {x r : Int} (hn : n ≤ 9) (ht : t ≤ 4) (htn : t < n) (hC : C.length ≤ t + 1) (h : ∀ i, i < n → L.getD i 0 = nm (ev C ((i : Int) + 1))) (hO : Opn (shl L n) n t x r) : x = nm (ev C 0) ∧ r = 0 :=
  any_open (shl_dis L hn) ht htn hC (shl_hs h) hO
/-- Draws that the first i gates take. -/
def dwn (G : List Gt) (n t : Nat) : Nat → Nat
  | 0 => 0
  | i + 1 => dwn G n t i + (if (gt G i).k = 1 then t else if (gt G i).k = 5 then n * t else 0)
/-- Who may run a circuit. -/
def okc (G : List Gt) (N : Nat) (n t : Int) : Prop := (0 ≤ t ∧ t ≤ 4) ∧ (1 ≤ n ∧ n ≤ 9) ∧ 2 * t + 1 ≤ n ∧ ∀ x ∈ whl G N, x ≤ n
/-- What Need tells. -/
def Nde (G : List Gt) (O : List Int) (N m : Nat) (n t r : Int) : Prop := (r ≠ 0 ∧ Cke G O N m r) ∨ (Cke G O N m 0 ∧ ((¬ okc G N n t ∧ r = 1) ∨ (okc G N n t ∧ r = 0)))
theorem Nde.one {G : List Gt} {O : List Int} {N m : Nat} {n t r s : Int} (h : Nde G O N m n t r) (k : Nde G O N m n t s) : r = s := by
  rcases h with ⟨h1, h2⟩ | ⟨h1, ⟨h2, rfl⟩ | ⟨h2, rfl⟩⟩ <;> rcases k with ⟨k1, k2⟩ | ⟨k1, ⟨k2, rfl⟩ | ⟨k2, rfl⟩⟩
  all_goals first
    | rfl
    | exact h2.one k2
    | exact absurd (h2.one k1) h1
    | exact absurd (k2.one h1) k1
    | exact absurd k2 h2
    | exact absurd h2 k2
theorem Nde.ok {G : List Gt} {O : List Int} {N m : Nat} {n t : Int} (h : Nde G O N m n t 0) : Cke G O N m 0 ∧ okc G N n t := by
  rcases h with ⟨h1, _⟩ | ⟨h1, ⟨_, h2⟩ | ⟨h2, _⟩⟩
  · exact absurd rfl h1
  · omega
  · exact ⟨h1, h2⟩
/-- What is wrong with a run. -/
def Ere (G : List Gt) (O : List Int) (N m : Nat) (n t : Int) (q d : Nat) (r : Int) : Prop :=
  (r ≠ 0 ∧ Nde G O N m n t r) ∨ (Nde G O N m n t 0 ∧ ((q ≠ ci G N ∧ r = 5) ∨ (q = ci G N ∧ ((d ≠ dwn G n.toNat t.toNat N ∧ r = 1) ∨ (d = dwn G n.toNat t.toNat N ∧ r = 0)))))
theorem Ere.one {G : List Gt} {O : List Int} {N m : Nat} {n t : Int} {q d : Nat} {r s : Int} (h : Ere G O N m n t q d r) (k : Ere G O N m n t q d s) : r = s := by
  rcases h with ⟨h1, h2⟩ | ⟨h1, ⟨h2, rfl⟩ | ⟨h2, ⟨h3, rfl⟩ | ⟨h3, rfl⟩⟩⟩ <;> rcases k with ⟨k1, k2⟩ | ⟨k1, ⟨k2, rfl⟩ | ⟨k2, ⟨k3, rfl⟩ | ⟨k3, rfl⟩⟩⟩
  all_goals first
    | rfl
    | exact h2.one k2
    | exact absurd (h2.one k1) h1
    | exact absurd (k2.one h1) k1
    | exact absurd k2 h2
    | exact absurd h2 k2
    | exact absurd k3 h3
    | exact absurd h3 k3
/-- For each of the first k parties, 1 less x by that party. -/
def bl (who : List Int) : Nat → List Int
  | 0 => [1]
  | k + 1 => cvl (bl who k) [1, nm (-(iv (who.getD k 0)))]
theorem bl_len (who : List Int) : ∀ k, (bl who k).length = k + 1
  | 0 => rfl
  | k + 1 => by rw [bl, cvl_len, bl_len who k]; rfl
theorem bl_bd (who : List Int) : ∀ k, ∀ x ∈ bl who k, 0 ≤ x ∧ x ≤ 2147483646
  | 0 => fun x hx => by rw [List.mem_singleton.1 hx]; decide
  | k + 1 => cvl_bd _ _
theorem bl_succ (who : List Int) (k : Nat) (x : Int) : nm (ev (bl who (k + 1)) x) = nm (ev (bl who k) x * (1 - x * iv (who.getD k 0))) := by
  rw [bl, cvl_ev]
  have e : ev [1, nm (-(iv (who.getD k 0)))] x = 1 + x * nm (-(iv (who.getD k 0))) := by simp [ev]
  rw [e]
  refine nm_mul_congr rfl ?_
  rw [← nm_addr, nm_mulr, nm_addr]
  congr 1
  rw [Int.mul_neg, ← Int.sub_eq_add_neg]
theorem bl_one (who : List Int) : ∀ k, nm (ev (bl who k) 0) = 1
  | 0 => by show nm (ev [1] 0) = 1; decide
  | k + 1 => by rw [bl_succ, ← nm_mull, bl_one who k, Int.zero_mul]; decide
theorem bl_first (who : List Int) (k : Nat) : (bl who k).getD 0 0 = 1 := by
  have h := bl_one who k
  have hb := getD_bd' (bl_bd who k) 0
  have hl := bl_len who k
  cases hq : bl who k with
  | nil => rw [hq] at hl; simp at hl
  | cons a l =>
    rw [hq] at h hb
    rw [ev, Int.zero_mul, Int.add_zero] at h
    rw [cons_getD0] at hb ⊢
    rw [nm_small hb.1 hb.2] at h
    exact h
/-- It is nought at each of them. -/
theorem bl_root {who : List Int} : ∀ {k j : Nat}, j < k → nm (who.getD j 0) ≠ 0 → nm (ev (bl who k) (who.getD j 0)) = 0
  | 0, j, h, _ => by omega
  | k + 1, j, h, hz => by
    rw [bl_succ]
    by_cases e : j = k
    · subst e
      have hi := iv_mul hz
      have e1 : nm (1 - who.getD j 0 * iv (who.getD j 0)) = 0 := by rw [← nm_subr, Int.mul_comm, hi]; decide
      rw [← nm_mulr, e1, Int.mul_zero]
      decide
    · rw [← nm_mull, bl_root (by omega) hz, Int.zero_mul]
      decide
/-- Draws that are shifted. -/
def shf (who : List Int) (k : Nat) (a b : Int) (ds : List Int) (q : Nat) : List Int := (List.range q).map fun i => nm (ds.getD i 0 + nm (b - a) * (bl who k).getD (i + 1) 0)
theorem shf_len (who : List Int) (k : Nat) (a b : Int) (ds : List Int) (q : Nat) : (shf who k a b ds q).length = q := by simp [shf]
theorem shf_getD (who : List Int) (k : Nat) (a b : Int) (ds : List Int) {q i : Nat} (h : i < q) : (shf who k a b ds q).getD i 0 = nm (ds.getD i 0 + nm (b - a) * (bl who k).getD (i + 1) 0) := by simp [shf, h]
theorem shf_bd (who : List Int) (k : Nat) (a b : Int) (ds : List Int) (q : Nat) : ∀ z ∈ shf who k a b ds q, 0 ≤ z ∧ z ≤ 2147483646 := fun z hz => by
  obtain ⟨i, _, rfl⟩ := List.mem_map.1 hz
  exact nm_bd _
/-- What they tell. -/
theorem shf_ev {who : List Int} {k q : Nat} {a b : Int} {ds : List Int} (hk : k ≤ q) (hq : ds.length = q) (x : Int) : nm (ev (b :: shf who k a b ds q) x) = nm (ev (a :: ds) x + (b - a) * ev (bl who k) x) := by
  rw [← adl_ev]
  refine ev_congr _ _ _ fun t => ?_
  rw [adl_getD]
  cases t with
  | zero => rw [cons_getD0, cons_getD0, bl_first]; congr 1; omega
  | succ i =>
    rw [cons_getDs, cons_getDs]
    by_cases hi : i < q
    · rw [shf_getD who k a b ds hi, nm_nm]
      refine nm_add_congr rfl ?_
      rw [nm_mull]
    · rw [getD_big (by rw [shf_len]; omega), getD_big (xs := ds) (by omega), getD_big (xs := bl who k) (by rw [bl_len]; omega), Int.mul_zero, Int.add_zero]
theorem shf_same {who : List Int} {k q j : Nat} {a b : Int} {ds : List Int} (hk : k ≤ q) (hq : ds.length = q) (hj : j < k) (hz : nm (who.getD j 0) ≠ 0) : nm (ev (b :: shf who k a b ds q) (who.getD j 0)) = nm (ev (a :: ds) (who.getD j 0)) := by
  rw [shf_ev hk hq, ← nm_addr, ← nm_mulr, bl_root hj hz, Int.mul_zero]
  show nm (_ + nm 0) = _
  rw [nm_addr, Int.add_zero]
theorem shf_back (who : List Int) (k : Nat) (a b : Int) (ds : List Int) {q i : Nat} (h : i < q) : (shf who k b a (shf who k a b ds q) q).getD i 0 = nm (ds.getD i 0) := by
  rw [shf_getD _ _ _ _ _ h, shf_getD _ _ _ _ _ h, nm_addl]
  have e : ∀ B : Int, nm (ds.getD i 0 + nm (b - a) * B + nm (a - b) * B) = nm (ds.getD i 0) := fun B => by
    rw [Int.add_assoc, ← Int.add_mul, ← nm_addr, ← nm_mull, nm_addl, nm_addr]
    have : nm (b - a + nm (a - b)) = 0 := by rw [nm_addr, show b - a + (a - b) = 0 by omega]; decide
    rw [this, Int.zero_mul]
    show nm (_ + nm 0) = _
    rw [nm_addr, Int.add_zero]
  exact e _
/-- The pairs of places of a dealing in two variables, in order. -/
def hpl (t : Nat) : List (Nat × Nat) := (List.range (t + 1)).flatMap fun i => ((List.range (t + 1)).filter fun j => decide (i ≤ j ∧ 0 < i + j)).map fun j => (i, j)
/-- Draws in two variables that are shifted. -/
def twf (who : List Int) (k : Nat) (a b : Int) (ds : List Int) (p : Nat) (x : Nat × Nat) : Int := nm (ds.getD p 0 + nm (b - a) * nm ((bl who k).getD x.1 0 * (bl who k).getD x.2 0))
def twl (who : List Int) (k : Nat) (a b : Int) (ds : List Int) (t q : Nat) : List Int := (List.range q).map fun p => twf who k a b ds p ((hpl t).getD p (0, 0))
theorem twl_len (who : List Int) (k : Nat) (a b : Int) (ds : List Int) (t q : Nat) : (twl who k a b ds t q).length = q := by simp [twl]
theorem twl_bd (who : List Int) (k : Nat) (a b : Int) (ds : List Int) (t q : Nat) : ∀ z ∈ twl who k a b ds t q, 0 ≤ z ∧ z ≤ 2147483646 := fun z hz => by
  obtain ⟨i, _, rfl⟩ := List.mem_map.1 hz
  exact nm_bd _
end
end Go.Proofs.Ytljlioglpaogdad
