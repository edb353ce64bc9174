/- croftref.Sum. · croftref.TwoDeal. -/
import Derived.Test.YtnofegdlainjaaeToRefPolyC
import Derived.Test.YtnofegdlainjaaeToPolyM2
import Derived.Test.YtnofegdlainjaaeToTwoC
namespace Go.Proofs.Ytnofegdlainjaae
open Go.RowKit Crm

def smk (ps qs : List Int) (k : Nat) : List Int := (List.range k).map fun i => nm (ps.getD i 0 + qs.getD i 0)
theorem smk_step (ps qs : List Int) (k : Nat) {v : Int} (e : v = nm (ps.getD k 0 + qs.getD k 0)) : smk ps qs k ++ [v] = smk ps qs (k + 1) := by
  unfold smk
  rw [List.range_succ, List.map_append, e]
  rfl
theorem smk_bd (ps qs : List Int) (k : Nat) : ∀ x ∈ smk ps qs k, 0 ≤ x ∧ x ≤ 18446744073709551615 := by
  intro x hx
  obtain ⟨k, _, rfl⟩ := List.mem_map.1 hx
  have := nm_bd (ps.getD k 0 + qs.getD k 0)
  omega

theorem own_base {w : World} {B B' n : Nat} {E : TypeId} {v : Value} {xs : List Value} (h : w.ownsRow B E 1 v n xs) (hB : B' ≤ B) : w.ownsRow B' E 1 v n xs := by
  rcases h.2 with h' | ⟨g, cap, cur, e1, e2, e3⟩
  · exact ⟨h.1, Or.inl h'⟩
  · exact ⟨h.1, Or.inr ⟨g, cap, cur, e1, by omega, e3⟩⟩

end Go.Proofs.Ytnofegdlainjaae

namespace Go.Proofs.Ytnofegdlainjaae
open Go.RowKit Crm

/-- Column j of F: a polynomial in x. -/
def colA (s : Int) (ds : List Int) (t j : Nat) : List Int := (List.range (t + 1)).map fun i => A2 s ds t i j
theorem colA_len (s : Int) (ds : List Int) (t j : Nat) : (colA s ds t j).length = t + 1 := by simp [colA]
theorem colA_getD (s : Int) (ds : List Int) (t j : Nat) {i : Nat} (h : i ≤ t) : (colA s ds t j).getD i 0 = A2 s ds t i j := by simp [colA, show i < t + 1 by omega]
/-- The first k numbers of the row of the party x. -/
def rowK (s : Int) (ds : List Int) (t : Nat) (x : Int) (k : Nat) : List Int := (List.range k).map fun j => nm (ev (colA s ds t j) x)
theorem rowK_len (s : Int) (ds : List Int) (t : Nat) (x : Int) (k : Nat) : (rowK s ds t x k).length = k := by simp [rowK]
theorem rowK_getD (s : Int) (ds : List Int) (t : Nat) (x : Int) {k j : Nat} (h : j < k) : (rowK s ds t x k).getD j 0 = nm (ev (colA s ds t j) x) := by simp [rowK, h]
theorem rowK_snoc (s : Int) (ds : List Int) (t : Nat) (x : Int) (k : Nat) : rowK s ds t x k ++ [nm (ev (colA s ds t k) x)] = rowK s ds t x (k + 1) := by simp [rowK, List.range_succ]
theorem rowK_bd (s : Int) (ds : List Int) (t : Nat) (x : Int) (k : Nat) : ∀ z ∈ rowK s ds t x k, 0 ≤ z ∧ z ≤ 2147483646 := by
  intro z hz
  obtain ⟨i, _, rfl⟩ := List.mem_map.1 hz
  exact nm_bd _
/-- The rows of the first k parties. -/
def dealA (s : Int) (ds : List Int) (t k : Nat) : List (Int × List Int) := (List.range k).map fun r : Nat => ((r : Int) + 1, rowK s ds t ((r : Int) + 1) (t + 1))
theorem dealA_len (s : Int) (ds : List Int) (t k : Nat) : (dealA s ds t k).length = k := by simp [dealA]
theorem dealA_snoc (s : Int) (ds : List Int) (t k : Nat) : dealA s ds t k ++ [((k : Int) + 1, rowK s ds t ((k : Int) + 1) (t + 1))] = dealA s ds t (k + 1) := by simp [dealA, List.range_succ]
theorem dealA_getD (s : Int) (ds : List Int) (t : Nat) {k r : Nat} (h : r < k) : (dealA s ds t k).getD r (0, []) = ((r : Int) + 1, rowK s ds t ((r : Int) + 1) (t + 1)) := by simp [dealA, h]

end Go.Proofs.Ytnofegdlainjaae
