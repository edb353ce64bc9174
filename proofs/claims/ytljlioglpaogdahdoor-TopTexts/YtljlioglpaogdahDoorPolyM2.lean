/- Normal polynomials: one list a polynomial; products and sums number by number; division step by step. Plain. -/
import Derived.Test.YtljlioglpaogdahDoorPolyM
namespace Crm

theorem getD_big {xs : List Int} {t : Nat} (h : xs.length ≤ t) : xs.getD t 0 = 0 := by
  rw [List.getD_eq_getElem?_getD, List.getElem?_eq_none h]; rfl
theorem getD_some {xs : List Int} {t : Nat} (h : t < xs.length) : xs[t]? = some (xs.getD t 0) := by
  rw [List.getD_eq_getElem?_getD, List.getElem?_eq_getElem h]; rfl
theorem getD_mem {xs : List Int} {t : Nat} (h : t < xs.length) : xs.getD t 0 ∈ xs := by
  rw [List.getD_eq_getElem?_getD, List.getElem?_eq_getElem h]; exact List.getElem_mem h
theorem list_ext {xs ys : List Int} (hl : xs.length = ys.length) (h : ∀ t, t < xs.length → xs.getD t 0 = ys.getD t 0) : xs = ys := by
  apply List.ext_getElem?
  intro t
  by_cases ht : t < xs.length
  · rw [getD_some ht, getD_some (by omega), h t ht]
  · rw [List.getElem?_eq_none (by omega), List.getElem?_eq_none (by omega)]
theorem take_getD (xs : List Int) (n t : Nat) : (xs.take n).getD t 0 = if t < n then xs.getD t 0 else 0 := by
  by_cases h : t < n
  · rw [if_pos h]; simp [h]
  · rw [if_neg h]; exact getD_big (by simp; omega)
theorem tl_congr {xs ys : List Int} (h : ∀ t, xs.getD t 0 = ys.getD t 0) : ∀ n, tl xs n = tl ys n
  | 0 => rfl
  | n + 1 => by rw [tl, tl, h n, tl_congr h n]
theorem tl_more {xs : List Int} : ∀ d, tl xs (xs.length + d) = tl xs xs.length
  | 0 => rfl
  | d + 1 => by rw [← Nat.add_assoc, tl, if_pos (getD_big (by omega)), tl_more d]
theorem tl_ge {xs : List Int} {n : Nat} (h : xs.length ≤ n) : tl xs n = tl xs xs.length := by
  have := tl_more (xs := xs) (n - xs.length)
  rwa [show xs.length + (n - xs.length) = n by omega] at this
theorem tl_above (xs : List Int) : ∀ n t, tl xs n ≤ t → t < n → xs.getD t 0 = 0
  | 0, t => by omega
  | n + 1, t => by
    rw [tl]
    split
    · intro h1 h2
      by_cases ht : t = n
      · rw [ht]; assumption
      · exact tl_above xs n t h1 (by omega)
    · intro h1 h2; omega
theorem trm_getD (xs : List Int) (t : Nat) : (trm xs).getD t 0 = xs.getD t 0 := by
  unfold trm
  rw [take_getD]
  split
  · rfl
  · by_cases h : t < xs.length
    · rw [tl_above xs xs.length t (by omega) h]
    · rw [getD_big (by omega)]
theorem trm_ext {xs ys : List Int} (h : ∀ t, xs.getD t 0 = ys.getD t 0) : trm xs = trm ys := by
  have hl : (trm xs).length = (trm ys).length := by
    rw [trm_len, trm_len, ← tl_ge (show xs.length ≤ max xs.length ys.length by omega), ← tl_ge (show ys.length ≤ max xs.length ys.length by omega), tl_congr h]
  exact list_ext hl fun t _ => by rw [trm_getD, trm_getD, h]
theorem nrm_getD (xs : List Int) (t : Nat) : (nrm xs).getD t 0 = nm (xs.getD t 0) := by unfold nrm; rw [trm_getD, nz_getD]
theorem nrm_ext {xs ys : List Int} (h : ∀ t, nm (xs.getD t 0) = nm (ys.getD t 0)) : nrm xs = nrm ys := trm_ext fun t => by rw [nz_getD, nz_getD, h]

theorem nz_id {xs : List Int} (h : ∀ x ∈ xs, 0 ≤ x ∧ x ≤ 2147483646) : nz xs = xs := by
  unfold nz
  have : xs.map nm = xs.map id := List.map_congr_left fun x hx => nm_small (h x hx).1 (h x hx).2
  rw [this, List.map_id]
theorem bd_u64 {xs : List Int} (h : ∀ x ∈ xs, 0 ≤ x ∧ x ≤ 2147483646) : ∀ x ∈ xs, 0 ≤ x ∧ x ≤ 18446744073709551615 := fun x hx => by have := h x hx; omega
theorem set_bd' {L : List Int} (h : ∀ x ∈ L, 0 ≤ x ∧ x ≤ 2147483646) (i : Nat) {v : Int} (hv : 0 ≤ v ∧ v ≤ 2147483646) : ∀ x ∈ L.set i v, 0 ≤ x ∧ x ≤ 2147483646 := by
  intro x hx
  rcases List.mem_or_eq_of_mem_set hx with h1 | h1
  · exact h x h1
  · rw [h1]; exact hv
theorem addAt_bd' {L : List Int} (h : ∀ x ∈ L, 0 ≤ x ∧ x ≤ 2147483646) (o : Nat) (B : List Int) (t : Int) : ∀ k, ∀ x ∈ addAt L o B t k, 0 ≤ x ∧ x ≤ 2147483646
  | 0 => h
  | k + 1 => by rw [addAt]; exact set_bd' (addAt_bd' h o B t k) _ (nm_bd _)

theorem pc_far (ps qs : List Int) (k : Nat) : ∀ n, n + qs.length ≤ k + 1 → pc ps qs k n = 0
  | 0, _ => rfl
  | n + 1, h => by
    rw [pc, pc_far ps qs k n (by omega), tm]
    split
    · rw [getD_big (show qs.length ≤ k - n by omega), Int.mul_zero]; rfl
    · rfl
theorem cvl_len (ps qs : List Int) : (cvl ps qs).length = ps.length + qs.length - 1 := by simp [cvl]
theorem cvl_getD (ps qs : List Int) (t : Nat) : (cvl ps qs).getD t 0 = nm (pc ps qs t ps.length) := by
  by_cases ht : t < ps.length + qs.length - 1
  · unfold cvl; simp [ht]
  · rw [getD_big (by rw [cvl_len]; omega), pc_far ps qs t ps.length (by omega)]; rfl
theorem cvl_bd (ps qs : List Int) : ∀ x ∈ cvl ps qs, 0 ≤ x ∧ x ≤ 2147483646 := by
  intro x hx
  obtain ⟨k, _, rfl⟩ := List.mem_map.1 hx
  exact nm_bd _
def sml (ps qs : List Int) : List Int := (List.range (max ps.length qs.length)).map fun i => nm (ps.getD i 0 + qs.getD i 0)
theorem sml_len (ps qs : List Int) : (sml ps qs).length = max ps.length qs.length := by simp [sml]
theorem sml_getD (ps qs : List Int) (t : Nat) : (sml ps qs).getD t 0 = nm (ps.getD t 0 + qs.getD t 0) := by
  by_cases ht : t < max ps.length qs.length
  · unfold sml; simp [List.getElem?_range ht]
  · rw [getD_big (by rw [sml_len]; omega), getD_big (show ps.length ≤ t by omega), getD_big (show qs.length ≤ t by omega)]; rfl

end Crm
