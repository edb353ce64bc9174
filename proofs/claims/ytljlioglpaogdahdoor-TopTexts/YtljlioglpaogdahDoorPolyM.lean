/- Lists of numbers as polynomials: noughts at the end, values, products number by number. Plain: nothing of the program. -/
import Derived.Test.YtljlioglpaogdahDoorMath
namespace Crm

def nz (xs : List Int) : List Int := xs.map nm
/-- How many of the first n numbers stay when the noughts at the end go. -/
def tl (xs : List Int) : Nat → Nat
  | 0 => 0
  | n + 1 => if xs.getD n 0 = 0 then tl xs n else n + 1
def trm (xs : List Int) : List Int := xs.take (tl xs xs.length)
def nrm (xs : List Int) : List Int := trm (nz xs)
def ev : List Int → Int → Int
  | [], _ => 0
  | a :: l, x => a + x * ev l x
def tm (as bs : List Int) (k i : Nat) : Int := if i ≤ k then as.getD i 0 * bs.getD (k - i) 0 else 0
/-- The k-th number of the product, of the first n numbers of as. -/
def pc (as bs : List Int) (k : Nat) : Nat → Int
  | 0 => 0
  | n + 1 => pc as bs k n + tm as bs k n
def cvl (as bs : List Int) : List Int := (List.range (as.length + bs.length - 1)).map fun k => nm (pc as bs k as.length)
/-- L, with t times the first k numbers of B added from place o on. -/
def addAt (L : List Int) (o : Nat) (B : List Int) (t : Int) : Nat → List Int
  | 0 => L
  | k + 1 => (addAt L o B t k).set (o + k) (nm (L.getD (o + k) 0 + t * B.getD k 0))

theorem tl_zero (xs : List Int) {n : Nat} (h : xs.getD n 0 = 0) : tl xs (n + 1) = tl xs n := by rw [tl, if_pos h]
theorem tl_last (xs : List Int) {n : Nat} (h : ¬ xs.getD n 0 = 0) : tl xs (n + 1) = n + 1 := by rw [tl, if_neg h]
theorem tl_le (xs : List Int) : ∀ n, tl xs n ≤ n
  | 0 => Nat.le_refl _
  | n + 1 => by rw [tl]; split; have := tl_le xs n; omega; omega
theorem nz_getD (xs : List Int) (i : Nat) : (nz xs).getD i 0 = nm (xs.getD i 0) := by
  unfold nz
  by_cases h : i < xs.length
  · simp [List.getElem?_eq_getElem h]
  · simp [List.getElem?_eq_none (show xs.length ≤ i by omega)]; rfl
theorem nz_len (xs : List Int) : (nz xs).length = xs.length := by simp [nz]
theorem trm_len (xs : List Int) : (trm xs).length = tl xs xs.length := by
  have := tl_le xs xs.length
  unfold trm
  simp; omega
theorem nrm_len (xs : List Int) : (nrm xs).length = tl (nz xs) xs.length := by unfold nrm; rw [trm_len, nz_len]
theorem nrm_le (xs : List Int) : (nrm xs).length ≤ xs.length := by rw [nrm_len]; exact tl_le _ _
theorem getD_set (L : List Int) (i j : Nat) (v : Int) : (L.set i v).getD j 0 = if i = j ∧ j < L.length then v else L.getD j 0 := by
  simp only [List.getD_eq_getElem?_getD, List.getElem?_set]
  by_cases h : i = j
  · subst h
    by_cases hl : i < L.length
    · simp [hl]
    · simp [hl]
  · simp [h]
theorem addAt_len (L : List Int) (o : Nat) (B : List Int) (t : Int) : ∀ k, (addAt L o B t k).length = L.length
  | 0 => rfl
  | k + 1 => by rw [addAt, List.length_set, addAt_len L o B t k]
theorem addAt_getD (L : List Int) (o : Nat) (B : List Int) (t : Int) : ∀ (k i : Nat),
    (addAt L o B t k).getD i 0 = if o ≤ i ∧ i < o + k ∧ i < L.length then nm (L.getD i 0 + t * B.getD (i - o) 0) else L.getD i 0
  | 0, i => by rw [addAt, if_neg (by omega)]
  | k + 1, i => by
    rw [addAt, getD_set, addAt_len, addAt_getD L o B t k i]
    by_cases h : o + k = i ∧ i < L.length
    · rw [if_pos h, if_pos (by omega)]
      obtain ⟨rfl, _⟩ := h
      rw [Nat.add_sub_cancel_left]
    · rw [if_neg h]
      by_cases h2 : o ≤ i ∧ i < o + k ∧ i < L.length
      · rw [if_pos h2, if_pos (by omega)]
      · rw [if_neg h2, if_neg (by omega)]
theorem bd_set {L : List Int} (h : ∀ x ∈ L, 0 ≤ x ∧ x ≤ 18446744073709551615) (i : Nat) {v : Int} (hv : 0 ≤ v ∧ v ≤ 18446744073709551615) : ∀ x ∈ L.set i v, 0 ≤ x ∧ x ≤ 18446744073709551615 := by
  intro x hx
  rcases List.mem_or_eq_of_mem_set hx with h1 | h1
  · exact h x h1
  · rw [h1]; exact hv
theorem addAt_bd {L : List Int} (h : ∀ x ∈ L, 0 ≤ x ∧ x ≤ 18446744073709551615) (o : Nat) (B : List Int) (t : Int) : ∀ k, ∀ x ∈ addAt L o B t k, 0 ≤ x ∧ x ≤ 18446744073709551615
  | 0 => h
  | k + 1 => by
    rw [addAt]
    exact bd_set (addAt_bd h o B t k) _ (by have := nm_bd (L.getD (o + k) 0 + t * B.getD k 0); omega)
theorem ev_drop (xs : List Int) (x : Int) {k : Nat} (h : k < xs.length) : ev (xs.drop k) x = xs.getD k 0 + x * ev (xs.drop (k + 1)) x := by
  rw [List.drop_eq_getElem_cons h, ev]
  simp [List.getElem?_eq_getElem h]
end Crm
