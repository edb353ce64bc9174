/- Lists of numbers as polynomials: noughts at the end, values, products number by number. Plain: nothing of the program. · Normal polynomials: one list a polynomial; products and sums number by number; division step by step. Plain. -/
import Derived.Test.YtnofegdlainjaadToMath
namespace Crm

def nz (xs : List Int) : List Int := xs.map nm
/-- How many of the first n numbers stay when the noughts at the end go. -/
def tl (xs : List Int) : Nat → Nat
  | 0 => 0
  | n + 1 => if xs.getD n 0 = 0 then tl xs n else n + 1
def trm (xs : List Int) : List Int := xs.take (tl xs xs.length)
def nrm (xs : List Int) : List Int := trm (nz xs)
def ev : List Int → Int → Int
  | [], _ => 0
  | a :: l, x => a + x * ev l x
def tm (as bs : List Int) (k i : Nat) : Int := if i ≤ k then as.getD i 0 * bs.getD (k - i) 0 else 0
/-- The k-th number of the product, of the first n numbers of as. -/
def pc (as bs : List Int) (k : Nat) : Nat → Int
  | 0 => 0
  | n + 1 => pc as bs k n + tm as bs k n
def cvl (as bs : List Int) : List Int := (List.range (as.length + bs.length - 1)).map fun k => nm (pc as bs k as.length)
/-- L, with t times the first k numbers of B added from place o on. -/
def addAt (L : List Int) (o : Nat) (B : List Int) (t : Int) : Nat → List Int
  | 0 => L
  | k + 1 => (addAt L o B t k).set (o + k) (nm (L.getD (o + k) 0 + t * B.getD k 0))

theorem tl_zero (xs : List Int) {n : Nat} (h : xs.getD n 0 = 0) : tl xs (n + 1) = tl xs n := by rw [tl, if_pos h]
theorem tl_last (xs : List Int) {n : Nat} (h : ¬ xs.getD n 0 = 0) : tl xs (n + 1) = n + 1 := by rw [tl, if_neg h]
theorem tl_le (xs : List Int) : ∀ n, tl xs n ≤ n
  | 0 => Nat.le_refl _
  | n + 1 => by rw [tl]; split; have := tl_le xs n; omega; omega
theorem nz_getD (xs : List Int) (i : Nat) : (nz xs).getD i 0 = nm (xs.getD i 0) := by
  unfold nz
  by_cases h : i < xs.length
  · simp [List.getElem?_eq_getElem h]
  · simp [List.getElem?_eq_none (show xs.length ≤ i by omega)]; rfl
theorem nz_len (xs : List Int) : (nz xs).length = xs.length := by simp [nz]
theorem nz_bd (xs : List Int) : ∀ x ∈ nz xs, 0 ≤ x ∧ x ≤ 18446744073709551615 := by
  intro x hx
  obtain ⟨y, _, rfl⟩ := List.mem_map.1 hx
  have := nm_bd y
  omega
theorem nz_bd' (xs : List Int) : ∀ x ∈ nz xs, 0 ≤ x ∧ x ≤ 2147483646 := by
  intro x hx
  obtain ⟨y, _, rfl⟩ := List.mem_map.1 hx
  exact nm_bd y
theorem trm_len (xs : List Int) : (trm xs).length = tl xs xs.length := by
  have := tl_le xs xs.length
  unfold trm
  simp; omega
theorem nrm_len (xs : List Int) : (nrm xs).length = tl (nz xs) xs.length := by unfold nrm; rw [trm_len, nz_len]
theorem nrm_le (xs : List Int) : (nrm xs).length ≤ xs.length := by rw [nrm_len]; exact tl_le _ _
theorem trm_mem {xs : List Int} {x : Int} (h : x ∈ trm xs) : x ∈ xs := List.mem_of_mem_take h
theorem nrm_bd (xs : List Int) : ∀ x ∈ nrm xs, 0 ≤ x ∧ x ≤ 18446744073709551615 := fun x h => nz_bd xs x (trm_mem h)
theorem nrm_bd' (xs : List Int) : ∀ x ∈ nrm xs, 0 ≤ x ∧ x ≤ 2147483646 := fun x h => nz_bd' xs x (trm_mem h)

theorem getD_set (L : List Int) (i j : Nat) (v : Int) : (L.set i v).getD j 0 = if i = j ∧ j < L.length then v else L.getD j 0 := by
  simp only [List.getD_eq_getElem?_getD, List.getElem?_set]
  by_cases h : i = j
  · subst h
    by_cases hl : i < L.length
    · simp [hl]
    · simp [hl]
  · simp [h]
theorem addAt_len (L : List Int) (o : Nat) (B : List Int) (t : Int) : ∀ k, (addAt L o B t k).length = L.length
  | 0 => rfl
  | k + 1 => by rw [addAt, List.length_set, addAt_len L o B t k]
theorem addAt_getD (L : List Int) (o : Nat) (B : List Int) (t : Int) : ∀ (k i : Nat),
    (addAt L o B t k).getD i 0 = if o ≤ i ∧ i < o + k ∧ i < L.length then nm (L.getD i 0 + t * B.getD (i - o) 0) else L.getD i 0
  | 0, i => by rw [addAt, if_neg (by omega)]
  | k + 1, i => by
    rw [addAt, getD_set, addAt_len, addAt_getD L o B t k i]
    by_cases h : o + k = i ∧ i < L.length
    · rw [if_pos h, if_pos (by omega)]
      obtain ⟨rfl, _⟩ := h
      rw [Nat.add_sub_cancel_left]
    · rw [if_neg h]
      by_cases h2 : o ≤ i ∧ i < o + k ∧ i < L.length
      · rw [if_pos h2, if_pos (by omega)]
      · rw [if_neg h2, if_neg (by omega)]
theorem bd_set {L : List Int} (h : ∀ x ∈ L, 0 ≤ x ∧ x ≤ 18446744073709551615) (i : Nat) {v : Int} (hv : 0 ≤ v ∧ v ≤ 18446744073709551615) : ∀ x ∈ L.set i v, 0 ≤ x ∧ x ≤ 18446744073709551615 := by
  intro x hx
  rcases List.mem_or_eq_of_mem_set hx with h1 | h1
  · exact h x h1
  · rw [h1]; exact hv
theorem addAt_bd {L : List Int} (h : ∀ x ∈ L, 0 ≤ x ∧ x ≤ 18446744073709551615) (o : Nat) (B : List Int) (t : Int) : ∀ k, ∀ x ∈ addAt L o B t k, 0 ≤ x ∧ x ≤ 18446744073709551615
  | 0 => h
  | k + 1 => by
    rw [addAt]
    exact bd_set (addAt_bd h o B t k) _ (by have := nm_bd (L.getD (o + k) 0 + t * B.getD k 0); omega)
theorem ev_snoc : ∀ (l : List Int) (a x : Int), ev (l ++ [a]) x = ev l x + a * x ^ l.length
  | [], a, x => by simp [ev]
  | b :: l, a, x => by
    rw [List.cons_append, ev, ev, ev_snoc l a x, List.length_cons, Int.pow_succ, Int.mul_add]
    have : x * (a * x ^ l.length) = a * (x ^ l.length * x) := by rw [Int.mul_comm x, Int.mul_assoc]
    omega
theorem ev_take (xs : List Int) (x : Int) {k : Nat} (h : k < xs.length) : ev (xs.take (k + 1)) x = ev (xs.take k) x + xs.getD k 0 * x ^ k := by
  rw [List.take_succ_eq_append_getElem h, ev_snoc, List.length_take, Nat.min_eq_left (by omega)]
  simp [List.getElem?_eq_getElem h]
theorem ev_drop (xs : List Int) (x : Int) {k : Nat} (h : k < xs.length) : ev (xs.drop k) x = xs.getD k 0 + x * ev (xs.drop (k + 1)) x := by
  rw [List.drop_eq_getElem_cons h, ev]
  simp [List.getElem?_eq_getElem h]
end Crm

namespace Crm

theorem getD_big {xs : List Int} {t : Nat} (h : xs.length ≤ t) : xs.getD t 0 = 0 := by
  rw [List.getD_eq_getElem?_getD, List.getElem?_eq_none h]; rfl
theorem getD_some {xs : List Int} {t : Nat} (h : t < xs.length) : xs[t]? = some (xs.getD t 0) := by
  rw [List.getD_eq_getElem?_getD, List.getElem?_eq_getElem h]; rfl
theorem getD_mem {xs : List Int} {t : Nat} (h : t < xs.length) : xs.getD t 0 ∈ xs := by
  rw [List.getD_eq_getElem?_getD, List.getElem?_eq_getElem h]; exact List.getElem_mem h
theorem list_ext {xs ys : List Int} (hl : xs.length = ys.length) (h : ∀ t, t < xs.length → xs.getD t 0 = ys.getD t 0) : xs = ys := by
  apply List.ext_getElem?
  intro t
  by_cases ht : t < xs.length
  · rw [getD_some ht, getD_some (by omega), h t ht]
  · rw [List.getElem?_eq_none (by omega), List.getElem?_eq_none (by omega)]
theorem take_getD (xs : List Int) (n t : Nat) : (xs.take n).getD t 0 = if t < n then xs.getD t 0 else 0 := by
  by_cases h : t < n
  · rw [if_pos h]; simp [h]
  · rw [if_neg h]; exact getD_big (by simp; omega)
theorem tl_congr {xs ys : List Int} (h : ∀ t, xs.getD t 0 = ys.getD t 0) : ∀ n, tl xs n = tl ys n
  | 0 => rfl
  | n + 1 => by rw [tl, tl, h n, tl_congr h n]
theorem tl_more {xs : List Int} : ∀ d, tl xs (xs.length + d) = tl xs xs.length
  | 0 => rfl
  | d + 1 => by rw [← Nat.add_assoc, tl, if_pos (getD_big (by omega)), tl_more d]
theorem tl_ge {xs : List Int} {n : Nat} (h : xs.length ≤ n) : tl xs n = tl xs xs.length := by
  have := tl_more (xs := xs) (n - xs.length)
  rwa [show xs.length + (n - xs.length) = n by omega] at this
theorem tl_top (xs : List Int) : ∀ n, 0 < tl xs n → xs.getD (tl xs n - 1) 0 ≠ 0
  | 0 => by simp [tl]
  | n + 1 => by
    rw [tl]
    split
    · exact tl_top xs n
    · intro _; simpa using ‹_›
theorem tl_above (xs : List Int) : ∀ n t, tl xs n ≤ t → t < n → xs.getD t 0 = 0
  | 0, t => by omega
  | n + 1, t => by
    rw [tl]
    split
    · intro h1 h2
      by_cases ht : t = n
      · rw [ht]; assumption
      · exact tl_above xs n t h1 (by omega)
    · intro h1 h2; omega
theorem trm_getD (xs : List Int) (t : Nat) : (trm xs).getD t 0 = xs.getD t 0 := by
  unfold trm
  rw [take_getD]
  split
  · rfl
  · by_cases h : t < xs.length
    · rw [tl_above xs xs.length t (by omega) h]
    · rw [getD_big (by omega)]
theorem trm_ext {xs ys : List Int} (h : ∀ t, xs.getD t 0 = ys.getD t 0) : trm xs = trm ys := by
  have hl : (trm xs).length = (trm ys).length := by
    rw [trm_len, trm_len, ← tl_ge (show xs.length ≤ max xs.length ys.length by omega), ← tl_ge (show ys.length ≤ max xs.length ys.length by omega), tl_congr h]
  exact list_ext hl fun t _ => by rw [trm_getD, trm_getD, h]
theorem nrm_getD (xs : List Int) (t : Nat) : (nrm xs).getD t 0 = nm (xs.getD t 0) := by unfold nrm; rw [trm_getD, nz_getD]
theorem nrm_ext {xs ys : List Int} (h : ∀ t, nm (xs.getD t 0) = nm (ys.getD t 0)) : nrm xs = nrm ys := trm_ext fun t => by rw [nz_getD, nz_getD, h]

/-- Rests, and no nought at the end. -/
structure Nml (xs : List Int) : Prop where
  bd : ∀ x ∈ xs, 0 ≤ x ∧ x ≤ 2147483646
  top : 0 < xs.length → xs.getD (xs.length - 1) 0 ≠ 0
theorem nrm_Nml (xs : List Int) : Nml (nrm xs) := by
  refine ⟨nrm_bd' xs, fun h => ?_⟩
  rw [nrm_getD, ← nz_getD]
  rw [nrm_len] at h ⊢
  exact tl_top _ _ h
theorem nz_id {xs : List Int} (h : ∀ x ∈ xs, 0 ≤ x ∧ x ≤ 2147483646) : nz xs = xs := by
  unfold nz
  have : xs.map nm = xs.map id := List.map_congr_left fun x hx => nm_small (h x hx).1 (h x hx).2
  rw [this, List.map_id]
theorem trm_id {xs : List Int} (h : 0 < xs.length → xs.getD (xs.length - 1) 0 ≠ 0) : trm xs = xs := by
  unfold trm
  apply List.take_of_length_le
  cases hl : xs.length with
  | zero => omega
  | succ n => rw [tl_last xs (by have := h (by omega); rwa [hl] at this)]; omega
theorem nrm_id {xs : List Int} (h : Nml xs) : nrm xs = xs := by unfold nrm; rw [nz_id h.bd, trm_id h.top]
theorem tl_nrm {xs : List Int} (h : Nml xs) : tl (nz xs) xs.length = xs.length := by rw [← nrm_len, nrm_id h]
theorem bd_u64 {xs : List Int} (h : ∀ x ∈ xs, 0 ≤ x ∧ x ≤ 2147483646) : ∀ x ∈ xs, 0 ≤ x ∧ x ≤ 18446744073709551615 := fun x hx => by have := h x hx; omega
theorem getD_bd' {xs : List Int} (h : ∀ x ∈ xs, 0 ≤ x ∧ x ≤ 2147483646) (t : Nat) : 0 ≤ xs.getD t 0 ∧ xs.getD t 0 ≤ 2147483646 := by
  by_cases ht : t < xs.length
  · exact h _ (getD_mem ht)
  · rw [getD_big (by omega)]; omega
theorem set_bd' {L : List Int} (h : ∀ x ∈ L, 0 ≤ x ∧ x ≤ 2147483646) (i : Nat) {v : Int} (hv : 0 ≤ v ∧ v ≤ 2147483646) : ∀ x ∈ L.set i v, 0 ≤ x ∧ x ≤ 2147483646 := by
  intro x hx
  rcases List.mem_or_eq_of_mem_set hx with h1 | h1
  · exact h x h1
  · rw [h1]; exact hv
theorem addAt_bd' {L : List Int} (h : ∀ x ∈ L, 0 ≤ x ∧ x ≤ 2147483646) (o : Nat) (B : List Int) (t : Int) : ∀ k, ∀ x ∈ addAt L o B t k, 0 ≤ x ∧ x ≤ 2147483646
  | 0 => h
  | k + 1 => by rw [addAt]; exact set_bd' (addAt_bd' h o B t k) _ (nm_bd _)

/-- Behind the last number of ps nothing is added; behind both there is nothing. -/
theorem pc_ge (ps qs : List Int) (k : Nat) : ∀ d, pc ps qs k (ps.length + d) = pc ps qs k ps.length
  | 0 => rfl
  | d + 1 => by
    show pc ps qs k (ps.length + d) + tm ps qs k (ps.length + d) = _
    rw [pc_ge ps qs k d, tm, getD_big (show ps.length ≤ ps.length + d by omega), Int.zero_mul]
    split <;> omega
theorem pc_far (ps qs : List Int) (k : Nat) : ∀ n, n + qs.length ≤ k + 1 → pc ps qs k n = 0
  | 0, _ => rfl
  | n + 1, h => by
    rw [pc, pc_far ps qs k n (by omega), tm]
    split
    · rw [getD_big (show qs.length ≤ k - n by omega), Int.mul_zero]; rfl
    · rfl
theorem cvl_len (ps qs : List Int) : (cvl ps qs).length = ps.length + qs.length - 1 := by simp [cvl]
theorem cvl_getD (ps qs : List Int) (t : Nat) : (cvl ps qs).getD t 0 = nm (pc ps qs t ps.length) := by
  by_cases ht : t < ps.length + qs.length - 1
  · unfold cvl; simp [ht]
  · rw [getD_big (by rw [cvl_len]; omega), pc_far ps qs t ps.length (by omega)]; rfl
theorem cvl_bd (ps qs : List Int) : ∀ x ∈ cvl ps qs, 0 ≤ x ∧ x ≤ 2147483646 := by
  intro x hx
  obtain ⟨k, _, rfl⟩ := List.mem_map.1 hx
  exact nm_bd _
/-- One number of ps, that was 0, is set. -/
theorem pc_set (ps qs : List Int) (i : Nat) (v : Int) (h0 : ps.getD i 0 = 0) (t : Nat) : ∀ n, n ≤ ps.length → pc (ps.set i v) qs t n = pc ps qs t n + if i < n ∧ i ≤ t then v * qs.getD (t - i) 0 else 0
  | 0, _ => by rw [if_neg (by omega)]; rfl
  | n + 1, hn => by
    rw [pc, pc, pc_set ps qs i v h0 t n (by omega), tm, tm, getD_set]
    by_cases hi : i = n
    · subst hi
      rw [h0, if_neg (show ¬ (i < i ∧ i ≤ t) by omega), if_pos (show i = i ∧ i < ps.length by omega)]
      by_cases ht : i ≤ t
      · rw [if_pos ht, if_pos ht, if_pos (by omega)]; omega
      · rw [if_neg ht, if_neg ht, if_neg (by omega)]
    · rw [if_neg (show ¬ (i = n ∧ n < ps.length) by omega)]
      by_cases hc : i < n ∧ i ≤ t
      · rw [if_pos hc, if_pos (show i < n + 1 ∧ i ≤ t by omega), Int.add_right_comm]
      · rw [if_neg hc, if_neg (show ¬ (i < n + 1 ∧ i ≤ t) by omega), Int.add_zero, Int.add_zero]
def sml (ps qs : List Int) : List Int := (List.range (max ps.length qs.length)).map fun i => nm (ps.getD i 0 + qs.getD i 0)
theorem sml_len (ps qs : List Int) : (sml ps qs).length = max ps.length qs.length := by simp [sml]
theorem sml_getD (ps qs : List Int) (t : Nat) : (sml ps qs).getD t 0 = nm (ps.getD t 0 + qs.getD t 0) := by
  by_cases ht : t < max ps.length qs.length
  · unfold sml; simp [List.getElem?_range ht]
  · rw [getD_big (by rw [sml_len]; omega), getD_big (show ps.length ≤ t by omega), getD_big (show qs.length ≤ t by omega)]; rfl

/-- Where the division stands when the places k and above of the quotient are known. -/
structure DivI (L D Q A : List Int) (n m q k : Nat) : Prop where
  la : A.length = L.length
  lq : Q.length = q
  ba : ∀ x ∈ A, 0 ≤ x ∧ x ≤ 2147483646
  bq : ∀ x ∈ Q, 0 ≤ x ∧ x ≤ 2147483646
  z : ∀ j, j < k → Q.getD j 0 = 0
  eq : ∀ t, t < n → nm (A.getD t 0 + pc Q D t q) = nm (L.getD t 0)
  hi : ∀ t, k + (m - 1) ≤ t → t < n → A.getD t 0 = 0
  same : k = q → A = L
  top : k < q → Q.getD (q - 1) 0 ≠ 0

theorem pc_zeros (D : List Int) (t : Nat) (q : Nat) : ∀ n, pc (List.replicate q 0) D t n = 0
  | 0 => rfl
  | n + 1 => by
    rw [pc, pc_zeros D t q n, tm]
    have : (List.replicate q (0 : Int)).getD n 0 = 0 := by
      by_cases h : n < q
      · simp [h]
      · exact getD_big (by simp; omega)
    rw [this, Int.zero_mul]
    split <;> rfl
theorem zeros_getD (q t : Nat) : (List.replicate q (0 : Int)).getD t 0 = 0 := by
  by_cases h : t < q
  · simp [h]
  · exact getD_big (by simp; omega)
theorem div_start {L D : List Int} {n m q : Nat} (hL : ∀ x ∈ L, 0 ≤ x ∧ x ≤ 2147483646) (hq : n ≤ q + (m - 1)) : DivI L D (List.replicate q 0) L n m q q :=
  ⟨rfl, by simp, hL, fun x hx => by rw [List.eq_of_mem_replicate hx]; omega, fun j _ => zeros_getD q j, fun t _ => by rw [pc_zeros, Int.add_zero], fun t h1 h2 => by omega, fun _ => rfl, fun h => by omega⟩
theorem div_step {L D Q A : List Int} {n m q k : Nat} (h : DivI L D Q A n m q (k + 1)) (hk : k < q) (hq : q + (m - 1) = n) (hm : 0 < m) (hD : D.length = m) (hn : n ≤ L.length) (hd : nm (D.getD (m - 1) 0) ≠ 0)
    (hL : L.getD (n - 1) 0 ≠ 0) {x v : Int} (hx : A.getD (k + (m - 1)) 0 = x) (hv : v = nm (x * iv (D.getD (m - 1) 0))) :
    DivI L D (Q.set k v) (addAt A k D (nm (0 - v)) m) n m q k := by
  have hxb := getD_bd' h.ba (k + (m - 1))
  have hvb : 0 ≤ v ∧ v ≤ 2147483646 := by rw [hv]; exact nm_bd _
  refine ⟨by rw [addAt_len, h.la], by rw [List.length_set, h.lq], addAt_bd' h.ba _ _ _ _, set_bd' h.bq _ hvb, ?_, ?_, ?_, fun e => by omega, ?_⟩
  · intro j hj
    rw [getD_set, if_neg (by omega)]
    exact h.z j (by omega)
  · intro t ht
    rw [← h.eq t ht, pc_set Q D k v (h.z k (by omega)) t q (by rw [h.lq]; omega), addAt_getD, h.la]
    by_cases hr : k ≤ t ∧ t < k + m ∧ t < L.length
    · rw [if_pos hr, if_pos (by omega), nm_addl]
      have e1 : nm (A.getD t 0 + nm (0 - v) * D.getD (t - k) 0 + (pc Q D t q + v * D.getD (t - k) 0)) = nm (nm (0 - v) * D.getD (t - k) 0 + (A.getD t 0 + (pc Q D t q + v * D.getD (t - k) 0))) := by congr 1; omega
      rw [e1, ← nm_addl, nm_mull, nm_addl, Int.sub_mul, Int.zero_mul]
      congr 1; omega
    · rw [if_neg hr]
      by_cases hr2 : k < q ∧ k ≤ t
      · rw [if_pos hr2, getD_big (show D.length ≤ t - k by omega), Int.mul_zero, Int.add_zero]
      · rw [if_neg hr2, Int.add_zero]
  · intro t h1 h2
    rw [addAt_getD, h.la]
    by_cases hr : k ≤ t ∧ t < k + m ∧ t < L.length
    · have ht : t = k + (m - 1) := by omega
      rw [if_pos hr, ht, hx, show k + (m - 1) - k = m - 1 by omega, ← nm_addr, nm_mull, nm_addr, Int.sub_mul, Int.zero_mul, hv]
      have e : nm (nm (x * iv (D.getD (m - 1) 0)) * D.getD (m - 1) 0) = nm x := by
        rw [nm_mull, Int.mul_assoc, ← nm_mulr, iv_mul hd, Int.mul_one]
      have e2 : ∀ y : Int, nm y = nm x → nm (x + (0 - y)) = 0 := fun y hy => by unfold nm at *; omega
      exact e2 _ e
    · rw [if_neg hr]
      exact h.hi t (by omega) h2
  · intro _
    rw [getD_set]
    by_cases hkq : k + 1 = q
    · rw [if_pos (by rw [h.lq]; omega), hv]
      have hA := h.same hkq
      rw [hA] at hx
      have hx0 : nm x ≠ 0 := by
        rw [hA] at hxb
        rw [← hx, nm_small hxb.1 hxb.2, show k + (m - 1) = n - 1 by omega]; exact hL
      intro e0
      have hz := nm_mul_zero e0 hx0
      have := iv_mul hd
      rw [← nm_mull, hz, Int.zero_mul] at this
      exact absurd this (by decide)
    · rw [if_neg (by omega)]
      exact h.top (by omega)
end Crm
