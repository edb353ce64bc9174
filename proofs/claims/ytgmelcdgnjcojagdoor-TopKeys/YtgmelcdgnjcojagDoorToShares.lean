/- Normal polynomials: one list a polynomial; products and sums number by number; division step by step. Plain. · Values of polynomials: of sums, of products; as many places as numbers: one polynomial. Plain. · Slices of shares that are read. -/
import Derived.Test.YtgmelcdgnjcojagDoorToPolyM
namespace Crm

theorem getD_big {xs : List Int} {t : Nat} (h : xs.length ≤ t) : xs.getD t 0 = 0 := by
  rw [List.getD_eq_getElem?_getD, List.getElem?_eq_none h]; rfl
theorem getD_some {xs : List Int} {t : Nat} (h : t < xs.length) : xs[t]? = some (xs.getD t 0) := by
  rw [List.getD_eq_getElem?_getD, List.getElem?_eq_getElem h]; rfl
theorem getD_mem {xs : List Int} {t : Nat} (h : t < xs.length) : xs.getD t 0 ∈ xs := by
  rw [List.getD_eq_getElem?_getD, List.getElem?_eq_getElem h]; exact List.getElem_mem h
theorem list_ext {xs ys : List Int} (hl : xs.length = ys.length) (h : ∀ t, t < xs.length → xs.getD t 0 = ys.getD t 0) : xs = ys := by
  apply List.ext_getElem?
  intro t
  by_cases ht : t < xs.length
  · rw [getD_some ht, getD_some (by omega), h t ht]
  · rw [List.getElem?_eq_none (by omega), List.getElem?_eq_none (by omega)]
theorem take_getD (xs : List Int) (n t : Nat) : (xs.take n).getD t 0 = if t < n then xs.getD t 0 else 0 := by
  by_cases h : t < n
  · rw [if_pos h]; simp [h]
  · rw [if_neg h]; exact getD_big (by simp; omega)
theorem tl_congr {xs ys : List Int} (h : ∀ t, xs.getD t 0 = ys.getD t 0) : ∀ n, tl xs n = tl ys n
  | 0 => rfl
  | n + 1 => by rw [tl, tl, h n, tl_congr h n]
theorem tl_more {xs : List Int} : ∀ d, tl xs (xs.length + d) = tl xs xs.length
  | 0 => rfl
  | d + 1 => by rw [← Nat.add_assoc, tl, if_pos (getD_big (by omega)), tl_more d]
theorem tl_ge {xs : List Int} {n : Nat} (h : xs.length ≤ n) : tl xs n = tl xs xs.length := by
  have := tl_more (xs := xs) (n - xs.length)
  rwa [show xs.length + (n - xs.length) = n by omega] at this
theorem tl_top (xs : List Int) : ∀ n, 0 < tl xs n → xs.getD (tl xs n - 1) 0 ≠ 0
  | 0 => by simp [tl]
  | n + 1 => by
    rw [tl]
    split
    · exact tl_top xs n
    · intro _; simpa using ‹_›
theorem tl_above (xs : List Int) : ∀ n t, tl xs n ≤ t → t < n → xs.getD t 0 = 0
  | 0, t => by omega
  | n + 1, t => by
    rw [tl]
    split
    · intro h1 h2
      by_cases ht : t = n
      · rw [ht]; assumption
      · exact tl_above xs n t h1 (by omega)
    · intro h1 h2; omega
theorem trm_getD (xs : List Int) (t : Nat) : (trm xs).getD t 0 = xs.getD t 0 := by
  unfold trm
  rw [take_getD]
  split
  · rfl
  · by_cases h : t < xs.length
    · rw [tl_above xs xs.length t (by omega) h]
    · rw [getD_big (by omega)]
theorem trm_ext {xs ys : List Int} (h : ∀ t, xs.getD t 0 = ys.getD t 0) : trm xs = trm ys := by
  have hl : (trm xs).length = (trm ys).length := by
    rw [trm_len, trm_len, ← tl_ge (show xs.length ≤ max xs.length ys.length by omega), ← tl_ge (show ys.length ≤ max xs.length ys.length by omega), tl_congr h]
  exact list_ext hl fun t _ => by rw [trm_getD, trm_getD, h]
theorem nrm_getD (xs : List Int) (t : Nat) : (nrm xs).getD t 0 = nm (xs.getD t 0) := by unfold nrm; rw [trm_getD, nz_getD]
theorem nrm_ext {xs ys : List Int} (h : ∀ t, nm (xs.getD t 0) = nm (ys.getD t 0)) : nrm xs = nrm ys := trm_ext fun t => by rw [nz_getD, nz_getD, h]

/-- Rests, and no nought at the end. -/
structure Nml (xs : List Int) : Prop where
  bd : ∀ x ∈ xs, 0 ≤ x ∧ x ≤ 2147483646
  top : 0 < xs.length → xs.getD (xs.length - 1) 0 ≠ 0
theorem nrm_Nml (xs : List Int) : Nml (nrm xs) := by
  refine ⟨nrm_bd' xs, fun h => ?_⟩
  rw [nrm_getD, ← nz_getD]
  rw [nrm_len] at h ⊢
  exact tl_top _ _ h
theorem nz_id {xs : List Int} (h : ∀ x ∈ xs, 0 ≤ x ∧ x ≤ 2147483646) : nz xs = xs := by
  unfold nz
  have : xs.map nm = xs.map id := List.map_congr_left fun x hx => nm_small (h x hx).1 (h x hx).2
  rw [this, List.map_id]
theorem trm_id {xs : List Int} (h : 0 < xs.length → xs.getD (xs.length - 1) 0 ≠ 0) : trm xs = xs := by
  unfold trm
  apply List.take_of_length_le
  cases hl : xs.length with
  | zero => omega
  | succ n => rw [tl_last xs (by have := h (by omega); rwa [hl] at this)]; omega
theorem nrm_id {xs : List Int} (h : Nml xs) : nrm xs = xs := by unfold nrm; rw [nz_id h.bd, trm_id h.top]
theorem tl_nrm {xs : List Int} (h : Nml xs) : tl (nz xs) xs.length = xs.length := by rw [← nrm_len, nrm_id h]
theorem bd_u64 {xs : List Int} (h : ∀ x ∈ xs, 0 ≤ x ∧ x ≤ 2147483646) : ∀ x ∈ xs, 0 ≤ x ∧ x ≤ 18446744073709551615 := fun x hx => by have := h x hx; omega
theorem getD_bd' {xs : List Int} (h : ∀ x ∈ xs, 0 ≤ x ∧ x ≤ 2147483646) (t : Nat) : 0 ≤ xs.getD t 0 ∧ xs.getD t 0 ≤ 2147483646 := by
  by_cases ht : t < xs.length
  · exact h _ (getD_mem ht)
  · rw [getD_big (by omega)]; omega
theorem set_bd' {L : List Int} (h : ∀ x ∈ L, 0 ≤ x ∧ x ≤ 2147483646) (i : Nat) {v : Int} (hv : 0 ≤ v ∧ v ≤ 2147483646) : ∀ x ∈ L.set i v, 0 ≤ x ∧ x ≤ 2147483646 := by
  intro x hx
  rcases List.mem_or_eq_of_mem_set hx with h1 | h1
  · exact h x h1
  · rw [h1]; exact hv
theorem addAt_bd' {L : List Int} (h : ∀ x ∈ L, 0 ≤ x ∧ x ≤ 2147483646) (o : Nat) (B : List Int) (t : Int) : ∀ k, ∀ x ∈ addAt L o B t k, 0 ≤ x ∧ x ≤ 2147483646
  | 0 => h
  | k + 1 => by rw [addAt]; exact set_bd' (addAt_bd' h o B t k) _ (nm_bd _)

/-- Behind the last number of ps nothing is added; behind both there is nothing. -/
theorem pc_ge (ps qs : List Int) (k : Nat) : ∀ d, pc ps qs k (ps.length + d) = pc ps qs k ps.length
  | 0 => rfl
  | d + 1 => by
    show pc ps qs k (ps.length + d) + tm ps qs k (ps.length + d) = _
    rw [pc_ge ps qs k d, tm, getD_big (show ps.length ≤ ps.length + d by omega), Int.zero_mul]
    split <;> omega
theorem pc_far (ps qs : List Int) (k : Nat) : ∀ n, n + qs.length ≤ k + 1 → pc ps qs k n = 0
  | 0, _ => rfl
  | n + 1, h => by
    rw [pc, pc_far ps qs k n (by omega), tm]
    split
    · rw [getD_big (show qs.length ≤ k - n by omega), Int.mul_zero]; rfl
    · rfl
theorem cvl_len (ps qs : List Int) : (cvl ps qs).length = ps.length + qs.length - 1 := by simp [cvl]
theorem cvl_getD (ps qs : List Int) (t : Nat) : (cvl ps qs).getD t 0 = nm (pc ps qs t ps.length) := by
  by_cases ht : t < ps.length + qs.length - 1
  · unfold cvl; simp [ht]
  · rw [getD_big (by rw [cvl_len]; omega), pc_far ps qs t ps.length (by omega)]; rfl
theorem cvl_bd (ps qs : List Int) : ∀ x ∈ cvl ps qs, 0 ≤ x ∧ x ≤ 2147483646 := by
  intro x hx
  obtain ⟨k, _, rfl⟩ := List.mem_map.1 hx
  exact nm_bd _
/-- One number of ps, that was 0, is set. -/
theorem pc_set (ps qs : List Int) (i : Nat) (v : Int) (h0 : ps.getD i 0 = 0) (t : Nat) : ∀ n, n ≤ ps.length → pc (ps.set i v) qs t n = pc ps qs t n + if i < n ∧ i ≤ t then v * qs.getD (t - i) 0 else 0
  | 0, _ => by rw [if_neg (by omega)]; rfl
  | n + 1, hn => by
    rw [pc, pc, pc_set ps qs i v h0 t n (by omega), tm, tm, getD_set]
    by_cases hi : i = n
    · subst hi
      rw [h0, if_neg (show ¬ (i < i ∧ i ≤ t) by omega), if_pos (show i = i ∧ i < ps.length by omega)]
      by_cases ht : i ≤ t
      · rw [if_pos ht, if_pos ht, if_pos (by omega)]; omega
      · rw [if_neg ht, if_neg ht, if_neg (by omega)]
    · rw [if_neg (show ¬ (i = n ∧ n < ps.length) by omega)]
      by_cases hc : i < n ∧ i ≤ t
      · rw [if_pos hc, if_pos (show i < n + 1 ∧ i ≤ t by omega), Int.add_right_comm]
      · rw [if_neg hc, if_neg (show ¬ (i < n + 1 ∧ i ≤ t) by omega), Int.add_zero, Int.add_zero]
def sml (ps qs : List Int) : List Int := (List.range (max ps.length qs.length)).map fun i => nm (ps.getD i 0 + qs.getD i 0)
theorem sml_len (ps qs : List Int) : (sml ps qs).length = max ps.length qs.length := by simp [sml]
theorem sml_getD (ps qs : List Int) (t : Nat) : (sml ps qs).getD t 0 = nm (ps.getD t 0 + qs.getD t 0) := by
  by_cases ht : t < max ps.length qs.length
  · unfold sml; simp [List.getElem?_range ht]
  · rw [getD_big (by rw [sml_len]; omega), getD_big (show ps.length ≤ t by omega), getD_big (show qs.length ≤ t by omega)]; rfl

/-- Where the division stands when the places k and above of the quotient are known. -/
structure DivI (L D Q A : List Int) (n m q k : Nat) : Prop where
  la : A.length = L.length
  lq : Q.length = q
  ba : ∀ x ∈ A, 0 ≤ x ∧ x ≤ 2147483646
  bq : ∀ x ∈ Q, 0 ≤ x ∧ x ≤ 2147483646
  z : ∀ j, j < k → Q.getD j 0 = 0
  eq : ∀ t, t < n → nm (A.getD t 0 + pc Q D t q) = nm (L.getD t 0)
  hi : ∀ t, k + (m - 1) ≤ t → t < n → A.getD t 0 = 0
  same : k = q → A = L
  top : k < q → Q.getD (q - 1) 0 ≠ 0

theorem pc_zeros (D : List Int) (t : Nat) (q : Nat) : ∀ n, pc (List.replicate q 0) D t n = 0
  | 0 => rfl
  | n + 1 => by
    rw [pc, pc_zeros D t q n, tm]
    have : (List.replicate q (0 : Int)).getD n 0 = 0 := by
      by_cases h : n < q
      · simp [h]
      · exact getD_big (by simp; omega)
    rw [this, Int.zero_mul]
    split <;> rfl
theorem zeros_getD (q t : Nat) : (List.replicate q (0 : Int)).getD t 0 = 0 := by
  by_cases h : t < q
  · simp [h]
  · exact getD_big (by simp; omega)
theorem div_start {L D : List Int} {n m q : Nat} (hL : ∀ x ∈ L, 0 ≤ x ∧ x ≤ 2147483646) (hq : n ≤ q + (m - 1)) : DivI L D (List.replicate q 0) L n m q q :=
  ⟨rfl, by simp, hL, fun x hx => by rw [List.eq_of_mem_replicate hx]; omega, fun j _ => zeros_getD q j, fun t _ => by rw [pc_zeros, Int.add_zero], fun t h1 h2 => by omega, fun _ => rfl, fun h => by omega⟩
theorem div_step {L D Q A : List Int} {n m q k : Nat} (h : DivI L D Q A n m q (k + 1)) (hk : k < q) (hq : q + (m - 1) = n) (hm : 0 < m) (hD : D.length = m) (hn : n ≤ L.length) (hd : nm (D.getD (m - 1) 0) ≠ 0)
    (hL : L.getD (n - 1) 0 ≠ 0) {x v : Int} (hx : A.getD (k + (m - 1)) 0 = x) (hv : v = nm (x * iv (D.getD (m - 1) 0))) :
    DivI L D (Q.set k v) (addAt A k D (nm (0 - v)) m) n m q k := by
  have hxb := getD_bd' h.ba (k + (m - 1))
  have hvb : 0 ≤ v ∧ v ≤ 2147483646 := by rw [hv]; exact nm_bd _
  refine ⟨by rw [addAt_len, h.la], by rw [List.length_set, h.lq], addAt_bd' h.ba _ _ _ _, set_bd' h.bq _ hvb, ?_, ?_, ?_, fun e => by omega, ?_⟩
  · intro j hj
    rw [getD_set, if_neg (by omega)]
    exact h.z j (by omega)
  · intro t ht
    rw [← h.eq t ht, pc_set Q D k v (h.z k (by omega)) t q (by rw [h.lq]; omega), addAt_getD, h.la]
    by_cases hr : k ≤ t ∧ t < k + m ∧ t < L.length
    · rw [if_pos hr, if_pos (by omega), nm_addl]
      have e1 : nm (A.getD t 0 + nm (0 - v) * D.getD (t - k) 0 + (pc Q D t q + v * D.getD (t - k) 0)) = nm (nm (0 - v) * D.getD (t - k) 0 + (A.getD t 0 + (pc Q D t q + v * D.getD (t - k) 0))) := by congr 1; omega
      rw [e1, ← nm_addl, nm_mull, nm_addl, Int.sub_mul, Int.zero_mul]
      congr 1; omega
    · rw [if_neg hr]
      by_cases hr2 : k < q ∧ k ≤ t
      · rw [if_pos hr2, getD_big (show D.length ≤ t - k by omega), Int.mul_zero, Int.add_zero]
      · rw [if_neg hr2, Int.add_zero]
  · intro t h1 h2
    rw [addAt_getD, h.la]
    by_cases hr : k ≤ t ∧ t < k + m ∧ t < L.length
    · have ht : t = k + (m - 1) := by omega
      rw [if_pos hr, ht, hx, show k + (m - 1) - k = m - 1 by omega, ← nm_addr, nm_mull, nm_addr, Int.sub_mul, Int.zero_mul, hv]
      have e : nm (nm (x * iv (D.getD (m - 1) 0)) * D.getD (m - 1) 0) = nm x := by
        rw [nm_mull, Int.mul_assoc, ← nm_mulr, iv_mul hd, Int.mul_one]
      have e2 : ∀ y : Int, nm y = nm x → nm (x + (0 - y)) = 0 := fun y hy => by unfold nm at *; omega
      exact e2 _ e
    · rw [if_neg hr]
      exact h.hi t (by omega) h2
  · intro _
    rw [getD_set]
    by_cases hkq : k + 1 = q
    · rw [if_pos (by rw [h.lq]; omega), hv]
      have hA := h.same hkq
      rw [hA] at hx
      have hx0 : nm x ≠ 0 := by
        rw [hA] at hxb
        rw [← hx, nm_small hxb.1 hxb.2, show k + (m - 1) = n - 1 by omega]; exact hL
      intro e0
      have hz := nm_mul_zero e0 hx0
      have := iv_mul hd
      rw [← nm_mull, hz, Int.zero_mul] at this
      exact absurd this (by decide)
    · rw [if_neg (by omega)]
      exact h.top (by omega)
end Crm

namespace Crm

theorem cons_getD0 (a : Int) (l : List Int) : (a :: l).getD 0 0 = a := rfl
theorem cons_getDs (a : Int) (l : List Int) (t : Nat) : (a :: l).getD (t + 1) 0 = l.getD t 0 := rfl
theorem ev_zero : ∀ (q : List Int) (x : Int), (∀ t, nm (q.getD t 0) = 0) → nm (ev q x) = 0
  | [], _, _ => rfl
  | b :: q, x, h => by
    have h0 := h 0
    rw [cons_getD0] at h0
    have h1 := ev_zero q x (fun t => h (t + 1))
    rw [ev, nm_add_congr (c := 0) (d := x * 0) h0 (nm_mul_congr rfl h1), Int.mul_zero]
    rfl
theorem ev_congr : ∀ (p q : List Int) (x : Int), (∀ t, nm (p.getD t 0) = nm (q.getD t 0)) → nm (ev p x) = nm (ev q x)
  | [], q, x, h => by rw [ev_zero q x (fun t => (h t).symm)]; rfl
  | a :: p, [], x, h => by rw [ev_zero (a :: p) x h]; rfl
  | a :: p, b :: q, x, h => by
    rw [ev, ev]
    exact nm_add_congr (h 0) (nm_mul_congr rfl (ev_congr p q x (fun t => h (t + 1))))
/-- Number by number: p, and c times q. -/
def adl (c : Int) : List Int → List Int → List Int
  | [], q => q.map (c * ·)
  | p, [] => p
  | a :: p, b :: q => (a + c * b) :: adl c p q
theorem adl_nil (c : Int) (p : List Int) : adl c p [] = p := by cases p <;> rfl
theorem map_ev (c : Int) (x : Int) : ∀ q : List Int, ev (q.map (c * ·)) x = c * ev q x
  | [] => by simp [ev]
  | b :: q => by
    rw [List.map_cons, ev, ev, map_ev c x q, Int.mul_add, ← Int.mul_assoc, ← Int.mul_assoc, Int.mul_comm c x]
theorem map_getD (c : Int) (q : List Int) (t : Nat) : (q.map (c * ·)).getD t 0 = c * q.getD t 0 := by
  by_cases h : t < q.length
  · simp [List.getElem?_eq_getElem h]
  · rw [getD_big (by simp; omega), getD_big (by omega), Int.mul_zero]
theorem adl_ev (c : Int) (x : Int) : ∀ p q : List Int, ev (adl c p q) x = ev p x + c * ev q x
  | [], q => by rw [adl, map_ev, ev, Int.zero_add]
  | a :: p, [] => by rw [adl_nil, ev, ev, Int.mul_zero, Int.add_zero]
  | a :: p, b :: q => by
    rw [adl, ev, ev, ev, adl_ev c x p q, Int.mul_add, Int.mul_add]
    have : x * (c * ev q x) = c * (x * ev q x) := by rw [← Int.mul_assoc, ← Int.mul_assoc, Int.mul_comm x c]
    omega
theorem adl_getD (c : Int) : ∀ (p q : List Int) (t : Nat), (adl c p q).getD t 0 = p.getD t 0 + c * q.getD t 0
  | [], q, t => by rw [adl, map_getD, getD_big (xs := []) (by simp), Int.zero_add]
  | a :: p, [], t => by rw [adl_nil, getD_big (xs := []) (by simp), Int.mul_zero, Int.add_zero]
  | a :: p, b :: q, 0 => rfl
  | a :: p, b :: q, t + 1 => by rw [adl, cons_getDs, cons_getDs, cons_getDs, adl_getD c p q t]
theorem adl_len (c : Int) : ∀ p q : List Int, (adl c p q).length = max p.length q.length
  | [], q => by simp [adl]
  | a :: p, [] => by simp [adl_nil]
  | a :: p, b :: q => by rw [adl, List.length_cons, adl_len c p q, List.length_cons, List.length_cons]; omega

theorem nrm_ev (p : List Int) (x : Int) : nm (ev (nrm p) x) = nm (ev p x) := ev_congr _ _ _ fun t => by rw [nrm_getD, nm_nm]
theorem sml_ev (p q : List Int) (x : Int) : nm (ev (sml p q) x) = nm (ev p x + ev q x) := by
  have := ev_congr (sml p q) (adl 1 p q) x fun t => by rw [sml_getD, adl_getD, nm_nm, Int.one_mul]
  rw [this, adl_ev, Int.one_mul]
theorem addAt_ev (S Z : List Int) (t : Int) (x : Int) (h : Z.length ≤ S.length) : nm (ev (addAt S 0 Z t Z.length) x) = nm (ev S x + t * ev Z x) := by
  have := ev_congr (addAt S 0 Z t Z.length) (adl t S Z) x fun i => by
    rw [addAt_getD, adl_getD]
    by_cases hi : 0 ≤ i ∧ i < 0 + Z.length ∧ i < S.length
    · rw [if_pos hi, nm_nm, Nat.sub_zero]
    · rw [if_neg hi, getD_big (show Z.length ≤ i by omega), Int.mul_zero, Int.add_zero]
  rw [this, adl_ev]
theorem pc_cons (a : Int) (ps qs : List Int) (t : Nat) : ∀ n, pc (a :: ps) qs (t + 1) (n + 1) = a * qs.getD (t + 1) 0 + pc ps qs t n
  | 0 => by
    show (0 : Int) + tm (a :: ps) qs (t + 1) 0 = a * qs.getD (t + 1) 0 + 0
    rw [tm, if_pos (Nat.zero_le _), cons_getD0, Nat.sub_zero]
    omega
  | n + 1 => by
    show pc (a :: ps) qs (t + 1) (n + 1) + tm (a :: ps) qs (t + 1) (n + 1) = a * qs.getD (t + 1) 0 + (pc ps qs t n + tm ps qs t n)
    rw [pc_cons a ps qs t n]
    have : tm (a :: ps) qs (t + 1) (n + 1) = tm ps qs t n := by
      rw [tm, tm, cons_getDs]
      by_cases h : n ≤ t
      · rw [if_pos h, if_pos (by omega), show t + 1 - (n + 1) = t - n by omega]
      · rw [if_neg h, if_neg (by omega)]
    rw [this, Int.add_assoc]
theorem pc_cons0 (a : Int) (ps qs : List Int) : ∀ n, pc (a :: ps) qs 0 (n + 1) = a * qs.getD 0 0
  | 0 => by
    show (0 : Int) + tm (a :: ps) qs 0 0 = _
    rw [tm, if_pos (Nat.le_refl _), cons_getD0, Int.zero_add]
  | n + 1 => by
    show pc (a :: ps) qs 0 (n + 1) + tm (a :: ps) qs 0 (n + 1) = _
    rw [pc_cons0 a ps qs n, tm, if_neg (by omega), Int.add_zero]
theorem cvl_ev (x : Int) : ∀ ps qs : List Int, nm (ev (cvl ps qs) x) = nm (ev ps x * ev qs x)
  | [], qs => by
    rw [ev_zero (cvl [] qs) x fun t => by rw [cvl_getD]; rfl, ev, Int.zero_mul]
    rfl
  | a :: ps, qs => by
    have h := ev_congr (cvl (a :: ps) qs) (adl a (0 :: cvl ps qs) qs) x fun t => by
      rw [cvl_getD, adl_getD, List.length_cons]
      cases t with
      | zero => rw [pc_cons0, cons_getD0, nm_nm, Int.zero_add]
      | succ t => rw [pc_cons, cons_getDs, cvl_getD, nm_nm, nm_addl, Int.add_comm]
    have h2 := cvl_ev x ps qs
    rw [h, adl_ev, ev, Int.zero_add, ev, Int.add_mul, Int.mul_assoc x, Int.add_comm]
    exact nm_add_congr rfl (nm_mul_congr rfl h2)

/-- What is left when (x - c) is taken out of a :: t. -/
def sy (c : Int) : List Int → List Int
  | [] => []
  | b :: t => ev (b :: t) c :: sy c t
theorem sy_len (c : Int) : ∀ t : List Int, (sy c t).length = t.length
  | [] => rfl
  | b :: t => by rw [sy, List.length_cons, sy_len c t, List.length_cons]
theorem sy_ev (c x : Int) : ∀ (t : List Int) (a : Int), ev (a :: t) x - ev (a :: t) c = (x - c) * ev (sy c t) x
  | [], a => by simp [ev, sy]
  | b :: t, a => by
    have h := sy_ev c x t b
    show (a + x * ev (b :: t) x) - (a + c * ev (b :: t) c) = (x - c) * (ev (b :: t) c + x * ev (sy c t) x)
    generalize ev (b :: t) x = E at *
    generalize ev (b :: t) c = F at *
    generalize ev (sy c t) x = G at *
    have e : E = F + (x - c) * G := by omega
    rw [e, Int.mul_add, Int.mul_add, Int.sub_mul, Int.sub_mul, Int.sub_mul, Int.mul_sub]
    have h1 : x * (c * G) = c * (x * G) := by rw [← Int.mul_assoc, ← Int.mul_assoc, Int.mul_comm x c]
    omega
theorem sy_zero (c : Int) : ∀ (t : List Int) (a : Int), (∀ x ∈ sy c t, nm x = 0) → nm (ev (a :: t) c) = 0 → ∀ x ∈ a :: t, nm x = 0
  | [], a, _, h, x, hx => by
    rw [List.mem_singleton] at hx
    subst hx
    simpa [ev] using h
  | b :: t, a, hs, h, x, hx => by
    rw [sy] at hs
    have h1 : nm (ev (b :: t) c) = 0 := hs _ (List.mem_cons_self ..)
    have h2 := sy_zero c t b (fun x hx => hs x (List.mem_cons_of_mem _ hx)) h1
    rcases List.mem_cons.1 hx with rfl | hx
    · rw [ev, nm_add_congr (c := x) (d := c * 0) rfl (nm_mul_congr rfl h1), Int.mul_zero, Int.add_zero] at h
      exact h
    · exact h2 x hx
/-- A polynomial of no more numbers than it has places at which it is 0: all its numbers are 0. -/
theorem roots : ∀ (pts l : List Int), pts.Pairwise (fun a b => nm (a - b) ≠ 0) → (∀ c ∈ pts, nm (ev l c) = 0) → l.length ≤ pts.length → ∀ x ∈ l, nm x = 0
  | [], l, _, _, hl, x, hx => by
    rw [List.eq_nil_of_length_eq_zero (Nat.le_zero.1 hl)] at hx
    cases hx
  | c :: pts, [], _, _, _, x, hx => by cases hx
  | c :: pts, a :: t, hp, hr, hl, x, hx => by
    rw [List.pairwise_cons] at hp
    have hc := hr c (List.mem_cons_self ..)
    have hq := roots pts (sy c t) hp.2 (fun d hd => by
      have h1 := sy_ev c d t a
      have h2 := hr d (List.mem_cons_of_mem _ hd)
      have h3 : nm ((d - c) * ev (sy c t) d) = 0 := by
        rw [← h1, nm_sub_congr (c := 0) (d := 0) h2 hc]; rfl
      refine nm_mul_zero h3 fun e => hp.1 d hd ?_
      unfold nm at *; omega) (by rw [sy_len]; simp at hl; exact hl)
    exact sy_zero c t a hq hc x hx
/-- Two polynomials of at most n numbers that tell the same at n places are the same. -/
theorem same_poly {p q pts : List Int} (hp : pts.Pairwise (fun a b => nm (a - b) ≠ 0)) (h : ∀ c ∈ pts, nm (ev p c) = nm (ev q c)) (h1 : p.length ≤ pts.length) (h2 : q.length ≤ pts.length) : nrm p = nrm q := by
  have hd := roots pts (adl (-1) p q) hp (fun c hc => by
    rw [adl_ev, Int.neg_one_mul]
    have := h c hc
    unfold nm at *; omega) (by rw [adl_len]; omega)
  refine nrm_ext fun t => ?_
  have h3 : nm ((adl (-1) p q).getD t 0) = 0 := by
    by_cases ht : t < (adl (-1) p q).length
    · exact hd _ (getD_mem ht)
    · rw [getD_big (by omega)]; rfl
  rw [adl_getD, Int.neg_one_mul] at h3
  unfold nm at *; omega
end Crm

namespace Go.Proofs.YtgmelcdgnjcojagDoor
open Go.RowKit Crm

/-- The slice reads as the shares l: of each its At and its Y. -/
structure RdS (w : World) (a : Option Addr) (n c : Nat) (l : List (Int × Int)) : Prop where
  len : l.length = n
  cap : n ≤ c
  max : c ≤ maxLen
  bd : ∀ i, i < n → (-9223372036854775808 ≤ (l.getD i (0, 0)).1 ∧ (l.getD i (0, 0)).1 ≤ 9223372036854775807) ∧ 0 ≤ (l.getD i (0, 0)).2 ∧ (l.getD i (0, 0)).2 ≤ 18446744073709551615
  nil : a = none → c = 0
  cell : ∀ x, a = some x → ∀ i, i < n → w.cell? (x.add (i * 2)) = some (.int .i64 (l.getD i (0, 0)).1) ∧ w.cell? (x.add (i * 2 + 1)) = some (.int .u64 (l.getD i (0, 0)).2)

theorem RdS.at {w : World} {a : Option Addr} {n c : Nat} {l : List (Int × Int)} (h : RdS w a n c l) {k : Nat} (hk : k < n) :
    ∃ b o, a = some ⟨b, o, none⟩ ∧ b < w.heap.size ∧ ∀ i, i < n → w.cell? ⟨b, o + i * 2, none⟩ = some (.int .i64 (l.getD i (0, 0)).1) ∧ w.cell? ⟨b, o + i * 2 + 1, none⟩ = some (.int .u64 (l.getD i (0, 0)).2) := by
  cases ha : a with
  | none => have := h.nil ha; have := h.cap; omega
  | some x =>
    have h0 := (h.cell x ha 0 (by omega)).1
    have hs : x.spot = none := by
      have := spot_none h0
      unfold Addr.add at this
      split at this <;> simp_all
    obtain ⟨b, o, s⟩ := x
    simp only at hs
    subst hs
    refine ⟨b, o, rfl, ?_, fun i hi => by have := h.cell _ ha i hi; rwa [Addr.add_lit, Addr.add_lit, ← Nat.add_assoc] at this⟩
    have := World.block_lt_of_cell? w _ h0
    rwa [Addr.add_lit] at this

/-- One share of it, by names of its own. -/
theorem RdS.one {w : World} {a : Option Addr} {n c : Nat} {l : List (Int × Int)} (h : RdS w a n c l) {k : Nat} (hk : k < n) :
    ∃ b o x y, a = some ⟨b, o, none⟩ ∧ b < w.heap.size ∧ Hid ((l.getD k (0, 0)).1 = x) ∧ Hid ((l.getD k (0, 0)).2 = y) ∧ -9223372036854775808 ≤ x ∧ x ≤ 9223372036854775807 ∧ 0 ≤ y ∧ y ≤ 18446744073709551615 ∧ w.cell? ⟨b, o + k * 2, none⟩ = some (.int .i64 x) ∧ w.cell? ⟨b, o + k * 2 + 1, none⟩ = some (.int .u64 y) := by
  obtain ⟨b, o, ha, hb, hc⟩ := h.at hk
  have := h.bd k hk
  exact ⟨b, o, _, _, ha, hb, rfl, rfl, this.1.1, this.1.2, this.2.1, this.2.2, (hc k hk).1, (hc k hk).2⟩

theorem RdS.below {w w' : World} {a : Option Addr} {n c : Nat} {l : List (Int × Int)} (h : RdS w a n c l) (hb : Below w.heap.size w w') : RdS w' a n c l := by
  refine ⟨h.len, h.cap, h.max, h.bd, h.nil, fun x hx i hi => ?_⟩
  have := h.cell x hx i hi
  rw [hb.cell (World.block_lt_of_cell? w _ this.1), hb.cell (World.block_lt_of_cell? w _ this.2)]
  exact this

/-- The first k shares stand at places, no two at one. -/
def okk (l : List (Int × Int)) (k : Nat) : Prop := ∀ i, i < k → (1 ≤ (l.getD i (0, 0)).1 ∧ (l.getD i (0, 0)).1 ≤ 2147483646) ∧ ∀ j, j < i → (l.getD j (0, 0)).1 ≠ (l.getD i (0, 0)).1
theorem okk_zero (l : List (Int × Int)) : okk l 0 := fun i hi => by omega
theorem okk_succ {l : List (Int × Int)} {k : Nat} {x : Int} (h : okk l k) (hx : (l.getD k (0, 0)).1 = x) (h1 : 1 ≤ x) (h2 : x ≤ 2147483646) (h3 : ∀ j, j < k → (l.getD j (0, 0)).1 ≠ x) : okk l (k + 1) := by
  intro i hi
  by_cases e : i = k
  · subst e; rw [hx]; exact ⟨⟨h1, h2⟩, h3⟩
  · exact h i (by omega)
end Go.Proofs.YtgmelcdgnjcojagDoor
