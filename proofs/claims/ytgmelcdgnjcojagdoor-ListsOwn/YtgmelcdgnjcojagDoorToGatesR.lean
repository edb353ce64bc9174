/- Normal polynomials: one list a polynomial; products and sums number by number; division step by step. Plain. · Circuits: plain facts. · Slices of gates (api.Gate) that are read. -/
import Derived.Test.YtgmelcdgnjcojagDoorToPolyM
namespace Crm

theorem getD_big {xs : List Int} {t : Nat} (h : xs.length ≤ t) : xs.getD t 0 = 0 := by
  rw [List.getD_eq_getElem?_getD, List.getElem?_eq_none h]; rfl
theorem getD_some {xs : List Int} {t : Nat} (h : t < xs.length) : xs[t]? = some (xs.getD t 0) := by
  rw [List.getD_eq_getElem?_getD, List.getElem?_eq_getElem h]; rfl
theorem getD_mem {xs : List Int} {t : Nat} (h : t < xs.length) : xs.getD t 0 ∈ xs := by
  rw [List.getD_eq_getElem?_getD, List.getElem?_eq_getElem h]; exact List.getElem_mem h
theorem list_ext {xs ys : List Int} (hl : xs.length = ys.length) (h : ∀ t, t < xs.length → xs.getD t 0 = ys.getD t 0) : xs = ys := by
  apply List.ext_getElem?
  intro t
  by_cases ht : t < xs.length
  · rw [getD_some ht, getD_some (by omega), h t ht]
  · rw [List.getElem?_eq_none (by omega), List.getElem?_eq_none (by omega)]
theorem take_getD (xs : List Int) (n t : Nat) : (xs.take n).getD t 0 = if t < n then xs.getD t 0 else 0 := by
  by_cases h : t < n
  · rw [if_pos h]; simp [h]
  · rw [if_neg h]; exact getD_big (by simp; omega)
theorem tl_congr {xs ys : List Int} (h : ∀ t, xs.getD t 0 = ys.getD t 0) : ∀ n, tl xs n = tl ys n
  | 0 => rfl
  | n + 1 => by rw [tl, tl, h n, tl_congr h n]
theorem tl_more {xs : List Int} : ∀ d, tl xs (xs.length + d) = tl xs xs.length
  | 0 => rfl
  | d + 1 => by rw [← Nat.add_assoc, tl, if_pos (getD_big (by omega)), tl_more d]
theorem tl_ge {xs : List Int} {n : Nat} (h : xs.length ≤ n) : tl xs n = tl xs xs.length := by
  have := tl_more (xs := xs) (n - xs.length)
  rwa [show xs.length + (n - xs.length) = n by omega] at this
theorem tl_top (xs : List Int) : ∀ n, 0 < tl xs n → xs.getD (tl xs n - 1) 0 ≠ 0
  | 0 => by simp [tl]
  | n + 1 => by
    rw [tl]
    split
    · exact tl_top xs n
    · intro _; simpa using ‹_›
theorem tl_above (xs : List Int) : ∀ n t, tl xs n ≤ t → t < n → xs.getD t 0 = 0
  | 0, t => by omega
  | n + 1, t => by
    rw [tl]
    split
    · intro h1 h2
      by_cases ht : t = n
      · rw [ht]; assumption
      · exact tl_above xs n t h1 (by omega)
    · intro h1 h2; omega
theorem trm_getD (xs : List Int) (t : Nat) : (trm xs).getD t 0 = xs.getD t 0 := by
  unfold trm
  rw [take_getD]
  split
  · rfl
  · by_cases h : t < xs.length
    · rw [tl_above xs xs.length t (by omega) h]
    · rw [getD_big (by omega)]
theorem trm_ext {xs ys : List Int} (h : ∀ t, xs.getD t 0 = ys.getD t 0) : trm xs = trm ys := by
  have hl : (trm xs).length = (trm ys).length := by
    rw [trm_len, trm_len, ← tl_ge (show xs.length ≤ max xs.length ys.length by omega), ← tl_ge (show ys.length ≤ max xs.length ys.length by omega), tl_congr h]
  exact list_ext hl fun t _ => by rw [trm_getD, trm_getD, h]
theorem nrm_getD (xs : List Int) (t : Nat) : (nrm xs).getD t 0 = nm (xs.getD t 0) := by unfold nrm; rw [trm_getD, nz_getD]
theorem nrm_ext {xs ys : List Int} (h : ∀ t, nm (xs.getD t 0) = nm (ys.getD t 0)) : nrm xs = nrm ys := trm_ext fun t => by rw [nz_getD, nz_getD, h]

/-- Rests, and no nought at the end. -/
structure Nml (xs : List Int) : Prop where
  bd : ∀ x ∈ xs, 0 ≤ x ∧ x ≤ 2147483646
  top : 0 < xs.length → xs.getD (xs.length - 1) 0 ≠ 0
theorem nrm_Nml (xs : List Int) : Nml (nrm xs) := by
  refine ⟨nrm_bd' xs, fun h => ?_⟩
  rw [nrm_getD, ← nz_getD]
  rw [nrm_len] at h ⊢
  exact tl_top _ _ h
theorem nz_id {xs : List Int} (h : ∀ x ∈ xs, 0 ≤ x ∧ x ≤ 2147483646) : nz xs = xs := by
  unfold nz
  have : xs.map nm = xs.map id := List.map_congr_left fun x hx => nm_small (h x hx).1 (h x hx).2
  rw [this, List.map_id]
theorem trm_id {xs : List Int} (h : 0 < xs.length → xs.getD (xs.length - 1) 0 ≠ 0) : trm xs = xs := by
  unfold trm
  apply List.take_of_length_le
  cases hl : xs.length with
  | zero => omega
  | succ n => rw [tl_last xs (by have := h (by omega); rwa [hl] at this)]; omega
theorem nrm_id {xs : List Int} (h : Nml xs) : nrm xs = xs := by unfold nrm; rw [nz_id h.bd, trm_id h.top]
theorem tl_nrm {xs : List Int} (h : Nml xs) : tl (nz xs) xs.length = xs.length := by rw [← nrm_len, nrm_id h]
theorem bd_u64 {xs : List Int} (h : ∀ x ∈ xs, 0 ≤ x ∧ x ≤ 2147483646) : ∀ x ∈ xs, 0 ≤ x ∧ x ≤ 18446744073709551615 := fun x hx => by have := h x hx; omega
theorem getD_bd' {xs : List Int} (h : ∀ x ∈ xs, 0 ≤ x ∧ x ≤ 2147483646) (t : Nat) : 0 ≤ xs.getD t 0 ∧ xs.getD t 0 ≤ 2147483646 := by
  by_cases ht : t < xs.length
  · exact h _ (getD_mem ht)
  · rw [getD_big (by omega)]; omega
theorem set_bd' {L : List Int} (h : ∀ x ∈ L, 0 ≤ x ∧ x ≤ 2147483646) (i : Nat) {v : Int} (hv : 0 ≤ v ∧ v ≤ 2147483646) : ∀ x ∈ L.set i v, 0 ≤ x ∧ x ≤ 2147483646 := by
  intro x hx
  rcases List.mem_or_eq_of_mem_set hx with h1 | h1
  · exact h x h1
  · rw [h1]; exact hv
theorem addAt_bd' {L : List Int} (h : ∀ x ∈ L, 0 ≤ x ∧ x ≤ 2147483646) (o : Nat) (B : List Int) (t : Int) : ∀ k, ∀ x ∈ addAt L o B t k, 0 ≤ x ∧ x ≤ 2147483646
  | 0 => h
  | k + 1 => by rw [addAt]; exact set_bd' (addAt_bd' h o B t k) _ (nm_bd _)

/-- Behind the last number of ps nothing is added; behind both there is nothing. -/
theorem pc_ge (ps qs : List Int) (k : Nat) : ∀ d, pc ps qs k (ps.length + d) = pc ps qs k ps.length
  | 0 => rfl
  | d + 1 => by
    show pc ps qs k (ps.length + d) + tm ps qs k (ps.length + d) = _
    rw [pc_ge ps qs k d, tm, getD_big (show ps.length ≤ ps.length + d by omega), Int.zero_mul]
    split <;> omega
theorem pc_far (ps qs : List Int) (k : Nat) : ∀ n, n + qs.length ≤ k + 1 → pc ps qs k n = 0
  | 0, _ => rfl
  | n + 1, h => by
    rw [pc, pc_far ps qs k n (by omega), tm]
    split
    · rw [getD_big (show qs.length ≤ k - n by omega), Int.mul_zero]; rfl
    · rfl
theorem cvl_len (ps qs : List Int) : (cvl ps qs).length = ps.length + qs.length - 1 := by simp [cvl]
theorem cvl_getD (ps qs : List Int) (t : Nat) : (cvl ps qs).getD t 0 = nm (pc ps qs t ps.length) := by
  by_cases ht : t < ps.length + qs.length - 1
  · unfold cvl; simp [ht]
  · rw [getD_big (by rw [cvl_len]; omega), pc_far ps qs t ps.length (by omega)]; rfl
theorem cvl_bd (ps qs : List Int) : ∀ x ∈ cvl ps qs, 0 ≤ x ∧ x ≤ 2147483646 := by
  intro x hx
  obtain ⟨k, _, rfl⟩ := List.mem_map.1 hx
  exact nm_bd _
/-- One number of ps, that was 0, is set. -/
theorem pc_set (ps qs : List Int) (i : Nat) (v : Int) (h0 : ps.getD i 0 = 0) (t : Nat) : ∀ n, n ≤ ps.length → pc (ps.set i v) qs t n = pc ps qs t n + if i < n ∧ i ≤ t then v * qs.getD (t - i) 0 else 0
  | 0, _ => by rw [if_neg (by omega)]; rfl
  | n + 1, hn => by
    rw [pc, pc, pc_set ps qs i v h0 t n (by omega), tm, tm, getD_set]
    by_cases hi : i = n
    · subst hi
      rw [h0, if_neg (show ¬ (i < i ∧ i ≤ t) by omega), if_pos (show i = i ∧ i < ps.length by omega)]
      by_cases ht : i ≤ t
      · rw [if_pos ht, if_pos ht, if_pos (by omega)]; omega
      · rw [if_neg ht, if_neg ht, if_neg (by omega)]
    · rw [if_neg (show ¬ (i = n ∧ n < ps.length) by omega)]
      by_cases hc : i < n ∧ i ≤ t
      · rw [if_pos hc, if_pos (show i < n + 1 ∧ i ≤ t by omega), Int.add_right_comm]
      · rw [if_neg hc, if_neg (show ¬ (i < n + 1 ∧ i ≤ t) by omega), Int.add_zero, Int.add_zero]
def sml (ps qs : List Int) : List Int := (List.range (max ps.length qs.length)).map fun i => nm (ps.getD i 0 + qs.getD i 0)
theorem sml_len (ps qs : List Int) : (sml ps qs).length = max ps.length qs.length := by simp [sml]
theorem sml_getD (ps qs : List Int) (t : Nat) : (sml ps qs).getD t 0 = nm (ps.getD t 0 + qs.getD t 0) := by
  by_cases ht : t < max ps.length qs.length
  · unfold sml; simp [List.getElem?_range ht]
  · rw [getD_big (by rw [sml_len]; omega), getD_big (show ps.length ≤ t by omega), getD_big (show qs.length ≤ t by omega)]; rfl

/-- Where the division stands when the places k and above of the quotient are known. -/
structure DivI (L D Q A : List Int) (n m q k : Nat) : Prop where
  la : A.length = L.length
  lq : Q.length = q
  ba : ∀ x ∈ A, 0 ≤ x ∧ x ≤ 2147483646
  bq : ∀ x ∈ Q, 0 ≤ x ∧ x ≤ 2147483646
  z : ∀ j, j < k → Q.getD j 0 = 0
  eq : ∀ t, t < n → nm (A.getD t 0 + pc Q D t q) = nm (L.getD t 0)
  hi : ∀ t, k + (m - 1) ≤ t → t < n → A.getD t 0 = 0
  same : k = q → A = L
  top : k < q → Q.getD (q - 1) 0 ≠ 0

theorem pc_zeros (D : List Int) (t : Nat) (q : Nat) : ∀ n, pc (List.replicate q 0) D t n = 0
  | 0 => rfl
  | n + 1 => by
    rw [pc, pc_zeros D t q n, tm]
    have : (List.replicate q (0 : Int)).getD n 0 = 0 := by
      by_cases h : n < q
      · simp [h]
      · exact getD_big (by simp; omega)
    rw [this, Int.zero_mul]
    split <;> rfl
theorem zeros_getD (q t : Nat) : (List.replicate q (0 : Int)).getD t 0 = 0 := by
  by_cases h : t < q
  · simp [h]
  · exact getD_big (by simp; omega)
theorem div_start {L D : List Int} {n m q : Nat} (hL : ∀ x ∈ L, 0 ≤ x ∧ x ≤ 2147483646) (hq : n ≤ q + (m - 1)) : DivI L D (List.replicate q 0) L n m q q :=
  ⟨rfl, by simp, hL, fun x hx => by rw [List.eq_of_mem_replicate hx]; omega, fun j _ => zeros_getD q j, fun t _ => by rw [pc_zeros, Int.add_zero], fun t h1 h2 => by omega, fun _ => rfl, fun h => by omega⟩
theorem div_step {L D Q A : List Int} {n m q k : Nat} (h : DivI L D Q A n m q (k + 1)) (hk : k < q) (hq : q + (m - 1) = n) (hm : 0 < m) (hD : D.length = m) (hn : n ≤ L.length) (hd : nm (D.getD (m - 1) 0) ≠ 0)
    (hL : L.getD (n - 1) 0 ≠ 0) {x v : Int} (hx : A.getD (k + (m - 1)) 0 = x) (hv : v = nm (x * iv (D.getD (m - 1) 0))) :
    DivI L D (Q.set k v) (addAt A k D (nm (0 - v)) m) n m q k := by
  have hxb := getD_bd' h.ba (k + (m - 1))
  have hvb : 0 ≤ v ∧ v ≤ 2147483646 := by rw [hv]; exact nm_bd _
  refine ⟨by rw [addAt_len, h.la], by rw [List.length_set, h.lq], addAt_bd' h.ba _ _ _ _, set_bd' h.bq _ hvb, ?_, ?_, ?_, fun e => by omega, ?_⟩
  · intro j hj
    rw [getD_set, if_neg (by omega)]
    exact h.z j (by omega)
  · intro t ht
    rw [← h.eq t ht, pc_set Q D k v (h.z k (by omega)) t q (by rw [h.lq]; omega), addAt_getD, h.la]
    by_cases hr : k ≤ t ∧ t < k + m ∧ t < L.length
    · rw [if_pos hr, if_pos (by omega), nm_addl]
      have e1 : nm (A.getD t 0 + nm (0 - v) * D.getD (t - k) 0 + (pc Q D t q + v * D.getD (t - k) 0)) = nm (nm (0 - v) * D.getD (t - k) 0 + (A.getD t 0 + (pc Q D t q + v * D.getD (t - k) 0))) := by congr 1; omega
      rw [e1, ← nm_addl, nm_mull, nm_addl, Int.sub_mul, Int.zero_mul]
      congr 1; omega
    · rw [if_neg hr]
      by_cases hr2 : k < q ∧ k ≤ t
      · rw [if_pos hr2, getD_big (show D.length ≤ t - k by omega), Int.mul_zero, Int.add_zero]
      · rw [if_neg hr2, Int.add_zero]
  · intro t h1 h2
    rw [addAt_getD, h.la]
    by_cases hr : k ≤ t ∧ t < k + m ∧ t < L.length
    · have ht : t = k + (m - 1) := by omega
      rw [if_pos hr, ht, hx, show k + (m - 1) - k = m - 1 by omega, ← nm_addr, nm_mull, nm_addr, Int.sub_mul, Int.zero_mul, hv]
      have e : nm (nm (x * iv (D.getD (m - 1) 0)) * D.getD (m - 1) 0) = nm x := by
        rw [nm_mull, Int.mul_assoc, ← nm_mulr, iv_mul hd, Int.mul_one]
      have e2 : ∀ y : Int, nm y = nm x → nm (x + (0 - y)) = 0 := fun y hy => by unfold nm at *; omega
      exact e2 _ e
    · rw [if_neg hr]
      exact h.hi t (by omega) h2
  · intro _
    rw [getD_set]
    by_cases hkq : k + 1 = q
    · rw [if_pos (by rw [h.lq]; omega), hv]
      have hA := h.same hkq
      rw [hA] at hx
      have hx0 : nm x ≠ 0 := by
        rw [hA] at hxb
        rw [← hx, nm_small hxb.1 hxb.2, show k + (m - 1) = n - 1 by omega]; exact hL
      intro e0
      have hz := nm_mul_zero e0 hx0
      have := iv_mul hd
      rw [← nm_mull, hz, Int.zero_mul] at this
      exact absurd this (by decide)
    · rw [if_neg (by omega)]
      exact h.top (by omega)
end Crm

namespace Go.Proofs.YtgmelcdgnjcojagDoor
open Crm

/-- A gate: its kind, its wires, its number. -/
structure Gt where
  k : Int
  a : Int
  b : Int
  n : Int
def gt (G : List Gt) (i : Nat) : Gt := G.getD i ⟨0, 0, 0, 0⟩
/-- Gate i is right. -/
def okg (i : Nat) (g : Gt) : Prop :=
  (g.k = 1 ∧ (1 ≤ g.a ∧ g.a ≤ 9) ∧ g.b = 0 ∧ g.n = 0) ∨ (g.k = 2 ∧ g.a = 0 ∧ g.b = 0) ∨ (g.k = 6 ∧ (0 ≤ g.a ∧ g.a < (i : Int)) ∧ g.b = 0) ∨
  ((g.k = 3 ∨ g.k = 4 ∨ g.k = 5) ∧ (0 ≤ g.a ∧ g.a < (i : Int)) ∧ (0 ≤ g.b ∧ g.b < (i : Int)) ∧ g.n = 0)
def okG (G : List Gt) (n : Nat) : Prop := ∀ i, i < n → okg i (gt G i)
def okO (O : List Int) (n m : Nat) : Prop := ∀ j, j < m → 0 ≤ O.getD j 0 ∧ O.getD j 0 < (n : Int)
theorem okG_zero (G : List Gt) : okG G 0 := fun i hi => by omega
theorem okG_succ {G : List Gt} {k : Nat} (h : okG G k) (hk : okg k (gt G k)) : okG G (k + 1) := fun i hi => by
  by_cases e : i = k
  · rw [e]; exact hk
  · exact h i (by omega)
theorem okG_not {G : List Gt} {k n : Nat} (hk : k < n) (h : ¬ okg k (gt G k)) : ¬ okG G n := fun e => h (e k hk)
theorem okO_zero (O : List Int) (n : Nat) : okO O n 0 := fun i hi => by omega
theorem okO_succ {O : List Int} {n k : Nat} {x : Int} (h : okO O n k) (hx : O.getD k 0 = x) (h0 : 0 ≤ x) (h1 : x < (n : Int)) : okO O n (k + 1) := fun i hi => by
  by_cases e : i = k
  · rw [e, hx]; exact ⟨h0, h1⟩
  · exact h i (by omega)
theorem okO_not {O : List Int} {n m k : Nat} {x : Int} (hk : k < m) (hx : O.getD k 0 = x) (h : x < 0 ∨ (n : Int) ≤ x) : ¬ okO O n m := fun e => by
  have := e k hk
  rw [hx] at this
  omega
/-- What Check tells. -/
def Cke (G : List Gt) (O : List Int) (n m : Nat) (r : Int) : Prop :=
  ((n = 0 ∨ m = 0) ∧ r = 1) ∨ ((n ≠ 0 ∧ m ≠ 0) ∧ (((30 < n ∨ 30 < m) ∧ r = 2) ∨ ((n ≤ 30 ∧ m ≤ 30) ∧ ((¬ (okG G n ∧ okO O n m) ∧ r = 1) ∨ ((okG G n ∧ okO O n m) ∧ r = 0)))))
theorem Cke.one {G : List Gt} {O : List Int} {n m : Nat} {r s : Int} (h : Cke G O n m r) (k : Cke G O n m s) : r = s := by
  rcases h with ⟨h1, rfl⟩ | ⟨h1, ⟨h2, rfl⟩ | ⟨h2, ⟨h3, rfl⟩ | ⟨h3, rfl⟩⟩⟩ <;> rcases k with ⟨k1, rfl⟩ | ⟨k1, ⟨k2, rfl⟩ | ⟨k2, ⟨k3, rfl⟩ | ⟨k3, rfl⟩⟩⟩
  all_goals first
    | rfl
    | (exfalso; omega)
    | exact absurd k3 h3
    | exact absurd h3 k3
theorem Cke.ok {G : List Gt} {O : List Int} {n m : Nat} (h : Cke G O n m 0) : (1 ≤ n ∧ n ≤ 30) ∧ (1 ≤ m ∧ m ≤ 30) ∧ okG G n ∧ okO O n m := by
  rcases h with ⟨_, h⟩ | ⟨h1, ⟨_, h⟩ | ⟨h2, ⟨_, h⟩ | ⟨h3, _⟩⟩⟩
  · omega
  · omega
  · omega
  · exact ⟨⟨by omega, h2.1⟩, ⟨by omega, h2.2⟩, h3⟩
theorem Cke.bd {G : List Gt} {O : List Int} {n m : Nat} {r : Int} (h : Cke G O n m r) : 0 ≤ r ∧ r ≤ 2 := by
  rcases h with ⟨_, rfl⟩ | ⟨_, ⟨_, rfl⟩ | ⟨_, ⟨_, rfl⟩ | ⟨_, rfl⟩⟩⟩ <;> omega

/-- Whose the inputs of the first k gates are. -/
def whl (G : List Gt) : Nat → List Int
  | 0 => []
  | k + 1 => if (gt G k).k = 1 then whl G k ++ [(gt G k).a] else whl G k
/-- How many inputs the first k gates are. -/
def ci (G : List Gt) (k : Nat) : Nat := (whl G k).length
theorem ci_zero (G : List Gt) : ci G 0 = 0 := rfl
theorem ci_in {G : List Gt} {k : Nat} (h : (gt G k).k = 1) : ci G (k + 1) = ci G k + 1 := by unfold ci; rw [whl, if_pos h]; simp
theorem ci_no {G : List Gt} {k : Nat} (h : (gt G k).k ≠ 1) : ci G (k + 1) = ci G k := by unfold ci; rw [whl, if_neg h]
theorem ci_le (G : List Gt) : ∀ k, ci G k ≤ k
  | 0 => Nat.le_refl _
  | k + 1 => by
    have := ci_le G k
    by_cases h : (gt G k).k = 1
    · rw [ci_in h]; omega
    · rw [ci_no h]; omega
theorem ci_mono (G : List Gt) {j k : Nat} (h : j ≤ k) : ci G j ≤ ci G k := by
  induction k with
  | zero => obtain rfl : j = 0 := by omega
            exact Nat.le_refl _
  | succ k ih =>
    by_cases e : j = k + 1
    · rw [e]; exact Nat.le_refl _
    · have h1 := ih (by omega)
      by_cases h2 : (gt G k).k = 1
      · rw [ci_in h2]; omega
      · rw [ci_no h2]; exact h1
theorem ci_lt {G : List Gt} {j k : Nat} (h : j < k) (hj : (gt G j).k = 1) : ci G j < ci G k := by
  have := ci_mono G (show j + 1 ≤ k from h)
  rw [ci_in hj] at this
  omega
/-- What a gate tells, the wires ahead being W, the next input q. -/
def gv (W : List Int) (q : Int) (g : Gt) : Int :=
  if g.k = 1 then nm q else if g.k = 2 then nm g.n else if g.k = 6 then nm (W.getD g.a.toNat 0 * g.n)
  else if g.k = 3 then nm (W.getD g.a.toNat 0 + W.getD g.b.toNat 0) else if g.k = 4 then nm (W.getD g.a.toNat 0 - W.getD g.b.toNat 0) else nm (W.getD g.a.toNat 0 * W.getD g.b.toNat 0)
theorem gv_bd (W : List Int) (q : Int) (g : Gt) : 0 ≤ gv W q g ∧ gv W q g ≤ 2147483646 := by
  unfold gv
  repeat' split
  all_goals exact nm_bd _
/-- What the first k wires have. -/
def wv (G : List Gt) (ins : List Int) : Nat → List Int
  | 0 => []
  | k + 1 => wv G ins k ++ [gv (wv G ins k) (ins.getD (ci G k) 0) (gt G k)]
/-- What wire i has. -/
def wi (G : List Gt) (ins : List Int) (i : Nat) : Int := gv (wv G ins i) (ins.getD (ci G i) 0) (gt G i)
theorem wi_bd (G : List Gt) (ins : List Int) (i : Nat) : 0 ≤ wi G ins i ∧ wi G ins i ≤ 2147483646 := gv_bd _ _ _
theorem wv_len (G : List Gt) (ins : List Int) : ∀ k, (wv G ins k).length = k
  | 0 => rfl
  | k + 1 => by rw [wv, List.length_append, wv_len G ins k]; rfl
theorem wv_getD (G : List Gt) (ins : List Int) {j : Nat} : ∀ {k : Nat}, j < k → (wv G ins k).getD j 0 = wi G ins j
  | 0, h => by omega
  | k + 1, h => by
    have hl := wv_len G ins k
    rw [wv]
    by_cases e : j = k
    · subst e
      rw [List.getD_eq_getElem?_getD, List.getElem?_append_right (by omega), hl, Nat.sub_self]
      rfl
    · rw [List.getD_eq_getElem?_getD, List.getElem?_append_left (by omega), ← List.getD_eq_getElem?_getD]
      exact wv_getD G ins (by omega)
/-- A gate's wire by the wires ahead. -/
theorem wi_in {G : List Gt} {ins : List Int} {i : Nat} (h : (gt G i).k = 1) : wi G ins i = nm (ins.getD (ci G i) 0) := by unfold wi gv; rw [if_pos h]
theorem wi_const {G : List Gt} {ins : List Int} {i : Nat} (h : (gt G i).k = 2) : wi G ins i = nm (gt G i).n := by unfold wi gv; rw [if_neg (by omega), if_pos h]
theorem wi_scale {G : List Gt} {ins : List Int} {i a : Nat} (h : (gt G i).k = 6) (ha : (gt G i).a = (a : Int)) (hi : a < i) : wi G ins i = nm (wi G ins a * (gt G i).n) := by
  unfold wi gv
  rw [if_neg (by omega), if_neg (by omega), if_pos h, ha, Int.toNat_natCast, wv_getD G ins hi]
  rfl
theorem wi_add {G : List Gt} {ins : List Int} {i a b : Nat} (h : (gt G i).k = 3) (ha : (gt G i).a = (a : Int)) (hi : a < i) (hb : (gt G i).b = (b : Int)) (hj : b < i) : wi G ins i = nm (wi G ins a + wi G ins b) := by
  unfold wi gv
  rw [if_neg (by omega), if_neg (by omega), if_neg (by omega), if_pos h, ha, hb, Int.toNat_natCast, Int.toNat_natCast, wv_getD G ins hi, wv_getD G ins hj]
  rfl
theorem wi_sub {G : List Gt} {ins : List Int} {i a b : Nat} (h : (gt G i).k = 4) (ha : (gt G i).a = (a : Int)) (hi : a < i) (hb : (gt G i).b = (b : Int)) (hj : b < i) : wi G ins i = nm (wi G ins a - wi G ins b) := by
  unfold wi gv
  rw [if_neg (by omega), if_neg (by omega), if_neg (by omega), if_neg (by omega), if_pos h, ha, hb, Int.toNat_natCast, Int.toNat_natCast, wv_getD G ins hi, wv_getD G ins hj]
  rfl
theorem wi_mul {G : List Gt} {ins : List Int} {i a b : Nat} (h : (gt G i).k = 5) (ha : (gt G i).a = (a : Int)) (hi : a < i) (hb : (gt G i).b = (b : Int)) (hj : b < i) : wi G ins i = nm (wi G ins a * wi G ins b) := by
  unfold wi gv
  rw [if_neg (by omega), if_neg (by omega), if_neg (by omega), if_neg (by omega), if_neg (by omega), ha, hb, Int.toNat_natCast, Int.toNat_natCast, wv_getD G ins hi, wv_getD G ins hj]
  rfl
/-- What the wires in O have. -/
def otl (G : List Gt) (O ins : List Int) (m : Nat) : List Int := (List.range m).map fun j => wi G ins (O.getD j 0).toNat
theorem otl_len (G : List Gt) (O ins : List Int) (m : Nat) : (otl G O ins m).length = m := by simp [otl]
theorem otl_getD (G : List Gt) (O ins : List Int) {m j : Nat} (h : j < m) : (otl G O ins m).getD j 0 = wi G ins (O.getD j 0).toNat := by simp [otl, h]
theorem otl_snoc (G : List Gt) (O ins : List Int) (m : Nat) : otl G O ins m ++ [wi G ins (O.getD m 0).toNat] = otl G O ins (m + 1) := by simp [otl, List.range_succ]
theorem otl_bd (G : List Gt) (O ins : List Int) (m : Nat) : ∀ z ∈ otl G O ins m, 0 ≤ z ∧ z ≤ 2147483646 := by
  intro z hz
  obtain ⟨i, _, rfl⟩ := List.mem_map.1 hz
  exact wi_bd _ _ _
/-- Without products a circuit of sums tells the sum of what it tells of each, and of nothing taken away. -/
theorem sums {G : List Gt} {n : Nat} {xs ys zs os : List Int} (hG : okG G n) (hno : ∀ i, i < n → (gt G i).k ≠ 5) (hz : ∀ j, j < ci G n → nm (zs.getD j 0) = nm (xs.getD j 0 + ys.getD j 0)) (ho : ∀ j, nm (os.getD j 0) = 0) :
    ∀ i, i < n → nm (wi G zs i + wi G os i) = nm (wi G xs i + wi G ys i) := by
  intro i
  induction i using Nat.strongRecOn with
  | _ i ih =>
    intro hi
    have e : ∀ a b c d : Int, nm (nm a + nm b) = nm (nm c + nm d) ↔ nm (a + b) = nm (c + d) := fun a b c d => by unfold nm; omega
    rcases hG i hi with ⟨h1, _, _, _⟩ | ⟨h1, _, _⟩ | ⟨h1, h2, _⟩ | ⟨h1, h2, h3, _⟩
    · rw [wi_in h1, wi_in h1, wi_in h1, wi_in h1, e]
      have h4 := hz _ (ci_lt hi h1)
      have h5 := ho (ci G i)
      unfold nm at h4 h5 ⊢
      omega
    · rw [wi_const h1, wi_const h1, wi_const h1, wi_const h1]
    · obtain ⟨a, ha⟩ : ∃ a : Nat, (gt G i).a = a := ⟨(gt G i).a.toNat, by omega⟩
      have hai : a < i := by omega
      rw [wi_scale h1 ha hai, wi_scale h1 ha hai, wi_scale h1 ha hai, wi_scale h1 ha hai, e, ← Int.add_mul, ← Int.add_mul]
      exact nm_mul_congr (ih a hai (by omega)) rfl
    · obtain ⟨a, ha⟩ : ∃ a : Nat, (gt G i).a = a := ⟨(gt G i).a.toNat, by omega⟩
      obtain ⟨b, hb⟩ : ∃ b : Nat, (gt G i).b = b := ⟨(gt G i).b.toNat, by omega⟩
      have hai : a < i := by omega
      have hbi : b < i := by omega
      have i1 := ih a hai (by omega)
      have i2 := ih b hbi (by omega)
      rcases h1 with h1 | h1 | h1
      · rw [wi_add h1 ha hai hb hbi, wi_add h1 ha hai hb hbi, wi_add h1 ha hai hb hbi, wi_add h1 ha hai hb hbi, e]
        unfold nm at i1 i2 ⊢
        omega
      · rw [wi_sub h1 ha hai hb hbi, wi_sub h1 ha hai hb hbi, wi_sub h1 ha hai hb hbi, wi_sub h1 ha hai hb hbi, e]
        unfold nm at i1 i2 ⊢
        omega
      · exact absurd h1 (hno i hi)
end Go.Proofs.YtgmelcdgnjcojagDoor

namespace Go.Proofs.YtgmelcdgnjcojagDoor
open Go.RowKit Crm

/-- The slice reads as the gates G. -/
structure RdG (w : World) (a : Option Addr) (n c : Nat) (G : List Gt) : Prop where
  len : G.length = n
  cap : n ≤ c
  max : c ≤ maxLen
  nil : a = none → c = 0
  bd : ∀ i, i < n → (-9223372036854775808 ≤ (gt G i).k ∧ (gt G i).k ≤ 9223372036854775807) ∧ (-9223372036854775808 ≤ (gt G i).a ∧ (gt G i).a ≤ 9223372036854775807) ∧ (-9223372036854775808 ≤ (gt G i).b ∧ (gt G i).b ≤ 9223372036854775807) ∧ 0 ≤ (gt G i).n ∧ (gt G i).n ≤ 18446744073709551615
  cell : ∀ x, a = some x → ∀ i, i < n → w.cell? (x.add (i * 4)) = some (.int .i64 (gt G i).k) ∧ w.cell? (x.add (i * 4 + 1)) = some (.int .i64 (gt G i).a) ∧ w.cell? (x.add (i * 4 + 2)) = some (.int .i64 (gt G i).b) ∧ w.cell? (x.add (i * 4 + 3)) = some (.int .u64 (gt G i).n)
theorem RdG.at {w : World} {a : Option Addr} {n c : Nat} {G : List Gt} (h : RdG w a n c G) {k : Nat} (hk : k < n) :
    ∃ b o, a = some ⟨b, o, none⟩ ∧ b < w.heap.size ∧ ∀ i, i < n → w.cell? ⟨b, o + i * 4, none⟩ = some (.int .i64 (gt G i).k) ∧ w.cell? ⟨b, o + i * 4 + 1, none⟩ = some (.int .i64 (gt G i).a) ∧ w.cell? ⟨b, o + i * 4 + 2, none⟩ = some (.int .i64 (gt G i).b) ∧ w.cell? ⟨b, o + i * 4 + 3, none⟩ = some (.int .u64 (gt G i).n) := by
  cases ha : a with
  | none => have := h.nil ha; have := h.cap; omega
  | some x =>
    have h0 := (h.cell x ha 0 (by omega)).1
    have hs : x.spot = none := by
      have := spot_none h0
      unfold Addr.add at this
      split at this <;> simp_all
    obtain ⟨b, o, s⟩ := x
    simp only at hs
    subst hs
    refine ⟨b, o, rfl, ?_, fun i hi => by have := h.cell _ ha i hi; rwa [Addr.add_lit, Addr.add_lit, Addr.add_lit, Addr.add_lit, ← Nat.add_assoc, ← Nat.add_assoc, ← Nat.add_assoc] at this⟩
    have := World.block_lt_of_cell? w _ h0
    rwa [Addr.add_lit] at this
/-- One gate of it, by names of its own. -/
theorem RdG.one {w : World} {a : Option Addr} {n c : Nat} {G : List Gt} (h : RdG w a n c G) {i : Nat} (hi : i < n) :
    ∃ b o k x y z, a = some ⟨b, o, none⟩ ∧ b < w.heap.size ∧ Hid (gt G i = ⟨k, x, y, z⟩) ∧ (-9223372036854775808 ≤ k ∧ k ≤ 9223372036854775807) ∧ (-9223372036854775808 ≤ x ∧ x ≤ 9223372036854775807) ∧ (-9223372036854775808 ≤ y ∧ y ≤ 9223372036854775807) ∧ (0 ≤ z ∧ z ≤ 18446744073709551615) ∧
      w.cell? ⟨b, o + i * 4, none⟩ = some (.int .i64 k) ∧ w.cell? ⟨b, o + i * 4 + 1, none⟩ = some (.int .i64 x) ∧ w.cell? ⟨b, o + i * 4 + 2, none⟩ = some (.int .i64 y) ∧ w.cell? ⟨b, o + i * 4 + 3, none⟩ = some (.int .u64 z) := by
  obtain ⟨b, o, ha, hb, hr⟩ := h.at hi
  obtain ⟨c1, c2, c3, c4⟩ := hr i hi
  obtain ⟨d1, d2, d3, d4⟩ := h.bd i hi
  exact ⟨b, o, _, _, _, _, ha, hb, rfl, d1, d2, d3, d4, c1, c2, c3, c4⟩
theorem RdG.below {w w' : World} {a : Option Addr} {n c : Nat} {G : List Gt} (h : RdG w a n c G) (hb : Below w.heap.size w w') : RdG w' a n c G := by
  refine ⟨h.len, h.cap, h.max, h.nil, h.bd, fun x hx i hi => ?_⟩
  obtain ⟨c1, c2, c3, c4⟩ := h.cell x hx i hi
  exact ⟨by rw [hb.cell (World.block_lt_of_cell? w _ c1)]; exact c1, by rw [hb.cell (World.block_lt_of_cell? w _ c2)]; exact c2, by rw [hb.cell (World.block_lt_of_cell? w _ c3)]; exact c3, by rw [hb.cell (World.block_lt_of_cell? w _ c4)]; exact c4⟩
theorem RdG.drew {w : World} {a : Option Addr} {n c : Nat} {G : List Gt} (h : RdG w a n c G) : RdG w.drew a n c G := ⟨h.len, h.cap, h.max, h.nil, h.bd, h.cell⟩
theorem RdG.drewN {w : World} {a : Option Addr} {n c : Nat} {G : List Gt} (h : RdG w a n c G) (q : Nat) : RdG (w.drewN q) a n c G := ⟨h.len, h.cap, h.max, h.nil, h.bd, h.cell⟩
end Go.Proofs.YtgmelcdgnjcojagDoor
