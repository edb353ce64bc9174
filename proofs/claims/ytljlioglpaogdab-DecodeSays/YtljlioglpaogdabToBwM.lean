/- What Decode and Open of chapter 5 tell: plain facts. · croftref.Decode: plain facts: each choice of t + 1 shares. · BERLEKAMP, WELCH: plain facts. -/
import Derived.Test.YtljlioglpaogdabToRows2
import Derived.Test.YtljlioglpaogdabSortM
import Derived.Test.YtljlioglpaogdabGaussR
namespace Go.Proofs.Ytljlioglpaogdab
set_option linter.unusedVariables false
set_option maxRecDepth 100000
set_option maxHeartbeats 8000000
section
open Crm
/-- The m numbers of a polynomial, noughts at the end too. -/
def pdn (p : List Int) (m : Nat) : List Int := (List.range m).map fun i => nm (p.getD i 0)
theorem pdn_len (p : List Int) (m : Nat) : (pdn p m).length = m := by simp [pdn]
theorem pdn_getD (p : List Int) {m i : Nat} (h : i < m) : (pdn p m).getD i 0 = nm (p.getD i 0) := by simp [pdn, h]
theorem pdn_same {p q : List Int} (h : nrm p = nrm q) (m : Nat) : pdn p m = pdn q m := by
  refine list_ext (by rw [pdn_len, pdn_len]) fun i hi => ?_
  rw [pdn_len] at hi
  rw [pdn_getD p hi, pdn_getD q hi, ← nrm_getD, ← nrm_getD, h]
theorem pdn_bd (p : List Int) (m : Nat) : ∀ x ∈ pdn p m, 0 ≤ x ∧ x ≤ 2147483646 := by
  intro x hx
  obtain ⟨i, _, rfl⟩ := List.mem_map.1 hx
  exact nm_bd _

/-- Shares that are good enough for Decode: none of them twice; there may be too few. -/
def Shd (l : List (Int × Int)) (n : Nat) (t : Int) : Prop := (0 ≤ t ∧ t ≤ 4) ∧ dis (fa l) n
theorem She.shd {l : List (Int × Int)} {n : Nat} {t r : Int} (h : She l n t r) (hr : r = 0 ∨ r = 4) : Shd l n t := by
  rcases h with ⟨_, h2⟩ | ⟨_, _, h2⟩ | ⟨h1, h3, _, _⟩ | ⟨h1, h3, _, _⟩
  · omega
  · omega
  · exact ⟨h1, h3⟩
  · exact ⟨h1, h3⟩
theorem Shd.she {l : List (Int × Int)} {n : Nat} {t r : Int} (h : Shd l n t) (k : She l n t r) : r = 0 ∨ r = 4 := by
  rcases k with ⟨k1, _⟩ | ⟨_, k3, _⟩ | ⟨_, _, _, k2⟩ | ⟨_, _, _, k2⟩
  · have := h.1; omega
  · exact absurd h.2 k3
  · exact Or.inr k2
  · exact Or.inl k2

/-- A polynomial of t + 1 numbers that has all shares but e. -/
def Few (l : List (Int × Int)) (n : Nat) (t e : Int) (p : List Int) : Prop := (p.length : Int) ≤ t + 1 ∧ ((bdl l p n).length : Int) ≤ e
/-- What Decode tells. -/
def Dcd (l : List (Int × Int)) (n : Nat) (t e : Int) (P B : List Int) (r : Int) : Prop :=
  ((She l n t r ∧ r ≠ 0 ∧ r ≠ 4) ∧ P = [] ∧ B = []) ∨
  (Shd l n t ∧ (e < 0 ∨ 4 < e) ∧ P = [] ∧ B = [] ∧ r = 1) ∨
  (Shd l n t ∧ (0 ≤ e ∧ e ≤ 4) ∧ (n : Int) < t + 1 + 2 * e ∧ P = [] ∧ B = [] ∧ r = 4) ∨
  (Shd l n t ∧ (0 ≤ e ∧ e ≤ 4) ∧ t + 1 + 2 * e ≤ (n : Int) ∧ (∃ p, Few l n t e p ∧ P = pdn p (t + 1).toNat ∧ OuI (bdl l p n) B (bdl l p n).length) ∧ r = 0) ∨
  (Shd l n t ∧ (0 ≤ e ∧ e ≤ 4) ∧ t + 1 + 2 * e ≤ (n : Int) ∧ (∀ p, ¬ Few l n t e p) ∧ P = [] ∧ B = [] ∧ r = 6)

theorem few_one {l : List (Int × Int)} {n : Nat} {t e : Int} {p q : List Int} (hl : l.length = n) (hs : Shd l n t) (he : 0 ≤ e) (hn : t + 1 + 2 * e ≤ (n : Int)) (hp : Few l n t e p) (hq : Few l n t e q) : nrm p = nrm q := by
  obtain ⟨k, rfl⟩ : ∃ k : Nat, t = k := ⟨t.toNat, by have := hs.1; omega⟩
  obtain ⟨d, rfl⟩ : ∃ d : Nat, e = d := ⟨e.toNat, by omega⟩
  have h1 := hp.1
  have h2 := hq.1
  have h3 := hp.2
  have h4 := hq.2
  exact dec_one (t := k) (e := d) hl hs.2 (by omega) (by omega) (by omega) (by omega) (by omega)

theorem Dcd.one {l : List (Int × Int)} {n : Nat} {t e : Int} {P B Q C : List Int} {r s : Int} (hl : l.length = n) (h : Dcd l n t e P B r) (k : Dcd l n t e Q C s) : P = Q ∧ B = C ∧ r = s := by
  have no : ∀ {x : Int}, Shd l n t → She l n t x → x ≠ 0 → x ≠ 4 → False := fun hs hx h0 h4 => by
    rcases hs.she hx with e | e
    · exact h0 e
    · exact h4 e
  rcases h with ⟨⟨h1, h2, h3⟩, rfl, rfl⟩ | ⟨h1, h2, rfl, rfl, rfl⟩ | ⟨h1, h2, h3, rfl, rfl, rfl⟩ | ⟨h1, h2, h3, ⟨p, p1, rfl, p2⟩, rfl⟩ | ⟨h1, h2, h3, h4, rfl, rfl, rfl⟩ <;>
    rcases k with ⟨⟨k1, k2, k3⟩, rfl, rfl⟩ | ⟨k1, k2, rfl, rfl, rfl⟩ | ⟨k1, k2, k3, rfl, rfl, rfl⟩ | ⟨k1, k2, k3, ⟨q, q1, rfl, q2⟩, rfl⟩ | ⟨k1, k2, k3, k4, rfl, rfl, rfl⟩
  all_goals first
    | exact ⟨rfl, rfl, rfl⟩
    | exact ⟨rfl, rfl, h1.one k1⟩
    | exact (no k1 h1 h2 h3).elim
    | exact (no h1 k1 k2 k3).elim
    | (exfalso; omega)
    | exact absurd p1 (k4 p)
    | exact absurd q1 (h4 q)
    | skip
  have hnr := few_one hl h1 h2.1 h3 p1 q1
  have hbd : bdl l p n = bdl l q n := by rw [← hl]; exact bdl_same hnr l
  refine ⟨pdn_same hnr _, srt_one p2 q2 (by rw [hbd]) ?_ ?_, rfl⟩
  · exact p2.perm.length_eq
  · exact q2.perm.length_eq

/-- As many wrong ones as there may be. -/
def mayb (n : Nat) (t : Int) : Int := min 4 (((n : Int) - t - 1) / 2)
/-- What Open tells. -/
def Rob (l : List (Int × Int)) (n : Nat) (t x : Int) (B : List Int) (r : Int) : Prop :=
  (She l n t r ∧ r ≠ 0 ∧ x = 0 ∧ B = []) ∨ (She l n t 0 ∧ ∃ P C s, Dcd l n t (mayb n t) P C s ∧ ((s ≠ 0 ∧ x = 0 ∧ B = [] ∧ r = s) ∨ (s = 0 ∧ x = P.getD 0 0 ∧ B = C ∧ r = 0)))
theorem Rob.one {l : List (Int × Int)} {n : Nat} {t x y : Int} {B C : List Int} {r s : Int} (hl : l.length = n) (h : Rob l n t x B r) (k : Rob l n t y C s) : x = y ∧ B = C ∧ r = s := by
  rcases h with ⟨h1, h2, rfl, rfl⟩ | ⟨h1, P, D, u, h2, h3⟩ <;> rcases k with ⟨k1, k2, rfl, rfl⟩ | ⟨k1, Q, E, v, k2, k3⟩
  · exact ⟨rfl, rfl, h1.one k1⟩
  · exact absurd (h1.one k1) h2
  · exact absurd (k1.one h1) k2
  · obtain ⟨rfl, rfl, rfl⟩ := h2.one hl k2
    rcases h3 with ⟨a1, rfl, rfl, rfl⟩ | ⟨a1, rfl, rfl, rfl⟩ <;> rcases k3 with ⟨b1, rfl, rfl, rfl⟩ | ⟨b1, rfl, rfl, rfl⟩
    · exact ⟨rfl, rfl, rfl⟩
    · exact absurd b1 a1
    · exact absurd a1 b1
    · exact ⟨rfl, rfl, rfl⟩

/-- If there is such a polynomial, a choice of t + 1 shares that it has finds it. -/
theorem cnt_good (l : List (Int × Int)) (p : List Int) : ∀ n, cnt (fun i => !badb p (l.getD i (0, 0))) n + (bdl l p n).length = n
  | 0 => rfl
  | n + 1 => by
    have ih := cnt_good l p n
    show cnt (fun i => !badb p (l.getD i (0, 0))) n + (if (!badb p (l.getD n (0, 0))) = true then 1 else 0) + (bdl l p (n + 1)).length = n + 1
    by_cases h : nm (ev p (l.getD n (0, 0)).1) = nm (l.getD n (0, 0)).2
    · have hb : badb p (l.getD n (0, 0)) = false := by unfold badb; rw [decide_eq_true h]; rfl
      rw [bdl_ok h, hb, Bool.not_false, if_pos rfl]
      omega
    · have hb : badb p (l.getD n (0, 0)) = true := by unfold badb; rw [decide_eq_false h]; rfl
      rw [bdl_bad h, hb, Bool.not_true, if_neg (by decide), List.length_append, List.length_singleton]
      omega
theorem slt_mem {l : List (Int × Int)} {s : Nat} : ∀ {k : Nat} {x : Int × Int}, x ∈ slt l s k → ∃ i, i < k ∧ s / 2 ^ i % 2 = 1 ∧ x = l.getD i (0, 0)
  | 0, x, h => by simp [slt] at h
  | k + 1, x, h => by
    rw [slt] at h
    split at h
    · rename_i hb
      rcases List.mem_append.1 h with h | h
      · obtain ⟨i, h1, h2, h3⟩ := slt_mem h
        exact ⟨i, by omega, h2, h3⟩
      · exact ⟨k, by omega, hb, List.mem_singleton.1 h⟩
    · obtain ⟨i, h1, h2, h3⟩ := slt_mem h
      exact ⟨i, by omega, h2, h3⟩
theorem choice_finds {l : List (Int × Int)} {n m : Nat} {p : List Int} (hm : m + (bdl l p n).length ≤ n) : ∃ s, s < 2 ^ n ∧ (slt l s n).length = m ∧ ∀ x ∈ slt l s n, nm (ev p x.1) = nm x.2 := by
  have hc := cnt_good l p n
  obtain ⟨s, h1, h2, h3⟩ := pick_bits l (fun i => !badb p (l.getD i (0, 0))) n m (by omega)
  refine ⟨s, h1, h2, fun x hx => ?_⟩
  obtain ⟨i, hi, hb, rfl⟩ := slt_mem hx
  have := h3 i hi hb
  simpa [badb] using this
theorem dis_iff (l : List (Int × Int)) : dis (fa l) l.length ↔ (∀ x ∈ l, 1 ≤ x.1 ∧ x.1 ≤ 9) ∧ l.Pairwise (fun a b => a.1 ≠ b.1) := by
  have e : ∀ i (h : i < l.length), fa l i = l[i].1 := fun i h => by simp [fa, List.getElem?_eq_getElem h]
  constructor
  · intro h
    refine ⟨fun x hx => ?_, ?_⟩
    · obtain ⟨i, hi, rfl⟩ := List.getElem_of_mem hx
      have := (h i hi).1
      rwa [e i hi] at this
    · rw [List.pairwise_iff_getElem]
      intro i j hi hj hij
      have := (h j hj).2 i hij
      rwa [e i hi, e j hj] at this
  · rintro ⟨h1, h2⟩ i hi
    rw [List.pairwise_iff_getElem] at h2
    refine ⟨by rw [e i hi]; exact h1 _ (List.getElem_mem hi), fun j hj => ?_⟩
    rw [e i hi, e j (by omega)]
    exact h2 j i (by omega) hi hj
theorem dis_perm {l k : List (Int × Int)} {n : Nat} (hl : l.length = n) (hp : k.Perm l) (h : dis (fa l) n) : dis (fa k) n := by
  subst hl
  rw [← hp.length_eq, dis_iff]
  rw [dis_iff] at h
  exact ⟨fun x hx => h.1 x (hp.mem_iff.1 hx), (hp.pairwise_iff (fun h e => h e.symm)).2 h.2⟩

/-- All shares, those that are chosen first. -/
def jn (l : List (Int × Int)) (s n : Nat) : List (Int × Int) := slt l s n ++ ult l s n
theorem jn_perm {l : List (Int × Int)} {n : Nat} (hl : l.length = n) (s : Nat) : (jn l s n).Perm l := by
  have := slt_perm l s n (by omega)
  rwa [List.take_of_length_le (by omega)] at this
theorem jn_len {l : List (Int × Int)} {n : Nat} (hl : l.length = n) (s : Nat) : (jn l s n).length = n := by rw [(jn_perm hl s).length_eq, hl]
theorem jn_bdl {l : List (Int × Int)} {n : Nat} (hl : l.length = n) (s : Nat) (p : List Int) : (bdl (jn l s n) p n).Perm (bdl l p n) := by
  have := bdl_perm (jn_perm hl s) p
  rwa [jn_len hl, hl] at this
theorem slt_le (l : List (Int × Int)) (s : Nat) : ∀ k, (slt l s k).length ≤ k
  | 0 => by simp [slt]
  | k + 1 => by
    have := slt_le l s k
    rw [slt]; split
    · simp; omega
    · omega
theorem ult_le (l : List (Int × Int)) (s : Nat) : ∀ k, (slt l s k).length + (ult l s k).length = k
  | 0 => by simp [slt, ult]
  | k + 1 => by
    have := ult_le l s k
    rw [slt, ult]; split
    · simp; omega
    · simp; omega
/-- No choice ahead of s finds a polynomial that has all shares but e. -/
def Nope (l : List (Int × Int)) (n t e s : Nat) : Prop := ∀ u, u < s → ∀ p : List Int, (slt l u n).length = t + 1 → p.length ≤ t + 1 → (∀ x ∈ slt l u n, nm (ev p x.1) = nm x.2) → ¬ (bdl l p n).length ≤ e
theorem nope_zero (l : List (Int × Int)) (n t e : Nat) : Nope l n t e 0 := fun u hu => by omega
theorem nope_skip {l : List (Int × Int)} {n t e s : Nat} (h : Nope l n t e s) (hs : (slt l s n).length ≠ t + 1) : Nope l n t e (s + 1) := fun u hu p h1 h2 h3 => by
  by_cases he : u = s
  · subst he; exact absurd h1 hs
  · exact h u (by omega) p h1 h2 h3
theorem jn_first {l : List (Int × Int)} {s n m i : Nat} (h : (slt l s n).length = m) (hi : i < m) : (jn l s n).getD i (0, 0) ∈ slt l s n := by
  have e : (jn l s n).getD i (0, 0) = (slt l s n)[i]'(by omega) := by
    unfold jn
    simp [List.getElem?_append_left (show i < (slt l s n).length by omega), List.getElem?_eq_getElem (show i < (slt l s n).length by omega)]
  rw [e]
  exact List.getElem_mem _
theorem nope_bad {l : List (Int × Int)} {n t e s : Nat} {q : List Int} (hl : l.length = n) (hd : dis (fa l) n) (h : Nope l n t e s) (hs : (slt l s n).length = t + 1) (hq : q.length ≤ t + 1) (hH : Hs (jn l s n) (t + 1) q) (hb : e < (bdl (jn l s n) q n).length) : Nope l n t e (s + 1) := fun u hu p h1 h2 h3 => by
  by_cases he : u = s
  · subst he
    have hd2 : dis (fa (jn l u n)) n := dis_perm hl (jn_perm hl u) hd
    have hle := slt_le l u n
    have hpq : nrm p = nrm q := hs_one (l := jn l u n) (n := t + 1) (dis_okk (dis_le hd2 (by omega))) (fun i hi => h3 _ (jn_first hs hi)) hH h2 hq
    intro h4
    have h5 := (jn_bdl hl u q).length_eq
    have h6 := bdl_same hpq l
    rw [hl] at h6
    rw [h6] at h4
    omega
  · exact h u (by omega) p h1 h2 h3
theorem nope_end {l : List (Int × Int)} {n t e : Nat} (h : Nope l n t e (2 ^ n)) (hn : t + 1 + 2 * e ≤ n) : ∀ p, ¬ Few l n t e p := fun p hp => by
  have h1 := hp.1
  have h2 := hp.2
  obtain ⟨s, s1, s2, s3⟩ := choice_finds (l := l) (n := n) (m := t + 1) (p := p) (by omega)
  exact h s s1 p s2 (by omega) s3 (by omega)
/-- What the first choice that finds one tells. -/
theorem jn_found {l : List (Int × Int)} {n t e s : Nat} {q B : List Int} (hl : l.length = n) (hd : dis (fa l) n) (ht : t ≤ 4) (he : e ≤ 4) (hn : t + 1 + 2 * e ≤ n) (hq : q.length ≤ t + 1) (hb : (bdl (jn l s n) q n).length ≤ e) (hB : OuI (bdl (jn l s n) q n) B (bdl (jn l s n) q n).length) : Dcd l n t e (pdn q (t + 1)) B 0 := by
  have h5 := (jn_bdl hl s q).length_eq
  refine .inr (.inr (.inr (.inl ⟨⟨⟨by omega, by omega⟩, hd⟩, ⟨by omega, by omega⟩, by omega, ⟨q, ⟨by omega, by omega⟩, by congr 1, ?_⟩, rfl⟩)))
  rw [← h5]
  exact ⟨hB.perm.trans (jn_bdl hl s q), hB.srt⟩
/-- A polynomial with noughts behind it. -/
def pad0 (q : List Int) (j : Nat) : List Int := q ++ List.replicate (j - q.length) 0
theorem pad0_snoc {q : List Int} {j : Nat} (h : q.length ≤ j) : pad0 q j ++ [0] = pad0 q (j + 1) := by
  unfold pad0
  rw [show j + 1 - q.length = (j - q.length) + 1 by omega, List.replicate_succ', List.append_assoc]
theorem pad0_self (q : List Int) : pad0 q q.length = q := by simp [pad0]
theorem pad0_pdn {q : List Int} {m : Nat} (hb : ∀ x ∈ q, 0 ≤ x ∧ x ≤ 2147483646) (h : q.length ≤ m) : pad0 q m = pdn q m := by
  refine list_ext (by rw [pdn_len]; simp [pad0]; omega) fun i hi => ?_
  have hi2 : i < m := by simp [pad0] at hi; omega
  have hb2 := getD_bd' hb i
  rw [pdn_getD q hi2, nm_small hb2.1 hb2.2]
  unfold pad0
  by_cases hq : i < q.length
  · simp [List.getElem?_append_left hq]
  · rw [getD_big (show q.length ≤ i by omega)]
    have : (q ++ List.replicate (m - q.length) (0 : Int)).getD i 0 = (List.replicate (m - q.length) (0 : Int)).getD (i - q.length) 0 := by simp [List.getElem?_append_right (show q.length ≤ i by omega)]
    rw [this, zeros_getD]
theorem getD_appL {a b : List Int} {i : Nat} (h : i < a.length) : (a ++ b).getD i 0 = a.getD i 0 := by simp [List.getElem?_append_left h]
theorem getD_appR {a b : List Int} {i : Nat} (h : a.length ≤ i) : (a ++ b).getD i 0 = b.getD (i - a.length) 0 := by simp [List.getElem?_append_right h]

/-- Number j of the equation that a share gives: c numbers of the one polynomial, e of the other, and the other side. -/
def eqc (x y : Int) (c e j : Nat) : Int := if j < c then pw x j else if j < c + e then nm (0 - nm (y * pw x (j - c))) else nm (y * pw x e)
def eqn (x y : Int) (c e k : Nat) : List Int := (List.range k).map (eqc x y c e)
theorem eqn_len (x y : Int) (c e k : Nat) : (eqn x y c e k).length = k := by simp [eqn]
theorem eqn_getD (x y : Int) (c e : Nat) {k j : Nat} (h : j < k) : (eqn x y c e k).getD j 0 = eqc x y c e j := by simp [eqn, h]
theorem eqn_snoc (x y : Int) (c e k : Nat) {v : Int} (h : v = eqc x y c e k) : eqn x y c e k ++ [v] = eqn x y c e (k + 1) := by rw [h]; simp [eqn, List.range_succ]
theorem eqc_bd (x y : Int) (c e j : Nat) : 0 ≤ eqc x y c e j ∧ eqc x y c e j ≤ 2147483646 := by
  unfold eqc
  split
  · exact pw_bd _ _
  · split <;> exact nm_bd _
theorem eqn_bd (x y : Int) (c e k : Nat) : ∀ z ∈ eqn x y c e k, 0 ≤ z ∧ z ≤ 2147483646 := by
  intro z hz
  obtain ⟨i, _, rfl⟩ := List.mem_map.1 hz
  exact eqc_bd _ _ _ _ _
theorem eqc_first (x y : Int) (e : Nat) {c j : Nat} (h : j < c) : pw x j = eqc x y c e j := by unfold eqc; rw [if_pos h]
theorem eqc_second (x y : Int) (c : Nat) {e j : Nat} (h : j < e) : nm (0 - nm (y * pw x j)) = eqc x y c e (c + j) := by
  unfold eqc; rw [if_neg (by omega), if_pos (by omega), show c + j - c = j by omega]
theorem eqc_last (x y : Int) (c e : Nat) : nm (y * pw x e) = eqc x y c e (c + e) := by unfold eqc; rw [if_neg (by omega), if_neg (by omega)]

theorem sm_split (f : Nat → Int) (a : Nat) : ∀ b, sm f (a + b) = sm f a + sm (fun j => f (a + j)) b
  | 0 => by simp [sm]
  | b + 1 => by rw [← Nat.add_assoc, sm, sm, sm_split f a b, Int.add_assoc]
/-- Some of f's numbers as a list. -/
def ls (f : Nat → Int) (o k : Nat) : List Int := (List.range k).map fun j => f (o + j)
theorem ls_len (f : Nat → Int) (o k : Nat) : (ls f o k).length = k := by simp [ls]
theorem ls_getD (f : Nat → Int) (o : Nat) {k j : Nat} (h : j < k) : (ls f o k).getD j 0 = f (o + j) := by simp [ls, h]
theorem ls_ev (f : Nat → Int) (o : Nat) (x : Int) : ∀ k, sm (fun j => f (o + j) * x ^ j) k = ev (ls f o k) x
  | 0 => rfl
  | k + 1 => by
    have e : ls f o (k + 1) = ls f o k ++ [f (o + k)] := by simp [ls, List.range_succ]
    rw [sm, ls_ev f o x k, e, ev_snoc, ls_len]
/-- What an equation says of the two polynomials. -/
theorem eq_row (f : Nat → Int) (x y : Int) (c e : Nat) : nm (sm (fun j => f j * eqc x y c e j) (c + e)) = nm (ev (ls f 0 c) x - y * ev (ls f c e) x) := by
  rw [sm_split]
  have h1 : nm (sm (fun j => f j * eqc x y c e j) c) = nm (ev (ls f 0 c) x) := by
    rw [← ls_ev]
    refine sm_ncongr fun j hj => ?_
    rw [← eqc_first x y e hj, Nat.zero_add]
    unfold pw
    exact nm_mulr _ _
  have h2 : nm (sm (fun j => f (c + j) * eqc x y c e (c + j)) e) = nm (-y * ev (ls f c e) x) := by
    rw [← ls_ev, ← sm_mul]
    refine sm_ncongr fun j hj => ?_
    rw [← eqc_second x y c hj, nm_mulr, Int.zero_sub, Int.mul_neg]
    have h3 : nm (f (c + j) * nm (y * pw x j)) = nm (y * (f (c + j) * x ^ j)) := by
      unfold pw
      rw [nm_mulr, ← Int.mul_assoc, nm_mulr]
      congr 1
      rw [Int.mul_comm (f (c + j)) y, Int.mul_assoc]
    rw [Int.neg_mul]
    unfold nm at h3 ⊢
    omega
  rw [nm_add_congr h1 h2]
  congr 1
  rw [Int.neg_mul, Int.sub_eq_add_neg]

/-- A polynomial that is 0 at the places. -/
def zrt : List Int → List Int
  | [] => [1]
  | a :: l => adl (-a) (0 :: zrt l) (zrt l)
theorem zrt_len : ∀ l : List Int, (zrt l).length = l.length + 1
  | [] => rfl
  | a :: l => by rw [zrt, adl_len, List.length_cons, List.length_cons, zrt_len l]; omega
theorem zrt_top : ∀ l : List Int, (zrt l).getD l.length 0 = 1
  | [] => rfl
  | a :: l => by
    rw [zrt, adl_getD, List.length_cons, cons_getDs, zrt_top l, getD_big (show (zrt l).length ≤ l.length + 1 by rw [zrt_len]; omega), Int.mul_zero]; rfl
theorem zrt_ev : ∀ (l : List Int) (a : Int), a ∈ l → ev (zrt l) a = 0
  | b :: l, a, h => by
    rw [zrt, adl_ev]
    have e : ev (0 :: zrt l) a = a * ev (zrt l) a := by rw [ev, Int.zero_add]
    rw [e]
    rcases List.mem_cons.1 h with rfl | h
    · rw [Int.neg_mul, Int.add_right_neg]
    · rw [zrt_ev l a h, Int.mul_zero, Int.mul_zero]; rfl

/-- The equations of shares. -/
def Bwe (M : Nat → Nat → Int) (l : List (Int × Int)) (n c e : Nat) : Prop := ∀ i j, i < n → j < c + e + 1 → M i j = eqc (l.getD i (0, 0)).1 (l.getD i (0, 0)).2 c e j

theorem mem_bdl {l : List (Int × Int)} {p : List Int} : ∀ {n i : Nat}, i < n → ¬ nm (ev p (l.getD i (0, 0)).1) = nm (l.getD i (0, 0)).2 → (l.getD i (0, 0)).1 ∈ bdl l p n
  | n + 1, i, hi, h => by
    by_cases e : i = n
    · subst e; rw [bdl_bad h]; simp
    · have := mem_bdl (n := n) (show i < n by omega) h
      rw [bdl]; split
      · exact this
      · exact List.mem_append_left _ this

theorem bw_dep {M : Nat → Nat → Int} {l : List (Int × Int)} {n t e : Nat} {p : List Int} (hM : Bwe M l n (t + 1 + e) e) (hp : p.length ≤ t + 1) (hb : (bdl l p n).length ≤ e) : dep M n (t + 1 + e + e) := by
  obtain ⟨Z, hZl, hZt, hZ0⟩ : ∃ Z : List Int, Z.length = e + 1 ∧ Z.getD e 0 = 1 ∧ ∀ a ∈ bdl l p n, ev Z a = 0 := by
    refine ⟨zrt (bdl l p n ++ List.replicate (e - (bdl l p n).length) 0), ?_, ?_, fun a ha => zrt_ev _ a (List.mem_append_left _ ha)⟩
    · rw [zrt_len]; simp; omega
    · have := zrt_top (bdl l p n ++ List.replicate (e - (bdl l p n).length) 0)
      have hl : (bdl l p n ++ List.replicate (e - (bdl l p n).length) 0).length = e := by simp; omega
      rwa [hl] at this
  refine ⟨fun j => if j < t + 1 + e then (cvl p Z).getD j 0 else Z.getD (j - (t + 1 + e)) 0, fun i hi => ?_⟩
  obtain ⟨x, hx⟩ : ∃ x, (l.getD i (0, 0)).1 = x := ⟨_, rfl⟩
  obtain ⟨y, hy⟩ : ∃ y, (l.getD i (0, 0)).2 = y := ⟨_, rfl⟩
  have hrow : ∀ j, j < t + 1 + e + e + 1 → M i j = eqc x y (t + 1 + e) e j := fun j hj => by rw [hM i j hi hj, hx, hy]
  rw [hrow _ (by omega), sm_ncongr (g := fun j => (if j < t + 1 + e then (cvl p Z).getD j 0 else Z.getD (j - (t + 1 + e)) 0) * eqc x y (t + 1 + e) e j) (fun j hj => by rw [hrow j (by omega)]), eq_row, ← eqc_last, nm_nm]
  have hB : nm (ev (ls (fun j => if j < t + 1 + e then (cvl p Z).getD j 0 else Z.getD (j - (t + 1 + e)) 0) 0 (t + 1 + e)) x) = nm (ev p x * ev Z x) := by
    rw [← cvl_ev]
    refine ev_congr _ _ _ fun j => ?_
    by_cases hj : j < t + 1 + e
    · rw [ls_getD _ _ hj]; simp [hj]
    · rw [getD_big (by rw [ls_len]; omega), getD_big (by rw [cvl_len]; omega)]
  have hZe : ev Z x = ev (ls (fun j => if j < t + 1 + e then (cvl p Z).getD j 0 else Z.getD (j - (t + 1 + e)) 0) (t + 1 + e) e) x + x ^ e := by
    have h1 : Z = ls (fun j => if j < t + 1 + e then (cvl p Z).getD j 0 else Z.getD (j - (t + 1 + e)) 0) (t + 1 + e) e ++ [1] := by
      refine list_ext (by simp [ls_len, hZl]) fun j hj => ?_
      by_cases hje : j < e
      · rw [getD_appL (by rw [ls_len]; exact hje), ls_getD _ _ hje, if_neg (by omega), show t + 1 + e + j - (t + 1 + e) = j by omega]
      · have : j = e := by omega
        subst this
        rw [hZt, getD_appR (by rw [ls_len]; omega), ls_len, Nat.sub_self]; rfl
    have h2 := ev_snoc (ls (fun j => if j < t + 1 + e then (cvl p Z).getD j 0 else Z.getD (j - (t + 1 + e)) 0) (t + 1 + e) e) 1 x
    rw [← h1, ls_len, Int.one_mul] at h2
    exact h2
  generalize ev (ls (fun j => if j < t + 1 + e then (cvl p Z).getD j 0 else Z.getD (j - (t + 1 + e)) 0) (t + 1 + e) e) x = L at hZe ⊢
  generalize ev (ls (fun j => if j < t + 1 + e then (cvl p Z).getD j 0 else Z.getD (j - (t + 1 + e)) 0) 0 (t + 1 + e)) x = B at hB ⊢
  have hk : nm (ev p x * ev Z x) = nm (y * ev Z x) := by
    by_cases hg : nm (ev p (l.getD i (0, 0)).1) = nm (l.getD i (0, 0)).2
    · rw [hx, hy] at hg; exact nm_mul_congr hg rfl
    · have := hZ0 _ (mem_bdl hi hg)
      rw [hx] at this
      rw [this, Int.mul_zero, Int.mul_zero]
  rw [hk, hZe, Int.mul_add] at hB
  have hpw : nm (y * pw x e) = nm (y * x ^ e) := by unfold pw; exact nm_mulr _ _
  rw [hpw]
  generalize y * L = a at *
  generalize y * x ^ e = b at *
  unfold nm at *
  omega

/-- What the two polynomials tell at each share. -/
theorem bw_eq {M : Nat → Nat → Int} {l : List (Int × Int)} {n c e : Nat} {V : List Int} (hM : Bwe M l n c e) (hV : Sol M n (c + e) V) {i : Nat} (hi : i < n) :
    nm (ev (V.take c) (l.getD i (0, 0)).1) = nm ((l.getD i (0, 0)).2 * ev (V.drop c ++ [1]) (l.getD i (0, 0)).1) := by
  have h := hV.ns i hi
  obtain ⟨x, hx⟩ : ∃ x, (l.getD i (0, 0)).1 = x := ⟨_, rfl⟩
  obtain ⟨y, hy⟩ : ∃ y, (l.getD i (0, 0)).2 = y := ⟨_, rfl⟩
  have hrow : ∀ j, j < c + e + 1 → M i j = eqc x y c e j := fun j hj => by rw [hM i j hi hj, hx, hy]
  rw [hx, hy, sm_ncongr (g := fun j => (if j < c + e then V.getD j 0 else -1) * eqc x y c e j) (fun j hj => by rw [hrow j hj]), sm] at *
  rw [nm_add_congr (eq_row _ x y c e) rfl, if_neg (by omega), ← eqc_last] at h
  have hl := hV.len
  have e1 : ls (fun j => if j < c + e then V.getD j 0 else -1) 0 c = V.take c := by
    refine list_ext (by rw [ls_len]; simp; omega) fun j hj => ?_
    rw [ls_len] at hj
    rw [ls_getD _ _ hj, if_pos (by omega), take_getD, if_pos hj, Nat.zero_add]
  have e2 : ls (fun j => if j < c + e then V.getD j 0 else -1) c e = V.drop c := by
    refine list_ext (by rw [ls_len]; simp; omega) fun j hj => ?_
    rw [ls_len] at hj
    rw [ls_getD _ _ hj, if_pos (by omega)]
    simp
  rw [e1, e2] at h
  have hdl : (V.drop c).length = e := by simp; omega
  rw [ev_snoc, hdl, Int.one_mul, Int.mul_add]
  have hpw : nm (y * pw x e) = nm (y * x ^ e) := by unfold pw; exact nm_mulr _ _
  rw [hpw] at h
  generalize ev (V.take c) x = a at *
  generalize y * ev (V.drop c) x = b at *
  generalize y * x ^ e = d at *
  unfold nm at *
  omega

/-- The highest number of a product. -/
theorem pc_top {D Z : List Int} {N e : Nat} (hZ : Z.length = e + 1) (hD : ∀ t, N < t → nm (D.getD t 0) = 0) : ∀ d, nm (pc D Z (N + e) (N + 1 + d)) = nm (D.getD N 0 * Z.getD e 0)
  | 0 => by
    rw [Nat.add_zero, pc, pc_far D Z (N + e) N (by omega), Int.zero_add, tm, if_pos (by omega), show N + e - N = e by omega]
  | d + 1 => by
    rw [← Nat.add_assoc, pc, nm_add_congr (pc_top hZ hD d) (show nm (tm D Z (N + e) (N + 1 + d)) = nm 0 from ?_), Int.add_zero]
    unfold tm
    split
    · rw [nm_mul_congr (c := 0) (hD _ (by omega)) rfl, Int.zero_mul]
    · rfl
theorem pc_sub (Q p Z : List Int) (t : Nat) : ∀ n, pc (adl (-1) Q p) Z t n = pc Q Z t n - pc p Z t n
  | 0 => rfl
  | n + 1 => by
    rw [pc, pc, pc, pc_sub Q p Z t n]
    unfold tm
    split
    · rw [adl_getD, Int.neg_one_mul, Int.add_mul, Int.neg_mul]; omega
    · omega
theorem pc_long {Q Z : List Int} {t n : Nat} (h : Q.length ≤ n) : pc Q Z t n = pc Q Z t Q.length := by
  have := pc_ge Q Z t (n - Q.length)
  rwa [show Q.length + (n - Q.length) = n by omega] at this

/-- There is but one way to divide. -/
theorem div_one {Q R p Z : List Int} {e : Nat} (hZ : Z.length = e + 1) (hZt : Z.getD e 0 = 1) (nR : Nml R) (hR : R.length < e + 1) (h : ∀ t, nm (pc Q Z t Q.length + R.getD t 0) = nm (pc p Z t p.length)) : nrm Q = nrm p ∧ R = [] := by
  obtain ⟨D, hD⟩ : ∃ D, D = adl (-1) Q p := ⟨_, rfl⟩
  have hDl : D.length = max Q.length p.length := by rw [hD, adl_len]
  have hpc : ∀ t, nm (pc D Z t D.length) = nm (- R.getD t 0) := fun t => by
    have h1 := h t
    rw [← pc_long (show Q.length ≤ D.length by omega), ← pc_long (show p.length ≤ D.length by omega)] at h1
    rw [hD, pc_sub, ← hD]
    generalize pc Q Z t D.length = a at *
    generalize pc p Z t D.length = b at *
    unfold nm at *
    omega
  have hz : ∀ t, nm (D.getD t 0) = 0 := by
    have hz0 : tl (nz D) D.length = 0 := by
      refine Decidable.byContradiction fun hne => ?_
      obtain ⟨N, hN⟩ : ∃ N, tl (nz D) D.length = N + 1 := ⟨tl (nz D) D.length - 1, by omega⟩
      have h1 := tl_top (nz D) D.length (by omega)
      have h2 := tl_le (nz D) D.length
      rw [hN, Nat.add_sub_cancel, nz_getD] at h1
      have h3 := pc_top (D := D) (N := N) hZ (fun t ht => by
        by_cases htl : t < D.length
        · have := tl_above (nz D) D.length t (by omega) htl
          rwa [nz_getD] at this
        · rw [getD_big (by omega)]; rfl) (D.length - (N + 1))
      rw [show N + 1 + (D.length - (N + 1)) = D.length by omega, hpc, getD_big (show R.length ≤ N + e by omega), hZt, Int.mul_one] at h3
      exact h1 h3.symm
    intro t
    by_cases htl : t < D.length
    · have := tl_above (nz D) D.length t (by omega) htl
      rwa [nz_getD] at this
    · rw [getD_big (by omega)]; rfl
  have hQp : ∀ t, nm (Q.getD t 0) = nm (p.getD t 0) := fun t => by
    have := hz t
    rw [hD, adl_getD] at this
    unfold nm at *
    omega
  refine ⟨nrm_ext hQp, ?_⟩
  cases R with
  | nil => rfl
  | cons r R =>
    have h1 := nR.top (by simp)
    have h2 := hpc ((r :: R).length - 1)
    have h4 : nm (pc D Z ((r :: R).length - 1) D.length) = 0 := by
      have : ∀ n, nm (pc D Z ((r :: R).length - 1) n) = 0 := fun n => by
        induction n with
        | zero => rfl
        | succ n ih =>
          rw [pc, nm_add_congr (c := 0) (d := 0) ih ?_]; · rfl
          unfold tm
          split
          · rw [nm_mul_congr (c := 0) (hz n) rfl, Int.zero_mul]
          · rfl
      exact this _
    have h3 := getD_bd' nR.bd ((r :: R).length - 1)
    rw [h4] at h2
    unfold nm at h2
    omega

/-- What comes of the division tells whether there is a polynomial that has all shares but a few. -/
theorem bw_find {M : Nat → Nat → Int} {l : List (Int × Int)} {n t e : Nat} {V Q R Z : List Int} (hl : l.length = n) (hd : dis (fa l) n) (hn : t + 1 + 2 * e ≤ n) (hM : Bwe M l n (t + 1 + e) e) (hV : Sol M n (t + 1 + e + e) V)
    (hZ : Z = V.drop (t + 1 + e) ++ [1]) (nQ : Nml Q) (nR : Nml R) (hR : R.length < e + 1) (h : ∀ j, nm (pc Q Z j Q.length + R.getD j 0) = nm ((V.take (t + 1 + e)).getD j 0)) :
    (R = [] → Q.length ≤ t + 1 ∧ (bdl l Q n).length ≤ e) ∧ (R ≠ [] → ∀ p : List Int, p.length ≤ t + 1 → ¬ (bdl l p n).length ≤ e) := by
  have hVl := hV.len
  have hZl : Z.length = e + 1 := by rw [hZ]; simp; omega
  have hZt : Z.getD e 0 = 1 := by
    have hdl : (V.drop (t + 1 + e)).length = e := by simp; omega
    rw [hZ, getD_appR (by omega), hdl, Nat.sub_self]; rfl
  have heq : ∀ i, i < n → nm (ev (V.take (t + 1 + e)) (l.getD i (0, 0)).1) = nm ((l.getD i (0, 0)).2 * ev Z (l.getD i (0, 0)).1) := fun i hi => by rw [hZ]; exact bw_eq hM hV hi
  have hget : ∀ x ∈ l, ∃ i, i < n ∧ l.getD i (0, 0) = x := fun x hx => by
    obtain ⟨i, hi, e⟩ := List.getElem_of_mem hx
    exact ⟨i, by omega, by simp [List.getElem?_eq_getElem hi, e]⟩
  have hpair : ∀ f : Int × Int → Bool, (ats (l.filter f)).Pairwise (fun a b => nm (a - b) ≠ 0) := fun f => by
    have h1 := ats_pair hl (dis_okk hd)
    unfold ats at h1 ⊢
    rw [List.pairwise_map] at h1 ⊢
    exact h1.filter _
  constructor
  · rintro rfl
    have h' : ∀ j, nm (pc Q Z j Q.length) = nm ((V.take (t + 1 + e)).getD j 0) := fun j => by have := h j; simpa using this
    refine ⟨?_, ?_⟩
    · rcases Nat.lt_or_ge (t + 1) Q.length with hlt | hge
      · exfalso
        have h1 := pc_top (D := Q) (Z := Z) (N := Q.length - 1) hZl (fun j hj => by rw [getD_big (by omega)]; rfl) 0
        rw [show Q.length - 1 + 1 + 0 = Q.length by omega, h', hZt, Int.mul_one, getD_big (by simp; omega)] at h1
        have h2 := nQ.top (by omega)
        have h3 := getD_bd' nQ.bd (Q.length - 1)
        unfold nm at h1
        omega
      · exact hge
    · rcases Nat.lt_or_ge e (bdl l Q n).length with hlt | hge
      · exfalso
        rw [← hl, bdl_all] at hlt
        have hr := roots (ats (l.filter (badb Q))) Z (hpair _) (fun a ha => by
          obtain ⟨x, hx, rfl⟩ := List.mem_map.1 ha
          obtain ⟨hx1, hx2⟩ := List.mem_filter.1 hx
          obtain ⟨i, hi, rfl⟩ := hget x hx1
          have hb : ¬ nm (ev Q (l.getD i (0, 0)).1) = nm (l.getD i (0, 0)).2 := by simpa [badb] using hx2
          refine Decidable.byContradiction fun hne => hb ?_
          refine nm_cancel (a := ev Z (l.getD i (0, 0)).1) ?_ hne
          rw [Int.mul_comm, ← cvl_ev, Int.mul_comm _ (l.getD i (0, 0)).2, ← heq i hi]
          refine ev_congr _ _ _ fun j => ?_
          rw [cvl_getD, nm_nm]
          exact h' j) (by rw [ats_len]; rw [List.length_map] at hlt; omega) 1 (by rw [hZ]; simp)
        revert hr; decide
      · exact hge
  · intro hR0 p hp hb
    have hpoly : nrm (V.take (t + 1 + e)) = nrm (cvl p Z) := by
      have hcnt := cnt_good l p n
      have hf : (l.filter fun x => !badb p x).length + (bdl l p n).length = n := by
        rw [← hl, bdl_all, List.length_map]
        clear hb hcnt hget hpair heq hV hM hd hl hn h
        induction l with
        | nil => rfl
        | cons a l ih =>
          simp only [List.filter_cons, List.length_cons]
          cases badb p a <;> simp <;> omega
      refine same_poly (hpair fun x => !badb p x) (fun a ha => ?_) ?_ ?_
      · obtain ⟨x, hx, rfl⟩ := List.mem_map.1 ha
        obtain ⟨hx1, hx2⟩ := List.mem_filter.1 hx
        obtain ⟨i, hi, rfl⟩ := hget x hx1
        have hg : nm (ev p (l.getD i (0, 0)).1) = nm (l.getD i (0, 0)).2 := by simpa [badb] using hx2
        rw [heq i hi, cvl_ev]
        exact (nm_mul_congr hg rfl).symm
      · rw [ats_len]; simp; omega
      · rw [ats_len, cvl_len]; omega
    have := (div_one hZl hZt nR hR (Q := Q) (p := p) fun j => by
      rw [h j, ← nrm_getD, hpoly, nrm_getD, cvl_getD, nm_nm]).2
    exact hR0 this
end
end Go.Proofs.Ytljlioglpaogdab
