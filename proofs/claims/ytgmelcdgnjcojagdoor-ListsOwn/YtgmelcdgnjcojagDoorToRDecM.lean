/- Ints in order: INSERTION. Plain. · What Decode and Open of chapter 5 tell: plain facts. · croftref.Decode: plain facts: each choice of t + 1 shares. -/
import Derived.Test.YtgmelcdgnjcojagDoorToGatesR
import Derived.Test.YtgmelcdgnjcojagDoorToBadM
namespace Go.Proofs.YtgmelcdgnjcojagDoor
open Crm

/-- Two neighbours change places. -/
def swp (L : List Int) (j : Nat) : List Int := (L.set (j + 1) (L.getD j 0)).set j (L.getD (j + 1) 0)
theorem swp_perm : ∀ (L : List Int) (j : Nat), j + 1 < L.length → (swp L j).Perm L
  | [], j, h => by simp at h
  | [a], j, h => by simp at h
  | a :: b :: l, 0, _ => List.Perm.swap _ _ _
  | a :: b :: l, j + 1, h => (swp_perm (b :: l) j (by simpa using h)).cons a
theorem swp_len (L : List Int) (j : Nat) : (swp L j).length = L.length := by simp [swp]
theorem swp_getD {L : List Int} {j : Nat} (h : j + 1 < L.length) (t : Nat) : (swp L j).getD t 0 = if t = j then L.getD (j + 1) 0 else if t = j + 1 then L.getD j 0 else L.getD t 0 := by
  unfold swp
  rw [getD_set, getD_set, List.length_set]
  by_cases e1 : t = j
  · subst e1; rw [if_pos ⟨rfl, by omega⟩, if_pos rfl]
  · rw [if_neg (fun h => e1 h.1.symm), if_neg e1]
    by_cases e2 : t = j + 1
    · subst e2; rw [if_pos ⟨rfl, h⟩, if_pos rfl]
    · rw [if_neg (fun h => e2 h.1.symm), if_neg e2]
/-- In order but for place j, up to place i. -/
structure InI (L0 L : List Int) (i j : Nat) : Prop where
  perm : L.Perm L0
  srt : ∀ p q, p < q → q ≤ i → q ≠ j → L.getD p 0 ≤ L.getD q 0
structure OuI (L0 L : List Int) (i : Nat) : Prop where
  perm : L.Perm L0
  srt : ∀ p q, p < q → q < i → L.getD p 0 ≤ L.getD q 0
theorem in_start {L0 L : List Int} {i : Nat} (h : OuI L0 L i) : InI L0 L i i := ⟨h.perm, fun p q h1 h2 h3 => h.srt p q h1 (by omega)⟩
theorem in_step {L0 L : List Int} {i j : Nat} (h : InI L0 L i (j + 1)) (hj : j + 1 ≤ i) (hi : i < L.length) (hlt : L.getD (j + 1) 0 < L.getD j 0) : InI L0 (swp L j) i j := by
  refine ⟨(swp_perm L j (by omega)).trans h.perm, fun p q h1 h2 h3 => ?_⟩
  rw [swp_getD (by omega), swp_getD (by omega), if_neg h3]
  have hs := h.srt
  by_cases e : q = j + 1
  · subst e
    rw [if_pos rfl]
    by_cases e2 : p = j
    · subst e2; rw [if_pos rfl]; omega
    · rw [if_neg e2, if_neg (by omega)]
      exact hs p j (by omega) (by omega) (by omega)
  · rw [if_neg e]
    have h4 := hs p q h1 h2 e
    by_cases e2 : p = j
    · subst e2; rw [if_pos rfl]; exact hs (p + 1) q (by omega) h2 e
    · rw [if_neg e2]
      by_cases e3 : p = j + 1
      · subst e3; rw [if_pos rfl]; exact hs j q (by omega) h2 e
      · rw [if_neg e3]; exact h4
theorem in_end0 {L0 L : List Int} {i : Nat} (h : InI L0 L i 0) : OuI L0 L (i + 1) := ⟨h.perm, fun p q h1 h2 => h.srt p q h1 (by omega) (by omega)⟩
theorem in_end {L0 L : List Int} {i j : Nat} (h : InI L0 L i (j + 1)) (hj : j + 1 ≤ i) (hle : L.getD j 0 ≤ L.getD (j + 1) 0) : OuI L0 L (i + 1) := by
  refine ⟨h.perm, fun p q h1 h2 => ?_⟩
  by_cases e : q = j + 1
  · subst e
    by_cases e2 : p = j
    · subst e2; exact hle
    · exact Int.le_trans (h.srt p j (by omega) (by omega) (by omega)) hle
  · exact h.srt p q h1 (by omega) e
theorem OuI.pair {L0 L : List Int} {n : Nat} (h : OuI L0 L n) (hl : L.length = n) : L.Pairwise (· ≤ ·) := by
  rw [List.pairwise_iff_getElem]
  intro i j hi hj hij
  have := h.srt i j hij (by omega)
  simpa [List.getElem?_eq_getElem hi, List.getElem?_eq_getElem hj] using this
/-- There is but one order. -/
theorem srt_one {L0 L1 A B : List Int} {n m : Nat} (h : OuI L0 A n) (k : OuI L1 B m) (hp : L0.Perm L1) (hA : A.length = n) (hB : B.length = m) : A = B :=
  List.Perm.eq_of_pairwise (le := (· ≤ ·)) (fun _ _ _ _ h1 h2 => Int.le_antisymm h1 h2) (h.pair hA) (k.pair hB) ((h.perm.trans hp).trans k.perm.symm)
end Go.Proofs.YtgmelcdgnjcojagDoor

namespace Go.Proofs.YtgmelcdgnjcojagDoor
open Crm

/-- The m numbers of a polynomial, noughts at the end too. -/
def pdn (p : List Int) (m : Nat) : List Int := (List.range m).map fun i => nm (p.getD i 0)
theorem pdn_len (p : List Int) (m : Nat) : (pdn p m).length = m := by simp [pdn]
theorem pdn_getD (p : List Int) {m i : Nat} (h : i < m) : (pdn p m).getD i 0 = nm (p.getD i 0) := by simp [pdn, h]
theorem pdn_same {p q : List Int} (h : nrm p = nrm q) (m : Nat) : pdn p m = pdn q m := by
  refine list_ext (by rw [pdn_len, pdn_len]) fun i hi => ?_
  rw [pdn_len] at hi
  rw [pdn_getD p hi, pdn_getD q hi, ← nrm_getD, ← nrm_getD, h]
theorem pdn_bd (p : List Int) (m : Nat) : ∀ x ∈ pdn p m, 0 ≤ x ∧ x ≤ 2147483646 := by
  intro x hx
  obtain ⟨i, _, rfl⟩ := List.mem_map.1 hx
  exact nm_bd _

/-- Shares that are good enough for Decode: none of them twice; there may be too few. -/
def Shd (l : List (Int × Int)) (n : Nat) (t : Int) : Prop := (0 ≤ t ∧ t ≤ 4) ∧ dis (fa l) n
theorem She.shd {l : List (Int × Int)} {n : Nat} {t r : Int} (h : She l n t r) (hr : r = 0 ∨ r = 4) : Shd l n t := by
  rcases h with ⟨_, h2⟩ | ⟨_, _, h2⟩ | ⟨h1, h3, _, _⟩ | ⟨h1, h3, _, _⟩
  · omega
  · omega
  · exact ⟨h1, h3⟩
  · exact ⟨h1, h3⟩
theorem Shd.she {l : List (Int × Int)} {n : Nat} {t r : Int} (h : Shd l n t) (k : She l n t r) : r = 0 ∨ r = 4 := by
  rcases k with ⟨k1, _⟩ | ⟨_, k3, _⟩ | ⟨_, _, _, k2⟩ | ⟨_, _, _, k2⟩
  · have := h.1; omega
  · exact absurd h.2 k3
  · exact Or.inr k2
  · exact Or.inl k2

/-- A polynomial of t + 1 numbers that has all shares but e. -/
def Few (l : List (Int × Int)) (n : Nat) (t e : Int) (p : List Int) : Prop := (p.length : Int) ≤ t + 1 ∧ ((bdl l p n).length : Int) ≤ e
/-- What Decode tells. -/
def Dcd (l : List (Int × Int)) (n : Nat) (t e : Int) (P B : List Int) (r : Int) : Prop :=
  ((She l n t r ∧ r ≠ 0 ∧ r ≠ 4) ∧ P = [] ∧ B = []) ∨
  (Shd l n t ∧ (e < 0 ∨ 4 < e) ∧ P = [] ∧ B = [] ∧ r = 1) ∨
  (Shd l n t ∧ (0 ≤ e ∧ e ≤ 4) ∧ (n : Int) < t + 1 + 2 * e ∧ P = [] ∧ B = [] ∧ r = 4) ∨
  (Shd l n t ∧ (0 ≤ e ∧ e ≤ 4) ∧ t + 1 + 2 * e ≤ (n : Int) ∧ (∃ p, Few l n t e p ∧ P = pdn p (t + 1).toNat ∧ OuI (bdl l p n) B (bdl l p n).length) ∧ r = 0) ∨
  (Shd l n t ∧ (0 ≤ e ∧ e ≤ 4) ∧ t + 1 + 2 * e ≤ (n : Int) ∧ (∀ p, ¬ Few l n t e p) ∧ P = [] ∧ B = [] ∧ r = 6)

theorem few_one {l : List (Int × Int)} {n : Nat} {t e : Int} {p q : List Int} (hl : l.length = n) (hs : Shd l n t) (he : 0 ≤ e) (hn : t + 1 + 2 * e ≤ (n : Int)) (hp : Few l n t e p) (hq : Few l n t e q) : nrm p = nrm q := by
  obtain ⟨k, rfl⟩ : ∃ k : Nat, t = k := ⟨t.toNat, by have := hs.1; omega⟩
  obtain ⟨d, rfl⟩ : ∃ d : Nat, e = d := ⟨e.toNat, by omega⟩
  have h1 := hp.1
  have h2 := hq.1
  have h3 := hp.2
  have h4 := hq.2
  exact dec_one (t := k) (e := d) hl hs.2 (by omega) (by omega) (by omega) (by omega) (by omega)

theorem Dcd.one {l : List (Int × Int)} {n : Nat} {t e : Int} {P B Q C : List Int} {r s : Int} (hl : l.length = n) (h : Dcd l n t e P B r) (k : Dcd l n t e Q C s) : P = Q ∧ B = C ∧ r = s := by
  have no : ∀ {x : Int}, Shd l n t → She l n t x → x ≠ 0 → x ≠ 4 → False := fun hs hx h0 h4 => by
    rcases hs.she hx with e | e
    · exact h0 e
    · exact h4 e
  rcases h with ⟨⟨h1, h2, h3⟩, rfl, rfl⟩ | ⟨h1, h2, rfl, rfl, rfl⟩ | ⟨h1, h2, h3, rfl, rfl, rfl⟩ | ⟨h1, h2, h3, ⟨p, p1, rfl, p2⟩, rfl⟩ | ⟨h1, h2, h3, h4, rfl, rfl, rfl⟩ <;>
    rcases k with ⟨⟨k1, k2, k3⟩, rfl, rfl⟩ | ⟨k1, k2, rfl, rfl, rfl⟩ | ⟨k1, k2, k3, rfl, rfl, rfl⟩ | ⟨k1, k2, k3, ⟨q, q1, rfl, q2⟩, rfl⟩ | ⟨k1, k2, k3, k4, rfl, rfl, rfl⟩
  all_goals first
    | exact ⟨rfl, rfl, rfl⟩
    | exact ⟨rfl, rfl, h1.one k1⟩
    | exact (no k1 h1 h2 h3).elim
    | exact (no h1 k1 k2 k3).elim
    | (exfalso; omega)
    | exact absurd p1 (k4 p)
    | exact absurd q1 (h4 q)
    | skip
  have hnr := few_one hl h1 h2.1 h3 p1 q1
  have hbd : bdl l p n = bdl l q n := by rw [← hl]; exact bdl_same hnr l
  refine ⟨pdn_same hnr _, srt_one p2 q2 (by rw [hbd]) ?_ ?_, rfl⟩
  · exact p2.perm.length_eq
  · exact q2.perm.length_eq

/-- As many wrong ones as there may be. -/
def mayb (n : Nat) (t : Int) : Int := min 4 (((n : Int) - t - 1) / 2)
/-- What Open tells. -/
def Rob (l : List (Int × Int)) (n : Nat) (t x : Int) (B : List Int) (r : Int) : Prop :=
  (She l n t r ∧ r ≠ 0 ∧ x = 0 ∧ B = []) ∨ (She l n t 0 ∧ ∃ P C s, Dcd l n t (mayb n t) P C s ∧ ((s ≠ 0 ∧ x = 0 ∧ B = [] ∧ r = s) ∨ (s = 0 ∧ x = P.getD 0 0 ∧ B = C ∧ r = 0)))
theorem Rob.one {l : List (Int × Int)} {n : Nat} {t x y : Int} {B C : List Int} {r s : Int} (hl : l.length = n) (h : Rob l n t x B r) (k : Rob l n t y C s) : x = y ∧ B = C ∧ r = s := by
  rcases h with ⟨h1, h2, rfl, rfl⟩ | ⟨h1, P, D, u, h2, h3⟩ <;> rcases k with ⟨k1, k2, rfl, rfl⟩ | ⟨k1, Q, E, v, k2, k3⟩
  · exact ⟨rfl, rfl, h1.one k1⟩
  · exact absurd (h1.one k1) h2
  · exact absurd (k1.one h1) k2
  · obtain ⟨rfl, rfl, rfl⟩ := h2.one hl k2
    rcases h3 with ⟨a1, rfl, rfl, rfl⟩ | ⟨a1, rfl, rfl, rfl⟩ <;> rcases k3 with ⟨b1, rfl, rfl, rfl⟩ | ⟨b1, rfl, rfl, rfl⟩
    · exact ⟨rfl, rfl, rfl⟩
    · exact absurd b1 a1
    · exact absurd a1 b1
    · exact ⟨rfl, rfl, rfl⟩

/-- If there is such a polynomial, a choice of t + 1 shares that it has finds it. -/
theorem cnt_good (l : List (Int × Int)) (p : List Int) : ∀ n, cnt (fun i => !badb p (l.getD i (0, 0))) n + (bdl l p n).length = n
  | 0 => rfl
  | n + 1 => by
    have ih := cnt_good l p n
    show cnt (fun i => !badb p (l.getD i (0, 0))) n + (if (!badb p (l.getD n (0, 0))) = true then 1 else 0) + (bdl l p (n + 1)).length = n + 1
    by_cases h : nm (ev p (l.getD n (0, 0)).1) = nm (l.getD n (0, 0)).2
    · have hb : badb p (l.getD n (0, 0)) = false := by unfold badb; rw [decide_eq_true h]; rfl
      rw [bdl_ok h, hb, Bool.not_false, if_pos rfl]
      omega
    · have hb : badb p (l.getD n (0, 0)) = true := by unfold badb; rw [decide_eq_false h]; rfl
      rw [bdl_bad h, hb, Bool.not_true, if_neg (by decide), List.length_append, List.length_singleton]
      omega
theorem slt_mem {l : List (Int × Int)} {s : Nat} : ∀ {k : Nat} {x : Int × Int}, x ∈ slt l s k → ∃ i, i < k ∧ s / 2 ^ i % 2 = 1 ∧ x = l.getD i (0, 0)
  | 0, x, h => by simp [slt] at h
  | k + 1, x, h => by
    rw [slt] at h
    split at h
    · rename_i hb
      rcases List.mem_append.1 h with h | h
      · obtain ⟨i, h1, h2, h3⟩ := slt_mem h
        exact ⟨i, by omega, h2, h3⟩
      · exact ⟨k, by omega, hb, List.mem_singleton.1 h⟩
    · obtain ⟨i, h1, h2, h3⟩ := slt_mem h
      exact ⟨i, by omega, h2, h3⟩
theorem choice_finds {l : List (Int × Int)} {n m : Nat} {p : List Int} (hm : m + (bdl l p n).length ≤ n) : ∃ s, s < 2 ^ n ∧ (slt l s n).length = m ∧ ∀ x ∈ slt l s n, nm (ev p x.1) = nm x.2 := by
  have hc := cnt_good l p n
  obtain ⟨s, h1, h2, h3⟩ := pick_bits l (fun i => !badb p (l.getD i (0, 0))) n m (by omega)
  refine ⟨s, h1, h2, fun x hx => ?_⟩
  obtain ⟨i, hi, hb, rfl⟩ := slt_mem hx
  have := h3 i hi hb
  simpa [badb] using this
end Go.Proofs.YtgmelcdgnjcojagDoor

namespace Go.Proofs.YtgmelcdgnjcojagDoor
open Crm

theorem dis_iff (l : List (Int × Int)) : dis (fa l) l.length ↔ (∀ x ∈ l, 1 ≤ x.1 ∧ x.1 ≤ 9) ∧ l.Pairwise (fun a b => a.1 ≠ b.1) := by
  have e : ∀ i (h : i < l.length), fa l i = l[i].1 := fun i h => by simp [fa, List.getElem?_eq_getElem h]
  constructor
  · intro h
    refine ⟨fun x hx => ?_, ?_⟩
    · obtain ⟨i, hi, rfl⟩ := List.getElem_of_mem hx
      have := (h i hi).1
      rwa [e i hi] at this
    · rw [List.pairwise_iff_getElem]
      intro i j hi hj hij
      have := (h j hj).2 i hij
      rwa [e i hi, e j hj] at this
  · rintro ⟨h1, h2⟩ i hi
    rw [List.pairwise_iff_getElem] at h2
    refine ⟨by rw [e i hi]; exact h1 _ (List.getElem_mem hi), fun j hj => ?_⟩
    rw [e i hi, e j (by omega)]
    exact h2 j i (by omega) hi hj
theorem dis_perm {l k : List (Int × Int)} {n : Nat} (hl : l.length = n) (hp : k.Perm l) (h : dis (fa l) n) : dis (fa k) n := by
  subst hl
  rw [← hp.length_eq, dis_iff]
  rw [dis_iff] at h
  exact ⟨fun x hx => h.1 x (hp.mem_iff.1 hx), (hp.pairwise_iff (fun h e => h e.symm)).2 h.2⟩

/-- All shares, those that are chosen first. -/
def jn (l : List (Int × Int)) (s n : Nat) : List (Int × Int) := slt l s n ++ ult l s n
theorem jn_perm {l : List (Int × Int)} {n : Nat} (hl : l.length = n) (s : Nat) : (jn l s n).Perm l := by
  have := slt_perm l s n (by omega)
  rwa [List.take_of_length_le (by omega)] at this
theorem jn_len {l : List (Int × Int)} {n : Nat} (hl : l.length = n) (s : Nat) : (jn l s n).length = n := by rw [(jn_perm hl s).length_eq, hl]
theorem jn_bdl {l : List (Int × Int)} {n : Nat} (hl : l.length = n) (s : Nat) (p : List Int) : (bdl (jn l s n) p n).Perm (bdl l p n) := by
  have := bdl_perm (jn_perm hl s) p
  rwa [jn_len hl, hl] at this
theorem slt_le (l : List (Int × Int)) (s : Nat) : ∀ k, (slt l s k).length ≤ k
  | 0 => by simp [slt]
  | k + 1 => by
    have := slt_le l s k
    rw [slt]; split
    · simp; omega
    · omega
theorem ult_le (l : List (Int × Int)) (s : Nat) : ∀ k, (slt l s k).length + (ult l s k).length = k
  | 0 => by simp [slt, ult]
  | k + 1 => by
    have := ult_le l s k
    rw [slt, ult]; split
    · simp; omega
    · simp; omega
theorem slt_bd {l : List (Int × Int)} {n : Nat} {Q : Int × Int → Prop} (h : ∀ i, i < n → Q (l.getD i (0, 0))) (s : Nat) : ∀ k, k ≤ n → ∀ x ∈ slt l s k, Q x := fun k hk x hx => by
  obtain ⟨i, hi, _, rfl⟩ := slt_mem hx
  exact h i (by omega)

/-- No choice ahead of s finds a polynomial that has all shares but e. -/
def Nope (l : List (Int × Int)) (n t e s : Nat) : Prop := ∀ u, u < s → ∀ p : List Int, (slt l u n).length = t + 1 → p.length ≤ t + 1 → (∀ x ∈ slt l u n, nm (ev p x.1) = nm x.2) → ¬ (bdl l p n).length ≤ e
theorem nope_zero (l : List (Int × Int)) (n t e : Nat) : Nope l n t e 0 := fun u hu => by omega
theorem nope_skip {l : List (Int × Int)} {n t e s : Nat} (h : Nope l n t e s) (hs : (slt l s n).length ≠ t + 1) : Nope l n t e (s + 1) := fun u hu p h1 h2 h3 => by
  by_cases he : u = s
  · subst he; exact absurd h1 hs
  · exact h u (by omega) p h1 h2 h3
theorem jn_first {l : List (Int × Int)} {s n m i : Nat} (h : (slt l s n).length = m) (hi : i < m) : (jn l s n).getD i (0, 0) ∈ slt l s n := by
  have e : (jn l s n).getD i (0, 0) = (slt l s n)[i]'(by omega) := by
    unfold jn
    simp [List.getElem?_append_left (show i < (slt l s n).length by omega), List.getElem?_eq_getElem (show i < (slt l s n).length by omega)]
  rw [e]
  exact List.getElem_mem _
theorem nope_bad {l : List (Int × Int)} {n t e s : Nat} {q : List Int} (hl : l.length = n) (hd : dis (fa l) n) (h : Nope l n t e s) (hs : (slt l s n).length = t + 1) (hq : q.length ≤ t + 1) (hH : Hs (jn l s n) (t + 1) q) (hb : e < (bdl (jn l s n) q n).length) : Nope l n t e (s + 1) := fun u hu p h1 h2 h3 => by
  by_cases he : u = s
  · subst he
    have hd2 : dis (fa (jn l u n)) n := dis_perm hl (jn_perm hl u) hd
    have hle := slt_le l u n
    have hpq : nrm p = nrm q := hs_one (l := jn l u n) (n := t + 1) (dis_okk (dis_le hd2 (by omega))) (fun i hi => h3 _ (jn_first hs hi)) hH h2 hq
    intro h4
    have h5 := (jn_bdl hl u q).length_eq
    have h6 := bdl_same hpq l
    rw [hl] at h6
    rw [h6] at h4
    omega
  · exact h u (by omega) p h1 h2 h3
theorem nope_end {l : List (Int × Int)} {n t e : Nat} (h : Nope l n t e (2 ^ n)) (hn : t + 1 + 2 * e ≤ n) : ∀ p, ¬ Few l n t e p := fun p hp => by
  have h1 := hp.1
  have h2 := hp.2
  obtain ⟨s, s1, s2, s3⟩ := choice_finds (l := l) (n := n) (m := t + 1) (p := p) (by omega)
  exact h s s1 p s2 (by omega) s3 (by omega)
/-- What the first choice that finds one tells. -/
theorem jn_found {l : List (Int × Int)} {n t e s : Nat} {q B : List Int} (hl : l.length = n) (hd : dis (fa l) n) (ht : t ≤ 4) (he : e ≤ 4) (hn : t + 1 + 2 * e ≤ n) (hq : q.length ≤ t + 1) (hb : (bdl (jn l s n) q n).length ≤ e) (hB : OuI (bdl (jn l s n) q n) B (bdl (jn l s n) q n).length) : Dcd l n t e (pdn q (t + 1)) B 0 := by
  have h5 := (jn_bdl hl s q).length_eq
  refine .inr (.inr (.inr (.inl ⟨⟨⟨by omega, by omega⟩, hd⟩, ⟨by omega, by omega⟩, by omega, ⟨q, ⟨by omega, by omega⟩, by congr 1, ?_⟩, rfl⟩)))
  rw [← h5]
  exact ⟨hB.perm.trans (jn_bdl hl s q), hB.srt⟩
/-- A polynomial with noughts behind it. -/
def pad0 (q : List Int) (j : Nat) : List Int := q ++ List.replicate (j - q.length) 0
theorem pad0_snoc {q : List Int} {j : Nat} (h : q.length ≤ j) : pad0 q j ++ [0] = pad0 q (j + 1) := by
  unfold pad0
  rw [show j + 1 - q.length = (j - q.length) + 1 by omega, List.replicate_succ', List.append_assoc]
theorem pad0_self (q : List Int) : pad0 q q.length = q := by simp [pad0]
theorem pad0_pdn {q : List Int} {m : Nat} (hb : ∀ x ∈ q, 0 ≤ x ∧ x ≤ 2147483646) (h : q.length ≤ m) : pad0 q m = pdn q m := by
  refine list_ext (by rw [pdn_len]; simp [pad0]; omega) fun i hi => ?_
  have hi2 : i < m := by simp [pad0] at hi; omega
  have hb2 := getD_bd' hb i
  rw [pdn_getD q hi2, nm_small hb2.1 hb2.2]
  unfold pad0
  by_cases hq : i < q.length
  · simp [List.getElem?_append_left hq]
  · rw [getD_big (show q.length ≤ i by omega)]
    have : (q ++ List.replicate (m - q.length) (0 : Int)).getD i 0 = (List.replicate (m - q.length) (0 : Int)).getD (i - q.length) 0 := by simp [List.getElem?_append_right (show q.length ≤ i by omega)]
    rw [this, zeros_getD]
end Go.Proofs.YtgmelcdgnjcojagDoor
