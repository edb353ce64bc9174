/- Ints in order: INSERTION. Plain. · What Decode and Open of chapter 5 tell: plain facts. -/
import Derived.Test.YtnofegdlainjaadToPolyM2
import Derived.Test.YtnofegdlainjaadToBadM
namespace Go.Proofs.Ytnofegdlainjaad
open Crm

/-- Two neighbours change places. -/
def swp (L : List Int) (j : Nat) : List Int := (L.set (j + 1) (L.getD j 0)).set j (L.getD (j + 1) 0)
theorem swp_perm : ∀ (L : List Int) (j : Nat), j + 1 < L.length → (swp L j).Perm L
  | [], j, h => by simp at h
  | [a], j, h => by simp at h
  | a :: b :: l, 0, _ => List.Perm.swap _ _ _
  | a :: b :: l, j + 1, h => (swp_perm (b :: l) j (by simpa using h)).cons a
theorem swp_len (L : List Int) (j : Nat) : (swp L j).length = L.length := by simp [swp]
theorem swp_getD {L : List Int} {j : Nat} (h : j + 1 < L.length) (t : Nat) : (swp L j).getD t 0 = if t = j then L.getD (j + 1) 0 else if t = j + 1 then L.getD j 0 else L.getD t 0 := by
  unfold swp
  rw [getD_set, getD_set, List.length_set]
  by_cases e1 : t = j
  · subst e1; rw [if_pos ⟨rfl, by omega⟩, if_pos rfl]
  · rw [if_neg (fun h => e1 h.1.symm), if_neg e1]
    by_cases e2 : t = j + 1
    · subst e2; rw [if_pos ⟨rfl, h⟩, if_pos rfl]
    · rw [if_neg (fun h => e2 h.1.symm), if_neg e2]
/-- In order but for place j, up to place i. -/
structure InI (L0 L : List Int) (i j : Nat) : Prop where
  perm : L.Perm L0
  srt : ∀ p q, p < q → q ≤ i → q ≠ j → L.getD p 0 ≤ L.getD q 0
structure OuI (L0 L : List Int) (i : Nat) : Prop where
  perm : L.Perm L0
  srt : ∀ p q, p < q → q < i → L.getD p 0 ≤ L.getD q 0
theorem in_start {L0 L : List Int} {i : Nat} (h : OuI L0 L i) : InI L0 L i i := ⟨h.perm, fun p q h1 h2 h3 => h.srt p q h1 (by omega)⟩
theorem in_step {L0 L : List Int} {i j : Nat} (h : InI L0 L i (j + 1)) (hj : j + 1 ≤ i) (hi : i < L.length) (hlt : L.getD (j + 1) 0 < L.getD j 0) : InI L0 (swp L j) i j := by
  refine ⟨(swp_perm L j (by omega)).trans h.perm, fun p q h1 h2 h3 => ?_⟩
  rw [swp_getD (by omega), swp_getD (by omega), if_neg h3]
  have hs := h.srt
  by_cases e : q = j + 1
  · subst e
    rw [if_pos rfl]
    by_cases e2 : p = j
    · subst e2; rw [if_pos rfl]; omega
    · rw [if_neg e2, if_neg (by omega)]
      exact hs p j (by omega) (by omega) (by omega)
  · rw [if_neg e]
    have h4 := hs p q h1 h2 e
    by_cases e2 : p = j
    · subst e2; rw [if_pos rfl]; exact hs (p + 1) q (by omega) h2 e
    · rw [if_neg e2]
      by_cases e3 : p = j + 1
      · subst e3; rw [if_pos rfl]; exact hs j q (by omega) h2 e
      · rw [if_neg e3]; exact h4
theorem in_end0 {L0 L : List Int} {i : Nat} (h : InI L0 L i 0) : OuI L0 L (i + 1) := ⟨h.perm, fun p q h1 h2 => h.srt p q h1 (by omega) (by omega)⟩
theorem in_end {L0 L : List Int} {i j : Nat} (h : InI L0 L i (j + 1)) (hj : j + 1 ≤ i) (hle : L.getD j 0 ≤ L.getD (j + 1) 0) : OuI L0 L (i + 1) := by
  refine ⟨h.perm, fun p q h1 h2 => ?_⟩
  by_cases e : q = j + 1
  · subst e
    by_cases e2 : p = j
    · subst e2; exact hle
    · exact Int.le_trans (h.srt p j (by omega) (by omega) (by omega)) hle
  · exact h.srt p q h1 (by omega) e
theorem OuI.pair {L0 L : List Int} {n : Nat} (h : OuI L0 L n) (hl : L.length = n) : L.Pairwise (· ≤ ·) := by
  rw [List.pairwise_iff_getElem]
  intro i j hi hj hij
  have := h.srt i j hij (by omega)
  simpa [List.getElem?_eq_getElem hi, List.getElem?_eq_getElem hj] using this
/-- There is but one order. -/
theorem srt_one {L0 L1 A B : List Int} {n m : Nat} (h : OuI L0 A n) (k : OuI L1 B m) (hp : L0.Perm L1) (hA : A.length = n) (hB : B.length = m) : A = B :=
  List.Perm.eq_of_pairwise (le := (· ≤ ·)) (fun _ _ _ _ h1 h2 => Int.le_antisymm h1 h2) (h.pair hA) (k.pair hB) ((h.perm.trans hp).trans k.perm.symm)
end Go.Proofs.Ytnofegdlainjaad

namespace Go.Proofs.Ytnofegdlainjaad
open Crm

/-- The m numbers of a polynomial, noughts at the end too. -/
def pdn (p : List Int) (m : Nat) : List Int := (List.range m).map fun i => nm (p.getD i 0)
theorem pdn_len (p : List Int) (m : Nat) : (pdn p m).length = m := by simp [pdn]
theorem pdn_getD (p : List Int) {m i : Nat} (h : i < m) : (pdn p m).getD i 0 = nm (p.getD i 0) := by simp [pdn, h]
theorem pdn_same {p q : List Int} (h : nrm p = nrm q) (m : Nat) : pdn p m = pdn q m := by
  refine list_ext (by rw [pdn_len, pdn_len]) fun i hi => ?_
  rw [pdn_len] at hi
  rw [pdn_getD p hi, pdn_getD q hi, ← nrm_getD, ← nrm_getD, h]
theorem pdn_bd (p : List Int) (m : Nat) : ∀ x ∈ pdn p m, 0 ≤ x ∧ x ≤ 2147483646 := by
  intro x hx
  obtain ⟨i, _, rfl⟩ := List.mem_map.1 hx
  exact nm_bd _

/-- Shares that are good enough for Decode: none of them twice; there may be too few. -/
def Shd (l : List (Int × Int)) (n : Nat) (t : Int) : Prop := (0 ≤ t ∧ t ≤ 4) ∧ dis (fa l) n
theorem She.shd {l : List (Int × Int)} {n : Nat} {t r : Int} (h : She l n t r) (hr : r = 0 ∨ r = 4) : Shd l n t := by
  rcases h with ⟨_, h2⟩ | ⟨_, _, h2⟩ | ⟨h1, h3, _, _⟩ | ⟨h1, h3, _, _⟩
  · omega
  · omega
  · exact ⟨h1, h3⟩
  · exact ⟨h1, h3⟩
theorem Shd.she {l : List (Int × Int)} {n : Nat} {t r : Int} (h : Shd l n t) (k : She l n t r) : r = 0 ∨ r = 4 := by
  rcases k with ⟨k1, _⟩ | ⟨_, k3, _⟩ | ⟨_, _, _, k2⟩ | ⟨_, _, _, k2⟩
  · have := h.1; omega
  · exact absurd h.2 k3
  · exact Or.inr k2
  · exact Or.inl k2

/-- A polynomial of t + 1 numbers that has all shares but e. -/
def Few (l : List (Int × Int)) (n : Nat) (t e : Int) (p : List Int) : Prop := (p.length : Int) ≤ t + 1 ∧ ((bdl l p n).length : Int) ≤ e
/-- What Decode tells. -/
def Dcd (l : List (Int × Int)) (n : Nat) (t e : Int) (P B : List Int) (r : Int) : Prop :=
  ((She l n t r ∧ r ≠ 0 ∧ r ≠ 4) ∧ P = [] ∧ B = []) ∨
  (Shd l n t ∧ (e < 0 ∨ 4 < e) ∧ P = [] ∧ B = [] ∧ r = 1) ∨
  (Shd l n t ∧ (0 ≤ e ∧ e ≤ 4) ∧ (n : Int) < t + 1 + 2 * e ∧ P = [] ∧ B = [] ∧ r = 4) ∨
  (Shd l n t ∧ (0 ≤ e ∧ e ≤ 4) ∧ t + 1 + 2 * e ≤ (n : Int) ∧ (∃ p, Few l n t e p ∧ P = pdn p (t + 1).toNat ∧ OuI (bdl l p n) B (bdl l p n).length) ∧ r = 0) ∨
  (Shd l n t ∧ (0 ≤ e ∧ e ≤ 4) ∧ t + 1 + 2 * e ≤ (n : Int) ∧ (∀ p, ¬ Few l n t e p) ∧ P = [] ∧ B = [] ∧ r = 6)

theorem few_one {l : List (Int × Int)} {n : Nat} {t e : Int} {p q : List Int} (hl : l.length = n) (hs : Shd l n t) (he : 0 ≤ e) (hn : t + 1 + 2 * e ≤ (n : Int)) (hp : Few l n t e p) (hq : Few l n t e q) : nrm p = nrm q := by
  obtain ⟨k, rfl⟩ : ∃ k : Nat, t = k := ⟨t.toNat, by have := hs.1; omega⟩
  obtain ⟨d, rfl⟩ : ∃ d : Nat, e = d := ⟨e.toNat, by omega⟩
  have h1 := hp.1
  have h2 := hq.1
  have h3 := hp.2
  have h4 := hq.2
  exact dec_one (t := k) (e := d) hl hs.2 (by omega) (by omega) (by omega) (by omega) (by omega)

theorem Dcd.one {l : List (Int × Int)} {n : Nat} {t e : Int} {P B Q C : List Int} {r s : Int} (hl : l.length = n) (h : Dcd l n t e P B r) (k : Dcd l n t e Q C s) : P = Q ∧ B = C ∧ r = s := by
  have no : ∀ {x : Int}, Shd l n t → She l n t x → x ≠ 0 → x ≠ 4 → False := fun hs hx h0 h4 => by
    rcases hs.she hx with e | e
    · exact h0 e
    · exact h4 e
  rcases h with ⟨⟨h1, h2, h3⟩, rfl, rfl⟩ | ⟨h1, h2, rfl, rfl, rfl⟩ | ⟨h1, h2, h3, rfl, rfl, rfl⟩ | ⟨h1, h2, h3, ⟨p, p1, rfl, p2⟩, rfl⟩ | ⟨h1, h2, h3, h4, rfl, rfl, rfl⟩ <;>
    rcases k with ⟨⟨k1, k2, k3⟩, rfl, rfl⟩ | ⟨k1, k2, rfl, rfl, rfl⟩ | ⟨k1, k2, k3, rfl, rfl, rfl⟩ | ⟨k1, k2, k3, ⟨q, q1, rfl, q2⟩, rfl⟩ | ⟨k1, k2, k3, k4, rfl, rfl, rfl⟩
  all_goals first
    | exact ⟨rfl, rfl, rfl⟩
    | exact ⟨rfl, rfl, h1.one k1⟩
    | exact (no k1 h1 h2 h3).elim
    | exact (no h1 k1 k2 k3).elim
    | (exfalso; omega)
    | exact absurd p1 (k4 p)
    | exact absurd q1 (h4 q)
    | skip
  have hnr := few_one hl h1 h2.1 h3 p1 q1
  have hbd : bdl l p n = bdl l q n := by rw [← hl]; exact bdl_same hnr l
  refine ⟨pdn_same hnr _, srt_one p2 q2 (by rw [hbd]) ?_ ?_, rfl⟩
  · exact p2.perm.length_eq
  · exact q2.perm.length_eq

/-- As many wrong ones as there may be. -/
def mayb (n : Nat) (t : Int) : Int := min 4 (((n : Int) - t - 1) / 2)
/-- What Open tells. -/
def Rob (l : List (Int × Int)) (n : Nat) (t x : Int) (B : List Int) (r : Int) : Prop :=
  (She l n t r ∧ r ≠ 0 ∧ x = 0 ∧ B = []) ∨ (She l n t 0 ∧ ∃ P C s, Dcd l n t (mayb n t) P C s ∧ ((s ≠ 0 ∧ x = 0 ∧ B = [] ∧ r = s) ∨ (s = 0 ∧ x = P.getD 0 0 ∧ B = C ∧ r = 0)))
theorem Rob.one {l : List (Int × Int)} {n : Nat} {t x y : Int} {B C : List Int} {r s : Int} (hl : l.length = n) (h : Rob l n t x B r) (k : Rob l n t y C s) : x = y ∧ B = C ∧ r = s := by
  rcases h with ⟨h1, h2, rfl, rfl⟩ | ⟨h1, P, D, u, h2, h3⟩ <;> rcases k with ⟨k1, k2, rfl, rfl⟩ | ⟨k1, Q, E, v, k2, k3⟩
  · exact ⟨rfl, rfl, h1.one k1⟩
  · exact absurd (h1.one k1) h2
  · exact absurd (k1.one h1) k2
  · obtain ⟨rfl, rfl, rfl⟩ := h2.one hl k2
    rcases h3 with ⟨a1, rfl, rfl, rfl⟩ | ⟨a1, rfl, rfl, rfl⟩ <;> rcases k3 with ⟨b1, rfl, rfl, rfl⟩ | ⟨b1, rfl, rfl, rfl⟩
    · exact ⟨rfl, rfl, rfl⟩
    · exact absurd b1 a1
    · exact absurd a1 b1
    · exact ⟨rfl, rfl, rfl⟩

/-- If there is such a polynomial, a choice of t + 1 shares that it has finds it. -/
theorem cnt_good (l : List (Int × Int)) (p : List Int) : ∀ n, cnt (fun i => !badb p (l.getD i (0, 0))) n + (bdl l p n).length = n
  | 0 => rfl
  | n + 1 => by
    have ih := cnt_good l p n
    show cnt (fun i => !badb p (l.getD i (0, 0))) n + (if (!badb p (l.getD n (0, 0))) = true then 1 else 0) + (bdl l p (n + 1)).length = n + 1
    by_cases h : nm (ev p (l.getD n (0, 0)).1) = nm (l.getD n (0, 0)).2
    · have hb : badb p (l.getD n (0, 0)) = false := by unfold badb; rw [decide_eq_true h]; rfl
      rw [bdl_ok h, hb, Bool.not_false, if_pos rfl]
      omega
    · have hb : badb p (l.getD n (0, 0)) = true := by unfold badb; rw [decide_eq_false h]; rfl
      rw [bdl_bad h, hb, Bool.not_true, if_neg (by decide), List.length_append, List.length_singleton]
      omega
theorem slt_mem {l : List (Int × Int)} {s : Nat} : ∀ {k : Nat} {x : Int × Int}, x ∈ slt l s k → ∃ i, i < k ∧ s / 2 ^ i % 2 = 1 ∧ x = l.getD i (0, 0)
  | 0, x, h => by simp [slt] at h
  | k + 1, x, h => by
    rw [slt] at h
    split at h
    · rename_i hb
      rcases List.mem_append.1 h with h | h
      · obtain ⟨i, h1, h2, h3⟩ := slt_mem h
        exact ⟨i, by omega, h2, h3⟩
      · exact ⟨k, by omega, hb, List.mem_singleton.1 h⟩
    · obtain ⟨i, h1, h2, h3⟩ := slt_mem h
      exact ⟨i, by omega, h2, h3⟩
theorem choice_finds {l : List (Int × Int)} {n m : Nat} {p : List Int} (hm : m + (bdl l p n).length ≤ n) : ∃ s, s < 2 ^ n ∧ (slt l s n).length = m ∧ ∀ x ∈ slt l s n, nm (ev p x.1) = nm x.2 := by
  have hc := cnt_good l p n
  obtain ⟨s, h1, h2, h3⟩ := pick_bits l (fun i => !badb p (l.getD i (0, 0))) n m (by omega)
  refine ⟨s, h1, h2, fun x hx => ?_⟩
  obtain ⟨i, hi, hb, rfl⟩ := slt_mem hx
  have := h3 i hi hb
  simpa [badb] using this
end Go.Proofs.Ytnofegdlainjaad
