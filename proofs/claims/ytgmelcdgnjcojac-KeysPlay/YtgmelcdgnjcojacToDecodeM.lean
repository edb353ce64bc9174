/- Who is wrong: plain facts. · Ints in order: INSERTION. Plain. · What Decode and Open of chapter 5 tell: plain facts. -/
import Derived.Test.YtgmelcdgnjcojacToAddC
import Derived.Test.YtgmelcdgnjcojacToShares
namespace Go.Proofs.Ytgmelcdgnjcojac
open Crm

/-- Who of the first k has another number than p tells. -/
def bdl (l : List (Int × Int)) (p : List Int) : Nat → List Int
  | 0 => []
  | k + 1 => if nm (ev p (l.getD k (0, 0)).1) = nm (l.getD k (0, 0)).2 then bdl l p k else bdl l p k ++ [(l.getD k (0, 0)).1]
theorem bdl_ok {l : List (Int × Int)} {p : List Int} {k : Nat} (h : nm (ev p (l.getD k (0, 0)).1) = nm (l.getD k (0, 0)).2) : bdl l p (k + 1) = bdl l p k := by rw [bdl, if_pos h]
theorem bdl_bad {l : List (Int × Int)} {p : List Int} {k : Nat} (h : ¬ nm (ev p (l.getD k (0, 0)).1) = nm (l.getD k (0, 0)).2) : bdl l p (k + 1) = bdl l p k ++ [(l.getD k (0, 0)).1] := by rw [bdl, if_neg h]
theorem bdl_le (l : List (Int × Int)) (p : List Int) : ∀ k, (bdl l p k).length ≤ k
  | 0 => by simp [bdl]
  | k + 1 => by
    have := bdl_le l p k
    rw [bdl]; split
    · omega
    · simp; omega
theorem bdl_nil (l : List (Int × Int)) (p : List Int) : ∀ k, (bdl l p k).length = 0 ↔ Hs l k p
  | 0 => ⟨fun _ j hj => by omega, fun _ => rfl⟩
  | k + 1 => by
    have ih := bdl_nil l p k
    by_cases h : nm (ev p (l.getD k (0, 0)).1) = nm (l.getD k (0, 0)).2
    · rw [bdl_ok h, ih]
      constructor
      · intro g j hj
        by_cases e : j = k
        · subst e; exact h
        · exact g j (by omega)
      · intro g j hj; exact g j (by omega)
    · rw [bdl_bad h]
      constructor
      · intro g; simp at g
      · intro g; exact absurd (g k (by omega)) h

/-- As a filter. -/
def badb (p : List Int) (q : Int × Int) : Bool := !decide (nm (ev p q.1) = nm q.2)
theorem bdl_take (l : List (Int × Int)) (p : List Int) : ∀ k, k ≤ l.length → bdl l p k = ((l.take k).filter (badb p)).map Prod.fst
  | 0, _ => by simp [bdl]
  | k + 1, h => by
    have ih := bdl_take l p k (by omega)
    have e : l.getD k (0, 0) = l[k]'(by omega) := by simp [List.getElem?_eq_getElem (show k < l.length by omega)]
    rw [List.take_succ_eq_append_getElem (show k < l.length by omega), List.filter_append, List.map_append, ← ih]
    by_cases hb : nm (ev p (l.getD k (0, 0)).1) = nm (l.getD k (0, 0)).2
    · rw [bdl_ok hb]
      rw [e] at hb
      simp [badb, hb]
    · rw [bdl_bad hb, e]
      rw [e] at hb
      simp [badb, hb]
theorem bdl_all (l : List (Int × Int)) (p : List Int) : bdl l p l.length = (l.filter (badb p)).map Prod.fst := by
  have := bdl_take l p l.length (Nat.le_refl _)
  rwa [List.take_length] at this
/-- The order of the shares is all one. -/
theorem bdl_perm {l k : List (Int × Int)} (h : l.Perm k) (p : List Int) : (bdl l p l.length).Perm (bdl k p k.length) := by
  rw [bdl_all, bdl_all]
  exact (h.filter _).map _
theorem badb_same {p q : List Int} (h : nrm p = nrm q) (x : Int × Int) : badb p x = badb q x := by
  unfold badb
  rw [ev_one h]
theorem bdl_same {p q : List Int} (h : nrm p = nrm q) (l : List (Int × Int)) : bdl l p l.length = bdl l q l.length := by
  rw [bdl_all, bdl_all]
  congr 1
  exact List.filter_congr fun x _ => badb_same h x

/-- Those that both polynomials have. -/
def both (l : List (Int × Int)) (p q : List Int) : List (Int × Int) := l.filter fun x => !badb p x && !badb q x
theorem both_len (l : List (Int × Int)) (p q : List Int) : l.length ≤ (both l p q).length + (l.filter (badb p)).length + (l.filter (badb q)).length := by
  unfold both
  induction l with
  | nil => simp
  | cons a l ih =>
    cases h1 : badb p a <;> cases h2 : badb q a <;> simp [h1, h2] <;> omega
theorem both_pair {l : List (Int × Int)} {n : Nat} (hl : l.length = n) (hd : dis (fa l) n) (p q : List Int) : (ats (both l p q)).Pairwise (fun a b => nm (a - b) ≠ 0) := by
  have h1 := ats_pair hl (dis_okk hd)
  unfold ats at h1 ⊢
  rw [List.pairwise_map] at h1 ⊢
  exact h1.filter _
/-- Two that have all shares but a few are one. -/
theorem dec_one {l : List (Int × Int)} {n t e : Nat} {p q : List Int} (hl : l.length = n) (hd : dis (fa l) n) (hn : t + 1 + 2 * e ≤ n) (hp : p.length ≤ t + 1) (hq : q.length ≤ t + 1) (h1 : (bdl l p n).length ≤ e) (h2 : (bdl l q n).length ≤ e) : nrm p = nrm q := by
  have hb := both_len l p q
  rw [← hl, bdl_all, List.length_map] at h1 h2
  have ha := ats_len (both l p q)
  refine same_poly (both_pair hl hd p q) (fun c hc => ?_) (by omega) (by omega)
  obtain ⟨x, hx, rfl⟩ := List.mem_map.1 hc
  unfold both at hx
  have hx2 := (List.mem_filter.1 hx).2
  simp only [Bool.and_eq_true, Bool.not_eq_true', badb, Bool.not_eq_false', decide_eq_true_eq] at hx2
  rw [hx2.1, hx2.2]

/-- A choice of shares, bit by bit; and the others. -/
def slt (l : List (Int × Int)) (s : Nat) : Nat → List (Int × Int)
  | 0 => []
  | k + 1 => if s / 2 ^ k % 2 = 1 then slt l s k ++ [l.getD k (0, 0)] else slt l s k
def ult (l : List (Int × Int)) (s : Nat) : Nat → List (Int × Int)
  | 0 => []
  | k + 1 => if s / 2 ^ k % 2 = 1 then ult l s k else ult l s k ++ [l.getD k (0, 0)]
theorem slt_perm (l : List (Int × Int)) (s : Nat) : ∀ k, k ≤ l.length → (slt l s k ++ ult l s k).Perm (l.take k)
  | 0, _ => by simp [slt, ult]
  | k + 1, h => by
    have ih := slt_perm l s k (by omega)
    have e : l.getD k (0, 0) = l[k]'(by omega) := by simp [List.getElem?_eq_getElem (show k < l.length by omega)]
    rw [List.take_succ_eq_append_getElem (show k < l.length by omega), slt, ult, e]
    split
    · rw [List.append_assoc]
      refine (List.Perm.append_left _ (List.perm_append_comm (l₁ := [l[k]]) (l₂ := ult l s k))).trans ?_
      rw [← List.append_assoc]
      exact List.Perm.append_right _ ih
    · rw [← List.append_assoc]
      exact List.Perm.append_right _ ih
/-- How many of the first n a test lets by. -/
def cnt (f : Nat → Bool) : Nat → Nat
  | 0 => 0
  | n + 1 => cnt f n + if f n then 1 else 0
theorem slt_congr (l : List (Int × Int)) {s u : Nat} : ∀ k, (∀ i, i < k → s / 2 ^ i % 2 = u / 2 ^ i % 2) → slt l s k = slt l u k
  | 0, _ => rfl
  | k + 1, h => by rw [slt, slt, h k (by omega), slt_congr l k fun i hi => h i (by omega)]
/-- So many of those that it lets by may be chosen. -/
theorem pick_bits (l : List (Int × Int)) (f : Nat → Bool) : ∀ n m, m ≤ cnt f n → ∃ s, s < 2 ^ n ∧ (slt l s n).length = m ∧ ∀ i, i < n → s / 2 ^ i % 2 = 1 → f i = true
  | 0, m, h => ⟨0, by simp, by simp [cnt] at h; simp [slt, h], fun i hi => by omega⟩
  | n + 1, m, h => by
    have hpow : 2 ^ (n + 1) = 2 ^ n + 2 ^ n := by rw [Nat.pow_succ]; omega
    by_cases hm : m ≤ cnt f n
    · obtain ⟨s, h1, h2, h3⟩ := pick_bits l f n m hm
      have h0 : s / 2 ^ n = 0 := Nat.div_eq_of_lt h1
      refine ⟨s, by omega, by rw [slt, h0, if_neg (by omega)]; exact h2, fun i hi hb => ?_⟩
      by_cases e : i = n
      · subst e; rw [h0] at hb; omega
      · exact h3 i (by omega) hb
    · rw [cnt] at h
      have hf : f n = true := by
        cases hf : f n with
        | true => rfl
        | false => rw [hf] at h; simp at h; omega
      rw [hf, if_pos rfl] at h
      obtain ⟨s, h1, h2, h3⟩ := pick_bits l f n (m - 1) (by omega)
      have hb : ∀ i, i < n → (s + 2 ^ n) / 2 ^ i % 2 = s / 2 ^ i % 2 := fun i hi => by
        have e : 2 ^ n = 2 ^ i * (2 * 2 ^ (n - i - 1)) := by
          rw [← Nat.pow_succ', ← Nat.pow_add]; congr 1; omega
        rw [e, Nat.add_mul_div_left _ _ (Nat.pow_pos (by omega))]
        omega
      have hn : (s + 2 ^ n) / 2 ^ n = 1 := by
        rw [Nat.add_div_right _ (Nat.pow_pos (by omega)), Nat.div_eq_of_lt h1]
      refine ⟨s + 2 ^ n, by omega, ?_, fun i hi hbi => ?_⟩
      · rw [slt, hn, if_pos rfl, slt_congr l n hb]
        simp
        omega
      · by_cases e : i = n
        · subst e; exact hf
        · rw [hb i (by omega)] at hbi
          exact h3 i (by omega) hbi
end Go.Proofs.Ytgmelcdgnjcojac

namespace Go.Proofs.Ytgmelcdgnjcojac
open Crm

/-- Two neighbours change places. -/
def swp (L : List Int) (j : Nat) : List Int := (L.set (j + 1) (L.getD j 0)).set j (L.getD (j + 1) 0)
theorem swp_perm : ∀ (L : List Int) (j : Nat), j + 1 < L.length → (swp L j).Perm L
  | [], j, h => by simp at h
  | [a], j, h => by simp at h
  | a :: b :: l, 0, _ => List.Perm.swap _ _ _
  | a :: b :: l, j + 1, h => (swp_perm (b :: l) j (by simpa using h)).cons a
theorem swp_len (L : List Int) (j : Nat) : (swp L j).length = L.length := by simp [swp]
theorem swp_getD {L : List Int} {j : Nat} (h : j + 1 < L.length) (t : Nat) : (swp L j).getD t 0 = if t = j then L.getD (j + 1) 0 else if t = j + 1 then L.getD j 0 else L.getD t 0 := by
  unfold swp
  rw [getD_set, getD_set, List.length_set]
  by_cases e1 : t = j
  · subst e1; rw [if_pos ⟨rfl, by omega⟩, if_pos rfl]
  · rw [if_neg (fun h => e1 h.1.symm), if_neg e1]
    by_cases e2 : t = j + 1
    · subst e2; rw [if_pos ⟨rfl, h⟩, if_pos rfl]
    · rw [if_neg (fun h => e2 h.1.symm), if_neg e2]
/-- In order but for place j, up to place i. -/
structure InI (L0 L : List Int) (i j : Nat) : Prop where
  perm : L.Perm L0
  srt : ∀ p q, p < q → q ≤ i → q ≠ j → L.getD p 0 ≤ L.getD q 0
structure OuI (L0 L : List Int) (i : Nat) : Prop where
  perm : L.Perm L0
  srt : ∀ p q, p < q → q < i → L.getD p 0 ≤ L.getD q 0
theorem in_start {L0 L : List Int} {i : Nat} (h : OuI L0 L i) : InI L0 L i i := ⟨h.perm, fun p q h1 h2 h3 => h.srt p q h1 (by omega)⟩
theorem in_step {L0 L : List Int} {i j : Nat} (h : InI L0 L i (j + 1)) (hj : j + 1 ≤ i) (hi : i < L.length) (hlt : L.getD (j + 1) 0 < L.getD j 0) : InI L0 (swp L j) i j := by
  refine ⟨(swp_perm L j (by omega)).trans h.perm, fun p q h1 h2 h3 => ?_⟩
  rw [swp_getD (by omega), swp_getD (by omega), if_neg h3]
  have hs := h.srt
  by_cases e : q = j + 1
  · subst e
    rw [if_pos rfl]
    by_cases e2 : p = j
    · subst e2; rw [if_pos rfl]; omega
    · rw [if_neg e2, if_neg (by omega)]
      exact hs p j (by omega) (by omega) (by omega)
  · rw [if_neg e]
    have h4 := hs p q h1 h2 e
    by_cases e2 : p = j
    · subst e2; rw [if_pos rfl]; exact hs (p + 1) q (by omega) h2 e
    · rw [if_neg e2]
      by_cases e3 : p = j + 1
      · subst e3; rw [if_pos rfl]; exact hs j q (by omega) h2 e
      · rw [if_neg e3]; exact h4
theorem in_end0 {L0 L : List Int} {i : Nat} (h : InI L0 L i 0) : OuI L0 L (i + 1) := ⟨h.perm, fun p q h1 h2 => h.srt p q h1 (by omega) (by omega)⟩
theorem in_end {L0 L : List Int} {i j : Nat} (h : InI L0 L i (j + 1)) (hj : j + 1 ≤ i) (hle : L.getD j 0 ≤ L.getD (j + 1) 0) : OuI L0 L (i + 1) := by
  refine ⟨h.perm, fun p q h1 h2 => ?_⟩
  by_cases e : q = j + 1
  · subst e
    by_cases e2 : p = j
    · subst e2; exact hle
    · exact Int.le_trans (h.srt p j (by omega) (by omega) (by omega)) hle
  · exact h.srt p q h1 (by omega) e
theorem OuI.pair {L0 L : List Int} {n : Nat} (h : OuI L0 L n) (hl : L.length = n) : L.Pairwise (· ≤ ·) := by
  rw [List.pairwise_iff_getElem]
  intro i j hi hj hij
  have := h.srt i j hij (by omega)
  simpa [List.getElem?_eq_getElem hi, List.getElem?_eq_getElem hj] using this
/-- There is but one order. -/
theorem srt_one {L0 L1 A B : List Int} {n m : Nat} (h : OuI L0 A n) (k : OuI L1 B m) (hp : L0.Perm L1) (hA : A.length = n) (hB : B.length = m) : A = B :=
  List.Perm.eq_of_pairwise (le := (· ≤ ·)) (fun _ _ _ _ h1 h2 => Int.le_antisymm h1 h2) (h.pair hA) (k.pair hB) ((h.perm.trans hp).trans k.perm.symm)
end Go.Proofs.Ytgmelcdgnjcojac

namespace Go.Proofs.Ytgmelcdgnjcojac
open Crm

/-- The m numbers of a polynomial, noughts at the end too. -/
def pdn (p : List Int) (m : Nat) : List Int := (List.range m).map fun i => nm (p.getD i 0)
theorem pdn_len (p : List Int) (m : Nat) : (pdn p m).length = m := by simp [pdn]
theorem pdn_getD (p : List Int) {m i : Nat} (h : i < m) : (pdn p m).getD i 0 = nm (p.getD i 0) := by simp [pdn, h]
theorem pdn_same {p q : List Int} (h : nrm p = nrm q) (m : Nat) : pdn p m = pdn q m := by
  refine list_ext (by rw [pdn_len, pdn_len]) fun i hi => ?_
  rw [pdn_len] at hi
  rw [pdn_getD p hi, pdn_getD q hi, ← nrm_getD, ← nrm_getD, h]
theorem pdn_bd (p : List Int) (m : Nat) : ∀ x ∈ pdn p m, 0 ≤ x ∧ x ≤ 2147483646 := by
  intro x hx
  obtain ⟨i, _, rfl⟩ := List.mem_map.1 hx
  exact nm_bd _

/-- Shares that are good enough for Decode: none of them twice; there may be too few. -/
def Shd (l : List (Int × Int)) (n : Nat) (t : Int) : Prop := (0 ≤ t ∧ t ≤ 4) ∧ dis (fa l) n
theorem She.shd {l : List (Int × Int)} {n : Nat} {t r : Int} (h : She l n t r) (hr : r = 0 ∨ r = 4) : Shd l n t := by
  rcases h with ⟨_, h2⟩ | ⟨_, _, h2⟩ | ⟨h1, h3, _, _⟩ | ⟨h1, h3, _, _⟩
  · omega
  · omega
  · exact ⟨h1, h3⟩
  · exact ⟨h1, h3⟩
theorem Shd.she {l : List (Int × Int)} {n : Nat} {t r : Int} (h : Shd l n t) (k : She l n t r) : r = 0 ∨ r = 4 := by
  rcases k with ⟨k1, _⟩ | ⟨_, k3, _⟩ | ⟨_, _, _, k2⟩ | ⟨_, _, _, k2⟩
  · have := h.1; omega
  · exact absurd h.2 k3
  · exact Or.inr k2
  · exact Or.inl k2

/-- A polynomial of t + 1 numbers that has all shares but e. -/
def Few (l : List (Int × Int)) (n : Nat) (t e : Int) (p : List Int) : Prop := (p.length : Int) ≤ t + 1 ∧ ((bdl l p n).length : Int) ≤ e
/-- What Decode tells. -/
def Dcd (l : List (Int × Int)) (n : Nat) (t e : Int) (P B : List Int) (r : Int) : Prop :=
  ((She l n t r ∧ r ≠ 0 ∧ r ≠ 4) ∧ P = [] ∧ B = []) ∨
  (Shd l n t ∧ (e < 0 ∨ 4 < e) ∧ P = [] ∧ B = [] ∧ r = 1) ∨
  (Shd l n t ∧ (0 ≤ e ∧ e ≤ 4) ∧ (n : Int) < t + 1 + 2 * e ∧ P = [] ∧ B = [] ∧ r = 4) ∨
  (Shd l n t ∧ (0 ≤ e ∧ e ≤ 4) ∧ t + 1 + 2 * e ≤ (n : Int) ∧ (∃ p, Few l n t e p ∧ P = pdn p (t + 1).toNat ∧ OuI (bdl l p n) B (bdl l p n).length) ∧ r = 0) ∨
  (Shd l n t ∧ (0 ≤ e ∧ e ≤ 4) ∧ t + 1 + 2 * e ≤ (n : Int) ∧ (∀ p, ¬ Few l n t e p) ∧ P = [] ∧ B = [] ∧ r = 6)

theorem few_one {l : List (Int × Int)} {n : Nat} {t e : Int} {p q : List Int} (hl : l.length = n) (hs : Shd l n t) (he : 0 ≤ e) (hn : t + 1 + 2 * e ≤ (n : Int)) (hp : Few l n t e p) (hq : Few l n t e q) : nrm p = nrm q := by
  obtain ⟨k, rfl⟩ : ∃ k : Nat, t = k := ⟨t.toNat, by have := hs.1; omega⟩
  obtain ⟨d, rfl⟩ : ∃ d : Nat, e = d := ⟨e.toNat, by omega⟩
  have h1 := hp.1
  have h2 := hq.1
  have h3 := hp.2
  have h4 := hq.2
  exact dec_one (t := k) (e := d) hl hs.2 (by omega) (by omega) (by omega) (by omega) (by omega)

theorem Dcd.one {l : List (Int × Int)} {n : Nat} {t e : Int} {P B Q C : List Int} {r s : Int} (hl : l.length = n) (h : Dcd l n t e P B r) (k : Dcd l n t e Q C s) : P = Q ∧ B = C ∧ r = s := by
  have no : ∀ {x : Int}, Shd l n t → She l n t x → x ≠ 0 → x ≠ 4 → False := fun hs hx h0 h4 => by
    rcases hs.she hx with e | e
    · exact h0 e
    · exact h4 e
  rcases h with ⟨⟨h1, h2, h3⟩, rfl, rfl⟩ | ⟨h1, h2, rfl, rfl, rfl⟩ | ⟨h1, h2, h3, rfl, rfl, rfl⟩ | ⟨h1, h2, h3, ⟨p, p1, rfl, p2⟩, rfl⟩ | ⟨h1, h2, h3, h4, rfl, rfl, rfl⟩ <;>
    rcases k with ⟨⟨k1, k2, k3⟩, rfl, rfl⟩ | ⟨k1, k2, rfl, rfl, rfl⟩ | ⟨k1, k2, k3, rfl, rfl, rfl⟩ | ⟨k1, k2, k3, ⟨q, q1, rfl, q2⟩, rfl⟩ | ⟨k1, k2, k3, k4, rfl, rfl, rfl⟩
  all_goals first
    | exact ⟨rfl, rfl, rfl⟩
    | exact ⟨rfl, rfl, h1.one k1⟩
    | exact (no k1 h1 h2 h3).elim
    | exact (no h1 k1 k2 k3).elim
    | (exfalso; omega)
    | exact absurd p1 (k4 p)
    | exact absurd q1 (h4 q)
    | skip
  have hnr := few_one hl h1 h2.1 h3 p1 q1
  have hbd : bdl l p n = bdl l q n := by rw [← hl]; exact bdl_same hnr l
  refine ⟨pdn_same hnr _, srt_one p2 q2 (by rw [hbd]) ?_ ?_, rfl⟩
  · exact p2.perm.length_eq
  · exact q2.perm.length_eq

/-- As many wrong ones as there may be. -/
def mayb (n : Nat) (t : Int) : Int := min 4 (((n : Int) - t - 1) / 2)
/-- What Open tells. -/
def Rob (l : List (Int × Int)) (n : Nat) (t x : Int) (B : List Int) (r : Int) : Prop :=
  (She l n t r ∧ r ≠ 0 ∧ x = 0 ∧ B = []) ∨ (She l n t 0 ∧ ∃ P C s, Dcd l n t (mayb n t) P C s ∧ ((s ≠ 0 ∧ x = 0 ∧ B = [] ∧ r = s) ∨ (s = 0 ∧ x = P.getD 0 0 ∧ B = C ∧ r = 0)))
theorem Rob.one {l : List (Int × Int)} {n : Nat} {t x y : Int} {B C : List Int} {r s : Int} (hl : l.length = n) (h : Rob l n t x B r) (k : Rob l n t y C s) : x = y ∧ B = C ∧ r = s := by
  rcases h with ⟨h1, h2, rfl, rfl⟩ | ⟨h1, P, D, u, h2, h3⟩ <;> rcases k with ⟨k1, k2, rfl, rfl⟩ | ⟨k1, Q, E, v, k2, k3⟩
  · exact ⟨rfl, rfl, h1.one k1⟩
  · exact absurd (h1.one k1) h2
  · exact absurd (k1.one h1) k2
  · obtain ⟨rfl, rfl, rfl⟩ := h2.one hl k2
    rcases h3 with ⟨a1, rfl, rfl, rfl⟩ | ⟨a1, rfl, rfl, rfl⟩ <;> rcases k3 with ⟨b1, rfl, rfl, rfl⟩ | ⟨b1, rfl, rfl, rfl⟩
    · exact ⟨rfl, rfl, rfl⟩
    · exact absurd b1 a1
    · exact absurd a1 b1
    · exact ⟨rfl, rfl, rfl⟩

/-- If there is such a polynomial, a choice of t + 1 shares that it has finds it. -/
theorem cnt_good (l : List (Int × Int)) (p : List Int) : ∀ n, cnt (fun i => !badb p (l.getD i (0, 0))) n + (bdl l p n).length = n
  | 0 => rfl
  | n + 1 => by
    have ih := cnt_good l p n
    show cnt (fun i => !badb p (l.getD i (0, 0))) n + (if (!badb p (l.getD n (0, 0))) = true then 1 else 0) + (bdl l p (n + 1)).length = n + 1
    by_cases h : nm (ev p (l.getD n (0, 0)).1) = nm (l.getD n (0, 0)).2
    · have hb : badb p (l.getD n (0, 0)) = false := by unfold badb; rw [decide_eq_true h]; rfl
      rw [bdl_ok h, hb, Bool.not_false, if_pos rfl]
      omega
    · have hb : badb p (l.getD n (0, 0)) = true := by unfold badb; rw [decide_eq_false h]; rfl
      rw [bdl_bad h, hb, Bool.not_true, if_neg (by decide), List.length_append, List.length_singleton]
      omega
theorem slt_mem {l : List (Int × Int)} {s : Nat} : ∀ {k : Nat} {x : Int × Int}, x ∈ slt l s k → ∃ i, i < k ∧ s / 2 ^ i % 2 = 1 ∧ x = l.getD i (0, 0)
  | 0, x, h => by simp [slt] at h
  | k + 1, x, h => by
    rw [slt] at h
    split at h
    · rename_i hb
      rcases List.mem_append.1 h with h | h
      · obtain ⟨i, h1, h2, h3⟩ := slt_mem h
        exact ⟨i, by omega, h2, h3⟩
      · exact ⟨k, by omega, hb, List.mem_singleton.1 h⟩
    · obtain ⟨i, h1, h2, h3⟩ := slt_mem h
      exact ⟨i, by omega, h2, h3⟩
theorem choice_finds {l : List (Int × Int)} {n m : Nat} {p : List Int} (hm : m + (bdl l p n).length ≤ n) : ∃ s, s < 2 ^ n ∧ (slt l s n).length = m ∧ ∀ x ∈ slt l s n, nm (ev p x.1) = nm x.2 := by
  have hc := cnt_good l p n
  obtain ⟨s, h1, h2, h3⟩ := pick_bits l (fun i => !badb p (l.getD i (0, 0))) n m (by omega)
  refine ⟨s, h1, h2, fun x hx => ?_⟩
  obtain ⟨i, hi, hb, rfl⟩ := slt_mem hx
  have := h3 i hi hb
  simpa [badb] using this
end Go.Proofs.Ytgmelcdgnjcojac
