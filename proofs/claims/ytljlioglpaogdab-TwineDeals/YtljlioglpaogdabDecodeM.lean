/- What Decode and Open of chapter 5 tell: plain facts. -/
import Derived.Test.YtljlioglpaogdabToRows2
import Derived.Test.YtljlioglpaogdabSortM
namespace Go.Proofs.Ytljlioglpaogdab
set_option linter.unusedVariables false
set_option maxRecDepth 100000
set_option maxHeartbeats 8000000
section
open Crm
/-- The m numbers of a polynomial, noughts at the end too. -/
def pdn (p : List Int) (m : Nat) : List Int := (List.range m).map fun i => nm (p.getD i 0)
theorem pdn_len (p : List Int) (m : Nat) : (pdn p m).length = m := by simp [pdn]
theorem pdn_getD (p : List Int) {m i : Nat} (h : i < m) : (pdn p m).getD i 0 = nm (p.getD i 0) := by simp [pdn, h]
theorem pdn_same {p q : List Int} (h : nrm p = nrm q) (m : Nat) : pdn p m = pdn q m := by
  refine list_ext (by rw [pdn_len, pdn_len]) fun i hi => ?_
  rw [pdn_len] at hi
  rw [pdn_getD p hi, pdn_getD q hi, ← nrm_getD, ← nrm_getD, h]
/-- Shares that are good enough for Decode: none of them twice; there may be too few. -/
def Shd (l : List (Int × Int)) (n : Nat) (t : Int) : Prop := (0 ≤ t ∧ t ≤ 4) ∧ dis (fa l) n
theorem Shd.she {l : List (Int × Int)} {n : Nat} {t r : Int} (h : Shd l n t) (k : She l n t r) : r = 0 ∨ r = 4 := by
  rcases k with ⟨k1, _⟩ | ⟨_, k3, _⟩ | ⟨_, _, _, k2⟩ | ⟨_, _, _, k2⟩
  · have := h.1; omega
  · exact absurd h.2 k3
  · exact Or.inr k2
  · exact Or.inl k2

/-- A polynomial of t + 1 numbers that has all shares but e. -/
def Few (l : List (Int × Int)) (n : Nat) (t e : Int) (p : List Int) : Prop := (p.length : Int) ≤ t + 1 ∧ ((bdl l p n).length : Int) ≤ e
/-- What Decode tells. -/
def Dcd (l : List (Int × Int)) (n : Nat) (t e : Int) (P B : List Int) (r : Int) : Prop :=
  ((She l n t r ∧ r ≠ 0 ∧ r ≠ 4) ∧ P = [] ∧ B = []) ∨
  (Shd l n t ∧ (e < 0 ∨ 4 < e) ∧ P = [] ∧ B = [] ∧ r = 1) ∨
  (Shd l n t ∧ (0 ≤ e ∧ e ≤ 4) ∧ (n : Int) < t + 1 + 2 * e ∧ P = [] ∧ B = [] ∧ r = 4) ∨
  (Shd l n t ∧ (0 ≤ e ∧ e ≤ 4) ∧ t + 1 + 2 * e ≤ (n : Int) ∧ (∃ p, Few l n t e p ∧ P = pdn p (t + 1).toNat ∧ OuI (bdl l p n) B (bdl l p n).length) ∧ r = 0) ∨
  (Shd l n t ∧ (0 ≤ e ∧ e ≤ 4) ∧ t + 1 + 2 * e ≤ (n : Int) ∧ (∀ p, ¬ Few l n t e p) ∧ P = [] ∧ B = [] ∧ r = 6)

theorem few_one {l : List (Int × Int)} {n : Nat} {t e : Int} {p q : List Int} (hl : l.length = n) (hs : Shd l n t) (he : 0 ≤ e) (hn : t + 1 + 2 * e ≤ (n : Int)) (hp : Few l n t e p) (hq : Few l n t e q) : nrm p = nrm q := by
  obtain ⟨k, rfl⟩ : ∃ k : Nat, t = k := ⟨t.toNat, by have := hs.1; omega⟩
  obtain ⟨d, rfl⟩ : ∃ d : Nat, e = d := ⟨e.toNat, by omega⟩
  have h1 := hp.1
  have h2 := hq.1
  have h3 := hp.2
  have h4 := hq.2
  exact dec_one (t := k) (e := d) hl hs.2 (by omega) (by omega) (by omega) (by omega) (by omega)

theorem Dcd.one {l : List (Int × Int)} {n : Nat} {t e : Int} {P B Q C : List Int} {r s : Int} (hl : l.length = n) (h : Dcd l n t e P B r) (k : Dcd l n t e Q C s) : P = Q ∧ B = C ∧ r = s := by
  have no : ∀ {x : Int}, Shd l n t → She l n t x → x ≠ 0 → x ≠ 4 → False := fun hs hx h0 h4 => by
    rcases hs.she hx with e | e
    · exact h0 e
    · exact h4 e
  rcases h with ⟨⟨h1, h2, h3⟩, rfl, rfl⟩ | ⟨h1, h2, rfl, rfl, rfl⟩ | ⟨h1, h2, h3, rfl, rfl, rfl⟩ | ⟨h1, h2, h3, ⟨p, p1, rfl, p2⟩, rfl⟩ | ⟨h1, h2, h3, h4, rfl, rfl, rfl⟩ <;>
    rcases k with ⟨⟨k1, k2, k3⟩, rfl, rfl⟩ | ⟨k1, k2, rfl, rfl, rfl⟩ | ⟨k1, k2, k3, rfl, rfl, rfl⟩ | ⟨k1, k2, k3, ⟨q, q1, rfl, q2⟩, rfl⟩ | ⟨k1, k2, k3, k4, rfl, rfl, rfl⟩
  all_goals first
    | exact ⟨rfl, rfl, rfl⟩
    | exact ⟨rfl, rfl, h1.one k1⟩
    | exact (no k1 h1 h2 h3).elim
    | exact (no h1 k1 k2 k3).elim
    | (exfalso; omega)
    | exact absurd p1 (k4 p)
    | exact absurd q1 (h4 q)
    | skip
  have hnr := few_one hl h1 h2.1 h3 p1 q1
  have hbd : bdl l p n = bdl l q n := by rw [← hl]; exact bdl_same hnr l
  refine ⟨pdn_same hnr _, srt_one p2 q2 (by rw [hbd]) ?_ ?_, rfl⟩
  · exact p2.perm.length_eq
  · exact q2.perm.length_eq

/-- As many wrong ones as there may be. -/
def mayb (n : Nat) (t : Int) : Int := min 4 (((n : Int) - t - 1) / 2)
/-- What Open tells. -/
def Rob (l : List (Int × Int)) (n : Nat) (t x : Int) (B : List Int) (r : Int) : Prop :=
  (She l n t r ∧ r ≠ 0 ∧ x = 0 ∧ B = []) ∨ (She l n t 0 ∧ ∃ P C s, Dcd l n t (mayb n t) P C s ∧ ((s ≠ 0 ∧ x = 0 ∧ B = [] ∧ r = s) ∨ (s = 0 ∧ x = P.getD 0 0 ∧ B = C ∧ r = 0)))
theorem Rob.one {l : List (Int × Int)} {n : Nat} {t x y : Int} {B C : List Int} {r s : Int} (hl : l.length = n) (h : Rob l n t x B r) (k : Rob l n t y C s) : x = y ∧ B = C ∧ r = s := by
  rcases h with ⟨h1, h2, rfl, rfl⟩ | ⟨h1, P, D, u, h2, h3⟩ <;> rcases k with ⟨k1, k2, rfl, rfl⟩ | ⟨k1, Q, E, v, k2, k3⟩
  · exact ⟨rfl, rfl, h1.one k1⟩
  · exact absurd (h1.one k1) h2
  · exact absurd (k1.one h1) k2
  · obtain ⟨rfl, rfl, rfl⟩ := h2.one hl k2
    rcases h3 with ⟨a1, rfl, rfl, rfl⟩ | ⟨a1, rfl, rfl, rfl⟩ <;> rcases k3 with ⟨b1, rfl, rfl, rfl⟩ | ⟨b1, rfl, rfl, rfl⟩
    · exact ⟨rfl, rfl, rfl⟩
    · exact absurd b1 a1
    · exact absurd a1 b1
    · exact ⟨rfl, rfl, rfl⟩
end
end Go.Proofs.Ytljlioglpaogdab
