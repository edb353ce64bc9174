/- What Decode and Open of chapter 5 tell: plain facts. · croftref.Decode: plain facts: each choice of t + 1 shares. · croftref.Join: plain facts. -/
import Derived.Test.YtljlioglpaogdabToBadM
import Derived.Test.YtljlioglpaogdabSortM
namespace Go.Proofs.Ytljlioglpaogdab
set_option linter.unusedVariables false
set_option maxRecDepth 100000
set_option maxHeartbeats 8000000
section
open Crm
/-- The m numbers of a polynomial, noughts at the end too. -/
def pdn (p : List Int) (m : Nat) : List Int := (List.range m).map fun i => nm (p.getD i 0)
theorem pdn_len (p : List Int) (m : Nat) : (pdn p m).length = m := by simp [pdn]
theorem pdn_getD (p : List Int) {m i : Nat} (h : i < m) : (pdn p m).getD i 0 = nm (p.getD i 0) := by simp [pdn, h]
theorem pdn_same {p q : List Int} (h : nrm p = nrm q) (m : Nat) : pdn p m = pdn q m := by
  refine list_ext (by rw [pdn_len, pdn_len]) fun i hi => ?_
  rw [pdn_len] at hi
  rw [pdn_getD p hi, pdn_getD q hi, ← nrm_getD, ← nrm_getD, h]
theorem pdn_bd (p : List Int) (m : Nat) : ∀ x ∈ pdn p m, 0 ≤ x ∧ x ≤ 2147483646 := by
  intro x hx
  obtain ⟨i, _, rfl⟩ := List.mem_map.1 hx
  exact nm_bd _

/-- Shares that are good enough for Decode: none of them twice; there may be too few. -/
def Shd (l : List (Int × Int)) (n : Nat) (t : Int) : Prop := (0 ≤ t ∧ t ≤ 4) ∧ dis (fa l) n
theorem Shd.she {l : List (Int × Int)} {n : Nat} {t r : Int} (h : Shd l n t) (k : She l n t r) : r = 0 ∨ r = 4 := by
  rcases k with ⟨k1, _⟩ | ⟨_, k3, _⟩ | ⟨_, _, _, k2⟩ | ⟨_, _, _, k2⟩
  · have := h.1; omega
  · exact absurd h.2 k3
  · exact Or.inr k2
  · exact Or.inl k2

/-- A polynomial of t + 1 numbers that has all shares but e. -/
def Few (l : List (Int × Int)) (n : Nat) (t e : Int) (p : List Int) : Prop := (p.length : Int) ≤ t + 1 ∧ ((bdl l p n).length : Int) ≤ e
/-- What Decode tells. -/
def Dcd (l : List (Int × Int)) (n : Nat) (t e : Int) (P B : List Int) (r : Int) : Prop :=
  ((She l n t r ∧ r ≠ 0 ∧ r ≠ 4) ∧ P = [] ∧ B = []) ∨
  (Shd l n t ∧ (e < 0 ∨ 4 < e) ∧ P = [] ∧ B = [] ∧ r = 1) ∨
  (Shd l n t ∧ (0 ≤ e ∧ e ≤ 4) ∧ (n : Int) < t + 1 + 2 * e ∧ P = [] ∧ B = [] ∧ r = 4) ∨
  (Shd l n t ∧ (0 ≤ e ∧ e ≤ 4) ∧ t + 1 + 2 * e ≤ (n : Int) ∧ (∃ p, Few l n t e p ∧ P = pdn p (t + 1).toNat ∧ OuI (bdl l p n) B (bdl l p n).length) ∧ r = 0) ∨
  (Shd l n t ∧ (0 ≤ e ∧ e ≤ 4) ∧ t + 1 + 2 * e ≤ (n : Int) ∧ (∀ p, ¬ Few l n t e p) ∧ P = [] ∧ B = [] ∧ r = 6)

theorem few_one {l : List (Int × Int)} {n : Nat} {t e : Int} {p q : List Int} (hl : l.length = n) (hs : Shd l n t) (he : 0 ≤ e) (hn : t + 1 + 2 * e ≤ (n : Int)) (hp : Few l n t e p) (hq : Few l n t e q) : nrm p = nrm q := by
  obtain ⟨k, rfl⟩ : ∃ k : Nat, t = k := ⟨t.toNat, by have := hs.1; omega⟩
  obtain ⟨d, rfl⟩ : ∃ d : Nat, e = d := ⟨e.toNat, by omega⟩
  have h1 := hp.1
  have h2 := hq.1
  have h3 := hp.2
  have h4 := hq.2
  exact dec_one (t := k) (e := d) hl hs.2 (by omega) (by omega) (by omega) (by omega) (by omega)

theorem Dcd.one {l : List (Int × Int)} {n : Nat} {t e : Int} {P B Q C : List Int} {r s : Int} (hl : l.length = n) (h : Dcd l n t e P B r) (k : Dcd l n t e Q C s) : P = Q ∧ B = C ∧ r = s := by
  have no : ∀ {x : Int}, Shd l n t → She l n t x → x ≠ 0 → x ≠ 4 → False := fun hs hx h0 h4 => by
    rcases hs.she hx with e | e
    · exact h0 e
    · exact h4 e
  rcases h with ⟨⟨h1, h2, h3⟩, rfl, rfl⟩ | ⟨h1, h2, rfl, rfl, rfl⟩ | ⟨h1, h2, h3, rfl, rfl, rfl⟩ | ⟨h1, h2, h3, ⟨p, p1, rfl, p2⟩, rfl⟩ | ⟨h1, h2, h3, h4, rfl, rfl, rfl⟩ <;>
    rcases k with ⟨⟨k1, k2, k3⟩, rfl, rfl⟩ | ⟨k1, k2, rfl, rfl, rfl⟩ | ⟨k1, k2, k3, rfl, rfl, rfl⟩ | ⟨k1, k2, k3, ⟨q, q1, rfl, q2⟩, rfl⟩ | ⟨k1, k2, k3, k4, rfl, rfl, rfl⟩
  all_goals first
    | exact ⟨rfl, rfl, rfl⟩
    | exact ⟨rfl, rfl, h1.one k1⟩
    | exact (no k1 h1 h2 h3).elim
    | exact (no h1 k1 k2 k3).elim
    | (exfalso; omega)
    | exact absurd p1 (k4 p)
    | exact absurd q1 (h4 q)
    | skip
  have hnr := few_one hl h1 h2.1 h3 p1 q1
  have hbd : bdl l p n = bdl l q n := by rw [← hl]; exact bdl_same hnr l
  refine ⟨pdn_same hnr _, srt_one p2 q2 (by rw [hbd]) ?_ ?_, rfl⟩
  · exact p2.perm.length_eq
  · exact q2.perm.length_eq

/-- As many wrong ones as there may be. -/
def mayb (n : Nat) (t : Int) : Int := min 4 (((n : Int) - t - 1) / 2)
/-- What Open tells. -/
def Rob (l : List (Int × Int)) (n : Nat) (t x : Int) (B : List Int) (r : Int) : Prop :=
  (She l n t r ∧ r ≠ 0 ∧ x = 0 ∧ B = []) ∨ (She l n t 0 ∧ ∃ P C s, Dcd l n t (mayb n t) P C s ∧ ((s ≠ 0 ∧ x = 0 ∧ B = [] ∧ r = s) ∨ (s = 0 ∧ x = P.getD 0 0 ∧ B = C ∧ r = 0)))
theorem Rob.one {l : List (Int × Int)} {n : Nat} {t x y : Int} {B C : List Int} {r s : Int} (hl : l.length = n) (h : Rob l n t x B r) (k : Rob l n t y C s) : x = y ∧ B = C ∧ r = s := by
  rcases h with ⟨h1, h2, rfl, rfl⟩ | ⟨h1, P, D, u, h2, h3⟩ <;> rcases k with ⟨k1, k2, rfl, rfl⟩ | ⟨k1, Q, E, v, k2, k3⟩
  · exact ⟨rfl, rfl, h1.one k1⟩
  · exact absurd (h1.one k1) h2
  · exact absurd (k1.one h1) k2
  · obtain ⟨rfl, rfl, rfl⟩ := h2.one hl k2
    rcases h3 with ⟨a1, rfl, rfl, rfl⟩ | ⟨a1, rfl, rfl, rfl⟩ <;> rcases k3 with ⟨b1, rfl, rfl, rfl⟩ | ⟨b1, rfl, rfl, rfl⟩
    · exact ⟨rfl, rfl, rfl⟩
    · exact absurd b1 a1
    · exact absurd a1 b1
    · exact ⟨rfl, rfl, rfl⟩
/-- A polynomial with noughts behind it. -/
def pad0 (q : List Int) (j : Nat) : List Int := q ++ List.replicate (j - q.length) 0
theorem pad0_snoc {q : List Int} {j : Nat} (h : q.length ≤ j) : pad0 q j ++ [0] = pad0 q (j + 1) := by
  unfold pad0
  rw [show j + 1 - q.length = (j - q.length) + 1 by omega, List.replicate_succ', List.append_assoc]
theorem pad0_self (q : List Int) : pad0 q q.length = q := by simp [pad0]
theorem pad0_pdn {q : List Int} {m : Nat} (hb : ∀ x ∈ q, 0 ≤ x ∧ x ≤ 2147483646) (h : q.length ≤ m) : pad0 q m = pdn q m := by
  refine list_ext (by rw [pdn_len]; simp [pad0]; omega) fun i hi => ?_
  have hi2 : i < m := by simp [pad0] at hi; omega
  have hb2 := getD_bd' hb i
  rw [pdn_getD q hi2, nm_small hb2.1 hb2.2]
  unfold pad0
  by_cases hq : i < q.length
  · simp [List.getElem?_append_left hq]
  · rw [getD_big (show q.length ≤ i by omega)]
    have : (q ++ List.replicate (m - q.length) (0 : Int)).getD i 0 = (List.replicate (m - q.length) (0 : Int)).getD (i - q.length) 0 := by simp [List.getElem?_append_right (show q.length ≤ i by omega)]
    rw [this, zeros_getD]
/-- Number j of each row, as shares. -/
def colS (l : List (Int × List Int)) (j n : Nat) : List (Int × Int) := (List.range n).map fun r => (ta l r, (tc l r).getD j 0)
theorem colS_len (l : List (Int × List Int)) (j n : Nat) : (colS l j n).length = n := by simp [colS]
theorem colS_getD (l : List (Int × List Int)) (j : Nat) {n r : Nat} (h : r < n) : (colS l j n).getD r (0, 0) = (ta l r, (tc l r).getD j 0) := by simp [colS, h]
theorem colS_snoc (l : List (Int × List Int)) (j n : Nat) {x y : Int} (hx : ta l n = x) (hy : (tc l n).getD j 0 = y) : colS l j n ++ [(x, y)] = colS l j (n + 1) := by rw [← hx, ← hy]; simp [colS, List.range_succ]
theorem colS_dis {l : List (Int × List Int)} {n : Nat} (h : dis (ta l) n) (j : Nat) : dis (fa (colS l j n)) n := fun i hi => by
  have e : ∀ q, q < n → fa (colS l j n) q = ta l q := fun q hq => by unfold fa; rw [colS_getD l j hq]
  rw [e i hi]
  exact ⟨(h i hi).1, fun q hq => by rw [e q (by omega)]; exact (h i hi).2 q hq⟩
theorem colS_hs {l : List (Int × List Int)} {j n m : Nat} {p : List Int} (hm : m ≤ n) : Hs (colS l j n) m p ↔ ∀ r, r < m → nm (ev p (ta l r)) = nm ((tc l r).getD j 0) := by
  constructor
  · intro h r hr
    have := h r hr
    rwa [colS_getD l j (by omega)] at this
  · intro h r hr
    rw [colS_getD l j (by omega)]
    exact h r hr
/-- A column that no polynomial of t + 1 numbers has. -/
theorem col_no {l : List (Int × List Int)} {n t j : Nat} {p : List Int} (hd : dis (ta l) n) (hn : t < n) (hj : j ≤ t) (hp : p.length ≤ t + 1) (hH : Hs (colS l j n) (t + 1) p) (hb : (bdl (colS l j n) p n).length ≠ 0) : ∀ G, ¬ TwF l n t G := fun G hG => hb <| by
  rw [bdl_nil]
  have h1 : Hs (colS l j n) n (G j) := (colS_hs (Nat.le_refl _)).2 (hG.val j hj)
  have h2 := hs_one (l := colS l j n) (n := t + 1) (dis_okk (dis_le (colS_dis hd j) (by omega))) hH (fun r hr => h1 r (by omega)) hp (hG.le j hj)
  intro r hr
  rw [ev_one h2]
  exact h1 r hr
/-- The first k columns. -/
structure Cls (l : List (Int × List Int)) (n t k : Nat) (F : List (List Int)) : Prop where
  len : F.length = k
  wid : ∀ q, q < k → (F.getD q []).length = t + 1
  bd : ∀ q, q < k → ∀ x ∈ F.getD q [], 0 ≤ x ∧ x ≤ 2147483646
  val : ∀ q, q < k → ∀ r, r < n → nm (ev (F.getD q []) (ta l r)) = nm ((tc l r).getD q 0)
theorem cls_nil (l : List (Int × List Int)) (n t : Nat) : Cls l n t 0 [] := ⟨rfl, fun q hq => by omega, fun q hq => by omega, fun q hq => by omega⟩
theorem cls_add {l : List (Int × List Int)} {n t k : Nat} {F : List (List Int)} {p : List Int} (h : Cls l n t k F) (hp : p.length ≤ t + 1) (hb : (bdl (colS l k n) p n).length = 0) : Cls l n t (k + 1) (F ++ [pdn p (t + 1)]) := by
  have hl := h.len
  have g1 : ∀ q, q < k → (F ++ [pdn p (t + 1)]).getD q [] = F.getD q [] := fun q hq => by simp [List.getElem?_append_left (show q < F.length by omega)]
  have g2 : (F ++ [pdn p (t + 1)]).getD k [] = pdn p (t + 1) := by rw [← hl]; simp
  have hH := (colS_hs (Nat.le_refl _)).1 ((bdl_nil _ _ _).1 hb)
  refine ⟨by simp [hl], fun q hq => ?_, fun q hq => ?_, fun q hq r hr => ?_⟩
  · by_cases e : q = k
    · rw [e, g2, pdn_len]
    · rw [g1 q (by omega)]; exact h.wid q (by omega)
  · by_cases e : q = k
    · rw [e, g2]; exact pdn_bd _ _
    · rw [g1 q (by omega)]; exact h.bd q (by omega)
  · by_cases e : q = k
    · rw [e, g2, ← hH r hr]
      refine ev_congr _ _ _ fun i => ?_
      by_cases hi : i < t + 1
      · rw [pdn_getD p hi, nm_nm]
      · rw [getD_big (by rw [pdn_len]; omega), getD_big (show p.length ≤ i by omega)]
    · rw [g1 q (by omega)]; exact h.val q (by omega) r hr
/-- Column i's number j. -/
def cn (F : List (List Int)) (i j : Nat) : Int := (F.getD i []).getD j 0
theorem cls_no {l : List (Int × List Int)} {n t i j : Nat} {F : List (List Int)} (hd : dis (ta l) n) (hn : t < n) (h : Cls l n t (t + 1) F) (hi : i ≤ t) (hj : j ≤ t) (hne : cn F i j ≠ cn F j i) : ∀ G, ¬ TwF l n t G := fun G hG => hne <| by
  have e : ∀ a b, a ≤ t → b ≤ t → cn F a b = nm ((G a).getD b 0) := fun a b ha hb => by
    have h1 := col_one hd hn (by rw [h.wid a (by omega)]; exact Nat.le_refl _) (hG.le a ha) (fun r hr => by rw [h.val a (by omega) r hr, hG.val a ha r hr])
    have h2 := getD_bd' (h.bd a (by omega)) b
    unfold cn
    rw [← nm_small h2.1 h2.2, ← nrm_getD, h1, nrm_getD]
  rw [e i j hi hj, e j i hj hi]
  exact hG.sym i j hi hj
theorem cls_yes {l : List (Int × List Int)} {n t : Nat} {F : List (List Int)} (h : Cls l n t (t + 1) F) (hs : ∀ i j, i ≤ t → j < i → cn F i j = cn F j i) : TwF l n t (fun j => F.getD j []) ∧ cn F 0 0 = nm ((F.getD 0 []).getD 0 0) := by
  refine ⟨⟨fun j hj => by rw [h.wid j (by omega)]; exact Nat.le_refl _, fun i j hi hj => ?_, fun j hj r hr => h.val j (by omega) r hr⟩, ?_⟩
  · rcases Nat.lt_trichotomy i j with h1 | h1 | h1
    · have := hs j i hj h1
      unfold cn at this
      rw [this]
    · rw [h1]
    · have := hs i j hi h1
      unfold cn at this
      rw [this]
  · have h2 := getD_bd' (h.bd 0 (by omega)) 0
    unfold cn
    rw [nm_small h2.1 h2.2]
end
end Go.Proofs.Ytljlioglpaogdab
