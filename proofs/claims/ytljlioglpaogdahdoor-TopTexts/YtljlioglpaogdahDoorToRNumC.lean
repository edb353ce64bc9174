/- NEWTON: a polynomial made share by share. Plain but for the list of shares. · Shares of a secret: plain facts. · poly.addTimes. · poly.trim, poly.normal. · poly.product. · poly.Norm, poly.Mul, poly.Eval. · shamir.Deal. · Package numeral: read, ReadAll. -/
import Derived.Test.YtljlioglpaogdahDoorToWhoseC
import Derived.Test.YtljlioglpaogdahDoorPolyM
import Derived.Test.YtljlioglpaogdahDoorSlice
import Derived.Deep.RegionWith
import Derived.Laws.AppendOwnNone
import Derived.Test.YtljlioglpaogdahDoorToNumbC
namespace Go.Proofs.YtljlioglpaogdahDoor
set_option linter.unusedVariables false
set_option maxRecDepth 100000
set_option maxHeartbeats 8000000
section
open Crm
structure NwI (l : List (Int × Int)) (n k : Nat) (S Z : List Int) : Prop where
  ls : S.length = n
  lz : Z.length = k + 1
  bs : ∀ x ∈ S, 0 ≤ x ∧ x ≤ 2147483646
  bz : ∀ x ∈ Z, 0 ≤ x ∧ x ≤ 2147483646
  s : ∀ j, j < k → nm (ev S (l.getD j (0, 0)).1) = nm (l.getD j (0, 0)).2
  z0 : ∀ j, j < k → nm (ev Z (l.getD j (0, 0)).1) = 0
  z1 : ∀ j, k ≤ j → j < n → nm (ev Z (l.getD j (0, 0)).1) ≠ 0

theorem nw_start (l : List (Int × Int)) (n : Nat) : NwI l n 0 (List.replicate n 0) [1] := by
  refine ⟨by simp, rfl, fun x hx => by rw [List.eq_of_mem_replicate hx]; omega, fun x hx => by rw [List.mem_singleton.1 hx]; omega, fun j hj => by omega, fun j hj => by omega, fun j _ _ => ?_⟩
  rw [ev, ev, Int.mul_zero]
  decide

theorem ats_apart {l : List (Int × Int)} {n i j : Nat} (h : okk l n) (hi : i < n) (hj : j < n) (hij : i ≠ j) : nm ((l.getD i (0, 0)).1 - (l.getD j (0, 0)).1) ≠ 0 := by
  have h1 := (h i hi).1
  have h2 := (h j hj).1
  have h3 : (l.getD i (0, 0)).1 ≠ (l.getD j (0, 0)).1 := by
    rcases Nat.lt_or_ge i j with hlt | hge
    · exact (h j hj).2 i hlt
    · exact fun e => (h i hi).2 j (by omega) e.symm
  unfold nm
  omega

theorem ev_pair (a b x : Int) : ev [a, b] x = a + x * b := by
  rw [ev, ev, ev, Int.mul_zero, Int.add_zero]

theorem nw_step {l : List (Int × Int)} {n k : Nat} {S Z : List Int} (h : NwI l n k S Z) (hk : k < n) (ho : okk l n) {x y t : Int} (hx : (l.getD k (0, 0)).1 = x) (hy : (l.getD k (0, 0)).2 = y)
    (ht : t = nm (nm (y - nm (ev S x)) * iv (nm (ev Z x)))) : NwI l n (k + 1) (addAt S 0 Z t (k + 1)) (cvl Z [nm (-x), 1]) := by
  have hE : nm (ev Z x) ≠ 0 := by rw [← hx]; exact h.z1 k (Nat.le_refl _) hk
  have hadd : ∀ u, nm (ev (addAt S 0 Z t (k + 1)) u) = nm (ev S u + t * ev Z u) := fun u => by rw [← h.lz]; exact addAt_ev S Z t u (by rw [h.lz, h.ls]; omega)
  have hmul : ∀ u, nm (ev (cvl Z [nm (-x), 1]) u) = nm (ev Z u * (u - x)) := fun u => by
    rw [cvl_ev]
    refine nm_mul_congr rfl ?_
    rw [ev_pair, Int.mul_one, nm_addl]
    congr 1; omega
  refine ⟨by rw [addAt_len, h.ls], by rw [cvl_len, h.lz]; simp, addAt_bd' h.bs _ _ _ _, cvl_bd _ _, ?_, ?_, ?_⟩
  · intro j hj
    rw [hadd]
    by_cases e : j = k
    · subst e
      rw [hx, hy]
      have h1 : nm (t * ev Z x) = nm (y - ev S x) := by
        rw [ht, nm_mull, Int.mul_assoc, iv_nm, ← nm_mulr, iv_mul hE, Int.mul_one, nm_nm, nm_subr]
      rw [nm_add_congr (c := ev S x) (d := y - ev S x) rfl h1]
      congr 1; omega
    · rw [nm_add_congr (c := ev S (l.getD j (0, 0)).1) (d := t * 0) rfl (nm_mul_congr rfl (h.z0 j (by omega))), Int.mul_zero, Int.add_zero]
      exact h.s j (by omega)
  · intro j hj
    rw [hmul]
    by_cases e : j = k
    · subst e
      rw [hx, Int.sub_self, Int.mul_zero]; rfl
    · rw [nm_mul_congr (c := 0) (h.z0 j (by omega)) rfl, Int.zero_mul]; rfl
  · intro j h1 h2 e
    rw [hmul] at e
    have h3 := nm_mul_zero e (h.z1 j (by omega) h2)
    rw [← hx] at h3
    exact ats_apart ho h2 hk (by omega) h3

/-- The places, one by one. -/
def ats (l : List (Int × Int)) : List Int := l.map Prod.fst
theorem ats_pair {l : List (Int × Int)} {n : Nat} (hl : l.length = n) (h : okk l n) : (ats l).Pairwise (fun a b => nm (a - b) ≠ 0) := by
  unfold ats
  rw [List.pairwise_map, List.pairwise_iff_getElem]
  intro i j hi hj hij
  have := ats_apart h (show i < n by omega) (show j < n by omega) (by omega)
  simpa [List.getElem?_eq_getElem hi, List.getElem?_eq_getElem hj] using this
theorem ats_mem {l : List (Int × Int)} {c : Int} (h : c ∈ ats l) : ∃ j, j < l.length ∧ (l.getD j (0, 0)).1 = c := by
  obtain ⟨p, hp, rfl⟩ := List.mem_map.1 h
  obtain ⟨j, hj, rfl⟩ := List.getElem_of_mem hp
  exact ⟨j, hj, by simp [List.getElem?_eq_getElem hj]⟩
theorem ats_len (l : List (Int × Int)) : (ats l).length = l.length := by simp [ats]
/-- Through the shares goes one polynomial of no more numbers than they are. -/
theorem one_through {l : List (Int × Int)} {n : Nat} {p q : List Int} (hl : l.length = n) (h : okk l n) (hp : p.length ≤ n) (hq : q.length ≤ n)
    (h1 : ∀ j, j < n → nm (ev p (l.getD j (0, 0)).1) = nm (l.getD j (0, 0)).2) (h2 : ∀ j, j < n → nm (ev q (l.getD j (0, 0)).1) = nm (l.getD j (0, 0)).2) : nrm p = nrm q := by
  refine same_poly (ats_pair hl h) (fun c hc => ?_) (by rw [ats_len]; omega) (by rw [ats_len]; omega)
  obtain ⟨j, hj, rfl⟩ := ats_mem hc
  rw [h1 j (by omega), h2 j (by omega)]
/-- The first k numbers are parties, no two of them one. -/
def dis (f : Nat → Int) (k : Nat) : Prop := ∀ i, i < k → (1 ≤ f i ∧ f i ≤ 9) ∧ ∀ j, j < i → f j ≠ f i
theorem dis_zero (f : Nat → Int) : dis f 0 := fun i hi => by omega
theorem dis_succ {f : Nat → Int} {k : Nat} {x : Int} (h : dis f k) (hx : f k = x) (h1 : 1 ≤ x) (h2 : x ≤ 9) (h3 : ∀ j, j < k → f j ≠ x) : dis f (k + 1) := by
  intro i hi
  by_cases e : i = k
  · subst e; rw [hx]; exact ⟨⟨h1, h2⟩, h3⟩
  · exact h i (by omega)
/-- No more than there are numbers. -/
theorem pigeon : ∀ (m k : Nat) (f : Nat → Int), (∀ i, i < k → 1 ≤ f i ∧ f i ≤ (m : Int)) → (∀ i, i < k → ∀ j, j < i → f j ≠ f i) → k ≤ m
  | 0, k, f, h, _ => by
    cases k with
    | zero => omega
    | succ k => have := h 0 (by omega); omega
  | m + 1, k, f, h, hd => by
    by_cases hz : ∃ i, i < k ∧ f i = (m : Int) + 1
    · obtain ⟨i, hi, he⟩ := hz
      have := pigeon m (k - 1) (fun j => if j < i then f j else f (j + 1)) (fun j hj => by
        split
        · rename_i hji
          have h1 := h j (by omega)
          have h2 := hd i hi j hji
          omega
        · have h1 := h (j + 1) (by omega)
          have h2 := hd (j + 1) (by omega) i (by omega)
          omega) (fun j hj q hq => by
        by_cases h1 : q < i
        · by_cases h2 : j < i
          · rw [if_pos h1, if_pos h2]; exact hd j (by omega) q hq
          · rw [if_pos h1, if_neg h2]; exact hd (j + 1) (by omega) q (by omega)
        · rw [if_neg h1, if_neg (by omega)]; exact hd (j + 1) (by omega) (q + 1) (by omega))
      omega
    · have := pigeon m k f (fun i hi => by
        have h1 := h i hi
        have h2 : f i ≠ (m : Int) + 1 := fun e => hz ⟨i, hi, e⟩
        omega) hd
      omega
theorem dis_nine {f : Nat → Int} {k : Nat} (h : dis f k) : k ≤ 9 := pigeon 9 k f (fun i hi => (h i hi).1) (fun i hi => (h i hi).2)

/-- At which party a share stands. -/
def fa (l : List (Int × Int)) (i : Nat) : Int := (l.getD i (0, 0)).1
theorem dis_okk {l : List (Int × Int)} {k : Nat} (h : dis (fa l) k) : okk l k := fun i hi => ⟨⟨(h i hi).1.1, by have := (h i hi).1.2; unfold fa at this; omega⟩, (h i hi).2⟩

/-- What is wrong with shares. -/
def She (l : List (Int × Int)) (n : Nat) (t r : Int) : Prop :=
  ((t < 0 ∨ 4 < t) ∧ r = 1) ∨ ((0 ≤ t ∧ t ≤ 4) ∧ ¬ dis (fa l) n ∧ r = 5) ∨ ((0 ≤ t ∧ t ≤ 4) ∧ dis (fa l) n ∧ (n : Int) ≤ t ∧ r = 4) ∨ ((0 ≤ t ∧ t ≤ 4) ∧ dis (fa l) n ∧ t < (n : Int) ∧ r = 0)
theorem She.one {l : List (Int × Int)} {n : Nat} {t r s : Int} (h : She l n t r) (k : She l n t s) : r = s := by
  rcases h with ⟨h1, h2⟩ | ⟨h1, h3, h2⟩ | ⟨h1, h3, h4, h2⟩ | ⟨h1, h3, h4, h2⟩ <;> rcases k with ⟨k1, k2⟩ | ⟨k1, k3, k2⟩ | ⟨k1, k3, k4, k2⟩ | ⟨k1, k3, k4, k2⟩ <;> first | omega | exact absurd k3 h3 | exact absurd h3 k3
theorem She.bd {l : List (Int × Int)} {n : Nat} {t r : Int} (h : She l n t r) : 0 ≤ r ∧ r ≤ 5 := by
  rcases h with ⟨_, h2⟩ | ⟨_, _, h2⟩ | ⟨_, _, _, h2⟩ | ⟨_, _, _, h2⟩ <;> omega
theorem She.ok {l : List (Int × Int)} {n : Nat} {t : Int} (h : She l n t 0) : 0 ≤ t ∧ t ≤ 4 ∧ dis (fa l) n ∧ t < (n : Int) ∧ n ≤ 9 := by
  rcases h with ⟨_, h2⟩ | ⟨_, _, h2⟩ | ⟨_, _, _, h2⟩ | ⟨h1, h3, h4, _⟩
  · omega
  · omega
  · omega
  · exact ⟨h1.1, h1.2, h3, h4, dis_nine h3⟩

/-- S has the first n shares. -/
def Hs (l : List (Int × Int)) (n : Nat) (S : List Int) : Prop := ∀ j, j < n → nm (ev S (l.getD j (0, 0)).1) = nm (l.getD j (0, 0)).2
/-- What Open tells. -/
def Opn (l : List (Int × Int)) (n : Nat) (t x r : Int) : Prop :=
  (She l n t r ∧ r ≠ 0 ∧ x = 0) ∨ (She l n t 0 ∧ ((∃ S : List Int, (S.length : Int) ≤ t + 1 ∧ Hs l n S ∧ x = nm (ev S 0) ∧ r = 0) ∨ ((∀ S : List Int, (S.length : Int) ≤ t + 1 → ¬ Hs l n S) ∧ x = 0 ∧ r = 6)))

/-- One polynomial of no more numbers than there are shares. -/
theorem hs_one {l : List (Int × Int)} {n : Nat} {S R : List Int} (ho : okk l n) (h : Hs l n S) (k : Hs l n R) (h1 : S.length ≤ n) (k1 : R.length ≤ n) : nrm S = nrm R := by
  have hw : ∀ j, j < n → ((List.range n).map fun i => l.getD i (0, 0)).getD j (0, 0) = l.getD j (0, 0) := fun j hj => by simp [hj]
  refine one_through (l := (List.range n).map fun i => l.getD i (0, 0)) (n := n) (by simp) (fun i hi => ?_) h1 k1 (fun j hj => ?_) (fun j hj => ?_)
  · rw [hw i hi]
    refine ⟨(ho i hi).1, fun j hj => ?_⟩
    rw [hw j (by omega)]
    exact (ho i hi).2 j hj
  · rw [hw j hj]; exact h j hj
  · rw [hw j hj]; exact k j hj
theorem ev_one {S R : List Int} (h : nrm S = nrm R) (x : Int) : nm (ev S x) = nm (ev R x) := by rw [← nrm_ev S, h, nrm_ev]

theorem Opn.one {l : List (Int × Int)} {n : Nat} {t x r y s : Int} (h : Opn l n t x r) (k : Opn l n t y s) : x = y ∧ r = s := by
  rcases h with ⟨h1, h2, h3⟩ | ⟨h1, h2⟩ <;> rcases k with ⟨k1, k2, k3⟩ | ⟨k1, k2⟩
  · exact ⟨by omega, h1.one k1⟩
  · exact absurd (h1.one k1) h2
  · exact absurd (k1.one h1) k2
  · obtain ⟨_, _, h4, h5, _⟩ := h1.ok
    rcases h2 with ⟨S, s1, s2, s3, s4⟩ | ⟨s1, s2, s3⟩ <;> rcases k2 with ⟨R, r1, r2, r3, r4⟩ | ⟨r1, r2, r3⟩
    · exact ⟨by rw [s3, r3]; exact ev_one (hs_one (dis_okk h4) s2 r2 (by omega) (by omega)) 0, by omega⟩
    · exact absurd s2 (r1 S s1)
    · exact absurd r2 (s1 R r1)
    · exact ⟨by omega, by omega⟩

/-- NEWTON's polynomial tells whether there is one of few numbers. -/
theorem opn_newton {l : List (Int × Int)} {n : Nat} {t : Int} {S : List Int} (h : She l n t 0) (hl : S.length = n) (hb : ∀ x ∈ S, 0 ≤ x ∧ x ≤ 2147483646) (hs : Hs l n S) :
    (((tl S n : Nat) : Int) ≤ t + 1 → Opn l n t (nm (ev (trm S) 0)) 0) ∧ (t + 1 < ((tl S n : Nat) : Int) → Opn l n t 0 6) := by
  obtain ⟨_, _, hd, h5, _⟩ := h.ok
  have e : nrm S = trm S := by unfold nrm; rw [nz_id hb]
  have hlen : (trm S).length = tl S n := by rw [trm_len, hl]
  have hst : Hs l n (trm S) := fun j hj => by rw [← e, nrm_ev]; exact hs j hj
  refine ⟨fun ht => Or.inr ⟨h, Or.inl ⟨trm S, by rw [hlen]; exact ht, hst, rfl, rfl⟩⟩, fun ht => Or.inr ⟨h, Or.inr ⟨fun R hR hr => ?_, rfl, rfl⟩⟩⟩
  have h1 := hs_one (dis_okk hd) hs hr (by omega) (by omega)
  have h2 := nrm_le R
  rw [← h1, e, hlen] at h2
  omega

/-- By what the number of party i is multiplied. -/
def Wgt (ts : List Int) (n i : Nat) (x : Int) : Prop := ∃ Q : List Int, Q.length ≤ n ∧ (∀ j, j < n → nm (ev Q (ts.getD j 0)) = if j = i then 1 else 0) ∧ x = nm (ev Q 0)
def fi (ts : List Int) (i : Nat) : Int := ts.getD i 0
theorem Wgt.one {ts : List Int} {n i : Nat} {x y : Int} (hd : dis (fi ts) n) (h : Wgt ts n i x) (k : Wgt ts n i y) : x = y := by
  obtain ⟨Q, q1, q2, rfl⟩ := h
  obtain ⟨R, r1, r2, rfl⟩ := k
  have hw : ∀ j, j < n → ((List.range n).map fun k => (ts.getD k 0, if k = i then (1 : Int) else 0)).getD j (0, 0) = (ts.getD j 0, if j = i then (1 : Int) else 0) := fun j hj => by simp [hj]
  refine ev_one (hs_one (l := (List.range n).map fun k => (ts.getD k 0, if k = i then (1 : Int) else 0)) (n := n) (fun j hj => ?_) (fun j hj => ?_) (fun j hj => ?_) q1 r1) 0
  · rw [hw j hj]
    refine ⟨⟨(hd j hj).1.1, by have := (hd j hj).1.2; unfold fi at this; simp only; omega⟩, fun q hq => ?_⟩
    rw [hw q (by omega)]
    exact (hd j hj).2 q hq
  · rw [hw j hj]
    simp only
    rw [q2 j hj]; split <;> decide
  · rw [hw j hj]
    simp only
    rw [r2 j hj]; split <;> decide

/-- The product of what the others are less x. -/
def pr (ts : List Int) (a x : Int) : Nat → Int
  | 0 => 1
  | k + 1 => if ts.getD k 0 = a then pr ts a x k else pr ts a x k * (ts.getD k 0 - x)
theorem pr_skip {ts : List Int} {a x : Int} {k : Nat} (h : ts.getD k 0 = a) : pr ts a x (k + 1) = pr ts a x k := by rw [pr, if_pos h]
theorem pr_take {ts : List Int} {a x : Int} {k : Nat} (h : ts.getD k 0 ≠ a) : pr ts a x (k + 1) = pr ts a x k * (ts.getD k 0 - x) := by rw [pr, if_neg h]
def prl (ts : List Int) (a c : Int) : Nat → List Int
  | 0 => [c]
  | k + 1 => if ts.getD k 0 = a then prl ts a c k else cvl (prl ts a c k) [ts.getD k 0, -1]
theorem prl_ev (ts : List Int) (a c x : Int) : ∀ k, nm (ev (prl ts a c k) x) = nm (c * pr ts a x k)
  | 0 => by rw [prl, pr, ev, ev, Int.mul_zero, Int.add_zero, Int.mul_one]
  | k + 1 => by
    rw [prl, pr]
    split
    · exact prl_ev ts a c x k
    · rw [cvl_ev, ← Int.mul_assoc]
      refine nm_mul_congr (prl_ev ts a c x k) ?_
      rw [ev_pair]
      congr 1
      omega
theorem prl_len (ts : List Int) (a c : Int) (i : Nat) (hi : ts.getD i 0 = a) : ∀ k, (prl ts a c k).length ≤ if i < k then k else k + 1
  | 0 => by simp [prl]
  | k + 1 => by
    have := prl_len ts a c i hi k
    rw [prl]
    by_cases e : i = k
    · subst e
      rw [if_pos hi, if_pos (by omega)]
      rw [if_neg (by omega)] at this
      exact this
    · split
      · split at this <;> split <;> omega
      · rw [cvl_len]
        have h2 : ([ts.getD k 0, -1] : List Int).length = 2 := rfl
        rw [h2]
        split at this <;> split <;> omega
theorem pr_zero {ts : List Int} {a : Int} {m : Nat} (hm : ts.getD m 0 ≠ a) : ∀ k, m < k → pr ts a (ts.getD m 0) k = 0
  | 0, h => by omega
  | k + 1, h => by
    by_cases e : m = k
    · subst e
      rw [pr_take hm, Int.sub_self, Int.mul_zero]
    · rw [pr]
      have := pr_zero (a := a) hm k (by omega)
      split
      · exact this
      · rw [this, Int.zero_mul]
theorem pr_own {ts : List Int} {n i : Nat} (hd : dis (fi ts) n) (hi : i < n) : ∀ k, k ≤ n → nm (pr ts (ts.getD i 0) (ts.getD i 0) k) ≠ 0
  | 0, _ => by rw [pr]; decide
  | k + 1, h => by
    have ih := pr_own hd hi k (by omega)
    rw [pr]
    split
    · exact ih
    · rename_i hne
      intro e
      have h1 := nm_mul_zero e ih
      have h2 := (hd k (by omega)).1
      have h3 := (hd i hi).1
      unfold fi at h2 h3
      unfold nm at h1
      omega
/-- LAGRANGE's weight. -/
theorem wgt_lag {ts : List Int} {n i : Nat} (hd : dis (fi ts) n) (hi : i < n) {a b : Int} (ha : nm a = nm (pr ts (ts.getD i 0) 0 n)) (hb : nm b = nm (pr ts (ts.getD i 0) (ts.getD i 0) n)) : Wgt ts n i (nm (a * iv b)) := by
  have hne : nm b ≠ 0 := by rw [hb]; exact pr_own hd hi n (Nat.le_refl _)
  refine ⟨prl ts (ts.getD i 0) (iv b) n, ?_, fun j hj => ?_, ?_⟩
  · have := prl_len ts (ts.getD i 0) (iv b) i rfl n
    rw [if_pos hi] at this
    exact this
  · rw [prl_ev]
    by_cases e : j = i
    · subst e
      rw [if_pos rfl, nm_mul_congr rfl hb.symm, iv_mul hne]
    · rw [if_neg e]
      have h1 : ts.getD j 0 ≠ ts.getD i 0 := by
        rcases Nat.lt_or_ge j i with h | h
        · exact (hd i hi).2 j h
        · exact fun e' => (hd j hj).2 i (by omega) e'.symm
      rw [pr_zero h1 n hj, Int.mul_zero]; rfl
  · rw [prl_ev, Int.mul_comm]
    exact nm_mul_congr rfl ha
/-- The weight of party i among n. -/
def wt (ts : List Int) (n i : Nat) : Int := nm (nm (pr ts (ts.getD i 0) 0 n) * iv (nm (pr ts (ts.getD i 0) (ts.getD i 0) n)))
theorem wt_bd (ts : List Int) (n i : Nat) : 0 ≤ wt ts n i ∧ wt ts n i ≤ 2147483646 := nm_bd _
theorem wt_wgt {ts : List Int} {n i : Nat} (hd : dis (fi ts) n) (hi : i < n) : Wgt ts n i (wt ts n i) := wgt_lag hd hi (nm_nm _) (nm_nm _)
end
section
open Crm Go.RowKit
theorem cAddTimes (g o n c : Nat) (L : List Int) (ab : Option Addr) (lb cb : Nat) (B : List Int) (t : Int) (w : World)
    (hL : Blk w g L) (hLb : ∀ x ∈ L, 0 ≤ x ∧ x ≤ 18446744073709551615) (hB : Rd w ab lb cb B) (hne : ∀ x, ab = some x → x.block ≠ g) (hon : o + n ≤ L.length) (hlb : lb ≤ n) (hn : n ≤ 1000000) (ht0 : 0 ≤ t) (ht1 : t ≤ 18446744073709551615) :
    Calls Tryd.prog 83 #[.slice (some ⟨g, o, none⟩) n c, .slice ab lb cb, .int .u64 t] w fun e w' => e = .returned (.tuple #[]) ∧ Blk w' g (addAt L o B t lb) ∧ w.grownBy w' (some g) := by
  have hlen := hB.len
  go_enter Tryd.func83, Tryd.ntmps83
  go_wp2
  go_loopw [10] (fun i wr => ∃ k : Nat, k ≤ lb ∧ i = .int .i64 k ∧ Blk wr g (addAt L o B t k) ∧ w.grownBy wr (some g)) (fun i _ => lb - (intOf i).toNat)
  case atStart => exact ⟨0, Nat.zero_le _, rfl, hL, World.grownBy.refl _ _⟩
  case round =>
    obtain ⟨k, hk, rfl, hblk, hgr⟩ := hrel
    by_cases hlt : k < lb
    · have hBr : Rd wr ab lb cb B := hB.grown hgr (fun x hx => by simpa using hne x hx)
      obtain ⟨b, ob, x, rfl, hb, HX, hx0, hx1, hc⟩ := hBr.one hlt
      have hbg : b ≠ g := hne _ rfl
      have hcell := hblk.cell (i := o + k) (by rw [addAt_len]; omega)
      have hfz := hblk.frozen (o + k)
      obtain ⟨y, hy⟩ : ∃ y, y = (addAt L o B t k).getD (o + k) 0 := ⟨_, rfl⟩
      have HY : Hid (y = L.getD (o + k) 0) := by rw [hy, addAt_getD, if_neg (by omega)]; exact rfl
      have hyb : 0 ≤ y ∧ y ≤ 18446744073709551615 := by rw [hy]; exact getD_bd (addAt_bd hLb o B t k) _
      rw [← hy] at hcell
      clear hy
      have hm := nm_bd (t * x)
      have hk0 : (0 : Int) ≤ (k : Int) := by omega
      have hkn : (k : Int) < (n : Int) := by omega
      have Hblk' : Hid (Blk (wr.setCell ⟨g, o + k, none⟩ (.int .u64 (nm (y + nm (t * x))))) g (addAt L o B t (k + 1))) := by
        have e : nm (y + nm (t * x)) = nm (L.getD (o + k) 0 + t * B.getD k 0) := by rw [nm_addr, HY.out, HX.out]
        rw [e]
        exact hblk.set (o + k) _
      have Hgr' : Hid (w.grownBy (wr.setCell ⟨g, o + k, none⟩ (.int .u64 (nm (y + nm (t * x))))) (some g)) := grown_trans hgr (grown_set _ _ _ _)
      clear hblk hgr hBr hB hL
      go_wp2
      go_region_with (first | (go_at_call 59; refine (fMul _ _ _ (by omega) (by omega) (by omega) (by omega)).mono ?_; rintro e w' ⟨rfl, rfl⟩) | (go_at_call 55; refine (fAdd _ _ _ (by omega) (by omega) (by omega) (by omega)).mono ?_; rintro e w' ⟨rfl, rfl⟩))
      all_goals
        go_wp2
        go_roundw
        case rel => exact ⟨k + 1, by omega, by go_num, Hblk'.out, grown_drew Hgr'.out⟩
        case measure => simp [intOf]; omega
    · have hkl : k = lb := by omega
      subst hkl
      go_wp2
      exact bodyPost_end (v := .tuple #[]) (by simp [results, Tryd.results83, go_sem]) rfl ⟨rfl, hblk, hgr⟩
theorem cTrim (a : Option Addr) (n c : Nat) (xs : List Int) (w : World) (h : Rd w a n c xs) :
    Calls Tryd.prog 85 #[.slice a n c] w fun e w' => e = .returned (.slice a (tl xs n) c) ∧ w' = w := by
  have hm := h.max
  have hcap := h.cap
  unfold maxLen at hm
  go_enter Tryd.func85, Tryd.ntmps85
  go_wp2
  go_loop [3] (fun v => ∃ k : Nat, k ≤ n ∧ v = .int .i64 k ∧ Hid (tl xs n = tl xs k)) (fun v => (intOf v).toNat)
  case atStart => exact ⟨n, Nat.le_refl _, rfl, rfl⟩
  case round =>
    obtain ⟨k, hk, rfl, HR⟩ := hrel
    cases k with
    | zero =>
      go_wp2
      go_ret
      rw [HR.out]
      exact ⟨rfl, rfl⟩
    | succ m =>
      obtain ⟨b, o, x, rfl, hb, HX, hx0, hx1, hc⟩ := h.one (show m < n by omega)
      by_cases hx : x = 0
      · subst hx
        go_wp2
        go_round
        case rel => exact ⟨m, by omega, rfl, HR.out.trans (tl_zero xs HX.out)⟩
        case measure => simp [intOf]
      · have hxb : (x == 0) = false := by rw [beq_eq_false_iff_ne]; exact hx
        have HL : Hid (tl xs n = m + 1) := HR.out.trans (tl_last xs (by rw [HX.out]; exact hx))
        go_wp2
        go_ret
        rw [HL.out]
        exact ⟨rfl, rfl⟩

/-- The first k numbers of L are those of nz xs, the rest 0. -/
theorem info42 : (Tryd.prog.info? 42).map (fun i => (i.zero, i.size, i.bytes)) = some (some (.int .u64 0), 1, 8) := by kernel_rfl
theorem get_getD {l : List Int} {k : Nat} (h : k < l.length) : l[k]? = some (l.getD k 0) := by
  rw [List.getD_eq_getElem?_getD, List.getElem?_eq_getElem h]; rfl

theorem addAt_pc (ps qs L : List Int) (m i : Nat) (hm : i + qs.length ≤ m)
    (hL : L = (List.range m).map fun k => nm (pc ps qs k i)) : addAt L i qs (ps.getD i 0) qs.length = (List.range m).map fun k => nm (pc ps qs k (i + 1)) := by
  apply List.ext_getElem?
  intro k
  have hl : L.length = m := by rw [hL]; simp
  by_cases hk : k < m
  · have h1 : k < (addAt L i qs (ps.getD i 0) qs.length).length := by rw [addAt_len, hl]; exact hk
    have e1 : (addAt L i qs (ps.getD i 0) qs.length)[k]? = some ((addAt L i qs (ps.getD i 0) qs.length).getD k 0) := get_getD h1
    rw [e1, addAt_getD, hl]
    have e2 : L.getD k 0 = nm (pc ps qs k i) := by rw [hL]; simp [hk]
    have e3 : ((List.range m).map fun k => nm (pc ps qs k (i + 1)))[k]? = some (nm (pc ps qs k (i + 1))) := by simp [hk]
    rw [e3, e2, pc]
    congr 1
    by_cases h : i ≤ k ∧ k < i + qs.length ∧ k < m
    · rw [if_pos h, nm_addl, tm, if_pos h.1]
    · rw [if_neg h, tm]
      have := hm
      split
      · have : qs.getD (k - i) 0 = 0 := by rw [List.getD_eq_getElem?_getD, List.getElem?_eq_none (by omega)]; rfl
        rw [this, Int.mul_zero, Int.add_zero]
      · rw [Int.add_zero]
  · rw [List.getElem?_eq_none (by rw [addAt_len, hl]; omega), List.getElem?_eq_none (by simp; omega)]

theorem pc_bd (ps qs : List Int) (m i : Nat) : ∀ x ∈ (List.range m).map (fun k => nm (pc ps qs k i)), 0 ≤ x ∧ x ≤ 18446744073709551615 := by
  intro x hx
  obtain ⟨k, _, rfl⟩ := List.mem_map.1 hx
  have := nm_bd (pc ps qs k i)
  omega

theorem cProduct (a : Option Addr) (n c : Nat) (xs : List Int) (b : Option Addr) (m d : Nat) (ys : List Int) (w : World) (h : Rd w a n c xs) (g : Rd w b m d ys) (hn0 : 0 < n) (hm0 : 0 < m) (hn : n ≤ 1000) (hm : m ≤ 1000) :
    Calls Tryd.prog 84 #[.slice a n c, .slice b m d] w fun e w' => e = .returned (.slice (some ⟨w.heap.size, 0, none⟩) (n + m - 1) (n + m - 1)) ∧ Blk w' w.heap.size (cvl xs ys) ∧ Below w.heap.size w w' := by
  obtain ⟨i0, hi, hz0, hz1, hz2⟩ := info_parts info42
  have hlen := h.len
  have glen := g.len
  obtain ⟨r, hr⟩ : ∃ r, r = n + m - 1 := ⟨_, rfl⟩
  have hr1 : (r : Int) = n + m - 1 := by omega
  have HR : Hid (r = n + m - 1) := hr
  have hrn : n ≤ r := by omega
  have hrm : m ≤ r := by omega
  have hrb : r ≤ 2000 := by omega
  rw [← hr]
  clear hr
  go_enter Tryd.func84, Tryd.ntmps84
  go_wp2_with (at_make; refine wpList_make_full _ rfl _ _ 26 rfl w.heap.size 42 i0 (.int .u64 0) 1 Tryd.underlying26 hi hz0 hz1 .i64 .i64 _ _ r rfl rfl (by omega) (by omega) (by rw [hz2]; omega) (by unfold maxLen; omega) (Nat.le_refl _) ?_; intro w1 hown hgrow)
  have hb1 : Blk w1 w.heap.size (List.replicate r 0) := Blk.made hown
  have hbel1 : Below w.heap.size w w1 := (Below.refl _ _).grown hgrow (Nat.le_refl _) (by simp)
  clear hown hgrow
  go_loopw [17] (fun i wr => ∃ k : Nat, k ≤ n ∧ i = .int .i64 k ∧ Blk wr w.heap.size ((List.range r).map fun q => nm (pc xs ys q k)) ∧ Below w.heap.size w wr) (fun i _ => n - (intOf i).toNat)
  case atStart => exact ⟨0, Nat.zero_le _, rfl, by have e : (List.range r).map (fun q => nm (pc xs ys q 0)) = List.replicate r 0 := by { apply List.ext_getElem? ; intro q; by_cases hq : q < r <;> simp [hq, pc, nm] }; rw [e]; exact hb1, hbel1⟩
  case round =>
    obtain ⟨k, hk, rfl, hblk, hbel⟩ := hrel
    by_cases hlt : k < n
    · have gR := g.below hbel
      have hne : ∀ x, b = some x → x.block ≠ w.heap.size := by
        intro x hx
        obtain ⟨b', o', e, hb', _⟩ := g.at hm0
        rw [e] at hx
        obtain rfl := Option.some.inj hx
        simp only
        omega
      obtain ⟨b1, o1, x, rfl, hb, HX, hx0, hx1, hc⟩ := (h.below hbel).one hlt
      have hkr : ¬ r = k := by omega
      have HS : Hid (addAt ((List.range r).map fun q => nm (pc xs ys q k)) k ys x m = (List.range r).map fun q => nm (pc xs ys q (k + 1))) := by
        have := addAt_pc xs ys _ r k (by omega) rfl
        rw [← HX.out]
        rwa [glen] at this
      go_wp2_with (go_at_call 83; refine (cAddTimes _ _ _ _ _ _ _ _ _ _ _ hblk (pc_bd xs ys r k) gR hne (by simp; omega) (by omega) (by omega) hx0 hx1).mono ?_; rintro e w2 ⟨rfl, hb2, hg2⟩; rw [HS.out] at hb2; have hbel2 := below_grown hbel hg2 (Nat.le_refl _); clear hblk hbel hg2 gR hc)
      go_roundw
      case rel => exact ⟨k + 1, by omega, by go_num, hb2, hbel2⟩
      case measure => simp [intOf]; omega
    · have hkn : k = n := by omega
      subst hkn
      go_wp2
      go_ret
      refine ⟨rfl, ?_, hbel⟩
      unfold cvl
      rw [hlen, glen, ← HR.out]
      exact hblk
theorem cEvalOK (a : Option Addr) (n c : Nat) (xs : List Int) (x : Int) (w : World) (h : Rd w a n c xs) (hn : n ≤ 40) (hx0 : 0 ≤ x) (hx1 : x ≤ 18446744073709551615) :
    Calls Tryd.prog 62 #[.slice a n c, .int .u64 x] w fun e w' => e = .returned (.tuple #[.int .u64 (nm (ev xs x)), .int .i64 0]) ∧ Below w.heap.size w w' := by
  go_enter Tryd.func62, Tryd.ntmps62
  go_wp2_with (go_at_call 81; refine (cValue _ _ _ _ _ _ h hx0 hx1).mono ?_; rintro e w1 ⟨rfl, hbel⟩)
  go_ret2
  exact ⟨rfl, hbel⟩
/-- A list that is filled from its beginning on. -/
def fil (f : Nat → Int) (n k : Nat) : List Int := (List.range n).map fun i => if i < k then f i else 0
theorem fil_len (f : Nat → Int) (n k : Nat) : (fil f n k).length = n := by simp [fil]
theorem fil_zero (f : Nat → Int) (n : Nat) : List.replicate n 0 = fil f n 0 := by
  refine list_ext (by simp [fil]) fun t ht => ?_
  have : t < n := by simpa using ht
  simp [fil, this]
theorem fil_set {f : Nat → Int} {n k : Nat} {v : Int} (hv : v = f k) : (fil f n k).set k v = fil f n (k + 1) := by
  refine list_ext (by simp [fil]) fun t ht => ?_
  have htn : t < n := by simpa [fil] using ht
  rw [getD_set, fil_len]
  by_cases e : k = t
  · subst e
    rw [if_pos ⟨rfl, htn⟩, hv]
    simp [fil, htn]
  · rw [if_neg (fun h => e h.1)]
    have : (t < k + 1) = (t < k) := by apply propext; omega
    simp [fil, htn, this]
theorem fil_full (f : Nat → Int) (n : Nat) : fil f n n = (List.range n).map f := by
  refine list_ext (by simp [fil]) fun t ht => ?_
  have htn : t < n := by simpa [fil] using ht
  simp [fil, htn]
theorem fil_bd {f : Nat → Int} (hf : ∀ i, 0 ≤ f i ∧ f i ≤ 2147483646) (n k : Nat) : ∀ x ∈ fil f n k, 0 ≤ x ∧ x ≤ 2147483646 := by
  intro x hx
  obtain ⟨i, _, rfl⟩ := List.mem_map.1 hx
  split
  · exact hf i
  · omega

/-- What is dealt. -/
def dlf (C : List Int) (i : Nat) : Int := nm (ev C ((i : Int) + 1))
theorem dlf_bd (C : List Int) (i : Nat) : 0 ≤ dlf C i ∧ dlf C i ≤ 2147483646 := nm_bd _
def dl (C : List Int) (n : Nat) : List Int := (List.range n).map (dlf C)
theorem dl_len (C : List Int) (n : Nat) : (dl C n).length = n := by simp [dl]
theorem dl_bd (C : List Int) (n : Nat) : ∀ x ∈ dl C n, 0 ≤ x ∧ x ≤ 2147483646 := by
  rw [dl, ← fil_full]; exact fil_bd (dlf_bd C) n n
theorem dl_getD (C : List Int) {n i : Nat} (h : i < n) : (dl C n).getD i 0 = dlf C i := by simp [dl, h]

/-- One number, and a slice behind it; where it lies. -/
theorem wpList_appRB {P : Program} {T : TypeId} (hT : P.underlying T = some (.slice 42)) (info : (P.info? 42).map (fun i => (i.zero, i.size, i.bytes)) = some (some (.int .u64 0), 1, 8))
    (w : World) {ops : Array Oper} {rest : List Oper} {o : Oper} {a : Act} {Q : Exit → Act → World → Prop} (hgd : o.guard = none) (s x : Operand)
    (ho : o.op = .call { callee := .builtin .append, args := #[s, x], argTypes := #[T, T] }) (y : Int) (hy0 : 0 ≤ y) (hy1 : y ≤ 18446744073709551615)
    (a0 : Option Addr) (m c : Nat) (xs : List Int) (hR : Rd w a0 m c xs) (hs : a.eval s = .slice (some ⟨w.heap.size, 0, none⟩) 1 1) (hx : a.eval x = .slice a0 m c) (hm : m ≤ 1000)
    (h : ∀ a' c' w', Rd w' a' (m + 1) c' (y :: xs) → (∀ x, a' = some x → w.heap.size ≤ x.block) → Below w.heap.size w w' → wpList P ops Q rest (a.put o.dst (.slice a' (m + 1) c')) w') :
    wpList P ops Q (o :: rest) a (w.alloc (.cells #[.int .u64 y] 42)) := by
  obtain ⟨i0, hi, hz0, hz1, hz2⟩ := info_parts info
  have hb : Below w.heap.size w (w.alloc (.cells #[.int .u64 y] 42)) := (Below.refl _ _).alloc (Nat.le_refl _) _
  have hown : (w.alloc (.cells #[.int .u64 y] 42)).ownsRow w.heap.size 42 1 (.slice (some ⟨w.heap.size, 0, none⟩) 1 1) 1 [.int .u64 y] :=
    ⟨rfl, Or.inr ⟨_, 1, #[.int .u64 y], rfl, Nat.le_refl _, heap_alloc_new w _, Nat.le_refl _, by unfold maxLen; omega, rfl, rfl⟩⟩
  have hbd : ∀ z ∈ y :: xs, 0 ≤ z ∧ z ≤ 18446744073709551615 := by
    intro z hz
    rcases List.mem_cons.1 hz with rfl | hz
    · exact ⟨hy0, hy1⟩
    · exact hR.bd z hz
  have hl := hR.len
  cases a0 with
  | none =>
    have hc := hR.nil rfl
    have hcap := hR.cap
    obtain rfl : m = 0 := by omega
    subst hc
    obtain rfl : xs = [] := List.eq_nil_of_length_eq_zero hl
    refine wpList_append_own_none hgd s x T ho w.heap.size 42 i0 1 hT hi _ 1 _ hs hown hx ?_
    obtain ⟨a', c', e, hr, hx⟩ := Rd.own (xs := [y]) hown hbd
    rw [e]
    exact h a' c' _ hr hx hb
  | some ad =>
    refine wpList_append_own _ hgd s x T ho w.heap.size 42 i0 (.int .u64 0) 1 8 hT hi hz0 hz1 hz2 rfl (by decide) _ 1 _ hs hown ad m c (xs.map (Value.int .u64)) hx (by rw [List.length_map, hl, Nat.mul_one]) ?_ ?_ (by unfold maxLen; omega) (by omega) (by simp) ?_
    · intro j u hj
      rw [List.getElem?_map] at hj
      have hjl : j < xs.length := by
        rcases Nat.lt_or_ge j xs.length with h' | h'
        · exact h'
        · rw [List.getElem?_eq_none h'] at hj; cases hj
      rw [getD_some hjl] at hj
      simp only [Option.map_some, Option.some.injEq] at hj
      rw [← hj]
      exact (hR.below hb).cell ad rfl j (by omega)
    · intro u hu
      obtain ⟨z, _, rfl⟩ := List.mem_map.1 hu
      rfl
    · intro v' w' hown' hgrow _
      rw [Nat.add_comm] at hown'
      obtain ⟨a', c', rfl, hr, hx⟩ := Rd.own (xs := y :: xs) hown' hbd
      refine h a' c' w' hr hx (hb.grown hgrow (by simp) (fun k hk => ?_))
      simp [Value.ownBlock] at hk
      omega
theorem wpList_appR {P : Program} {T : TypeId} (hT : P.underlying T = some (.slice 42)) (info : (P.info? 42).map (fun i => (i.zero, i.size, i.bytes)) = some (some (.int .u64 0), 1, 8))
    (w : World) {ops : Array Oper} {rest : List Oper} {o : Oper} {a : Act} {Q : Exit → Act → World → Prop} (hgd : o.guard = none) (s x : Operand)
    (ho : o.op = .call { callee := .builtin .append, args := #[s, x], argTypes := #[T, T] }) (y : Int) (hy0 : 0 ≤ y) (hy1 : y ≤ 18446744073709551615)
    (a0 : Option Addr) (m c : Nat) (xs : List Int) (hR : Rd w a0 m c xs) (hs : a.eval s = .slice (some ⟨w.heap.size, 0, none⟩) 1 1) (hx : a.eval x = .slice a0 m c) (hm : m ≤ 1000)
    (h : ∀ a' c' w', Rd w' a' (m + 1) c' (y :: xs) → Below w.heap.size w w' → wpList P ops Q rest (a.put o.dst (.slice a' (m + 1) c')) w') :
    wpList P ops Q (o :: rest) a (w.alloc (.cells #[.int .u64 y] 42)) :=
  wpList_appRB hT info w hgd s x ho y hy0 hy1 a0 m c xs hR hs hx hm fun a' c' w' h1 _ h2 => h a' c' w' h1 h2

theorem cDealOK (s : Int) (a : Option Addr) (m c : Nat) (xs : List Int) (n : Nat) (w : World) (h : Rd w a m c xs) (hs0 : 0 ≤ s) (hs1 : s ≤ 18446744073709551615) (hm : m ≤ 4) (hn : m < n) (hn9 : n ≤ 9) :
    Calls Tryd.prog 51 #[.int .u64 s, .slice a m c, .int .i64 n] w fun e w' => ∃ g, e = .returned (.tuple #[.slice (some ⟨g, 0, none⟩) n n, .int .i64 0]) ∧ Rd w' (some ⟨g, 0, none⟩) n n (dl (s :: xs) n) ∧ w.heap.size ≤ g ∧ Below w.heap.size w w' := by
  obtain ⟨i0, hi, hz0, hz1, hz2⟩ := info_parts info42
  have hlen := h.len
  go_enter Tryd.func51, Tryd.ntmps51
  go_wp2_with (first | (at_builtin; refine wpList_appR Tryd.underlying26 info42 _ rfl _ _ rfl s hs0 hs1 a m c xs h rfl rfl (by omega) ?_; intro a1 c1 w1 hr1 hb1) | (at_make; refine wpList_make_full _ rfl _ _ 26 rfl w1.heap.size 42 i0 (.int .u64 0) 1 Tryd.underlying26 hi hz0 hz1 .i64 .i64 _ _ n rfl rfl (by omega) (by omega) (by rw [hz2]; omega) (by unfold maxLen; omega) (Nat.le_refl _) ?_; intro w2 hown hgrow))
  have hs1 := hb1.size
  have hB2 : Blk w2 w1.heap.size (fil (dlf (s :: xs)) n 0) := by rw [← fil_zero]; exact Blk.made hown
  have hb2 : Below w1.heap.size w1 w2 := (Below.refl _ _).grown hgrow (Nat.le_refl _) (by simp)
  have hb12 : Below w.heap.size w w2 := hb1.trans (hb2.mono hs1)
  clear hown hgrow
  go_loopw [32] (fun i wr => ∃ k : Nat, k ≤ n ∧ i = .int .i64 k ∧ Blk wr w1.heap.size (fil (dlf (s :: xs)) n k) ∧ Below w1.heap.size w1 wr ∧ Below w.heap.size w wr) (fun i _ => n - (intOf i).toNat)
  case atStart => exact ⟨0, Nat.zero_le _, rfl, hB2, hb2, hb12⟩
  case round =>
    clear hB2 hb2 hb12
    obtain ⟨k, hk, rfl, hblk, hbe1, hbel⟩ := hrel
    by_cases hlt : k < n
    · have hr := hr1.below hbe1
      have HF : Hid (nm (ev (s :: xs) ((k : Int) + 1)) = dlf (s :: xs) k) := rfl
      go_wp2_with fail
      refine (cEvalOK _ _ _ _ _ _ hr (by omega) (by omega) (by omega)).mono ?_
      rintro e w3 ⟨rfl, hb3⟩
      rw [HF.out]
      have hblk3 := hblk.below hb3 hblk.lt
      have hcell := hblk3.cell (i := k) (by rw [fil_len]; exact hlt)
      have hfz := hblk3.frozen k
      have hlt3 := hblk3.lt
      have hblk4 := hblk3.set k (dlf (s :: xs) k)
      rw [fil_set rfl] at hblk4
      have hbe3 := hbe1.trans (hb3.mono hbe1.size)
      have hbel3 := hbel.trans (hb3.mono hbel.size)
      have Hb4 : Hid (Below w1.heap.size w1 (w3.setCell ⟨w1.heap.size, k, none⟩ (.int .u64 (dlf (s :: xs) k)))) := hbe3.setCell (Nat.le_refl _) _
      have Hb5 : Hid (Below w.heap.size w (w3.setCell ⟨w1.heap.size, k, none⟩ (.int .u64 (dlf (s :: xs) k)))) := hbel3.setCell hs1 _
      clear hbe1 hbel hb3 hblk hblk3 hbe3 hbel3 hr
      go_wp2
      go_roundw
      case rel => exact ⟨k + 1, by omega, by go_num, hblk4, Hb4.out, Hb5.out⟩
      case measure => simp [intOf]; omega
    · have hkn : k = n := by omega
      subst hkn
      have hr : Rd wr (some ⟨w1.heap.size, 0, none⟩) k k (dl (s :: xs) k) := by
        rw [fil_full] at hblk
        exact Blk.whole hblk k (dl_len _ _).symm (by unfold maxLen; omega) (bd_u64 (dl_bd _ _))
      go_wp2
      go_ret2
      exact ⟨_, rfl, hr, hs1, hbel⟩
/-- What readNumber answers. -/
def Rnb (s : ByteArray) (w : World) (e : Ending) (w' : World) : Prop := ((okd s ∧ e = .returned (.tuple #[.int .u64 (dgn s s.size), .bool true])) ∨ (¬ okd s ∧ e = .returned (.tuple #[.int .u64 0, .bool false]))) ∧ w' = w

theorem cNumber (s : ByteArray) (w : World) (hs : s.size ≤ 9223372036854775807) :
    Calls Tryd.prog 48 #[.string s] w fun e w' => Rnb s w e w' := by
  go_enter Tryd.func48, Tryd.ntmps48
  by_cases h1 : s.size < 1
  · have HN : Hid (¬ okd s) := fun o => by have := o.1; omega
    go_wp2
    go_ret2
    exact ⟨.inr ⟨HN.out, rfl⟩, rfl⟩
  by_cases h10 : 10 < s.size
  · have HN : Hid (¬ okd s) := fun o => by have := o.1; omega
    go_wp2
    go_ret2
    exact ⟨.inr ⟨HN.out, rfl⟩, rfl⟩
  by_cases hz : 1 < s.size ∧ bt s 0 = 48
  · have HN : Hid (¬ okd s) := fun o => o.2.2 hz
    have hix := fun w => bt_run (P := Tryd.prog) Tryd.underlying9 s (i := 0) (by omega) w
    rw [hz.2] at hix
    simp only [Int.natCast_zero] at hix
    have hz1 := hz.1
    clear hz
    go_wp2
    go_ret2
    exact ⟨.inr ⟨HN.out, rfl⟩, rfl⟩
  have HZ : Hid (¬ (1 < s.size ∧ bt s 0 = 48)) := hz
  obtain ⟨x, HX⟩ : ∃ x, Hid (bt s 0 = x) := ⟨_, rfl⟩
  have hx := bt_bd s 0
  have hix := fun w => bt_run (P := Tryd.prog) Tryd.underlying9 s (i := 0) (by omega) w
  rw [HX.out] at hx hix hz
  simp only [Int.natCast_zero] at hix
  have hlp : (1 < s.size ∧ (x == 48) = false) ∨ s.size = 1 := by
    by_cases e : 1 < s.size
    · exact .inl ⟨e, by rw [beq_eq_false_iff_ne]; exact fun e' => hz ⟨e, e'⟩⟩
    · exact .inr (by omega)
  clear hz
  rcases hlp with ⟨hp1, hp2⟩ | hp1
  all_goals
    go_wp2
    clear hix
    try clear hp2
    go_loopw [4, 26] (fun v i wr => ∃ k : Nat, k ≤ s.size ∧ i = .int .i64 k ∧ v = .int .u64 (dgn s k) ∧ Hid (dgs s k) ∧ wr = w) (fun _ i _ => 11 - (intOf i).toNat)
    case atStart => exact ⟨0, Nat.zero_le _, rfl, rfl, dgs_zero s, rfl⟩
    case round =>
      obtain ⟨k, hk, rfl, rfl, HD, rfl⟩ := hrel
      by_cases hlt : k < s.size
      · obtain ⟨x, HX⟩ : ∃ x, Hid (bt s k = x) := ⟨_, rfl⟩
        have hx := bt_bd s k
        have hix := fun w => bt_run (P := Tryd.prog) Tryd.underlying9 s hlt w
        rw [HX.out] at hx hix
        have hd := dgn_bd HD.out
        have ht := ten_le (k := k) (by omega)
        obtain ⟨d, Hd⟩ : ∃ d, Hid (dgn s k = d) := ⟨_, rfl⟩
        rw [Hd.out] at hd ⊢
        have hd2 : d ≤ 9999999999 := by omega
        have hd0 := hd.1
        clear hd ht
        have HN : Hid (x < 48 ∨ 57 < x → ¬ okd s) := fun e o => dgs_not hlt (by rw [HX.out]; exact e) o.2.1
        by_cases hlo : x < 48
        · go_wp2
          go_ret2
          exact ⟨.inr ⟨HN.out (.inl hlo), rfl⟩, rfl⟩
        · by_cases hhi : 57 < x
          · go_wp2
            go_ret2
            exact ⟨.inr ⟨HN.out (.inr hhi), rfl⟩, rfl⟩
          · have HD2 : Hid (dgs s (k + 1)) := dgs_succ HD.out (by rw [HX.out]; omega) (by rw [HX.out]; omega)
            have HV : Hid (dgn s (k + 1) = d * 10 + (x - 48)) := by unfold Hid; rw [dgn, Hd.out, HX.out]; omega
            go_wp2
            go_roundw
            case rel => exact ⟨k + 1, by omega, by go_num, by rw [HV.out], HD2, trivial⟩
            case measure => simp [intOf]; omega
      · have hks : k = s.size := by omega
        have hn1 : ¬ ((k : Int) < (s.size : Int)) := by omega
        have HY : Hid (okd s) := ⟨⟨by omega, by omega⟩, by rw [← hks]; exact HD.out, HZ.out⟩
        have HV : Hid (dgn s k = dgn s s.size) := by unfold Hid; rw [hks]
        go_wp2
        go_ret2
        exact ⟨.inl ⟨HY.out, by first | (rw [← HV.out]; rfl) | (rw [hp1]; rfl)⟩, rfl⟩
theorem cNumberY (s : ByteArray) (w : World) (hs : s.size ≤ 9223372036854775807) (h : okd s) :
    Calls Tryd.prog 48 #[.string s] w fun e w' => e = .returned (.tuple #[.int .u64 (dgn s s.size), .bool true]) ∧ w' = w := by
  refine (cNumber s w hs).mono ?_
  rintro e w' ⟨⟨_, he⟩ | ⟨h', _⟩, hw⟩
  · exact ⟨he, hw⟩
  · exact absurd h h'
theorem cNumberN (s : ByteArray) (w : World) (hs : s.size ≤ 9223372036854775807) (h : ¬ okd s) :
    Calls Tryd.prog 48 #[.string s] w fun e w' => e = .returned (.tuple #[.int .u64 0, .bool false]) ∧ w' = w := by
  refine (cNumber s w hs).mono ?_
  rintro e w' ⟨⟨h', _⟩ | ⟨_, he⟩, hw⟩
  · exact absurd h' h
  · exact ⟨he, hw⟩
/-- What readNumbers answers. -/
def Nmc (L : List ByteArray) (n : Nat) (w : World) (e : Ending) (w' : World) : Prop :=
  ((¬ okn L n ∧ e = .returned (.tuple #[.slice none 0 0, .bool false])) ∨ (okn L n ∧ ∃ g, e = .returned (.tuple #[.slice (some ⟨g, 0, none⟩) n n, .bool true]) ∧ w.heap.size ≤ g ∧ Blk w' g (nbl L n))) ∧ Below w.heap.size w w'

theorem cNumbers (a : Option Addr) (n c : Nat) (L : List ByteArray) (w : World) (h : RdT w a n c L) (hn : n ≤ 100000) :
    Calls Tryd.prog 33 #[.slice a n c] w fun e w' => Nmc L n w e w' := by
  obtain ⟨i0, hi0, hz0, hz1, hz2⟩ := info_parts info42
  have hcap := h.cap
  go_enter Tryd.func33, Tryd.ntmps33
  go_wp2_with (at_make; refine wpList_make_full _ rfl _ _ 26 rfl w.heap.size 42 i0 (.int .u64 0) 1 Tryd.underlying26 hi0 hz0 hz1 .i64 .i64 _ _ n rfl rfl (by omega) (by omega) (by rw [hz2]; omega) (by unfold maxLen; omega) (Nat.le_refl _) ?_; intro w2 hown hgrow)
  have hB2 : Blk w2 w.heap.size (fil (fun i => dgn (tx L i) (tx L i).size) n 0) := by rw [← fil_zero]; exact Blk.made hown
  have hb2 : Below w.heap.size w w2 := (Below.refl _ _).grown hgrow (Nat.le_refl _) (by simp)
  clear hown hgrow
  go_loopw [14] (fun i wr => ∃ k : Nat, k ≤ n ∧ i = .int .i64 k ∧ Hid (okn L k) ∧ Blk wr w.heap.size (fil (fun i => dgn (tx L i) (tx L i).size) n k) ∧ Below w.heap.size w wr) (fun i _ => n - (intOf i).toNat)
  case atStart => exact ⟨0, Nat.zero_le _, rfl, fun i hi => by omega, hB2, hb2⟩
  case round =>
    clear hB2 hb2
    obtain ⟨k, hk, rfl, HO, hB, hbel⟩ := hrel
    by_cases hlt : k < n
    · obtain ⟨b, o, x, rfl, hbb, HX, hxs, hc⟩ := (h.below hbel).one hlt
      by_cases hok : okd x
      · have hcell := hB.cell (i := k) (by rw [fil_len]; exact hlt)
        have hfz := hB.frozen k
        have hlt3 := hB.lt
        have hk0 : (0 : Int) ≤ (k : Int) := by omega
        have hkn : (k : Int) < (n : Int) := by omega
        obtain ⟨d, Hd⟩ : ∃ d, Hid (dgn x x.size = d) := ⟨_, rfl⟩
        have hset := hB.set k d
        rw [fil_set (by show d = dgn (tx L k) (tx L k).size; rw [HX.out, Hd.out])] at hset
        have Hbl : Hid (Blk _ _ _) := hset
        have HO2 : Hid (okn L (k + 1)) := okn_succ HO.out (by rw [HX.out]; exact hok)
        have Hb5 : Hid (Below w.heap.size w (wr.setCell ⟨w.heap.size, k, none⟩ (.int .u64 d))) := hbel.setCell (Nat.le_refl _) _
        have HOK : Hid (okd x) := hok
        clear hB hset hbel hok
        go_wp2_with (go_at_call 48; refine (cNumberY _ _ hxs HOK.out).mono ?_; rintro e w' ⟨rfl, hw⟩; have hw := hw.symm; subst hw; rw [Hd.out])
        go_roundw
        case rel => exact ⟨k + 1, by omega, by go_num, HO2, Hbl.out, Hb5.out⟩
        case measure => simp [intOf]; omega
      · have HN : Hid (¬ okn L n) := fun e => hok (by rw [← HX.out]; exact e k hlt)
        have HOK : Hid (¬ okd x) := hok
        clear hok
        go_wp2_with (go_at_call 48; refine (cNumberN _ _ hxs HOK.out).mono ?_; rintro e w' ⟨rfl, hw⟩; have hw := hw.symm; subst hw)
        go_ret2
        exact ⟨.inl ⟨HN.out, rfl⟩, hbel⟩
    · have hkn : k = n := by omega
      subst hkn
      rw [fil_full] at hB
      go_wp2
      go_ret2
      exact ⟨.inr ⟨HO.out, _, rfl, Nat.le_refl _, hB⟩, hbel⟩
end
end Go.Proofs.YtljlioglpaogdahDoor
