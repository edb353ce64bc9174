/- Slices of shares that are read. · NEWTON: a polynomial made share by share. Plain but for the list of shares. · Shares of a secret: plain facts. -/
import Derived.Test.YtgmelcdgnjcojafToPolyM3
namespace Go.Proofs.Ytgmelcdgnjcojaf
open Go.RowKit Crm

/-- The slice reads as the shares l: of each its At and its Y. -/
structure RdS (w : World) (a : Option Addr) (n c : Nat) (l : List (Int × Int)) : Prop where
  len : l.length = n
  cap : n ≤ c
  max : c ≤ maxLen
  bd : ∀ i, i < n → (-9223372036854775808 ≤ (l.getD i (0, 0)).1 ∧ (l.getD i (0, 0)).1 ≤ 9223372036854775807) ∧ 0 ≤ (l.getD i (0, 0)).2 ∧ (l.getD i (0, 0)).2 ≤ 18446744073709551615
  nil : a = none → c = 0
  cell : ∀ x, a = some x → ∀ i, i < n → w.cell? (x.add (i * 2)) = some (.int .i64 (l.getD i (0, 0)).1) ∧ w.cell? (x.add (i * 2 + 1)) = some (.int .u64 (l.getD i (0, 0)).2)

theorem RdS.at {w : World} {a : Option Addr} {n c : Nat} {l : List (Int × Int)} (h : RdS w a n c l) {k : Nat} (hk : k < n) :
    ∃ b o, a = some ⟨b, o, none⟩ ∧ b < w.heap.size ∧ ∀ i, i < n → w.cell? ⟨b, o + i * 2, none⟩ = some (.int .i64 (l.getD i (0, 0)).1) ∧ w.cell? ⟨b, o + i * 2 + 1, none⟩ = some (.int .u64 (l.getD i (0, 0)).2) := by
  cases ha : a with
  | none => have := h.nil ha; have := h.cap; omega
  | some x =>
    have h0 := (h.cell x ha 0 (by omega)).1
    have hs : x.spot = none := by
      have := spot_none h0
      unfold Addr.add at this
      split at this <;> simp_all
    obtain ⟨b, o, s⟩ := x
    simp only at hs
    subst hs
    refine ⟨b, o, rfl, ?_, fun i hi => by have := h.cell _ ha i hi; rwa [Addr.add_lit, Addr.add_lit, ← Nat.add_assoc] at this⟩
    have := World.block_lt_of_cell? w _ h0
    rwa [Addr.add_lit] at this

/-- One share of it, by names of its own. -/
theorem RdS.one {w : World} {a : Option Addr} {n c : Nat} {l : List (Int × Int)} (h : RdS w a n c l) {k : Nat} (hk : k < n) :
    ∃ b o x y, a = some ⟨b, o, none⟩ ∧ b < w.heap.size ∧ Hid ((l.getD k (0, 0)).1 = x) ∧ Hid ((l.getD k (0, 0)).2 = y) ∧ -9223372036854775808 ≤ x ∧ x ≤ 9223372036854775807 ∧ 0 ≤ y ∧ y ≤ 18446744073709551615 ∧ w.cell? ⟨b, o + k * 2, none⟩ = some (.int .i64 x) ∧ w.cell? ⟨b, o + k * 2 + 1, none⟩ = some (.int .u64 y) := by
  obtain ⟨b, o, ha, hb, hc⟩ := h.at hk
  have := h.bd k hk
  exact ⟨b, o, _, _, ha, hb, rfl, rfl, this.1.1, this.1.2, this.2.1, this.2.2, (hc k hk).1, (hc k hk).2⟩

theorem RdS.below {w w' : World} {a : Option Addr} {n c : Nat} {l : List (Int × Int)} (h : RdS w a n c l) (hb : Below w.heap.size w w') : RdS w' a n c l := by
  refine ⟨h.len, h.cap, h.max, h.bd, h.nil, fun x hx i hi => ?_⟩
  have := h.cell x hx i hi
  rw [hb.cell (World.block_lt_of_cell? w _ this.1), hb.cell (World.block_lt_of_cell? w _ this.2)]
  exact this

/-- The first k shares stand at places, no two at one. -/
def okk (l : List (Int × Int)) (k : Nat) : Prop := ∀ i, i < k → (1 ≤ (l.getD i (0, 0)).1 ∧ (l.getD i (0, 0)).1 ≤ 2147483646) ∧ ∀ j, j < i → (l.getD j (0, 0)).1 ≠ (l.getD i (0, 0)).1
theorem okk_zero (l : List (Int × Int)) : okk l 0 := fun i hi => by omega
theorem okk_succ {l : List (Int × Int)} {k : Nat} {x : Int} (h : okk l k) (hx : (l.getD k (0, 0)).1 = x) (h1 : 1 ≤ x) (h2 : x ≤ 2147483646) (h3 : ∀ j, j < k → (l.getD j (0, 0)).1 ≠ x) : okk l (k + 1) := by
  intro i hi
  by_cases e : i = k
  · subst e; rw [hx]; exact ⟨⟨h1, h2⟩, h3⟩
  · exact h i (by omega)
end Go.Proofs.Ytgmelcdgnjcojaf

namespace Go.Proofs.Ytgmelcdgnjcojaf
open Crm

structure NwI (l : List (Int × Int)) (n k : Nat) (S Z : List Int) : Prop where
  ls : S.length = n
  lz : Z.length = k + 1
  bs : ∀ x ∈ S, 0 ≤ x ∧ x ≤ 2147483646
  bz : ∀ x ∈ Z, 0 ≤ x ∧ x ≤ 2147483646
  s : ∀ j, j < k → nm (ev S (l.getD j (0, 0)).1) = nm (l.getD j (0, 0)).2
  z0 : ∀ j, j < k → nm (ev Z (l.getD j (0, 0)).1) = 0
  z1 : ∀ j, k ≤ j → j < n → nm (ev Z (l.getD j (0, 0)).1) ≠ 0

theorem nw_start (l : List (Int × Int)) (n : Nat) : NwI l n 0 (List.replicate n 0) [1] := by
  refine ⟨by simp, rfl, fun x hx => by rw [List.eq_of_mem_replicate hx]; omega, fun x hx => by rw [List.mem_singleton.1 hx]; omega, fun j hj => by omega, fun j hj => by omega, fun j _ _ => ?_⟩
  rw [ev, ev, Int.mul_zero]
  decide

theorem ats_apart {l : List (Int × Int)} {n i j : Nat} (h : okk l n) (hi : i < n) (hj : j < n) (hij : i ≠ j) : nm ((l.getD i (0, 0)).1 - (l.getD j (0, 0)).1) ≠ 0 := by
  have h1 := (h i hi).1
  have h2 := (h j hj).1
  have h3 : (l.getD i (0, 0)).1 ≠ (l.getD j (0, 0)).1 := by
    rcases Nat.lt_or_ge i j with hlt | hge
    · exact (h j hj).2 i hlt
    · exact fun e => (h i hi).2 j (by omega) e.symm
  unfold nm
  omega

theorem ev_pair (a b x : Int) : ev [a, b] x = a + x * b := by
  rw [ev, ev, ev, Int.mul_zero, Int.add_zero]

theorem nw_step {l : List (Int × Int)} {n k : Nat} {S Z : List Int} (h : NwI l n k S Z) (hk : k < n) (ho : okk l n) {x y t : Int} (hx : (l.getD k (0, 0)).1 = x) (hy : (l.getD k (0, 0)).2 = y)
    (ht : t = nm (nm (y - nm (ev S x)) * iv (nm (ev Z x)))) : NwI l n (k + 1) (addAt S 0 Z t (k + 1)) (cvl Z [nm (-x), 1]) := by
  have hE : nm (ev Z x) ≠ 0 := by rw [← hx]; exact h.z1 k (Nat.le_refl _) hk
  have hadd : ∀ u, nm (ev (addAt S 0 Z t (k + 1)) u) = nm (ev S u + t * ev Z u) := fun u => by rw [← h.lz]; exact addAt_ev S Z t u (by rw [h.lz, h.ls]; omega)
  have hmul : ∀ u, nm (ev (cvl Z [nm (-x), 1]) u) = nm (ev Z u * (u - x)) := fun u => by
    rw [cvl_ev]
    refine nm_mul_congr rfl ?_
    rw [ev_pair, Int.mul_one, nm_addl]
    congr 1; omega
  refine ⟨by rw [addAt_len, h.ls], by rw [cvl_len, h.lz]; simp, addAt_bd' h.bs _ _ _ _, cvl_bd _ _, ?_, ?_, ?_⟩
  · intro j hj
    rw [hadd]
    by_cases e : j = k
    · subst e
      rw [hx, hy]
      have h1 : nm (t * ev Z x) = nm (y - ev S x) := by
        rw [ht, nm_mull, Int.mul_assoc, iv_nm, ← nm_mulr, iv_mul hE, Int.mul_one, nm_nm, nm_subr]
      rw [nm_add_congr (c := ev S x) (d := y - ev S x) rfl h1]
      congr 1; omega
    · rw [nm_add_congr (c := ev S (l.getD j (0, 0)).1) (d := t * 0) rfl (nm_mul_congr rfl (h.z0 j (by omega))), Int.mul_zero, Int.add_zero]
      exact h.s j (by omega)
  · intro j hj
    rw [hmul]
    by_cases e : j = k
    · subst e
      rw [hx, Int.sub_self, Int.mul_zero]; rfl
    · rw [nm_mul_congr (c := 0) (h.z0 j (by omega)) rfl, Int.zero_mul]; rfl
  · intro j h1 h2 e
    rw [hmul] at e
    have h3 := nm_mul_zero e (h.z1 j (by omega) h2)
    rw [← hx] at h3
    exact ats_apart ho h2 hk (by omega) h3

/-- The places, one by one. -/
def ats (l : List (Int × Int)) : List Int := l.map Prod.fst
theorem ats_pair {l : List (Int × Int)} {n : Nat} (hl : l.length = n) (h : okk l n) : (ats l).Pairwise (fun a b => nm (a - b) ≠ 0) := by
  unfold ats
  rw [List.pairwise_map, List.pairwise_iff_getElem]
  intro i j hi hj hij
  have := ats_apart h (show i < n by omega) (show j < n by omega) (by omega)
  simpa [List.getElem?_eq_getElem hi, List.getElem?_eq_getElem hj] using this
theorem ats_mem {l : List (Int × Int)} {c : Int} (h : c ∈ ats l) : ∃ j, j < l.length ∧ (l.getD j (0, 0)).1 = c := by
  obtain ⟨p, hp, rfl⟩ := List.mem_map.1 h
  obtain ⟨j, hj, rfl⟩ := List.getElem_of_mem hp
  exact ⟨j, hj, by simp [List.getElem?_eq_getElem hj]⟩
theorem ats_len (l : List (Int × Int)) : (ats l).length = l.length := by simp [ats]
/-- Through the shares goes one polynomial of no more numbers than they are. -/
theorem one_through {l : List (Int × Int)} {n : Nat} {p q : List Int} (hl : l.length = n) (h : okk l n) (hp : p.length ≤ n) (hq : q.length ≤ n)
    (h1 : ∀ j, j < n → nm (ev p (l.getD j (0, 0)).1) = nm (l.getD j (0, 0)).2) (h2 : ∀ j, j < n → nm (ev q (l.getD j (0, 0)).1) = nm (l.getD j (0, 0)).2) : nrm p = nrm q := by
  refine same_poly (ats_pair hl h) (fun c hc => ?_) (by rw [ats_len]; omega) (by rw [ats_len]; omega)
  obtain ⟨j, hj, rfl⟩ := ats_mem hc
  rw [h1 j (by omega), h2 j (by omega)]
end Go.Proofs.Ytgmelcdgnjcojaf

namespace Go.Proofs.Ytgmelcdgnjcojaf
open Crm

/-- The first k numbers are parties, no two of them one. -/
def dis (f : Nat → Int) (k : Nat) : Prop := ∀ i, i < k → (1 ≤ f i ∧ f i ≤ 9) ∧ ∀ j, j < i → f j ≠ f i
theorem dis_zero (f : Nat → Int) : dis f 0 := fun i hi => by omega
theorem dis_succ {f : Nat → Int} {k : Nat} {x : Int} (h : dis f k) (hx : f k = x) (h1 : 1 ≤ x) (h2 : x ≤ 9) (h3 : ∀ j, j < k → f j ≠ x) : dis f (k + 1) := by
  intro i hi
  by_cases e : i = k
  · subst e; rw [hx]; exact ⟨⟨h1, h2⟩, h3⟩
  · exact h i (by omega)
theorem dis_le {f : Nat → Int} {k m : Nat} (h : dis f k) (hm : m ≤ k) : dis f m := fun i hi => h i (by omega)
/-- No more than there are numbers. -/
theorem pigeon : ∀ (m k : Nat) (f : Nat → Int), (∀ i, i < k → 1 ≤ f i ∧ f i ≤ (m : Int)) → (∀ i, i < k → ∀ j, j < i → f j ≠ f i) → k ≤ m
  | 0, k, f, h, _ => by
    cases k with
    | zero => omega
    | succ k => have := h 0 (by omega); omega
  | m + 1, k, f, h, hd => by
    by_cases hz : ∃ i, i < k ∧ f i = (m : Int) + 1
    · obtain ⟨i, hi, he⟩ := hz
      have := pigeon m (k - 1) (fun j => if j < i then f j else f (j + 1)) (fun j hj => by
        split
        · rename_i hji
          have h1 := h j (by omega)
          have h2 := hd i hi j hji
          omega
        · have h1 := h (j + 1) (by omega)
          have h2 := hd (j + 1) (by omega) i (by omega)
          omega) (fun j hj q hq => by
        by_cases h1 : q < i
        · by_cases h2 : j < i
          · rw [if_pos h1, if_pos h2]; exact hd j (by omega) q hq
          · rw [if_pos h1, if_neg h2]; exact hd (j + 1) (by omega) q (by omega)
        · rw [if_neg h1, if_neg (by omega)]; exact hd (j + 1) (by omega) (q + 1) (by omega))
      omega
    · have := pigeon m k f (fun i hi => by
        have h1 := h i hi
        have h2 : f i ≠ (m : Int) + 1 := fun e => hz ⟨i, hi, e⟩
        omega) hd
      omega
theorem dis_nine {f : Nat → Int} {k : Nat} (h : dis f k) : k ≤ 9 := pigeon 9 k f (fun i hi => (h i hi).1) (fun i hi => (h i hi).2)

/-- At which party a share stands. -/
def fa (l : List (Int × Int)) (i : Nat) : Int := (l.getD i (0, 0)).1
def fy (l : List (Int × Int)) (i : Nat) : Int := (l.getD i (0, 0)).2
theorem dis_okk {l : List (Int × Int)} {k : Nat} (h : dis (fa l) k) : okk l k := fun i hi => ⟨⟨(h i hi).1.1, by have := (h i hi).1.2; unfold fa at this; omega⟩, (h i hi).2⟩

/-- What is wrong with shares. -/
def She (l : List (Int × Int)) (n : Nat) (t r : Int) : Prop :=
  ((t < 0 ∨ 4 < t) ∧ r = 1) ∨ ((0 ≤ t ∧ t ≤ 4) ∧ ¬ dis (fa l) n ∧ r = 5) ∨ ((0 ≤ t ∧ t ≤ 4) ∧ dis (fa l) n ∧ (n : Int) ≤ t ∧ r = 4) ∨ ((0 ≤ t ∧ t ≤ 4) ∧ dis (fa l) n ∧ t < (n : Int) ∧ r = 0)
theorem She.one {l : List (Int × Int)} {n : Nat} {t r s : Int} (h : She l n t r) (k : She l n t s) : r = s := by
  rcases h with ⟨h1, h2⟩ | ⟨h1, h3, h2⟩ | ⟨h1, h3, h4, h2⟩ | ⟨h1, h3, h4, h2⟩ <;> rcases k with ⟨k1, k2⟩ | ⟨k1, k3, k2⟩ | ⟨k1, k3, k4, k2⟩ | ⟨k1, k3, k4, k2⟩ <;> first | omega | exact absurd k3 h3 | exact absurd h3 k3
theorem She.bd {l : List (Int × Int)} {n : Nat} {t r : Int} (h : She l n t r) : 0 ≤ r ∧ r ≤ 5 := by
  rcases h with ⟨_, h2⟩ | ⟨_, _, h2⟩ | ⟨_, _, _, h2⟩ | ⟨_, _, _, h2⟩ <;> omega
theorem She.ok {l : List (Int × Int)} {n : Nat} {t : Int} (h : She l n t 0) : 0 ≤ t ∧ t ≤ 4 ∧ dis (fa l) n ∧ t < (n : Int) ∧ n ≤ 9 := by
  rcases h with ⟨_, h2⟩ | ⟨_, _, h2⟩ | ⟨_, _, _, h2⟩ | ⟨h1, h3, h4, _⟩
  · omega
  · omega
  · omega
  · exact ⟨h1.1, h1.2, h3, h4, dis_nine h3⟩

/-- S has the first n shares. -/
def Hs (l : List (Int × Int)) (n : Nat) (S : List Int) : Prop := ∀ j, j < n → nm (ev S (l.getD j (0, 0)).1) = nm (l.getD j (0, 0)).2
/-- What Open tells. -/
def Opn (l : List (Int × Int)) (n : Nat) (t x r : Int) : Prop :=
  (She l n t r ∧ r ≠ 0 ∧ x = 0) ∨ (She l n t 0 ∧ ((∃ S : List Int, (S.length : Int) ≤ t + 1 ∧ Hs l n S ∧ x = nm (ev S 0) ∧ r = 0) ∨ ((∀ S : List Int, (S.length : Int) ≤ t + 1 → ¬ Hs l n S) ∧ x = 0 ∧ r = 6)))

/-- One polynomial of no more numbers than there are shares. -/
theorem hs_one {l : List (Int × Int)} {n : Nat} {S R : List Int} (ho : okk l n) (h : Hs l n S) (k : Hs l n R) (h1 : S.length ≤ n) (k1 : R.length ≤ n) : nrm S = nrm R := by
  have hw : ∀ j, j < n → ((List.range n).map fun i => l.getD i (0, 0)).getD j (0, 0) = l.getD j (0, 0) := fun j hj => by simp [hj]
  refine one_through (l := (List.range n).map fun i => l.getD i (0, 0)) (n := n) (by simp) (fun i hi => ?_) h1 k1 (fun j hj => ?_) (fun j hj => ?_)
  · rw [hw i hi]
    refine ⟨(ho i hi).1, fun j hj => ?_⟩
    rw [hw j (by omega)]
    exact (ho i hi).2 j hj
  · rw [hw j hj]; exact h j hj
  · rw [hw j hj]; exact k j hj
theorem ev_one {S R : List Int} (h : nrm S = nrm R) (x : Int) : nm (ev S x) = nm (ev R x) := by rw [← nrm_ev S, h, nrm_ev]

theorem Opn.one {l : List (Int × Int)} {n : Nat} {t x r y s : Int} (h : Opn l n t x r) (k : Opn l n t y s) : x = y ∧ r = s := by
  rcases h with ⟨h1, h2, h3⟩ | ⟨h1, h2⟩ <;> rcases k with ⟨k1, k2, k3⟩ | ⟨k1, k2⟩
  · exact ⟨by omega, h1.one k1⟩
  · exact absurd (h1.one k1) h2
  · exact absurd (k1.one h1) k2
  · obtain ⟨_, _, h4, h5, _⟩ := h1.ok
    rcases h2 with ⟨S, s1, s2, s3, s4⟩ | ⟨s1, s2, s3⟩ <;> rcases k2 with ⟨R, r1, r2, r3, r4⟩ | ⟨r1, r2, r3⟩
    · exact ⟨by rw [s3, r3]; exact ev_one (hs_one (dis_okk h4) s2 r2 (by omega) (by omega)) 0, by omega⟩
    · exact absurd s2 (r1 S s1)
    · exact absurd r2 (s1 R r1)
    · exact ⟨by omega, by omega⟩

/-- NEWTON's polynomial tells whether there is one of few numbers. -/
theorem opn_newton {l : List (Int × Int)} {n : Nat} {t : Int} {S : List Int} (h : She l n t 0) (hl : S.length = n) (hb : ∀ x ∈ S, 0 ≤ x ∧ x ≤ 2147483646) (hs : Hs l n S) :
    (((tl S n : Nat) : Int) ≤ t + 1 → Opn l n t (nm (ev (trm S) 0)) 0) ∧ (t + 1 < ((tl S n : Nat) : Int) → Opn l n t 0 6) := by
  obtain ⟨_, _, hd, h5, _⟩ := h.ok
  have e : nrm S = trm S := by unfold nrm; rw [nz_id hb]
  have hlen : (trm S).length = tl S n := by rw [trm_len, hl]
  have hst : Hs l n (trm S) := fun j hj => by rw [← e, nrm_ev]; exact hs j hj
  refine ⟨fun ht => Or.inr ⟨h, Or.inl ⟨trm S, by rw [hlen]; exact ht, hst, rfl, rfl⟩⟩, fun ht => Or.inr ⟨h, Or.inr ⟨fun R hR hr => ?_, rfl, rfl⟩⟩⟩
  have h1 := hs_one (dis_okk hd) hs hr (by omega) (by omega)
  have h2 := nrm_le R
  rw [← h1, e, hlen] at h2
  omega

/-- The polynomial through the first shares tells it too. -/
theorem opn_first {l : List (Int × Int)} {n m : Nat} {t : Int} {p : List Int} (h : She l n t 0) (hm : t + 1 = (m : Int)) (hl : p.length ≤ m) (hp : Hs l m p) :
    (Hs l n p → Opn l n t (nm (ev p 0)) 0) ∧ (¬ Hs l n p → Opn l n t 0 6) := by
  obtain ⟨_, _, hd, h5, _⟩ := h.ok
  refine ⟨fun hs => Or.inr ⟨h, Or.inl ⟨p, by omega, hs, rfl, rfl⟩⟩, fun hs => Or.inr ⟨h, Or.inr ⟨fun R hR hr => hs fun j hj => ?_, rfl, rfl⟩⟩⟩
  have h1 := hs_one (l := l) (n := m) (dis_okk (dis_le hd (by omega))) hp (fun j hj => hr j (by omega)) hl (by omega)
  rw [ev_one h1]
  exact hr j hj

/-- By what the number of party i is multiplied. -/
def Wgt (ts : List Int) (n i : Nat) (x : Int) : Prop := ∃ Q : List Int, Q.length ≤ n ∧ (∀ j, j < n → nm (ev Q (ts.getD j 0)) = if j = i then 1 else 0) ∧ x = nm (ev Q 0)
def fi (ts : List Int) (i : Nat) : Int := ts.getD i 0
theorem Wgt.one {ts : List Int} {n i : Nat} {x y : Int} (hd : dis (fi ts) n) (h : Wgt ts n i x) (k : Wgt ts n i y) : x = y := by
  obtain ⟨Q, q1, q2, rfl⟩ := h
  obtain ⟨R, r1, r2, rfl⟩ := k
  have hw : ∀ j, j < n → ((List.range n).map fun k => (ts.getD k 0, if k = i then (1 : Int) else 0)).getD j (0, 0) = (ts.getD j 0, if j = i then (1 : Int) else 0) := fun j hj => by simp [hj]
  refine ev_one (hs_one (l := (List.range n).map fun k => (ts.getD k 0, if k = i then (1 : Int) else 0)) (n := n) (fun j hj => ?_) (fun j hj => ?_) (fun j hj => ?_) q1 r1) 0
  · rw [hw j hj]
    refine ⟨⟨(hd j hj).1.1, by have := (hd j hj).1.2; unfold fi at this; simp only; omega⟩, fun q hq => ?_⟩
    rw [hw q (by omega)]
    exact (hd j hj).2 q hq
  · rw [hw j hj]
    simp only
    rw [q2 j hj]; split <;> decide
  · rw [hw j hj]
    simp only
    rw [r2 j hj]; split <;> decide

/-- The product of what the others are less x. -/
def pr (ts : List Int) (a x : Int) : Nat → Int
  | 0 => 1
  | k + 1 => if ts.getD k 0 = a then pr ts a x k else pr ts a x k * (ts.getD k 0 - x)
theorem pr_skip {ts : List Int} {a x : Int} {k : Nat} (h : ts.getD k 0 = a) : pr ts a x (k + 1) = pr ts a x k := by rw [pr, if_pos h]
theorem pr_take {ts : List Int} {a x : Int} {k : Nat} (h : ts.getD k 0 ≠ a) : pr ts a x (k + 1) = pr ts a x k * (ts.getD k 0 - x) := by rw [pr, if_neg h]
def prl (ts : List Int) (a c : Int) : Nat → List Int
  | 0 => [c]
  | k + 1 => if ts.getD k 0 = a then prl ts a c k else cvl (prl ts a c k) [ts.getD k 0, -1]
theorem prl_ev (ts : List Int) (a c x : Int) : ∀ k, nm (ev (prl ts a c k) x) = nm (c * pr ts a x k)
  | 0 => by rw [prl, pr, ev, ev, Int.mul_zero, Int.add_zero, Int.mul_one]
  | k + 1 => by
    rw [prl, pr]
    split
    · exact prl_ev ts a c x k
    · rw [cvl_ev, ← Int.mul_assoc]
      refine nm_mul_congr (prl_ev ts a c x k) ?_
      rw [ev_pair]
      congr 1
      omega
theorem prl_len (ts : List Int) (a c : Int) (i : Nat) (hi : ts.getD i 0 = a) : ∀ k, (prl ts a c k).length ≤ if i < k then k else k + 1
  | 0 => by simp [prl]
  | k + 1 => by
    have := prl_len ts a c i hi k
    rw [prl]
    by_cases e : i = k
    · subst e
      rw [if_pos hi, if_pos (by omega)]
      rw [if_neg (by omega)] at this
      exact this
    · split
      · split at this <;> split <;> omega
      · rw [cvl_len]
        have h2 : ([ts.getD k 0, -1] : List Int).length = 2 := rfl
        rw [h2]
        split at this <;> split <;> omega
theorem pr_zero {ts : List Int} {a : Int} {m : Nat} (hm : ts.getD m 0 ≠ a) : ∀ k, m < k → pr ts a (ts.getD m 0) k = 0
  | 0, h => by omega
  | k + 1, h => by
    by_cases e : m = k
    · subst e
      rw [pr_take hm, Int.sub_self, Int.mul_zero]
    · rw [pr]
      have := pr_zero (a := a) hm k (by omega)
      split
      · exact this
      · rw [this, Int.zero_mul]
theorem pr_own {ts : List Int} {n i : Nat} (hd : dis (fi ts) n) (hi : i < n) : ∀ k, k ≤ n → nm (pr ts (ts.getD i 0) (ts.getD i 0) k) ≠ 0
  | 0, _ => by rw [pr]; decide
  | k + 1, h => by
    have ih := pr_own hd hi k (by omega)
    rw [pr]
    split
    · exact ih
    · rename_i hne
      intro e
      have h1 := nm_mul_zero e ih
      have h2 := (hd k (by omega)).1
      have h3 := (hd i hi).1
      unfold fi at h2 h3
      unfold nm at h1
      omega
/-- LAGRANGE's weight. -/
theorem wgt_lag {ts : List Int} {n i : Nat} (hd : dis (fi ts) n) (hi : i < n) {a b : Int} (ha : nm a = nm (pr ts (ts.getD i 0) 0 n)) (hb : nm b = nm (pr ts (ts.getD i 0) (ts.getD i 0) n)) : Wgt ts n i (nm (a * iv b)) := by
  have hne : nm b ≠ 0 := by rw [hb]; exact pr_own hd hi n (Nat.le_refl _)
  refine ⟨prl ts (ts.getD i 0) (iv b) n, ?_, fun j hj => ?_, ?_⟩
  · have := prl_len ts (ts.getD i 0) (iv b) i rfl n
    rw [if_pos hi] at this
    exact this
  · rw [prl_ev]
    by_cases e : j = i
    · subst e
      rw [if_pos rfl, nm_mul_congr rfl hb.symm, iv_mul hne]
    · rw [if_neg e]
      have h1 : ts.getD j 0 ≠ ts.getD i 0 := by
        rcases Nat.lt_or_ge j i with h | h
        · exact (hd i hi).2 j h
        · exact fun e' => (hd j hj).2 i (by omega) e'.symm
      rw [pr_zero h1 n hj, Int.mul_zero]; rfl
  · rw [prl_ev, Int.mul_comm]
    exact nm_mul_congr rfl ha
/-- The weight of party i among n. -/
def wt (ts : List Int) (n i : Nat) : Int := nm (nm (pr ts (ts.getD i 0) 0 n) * iv (nm (pr ts (ts.getD i 0) (ts.getD i 0) n)))
theorem wt_bd (ts : List Int) (n i : Nat) : 0 ≤ wt ts n i ∧ wt ts n i ≤ 2147483646 := nm_bd _
theorem wt_wgt {ts : List Int} {n i : Nat} (hd : dis (fi ts) n) (hi : i < n) : Wgt ts n i (wt ts n i) := wgt_lag hd hi (nm_nm _) (nm_nm _)
end Go.Proofs.Ytgmelcdgnjcojaf
