/- croftref.Join: plain facts. · croftref.Product. · croftref.Through: LAGRANGE. -/
import Derived.Test.YtgmelcdgnjcojafToBadM
import Derived.Test.YtgmelcdgnjcojafToRDecM
import Derived.Test.YtgmelcdgnjcojafToSumC
import Derived.Test.YtgmelcdgnjcojafToFaceC
import Derived.Deep.QuietTactic
import Derived.BigQuiet
import Derived.Test.YtgmelcdgnjcojafToKrMap
namespace Go.Proofs.Ytgmelcdgnjcojaf
open Crm

/-- Number j of each row, as shares. -/
def colS (l : List (Int × List Int)) (j n : Nat) : List (Int × Int) := (List.range n).map fun r => (ta l r, (tc l r).getD j 0)
theorem colS_len (l : List (Int × List Int)) (j n : Nat) : (colS l j n).length = n := by simp [colS]
theorem colS_getD (l : List (Int × List Int)) (j : Nat) {n r : Nat} (h : r < n) : (colS l j n).getD r (0, 0) = (ta l r, (tc l r).getD j 0) := by simp [colS, h]
theorem colS_snoc (l : List (Int × List Int)) (j n : Nat) {x y : Int} (hx : ta l n = x) (hy : (tc l n).getD j 0 = y) : colS l j n ++ [(x, y)] = colS l j (n + 1) := by rw [← hx, ← hy]; simp [colS, List.range_succ]
theorem colS_dis {l : List (Int × List Int)} {n : Nat} (h : dis (ta l) n) (j : Nat) : dis (fa (colS l j n)) n := fun i hi => by
  have e : ∀ q, q < n → fa (colS l j n) q = ta l q := fun q hq => by unfold fa; rw [colS_getD l j hq]
  rw [e i hi]
  exact ⟨(h i hi).1, fun q hq => by rw [e q (by omega)]; exact (h i hi).2 q hq⟩
theorem colS_hs {l : List (Int × List Int)} {j n m : Nat} {p : List Int} (hm : m ≤ n) : Hs (colS l j n) m p ↔ ∀ r, r < m → nm (ev p (ta l r)) = nm ((tc l r).getD j 0) := by
  constructor
  · intro h r hr
    have := h r hr
    rwa [colS_getD l j (by omega)] at this
  · intro h r hr
    rw [colS_getD l j (by omega)]
    exact h r hr
/-- A column that no polynomial of t + 1 numbers has. -/
theorem col_no {l : List (Int × List Int)} {n t j : Nat} {p : List Int} (hd : dis (ta l) n) (hn : t < n) (hj : j ≤ t) (hp : p.length ≤ t + 1) (hH : Hs (colS l j n) (t + 1) p) (hb : (bdl (colS l j n) p n).length ≠ 0) : ∀ G, ¬ TwF l n t G := fun G hG => hb <| by
  rw [bdl_nil]
  have h1 : Hs (colS l j n) n (G j) := (colS_hs (Nat.le_refl _)).2 (hG.val j hj)
  have h2 := hs_one (l := colS l j n) (n := t + 1) (dis_okk (dis_le (colS_dis hd j) (by omega))) hH (fun r hr => h1 r (by omega)) hp (hG.le j hj)
  intro r hr
  rw [ev_one h2]
  exact h1 r hr
/-- The first k columns. -/
structure Cls (l : List (Int × List Int)) (n t k : Nat) (F : List (List Int)) : Prop where
  len : F.length = k
  wid : ∀ q, q < k → (F.getD q []).length = t + 1
  bd : ∀ q, q < k → ∀ x ∈ F.getD q [], 0 ≤ x ∧ x ≤ 2147483646
  val : ∀ q, q < k → ∀ r, r < n → nm (ev (F.getD q []) (ta l r)) = nm ((tc l r).getD q 0)
theorem cls_nil (l : List (Int × List Int)) (n t : Nat) : Cls l n t 0 [] := ⟨rfl, fun q hq => by omega, fun q hq => by omega, fun q hq => by omega⟩
theorem cls_add {l : List (Int × List Int)} {n t k : Nat} {F : List (List Int)} {p : List Int} (h : Cls l n t k F) (hp : p.length ≤ t + 1) (hb : (bdl (colS l k n) p n).length = 0) : Cls l n t (k + 1) (F ++ [pdn p (t + 1)]) := by
  have hl := h.len
  have g1 : ∀ q, q < k → (F ++ [pdn p (t + 1)]).getD q [] = F.getD q [] := fun q hq => by simp [List.getElem?_append_left (show q < F.length by omega)]
  have g2 : (F ++ [pdn p (t + 1)]).getD k [] = pdn p (t + 1) := by rw [← hl]; simp
  have hH := (colS_hs (Nat.le_refl _)).1 ((bdl_nil _ _ _).1 hb)
  refine ⟨by simp [hl], fun q hq => ?_, fun q hq => ?_, fun q hq r hr => ?_⟩
  · by_cases e : q = k
    · rw [e, g2, pdn_len]
    · rw [g1 q (by omega)]; exact h.wid q (by omega)
  · by_cases e : q = k
    · rw [e, g2]; exact pdn_bd _ _
    · rw [g1 q (by omega)]; exact h.bd q (by omega)
  · by_cases e : q = k
    · rw [e, g2, ← hH r hr]
      refine ev_congr _ _ _ fun i => ?_
      by_cases hi : i < t + 1
      · rw [pdn_getD p hi, nm_nm]
      · rw [getD_big (by rw [pdn_len]; omega), getD_big (show p.length ≤ i by omega)]
    · rw [g1 q (by omega)]; exact h.val q (by omega) r hr
/-- Column i's number j. -/
def cn (F : List (List Int)) (i j : Nat) : Int := (F.getD i []).getD j 0
theorem cls_no {l : List (Int × List Int)} {n t i j : Nat} {F : List (List Int)} (hd : dis (ta l) n) (hn : t < n) (h : Cls l n t (t + 1) F) (hi : i ≤ t) (hj : j ≤ t) (hne : cn F i j ≠ cn F j i) : ∀ G, ¬ TwF l n t G := fun G hG => hne <| by
  have e : ∀ a b, a ≤ t → b ≤ t → cn F a b = nm ((G a).getD b 0) := fun a b ha hb => by
    have h1 := col_one hd hn (by rw [h.wid a (by omega)]; exact Nat.le_refl _) (hG.le a ha) (fun r hr => by rw [h.val a (by omega) r hr, hG.val a ha r hr])
    have h2 := getD_bd' (h.bd a (by omega)) b
    unfold cn
    rw [← nm_small h2.1 h2.2, ← nrm_getD, h1, nrm_getD]
  rw [e i j hi hj, e j i hj hi]
  exact hG.sym i j hi hj
theorem cls_yes {l : List (Int × List Int)} {n t : Nat} {F : List (List Int)} (h : Cls l n t (t + 1) F) (hs : ∀ i j, i ≤ t → j < i → cn F i j = cn F j i) : TwF l n t (fun j => F.getD j []) ∧ cn F 0 0 = nm ((F.getD 0 []).getD 0 0) := by
  refine ⟨⟨fun j hj => by rw [h.wid j (by omega)]; exact Nat.le_refl _, fun i j hi hj => ?_, fun j hj r hr => h.val j (by omega) r hr⟩, ?_⟩
  · rcases Nat.lt_trichotomy i j with h1 | h1 | h1
    · have := hs j i hj h1
      unfold cn at this
      rw [this]
    · rw [h1]
    · have := hs i j hi h1
      unfold cn at this
      rw [this]
  · have h2 := getD_bd' (h.bd 0 (by omega)) 0
    unfold cn
    rw [nm_small h2.1 h2.2]
end Go.Proofs.Ytgmelcdgnjcojaf

namespace Go.Proofs.Ytgmelcdgnjcojaf
open Go.RowKit Crm

/-- The first k numbers of the product. -/
def cvk (ps qs : List Int) (k : Nat) : List Int := (List.range k).map fun q => nm (pc ps qs q ps.length)
theorem cvk_step (ps qs : List Int) (k : Nat) {v : Int} (e : v = nm (pc ps qs k ps.length)) : cvk ps qs k ++ [v] = cvk ps qs (k + 1) := by
  unfold cvk
  rw [List.range_succ, List.map_append, e]
  rfl
theorem cvk_bd (ps qs : List Int) (k : Nat) : ∀ x ∈ cvk ps qs k, 0 ≤ x ∧ x ≤ 18446744073709551615 := by
  intro x hx
  obtain ⟨k, _, rfl⟩ := List.mem_map.1 hx
  have := nm_bd (pc ps qs k ps.length)
  omega
/-- Behind the k-th number nothing is added. -/
theorem pc_more (ps qs : List Int) (k : Nat) : ∀ d, pc ps qs k (k + 1 + d) = pc ps qs k (k + 1)
  | 0 => rfl
  | d + 1 => by
    show pc ps qs k (k + 1 + d) + tm ps qs k (k + 1 + d) = _
    rw [pc_more ps qs k d, tm, if_neg (by omega), Int.add_zero]
theorem pc_end (ps qs : List Int) (k i : Nat) (h : i = k + 1 ∨ i = ps.length) (hi : i ≤ ps.length) (hk : i ≤ k + 1) : pc ps qs k i = pc ps qs k ps.length := by
  rcases h with rfl | rfl
  · have := pc_more ps qs k (ps.length - (k + 1))
    rw [show k + 1 + (ps.length - (k + 1)) = ps.length by omega] at this
    exact this.symm
  · rfl
theorem pc_hit {ps qs : List Int} {k i : Nat} {x y s : Int} (hk : i ≤ k) (hx : ps.getD i 0 = x) (hy : qs.getD (k - i) 0 = y) (hs : s = nm (pc ps qs k i)) : nm (s + nm (x * y)) = nm (pc ps qs k (i + 1)) := by
  rw [pc, tm, if_pos hk, hx, hy, hs, nm_addl, nm_addr]
theorem pc_miss {ps qs : List Int} {k i : Nat} (hk : qs.length ≤ k - i) : pc ps qs k (i + 1) = pc ps qs k i := by
  rw [pc, tm]
  have : qs.getD (k - i) 0 = 0 := by rw [List.getD_eq_getElem?_getD, List.getElem?_eq_none hk]; rfl
  split
  · rw [this, Int.mul_zero, Int.add_zero]
  · rw [Int.add_zero]

end Go.Proofs.Ytgmelcdgnjcojaf

namespace Go.Proofs.Ytgmelcdgnjcojaf
open Go.RowKit Crm

theorem nil_rd' (w : World) : Rd w none 0 0 [] := ⟨rfl, Nat.le_refl _, Nat.zero_le _, by simp, fun _ => rfl, by simp⟩
theorem nrm_nil {xs : List Int} {n : Nat} (hl : xs.length = n) (h : tl (nz xs) n = 0) (x : Int) : nm (ev xs x) = 0 := by
  have h1 : (nrm xs).length = 0 := by rw [nrm_len, hl, h]
  rw [← nrm_ev, List.eq_nil_of_length_eq_zero h1]
  rfl

/-- What the inner round keeps: the value at its own share, 0 at those that came. -/
structure LgI (l : List (Int × Int)) (i m : Nat) (q : List Int) : Prop where
  le : q.length ≤ if i < m then m else m + 1
  own : nm (ev q (l.getD i (0, 0)).1) = nm (l.getD i (0, 0)).2
  zero : ∀ j, j < m → j ≠ i → nm (ev q (l.getD j (0, 0)).1) = 0
theorem lg_start (l : List (Int × Int)) (i : Nat) : LgI l i 0 [(l.getD i (0, 0)).2] :=
  ⟨by simp, by rw [ev, ev, Int.mul_zero, Int.add_zero], fun j hj => by omega⟩
theorem lg_skip {l : List (Int × Int)} {i : Nat} {q : List Int} (h : LgI l i i q) : LgI l i (i + 1) q :=
  ⟨by have := h.le; simp at this ⊢; omega, h.own, fun j hj hji => h.zero j (by omega) hji⟩
theorem lg_step {l : List (Int × Int)} {n i m : Nat} {q p : List Int} {x z u : Int} (ho : okk l n) (hi : i < n) (hm : m < n) (h : LgI l i m q) (hne : m ≠ i) (hx : (l.getD i (0, 0)).1 = x) (hz : (l.getD m (0, 0)).1 = z)
    (hu : u = iv (nm (x + nm (-z)))) (hl : p.length ≤ q.length + 2 - 1) (hp : ∀ y, nm (ev p y) = nm (ev q y * ev [nm (nm (-z) * u), u] y)) : LgI l i (m + 1) p := by
  have hpp : ∀ y, nm (ev p y) = nm (ev q y * ((y - z) * u)) := fun y => by
    rw [hp]
    refine nm_mul_congr rfl ?_
    rw [ev_pair, nm_addl, ← nm_addl, nm_mull, nm_addl, Int.sub_mul, Int.neg_mul]
    congr 1; omega
  refine ⟨?_, ?_, ?_⟩
  · have := h.le
    split at this <;> split <;> omega
  · rw [hpp, hx]
    have h1 : nm ((x - z) * u) = 1 := by
      have e : nm (x + nm (-z)) = nm (x - z) := by rw [nm_addr]; congr 1
      rw [hu, iv_nm, ← nm_mull, ← e, nm_mull]
      have h2 : nm (x + nm (-z)) ≠ 0 := by rw [e, ← hx, ← hz]; exact ats_apart ho hi hm (fun e => hne e.symm)
      rw [mul_iv h2]
    rw [nm_mul_congr (c := ev q x) (d := 1) rfl (by rw [h1]; rfl), Int.mul_one, ← hx]
    exact h.own
  · intro j hj hji
    rw [hpp]
    by_cases e : j = m
    · subst e
      rw [hz, Int.sub_self, Int.zero_mul, Int.mul_zero]; rfl
    · rw [nm_mul_congr (c := 0) (h.zero j (by omega) hji) rfl, Int.zero_mul]; rfl

/-- What the outer round keeps: the values of the shares that came, 0 at the others. -/
structure LoI (l : List (Int × Int)) (n k : Nat) (p : List Int) : Prop where
  nml : Nml p
  le : p.length ≤ n
  val : ∀ j, j < n → nm (ev p (l.getD j (0, 0)).1) = if j < k then nm (l.getD j (0, 0)).2 else 0
theorem lo_start (l : List (Int × Int)) (n : Nat) : LoI l n 0 [] := ⟨⟨fun x hx => (by cases hx), fun h => (by simp at h)⟩, Nat.zero_le _, fun j _ => by rw [if_neg (by omega)]; rfl⟩
theorem lo_step {l : List (Int × Int)} {n k : Nat} {p q : List Int} (h : LoI l n k p) (hk : k < n) (hq : LgI l k n q) : LoI l n (k + 1) (nrm (sml p q)) := by
  have hql : q.length ≤ n := by have := hq.le; rw [if_pos hk] at this; exact this
  refine ⟨nrm_Nml _, ?_, fun j hj => ?_⟩
  · have := nrm_le (sml p q)
    rw [sml_len] at this
    have := h.le
    omega
  · rw [nrm_ev, sml_ev]
    by_cases e : j = k
    · subst e
      have h1 := h.val j hj
      rw [if_neg (by omega)] at h1
      rw [if_pos (by omega), nm_add_congr (c := 0) (d := (l.getD j (0, 0)).2) h1 hq.own, Int.zero_add]
    · have h1 := h.val j hj
      rw [nm_add_congr (c := ev p (l.getD j (0, 0)).1) (d := 0) rfl (hq.zero j hj e), Int.add_zero, h1]
      by_cases h2 : j < k
      · rw [if_pos h2, if_pos (by omega)]
      · rw [if_neg h2, if_neg (by omega)]

end Go.Proofs.Ytgmelcdgnjcojaf
