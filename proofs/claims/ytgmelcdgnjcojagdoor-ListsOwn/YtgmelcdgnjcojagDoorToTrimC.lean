/- Shares of a secret: plain facts. · poly.addTimes. · poly.trim, poly.normal. -/
import Derived.Test.YtgmelcdgnjcojagDoorToNewtonM
import Derived.Test.YtgmelcdgnjcojagDoorToPolyM
import Derived.Deep.RegionWith
namespace Go.Proofs.YtgmelcdgnjcojagDoor
open Crm

/-- The first k numbers are parties, no two of them one. -/
def dis (f : Nat → Int) (k : Nat) : Prop := ∀ i, i < k → (1 ≤ f i ∧ f i ≤ 9) ∧ ∀ j, j < i → f j ≠ f i
theorem dis_zero (f : Nat → Int) : dis f 0 := fun i hi => by omega
theorem dis_succ {f : Nat → Int} {k : Nat} {x : Int} (h : dis f k) (hx : f k = x) (h1 : 1 ≤ x) (h2 : x ≤ 9) (h3 : ∀ j, j < k → f j ≠ x) : dis f (k + 1) := by
  intro i hi
  by_cases e : i = k
  · subst e; rw [hx]; exact ⟨⟨h1, h2⟩, h3⟩
  · exact h i (by omega)
theorem dis_le {f : Nat → Int} {k m : Nat} (h : dis f k) (hm : m ≤ k) : dis f m := fun i hi => h i (by omega)
/-- No more than there are numbers. -/
theorem pigeon : ∀ (m k : Nat) (f : Nat → Int), (∀ i, i < k → 1 ≤ f i ∧ f i ≤ (m : Int)) → (∀ i, i < k → ∀ j, j < i → f j ≠ f i) → k ≤ m
  | 0, k, f, h, _ => by
    cases k with
    | zero => omega
    | succ k => have := h 0 (by omega); omega
  | m + 1, k, f, h, hd => by
    by_cases hz : ∃ i, i < k ∧ f i = (m : Int) + 1
    · obtain ⟨i, hi, he⟩ := hz
      have := pigeon m (k - 1) (fun j => if j < i then f j else f (j + 1)) (fun j hj => by
        split
        · rename_i hji
          have h1 := h j (by omega)
          have h2 := hd i hi j hji
          omega
        · have h1 := h (j + 1) (by omega)
          have h2 := hd (j + 1) (by omega) i (by omega)
          omega) (fun j hj q hq => by
        by_cases h1 : q < i
        · by_cases h2 : j < i
          · rw [if_pos h1, if_pos h2]; exact hd j (by omega) q hq
          · rw [if_pos h1, if_neg h2]; exact hd (j + 1) (by omega) q (by omega)
        · rw [if_neg h1, if_neg (by omega)]; exact hd (j + 1) (by omega) (q + 1) (by omega))
      omega
    · have := pigeon m k f (fun i hi => by
        have h1 := h i hi
        have h2 : f i ≠ (m : Int) + 1 := fun e => hz ⟨i, hi, e⟩
        omega) hd
      omega
theorem dis_nine {f : Nat → Int} {k : Nat} (h : dis f k) : k ≤ 9 := pigeon 9 k f (fun i hi => (h i hi).1) (fun i hi => (h i hi).2)

/-- At which party a share stands. -/
def fa (l : List (Int × Int)) (i : Nat) : Int := (l.getD i (0, 0)).1
def fy (l : List (Int × Int)) (i : Nat) : Int := (l.getD i (0, 0)).2
theorem dis_okk {l : List (Int × Int)} {k : Nat} (h : dis (fa l) k) : okk l k := fun i hi => ⟨⟨(h i hi).1.1, by have := (h i hi).1.2; unfold fa at this; omega⟩, (h i hi).2⟩

/-- What is wrong with shares. -/
def She (l : List (Int × Int)) (n : Nat) (t r : Int) : Prop :=
  ((t < 0 ∨ 4 < t) ∧ r = 1) ∨ ((0 ≤ t ∧ t ≤ 4) ∧ ¬ dis (fa l) n ∧ r = 5) ∨ ((0 ≤ t ∧ t ≤ 4) ∧ dis (fa l) n ∧ (n : Int) ≤ t ∧ r = 4) ∨ ((0 ≤ t ∧ t ≤ 4) ∧ dis (fa l) n ∧ t < (n : Int) ∧ r = 0)
theorem She.one {l : List (Int × Int)} {n : Nat} {t r s : Int} (h : She l n t r) (k : She l n t s) : r = s := by
  rcases h with ⟨h1, h2⟩ | ⟨h1, h3, h2⟩ | ⟨h1, h3, h4, h2⟩ | ⟨h1, h3, h4, h2⟩ <;> rcases k with ⟨k1, k2⟩ | ⟨k1, k3, k2⟩ | ⟨k1, k3, k4, k2⟩ | ⟨k1, k3, k4, k2⟩ <;> first | omega | exact absurd k3 h3 | exact absurd h3 k3
theorem She.bd {l : List (Int × Int)} {n : Nat} {t r : Int} (h : She l n t r) : 0 ≤ r ∧ r ≤ 5 := by
  rcases h with ⟨_, h2⟩ | ⟨_, _, h2⟩ | ⟨_, _, _, h2⟩ | ⟨_, _, _, h2⟩ <;> omega
theorem She.ok {l : List (Int × Int)} {n : Nat} {t : Int} (h : She l n t 0) : 0 ≤ t ∧ t ≤ 4 ∧ dis (fa l) n ∧ t < (n : Int) ∧ n ≤ 9 := by
  rcases h with ⟨_, h2⟩ | ⟨_, _, h2⟩ | ⟨_, _, _, h2⟩ | ⟨h1, h3, h4, _⟩
  · omega
  · omega
  · omega
  · exact ⟨h1.1, h1.2, h3, h4, dis_nine h3⟩

/-- S has the first n shares. -/
def Hs (l : List (Int × Int)) (n : Nat) (S : List Int) : Prop := ∀ j, j < n → nm (ev S (l.getD j (0, 0)).1) = nm (l.getD j (0, 0)).2
/-- What Open tells. -/
def Opn (l : List (Int × Int)) (n : Nat) (t x r : Int) : Prop :=
  (She l n t r ∧ r ≠ 0 ∧ x = 0) ∨ (She l n t 0 ∧ ((∃ S : List Int, (S.length : Int) ≤ t + 1 ∧ Hs l n S ∧ x = nm (ev S 0) ∧ r = 0) ∨ ((∀ S : List Int, (S.length : Int) ≤ t + 1 → ¬ Hs l n S) ∧ x = 0 ∧ r = 6)))

/-- One polynomial of no more numbers than there are shares. -/
theorem hs_one {l : List (Int × Int)} {n : Nat} {S R : List Int} (ho : okk l n) (h : Hs l n S) (k : Hs l n R) (h1 : S.length ≤ n) (k1 : R.length ≤ n) : nrm S = nrm R := by
  have hw : ∀ j, j < n → ((List.range n).map fun i => l.getD i (0, 0)).getD j (0, 0) = l.getD j (0, 0) := fun j hj => by simp [hj]
  refine one_through (l := (List.range n).map fun i => l.getD i (0, 0)) (n := n) (by simp) (fun i hi => ?_) h1 k1 (fun j hj => ?_) (fun j hj => ?_)
  · rw [hw i hi]
    refine ⟨(ho i hi).1, fun j hj => ?_⟩
    rw [hw j (by omega)]
    exact (ho i hi).2 j hj
  · rw [hw j hj]; exact h j hj
  · rw [hw j hj]; exact k j hj
theorem ev_one {S R : List Int} (h : nrm S = nrm R) (x : Int) : nm (ev S x) = nm (ev R x) := by rw [← nrm_ev S, h, nrm_ev]

theorem Opn.one {l : List (Int × Int)} {n : Nat} {t x r y s : Int} (h : Opn l n t x r) (k : Opn l n t y s) : x = y ∧ r = s := by
  rcases h with ⟨h1, h2, h3⟩ | ⟨h1, h2⟩ <;> rcases k with ⟨k1, k2, k3⟩ | ⟨k1, k2⟩
  · exact ⟨by omega, h1.one k1⟩
  · exact absurd (h1.one k1) h2
  · exact absurd (k1.one h1) k2
  · obtain ⟨_, _, h4, h5, _⟩ := h1.ok
    rcases h2 with ⟨S, s1, s2, s3, s4⟩ | ⟨s1, s2, s3⟩ <;> rcases k2 with ⟨R, r1, r2, r3, r4⟩ | ⟨r1, r2, r3⟩
    · exact ⟨by rw [s3, r3]; exact ev_one (hs_one (dis_okk h4) s2 r2 (by omega) (by omega)) 0, by omega⟩
    · exact absurd s2 (r1 S s1)
    · exact absurd r2 (s1 R r1)
    · exact ⟨by omega, by omega⟩

/-- NEWTON's polynomial tells whether there is one of few numbers. -/
theorem opn_newton {l : List (Int × Int)} {n : Nat} {t : Int} {S : List Int} (h : She l n t 0) (hl : S.length = n) (hb : ∀ x ∈ S, 0 ≤ x ∧ x ≤ 2147483646) (hs : Hs l n S) :
    (((tl S n : Nat) : Int) ≤ t + 1 → Opn l n t (nm (ev (trm S) 0)) 0) ∧ (t + 1 < ((tl S n : Nat) : Int) → Opn l n t 0 6) := by
  obtain ⟨_, _, hd, h5, _⟩ := h.ok
  have e : nrm S = trm S := by unfold nrm; rw [nz_id hb]
  have hlen : (trm S).length = tl S n := by rw [trm_len, hl]
  have hst : Hs l n (trm S) := fun j hj => by rw [← e, nrm_ev]; exact hs j hj
  refine ⟨fun ht => Or.inr ⟨h, Or.inl ⟨trm S, by rw [hlen]; exact ht, hst, rfl, rfl⟩⟩, fun ht => Or.inr ⟨h, Or.inr ⟨fun R hR hr => ?_, rfl, rfl⟩⟩⟩
  have h1 := hs_one (dis_okk hd) hs hr (by omega) (by omega)
  have h2 := nrm_le R
  rw [← h1, e, hlen] at h2
  omega

/-- The polynomial through the first shares tells it too. -/
theorem opn_first {l : List (Int × Int)} {n m : Nat} {t : Int} {p : List Int} (h : She l n t 0) (hm : t + 1 = (m : Int)) (hl : p.length ≤ m) (hp : Hs l m p) :
    (Hs l n p → Opn l n t (nm (ev p 0)) 0) ∧ (¬ Hs l n p → Opn l n t 0 6) := by
  obtain ⟨_, _, hd, h5, _⟩ := h.ok
  refine ⟨fun hs => Or.inr ⟨h, Or.inl ⟨p, by omega, hs, rfl, rfl⟩⟩, fun hs => Or.inr ⟨h, Or.inr ⟨fun R hR hr => hs fun j hj => ?_, rfl, rfl⟩⟩⟩
  have h1 := hs_one (l := l) (n := m) (dis_okk (dis_le hd (by omega))) hp (fun j hj => hr j (by omega)) hl (by omega)
  rw [ev_one h1]
  exact hr j hj

/-- By what the number of party i is multiplied. -/
def Wgt (ts : List Int) (n i : Nat) (x : Int) : Prop := ∃ Q : List Int, Q.length ≤ n ∧ (∀ j, j < n → nm (ev Q (ts.getD j 0)) = if j = i then 1 else 0) ∧ x = nm (ev Q 0)
def fi (ts : List Int) (i : Nat) : Int := ts.getD i 0
theorem Wgt.one {ts : List Int} {n i : Nat} {x y : Int} (hd : dis (fi ts) n) (h : Wgt ts n i x) (k : Wgt ts n i y) : x = y := by
  obtain ⟨Q, q1, q2, rfl⟩ := h
  obtain ⟨R, r1, r2, rfl⟩ := k
  have hw : ∀ j, j < n → ((List.range n).map fun k => (ts.getD k 0, if k = i then (1 : Int) else 0)).getD j (0, 0) = (ts.getD j 0, if j = i then (1 : Int) else 0) := fun j hj => by simp [hj]
  refine ev_one (hs_one (l := (List.range n).map fun k => (ts.getD k 0, if k = i then (1 : Int) else 0)) (n := n) (fun j hj => ?_) (fun j hj => ?_) (fun j hj => ?_) q1 r1) 0
  · rw [hw j hj]
    refine ⟨⟨(hd j hj).1.1, by have := (hd j hj).1.2; unfold fi at this; simp only; omega⟩, fun q hq => ?_⟩
    rw [hw q (by omega)]
    exact (hd j hj).2 q hq
  · rw [hw j hj]
    simp only
    rw [q2 j hj]; split <;> decide
  · rw [hw j hj]
    simp only
    rw [r2 j hj]; split <;> decide

/-- The product of what the others are less x. -/
def pr (ts : List Int) (a x : Int) : Nat → Int
  | 0 => 1
  | k + 1 => if ts.getD k 0 = a then pr ts a x k else pr ts a x k * (ts.getD k 0 - x)
theorem pr_skip {ts : List Int} {a x : Int} {k : Nat} (h : ts.getD k 0 = a) : pr ts a x (k + 1) = pr ts a x k := by rw [pr, if_pos h]
theorem pr_take {ts : List Int} {a x : Int} {k : Nat} (h : ts.getD k 0 ≠ a) : pr ts a x (k + 1) = pr ts a x k * (ts.getD k 0 - x) := by rw [pr, if_neg h]
def prl (ts : List Int) (a c : Int) : Nat → List Int
  | 0 => [c]
  | k + 1 => if ts.getD k 0 = a then prl ts a c k else cvl (prl ts a c k) [ts.getD k 0, -1]
theorem prl_ev (ts : List Int) (a c x : Int) : ∀ k, nm (ev (prl ts a c k) x) = nm (c * pr ts a x k)
  | 0 => by rw [prl, pr, ev, ev, Int.mul_zero, Int.add_zero, Int.mul_one]
  | k + 1 => by
    rw [prl, pr]
    split
    · exact prl_ev ts a c x k
    · rw [cvl_ev, ← Int.mul_assoc]
      refine nm_mul_congr (prl_ev ts a c x k) ?_
      rw [ev_pair]
      congr 1
      omega
theorem prl_len (ts : List Int) (a c : Int) (i : Nat) (hi : ts.getD i 0 = a) : ∀ k, (prl ts a c k).length ≤ if i < k then k else k + 1
  | 0 => by simp [prl]
  | k + 1 => by
    have := prl_len ts a c i hi k
    rw [prl]
    by_cases e : i = k
    · subst e
      rw [if_pos hi, if_pos (by omega)]
      rw [if_neg (by omega)] at this
      exact this
    · split
      · split at this <;> split <;> omega
      · rw [cvl_len]
        have h2 : ([ts.getD k 0, -1] : List Int).length = 2 := rfl
        rw [h2]
        split at this <;> split <;> omega
theorem pr_zero {ts : List Int} {a : Int} {m : Nat} (hm : ts.getD m 0 ≠ a) : ∀ k, m < k → pr ts a (ts.getD m 0) k = 0
  | 0, h => by omega
  | k + 1, h => by
    by_cases e : m = k
    · subst e
      rw [pr_take hm, Int.sub_self, Int.mul_zero]
    · rw [pr]
      have := pr_zero (a := a) hm k (by omega)
      split
      · exact this
      · rw [this, Int.zero_mul]
theorem pr_own {ts : List Int} {n i : Nat} (hd : dis (fi ts) n) (hi : i < n) : ∀ k, k ≤ n → nm (pr ts (ts.getD i 0) (ts.getD i 0) k) ≠ 0
  | 0, _ => by rw [pr]; decide
  | k + 1, h => by
    have ih := pr_own hd hi k (by omega)
    rw [pr]
    split
    · exact ih
    · rename_i hne
      intro e
      have h1 := nm_mul_zero e ih
      have h2 := (hd k (by omega)).1
      have h3 := (hd i hi).1
      unfold fi at h2 h3
      unfold nm at h1
      omega
/-- LAGRANGE's weight. -/
theorem wgt_lag {ts : List Int} {n i : Nat} (hd : dis (fi ts) n) (hi : i < n) {a b : Int} (ha : nm a = nm (pr ts (ts.getD i 0) 0 n)) (hb : nm b = nm (pr ts (ts.getD i 0) (ts.getD i 0) n)) : Wgt ts n i (nm (a * iv b)) := by
  have hne : nm b ≠ 0 := by rw [hb]; exact pr_own hd hi n (Nat.le_refl _)
  refine ⟨prl ts (ts.getD i 0) (iv b) n, ?_, fun j hj => ?_, ?_⟩
  · have := prl_len ts (ts.getD i 0) (iv b) i rfl n
    rw [if_pos hi] at this
    exact this
  · rw [prl_ev]
    by_cases e : j = i
    · subst e
      rw [if_pos rfl, nm_mul_congr rfl hb.symm, iv_mul hne]
    · rw [if_neg e]
      have h1 : ts.getD j 0 ≠ ts.getD i 0 := by
        rcases Nat.lt_or_ge j i with h | h
        · exact (hd i hi).2 j h
        · exact fun e' => (hd j hj).2 i (by omega) e'.symm
      rw [pr_zero h1 n hj, Int.mul_zero]; rfl
  · rw [prl_ev, Int.mul_comm]
    exact nm_mul_congr rfl ha
/-- The weight of party i among n. -/
def wt (ts : List Int) (n i : Nat) : Int := nm (nm (pr ts (ts.getD i 0) 0 n) * iv (nm (pr ts (ts.getD i 0) (ts.getD i 0) n)))
theorem wt_bd (ts : List Int) (n i : Nat) : 0 ≤ wt ts n i ∧ wt ts n i ≤ 2147483646 := nm_bd _
theorem wt_wgt {ts : List Int} {n i : Nat} (hd : dis (fi ts) n) (hi : i < n) : Wgt ts n i (wt ts n i) := wgt_lag hd hi (nm_nm _) (nm_nm _)
end Go.Proofs.YtgmelcdgnjcojagDoor

namespace Go.Proofs.YtgmelcdgnjcojagDoor
open Go.RowKit Crm

set_option maxHeartbeats 400000 in
set_option maxRecDepth 100000 in
theorem cAddTimes (g o n c : Nat) (L : List Int) (ab : Option Addr) (lb cb : Nat) (B : List Int) (t : Int) (w : World)
    (hL : Blk w g L) (hLb : ∀ x ∈ L, 0 ≤ x ∧ x ≤ 18446744073709551615) (hB : Rd w ab lb cb B) (hne : ∀ x, ab = some x → x.block ≠ g) (hon : o + n ≤ L.length) (hlb : lb ≤ n) (hn : n ≤ 1000000) (ht0 : 0 ≤ t) (ht1 : t ≤ 18446744073709551615) :
    Calls Tryd.prog 102 #[.slice (some ⟨g, o, none⟩) n c, .slice ab lb cb, .int .u64 t] w fun e w' => e = .returned (.tuple #[]) ∧ Blk w' g (addAt L o B t lb) ∧ w.grownBy w' (some g) := by
  have hlen := hB.len
  go_enter Tryd.func102, Tryd.ntmps102
  go_wp2
  go_loopw [10] (fun i wr => ∃ k : Nat, k ≤ lb ∧ i = .int .i64 k ∧ Blk wr g (addAt L o B t k) ∧ w.grownBy wr (some g)) (fun i _ => lb - (intOf i).toNat)
  case atStart => exact ⟨0, Nat.zero_le _, rfl, hL, World.grownBy.refl _ _⟩
  case round =>
    obtain ⟨k, hk, rfl, hblk, hgr⟩ := hrel
    by_cases hlt : k < lb
    · have hBr : Rd wr ab lb cb B := hB.grown hgr (fun x hx => by simpa using hne x hx)
      obtain ⟨b, ob, x, rfl, hb, HX, hx0, hx1, hc⟩ := hBr.one hlt
      have hbg : b ≠ g := hne _ rfl
      have hcell := hblk.cell (i := o + k) (by rw [addAt_len]; omega)
      have hfz := hblk.frozen (o + k)
      obtain ⟨y, hy⟩ : ∃ y, y = (addAt L o B t k).getD (o + k) 0 := ⟨_, rfl⟩
      have HY : Hid (y = L.getD (o + k) 0) := by rw [hy, addAt_getD, if_neg (by omega)]; exact rfl
      have hyb : 0 ≤ y ∧ y ≤ 18446744073709551615 := by rw [hy]; exact getD_bd (addAt_bd hLb o B t k) _
      rw [← hy] at hcell
      clear hy
      have hm := nm_bd (t * x)
      have hk0 : (0 : Int) ≤ (k : Int) := by omega
      have hkn : (k : Int) < (n : Int) := by omega
      have Hblk' : Hid (Blk (wr.setCell ⟨g, o + k, none⟩ (.int .u64 (nm (y + nm (t * x))))) g (addAt L o B t (k + 1))) := by
        have e : nm (y + nm (t * x)) = nm (L.getD (o + k) 0 + t * B.getD k 0) := by rw [nm_addr, HY.out, HX.out]
        rw [e]
        exact hblk.set (o + k) _
      have Hgr' : Hid (w.grownBy (wr.setCell ⟨g, o + k, none⟩ (.int .u64 (nm (y + nm (t * x))))) (some g)) := grown_trans hgr (grown_set _ _ _ _)
      clear hblk hgr hBr hB hL
      go_wp2
      go_region_with (first | (go_at_call 49; refine (fMul _ _ _ (by omega) (by omega) (by omega) (by omega)).mono ?_; rintro e w' ⟨rfl, rfl⟩) | (go_at_call 45; refine (fAdd _ _ _ (by omega) (by omega) (by omega) (by omega)).mono ?_; rintro e w' ⟨rfl, rfl⟩))
      all_goals
        go_wp2
        go_roundw
        case rel => exact ⟨k + 1, by omega, by go_num, Hblk'.out, grown_drew Hgr'.out⟩
        case measure => simp [intOf]; omega
    · have hkl : k = lb := by omega
      subst hkl
      go_wp2
      exact bodyPost_end (v := .tuple #[]) (by simp [results, Tryd.results102, go_sem]) rfl ⟨rfl, hblk, hgr⟩
end Go.Proofs.YtgmelcdgnjcojagDoor

namespace Go.Proofs.YtgmelcdgnjcojagDoor
open Go.RowKit Crm

set_option maxRecDepth 100000 in
theorem cTrim (a : Option Addr) (n c : Nat) (xs : List Int) (w : World) (h : Rd w a n c xs) :
    Calls Tryd.prog 88 #[.slice a n c] w fun e w' => e = .returned (.slice a (tl xs n) c) ∧ w' = w := by
  have hm := h.max
  have hcap := h.cap
  unfold maxLen at hm
  go_enter Tryd.func88, Tryd.ntmps88
  go_wp2
  go_loop [3] (fun v => ∃ k : Nat, k ≤ n ∧ v = .int .i64 k ∧ Hid (tl xs n = tl xs k)) (fun v => (intOf v).toNat)
  case atStart => exact ⟨n, Nat.le_refl _, rfl, rfl⟩
  case round =>
    obtain ⟨k, hk, rfl, HR⟩ := hrel
    cases k with
    | zero =>
      go_wp2
      go_ret
      rw [HR.out]
      exact ⟨rfl, rfl⟩
    | succ m =>
      obtain ⟨b, o, x, rfl, hb, HX, hx0, hx1, hc⟩ := h.one (show m < n by omega)
      by_cases hx : x = 0
      · subst hx
        go_wp2
        go_round
        case rel => exact ⟨m, by omega, rfl, HR.out.trans (tl_zero xs HX.out)⟩
        case measure => simp [intOf]
      · have hxb : (x == 0) = false := by rw [beq_eq_false_iff_ne]; exact hx
        have HL : Hid (tl xs n = m + 1) := HR.out.trans (tl_last xs (by rw [HX.out]; exact hx))
        go_wp2
        go_ret
        rw [HL.out]
        exact ⟨rfl, rfl⟩

/-- The first k numbers of L are those of nz xs, the rest 0. -/
theorem info34 : (Tryd.prog.info? 34).map (fun i => (i.zero, i.size, i.bytes)) = some (some (.int .u64 0), 1, 8) := by kernel_rfl

theorem fill_step (xs L : List Int) (k : Nat) (hk : k < xs.length) (hL : L = (nz xs).take k ++ List.replicate (xs.length - k) 0) :
    L.set k (nm (xs.getD k 0)) = (nz xs).take (k + 1) ++ List.replicate (xs.length - (k + 1)) 0 := by
  subst hL
  have hl : ((nz xs).take k).length = k := by simp [nz_len]; omega
  rw [List.set_append_right _ _ (by omega), hl, Nat.sub_self]
  have : xs.length - k = (xs.length - (k + 1)) + 1 := by omega
  rw [this, List.replicate_succ, List.set_cons_zero]
  rw [List.take_succ_eq_append_getElem (show k < (nz xs).length by rw [nz_len]; exact hk), List.append_assoc]
  congr 1
  rw [← nz_getD]
  simp [List.getElem?_eq_getElem (show k < (nz xs).length by rw [nz_len]; exact hk)]

set_option maxRecDepth 100000 in
theorem cNormal (a : Option Addr) (n c : Nat) (xs : List Int) (w : World) (h : Rd w a n c xs) (hn : n ≤ 1000000) :
    Calls Tryd.prog 60 #[.slice a n c] w fun e w' => e = .returned (.slice (some ⟨w.heap.size, 0, none⟩) (tl (nz xs) n) n) ∧ Blk w' w.heap.size (nz xs) ∧ Below w.heap.size w w' := by
  obtain ⟨i0, hi, hz0, hz1, hz2⟩ := info_parts info34
  have hlen := h.len
  go_enter Tryd.func60, Tryd.ntmps60
  go_wp2_with (at_make; refine wpList_make_full _ rfl _ _ 22 rfl w.heap.size 34 i0 (.int .u64 0) 1 Tryd.underlying22 hi hz0 hz1 .i64 .i64 _ _ n rfl rfl (by omega) (by omega) (by rw [hz2]; omega) (by unfold maxLen; omega) (Nat.le_refl _) ?_; intro w1 hown hgrow)
  have hb1 : Blk w1 w.heap.size (List.replicate n 0) := Blk.made hown
  have hbel1 : Below w.heap.size w w1 := (Below.refl _ _).grown hgrow (Nat.le_refl _) (by simp)
  clear hown hgrow
  go_loopw [11] (fun i wr => ∃ k : Nat, k ≤ n ∧ i = .int .i64 k ∧ Blk wr w.heap.size ((nz xs).take k ++ List.replicate (xs.length - k) 0) ∧ Below w.heap.size w wr) (fun i _ => n - (intOf i).toNat)
  case atStart => exact ⟨0, Nat.zero_le _, rfl, by simpa [hlen] using hb1, hbel1⟩
  case round =>
    obtain ⟨k, hk, rfl, hblk, hbel⟩ := hrel
    by_cases hlt : k < n
    · obtain ⟨b, o, x, rfl, hb, HX, hx0, hx1, hc⟩ := (h.below hbel).one hlt
      have hcell := hblk.cell (i := k) (by simp [nz_len]; omega)
      have hfz := hblk.frozen k
      have hblk' : Blk (wr.setCell ⟨w.heap.size, k, none⟩ (.int .u64 (nm x))) w.heap.size ((nz xs).take (k + 1) ++ List.replicate (xs.length - (k + 1)) 0) := by
        rw [← fill_step xs _ k (by omega) rfl, HX.out]
        exact hblk.set k _
      have Hbel' : Hid (Below w.heap.size w (wr.setCell ⟨w.heap.size, k, none⟩ (.int .u64 (nm x)))) := hbel.setCell (Nat.le_refl _) _
      clear hblk hbel
      go_wp2_with (go_at_call 37; refine (fNorm _ _ (by omega) (by omega)).mono ?_; rintro e w' ⟨rfl, rfl⟩)
      go_roundw
      case rel => exact ⟨k + 1, by omega, by go_num, hblk', Hbel'.out⟩
      case measure => simp [intOf]; omega
    · have hkn : k = n := by omega
      subst hkn
      rw [List.take_of_length_le (by rw [nz_len]; omega), show xs.length - k = 0 by omega, List.replicate_zero, List.append_nil] at hblk
      have hr : Rd wr (some ⟨w.heap.size, 0, none⟩) k k (nz xs) := by
        have := hblk.rd 0 k k (Nat.le_refl _) (by unfold maxLen; omega) (by rw [nz_len]; omega) (nz_bd xs)
        rwa [List.drop_zero, List.take_of_length_le (by rw [nz_len]; omega)] at this
      go_wp2_with (go_at_call 88; refine (cTrim _ _ _ _ _ hr).mono ?_; rintro e w' ⟨rfl, rfl⟩)
      go_ret
      exact ⟨rfl, hblk, hbel⟩
end Go.Proofs.YtgmelcdgnjcojagDoor
