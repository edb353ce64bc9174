/- Any shares of a dealing, and their weights: plain facts. · Reckoning with shares: plain facts. · Parties that reckon together: plain facts. · Keys: numbers that are dealt; what is reckoned with them is dealt: plain facts. · Keys: their state, and what each call makes of it: plain. · Keys: what is told of them: plain. · Keys that were made one behind another, none dropped: plain. · A store of keys in memory: a struct of four cells, its map, the lists in it. · (*croftref.Store).has, keep. · croftref.Times. -/
import Derived.Test.YtljlioglpaogdafToOpenC
import Derived.Test.YtljlioglpaogdafToLstC
import Derived.Test.YtljlioglpaogdafToGaussM
import Derived.Test.YtljlioglpaogdafToSortM
import Derived.Test.YtljlioglpaogdafToCheckC
import Derived.BigQuiet
import Derived.Test.YtljlioglpaogdafToLsV2
import Derived.Test.YtljlioglpaogdafToBadM
import Derived.Test.YtljlioglpaogdafToWireC
import Derived.Test.YtljlioglpaogdafProg
import Derived.WalkKit
import Derived.WalkSpells
import Derived.WalkLawsBesides
import Derived.Deep.QuietTactic
namespace Go.Proofs.Ytljlioglpaogdaf
set_option linter.unusedVariables false
set_option maxRecDepth 100000
set_option maxHeartbeats 8000000
section
open Crm
/-- The weights make of the values the value at 0. -/
theorem sum_wt {ts C : List Int} {K : Nat} (hd : dis (fi ts) K) (hC : C.length ≤ K) (y : Nat → Int) (hy : ∀ j, j < K → nm (y j) = nm (ev C (ts.getD j 0))) : nm (sm (fun i => wt ts K i * y i) K) = nm (ev C 0) := by
  have main : ∀ k, k ≤ K → ∃ R : List Int, R.length ≤ K ∧ (∀ j, j < K → nm (ev R (ts.getD j 0)) = if j < k then nm (y j) else 0) ∧ nm (ev R 0) = nm (sm (fun i => wt ts K i * y i) k) := by
    intro k
    induction k with
    | zero => exact fun _ => ⟨[], Nat.zero_le _, fun j _ => by rw [if_neg (by omega)]; rfl, rfl⟩
    | succ k ih =>
      intro hk
      obtain ⟨R, r1, r2, r3⟩ := ih (by omega)
      obtain ⟨Q, q1, q2, q3⟩ := wt_wgt hd (show k < K by omega)
      have hev : ∀ x, nm (ev (sml R (cvl [y k] Q)) x) = nm (ev R x + y k * ev Q x) := fun x => by
        rw [sml_ev]
        refine nm_add_congr rfl ?_
        rw [cvl_ev, ev, ev, Int.mul_zero, Int.add_zero]
      refine ⟨sml R (cvl [y k] Q), ?_, fun j hj => ?_, ?_⟩
      · rw [sml_len, cvl_len, List.length_singleton]; omega
      · rw [hev]
        have h1 := q2 j hj
        have h2 := r2 j hj
        by_cases e : j = k
        · subst e
          rw [if_pos rfl] at h1
          rw [if_neg (by omega)] at h2
          rw [if_pos (by omega), nm_add_congr (c := 0) (d := y j * 1) h2 (nm_mul_congr rfl (by rw [h1]; rfl)), Int.zero_add, Int.mul_one]
        · rw [if_neg e] at h1
          rw [nm_add_congr (c := ev R (ts.getD j 0)) (d := y k * 0) rfl (nm_mul_congr rfl (by rw [h1]; rfl)), Int.mul_zero, Int.add_zero, h2]
          by_cases e2 : j < k
          · rw [if_pos e2, if_pos (by omega)]
          · rw [if_neg e2, if_neg (by omega)]
      · rw [hev, sm]
        refine nm_add_congr r3 ?_
        rw [q3, nm_mull, Int.mul_comm]
  obtain ⟨R, r1, r2, r3⟩ := main K (Nat.le_refl _)
  rw [← r3]
  have hw : ∀ j, j < K → ((List.range K).map fun k => (ts.getD k 0, y k)).getD j (0, 0) = (ts.getD j 0, y j) := fun j hj => by simp [hj]
  refine ev_one (hs_one (l := (List.range K).map fun k => (ts.getD k 0, y k)) (n := K) (fun j hj => ?_) (fun j hj => ?_) (fun j hj => ?_) r1 hC) 0
  · rw [hw j hj]
    refine ⟨⟨(hd j hj).1.1, by have := (hd j hj).1.2; unfold fi at this; simp only; omega⟩, fun q hq => ?_⟩
    rw [hw q (by omega)]
    exact (hd j hj).2 q hq
  · rw [hw j hj]
    simp only
    rw [r2 j hj, if_pos hj]
  · rw [hw j hj]
    simp only
    exact (hy j hj).symm
/-- Each party's numbers mixed: a times the one, b times the other, and c. -/
def mxl (x y : List Int) (a b c : Int) (n : Nat) : List Int := (List.range n).map fun i => nm (a * x.getD i 0 + b * y.getD i 0 + c)
theorem mxl_len (x y : List Int) (a b c : Int) (n : Nat) : (mxl x y a b c n).length = n := by simp [mxl]
theorem mxl_getD (x y : List Int) (a b c : Int) {n i : Nat} (h : i < n) : (mxl x y a b c n).getD i 0 = nm (a * x.getD i 0 + b * y.getD i 0 + c) := by simp [mxl, h]
theorem mxl_bd (x y : List Int) (a b c : Int) (n : Nat) : ∀ z ∈ mxl x y a b c n, 0 ≤ z ∧ z ≤ 2147483646 := by
  intro z hz
  obtain ⟨i, _, rfl⟩ := List.mem_map.1 hz
  exact nm_bd _
/-- The same by other ways. -/
theorem mxl_ext {x y : List Int} {a b c : Int} {n : Nat} {F : Nat → Int} (h : ∀ i, i < n → F i = nm (a * x.getD i 0 + b * y.getD i 0 + c)) : (List.range n).map F = mxl x y a b c n :=
  List.map_congr_left fun i hi => h i (List.mem_range.1 hi)

/-- The parties' numbers. -/
def pty (n : Nat) : List Int := (List.range n).map fun i : Nat => (i : Int) + 1
theorem pty_getD {n i : Nat} (h : i < n) : (pty n).getD i 0 = (i : Int) + 1 := by simp [pty, h]
theorem pty_dis {n : Nat} (h : n ≤ 9) : dis (fi (pty n)) n := fun i hi => by
  unfold fi
  rw [pty_getD hi]
  exact ⟨⟨by omega, by omega⟩, fun j hj => by rw [pty_getD (show j < n by omega)]; omega⟩

/-- What party i deals: the product of its numbers, and its draws. -/
def prC (t : Nat) (a b ds : List Int) (i : Nat) : List Int := nm (a.getD i 0 * b.getD i 0) :: (ds.drop (i * t)).take t
theorem prC_len (t : Nat) (a b ds : List Int) (i : Nat) : (prC t a b ds i).length ≤ t + 1 := by
  unfold prC; rw [List.length_cons, List.length_take]; omega
/-- What party j was dealt by the first k. -/
def tmR (t : Nat) (a b ds : List Int) (k j : Nat) : List Int := (List.range k).map fun i => dlf (prC t a b ds i) j
theorem tmR_len (t : Nat) (a b ds : List Int) (k j : Nat) : (tmR t a b ds k j).length = k := by simp [tmR]
theorem tmR_getD (t : Nat) (a b ds : List Int) {k i : Nat} (j : Nat) (h : i < k) : (tmR t a b ds k j).getD i 0 = dlf (prC t a b ds i) j := by simp [tmR, h]
theorem tmR_bd (t : Nat) (a b ds : List Int) (k j : Nat) : ∀ z ∈ tmR t a b ds k j, 0 ≤ z ∧ z ≤ 2147483646 := by
  intro z hz
  obtain ⟨i, _, rfl⟩ := List.mem_map.1 hz
  exact dlf_bd _ _
/-- What all were dealt, party by party. -/
def tmG (t : Nat) (a b ds : List Int) (n : Nat) : List (List Int) := (List.range n).map fun j => tmR t a b ds n j
theorem tmG_len (t : Nat) (a b ds : List Int) (n : Nat) : (tmG t a b ds n).length = n := by simp [tmG]
theorem tmG_getD (t : Nat) (a b ds : List Int) {n j : Nat} (h : j < n) : (tmG t a b ds n).getD j [] = tmR t a b ds n j := by simp [tmG, h]
/-- Party j's number of the product. -/
def tmf (t : Nat) (a b ds : List Int) (n j : Nat) : Int := nm (sm (fun i => wt (pty n) n i * dlf (prC t a b ds i) j) n)
def tmO (t : Nat) (a b ds : List Int) (n k : Nat) : List Int := (List.range k).map (tmf t a b ds n)
theorem tmO_len (t : Nat) (a b ds : List Int) (n k : Nat) : (tmO t a b ds n k).length = k := by simp [tmO]
theorem tmO_getD (t : Nat) (a b ds : List Int) (n : Nat) {k j : Nat} (h : j < k) : (tmO t a b ds n k).getD j 0 = tmf t a b ds n j := by simp [tmO, h]
/-- One polynomial of t + 1 numbers has the parties' numbers of the product. -/
theorem tm_poly (t : Nat) (a b ds : List Int) (W : Nat → Int) : ∀ k, ∃ P : List Int, P.length ≤ t + 1 ∧ ∀ x, ev P x = sm (fun i => W i * ev (prC t a b ds i) x) k
  | 0 => ⟨[], Nat.zero_le _, fun _ => rfl⟩
  | k + 1 => by
    obtain ⟨P, h1, h2⟩ := tm_poly t a b ds W k
    refine ⟨adl (W k) P (prC t a b ds k), ?_, fun x => ?_⟩
    · rw [adl_len]; have := prC_len t a b ds k; omega
    · rw [adl_ev, h2, sm]
/-- Of dealt secrets the product is dealt. -/
theorem times_dealt {t n : Nat} {A B ds : List Int} (hA : A.length ≤ t + 1) (hB : B.length ≤ t + 1) (hn : 2 * t + 1 ≤ n) (hn9 : n ≤ 9) :
    ∃ P : List Int, P.length ≤ t + 1 ∧ (∀ j, j < n → tmf t (dl A n) (dl B n) ds n j = nm (ev P ((j : Int) + 1))) ∧ nm (ev P 0) = nm (ev A 0 * ev B 0) := by
  obtain ⟨P, h1, h2⟩ := tm_poly t (dl A n) (dl B n) ds (wt (pty n) n) n
  refine ⟨P, h1, fun j _ => ?_, ?_⟩
  · unfold tmf
    rw [h2]
    refine sm_ncongr fun i hi => ?_
    unfold dlf
    rw [nm_mulr]
  · rw [h2]
    have h3 := sum_wt (pty_dis hn9) (C := cvl A B) (by rw [cvl_len]; omega) (fun i => ev (prC t (dl A n) (dl B n) ds i) 0) (fun j hj => by
      unfold prC
      rw [ev, Int.zero_mul, Int.add_zero, nm_nm, cvl_ev, dl_getD A hj, dl_getD B hj, pty_getD hj]
      unfold dlf
      exact nm_mul_congr (nm_nm _) (nm_nm _))
    rw [h3, cvl_ev]
/-- Shares of all parties' numbers are those of the polynomial that has them. -/
theorem shl_hs {C L : List Int} {n : Nat} (h : ∀ i, i < n → L.getD i 0 = nm (ev C ((i : Int) + 1))) : Hs (shl L n) n C := fun j hj => by
  rw [shl_getD L hj]
  simp only
  rw [h j hj, nm_nm]
theorem shl_dis (L : List Int) {n : Nat} (h : n ≤ 9) : dis (fa (shl L n)) n := fun i hi => by
  unfold fa
  rw [shl_getD L hi]
  exact ⟨⟨by simp only; omega, by simp only; omega⟩, fun j hj => by rw [shl_getD L (show j < n by omega)]; simp only; omega⟩
/-- What Open tells of them. -/
theorem shl_open {C L : List Int} {n t : Nat} {x r : Int} (hn : n ≤ 9) (ht : t ≤ 4) (htn : t < n) (hC : C.length ≤ t + 1) (h : ∀ i, i < n → L.getD i 0 = nm (ev C ((i : Int) + 1))) (hO : Opn (shl L n) n t x r) : x = nm (ev C 0) ∧ r = 0 :=
  any_open (shl_dis L hn) ht htn hC (shl_hs h) hO
/-- Mixed shares are shares of what is mixed. -/
theorem mxl_dealt {A B : List Int} {a b c : Int} {n t : Nat} (hA : A.length ≤ t + 1) (hB : B.length ≤ t + 1) :
    ∃ P : List Int, P.length ≤ t + 1 ∧ (∀ i, i < n → (mxl (dl A n) (dl B n) a b c n).getD i 0 = nm (ev P ((i : Int) + 1))) ∧ nm (ev P 0) = nm (a * ev A 0 + b * ev B 0 + c) := by
  have e : ∀ x, ev (adl 1 (adl b (A.map (a * ·)) B) [c]) x = a * ev A x + b * ev B x + c := fun x => by
    rw [adl_ev, adl_ev, map_ev, ev, ev, Int.mul_zero, Int.add_zero, Int.one_mul]
  refine ⟨adl 1 (adl b (A.map (a * ·)) B) [c], ?_, fun i hi => ?_, by rw [e]⟩
  · rw [adl_len, adl_len, List.length_map, List.length_singleton]; omega
  · rw [mxl_getD _ _ _ _ _ hi, dl_getD A hi, dl_getD B hi, e]
    refine nm_add_congr (nm_add_congr ?_ ?_) rfl
    · unfold dlf; rw [nm_mulr]
    · unfold dlf; rw [nm_mulr]
/-- Draws that the first i gates take. -/
def dwn (G : List Gt) (n t : Nat) : Nat → Nat
  | 0 => 0
  | i + 1 => dwn G n t i + (if (gt G i).k = 1 then t else if (gt G i).k = 5 then n * t else 0)
/-- Numbers that a polynomial has at the parties are those that are dealt of it. -/
theorem dl_of {P L : List Int} {n : Nat} (hl : L.length = n) (h : ∀ i, i < n → L.getD i 0 = nm (ev P ((i : Int) + 1))) : L = dl P n := by
  refine list_ext (by rw [hl, dl_len]) fun i hi => ?_
  rw [hl] at hi
  rw [h i hi, dl_getD P hi]
  rfl
/-- Who may run a circuit. -/
def okc (G : List Gt) (N : Nat) (n t : Int) : Prop := (0 ≤ t ∧ t ≤ 4) ∧ (1 ≤ n ∧ n ≤ 9) ∧ 2 * t + 1 ≤ n ∧ ∀ x ∈ whl G N, x ≤ n
/-- What Need tells. -/
def Nde (G : List Gt) (O : List Int) (N m : Nat) (n t r : Int) : Prop := (r ≠ 0 ∧ Cke G O N m r) ∨ (Cke G O N m 0 ∧ ((¬ okc G N n t ∧ r = 1) ∨ (okc G N n t ∧ r = 0)))
theorem Nde.one {G : List Gt} {O : List Int} {N m : Nat} {n t r s : Int} (h : Nde G O N m n t r) (k : Nde G O N m n t s) : r = s := by
  rcases h with ⟨h1, h2⟩ | ⟨h1, ⟨h2, rfl⟩ | ⟨h2, rfl⟩⟩ <;> rcases k with ⟨k1, k2⟩ | ⟨k1, ⟨k2, rfl⟩ | ⟨k2, rfl⟩⟩
  all_goals first
    | rfl
    | exact h2.one k2
    | exact absurd (h2.one k1) h1
    | exact absurd (k2.one h1) k1
    | exact absurd k2 h2
    | exact absurd h2 k2
theorem Nde.ok {G : List Gt} {O : List Int} {N m : Nat} {n t : Int} (h : Nde G O N m n t 0) : Cke G O N m 0 ∧ okc G N n t := by
  rcases h with ⟨h1, _⟩ | ⟨h1, ⟨_, h2⟩ | ⟨h2, _⟩⟩
  · exact absurd rfl h1
  · omega
  · exact ⟨h1, h2⟩
/-- What is wrong with a run. -/
def Ere (G : List Gt) (O : List Int) (N m : Nat) (n t : Int) (q d : Nat) (r : Int) : Prop :=
  (r ≠ 0 ∧ Nde G O N m n t r) ∨ (Nde G O N m n t 0 ∧ ((q ≠ ci G N ∧ r = 5) ∨ (q = ci G N ∧ ((d ≠ dwn G n.toNat t.toNat N ∧ r = 1) ∨ (d = dwn G n.toNat t.toNat N ∧ r = 0)))))
theorem Ere.one {G : List Gt} {O : List Int} {N m : Nat} {n t : Int} {q d : Nat} {r s : Int} (h : Ere G O N m n t q d r) (k : Ere G O N m n t q d s) : r = s := by
  rcases h with ⟨h1, h2⟩ | ⟨h1, ⟨h2, rfl⟩ | ⟨h2, ⟨h3, rfl⟩ | ⟨h3, rfl⟩⟩⟩ <;> rcases k with ⟨k1, k2⟩ | ⟨k1, ⟨k2, rfl⟩ | ⟨k2, ⟨k3, rfl⟩ | ⟨k3, rfl⟩⟩⟩
  all_goals first
    | rfl
    | exact h2.one k2
    | exact absurd (h2.one k1) h1
    | exact absurd (k2.one h1) k1
    | exact absurd k2 h2
    | exact absurd h2 k2
    | exact absurd k3 h3
    | exact absurd h3 k3
/-- The parties' numbers L are shares, of t at the most, of v. -/
def Ksh (n t : Nat) (L : List Int) (v : Int) : Prop := ∃ P : List Int, P.length ≤ t + 1 ∧ L = dl P n ∧ nm (ev P 0) = v
theorem Ksh.len {n t : Nat} {L : List Int} {v : Int} (h : Ksh n t L v) : L.length = n := by
  obtain ⟨P, _, rfl, _⟩ := h
  exact dl_len _ _
theorem Ksh.bd {n t : Nat} {L : List Int} {v : Int} (h : Ksh n t L v) : ∀ z ∈ L, 0 ≤ z ∧ z ≤ 2147483646 := by
  obtain ⟨P, _, rfl, _⟩ := h
  exact dl_bd _ _
theorem Ksh.val {n t : Nat} {L : List Int} {v : Int} (h : Ksh n t L v) : 0 ≤ v ∧ v ≤ 2147483646 := by
  obtain ⟨P, _, _, rfl⟩ := h
  exact nm_bd _
theorem ksh_deal {n t : Nat} {x : Int} {ds : List Int} (h : ds.length ≤ t) : Ksh n t (dl (x :: ds) n) (nm x) := ⟨x :: ds, by rw [List.length_cons]; omega, rfl, by rw [ev, Int.zero_mul, Int.add_zero]⟩
theorem ksh_zero (n t : Nat) : Ksh n t (List.replicate n 0) 0 := by
  refine ⟨[], Nat.zero_le _, ?_, rfl⟩
  exact dl_of (by simp) fun i hi => by simp [hi, ev]; rfl
/-- A mix of them. -/
theorem Ksh.mix {n t : Nat} {L M : List Int} {v u : Int} (a b c : Int) (h : Ksh n t L v) (g : Ksh n t M u) : Ksh n t (mxl L M a b c n) (nm (a * v + b * u + c)) := by
  obtain ⟨A, a1, rfl, rfl⟩ := h
  obtain ⟨B, b1, rfl, rfl⟩ := g
  obtain ⟨P, p1, p2, p3⟩ := mxl_dealt (A := A) (B := B) (a := a) (b := b) (c := c) (n := n) a1 b1
  refine ⟨P, p1, dl_of (mxl_len _ _ _ _ _ _) p2, ?_⟩
  rw [p3]
  refine nm_add_congr (nm_add_congr ?_ ?_) rfl
  · rw [nm_mulr]
  · rw [nm_mulr]
/-- Their product, dealt again. -/
theorem Ksh.times {n t : Nat} {L M ds : List Int} {v u : Int} (h : Ksh n t L v) (g : Ksh n t M u) (hn : 2 * t + 1 ≤ n) (hn9 : n ≤ 9) : Ksh n t (tmO t L M ds n n) (nm (v * u)) := by
  obtain ⟨A, a1, rfl, rfl⟩ := h
  obtain ⟨B, b1, rfl, rfl⟩ := g
  obtain ⟨P, p1, p2, p3⟩ := times_dealt (t := t) (n := n) (A := A) (B := B) (ds := ds) a1 b1 hn hn9
  refine ⟨P, p1, dl_of (tmO_len _ _ _ _ _ _) fun j hj => ?_, ?_⟩
  · rw [tmO_getD _ _ _ _ _ hj]
    exact p2 j hj
  · rw [p3, nm_mull, nm_mulr]
/-- What is told of them. -/
theorem Ksh.opened {n t : Nat} {L : List Int} {v x r : Int} (h : Ksh n t L v) (hn : 2 * t + 1 ≤ n) (hn9 : n ≤ 9) (hO : Opn (shl L n) n t x r) : x = v ∧ r = 0 := by
  obtain ⟨P, p1, rfl, rfl⟩ := h
  exact shl_open hn9 (show t ≤ 4 by omega) (by omega) p1 (fun i hi => dl_getD P hi) hO
/-- What party i deals: its own first draw, or nought, with t draws. -/
def kdr (t : Nat) (sec : Bool) (ds : List Int) (i : Nat) : List Int := if sec then ds.getD (i * (t + 1)) 0 :: (ds.drop (i * (t + 1) + 1)).take t else 0 :: (ds.drop (i * t)).take t
/-- The sums of what the first i parties have dealt. -/
def ksm (n t : Nat) (sec : Bool) (ds : List Int) : Nat → List Int
  | 0 => List.replicate n 0
  | i + 1 => mxl (ksm n t sec ds i) (dl (kdr t sec ds i) n) 1 1 0 n
/-- The sum of what they dealt. -/
def ksv (t : Nat) (sec : Bool) (ds : List Int) : Nat → Int
  | 0 => 0
  | i + 1 => nm (ksv t sec ds i + nm ((kdr t sec ds i).getD 0 0))
theorem kdr_ksh (n t : Nat) (sec : Bool) (ds : List Int) (i : Nat) : Ksh n t (dl (kdr t sec ds i) n) (nm ((kdr t sec ds i).getD 0 0)) := by
  unfold kdr
  cases sec with
  | true =>
    rw [if_pos rfl]
    exact ksh_deal (by rw [List.length_take]; omega)
  | false =>
    rw [if_neg (by decide)]
    exact ksh_deal (by rw [List.length_take]; omega)
theorem ksm_ksh (n t : Nat) (sec : Bool) (ds : List Int) : ∀ i, Ksh n t (ksm n t sec ds i) (ksv t sec ds i)
  | 0 => ksh_zero n t
  | i + 1 => by
    have h := (ksm_ksh n t sec ds i).mix 1 1 0 (kdr_ksh n t sec ds i)
    rw [Int.one_mul, Int.one_mul, Int.add_zero] at h
    exact h
/-- Refreshing turns shares, not what is told. -/
theorem ksv_false (t : Nat) (ds : List Int) : ∀ i, ksv t false ds i = 0
  | 0 => rfl
  | i + 1 => by
    rw [ksv, ksv_false t ds i]
    rfl
theorem Ksh.fresh {n t : Nat} {L ds : List Int} {v : Int} (h : Ksh n t L v) : Ksh n t (mxl L (ksm n t false ds n) 1 1 0 n) v := by
  have g := h.mix 1 1 0 (ksm_ksh n t false ds n)
  rw [ksv_false, Int.one_mul, Int.one_mul, Int.add_zero, Int.add_zero, nm_small h.val.1 h.val.2] at g
  exact g
/-- n parties, t of whom may look; the last handle that ever was; how many keys there are; the parties' numbers by handle. -/
structure Kt where
  n : Nat
  t : Nat
  last : Nat
  cnt : Nat
  f : Int → Option (List Int)
def kset (f : Int → Option (List Int)) (h : Int) (v : Option (List Int)) : Int → Option (List Int) := fun i => if i = h then v else f i
theorem kset_same (f : Int → Option (List Int)) (h : Int) (v : Option (List Int)) : kset f h v h = v := if_pos rfl
theorem kset_other (f : Int → Option (List Int)) {h i : Int} (v : Option (List Int)) (e : i ≠ h) : kset f h v i = f i := if_neg e
structure Kwf (s : Kt) : Prop where
  t4 : s.t ≤ 4
  n9 : s.n ≤ 9
  nt : 2 * s.t + 1 ≤ s.n
  c8 : s.cnt ≤ 8
  key : ∀ h l, s.f h = some l → (1 ≤ h ∧ h ≤ (s.last : Int)) ∧ l.length = s.n ∧ ∀ x ∈ l, 0 ≤ x ∧ x ≤ 2147483646
/-- No keys. -/
def k0 (n t : Nat) : Kt := ⟨n, t, 0, 0, fun _ => none⟩
theorem k0_wf {n t : Nat} (ht : t ≤ 4) (hn : n ≤ 9) (h : 2 * t + 1 ≤ n) : Kwf (k0 n t) := ⟨ht, hn, h, Nat.zero_le _, fun h l e => by cases e⟩
/-- A key more. -/
def kput (s : Kt) (l : List Int) : Kt := ⟨s.n, s.t, s.last + 1, s.cnt + 1, kset s.f ((s.last : Int) + 1) (some l)⟩
def kadd (s : Kt) (l : List Int) : Int × Int × Kt := if 8 ≤ s.cnt then (0, 2, s) else ((s.last : Int) + 1, 0, kput s l)
def kgen (s : Kt) (ds : List Int) : Int × Int × Kt := if ds.length = s.n * (s.t + 1) then kadd s (ksm s.n s.t true ds s.n) else (0, 1, s)
def kmix (s : Kt) (g h : Int) (a b c : Int) : Int × Int × Kt :=
  match s.f g, s.f h with
  | some l, some m => kadd s (mxl l m a b c s.n)
  | _, _ => (0, 4, s)
def kmul (s : Kt) (g h : Int) (ds : List Int) : Int × Int × Kt :=
  match s.f g, s.f h with
  | some l, some m => if ds.length = s.n * s.t then kadd s (tmO s.t l m ds s.n s.n) else (0, 1, s)
  | _, _ => (0, 4, s)
/-- The numbers of a key are turned. -/
def ktrn (s : Kt) (h : Int) (l : List Int) : Kt := ⟨s.n, s.t, s.last, s.cnt, kset s.f h (some l)⟩
def krfr (s : Kt) (h : Int) (ds : List Int) : Int × Kt :=
  match s.f h with
  | some l => if ds.length = s.n * s.t then (0, ktrn s h (mxl l (ksm s.n s.t false ds s.n) 1 1 0 s.n)) else (1, s)
  | none => (4, s)
/-- A key is gone. -/
def kout (s : Kt) (h : Int) : Kt := ⟨s.n, s.t, s.last, s.cnt - 1, kset s.f h none⟩
def kdrp (s : Kt) (h : Int) : Int × Kt :=
  match s.f h with
  | some _ => (0, kout s h)
  | none => (4, s)
/-- What Open answers. -/
def Kop (s : Kt) (h x r : Int) : Prop := (s.f h = none ∧ x = 0 ∧ r = 4) ∨ ∃ l, s.f h = some l ∧ Opn (shl l s.n) s.n s.t x r
theorem Kop.one {s : Kt} {h x r y q : Int} (a : Kop s h x r) (b : Kop s h y q) : x = y ∧ r = q := by
  rcases a with ⟨a1, rfl, rfl⟩ | ⟨l, a1, a2⟩ <;> rcases b with ⟨b1, rfl, rfl⟩ | ⟨m, b1, b2⟩
  · exact ⟨rfl, rfl⟩
  · rw [a1] at b1; cases b1
  · rw [a1] at b1; cases b1
  · rw [a1] at b1
    obtain rfl := Option.some.inj b1
    exact a2.one b2
theorem kput_wf {s : Kt} {l : List Int} (h : Kwf s) (hc : s.cnt < 8) (hl : l.length = s.n) (hb : ∀ x ∈ l, 0 ≤ x ∧ x ≤ 2147483646) : Kwf (kput s l) := by
  refine ⟨h.t4, h.n9, h.nt, hc, fun i m e => ?_⟩
  unfold kput kset at e
  simp only at e
  split at e
  · rename_i hi
    obtain rfl := Option.some.inj e
    refine ⟨⟨by omega, ?_⟩, hl, hb⟩
    show i ≤ ((s.last + 1 : Nat) : Int)
    omega
  · have := h.key i m e
    refine ⟨⟨this.1.1, ?_⟩, this.2⟩
    show i ≤ ((s.last + 1 : Nat) : Int)
    omega
theorem ktrn_wf {s : Kt} {h : Int} {l m : List Int} (w : Kwf s) (hm : s.f h = some m) (hl : l.length = s.n) (hb : ∀ x ∈ l, 0 ≤ x ∧ x ≤ 2147483646) : Kwf (ktrn s h l) := by
  refine ⟨w.t4, w.n9, w.nt, w.c8, fun i k e => ?_⟩
  unfold ktrn kset at e
  simp only at e
  split at e
  · rename_i hi
    obtain rfl := Option.some.inj e
    have := w.key h m hm
    rw [hi]
    exact ⟨this.1, hl, hb⟩
  · exact w.key i k e
theorem kout_wf {s : Kt} {h : Int} (w : Kwf s) : Kwf (kout s h) := by
  refine ⟨w.t4, w.n9, w.nt, ?_, fun i k e => ?_⟩
  · have := w.c8
    show s.cnt - 1 ≤ 8
    omega
  · unfold kout kset at e
    simp only at e
    split at e
    · cases e
    · exact w.key i k e
theorem ksm_bd (n t : Nat) (b : Bool) (ds : List Int) (i : Nat) : ∀ x ∈ ksm n t b ds i, 0 ≤ x ∧ x ≤ 2147483646 := (ksm_ksh n t b ds i).bd
theorem tmO_bd' (t : Nat) (a b ds : List Int) (n k : Nat) : ∀ x ∈ tmO t a b ds n k, 0 ≤ x ∧ x ≤ 2147483646 := fun x hx => by
  unfold tmO at hx
  obtain ⟨j, _, rfl⟩ := List.mem_map.1 hx
  exact nm_bd _
/-- What is told of a new key: its handle and no error, or none and that there are too many. -/
theorem kadd_cases (s : Kt) (l : List Int) : (8 ≤ s.cnt ∧ kadd s l = (0, 2, s)) ∨ (s.cnt < 8 ∧ kadd s l = ((s.last : Int) + 1, 0, kput s l)) := by
  unfold kadd
  split
  · exact .inl ⟨by assumption, rfl⟩
  · exact .inr ⟨by omega, rfl⟩
theorem krfr_wf {s : Kt} (i : Int) (ds : List Int) (h : Kwf s) : Kwf (krfr s i ds).2 ∧ (krfr s i ds).2.last = s.last ∧ (krfr s i ds).2.n = s.n ∧ (krfr s i ds).2.t = s.t := by
  unfold krfr
  split
  · rename_i l hl
    split
    · exact ⟨ktrn_wf h hl (mxl_len _ _ _ _ _ _) (mxl_bd _ _ _ _ _ _), rfl, rfl, rfl⟩
    · exact ⟨h, rfl, rfl, rfl⟩
  · exact ⟨h, rfl, rfl, rfl⟩
/-- Of each key the parties' numbers are shares, of t at the most, of g. -/
def Kvl (s : Kt) (g : Int → Option Int) : Prop := ∀ h, (s.f h = none ∧ g h = none) ∨ ∃ l v, s.f h = some l ∧ g h = some v ∧ Ksh s.n s.t l v
def gset (g : Int → Option Int) (h : Int) (v : Option Int) : Int → Option Int := fun i => if i = h then v else g i
theorem k0_vl (n t : Nat) : Kvl (k0 n t) (fun _ => none) := fun _ => .inl ⟨rfl, rfl⟩
theorem kput_vl {s : Kt} {g : Int → Option Int} {l : List Int} {v : Int} (h : Kvl s g) (hl : Ksh s.n s.t l v) : Kvl (kput s l) (gset g ((s.last : Int) + 1) (some v)) := fun i => by
  show (kset s.f ((s.last : Int) + 1) (some l) i = none ∧ gset g ((s.last : Int) + 1) (some v) i = none) ∨ ∃ l' v', kset s.f ((s.last : Int) + 1) (some l) i = some l' ∧ gset g ((s.last : Int) + 1) (some v) i = some v' ∧ Ksh s.n s.t l' v'
  unfold kset gset
  split
  · exact .inr ⟨l, v, rfl, rfl, hl⟩
  · exact h i
theorem ktrn_vl {s : Kt} {g : Int → Option Int} {l m : List Int} {v k : Int} (h : Kvl s g) (hm : s.f k = some m) (hv : Ksh s.n s.t m v → Ksh s.n s.t l v) (hg : g k = some v) : Kvl (ktrn s k l) g := fun i => by
  show (kset s.f k (some l) i = none ∧ g i = none) ∨ ∃ l' v', kset s.f k (some l) i = some l' ∧ g i = some v' ∧ Ksh s.n s.t l' v'
  unfold kset
  split
  · rename_i e
    rcases h k with ⟨e1, _⟩ | ⟨l', v', e1, e2, e3⟩
    · rw [hm] at e1; cases e1
    · rw [hm] at e1
      obtain rfl := Option.some.inj e1
      rw [hg] at e2
      obtain rfl := Option.some.inj e2
      rw [e]
      exact .inr ⟨l, v, rfl, hg, hv e3⟩
  · exact h i
theorem Kvl.some {s : Kt} {g : Int → Option Int} (h : Kvl s g) {i : Int} {l : List Int} (hf : s.f i = Option.some l) : ∃ v, g i = Option.some v ∧ Ksh s.n s.t l v := by
  rcases h i with ⟨e, _⟩ | ⟨l', v, e1, e2, e3⟩
  · rw [e] at hf; cases hf
  · rw [e1] at hf
    obtain rfl := Option.some.inj hf
    exact ⟨v, e2, e3⟩
/-- What is told of a key is its value. -/
theorem Kvl.told {s : Kt} {g : Int → Option Int} (h : Kvl s g) (w : Kwf s) {i x r : Int} {l : List Int} (hf : s.f i = Option.some l) (hO : Kop s i x r) : g i = Option.some x ∧ r = 0 := by
  obtain ⟨v, e1, e2⟩ := h.some hf
  rcases hO with ⟨e, _⟩ | ⟨l', e, hO⟩
  · rw [e] at hf; cases hf
  · rw [e] at hf
    obtain rfl := Option.some.inj hf
    obtain ⟨rfl, rfl⟩ := e2.opened w.nt w.n9 hO
    exact ⟨e1, rfl⟩
/-- The value of handle h, of those told. -/
def vat (V : List Int) (h : Int) : Option Int := if 1 ≤ h ∧ h ≤ (V.length : Int) then some (V.getD (h - 1).toNat 0) else none
theorem vat_in {V : List Int} {h : Int} (h1 : 1 ≤ h) (h2 : h ≤ (V.length : Int)) : vat V h = some (V.getD (h - 1).toNat 0) := if_pos ⟨h1, h2⟩
theorem vat_snoc (V : List Int) (v : Int) : vat (V ++ [v]) = gset (vat V) ((V.length : Int) + 1) (some v) := by
  funext h
  unfold vat gset
  by_cases e : h = (V.length : Int) + 1
  · subst e
    rw [if_pos rfl, if_pos (by simp; omega)]
    simp
  · rw [if_neg e]
    simp only
    by_cases hh : 1 ≤ h ∧ h ≤ (V.length : Int)
    · rw [if_pos hh, if_pos (by simp; omega)]
      have h0 : (h - 1).toNat < V.length := by omega
      rw [List.getD_eq_getElem?_getD, List.getD_eq_getElem?_getD, List.getElem?_append_left h0]
    · rw [if_neg hh, if_neg (by simp; omega)]
/-- n parties, t of whom may look; the keys 1, 2, .. have the values V. -/
structure Kab (s : Kt) (n t : Nat) (V : List Int) : Prop where
  en : s.n = n
  et : s.t = t
  el : s.last = V.length
  ec : s.cnt = V.length
  wf : Kwf s
  vl : Kvl s (vat V)
theorem k0_ab {n t : Nat} (ht : t ≤ 4) (hn : n ≤ 9) (h : 2 * t + 1 ≤ n) : Kab (k0 n t) n t [] := by
  refine ⟨rfl, rfl, rfl, rfl, k0_wf ht hn h, fun i => .inl ⟨rfl, ?_⟩⟩
  unfold vat
  rw [if_neg (by simp; omega)]
theorem Kab.put {s : Kt} {n t : Nat} {V l : List Int} {v : Int} (h : Kab s n t V) (hV : V.length < 8) (hl : Ksh n t l v) : kadd s l = ((V.length : Int) + 1, 0, kput s l) ∧ Kab (kput s l) n t (V ++ [v]) := by
  have hc := h.ec
  have e : kadd s l = ((s.last : Int) + 1, 0, kput s l) := by
    rcases kadd_cases s l with ⟨h8, _⟩ | ⟨_, e⟩
    · omega
    · exact e
  refine ⟨by rw [e, h.el], h.en, h.et, ?_, ?_, kput_wf h.wf (by omega) (by rw [h.en]; exact hl.len) hl.bd, ?_⟩
  · show s.last + 1 = _
    rw [h.el]; simp
  · show s.cnt + 1 = _
    rw [h.ec]; simp
  · rw [vat_snoc, ← h.el]
    exact kput_vl h.vl (by rw [h.en, h.et]; exact hl)
theorem Kab.key {s : Kt} {n t : Nat} {V : List Int} (h : Kab s n t V) {k : Int} (h1 : 1 ≤ k) (h2 : k ≤ (V.length : Int)) : ∃ l, s.f k = some l ∧ Ksh n t l (V.getD (k - 1).toNat 0) := by
  rcases h.vl k with ⟨_, e⟩ | ⟨l, v, e1, e2, e3⟩
  · rw [vat_in h1 h2] at e; cases e
  · rw [vat_in h1 h2] at e2
    obtain rfl := Option.some.inj e2
    rw [h.en, h.et] at e3
    exact ⟨l, e1, e3⟩
theorem Kab.gen {s : Kt} {n t : Nat} {V : List Int} (h : Kab s n t V) (hV : V.length < 8) {ds : List Int} (hd : ds.length = n * (t + 1)) : ∃ s', kgen s ds = ((V.length : Int) + 1, 0, s') ∧ Kab s' n t (V ++ [ksv t true ds n]) := by
  have hp := h.put hV (ksm_ksh n t true ds n)
  refine ⟨_, ?_, hp.2⟩
  unfold kgen
  rw [h.en, h.et, if_pos hd]
  exact hp.1
theorem Kab.mix {s : Kt} {n t : Nat} {V : List Int} (h : Kab s n t V) (hV : V.length < 8) {g k : Int} (g1 : 1 ≤ g) (g2 : g ≤ (V.length : Int)) (k1 : 1 ≤ k) (k2 : k ≤ (V.length : Int)) (a b c : Int) :
    ∃ s', kmix s g k a b c = ((V.length : Int) + 1, 0, s') ∧ Kab s' n t (V ++ [nm (a * V.getD (g - 1).toNat 0 + b * V.getD (k - 1).toNat 0 + c)]) := by
  obtain ⟨l, e1, hl⟩ := h.key g1 g2
  obtain ⟨m, e2, hm⟩ := h.key k1 k2
  have hp := h.put hV (hl.mix a b c hm)
  refine ⟨_, ?_, hp.2⟩
  unfold kmix
  rw [e1, e2]
  simp only
  rw [h.en]
  exact hp.1
theorem Kab.mul {s : Kt} {n t : Nat} {V : List Int} (h : Kab s n t V) (hV : V.length < 8) {g k : Int} (g1 : 1 ≤ g) (g2 : g ≤ (V.length : Int)) (k1 : 1 ≤ k) (k2 : k ≤ (V.length : Int)) {ds : List Int} (hd : ds.length = n * t) :
    ∃ s', kmul s g k ds = ((V.length : Int) + 1, 0, s') ∧ Kab s' n t (V ++ [nm (V.getD (g - 1).toNat 0 * V.getD (k - 1).toNat 0)]) := by
  obtain ⟨l, e1, hl⟩ := h.key g1 g2
  obtain ⟨m, e2, hm⟩ := h.key k1 k2
  have w1 := h.wf.nt
  have w2 := h.wf.n9
  rw [h.en, h.et] at w1
  rw [h.en] at w2
  have hp := h.put hV (hl.times (ds := ds) hm w1 w2)
  refine ⟨_, ?_, hp.2⟩
  unfold kmul
  rw [e1, e2]
  simp only
  rw [h.en, h.et, if_pos hd]
  exact hp.1
theorem Kab.rfr {s : Kt} {n t : Nat} {V : List Int} (h : Kab s n t V) {k : Int} (k1 : 1 ≤ k) (k2 : k ≤ (V.length : Int)) {ds : List Int} (hd : ds.length = n * t) : ∃ s', krfr s k ds = (0, s') ∧ Kab s' n t V := by
  obtain ⟨l, e1, _⟩ := h.key k1 k2
  have hw := krfr_wf k ds h.wf
  have e : krfr s k ds = (0, ktrn s k (mxl l (ksm s.n s.t false ds s.n) 1 1 0 s.n)) := by
    unfold krfr
    rw [e1]
    simp only
    rw [if_pos (by rw [h.en, h.et]; exact hd)]
  rw [e] at hw
  exact ⟨_, e, h.en, h.et, h.el, h.ec, hw.1, ktrn_vl h.vl e1 (fun hv => hv.fresh) (vat_in k1 k2)⟩
theorem Kab.told {s : Kt} {n t : Nat} {V : List Int} (h : Kab s n t V) {k x r : Int} (k1 : 1 ≤ k) (k2 : k ≤ (V.length : Int)) (hO : Kop s k x r) : x = V.getD (k - 1).toNat 0 ∧ r = 0 := by
  obtain ⟨l, e1, _⟩ := h.key k1 k2
  have := h.vl.told h.wf e1 hO
  rw [vat_in k1 k2] at this
  exact ⟨(Option.some.inj this.1).symm, this.2⟩
/-- A key is gone; it can't be dropped twice. -/
theorem Kab.drp {s : Kt} {n t : Nat} {V : List Int} (h : Kab s n t V) {k : Int} (k1 : 1 ≤ k) (k2 : k ≤ (V.length : Int)) : kdrp s k = (0, kout s k) ∧ kdrp (kout s k) k = (4, kout s k) := by
  obtain ⟨l, e1, _⟩ := h.key k1 k2
  constructor
  · unfold kdrp; rw [e1]
  · have : (kout s k).f k = none := kset_same _ _ _
    unfold kdrp; rw [this]
end
section
open Crm Go.RowKit
theorem cell_block {w w' : World} {p : Addr} (e : w'.heap[p.block]? = w.heap[p.block]?) : w'.cell? p = w.cell? p := by unfold World.cell?; rw [e]
theorem add_block (x : Addr) (i : Nat) : (x.add i).block = x.block := by unfold Addr.add; split <;> rfl
theorem Rd.block {w w' : World} {a : Option Addr} {n c : Nat} {xs : List Int} (h : Rd w a n c xs) (hk : ∀ x, a = some x → w'.heap[x.block]? = w.heap[x.block]?) : Rd w' a n c xs := by
  refine ⟨h.len, h.cap, h.max, h.bd, h.nil, fun x hx i hi => ?_⟩
  have e : w'.cell? (x.add i) = w.cell? (x.add i) := cell_block (by rw [add_block]; exact hk x hx)
  rw [e]
  exact h.cell x hx i hi
/-- Nothing that was there has turned but in G. -/
structure Tch (w w' : World) (G : Nat → Prop) : Prop where
  os : w'.os = w.os
  tape : w'.tape = w.tape
  output : w'.output = w.output
  size : w.heap.size ≤ w'.heap.size
  block : ∀ i, i < w.heap.size → ¬ G i → w'.heap[i]? = w.heap[i]?
/-- G, and what is new. -/
def Gnx (G : Nat → Prop) (w w' : World) : Nat → Prop := fun i => G i ∨ (w.heap.size ≤ i ∧ i < w'.heap.size)
theorem Tch.refl (w : World) (G : Nat → Prop) : Tch w w G := ⟨rfl, rfl, rfl, Nat.le_refl _, fun _ _ _ => rfl⟩
theorem Tch.of_below {w w' : World} {G : Nat → Prop} (h : Below w.heap.size w w') : Tch w w' G := ⟨h.os, h.tape, h.output, h.size, fun i hi _ => h.block i hi⟩
theorem Tch.trans {w w1 w2 : World} {G : Nat → Prop} (h : Tch w w1 G) (k : Tch w1 w2 (Gnx G w w1)) : Tch w w2 G :=
  ⟨k.os.trans h.os, k.tape.trans h.tape, k.output.trans h.output, Nat.le_trans h.size k.size, fun i hi hn => (k.block i (Nat.lt_of_lt_of_le hi h.size) (fun g => g.elim hn (fun g => by omega))).trans (h.block i hi hn)⟩
theorem Tch.below {B : Nat} {w0 w w' : World} {G : Nat → Prop} (h : Tch w w' G) (hb : Below B w0 w) (hG : ∀ i, G i → B ≤ i) (hB : B ≤ w.heap.size) : Below B w0 w' :=
  ⟨h.os.trans hb.os, h.tape.trans hb.tape, h.output.trans hb.output, Nat.le_trans hb.size h.size, fun i hi => (h.block i (by omega) (fun g => by have := hG i g; omega)).trans (hb.block i hi)⟩
theorem Tch.rd {w w' : World} {G : Nat → Prop} {a : Option Addr} {n c : Nat} {xs : List Int} (h : Tch w w' G) (r : Rd w a n c xs) (hn : 0 < n) (hG : ∀ x, a = some x → ¬ G x.block) : Rd w' a n c xs := by
  refine r.block fun x hx => h.block _ ?_ (hG x hx)
  obtain ⟨b, o, rfl, hb, _⟩ := r.at hn
  obtain rfl := Option.some.inj hx
  exact hb
theorem Gnx.lt {G : Nat → Prop} {w w' : World} (h : ∀ i, G i → i < w.heap.size) (hs : w.heap.size ≤ w'.heap.size) : ∀ i, Gnx G w w' i → i < w'.heap.size := fun i g => g.elim (fun g => Nat.lt_of_lt_of_le (h i g) hs) (fun g => g.2)
theorem Gnx.ge {G : Nat → Prop} {w w' : World} {B : Nat} (h : ∀ i, G i → B ≤ i) (hs : B ≤ w.heap.size) : ∀ i, Gnx G w w' i → B ≤ i := fun i g => g.elim (h i) (fun g => Nat.le_trans hs g.1)
theorem Gnx.sub {G : Nat → Prop} {w w1 w2 : World} (h : w.heap.size ≤ w1.heap.size) (hs : w1.heap.size ≤ w2.heap.size) : ∀ i, Gnx (Gnx G w w1) w1 w2 i → Gnx G w w2 i := fun i g =>
  g.elim (fun g => g.elim .inl (fun g => .inr ⟨g.1, by omega⟩)) (fun g => .inr ⟨by omega, g.2⟩)

/-- The struct at p, its map at b with the elements V: the state s. -/
structure Sto (TY : TypeId) (w : World) (p b : Nat) (V : Int → Option Value) (s : Kt) : Prop where
  row : w.heap[p]? = some (.cells #[.int .i64 s.n, .int .i64 s.t, .int .i64 s.last, .map (some b)] TY (0, 0))
  map : MapI w b s.cnt V
  val : ∀ h, (s.f h = none ∧ V h = none) ∨ ∃ l a c, s.f h = some l ∧ V h = some (.slice a s.n c) ∧ Rd w a s.n c l
  wf : Kwf s
def Ftp (p b : Nat) (V : Int → Option Value) : Nat → Prop := fun i => i = p ∨ i = b ∨ ∃ h a m c, V h = some (.slice (some a) m c) ∧ a.block = i
theorem Sto.keep {TY : TypeId} {w w' : World} {p b : Nat} {V : Int → Option Value} {s : Kt} (h : Sto TY w p b V s) (hk : ∀ i, Ftp p b V i → w'.heap[i]? = w.heap[i]?) : Sto TY w' p b V s := by
  refine ⟨by rw [hk p (.inl rfl)]; exact h.row, h.map.block (hk b (.inr (.inl rfl))), fun i => ?_, h.wf⟩
  rcases h.val i with e | ⟨l, a, c, e1, e2, e3⟩
  · exact .inl e
  · exact .inr ⟨l, a, c, e1, e2, e3.block fun x hx => hk _ (.inr (.inr ⟨i, x, _, _, by rw [← hx]; exact e2, rfl⟩))⟩
/-- There is a store of state s at p, all of it in G. -/
def Stx (TY : TypeId) (w : World) (p : Nat) (G : Nat → Prop) (s : Kt) : Prop := (∃ b V, Sto TY w p b V s ∧ ∀ i, Ftp p b V i → G i) ∧ ∀ i, G i → i < w.heap.size
theorem Stx.keep {TY : TypeId} {w w' : World} {p : Nat} {G : Nat → Prop} {s : Kt} (h : Stx TY w p G s) (hk : ∀ i, G i → w'.heap[i]? = w.heap[i]?) : Stx TY w' p G s := by
  obtain ⟨⟨b, V, h1, h2⟩, h3⟩ := h
  refine ⟨⟨b, V, h1.keep fun i hi => hk i (h2 i hi), h2⟩, fun i hi => ?_⟩
  have e := hk i hi
  rw [Array.getElem?_eq_getElem (h3 i hi)] at e
  exact (Array.getElem?_eq_some_iff.1 e).1
theorem Stx.mono {TY : TypeId} {w : World} {p : Nat} {G G' : Nat → Prop} {s : Kt} (h : Stx TY w p G s) (hG : ∀ i, G i → G' i) (hl : ∀ i, G' i → i < w.heap.size) : Stx TY w p G' s := by
  obtain ⟨⟨b, V, h1, h2⟩, h3⟩ := h
  exact ⟨⟨b, V, h1, fun i hi => hG i (h2 i hi)⟩, hl⟩
theorem Stx.below {TY : TypeId} {w w' : World} {p : Nat} {G : Nat → Prop} {s : Kt} (h : Stx TY w p G s) (hb : Below w.heap.size w w') : Stx TY w' p (Gnx G w w') s :=
  (h.keep fun i hi => hb.block i (h.2 i hi)).mono (fun _ => .inl) (Gnx.lt h.2 hb.size)
theorem Stx.same {TY : TypeId} {w w' : World} {p : Nat} {G : Nat → Prop} {s : Kt} (h : Stx TY w p G s) (hb : Below w.heap.size w w') : Stx TY w' p G s := h.keep fun i hi => hb.block i (h.2 i hi)
theorem Stx.wf {TY : TypeId} {w : World} {p : Nat} {G : Nat → Prop} {s : Kt} (h : Stx TY w p G s) : Kwf s := let ⟨⟨_, _, h1, _⟩, _⟩ := h; h1.wf
/-- It stays while another one turns. -/
theorem Stx.aside {TY : TypeId} {w w' : World} {p : Nat} {G G' : Nat → Prop} {s : Kt} (h : Stx TY w p G s) (ht : Tch w w' G') (hd : ∀ i, G i → ¬ G' i) : Stx TY w' p G s := h.keep fun i hi => ht.block i (h.2 i hi) (hd i hi)
/-- What a call that may make a key leaves. -/
def Kde (TY : TypeId) (p : Nat) (G : Nat → Prop) (r : Int × Int × Kt) (w : World) (e : Ending) (w' : World) : Prop :=
  e = .returned (.tuple #[.int .i64 r.1, .int .i64 r.2.1]) ∧ Stx TY w' p (Gnx G w w') r.2.2 ∧ Tch w w' G
/-- What a call that turns a key, or drops it, leaves. -/
def Kte (TY : TypeId) (p : Nat) (G : Nat → Prop) (r : Int × Kt) (w : World) (e : Ending) (w' : World) : Prop :=
  e = .returned (.int .i64 r.1) ∧ Stx TY w' p (Gnx G w w') r.2 ∧ Tch w w' G
/-- What is behind one step more. -/
theorem Kde.behind {TY : TypeId} {p : Nat} {G : Nat → Prop} {r : Int × Int × Kt} {w w1 w' : World} {e : Ending} (hb : Below w.heap.size w w1) (h : Kde TY p (Gnx G w w1) r w1 e w') (hG : ∀ i, G i → i < w.heap.size) : Kde TY p G r w e w' := by
  obtain ⟨h1, h2, h3⟩ := h
  refine ⟨h1, h2.mono (Gnx.sub hb.size h3.size) (Gnx.lt hG (Nat.le_trans hb.size h3.size)), (Tch.of_below hb).trans h3⟩
theorem Kte.behind {TY : TypeId} {p : Nat} {G : Nat → Prop} {r : Int × Kt} {w w1 w' : World} {e : Ending} (hb : Below w.heap.size w w1) (h : Kte TY p (Gnx G w w1) r w1 e w') (hG : ∀ i, G i → i < w.heap.size) : Kte TY p G r w e w' := by
  obtain ⟨h1, h2, h3⟩ := h
  refine ⟨h1, h2.mono (Gnx.sub hb.size h3.size) (Gnx.lt hG (Nat.le_trans hb.size h3.size)), (Tch.of_below hb).trans h3⟩
theorem Kde.after {TY : TypeId} {p : Nat} {G : Nat → Prop} {r : Int × Int × Kt} {w w1 w' : World} {e : Ending} (hb : Below w.heap.size w w1) (h : Kde TY p G r w1 e w') (hG : ∀ i, G i → i < w.heap.size) : Kde TY p G r w e w' := by
  obtain ⟨h1, h2, h3⟩ := h
  have hs := hb.size
  refine ⟨h1, h2.mono (fun i g => g.elim .inl (fun g => .inr ⟨by omega, g.2⟩)) (Gnx.lt hG (Nat.le_trans hs h3.size)), ⟨h3.os.trans hb.os, h3.tape.trans hb.tape, h3.output.trans hb.output, Nat.le_trans hs h3.size, fun i hi hn => (h3.block i (by omega) hn).trans (hb.block i hi)⟩⟩
theorem Kte.after {TY : TypeId} {p : Nat} {G : Nat → Prop} {r : Int × Kt} {w w1 w' : World} {e : Ending} (hb : Below w.heap.size w w1) (h : Kte TY p G r w1 e w') (hG : ∀ i, G i → i < w.heap.size) : Kte TY p G r w e w' := by
  obtain ⟨h1, h2, h3⟩ := h
  have hs := hb.size
  refine ⟨h1, h2.mono (fun i g => g.elim .inl (fun g => .inr ⟨by omega, g.2⟩)) (Gnx.lt hG (Nat.le_trans hs h3.size)), ⟨h3.os.trans hb.os, h3.tape.trans hb.tape, h3.output.trans hb.output, Nat.le_trans hs h3.size, fun i hi hn => (h3.block i (by omega) hn).trans (hb.block i hi)⟩⟩
/-- A list that is new lies in what is new. -/
theorem gnx_new {G : Nat → Prop} {w w1 : World} {a : Option Addr} {n c : Nat} {xs : List Int} (r : Rd w1 a n c xs) (hn : 0 < n) (hx : ∀ x, a = some x → w.heap.size ≤ x.block) : ∀ x, a = some x → Gnx G w w1 x.block := fun x e => by
  obtain ⟨b, o, e2, hb, _⟩ := r.at hn
  rw [e] at e2
  obtain rfl := Option.some.inj e2
  exact .inr ⟨hx _ e, hb⟩
/-- Its cells. -/
theorem Sto.four {TY : TypeId} {w : World} {p b : Nat} {V : Int → Option Value} {s : Kt} (h : Sto TY w p b V s) : w.cell? ⟨p, 0, none⟩ = some (.int .i64 s.n) ∧ w.cell? ⟨p, 1, none⟩ = some (.int .i64 s.t) ∧ w.cell? ⟨p, 2, none⟩ = some (.int .i64 s.last) ∧ w.cell? ⟨p, 3, none⟩ = some (.map (some b)) := by
  refine ⟨?_, ?_, ?_, ?_⟩ <;> (rw [cell_of_row w p _ _ _ (0, 0) h.row]; rfl)
theorem Sto.lt {TY : TypeId} {w : World} {p b : Nat} {V : Int → Option Value} {s : Kt} (h : Sto TY w p b V s) : p < w.heap.size := (Array.getElem?_eq_some_iff.1 h.row).1
theorem Sto.ne {TY : TypeId} {w : World} {p b : Nat} {V : Int → Option Value} {s : Kt} (h : Sto TY w p b V s) : b ≠ p := fun e => by
  obtain ⟨es, ck, hm⟩ := h.map.map
  rw [e, h.row] at hm
  cases hm
/-- The struct holds no number of a list. -/
theorem Sto.apart {TY : TypeId} {w : World} {p b : Nat} {V : Int → Option Value} {s : Kt} (h : Sto TY w p b V s) {a : Addr} {n c : Nat} {xs : List Int} (r : Rd w (some a) n c xs) (hn : 0 < n) : a.block ≠ p ∧ a.block ≠ b := by
  obtain ⟨g, o, e, _, hc⟩ := r.at hn
  obtain rfl := Option.some.inj e
  have h0 := hc 0 hn
  constructor
  · intro e
    simp only at e
    subst e
    rw [cell_of_row w g _ _ _ (0, 0) h.row] at h0
    have hcase : o + 0 = 0 ∨ o + 0 = 1 ∨ o + 0 = 2 ∨ o + 0 = 3 ∨ 4 ≤ o + 0 := by omega
    rcases hcase with e | e | e | e | e
    · rw [e] at h0; simp at h0
    · rw [e] at h0; simp at h0
    · rw [e] at h0; simp at h0
    · rw [e] at h0; simp at h0
    · rw [Array.getElem?_eq_none (by simpa using e)] at h0
      cases h0
  · intro e
    simp only at e
    subst e
    obtain ⟨es, ck, hm⟩ := h.map.map
    unfold World.cell? at h0
    simp [hm] at h0
/-- A handle more: the struct's cell and the map have turned. -/
theorem Sto.put {TY : TypeId} {w w' : World} {p b : Nat} {V : Int → Option Value} {s : Kt} {a : Option Addr} {c : Nat} {l : List Int} (h : Sto TY w p b V s) (hc : s.cnt < 8) (hl : ∀ x ∈ l, 0 ≤ x ∧ x ≤ 2147483646) (r : Rd w a s.n c l)
    (hm : MapI w' b (if (V ((s.last : Int) + 1)).isSome then s.cnt else s.cnt + 1) (mset V ((s.last : Int) + 1) (some (.slice a s.n c))))
    (hr : w'.heap[p]? = some (.cells #[.int .i64 s.n, .int .i64 s.t, .int .i64 ((s.last : Int) + 1), .map (some b)] TY (0, 0))) (hk : ∀ i, i < w.heap.size → i ≠ p → i ≠ b → w'.heap[i]? = w.heap[i]?) :
    Sto TY w' p b (mset V ((s.last : Int) + 1) (some (.slice a s.n c))) (kput s l) := by
  have hn : 0 < s.n := by have := h.wf.nt; omega
  have hrd : ∀ {a : Option Addr} {c : Nat} {l : List Int}, Rd w a s.n c l → Rd w' a s.n c l := fun {a c l} r => r.block fun x hx => by
    subst hx
    have h1 := h.apart r hn
    obtain ⟨g, o, e, hg, _⟩ := r.at hn
    obtain rfl := Option.some.inj e
    exact hk _ hg h1.1 h1.2
  have hv : V ((s.last : Int) + 1) = none := by
    rcases h.val ((s.last : Int) + 1) with e | ⟨m, _, _, e, _⟩
    · exact e.2
    · have := (h.wf.key _ m e).1
      omega
  refine ⟨?_, ?_, fun i => ?_, kput_wf h.wf hc r.len hl⟩
  · rw [hr]; unfold kput; simp
  · rw [hv] at hm
    exact hm
  · unfold mset
    show (kset s.f ((s.last : Int) + 1) (some l) i = none ∧ _) ∨ ∃ l_1 a_1 c_1, kset s.f ((s.last : Int) + 1) (some l) i = some l_1 ∧ _ ∧ Rd w' a_1 s.n c_1 l_1
    by_cases e : i = (s.last : Int) + 1
    · subst e
      rw [kset_same, if_pos rfl]
      exact .inr ⟨l, a, c, rfl, rfl, hrd r⟩
    · rw [kset_other _ _ e, if_neg e]
      rcases h.val i with e | ⟨l, a, c, e1, e2, e3⟩
      · exact .inl e
      · exact .inr ⟨l, a, c, e1, e2, hrd e3⟩
/-- A key's numbers are other ones. -/
theorem Sto.turn {TY : TypeId} {w w' : World} {p b : Nat} {V : Int → Option Value} {s : Kt} {a : Option Addr} {c : Nat} {l m : List Int} {k : Int} (h : Sto TY w p b V s) (hm0 : s.f k = some m) (hl : ∀ x ∈ l, 0 ≤ x ∧ x ≤ 2147483646) (r : Rd w a s.n c l)
    (hm : MapI w' b (if (V k).isSome then s.cnt else s.cnt + 1) (mset V k (some (.slice a s.n c)))) (hk : ∀ i, i < w.heap.size → i ≠ b → w'.heap[i]? = w.heap[i]?) :
    Sto TY w' p b (mset V k (some (.slice a s.n c))) (ktrn s k l) := by
  have hn : 0 < s.n := by have := h.wf.nt; omega
  have hrd : ∀ {a : Option Addr} {c : Nat} {l : List Int}, Rd w a s.n c l → Rd w' a s.n c l := fun {a c l} r => r.block fun x hx => by
    subst hx
    have h1 := h.apart r hn
    obtain ⟨g, o, e, hg, _⟩ := r.at hn
    obtain rfl := Option.some.inj e
    exact hk _ hg h1.2
  have hv : (V k).isSome = true := by
    rcases h.val k with e | ⟨m, _, _, _, e, _⟩
    · rw [e.1] at hm0; cases hm0
    · rw [e]; rfl
  refine ⟨by rw [hk p h.lt h.ne.symm]; exact h.row, ?_, fun i => ?_, ktrn_wf h.wf hm0 r.len hl⟩
  · rw [hv] at hm
    exact hm
  · unfold mset
    show (kset s.f k (some l) i = none ∧ _) ∨ ∃ l_1 a_1 c_1, kset s.f k (some l) i = some l_1 ∧ _ ∧ Rd w' a_1 s.n c_1 l_1
    by_cases e : i = k
    · subst e
      rw [kset_same, if_pos rfl]
      exact .inr ⟨l, a, c, rfl, rfl, hrd r⟩
    · rw [kset_other _ _ e, if_neg e]
      rcases h.val i with e | ⟨l, a, c, e1, e2, e3⟩
      · exact .inl e
      · exact .inr ⟨l, a, c, e1, e2, hrd e3⟩
/-- A key is gone. -/
theorem Sto.out {TY : TypeId} {w w' : World} {p b : Nat} {V : Int → Option Value} {s : Kt} {m : List Int} {k : Int} (h : Sto TY w p b V s) (hm0 : s.f k = some m)
    (hm : MapI w' b (if (V k).isSome then s.cnt - 1 else s.cnt) (mset V k none)) (hk : ∀ i, i < w.heap.size → i ≠ b → w'.heap[i]? = w.heap[i]?) : Sto TY w' p b (mset V k none) (kout s k) := by
  have hn : 0 < s.n := by have := h.wf.nt; omega
  have hrd : ∀ {a : Option Addr} {c : Nat} {l : List Int}, Rd w a s.n c l → Rd w' a s.n c l := fun {a c l} r => r.block fun x hx => by
    subst hx
    have h1 := h.apart r hn
    obtain ⟨g, o, e, hg, _⟩ := r.at hn
    obtain rfl := Option.some.inj e
    exact hk _ hg h1.2
  have hv : (V k).isSome = true := by
    rcases h.val k with e | ⟨m, _, _, _, e, _⟩
    · rw [e.1] at hm0; cases hm0
    · rw [e]; rfl
  refine ⟨by rw [hk p h.lt h.ne.symm]; exact h.row, ?_, fun i => ?_, kout_wf h.wf⟩
  · rw [hv] at hm
    exact hm
  · unfold mset
    show (kset s.f k none i = none ∧ _) ∨ ∃ l_1 a_1 c_1, kset s.f k none i = some l_1 ∧ _ ∧ Rd w' a_1 s.n c_1 l_1
    by_cases e : i = k
    · subst e
      rw [kset_same, if_pos rfl]
      exact .inl ⟨rfl, rfl⟩
    · rw [kset_other _ _ e, if_neg e]
      rcases h.val i with e | ⟨l, a, c, e1, e2, e3⟩
      · exact .inl e
      · exact .inr ⟨l, a, c, e1, e2, hrd e3⟩
theorem zeroL (w : World) : (zeroValue 22).run Try.prog w = .ok (.slice none 0 0) w := by kernel_rfl
/-- Are there the first k of these keys? -/
def hsl (s : Kt) (hs : List Int) (k : Nat) : Bool := (hs.take k).all fun h => (s.f h).isSome
theorem wrap_i64 {x : Int} (h0 : -1000000 ≤ x) (h1 : x ≤ 1000000) : IntKind.i64.wrap x = x := by
  unfold IntKind.wrap
  simp [IntKind.signed, IntKind.bits]
  omega
end
end Go.Proofs.Ytljlioglpaogdaf
