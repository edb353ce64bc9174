/- Any shares of a dealing, and their weights: plain facts. · Reckoning with shares: plain facts. · Parties that reckon together: plain facts. · croftref.Times. · What the calls of package engine answer. -/
import Derived.Test.YtljlioglpaogdacDoorToEnD
import Derived.Test.YtljlioglpaogdacDoorToLstC
import Derived.Test.YtljlioglpaogdacDoorToGaussM
import Derived.Test.YtljlioglpaogdacDoorToSortM
import Derived.Test.YtljlioglpaogdacDoorToLsV2
import Derived.Test.YtljlioglpaogdacDoorToFitC
import Derived.Test.YtljlioglpaogdacDoorToShortC
import Derived.Test.YtljlioglpaogdacDoorToTRows
import Derived.BigQuiet
import Derived.Test.YtljlioglpaogdacDoorToShpM
namespace Go.Proofs.YtljlioglpaogdacDoor
set_option linter.unusedVariables false
set_option maxRecDepth 100000
set_option maxHeartbeats 8000000
section
open Crm
/-- The weights make of the values the value at 0. -/
theorem sum_wt {ts C : List Int} {K : Nat} (hd : dis (fi ts) K) (hC : C.length ≤ K) (y : Nat → Int) (hy : ∀ j, j < K → nm (y j) = nm (ev C (ts.getD j 0))) : nm (sm (fun i => wt ts K i * y i) K) = nm (ev C 0) := by
  have main : ∀ k, k ≤ K → ∃ R : List Int, R.length ≤ K ∧ (∀ j, j < K → nm (ev R (ts.getD j 0)) = if j < k then nm (y j) else 0) ∧ nm (ev R 0) = nm (sm (fun i => wt ts K i * y i) k) := by
    intro k
    induction k with
    | zero => exact fun _ => ⟨[], Nat.zero_le _, fun j _ => by rw [if_neg (by omega)]; rfl, rfl⟩
    | succ k ih =>
      intro hk
      obtain ⟨R, r1, r2, r3⟩ := ih (by omega)
      obtain ⟨Q, q1, q2, q3⟩ := wt_wgt hd (show k < K by omega)
      have hev : ∀ x, nm (ev (sml R (cvl [y k] Q)) x) = nm (ev R x + y k * ev Q x) := fun x => by
        rw [sml_ev]
        refine nm_add_congr rfl ?_
        rw [cvl_ev, ev, ev, Int.mul_zero, Int.add_zero]
      refine ⟨sml R (cvl [y k] Q), ?_, fun j hj => ?_, ?_⟩
      · rw [sml_len, cvl_len, List.length_singleton]; omega
      · rw [hev]
        have h1 := q2 j hj
        have h2 := r2 j hj
        by_cases e : j = k
        · subst e
          rw [if_pos rfl] at h1
          rw [if_neg (by omega)] at h2
          rw [if_pos (by omega), nm_add_congr (c := 0) (d := y j * 1) h2 (nm_mul_congr rfl (by rw [h1]; rfl)), Int.zero_add, Int.mul_one]
        · rw [if_neg e] at h1
          rw [nm_add_congr (c := ev R (ts.getD j 0)) (d := y k * 0) rfl (nm_mul_congr rfl (by rw [h1]; rfl)), Int.mul_zero, Int.add_zero, h2]
          by_cases e2 : j < k
          · rw [if_pos e2, if_pos (by omega)]
          · rw [if_neg e2, if_neg (by omega)]
      · rw [hev, sm]
        refine nm_add_congr r3 ?_
        rw [q3, nm_mull, Int.mul_comm]
  obtain ⟨R, r1, r2, r3⟩ := main K (Nat.le_refl _)
  rw [← r3]
  have hw : ∀ j, j < K → ((List.range K).map fun k => (ts.getD k 0, y k)).getD j (0, 0) = (ts.getD j 0, y j) := fun j hj => by simp [hj]
  refine ev_one (hs_one (l := (List.range K).map fun k => (ts.getD k 0, y k)) (n := K) (fun j hj => ?_) (fun j hj => ?_) (fun j hj => ?_) r1 hC) 0
  · rw [hw j hj]
    refine ⟨⟨(hd j hj).1.1, by have := (hd j hj).1.2; unfold fi at this; simp only; omega⟩, fun q hq => ?_⟩
    rw [hw q (by omega)]
    exact (hd j hj).2 q hq
  · rw [hw j hj]
    simp only
    rw [r2 j hj, if_pos hj]
  · rw [hw j hj]
    simp only
    exact (hy j hj).symm
/-- Each party's numbers mixed: a times the one, b times the other, and c. -/
def mxl (x y : List Int) (a b c : Int) (n : Nat) : List Int := (List.range n).map fun i => nm (a * x.getD i 0 + b * y.getD i 0 + c)
theorem mxl_len (x y : List Int) (a b c : Int) (n : Nat) : (mxl x y a b c n).length = n := by simp [mxl]
theorem mxl_getD (x y : List Int) (a b c : Int) {n i : Nat} (h : i < n) : (mxl x y a b c n).getD i 0 = nm (a * x.getD i 0 + b * y.getD i 0 + c) := by simp [mxl, h]
theorem mxl_snoc (x y : List Int) (a b c : Int) (n : Nat) : mxl x y a b c n ++ [nm (a * x.getD n 0 + b * y.getD n 0 + c)] = mxl x y a b c (n + 1) := by simp [mxl, List.range_succ]
theorem mxl_bd (x y : List Int) (a b c : Int) (n : Nat) : ∀ z ∈ mxl x y a b c n, 0 ≤ z ∧ z ≤ 2147483646 := by
  intro z hz
  obtain ⟨i, _, rfl⟩ := List.mem_map.1 hz
  exact nm_bd _
theorem mxl_one {a b c p q : Int} : nm (nm (nm (a * p) + nm (b * q)) + c) = nm (a * p + b * q + c) := by
  rw [nm_addl]
  refine nm_add_congr ?_ rfl
  exact nm_add_congr (nm_nm _) (nm_nm _)
/-- The same by other ways. -/
theorem mxl_ext {x y : List Int} {a b c : Int} {n : Nat} {F : Nat → Int} (h : ∀ i, i < n → F i = nm (a * x.getD i 0 + b * y.getD i 0 + c)) : (List.range n).map F = mxl x y a b c n :=
  List.map_congr_left fun i hi => h i (List.mem_range.1 hi)

/-- The parties' numbers. -/
def pty (n : Nat) : List Int := (List.range n).map fun i : Nat => (i : Int) + 1
theorem pty_getD {n i : Nat} (h : i < n) : (pty n).getD i 0 = (i : Int) + 1 := by simp [pty, h]
theorem pty_snoc (n : Nat) : pty n ++ [(n : Int) + 1] = pty (n + 1) := by simp [pty, List.range_succ]
theorem pty_dis {n : Nat} (h : n ≤ 9) : dis (fi (pty n)) n := fun i hi => by
  unfold fi
  rw [pty_getD hi]
  exact ⟨⟨by omega, by omega⟩, fun j hj => by rw [pty_getD (show j < n by omega)]; omega⟩

/-- What party i deals: the product of its numbers, and its draws. -/
def prC (t : Nat) (a b ds : List Int) (i : Nat) : List Int := nm (a.getD i 0 * b.getD i 0) :: (ds.drop (i * t)).take t
theorem prC_len (t : Nat) (a b ds : List Int) (i : Nat) : (prC t a b ds i).length ≤ t + 1 := by
  unfold prC; rw [List.length_cons, List.length_take]; omega
/-- What party j was dealt by the first k. -/
def tmR (t : Nat) (a b ds : List Int) (k j : Nat) : List Int := (List.range k).map fun i => dlf (prC t a b ds i) j
theorem tmR_len (t : Nat) (a b ds : List Int) (k j : Nat) : (tmR t a b ds k j).length = k := by simp [tmR]
theorem tmR_getD (t : Nat) (a b ds : List Int) {k i : Nat} (j : Nat) (h : i < k) : (tmR t a b ds k j).getD i 0 = dlf (prC t a b ds i) j := by simp [tmR, h]
theorem tmR_snoc (t : Nat) (a b ds : List Int) (k j : Nat) : tmR t a b ds k j ++ [dlf (prC t a b ds k) j] = tmR t a b ds (k + 1) j := by simp [tmR, List.range_succ]
theorem tmR_bd (t : Nat) (a b ds : List Int) (k j : Nat) : ∀ z ∈ tmR t a b ds k j, 0 ≤ z ∧ z ≤ 2147483646 := by
  intro z hz
  obtain ⟨i, _, rfl⟩ := List.mem_map.1 hz
  exact dlf_bd _ _
/-- What all were dealt, party by party. -/
def tmG (t : Nat) (a b ds : List Int) (n : Nat) : List (List Int) := (List.range n).map fun j => tmR t a b ds n j
theorem tmG_len (t : Nat) (a b ds : List Int) (n : Nat) : (tmG t a b ds n).length = n := by simp [tmG]
theorem tmG_getD (t : Nat) (a b ds : List Int) {n j : Nat} (h : j < n) : (tmG t a b ds n).getD j [] = tmR t a b ds n j := by simp [tmG, h]
/-- Party j's number of the product. -/
def tmf (t : Nat) (a b ds : List Int) (n j : Nat) : Int := nm (sm (fun i => wt (pty n) n i * dlf (prC t a b ds i) j) n)
def tmO (t : Nat) (a b ds : List Int) (n k : Nat) : List Int := (List.range k).map (tmf t a b ds n)
theorem tmO_len (t : Nat) (a b ds : List Int) (n k : Nat) : (tmO t a b ds n k).length = k := by simp [tmO]
theorem tmO_getD (t : Nat) (a b ds : List Int) (n : Nat) {k j : Nat} (h : j < k) : (tmO t a b ds n k).getD j 0 = tmf t a b ds n j := by simp [tmO, h]
theorem tmO_snoc (t : Nat) (a b ds : List Int) (n k : Nat) : tmO t a b ds n k ++ [tmf t a b ds n k] = tmO t a b ds n (k + 1) := by simp [tmO, List.range_succ]
theorem tmO_bd (t : Nat) (a b ds : List Int) (n k : Nat) : ∀ z ∈ tmO t a b ds n k, 0 ≤ z ∧ z ≤ 2147483646 := by
  intro z hz
  obtain ⟨i, _, rfl⟩ := List.mem_map.1 hz
  exact nm_bd _
/-- One polynomial of t + 1 numbers has the parties' numbers of the product. -/
theorem tm_poly (t : Nat) (a b ds : List Int) (W : Nat → Int) : ∀ k, ∃ P : List Int, P.length ≤ t + 1 ∧ ∀ x, ev P x = sm (fun i => W i * ev (prC t a b ds i) x) k
  | 0 => ⟨[], Nat.zero_le _, fun _ => rfl⟩
  | k + 1 => by
    obtain ⟨P, h1, h2⟩ := tm_poly t a b ds W k
    refine ⟨adl (W k) P (prC t a b ds k), ?_, fun x => ?_⟩
    · rw [adl_len]; have := prC_len t a b ds k; omega
    · rw [adl_ev, h2, sm]
/-- Of dealt secrets the product is dealt. -/
theorem times_dealt {t n : Nat} {A B ds : List Int} (hA : A.length ≤ t + 1) (hB : B.length ≤ t + 1) (hn : 2 * t + 1 ≤ n) (hn9 : n ≤ 9) :
    ∃ P : List Int, P.length ≤ t + 1 ∧ (∀ j, j < n → tmf t (dl A n) (dl B n) ds n j = nm (ev P ((j : Int) + 1))) ∧ nm (ev P 0) = nm (ev A 0 * ev B 0) := by
  obtain ⟨P, h1, h2⟩ := tm_poly t (dl A n) (dl B n) ds (wt (pty n) n) n
  refine ⟨P, h1, fun j _ => ?_, ?_⟩
  · unfold tmf
    rw [h2]
    refine sm_ncongr fun i hi => ?_
    unfold dlf
    rw [nm_mulr]
  · rw [h2]
    have h3 := sum_wt (pty_dis hn9) (C := cvl A B) (by rw [cvl_len]; omega) (fun i => ev (prC t (dl A n) (dl B n) ds i) 0) (fun j hj => by
      unfold prC
      rw [ev, Int.zero_mul, Int.add_zero, nm_nm, cvl_ev, dl_getD A hj, dl_getD B hj, pty_getD hj]
      unfold dlf
      exact nm_mul_congr (nm_nm _) (nm_nm _))
    rw [h3, cvl_ev]
/-- Shares of all parties' numbers are those of the polynomial that has them. -/
theorem shl_hs {C L : List Int} {n : Nat} (h : ∀ i, i < n → L.getD i 0 = nm (ev C ((i : Int) + 1))) : Hs (shl L n) n C := fun j hj => by
  rw [shl_getD L hj]
  simp only
  rw [h j hj, nm_nm]
theorem shl_dis (L : List Int) {n : Nat} (h : n ≤ 9) : dis (fa (shl L n)) n := fun i hi => by
  unfold fa
  rw [shl_getD L hi]
  exact ⟨⟨by simp only; omega, by simp only; omega⟩, fun j hj => by rw [shl_getD L (show j < n by omega)]; simp only; omega⟩
/-- What Open tells of them. -/
theorem shl_open {C L : List Int} {n t : Nat} {x r : Int} (hn : n ≤ 9) (ht : t ≤ 4) (htn : t < n) (hC : C.length ≤ t + 1) (h : ∀ i, i < n → L.getD i 0 = nm (ev C ((i : Int) + 1))) (hO : Opn (shl L n) n t x r) : x = nm (ev C 0) ∧ r = 0 :=
  any_open (shl_dis L hn) ht htn hC (shl_hs h) hO
/-- Mixed shares are shares of what is mixed. -/
theorem mxl_dealt {A B : List Int} {a b c : Int} {n t : Nat} (hA : A.length ≤ t + 1) (hB : B.length ≤ t + 1) :
    ∃ P : List Int, P.length ≤ t + 1 ∧ (∀ i, i < n → (mxl (dl A n) (dl B n) a b c n).getD i 0 = nm (ev P ((i : Int) + 1))) ∧ nm (ev P 0) = nm (a * ev A 0 + b * ev B 0 + c) := by
  have e : ∀ x, ev (adl 1 (adl b (A.map (a * ·)) B) [c]) x = a * ev A x + b * ev B x + c := fun x => by
    rw [adl_ev, adl_ev, map_ev, ev, ev, Int.mul_zero, Int.add_zero, Int.one_mul]
  refine ⟨adl 1 (adl b (A.map (a * ·)) B) [c], ?_, fun i hi => ?_, by rw [e]⟩
  · rw [adl_len, adl_len, List.length_map, List.length_singleton]; omega
  · rw [mxl_getD _ _ _ _ _ hi, dl_getD A hi, dl_getD B hi, e]
    refine nm_add_congr (nm_add_congr ?_ ?_) rfl
    · unfold dlf; rw [nm_mulr]
    · unfold dlf; rw [nm_mulr]
/-- Draws that the first i gates take. -/
def dwn (G : List Gt) (n t : Nat) : Nat → Nat
  | 0 => 0
  | i + 1 => dwn G n t i + (if (gt G i).k = 1 then t else if (gt G i).k = 5 then n * t else 0)
/-- The draws of gate i. -/
def edr (G : List Gt) (n t : Nat) (ds : List Int) (i k : Nat) : List Int := (ds.drop (dwn G n t i)).take k
/-- The parties' numbers of wire i, those of the wires ahead being W. -/
def esh (G : List Gt) (n t : Nat) (ins ds : List Int) (W : List (List Int)) (i : Nat) : List Int :=
  if (gt G i).k = 1 then dl (ins.getD (ci G i) 0 :: edr G n t ds i t) n
  else if (gt G i).k = 2 then List.replicate n (nm (gt G i).n)
  else if (gt G i).k = 3 then mxl (W.getD (gt G i).a.toNat []) (W.getD (gt G i).b.toNat []) 1 1 0 n
  else if (gt G i).k = 4 then mxl (W.getD (gt G i).a.toNat []) (W.getD (gt G i).b.toNat []) 1 2147483646 0 n
  else if (gt G i).k = 6 then mxl (W.getD (gt G i).a.toNat []) (W.getD (gt G i).a.toNat []) (gt G i).n 0 0 n
  else tmO t (W.getD (gt G i).a.toNat []) (W.getD (gt G i).b.toNat []) (edr G n t ds i (n * t)) n n
def ewr (G : List Gt) (n t : Nat) (ins ds : List Int) : Nat → List (List Int)
  | 0 => []
  | i + 1 => ewr G n t ins ds i ++ [esh G n t ins ds (ewr G n t ins ds i) i]
/-- The parties' numbers of wire i. -/
def ew (G : List Gt) (n t : Nat) (ins ds : List Int) (i : Nat) : List Int := esh G n t ins ds (ewr G n t ins ds i) i
theorem esh_len (G : List Gt) (n t : Nat) (ins ds : List Int) (W : List (List Int)) (i : Nat) : (esh G n t ins ds W i).length = n := by
  unfold esh
  repeat' split
  · exact dl_len _ _
  · simp
  · exact mxl_len _ _ _ _ _ _
  · exact mxl_len _ _ _ _ _ _
  · exact mxl_len _ _ _ _ _ _
  · exact tmO_len _ _ _ _ _ _
theorem esh_bd (G : List Gt) (n t : Nat) (ins ds : List Int) (W : List (List Int)) (i : Nat) : ∀ z ∈ esh G n t ins ds W i, 0 ≤ z ∧ z ≤ 2147483646 := by
  unfold esh
  repeat' split
  · exact dl_bd _ _
  · intro z hz; obtain rfl := List.eq_of_mem_replicate hz; exact nm_bd _
  · exact mxl_bd _ _ _ _ _ _
  · exact mxl_bd _ _ _ _ _ _
  · exact mxl_bd _ _ _ _ _ _
  · exact tmO_bd _ _ _ _ _ _
theorem ew_len (G : List Gt) (n t : Nat) (ins ds : List Int) (i : Nat) : (ew G n t ins ds i).length = n := esh_len _ _ _ _ _ _ _
theorem ew_bd (G : List Gt) (n t : Nat) (ins ds : List Int) (i : Nat) : ∀ z ∈ ew G n t ins ds i, 0 ≤ z ∧ z ≤ 2147483646 := esh_bd _ _ _ _ _ _ _
theorem ewr_len (G : List Gt) (n t : Nat) (ins ds : List Int) : ∀ i, (ewr G n t ins ds i).length = i
  | 0 => rfl
  | i + 1 => by rw [ewr, List.length_append, ewr_len G n t ins ds i]; rfl
theorem ewr_succ (G : List Gt) (n t : Nat) (ins ds : List Int) (i : Nat) : ewr G n t ins ds (i + 1) = ewr G n t ins ds i ++ [ew G n t ins ds i] := rfl
theorem ewr_getD (G : List Gt) (n t : Nat) (ins ds : List Int) {j : Nat} : ∀ {i : Nat}, j < i → (ewr G n t ins ds i).getD j [] = ew G n t ins ds j
  | 0, h => by omega
  | i + 1, h => by
    have hl := ewr_len G n t ins ds i
    rw [ewr_succ]
    by_cases e : j = i
    · subst e
      rw [List.getD_eq_getElem?_getD, List.getElem?_append_right (by omega), hl, Nat.sub_self]
      rfl
    · rw [List.getD_eq_getElem?_getD, List.getElem?_append_left (by omega), ← List.getD_eq_getElem?_getD]
      exact ewr_getD G n t ins ds (by omega)
theorem ew_in {G : List Gt} {n t : Nat} {ins ds : List Int} {i : Nat} (h : (gt G i).k = 1) : ew G n t ins ds i = dl (ins.getD (ci G i) 0 :: edr G n t ds i t) n := by unfold ew esh; rw [if_pos h]
theorem ew_const {G : List Gt} {n t : Nat} {ins ds : List Int} {i : Nat} (h : (gt G i).k = 2) : ew G n t ins ds i = List.replicate n (nm (gt G i).n) := by unfold ew esh; rw [if_neg (by omega), if_pos h]
theorem ew_add {G : List Gt} {n t : Nat} {ins ds : List Int} {i a b : Nat} (h : (gt G i).k = 3) (ha : (gt G i).a = (a : Int)) (hi : a < i) (hb : (gt G i).b = (b : Int)) (hj : b < i) : ew G n t ins ds i = mxl (ew G n t ins ds a) (ew G n t ins ds b) 1 1 0 n := by
  unfold ew
  rw [esh, if_neg (by omega), if_neg (by omega), if_pos h, ha, hb, Int.toNat_natCast, Int.toNat_natCast, ewr_getD G n t ins ds hi, ewr_getD G n t ins ds hj]
  rfl
theorem ew_sub {G : List Gt} {n t : Nat} {ins ds : List Int} {i a b : Nat} (h : (gt G i).k = 4) (ha : (gt G i).a = (a : Int)) (hi : a < i) (hb : (gt G i).b = (b : Int)) (hj : b < i) : ew G n t ins ds i = mxl (ew G n t ins ds a) (ew G n t ins ds b) 1 2147483646 0 n := by
  unfold ew
  rw [esh, if_neg (by omega), if_neg (by omega), if_neg (by omega), if_pos h, ha, hb, Int.toNat_natCast, Int.toNat_natCast, ewr_getD G n t ins ds hi, ewr_getD G n t ins ds hj]
  rfl
theorem ew_scale {G : List Gt} {n t : Nat} {ins ds : List Int} {i a : Nat} (h : (gt G i).k = 6) (ha : (gt G i).a = (a : Int)) (hi : a < i) : ew G n t ins ds i = mxl (ew G n t ins ds a) (ew G n t ins ds a) (gt G i).n 0 0 n := by
  unfold ew
  rw [esh, if_neg (by omega), if_neg (by omega), if_neg (by omega), if_neg (by omega), if_pos h, ha, Int.toNat_natCast, ewr_getD G n t ins ds hi]
  rfl
theorem ew_mul {G : List Gt} {n t : Nat} {ins ds : List Int} {i a b : Nat} (h : (gt G i).k = 5) (ha : (gt G i).a = (a : Int)) (hi : a < i) (hb : (gt G i).b = (b : Int)) (hj : b < i) : ew G n t ins ds i = tmO t (ew G n t ins ds a) (ew G n t ins ds b) (edr G n t ds i (n * t)) n n := by
  unfold ew
  rw [esh, if_neg (by omega), if_neg (by omega), if_neg (by omega), if_neg (by omega), if_neg (by omega), ha, hb, Int.toNat_natCast, Int.toNat_natCast, ewr_getD G n t ins ds hi, ewr_getD G n t ins ds hj]
  rfl
/-- Numbers that a polynomial has at the parties are those that are dealt of it. -/
theorem dl_of {P L : List Int} {n : Nat} (hl : L.length = n) (h : ∀ i, i < n → L.getD i 0 = nm (ev P ((i : Int) + 1))) : L = dl P n := by
  refine list_ext (by rw [hl, dl_len]) fun i hi => ?_
  rw [hl] at hi
  rw [h i hi, dl_getD P hi]
  rfl
/-- Each wire's numbers are shares of what the wire has. -/
theorem ew_poly {G : List Gt} {N n t : Nat} {ins ds : List Int} (hG : okG G N) (hn : 2 * t + 1 ≤ n) (hn9 : n ≤ 9) : ∀ i, i < N → ∃ P : List Int, P.length ≤ t + 1 ∧ ew G n t ins ds i = dl P n ∧ nm (ev P 0) = wi G ins i := by
  intro i
  induction i using Nat.strongRecOn with
  | _ i ih =>
    intro hi
    rcases hG i hi with ⟨h1, _, _, _⟩ | ⟨h1, _, _⟩ | ⟨h1, h2, _⟩ | ⟨h1, h2, h3, _⟩
    · refine ⟨_, ?_, ew_in h1, ?_⟩
      · unfold edr; rw [List.length_cons, List.length_take]; omega
      · rw [wi_in h1, ev, Int.zero_mul, Int.add_zero]
    · refine ⟨[nm (gt G i).n], by simp, ?_, ?_⟩
      · rw [ew_const h1]
        refine dl_of (by simp) fun j hj => ?_
        rw [ev, ev, Int.mul_zero, Int.add_zero, nm_nm]
        simp [hj]
      · rw [wi_const h1, ev, Int.zero_mul, Int.add_zero, nm_nm]
    · obtain ⟨a, ha⟩ : ∃ a : Nat, (gt G i).a = a := ⟨(gt G i).a.toNat, by omega⟩
      obtain ⟨A, a1, a2, a3⟩ := ih a (by omega) (by omega)
      obtain ⟨P, p1, p2, p3⟩ := mxl_dealt (A := A) (B := A) (a := (gt G i).n) (b := 0) (c := 0) (n := n) a1 a1
      rw [← a2] at p2
      refine ⟨P, p1, ?_, ?_⟩
      · rw [ew_scale h1 ha (by omega)]
        exact dl_of (mxl_len _ _ _ _ _ _) p2
      · rw [p3, wi_scale h1 ha (by omega), Int.zero_mul, Int.add_zero, Int.add_zero, Int.mul_comm, ← a3, nm_mull]
    · obtain ⟨a, ha⟩ : ∃ a : Nat, (gt G i).a = a := ⟨(gt G i).a.toNat, by omega⟩
      obtain ⟨b, hb⟩ : ∃ b : Nat, (gt G i).b = b := ⟨(gt G i).b.toNat, by omega⟩
      obtain ⟨A, a1, a2, a3⟩ := ih a (by omega) (by omega)
      obtain ⟨B, b1, b2, b3⟩ := ih b (by omega) (by omega)
      rcases h1 with h1 | h1 | h1
      · obtain ⟨P, p1, p2, p3⟩ := mxl_dealt (A := A) (B := B) (a := 1) (b := 1) (c := 0) (n := n) a1 b1
        rw [← a2, ← b2] at p2
        refine ⟨P, p1, ?_, ?_⟩
        · rw [ew_add h1 ha (by omega) hb (by omega)]
          exact dl_of (mxl_len _ _ _ _ _ _) p2
        · rw [p3, wi_add h1 ha (by omega) hb (by omega), ← a3, ← b3]
          unfold nm
          omega
      · obtain ⟨P, p1, p2, p3⟩ := mxl_dealt (A := A) (B := B) (a := 1) (b := 2147483646) (c := 0) (n := n) a1 b1
        rw [← a2, ← b2] at p2
        refine ⟨P, p1, ?_, ?_⟩
        · rw [ew_sub h1 ha (by omega) hb (by omega)]
          exact dl_of (mxl_len _ _ _ _ _ _) p2
        · rw [p3, wi_sub h1 ha (by omega) hb (by omega), ← a3, ← b3]
          unfold nm
          omega
      · obtain ⟨P, p1, p2, p3⟩ := times_dealt (t := t) (n := n) (A := A) (B := B) (ds := edr G n t ds i (n * t)) a1 b1 hn hn9
        rw [← a2, ← b2] at p2
        refine ⟨P, p1, ?_, ?_⟩
        · rw [ew_mul h1 ha (by omega) hb (by omega)]
          refine dl_of (tmO_len _ _ _ _ _ _) fun j hj => ?_
          rw [tmO_getD _ _ _ _ _ hj]
          exact p2 j hj
        · rw [p3, wi_mul h1 ha (by omega) hb (by omega), ← a3, ← b3, nm_mull, nm_mulr]
/-- What party j sees of gate i. -/
def esn (G : List Gt) (n t : Nat) (ins ds : List Int) (i j : Nat) : List Int :=
  if (gt G i).k = 1 then [(ew G n t ins ds i).getD j 0]
  else if (gt G i).k = 5 then tmR t (ew G n t ins ds (gt G i).a.toNat) (ew G n t ins ds (gt G i).b.toNat) (edr G n t ds i (n * t)) n j
  else []
/-- .. of the first i gates. -/
def sng (G : List Gt) (n t : Nat) (ins ds : List Int) (i j : Nat) : List Int := (List.range i).flatMap fun p => esn G n t ins ds p j
theorem sng_succ (G : List Gt) (n t : Nat) (ins ds : List Int) (i j : Nat) : sng G n t ins ds (i + 1) j = sng G n t ins ds i j ++ esn G n t ins ds i j := by simp [sng, List.range_succ]
/-- .. and of the first q outs. -/
def sno (G : List Gt) (O : List Int) (n t : Nat) (ins ds : List Int) (N q j : Nat) : List Int := sng G n t ins ds N j ++ (List.range q).flatMap fun o => ew G n t ins ds (O.getD o 0).toNat
theorem sno_succ (G : List Gt) (O : List Int) (n t : Nat) (ins ds : List Int) (N q j : Nat) : sno G O n t ins ds N (q + 1) j = sno G O n t ins ds N q j ++ ew G n t ins ds (O.getD q 0).toNat := by simp [sno, List.range_succ]
/-- What all parties have seen. -/
def snl (G : List Gt) (O : List Int) (n t : Nat) (ins ds : List Int) (N m : Nat) : List (List Int) := (List.range n).map fun j => sno G O n t ins ds N m j
theorem snl_len (G : List Gt) (O : List Int) (n t : Nat) (ins ds : List Int) (N m : Nat) : (snl G O n t ins ds N m).length = n := by simp [snl]
theorem snl_getD (G : List Gt) (O : List Int) (n t : Nat) (ins ds : List Int) (N m : Nat) {j : Nat} (h : j < n) : (snl G O n t ins ds N m).getD j [] = sno G O n t ins ds N m j := by simp [snl, h]
theorem esn_bd (G : List Gt) (n t : Nat) (ins ds : List Int) (i : Nat) {j : Nat} (hj : j < n) : ∀ z ∈ esn G n t ins ds i j, 0 ≤ z ∧ z ≤ 2147483646 := by
  unfold esn
  split
  · intro z hz
    obtain rfl := List.mem_singleton.1 hz
    refine ew_bd G n t ins ds i _ ?_
    rw [List.getD_eq_getElem?_getD, List.getElem?_eq_getElem (by rw [ew_len]; exact hj)]
    exact List.getElem_mem _
  · split
    · exact tmR_bd _ _ _ _ _ _
    · intro z hz; simp at hz
theorem sno_bd (G : List Gt) (O : List Int) (n t : Nat) (ins ds : List Int) (N q : Nat) {j : Nat} (hj : j < n) : ∀ z ∈ sno G O n t ins ds N q j, 0 ≤ z ∧ z ≤ 2147483646 := by
  intro z hz
  rcases List.mem_append.1 hz with hz | hz
  · obtain ⟨i, _, hi⟩ := List.mem_flatMap.1 hz
    exact esn_bd G n t ins ds i hj z hi
  · obtain ⟨i, _, hi⟩ := List.mem_flatMap.1 hz
    exact ew_bd _ _ _ _ _ _ z hi
/-- Who may run a circuit. -/
def okc (G : List Gt) (N : Nat) (n t : Int) : Prop := (0 ≤ t ∧ t ≤ 4) ∧ (1 ≤ n ∧ n ≤ 9) ∧ 2 * t + 1 ≤ n ∧ ∀ x ∈ whl G N, x ≤ n
/-- What Need tells. -/
def Nde (G : List Gt) (O : List Int) (N m : Nat) (n t r : Int) : Prop := (r ≠ 0 ∧ Cke G O N m r) ∨ (Cke G O N m 0 ∧ ((¬ okc G N n t ∧ r = 1) ∨ (okc G N n t ∧ r = 0)))
theorem Nde.one {G : List Gt} {O : List Int} {N m : Nat} {n t r s : Int} (h : Nde G O N m n t r) (k : Nde G O N m n t s) : r = s := by
  rcases h with ⟨h1, h2⟩ | ⟨h1, ⟨h2, rfl⟩ | ⟨h2, rfl⟩⟩ <;> rcases k with ⟨k1, k2⟩ | ⟨k1, ⟨k2, rfl⟩ | ⟨k2, rfl⟩⟩
  all_goals first
    | rfl
    | exact h2.one k2
    | exact absurd (h2.one k1) h1
    | exact absurd (k2.one h1) k1
    | exact absurd k2 h2
    | exact absurd h2 k2
theorem Nde.ok {G : List Gt} {O : List Int} {N m : Nat} {n t : Int} (h : Nde G O N m n t 0) : Cke G O N m 0 ∧ okc G N n t := by
  rcases h with ⟨h1, _⟩ | ⟨h1, ⟨_, h2⟩ | ⟨h2, _⟩⟩
  · exact absurd rfl h1
  · omega
  · exact ⟨h1, h2⟩
/-- What is wrong with a run. -/
def Ere (G : List Gt) (O : List Int) (N m : Nat) (n t : Int) (q d : Nat) (r : Int) : Prop :=
  (r ≠ 0 ∧ Nde G O N m n t r) ∨ (Nde G O N m n t 0 ∧ ((q ≠ ci G N ∧ r = 5) ∨ (q = ci G N ∧ ((d ≠ dwn G n.toNat t.toNat N ∧ r = 1) ∨ (d = dwn G n.toNat t.toNat N ∧ r = 0)))))
theorem Ere.one {G : List Gt} {O : List Int} {N m : Nat} {n t : Int} {q d : Nat} {r s : Int} (h : Ere G O N m n t q d r) (k : Ere G O N m n t q d s) : r = s := by
  rcases h with ⟨h1, h2⟩ | ⟨h1, ⟨h2, rfl⟩ | ⟨h2, ⟨h3, rfl⟩ | ⟨h3, rfl⟩⟩⟩ <;> rcases k with ⟨k1, k2⟩ | ⟨k1, ⟨k2, rfl⟩ | ⟨k2, ⟨k3, rfl⟩ | ⟨k3, rfl⟩⟩⟩
  all_goals first
    | rfl
    | exact h2.one k2
    | exact absurd (h2.one k1) h1
    | exact absurd (k2.one h1) k1
    | exact absurd k2 h2
    | exact absurd h2 k2
    | exact absurd k3 h3
    | exact absurd h3 k3
end
section
open Crm Go.RowKit
theorem infoVs : (Tryd.prog.info? 31).map (fun i => (i.zero, i.size, i.bytes)) = some (some (.slice none 0 0), 1, 24) := by kernel_rfl

theorem wrap_i64 {x : Int} (h0 : -1000000 ≤ x) (h1 : x ≤ 1000000) : IntKind.i64.wrap x = x := by
  unfold IntKind.wrap
  simp [IntKind.signed, IntKind.bits]
  omega
/-- Rows that lie elsewhere. -/
def Far (L : List Value) (n lo hi : Nat) : Prop := ∀ p, p < n → ∀ gg, (L.getD p (.slice none 0 0)).ownBlock = some gg → gg < lo ∨ hi ≤ gg
theorem map_getDN {f : Nat → Int} {m i : Nat} (h : i < m) : ((List.range m).map f).getD i 0 = f i := by simp [h]
theorem infoS1 : (Tryd.prog.info? 43).map (·.size) = some 1 := by kernel_rfl
/-- What all were dealt by the first i. -/
def gti (t : Nat) (xs ys ds : List Int) (n i : Nat) : List (List Int) := (List.range n).map fun j => tmR t xs ys ds i j
theorem gti_len (t : Nat) (xs ys ds : List Int) (n i : Nat) : (gti t xs ys ds n i).length = n := by simp [gti]
theorem gti_zero (t : Nat) (xs ys ds : List Int) (n : Nat) : List.replicate n [] = gti t xs ys ds n 0 := by
  apply List.ext_getElem?
  intro i
  by_cases hi : i < n
  · simp [gti, tmR, hi]
  · simp [gti, hi]
/-- .. and the first j of them by one more. -/
def gtj (t : Nat) (xs ys ds : List Int) (n i j : Nat) : List (List Int) := (List.range n).map fun p => if p < j then tmR t xs ys ds (i + 1) p else tmR t xs ys ds i p
theorem gtj_len (t : Nat) (xs ys ds : List Int) (n i j : Nat) : (gtj t xs ys ds n i j).length = n := by simp [gtj]
theorem gtj_zero (t : Nat) (xs ys ds : List Int) (n i : Nat) : gtj t xs ys ds n i 0 = gti t xs ys ds n i := by simp [gtj, gti]
theorem gtj_full (t : Nat) (xs ys ds : List Int) (n i : Nat) : gtj t xs ys ds n i n = gti t xs ys ds n (i + 1) := by
  unfold gtj gti
  refine List.map_congr_left fun p hp => ?_
  rw [if_pos (List.mem_range.1 hp)]
theorem gtj_getD (t : Nat) (xs ys ds : List Int) {n i j : Nat} (h : j < n) : (gtj t xs ys ds n i j).getD j [] = tmR t xs ys ds i j := by simp [gtj, h]
theorem gti_getD (t : Nat) (xs ys ds : List Int) {n i j : Nat} (h : j < n) : (gti t xs ys ds n i).getD j [] = tmR t xs ys ds i j := by simp [gti, h]
theorem gtj_set (t : Nat) (xs ys ds : List Int) (n i j : Nat) : (gtj t xs ys ds n i j).set j (tmR t xs ys ds (i + 1) j) = gtj t xs ys ds n i (j + 1) := by
  apply List.ext_getElem?
  intro q
  rw [List.getElem?_set]
  by_cases hq : q < n
  · by_cases e : j = q
    · subst e; simp [gtj, hq]
    · have : (q < j + 1) = (q < j) := by apply propext; omega
      simp [gtj, hq, e, this]
  · by_cases e : j = q
    · subst e; simp [gtj, hq]
    · simp [gtj, hq, e]

theorem rTimes (t : Nat) (a : Option Addr) (n c : Nat) (xs : List Int) (b : Option Addr) (d : Nat) (ys : List Int) (e0 : Option Addr) (m f : Nat) (ds : List Int) (w : World) (h : Rd w a n c xs) (g : Rd w b n d ys) (k : Rd w e0 m f ds) (ht : t ≤ 4) (hn1 : 1 ≤ n) (hn9 : n ≤ 9) (hm : m = n * t) :
    Calls Tryd.prog 32 #[.int .i64 t, .slice a n c, .slice b n d, .slice e0 m f] w fun e w' => ∃ v u L, e = .returned (.tuple #[v, u]) ∧ w'.ownsRow w.heap.size 43 1 v n ((tmO t xs ys ds n n).map (Value.int .u64)) ∧ LsV w' w.heap.size u L (tmG t xs ys ds n) ∧ Below w.heap.size w w' := by
  obtain ⟨i0, hi, hz0, hz1, hz2⟩ := info_parts infoVs
  have HM : Hid (m = n * t) := hm
  clear hm
  go_enter Tryd.func32, Tryd.ntmps32
  go_wp2_with (at_make; refine wpList_make_full _ rfl _ _ 37 rfl w.heap.size 31 i0 (.slice none 0 0) 1 Tryd.underlying37 hi hz0 hz1 .i64 .i64 _ _ n rfl rfl (by omega) (by omega) (by rw [hz2]; omega) (by unfold maxLen; omega) (Nat.le_refl _) ?_; intro w1 hown hgrow)
  have hb1 : Below w.heap.size w w1 := (Below.refl _ _).grown hgrow (Nat.le_refl _) (by simp)
  have hL1 := lsv_made hown
  rw [gti_zero t xs ys ds n] at hL1
  clear hown hgrow
  go_loopw [12, 13] (fun v q wr => ∃ (i : Nat) (L : List Value), i ≤ n ∧ q = .int .i64 i ∧ wr.ownsRow w.heap.size 3 1 v i (zns (pty i)) ∧ LsV wr w.heap.size (.slice (some ⟨w.heap.size, 0, none⟩) n n) L (gti t xs ys ds n i) ∧ Below w.heap.size w wr) (fun _ q _ => n - (intOf q).toNat)
  case atStart => exact ⟨0, _, Nat.zero_le _, rfl, World.ownsRow_nil _ _ _ _, hL1, hb1⟩
  case round =>
    clear hL1 hb1
    obtain ⟨i, L, hi, rfl, hown, hL, hbel⟩ := hrel
    have hs1 := hbel.size
    by_cases hlt : i < n
    · have HA1 : Hid (∀ w', wr.grownBy w' u12.ownBlock → LsV w' w.heap.size (.slice (some ⟨w.heap.size, 0, none⟩) n n) L (gti t xs ys ds n i)) := fun w' hg => hL.grown hg (own_apart hown hL.own (by decide)) (fun j hj => own_apart hown (hL.row j hj) (by decide))
      have HSn : Hid (zns (pty i) ++ [.int .i64 ((i : Int) + 1)] = zns (pty (i + 1))) := by unfold Hid; rw [zns_snoc, pty_snoc]
      go_wp2_with (at_builtin; refine wpList_appV Tryd.underlying23 infoZ rfl (by omega) _ rfl _ _ rfl w.heap.size _ _ _ rfl hown (.int .i64 ((i : Int) + 1)) rfl rfl (by omega) hs1 ?_; intro v2 w2 hown2 hgr2 _; rw [HSn.out] at hown2; have hL2 := HA1.out w2 hgr2; have hb2 := hbel.grown hgr2 hs1 (fun q hq => (hown.lt q hq).1); clear hgr2 hown hL hbel HA1)
      obtain ⟨P, HP⟩ : ∃ P, Hid (i * t = P) := ⟨_, rfl⟩
      have hP : (i : Int) * (t : Int) = (P : Int) := by rw [← HP.out]; push_cast; rfl
      have hPm : P + t ≤ m := by
        have h1 : (i + 1) * t ≤ n * t := Nat.mul_le_mul_right t hlt
        rw [Nat.add_mul, Nat.one_mul, HP.out, ← HM.out] at h1
        exact h1
      have hm36 : m ≤ 36 := by rw [HM.out]; exact Nat.le_trans (Nat.mul_le_mul hn9 ht) (by omega)
      have hkc := k.cap
      obtain ⟨b1, o1, x, rfl, hb1, HX, hx0, hx1, hcx⟩ := (h.below hb2).one hlt
      obtain ⟨b2, o2, y, rfl, hb2', HY, hy0, hy1, hcy⟩ := (g.below hb2).one hlt
      have hxy := nm_bd (x * y)
      have hi0 : (0 : Int) ≤ (i : Int) := by omega
      have hin : (i : Int) < (n : Int) := by omega
      have hrk := ((k.below hb2).sub (lo := P) (k := t) hPm)
      obtain ⟨X, HX2⟩ : ∃ X, Hid (subA e0 f P = X) := ⟨_, rfl⟩
      rw [HX2.out] at hrk
      have hsl : ∀ W, (Instr.sliceAt 31 (.slice e0 m f) (some (.int .i64 (P : Int))) (some (.int .i64 ((P : Int) + (t : Int)))) none).run Tryd.prog W = .ok (.slice X t (f - P)) W := fun W => by rw [← HX2.out]; exact run_sub Tryd.underlying31 infoS1 e0 m f P t rfl rfl (by omega) W
      have HPC : Hid (nm (x * y) :: (ds.drop P).take t = prC t xs ys ds i) := by unfold Hid prC; rw [HX.out, HY.out, HP.out]
      have hsz2 := hb2.size
      have hwP : IntKind.i64.wrap (P : Int) = (P : Int) := wrap_i64 (by omega) (by omega)
      have hwPt : IntKind.i64.wrap ((P : Int) + (t : Int)) = (P : Int) + (t : Int) := wrap_i64 (by omega) (by omega)
      go_wp2
      go_region_law (first | (go_simp; go_at_call 47; refine (rMul _ _ _ (by omega) (by omega) (by omega) (by omega)).mono ?_; rintro en w' ⟨rfl, rfl⟩) | (go_simp; go_at_call 30; refine (rDealtO _ _ _ _ _ _ _ hrk.drew (by omega) (by omega) ht hn9).mono ?_; rintro en w3 ⟨vl, rfl, hol, hb3⟩))
      all_goals
        rw [HPC.out] at hol
        have hL3 := (hL2.drew).below hb3
        have hown3 := own_below (show w2.drew.ownsRow _ _ _ _ _ _ from hown2) hb3
        have hbw3 := hb2.drew.trans (hb3.mono hsz2)
        have hs23 : w2.heap.size ≤ w3.heap.size := hb3.size
        have hs3 := hbw3.size
        have HFar : Hid (Far L n w2.heap.size w3.heap.size) := fun p hp gg hgg => .inl (((hL2.row p (by rw [gti_len]; exact hp)).lt gg hgg).2)
        have HVl : Hid (∀ gg, vl.ownBlock = some gg → w2.heap.size ≤ gg ∧ gg < w3.heap.size) := fun gg hgg => hol.lt gg hgg
        rw [← gtj_zero] at hL3
        clear hrk hsl HPC hL2 hown2 hb2 hb3 hwP hwPt hP HX2
        go_wp2
        go_loopw [15] (fun q wr => ∃ (j : Nat) (L : List Value), j ≤ n ∧ q = .int .i64 j ∧ LsV wr w.heap.size (.slice (some ⟨w.heap.size, 0, none⟩) n n) L (gtj t xs ys ds n i j) ∧ Hid (Far L n w2.heap.size w3.heap.size) ∧ wr.ownsRow w2.heap.size 43 1 vl n ((dl (prC t xs ys ds i) n).map (Value.int .u64)) ∧ wr.ownsRow w.heap.size 3 1 v2 (i + 1) (zns (pty (i + 1))) ∧ w3.heap.size ≤ wr.heap.size ∧ Below w.heap.size w wr) (fun q _ => n - (intOf q).toNat)
        case atStart => exact ⟨0, L, Nat.zero_le _, rfl, hL3, HFar, hol, hown3, Nat.le_refl _, hbw3⟩
        case round =>
          clear hL3 HFar hol hown3 hbw3
          obtain ⟨j, L, hj, rfl, hL, HFar, hol, hoa, hsr, hbel⟩ := hrel
          by_cases hjn : j < n
          · have hgl := gtj_len t xs ys ds n i j
            obtain ⟨dg, fg, lg⟩ := hL.cell hgl hjn
            have hrow := hL.row j (by rw [hgl]; exact hjn)
            rw [gtj_getD t xs ys ds hjn, tmR_len] at hrow
            obtain ⟨z, HZ⟩ : ∃ z, Hid (dlf (prC t xs ys ds i) j = z) := ⟨_, rfl⟩
            obtain ⟨al, cl, rfl, hrl, _⟩ := Rd.own hol (bd_u64 (dl_bd _ _))
            obtain ⟨b3, o3, z', rfl, hb3', HZ', hz0', hz1', hcz⟩ := hrl.one hjn
            obtain rfl : z = z' := by rw [← HZ.out, ← HZ'.out, dl_getD _ hjn]
            have HTR : Hid (tmR t xs ys ds i j ++ [z] = tmR t xs ys ds (i + 1) j) := by unfold Hid; rw [← HZ.out, tmR_snoc]
            obtain ⟨u, HU⟩ : ∃ u, Hid (L.getD j (.slice none 0 0) = u) := ⟨_, rfl⟩
            rw [HU.out] at dg hrow
            have hrowD : wr.drew.ownsRow w.heap.size 43 1 u i ((tmR t xs ys ds i j).map (Value.int .u64)) := hrow
            obtain ⟨ua, uc, rfl, huc⟩ := own_slice hrow
            have hsw := hbel.size
            have HST : Hid (∀ w7, wr.drew.grownBy w7 (Value.slice ua i uc).ownBlock → (∃ x, w7.cell? ⟨w.heap.size, j, none⟩ = some x) ∧ w7.frozen? ⟨w.heap.size, j, none⟩ = false) := fun w7 hg => by
              have ho7 := (show wr.drew.ownsRow _ _ _ _ _ _ from hL.own).kept hg (own_apart hrowD (show wr.drew.ownsRow _ _ _ _ _ _ from hL.own) (by decide))
              rw [hgl] at ho7
              obtain ⟨g', x, e1, _, _, _, e5⟩ := own_at ho7 hjn
              simp only [Option.some.injEq, Addr.mk.injEq, and_true] at e1
              subst e1
              exact ⟨⟨x, e5⟩, own_frozen ho7 j⟩
            have HUP : Hid (∀ g7 cap7 w7, w7.ownsRow w.heap.size 43 1 (.slice (some ⟨g7, 0, none⟩) (i + 1) cap7) (i + 1) ((tmR t xs ys ds (i + 1) j).map (Value.int .u64)) → wr.drew.grownBy w7 (Value.slice ua i uc).ownBlock → ((Value.slice (some ⟨g7, 0, none⟩) (i + 1) cap7).ownBlock = (Value.slice ua i uc).ownBlock ∨ ∃ k, (Value.slice (some ⟨g7, 0, none⟩) (i + 1) cap7).ownBlock = some k ∧ wr.drew.heap.size ≤ k) →
                LsV (w7.setCell ⟨w.heap.size, j, none⟩ (.slice (some ⟨g7, 0, none⟩) (i + 1) cap7)) w.heap.size (.slice (some ⟨w.heap.size, 0, none⟩) n n) (L.set j (.slice (some ⟨g7, 0, none⟩) (i + 1) cap7)) (gtj t xs ys ds n i (j + 1)) ∧ Far (L.set j (.slice (some ⟨g7, 0, none⟩) (i + 1) cap7)) n w2.heap.size w3.heap.size ∧
                (w7.setCell ⟨w.heap.size, j, none⟩ (.slice (some ⟨g7, 0, none⟩) (i + 1) cap7)).ownsRow w2.heap.size 43 1 (.slice (some ⟨b3, o3, none⟩) n cl) n ((dl (prC t xs ys ds i) n).map (Value.int .u64)) ∧ (w7.setCell ⟨w.heap.size, j, none⟩ (.slice (some ⟨g7, 0, none⟩) (i + 1) cap7)).ownsRow w.heap.size 3 1 v2 (i + 1) (zns (pty (i + 1))) ∧ w3.heap.size ≤ (w7.setCell ⟨w.heap.size, j, none⟩ (.slice (some ⟨g7, 0, none⟩) (i + 1) cap7)).heap.size ∧ Below w.heap.size w (w7.setCell ⟨w.heap.size, j, none⟩ (.slice (some ⟨g7, 0, none⟩) (i + 1) cap7))) := fun g7 cap7 w7 ho hg hat => by
              have hLd := hL.drew
              have hu := hLd.upd (q := j) (row := tmR t xs ys ds (i + 1) j) (u' := .slice (some ⟨g7, 0, none⟩) (i + 1) cap7) hgl hjn (by rw [tmR_len]; exact ho) (by rw [HU.out]; exact hg) (by rw [HU.out]; exact hat)
              rw [gtj_set] at hu
              have hLl := hL.len
              have hg2 : w7.grownBy (w7.setCell ⟨w.heap.size, j, none⟩ (.slice (some ⟨g7, 0, none⟩) (i + 1) cap7)) (some w.heap.size) := grown_set _ _ _ _
              have hb7 : Below w.heap.size w w7 := hbel.drew.grown hg hsw (fun q hq => (hrow.lt q hq).1)
              have ho7 := (show wr.drew.ownsRow _ _ _ _ _ _ from hL.own).kept hg (own_apart hrowD (show wr.drew.ownsRow _ _ _ _ _ _ from hL.own) (by decide))
              have hlk : w7.ownsRow w2.heap.size 43 1 (.slice (some ⟨b3, o3, none⟩) n cl) n ((dl (prC t xs ys ds i) n).map (Value.int .u64)) := by
                refine (show wr.drew.ownsRow _ _ _ _ _ _ from hol).kept hg ?_
                right
                intro e
                cases hb : (Value.slice ua i uc).ownBlock with
                | none => rw [hb] at e; simp [Value.ownBlock] at e
                | some gg =>
                  rw [hb] at e
                  have h1 := HVl.out gg e
                  have h2 := HFar.out j hjn gg (by rw [HU.out]; exact hb)
                  omega
              have hak := (show wr.drew.ownsRow _ _ _ _ _ _ from hoa).kept hg (own_apart hrowD (show wr.drew.ownsRow _ _ _ _ _ _ from hoa) (by decide))
              refine ⟨hu, fun p hp gg hgg => ?_, hlk.kept hg2 (own_apart ho7 hlk (by decide)), hak.kept hg2 (own_apart ho7 hak (by decide)), ?_, hb7.setCell (p := ⟨w.heap.size, j, none⟩) (Nat.le_refl _) _⟩
              · rw [getD_setV _ _ _ _ _ (by rw [hLl, hgl]; exact hjn)] at hgg
                split at hgg
                · rcases hat with e | ⟨k, e, hk⟩
                  · rw [e] at hgg
                    exact HFar.out j hjn gg (by rw [HU.out]; exact hgg)
                  · rw [e] at hgg
                    obtain rfl := Option.some.inj hgg
                    right
                    exact Nat.le_trans hsr hk
                · exact HFar.out p hp gg hgg
              · exact Nat.le_trans hsr (Nat.le_trans hg.size hg2.size)
            have hj0 : (0 : Int) ≤ (j : Int) := by omega
            have hjni : (j : Int) < (n : Int) := by omega
            clear hL hol hoa HFar hbel hrow
            go_wp2
            go_region_law (refine step_appL Tryd.underlying31 info43 wr.drew rfl _ _ rfl w.heap.size _ _ _ rfl hrowD z rfl rfl (by omega) (by exact hsw) ?_; intro g7 cap7 w7 ho7 hgr7 hat7; rw [HTR.out] at ho7; obtain ⟨⟨xx, dd⟩, ff⟩ := HST.out w7 hgr7; have hl7 := World.block_lt_of_cell? w7 _ dd; have HE : Hid (_ ∧ _) := HUP.out g7 cap7 w7 ho7 hgr7 hat7; clear ho7 hgr7 hat7)
            all_goals
              clear HST HUP hrowD
              go_wp2
              go_roundw
              case rel => exact ⟨j + 1, _, by omega, by go_num, HE.out.1, HE.out.2.1, HE.out.2.2.1, HE.out.2.2.2.1, HE.out.2.2.2.2.1, HE.out.2.2.2.2.2⟩
              case measure => simp [intOf]; omega
          · have hjn2 : j = n := by omega
            subst hjn2
            rw [gtj_full] at hL
            go_wp2
            go_roundw
            case rel => exact ⟨i + 1, L, by omega, by go_num, hoa, hL, hbel⟩
            case measure => simp [intOf]; omega
    · have hin : i = n := by omega
      subst hin
      obtain ⟨aw, cw, rfl, hri⟩ := RdI.own hown (fun x hx => by
        obtain ⟨q, hq, rfl⟩ := List.mem_map.1 hx
        have := List.mem_range.1 hq
        omega)
      clear hown
      go_wp2_with fail
      refine (rWeights _ _ _ _ _ hri (pty_dis hn9)).mono ?_
      rintro e w2 ⟨a2, c2, rfl, hr2, hb2⟩
      have hL2 := hL.below hb2
      have hbw2 := hbel.trans (hb2.mono hs1)
      have hgl := gti_len t xs ys ds i i
      have hs2 := hbw2.size
      clear hL hbel hb2 hri
      go_wp2
      go_loopw [17, 18] (fun v q wr => ∃ j : Nat, j ≤ i ∧ q = .int .i64 j ∧ wr.ownsRow w2.heap.size 43 1 v j ((tmO t xs ys ds i j).map (Value.int .u64)) ∧ Below w2.heap.size w2 wr) (fun _ q _ => i - (intOf q).toNat)
      case atStart => exact ⟨0, Nat.zero_le _, rfl, World.ownsRow_nil _ _ _ _, Below.refl _ _⟩
      case round =>
        obtain ⟨j, hj, rfl, hown, hb3⟩ := hrel
        obtain ⟨wo, hwo⟩ : ∃ wo, wo = wr := ⟨_, rfl⟩
        subst hwo
        have hs3 := hb3.size
        by_cases hji : j < i
        · have hL3 := hL2.below hb3
          have hr3 := hr2.below hb3
          obtain ⟨dg, _, lg⟩ := hL3.cell hgl hji
          obtain ⟨ar, cr, er, hrr⟩ := hL3.one hgl hji (by rw [gti_getD t xs ys ds hji]; exact bd_u64 (tmR_bd _ _ _ _ _ _))
          rw [er] at dg
          rw [gti_getD t xs ys ds hji, tmR_len] at hrr dg
          clear er hL3
          go_wp2
          go_loopw [19, 20] (fun v q wr => ∃ (p nd : Nat) (y : Int), p ≤ i ∧ q = .int .i64 p ∧ v = .int .u64 y ∧ 0 ≤ y ∧ y ≤ 2147483646 ∧ Hid (y = nm (sm (fun i' => wt (pty i) i i' * dlf (prC t xs ys ds i') j) p)) ∧ wr = wo.drewN nd) (fun _ q _ => i - (intOf q).toNat)
          case atStart => exact ⟨0, 0, 0, Nat.zero_le _, rfl, rfl, by omega, by omega, rfl, rfl⟩
          case round =>
            obtain ⟨p, nd, y, hp, rfl, rfl, hy0, hy1, HY, hw⟩ := hrel
            have HW : Hid (wr = wo.drewN nd) := hw
            have hbd : Below wo.heap.size wo wr := by rw [hw]; exact drewN_below (Below.refl _ _) nd
            have dgr : wr.cell? ⟨w.heap.size, j, none⟩ = some (.slice ar i cr) := by rw [hbd.cell (p := ⟨w.heap.size, j, none⟩) lg]; exact dg
            have lgr : w.heap.size < wr.heap.size := Nat.lt_of_lt_of_le lg hbd.size
            clear hw
            by_cases hpi : p < i
            · obtain ⟨b1, o1, x1, rfl, hbb1, HX1, hx10, hx11, hc1⟩ := (hr3.below hbd).one hpi
              obtain ⟨b2, o2, x2, rfl, hbb2, HX2, hx20, hx21, hc2⟩ := (hrr.below hbd).one hpi
              have hmul := nm_bd (x1 * x2)
              have HV : Hid (nm (y + nm (x1 * x2)) = nm (sm (fun i' => wt (pty i) i i' * dlf (prC t xs ys ds i') j) (p + 1))) := by
                unfold Hid
                rw [sm, ← HX1.out, ← HX2.out, tmR_getD t xs ys ds j hpi, HY.out, nm_addl, nm_addr]
                unfold wtl
                rw [map_getDN hpi]
              have hp0 : (0 : Int) ≤ (p : Int) := by omega
              have hpii : (p : Int) < (i : Int) := by omega
              have hj0 : (0 : Int) ≤ (j : Int) := by omega
              have hjii : (j : Int) < (i : Int) := by omega
              go_wp2
              go_quiet ((first | (go_at_call 47; exact Calls.quiet_of_same (rMul _ _ _ (by omega) (by omega) (by omega) (by omega))) | (go_at_call 46; exact Calls.quiet_of_same (rAdd _ _ _ (by omega) (by omega) (by omega) (by omega)))))
              all_goals
                go_wp2
                go_roundw
                case rel => exact ⟨p + 1, _, _, by omega, by go_num, rfl, (nm_bd _).1, (nm_bd _).2, HV, by rw [HW.out, World.drewN_drewN]⟩
                case measure => simp [intOf]; omega
            · have hpi2 : p = i := by omega
              subst hpi2
              have HO : Hid (tmO t xs ys ds p j ++ [y] = tmO t xs ys ds p (j + 1)) := by
                unfold Hid
                rw [HY.out]
                exact tmO_snoc t xs ys ds p j
              have hownr := own_below hown hbd
              have hb4 := hb3.trans (hbd.mono hs3)
              have hs4 := hb4.size
              clear hown hb3 hbd dgr dg HY
              go_wp2_with (at_builtin; refine wpList_app1 Tryd.underlying31 info43 _ rfl _ _ rfl w2.heap.size _ _ _ rfl hownr _ rfl (by omega) (by omega) ?_; intro v' w7 hown7 hbel7; rw [HO.out] at hown7; have hbel8 := hb4.trans hbel7; clear hbel7 hownr hb4)
              go_roundw
              case rel => exact ⟨j + 1, by omega, by go_num, hown7, hbel8⟩
              case measure => simp [intOf]; omega
        · have hji2 : j = i := by omega
          subst hji2
          have hLE := hL2.below hb3
          have hbE := hbw2.trans (hb3.mono hs2)
          have hoE := own_base hown hs2
          have HG : Hid (gti t xs ys ds j j = tmG t xs ys ds j) := rfl
          rw [HG.out] at hLE
          go_wp2
          go_ret2
          exact ⟨_, _, L, rfl, hoE, hLE, hbE⟩
/-- What Need answers. -/
def Enn (G : List Gt) (O : List Int) (N m : Nat) (n t : Int) (w : World) (e : Ending) (w' : World) : Prop :=
  ((∃ r, r ≠ 0 ∧ Nde G O N m n t r ∧ e = .returned (.tuple #[.int .i64 0, .int .i64 r])) ∨
   (Nde G O N m n t 0 ∧ e = .returned (.tuple #[.int .i64 (dwn G n.toNat t.toNat N : Int), .int .i64 0]))) ∧ Below w.heap.size w w'
/-- What Run answers. -/
def Enr (G : List Gt) (O ins ds : List Int) (N m : Nat) (n t : Int) (q d : Nat) (w : World) (e : Ending) (w' : World) : Prop :=
  ((∃ r, r ≠ 0 ∧ Ere G O N m n t q d r ∧ e = .returned (.tuple #[.slice none 0 0, .slice none 0 0, .int .i64 r])) ∨
   (Ere G O N m n t q d 0 ∧ ∃ a c b k, e = .returned (.tuple #[.slice a m c, .slice b n.toNat k, .int .i64 0]) ∧ Rd w' a m c (otl G O ins m) ∧ RdR w' b n.toNat k (snl G O n.toNat t.toNat ins ds N m))) ∧ Below w.heap.size w w'
theorem nil_rdR (w : World) : RdR w none 0 0 [] := ⟨rfl, Nat.le_refl _, Nat.zero_le _, fun _ => rfl, by simp⟩
theorem Ere.ok {G : List Gt} {O : List Int} {N m : Nat} {n t : Int} {q d : Nat} (h : Ere G O N m n t q d 0) : Nde G O N m n t 0 ∧ q = ci G N ∧ d = dwn G n.toNat t.toNat N := by
  rcases h with ⟨h1, _⟩ | ⟨h1, ⟨_, h2⟩ | ⟨h2, ⟨_, h3⟩ | ⟨h3, _⟩⟩⟩
  · exact absurd rfl h1
  · omega
  · omega
  · exact ⟨h1, h2, h3⟩
/-- What was seen is read. -/
theorem snl_rd {w : World} {B : Nat} {u : Value} {L : List Value} {G : List Gt} {O : List Int} {n t : Nat} {ins ds : List Int} {N m : Nat} (h : LsV w B u L (snl G O n t ins ds N m)) : ∃ a c, u = .slice a n c ∧ RdR w a n c (snl G O n t ins ds N m) :=
  h.rdR (snl_len _ _ _ _ _ _ _ _) fun i hi x hx => by
    rw [snl_getD _ _ _ _ _ _ _ _ hi] at hx
    have := sno_bd _ _ _ _ _ _ _ _ hi x hx
    omega
end
end Go.Proofs.YtljlioglpaogdacDoor
