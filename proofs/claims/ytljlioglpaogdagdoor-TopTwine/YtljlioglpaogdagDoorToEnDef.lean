/- Any shares of a dealing, and their weights: plain facts. · Reckoning with shares: plain facts. · Parties that reckon together: plain facts. · What is hidden: the polynomial that is nought at some parties and 1 at 0; draws that are shifted by it: plain facts. · croftref.Join. · What the calls of package twine answer. · What the calls of package hide answer. · hide.different. · The places of the pairs of a dealing in two variables: plain facts. · croftref.Times. · What the calls of package engine answer. -/
import Derived.Test.YtljlioglpaogdagDoorToOpenC
import Derived.Test.YtljlioglpaogdagDoorToTopC
import Derived.Test.YtljlioglpaogdagDoorToGaussM
import Derived.Test.YtljlioglpaogdagDoorToSortM
import Derived.Test.YtljlioglpaogdagDoorToSomeC
import Derived.Test.YtljlioglpaogdagDoorToShpM
import Derived.Test.YtljlioglpaogdagDoorToCheckC
import Derived.Deep.AppendLies
import Derived.Deep.RegionLaw
import Derived.Test.YtljlioglpaogdagDoorToWireC
import Derived.Test.YtljlioglpaogdagDoorToBadM
import Derived.Test.YtljlioglpaogdagDoorToLsV2
import Derived.Test.YtljlioglpaogdagDoorToSubC
import Derived.BigQuiet
import Derived.Test.YtljlioglpaogdagDoorProg
import Derived.WalkKit
import Derived.WalkSpells
import Derived.WalkLawsBesides
namespace Go.Proofs.YtljlioglpaogdagDoor
set_option linter.unusedVariables false
set_option maxRecDepth 100000
set_option maxHeartbeats 8000000
section
open Crm
/-- The weights make of the values the value at 0. -/
theorem sum_wt {ts C : List Int} {K : Nat} (hd : dis (fi ts) K) (hC : C.length ≤ K) (y : Nat → Int) (hy : ∀ j, j < K → nm (y j) = nm (ev C (ts.getD j 0))) : nm (sm (fun i => wt ts K i * y i) K) = nm (ev C 0) := by
  have main : ∀ k, k ≤ K → ∃ R : List Int, R.length ≤ K ∧ (∀ j, j < K → nm (ev R (ts.getD j 0)) = if j < k then nm (y j) else 0) ∧ nm (ev R 0) = nm (sm (fun i => wt ts K i * y i) k) := by
    intro k
    induction k with
    | zero => exact fun _ => ⟨[], Nat.zero_le _, fun j _ => by rw [if_neg (by omega)]; rfl, rfl⟩
    | succ k ih =>
      intro hk
      obtain ⟨R, r1, r2, r3⟩ := ih (by omega)
      obtain ⟨Q, q1, q2, q3⟩ := wt_wgt hd (show k < K by omega)
      have hev : ∀ x, nm (ev (sml R (cvl [y k] Q)) x) = nm (ev R x + y k * ev Q x) := fun x => by
        rw [sml_ev]
        refine nm_add_congr rfl ?_
        rw [cvl_ev, ev, ev, Int.mul_zero, Int.add_zero]
      refine ⟨sml R (cvl [y k] Q), ?_, fun j hj => ?_, ?_⟩
      · rw [sml_len, cvl_len, List.length_singleton]; omega
      · rw [hev]
        have h1 := q2 j hj
        have h2 := r2 j hj
        by_cases e : j = k
        · subst e
          rw [if_pos rfl] at h1
          rw [if_neg (by omega)] at h2
          rw [if_pos (by omega), nm_add_congr (c := 0) (d := y j * 1) h2 (nm_mul_congr rfl (by rw [h1]; rfl)), Int.zero_add, Int.mul_one]
        · rw [if_neg e] at h1
          rw [nm_add_congr (c := ev R (ts.getD j 0)) (d := y k * 0) rfl (nm_mul_congr rfl (by rw [h1]; rfl)), Int.mul_zero, Int.add_zero, h2]
          by_cases e2 : j < k
          · rw [if_pos e2, if_pos (by omega)]
          · rw [if_neg e2, if_neg (by omega)]
      · rw [hev, sm]
        refine nm_add_congr r3 ?_
        rw [q3, nm_mull, Int.mul_comm]
  obtain ⟨R, r1, r2, r3⟩ := main K (Nat.le_refl _)
  rw [← r3]
  have hw : ∀ j, j < K → ((List.range K).map fun k => (ts.getD k 0, y k)).getD j (0, 0) = (ts.getD j 0, y j) := fun j hj => by simp [hj]
  refine ev_one (hs_one (l := (List.range K).map fun k => (ts.getD k 0, y k)) (n := K) (fun j hj => ?_) (fun j hj => ?_) (fun j hj => ?_) r1 hC) 0
  · rw [hw j hj]
    refine ⟨⟨(hd j hj).1.1, by have := (hd j hj).1.2; unfold fi at this; simp only; omega⟩, fun q hq => ?_⟩
    rw [hw q (by omega)]
    exact (hd j hj).2 q hq
  · rw [hw j hj]
    simp only
    rw [r2 j hj, if_pos hj]
  · rw [hw j hj]
    simp only
    exact (hy j hj).symm
/-- Each party's numbers mixed: a times the one, b times the other, and c. -/
def mxl (x y : List Int) (a b c : Int) (n : Nat) : List Int := (List.range n).map fun i => nm (a * x.getD i 0 + b * y.getD i 0 + c)
theorem mxl_len (x y : List Int) (a b c : Int) (n : Nat) : (mxl x y a b c n).length = n := by simp [mxl]
theorem mxl_getD (x y : List Int) (a b c : Int) {n i : Nat} (h : i < n) : (mxl x y a b c n).getD i 0 = nm (a * x.getD i 0 + b * y.getD i 0 + c) := by simp [mxl, h]
theorem mxl_bd (x y : List Int) (a b c : Int) (n : Nat) : ∀ z ∈ mxl x y a b c n, 0 ≤ z ∧ z ≤ 2147483646 := by
  intro z hz
  obtain ⟨i, _, rfl⟩ := List.mem_map.1 hz
  exact nm_bd _
/-- The same by other ways. -/
theorem mxl_ext {x y : List Int} {a b c : Int} {n : Nat} {F : Nat → Int} (h : ∀ i, i < n → F i = nm (a * x.getD i 0 + b * y.getD i 0 + c)) : (List.range n).map F = mxl x y a b c n :=
  List.map_congr_left fun i hi => h i (List.mem_range.1 hi)

/-- The parties' numbers. -/
def pty (n : Nat) : List Int := (List.range n).map fun i : Nat => (i : Int) + 1
theorem pty_getD {n i : Nat} (h : i < n) : (pty n).getD i 0 = (i : Int) + 1 := by simp [pty, h]
theorem pty_dis {n : Nat} (h : n ≤ 9) : dis (fi (pty n)) n := fun i hi => by
  unfold fi
  rw [pty_getD hi]
  exact ⟨⟨by omega, by omega⟩, fun j hj => by rw [pty_getD (show j < n by omega)]; omega⟩

/-- What party i deals: the product of its numbers, and its draws. -/
def prC (t : Nat) (a b ds : List Int) (i : Nat) : List Int := nm (a.getD i 0 * b.getD i 0) :: (ds.drop (i * t)).take t
theorem prC_len (t : Nat) (a b ds : List Int) (i : Nat) : (prC t a b ds i).length ≤ t + 1 := by
  unfold prC; rw [List.length_cons, List.length_take]; omega
/-- What party j was dealt by the first k. -/
def tmR (t : Nat) (a b ds : List Int) (k j : Nat) : List Int := (List.range k).map fun i => dlf (prC t a b ds i) j
theorem tmR_len (t : Nat) (a b ds : List Int) (k j : Nat) : (tmR t a b ds k j).length = k := by simp [tmR]
theorem tmR_getD (t : Nat) (a b ds : List Int) {k i : Nat} (j : Nat) (h : i < k) : (tmR t a b ds k j).getD i 0 = dlf (prC t a b ds i) j := by simp [tmR, h]
theorem tmR_bd (t : Nat) (a b ds : List Int) (k j : Nat) : ∀ z ∈ tmR t a b ds k j, 0 ≤ z ∧ z ≤ 2147483646 := by
  intro z hz
  obtain ⟨i, _, rfl⟩ := List.mem_map.1 hz
  exact dlf_bd _ _
/-- What all were dealt, party by party. -/
def tmG (t : Nat) (a b ds : List Int) (n : Nat) : List (List Int) := (List.range n).map fun j => tmR t a b ds n j
theorem tmG_len (t : Nat) (a b ds : List Int) (n : Nat) : (tmG t a b ds n).length = n := by simp [tmG]
theorem tmG_getD (t : Nat) (a b ds : List Int) {n j : Nat} (h : j < n) : (tmG t a b ds n).getD j [] = tmR t a b ds n j := by simp [tmG, h]
/-- Party j's number of the product. -/
def tmf (t : Nat) (a b ds : List Int) (n j : Nat) : Int := nm (sm (fun i => wt (pty n) n i * dlf (prC t a b ds i) j) n)
def tmO (t : Nat) (a b ds : List Int) (n k : Nat) : List Int := (List.range k).map (tmf t a b ds n)
theorem tmO_len (t : Nat) (a b ds : List Int) (n k : Nat) : (tmO t a b ds n k).length = k := by simp [tmO]
theorem tmO_getD (t : Nat) (a b ds : List Int) (n : Nat) {k j : Nat} (h : j < k) : (tmO t a b ds n k).getD j 0 = tmf t a b ds n j := by simp [tmO, h]
theorem tmO_bd (t : Nat) (a b ds : List Int) (n k : Nat) : ∀ z ∈ tmO t a b ds n k, 0 ≤ z ∧ z ≤ 2147483646 := by
  intro z hz
  obtain ⟨i, _, rfl⟩ := List.mem_map.1 hz
  exact nm_bd _
/-- One polynomial of t + 1 numbers has the parties' numbers of the product. -/
theorem tm_poly (t : Nat) (a b ds : List Int) (W : Nat → Int) : ∀ k, ∃ P : List Int, P.length ≤ t + 1 ∧ ∀ x, ev P x = sm (fun i => W i * ev (prC t a b ds i) x) k
  | 0 => ⟨[], Nat.zero_le _, fun _ => rfl⟩
  | k + 1 => by
    obtain ⟨P, h1, h2⟩ := tm_poly t a b ds W k
    refine ⟨adl (W k) P (prC t a b ds k), ?_, fun x => ?_⟩
    · rw [adl_len]; have := prC_len t a b ds k; omega
    · rw [adl_ev, h2, sm]
/-- Of dealt secrets the product is dealt. -/
theorem times_dealt {t n : Nat} {A B ds : List Int} (hA : A.length ≤ t + 1) (hB : B.length ≤ t + 1) (hn : 2 * t + 1 ≤ n) (hn9 : n ≤ 9) :
    ∃ P : List Int, P.length ≤ t + 1 ∧ (∀ j, j < n → tmf t (dl A n) (dl B n) ds n j = nm (ev P ((j : Int) + 1))) ∧ nm (ev P 0) = nm (ev A 0 * ev B 0) := by
  obtain ⟨P, h1, h2⟩ := tm_poly t (dl A n) (dl B n) ds (wt (pty n) n) n
  refine ⟨P, h1, fun j _ => ?_, ?_⟩
  · unfold tmf
    rw [h2]
    refine sm_ncongr fun i hi => ?_
    unfold dlf
    rw [nm_mulr]
  · rw [h2]
    have h3 := sum_wt (pty_dis hn9) (C := cvl A B) (by rw [cvl_len]; omega) (fun i => ev (prC t (dl A n) (dl B n) ds i) 0) (fun j hj => by
      unfold prC
      rw [ev, Int.zero_mul, Int.add_zero, nm_nm, cvl_ev, dl_getD A hj, dl_getD B hj, pty_getD hj]
      unfold dlf
      exact nm_mul_congr (nm_nm _) (nm_nm _))
    rw [h3, cvl_ev]
/-- Shares of all parties' numbers are those of the polynomial that has them. -/
theorem shl_hs {C L : List Int} {n : Nat} (h : ∀ i, i < n → L.getD i 0 = nm (ev C ((i : Int) + 1))) : Hs (shl L n) n C := fun j hj => by
  rw [shl_getD L hj]
  simp only
  rw [h j hj, nm_nm]
theorem shl_dis (L : List Int) {n : Nat} (h : n ≤ 9) : dis (fa (shl L n)) n := fun i hi => by
  unfold fa
  rw [shl_getD L hi]
  exact ⟨⟨by simp only; omega, by simp only; omega⟩, fun j hj => by rw [shl_getD L (show j < n by omega)]; simp only; omega⟩
/-- What Open tells of them. -/
theorem shl_open {C L : List Int} {n t : Nat} {x r : Int} (hn : n ≤ 9) (ht : t ≤ 4) (htn : t < n) (hC : C.length ≤ t + 1) (h : ∀ i, i < n → L.getD i 0 = nm (ev C ((i : Int) + 1))) (hO : Opn (shl L n) n t x r) : x = nm (ev C 0) ∧ r = 0 :=
  any_open (shl_dis L hn) ht htn hC (shl_hs h) hO
/-- Mixed shares are shares of what is mixed. -/
theorem mxl_dealt {A B : List Int} {a b c : Int} {n t : Nat} (hA : A.length ≤ t + 1) (hB : B.length ≤ t + 1) :
    ∃ P : List Int, P.length ≤ t + 1 ∧ (∀ i, i < n → (mxl (dl A n) (dl B n) a b c n).getD i 0 = nm (ev P ((i : Int) + 1))) ∧ nm (ev P 0) = nm (a * ev A 0 + b * ev B 0 + c) := by
  have e : ∀ x, ev (adl 1 (adl b (A.map (a * ·)) B) [c]) x = a * ev A x + b * ev B x + c := fun x => by
    rw [adl_ev, adl_ev, map_ev, ev, ev, Int.mul_zero, Int.add_zero, Int.one_mul]
  refine ⟨adl 1 (adl b (A.map (a * ·)) B) [c], ?_, fun i hi => ?_, by rw [e]⟩
  · rw [adl_len, adl_len, List.length_map, List.length_singleton]; omega
  · rw [mxl_getD _ _ _ _ _ hi, dl_getD A hi, dl_getD B hi, e]
    refine nm_add_congr (nm_add_congr ?_ ?_) rfl
    · unfold dlf; rw [nm_mulr]
    · unfold dlf; rw [nm_mulr]
/-- Draws that the first i gates take. -/
def dwn (G : List Gt) (n t : Nat) : Nat → Nat
  | 0 => 0
  | i + 1 => dwn G n t i + (if (gt G i).k = 1 then t else if (gt G i).k = 5 then n * t else 0)
/-- The draws of gate i. -/
def edr (G : List Gt) (n t : Nat) (ds : List Int) (i k : Nat) : List Int := (ds.drop (dwn G n t i)).take k
/-- The parties' numbers of wire i, those of the wires ahead being W. -/
def esh (G : List Gt) (n t : Nat) (ins ds : List Int) (W : List (List Int)) (i : Nat) : List Int :=
  if (gt G i).k = 1 then dl (ins.getD (ci G i) 0 :: edr G n t ds i t) n
  else if (gt G i).k = 2 then List.replicate n (nm (gt G i).n)
  else if (gt G i).k = 3 then mxl (W.getD (gt G i).a.toNat []) (W.getD (gt G i).b.toNat []) 1 1 0 n
  else if (gt G i).k = 4 then mxl (W.getD (gt G i).a.toNat []) (W.getD (gt G i).b.toNat []) 1 2147483646 0 n
  else if (gt G i).k = 6 then mxl (W.getD (gt G i).a.toNat []) (W.getD (gt G i).a.toNat []) (gt G i).n 0 0 n
  else tmO t (W.getD (gt G i).a.toNat []) (W.getD (gt G i).b.toNat []) (edr G n t ds i (n * t)) n n
def ewr (G : List Gt) (n t : Nat) (ins ds : List Int) : Nat → List (List Int)
  | 0 => []
  | i + 1 => ewr G n t ins ds i ++ [esh G n t ins ds (ewr G n t ins ds i) i]
/-- The parties' numbers of wire i. -/
def ew (G : List Gt) (n t : Nat) (ins ds : List Int) (i : Nat) : List Int := esh G n t ins ds (ewr G n t ins ds i) i
theorem esh_len (G : List Gt) (n t : Nat) (ins ds : List Int) (W : List (List Int)) (i : Nat) : (esh G n t ins ds W i).length = n := by
  unfold esh
  repeat' split
  · exact dl_len _ _
  · simp
  · exact mxl_len _ _ _ _ _ _
  · exact mxl_len _ _ _ _ _ _
  · exact mxl_len _ _ _ _ _ _
  · exact tmO_len _ _ _ _ _ _
theorem esh_bd (G : List Gt) (n t : Nat) (ins ds : List Int) (W : List (List Int)) (i : Nat) : ∀ z ∈ esh G n t ins ds W i, 0 ≤ z ∧ z ≤ 2147483646 := by
  unfold esh
  repeat' split
  · exact dl_bd _ _
  · intro z hz; obtain rfl := List.eq_of_mem_replicate hz; exact nm_bd _
  · exact mxl_bd _ _ _ _ _ _
  · exact mxl_bd _ _ _ _ _ _
  · exact mxl_bd _ _ _ _ _ _
  · exact tmO_bd _ _ _ _ _ _
theorem ew_len (G : List Gt) (n t : Nat) (ins ds : List Int) (i : Nat) : (ew G n t ins ds i).length = n := esh_len _ _ _ _ _ _ _
theorem ew_bd (G : List Gt) (n t : Nat) (ins ds : List Int) (i : Nat) : ∀ z ∈ ew G n t ins ds i, 0 ≤ z ∧ z ≤ 2147483646 := esh_bd _ _ _ _ _ _ _
theorem ewr_len (G : List Gt) (n t : Nat) (ins ds : List Int) : ∀ i, (ewr G n t ins ds i).length = i
  | 0 => rfl
  | i + 1 => by rw [ewr, List.length_append, ewr_len G n t ins ds i]; rfl
theorem ewr_succ (G : List Gt) (n t : Nat) (ins ds : List Int) (i : Nat) : ewr G n t ins ds (i + 1) = ewr G n t ins ds i ++ [ew G n t ins ds i] := rfl
theorem ewr_getD (G : List Gt) (n t : Nat) (ins ds : List Int) {j : Nat} : ∀ {i : Nat}, j < i → (ewr G n t ins ds i).getD j [] = ew G n t ins ds j
  | 0, h => by omega
  | i + 1, h => by
    have hl := ewr_len G n t ins ds i
    rw [ewr_succ]
    by_cases e : j = i
    · subst e
      rw [List.getD_eq_getElem?_getD, List.getElem?_append_right (by omega), hl, Nat.sub_self]
      rfl
    · rw [List.getD_eq_getElem?_getD, List.getElem?_append_left (by omega), ← List.getD_eq_getElem?_getD]
      exact ewr_getD G n t ins ds (by omega)
theorem ew_in {G : List Gt} {n t : Nat} {ins ds : List Int} {i : Nat} (h : (gt G i).k = 1) : ew G n t ins ds i = dl (ins.getD (ci G i) 0 :: edr G n t ds i t) n := by unfold ew esh; rw [if_pos h]
theorem ew_const {G : List Gt} {n t : Nat} {ins ds : List Int} {i : Nat} (h : (gt G i).k = 2) : ew G n t ins ds i = List.replicate n (nm (gt G i).n) := by unfold ew esh; rw [if_neg (by omega), if_pos h]
theorem ew_add {G : List Gt} {n t : Nat} {ins ds : List Int} {i a b : Nat} (h : (gt G i).k = 3) (ha : (gt G i).a = (a : Int)) (hi : a < i) (hb : (gt G i).b = (b : Int)) (hj : b < i) : ew G n t ins ds i = mxl (ew G n t ins ds a) (ew G n t ins ds b) 1 1 0 n := by
  unfold ew
  rw [esh, if_neg (by omega), if_neg (by omega), if_pos h, ha, hb, Int.toNat_natCast, Int.toNat_natCast, ewr_getD G n t ins ds hi, ewr_getD G n t ins ds hj]
  rfl
theorem ew_sub {G : List Gt} {n t : Nat} {ins ds : List Int} {i a b : Nat} (h : (gt G i).k = 4) (ha : (gt G i).a = (a : Int)) (hi : a < i) (hb : (gt G i).b = (b : Int)) (hj : b < i) : ew G n t ins ds i = mxl (ew G n t ins ds a) (ew G n t ins ds b) 1 2147483646 0 n := by
  unfold ew
  rw [esh, if_neg (by omega), if_neg (by omega), if_neg (by omega), if_pos h, ha, hb, Int.toNat_natCast, Int.toNat_natCast, ewr_getD G n t ins ds hi, ewr_getD G n t ins ds hj]
  rfl
theorem ew_scale {G : List Gt} {n t : Nat} {ins ds : List Int} {i a : Nat} (h : (gt G i).k = 6) (ha : (gt G i).a = (a : Int)) (hi : a < i) : ew G n t ins ds i = mxl (ew G n t ins ds a) (ew G n t ins ds a) (gt G i).n 0 0 n := by
  unfold ew
  rw [esh, if_neg (by omega), if_neg (by omega), if_neg (by omega), if_neg (by omega), if_pos h, ha, Int.toNat_natCast, ewr_getD G n t ins ds hi]
  rfl
theorem ew_mul {G : List Gt} {n t : Nat} {ins ds : List Int} {i a b : Nat} (h : (gt G i).k = 5) (ha : (gt G i).a = (a : Int)) (hi : a < i) (hb : (gt G i).b = (b : Int)) (hj : b < i) : ew G n t ins ds i = tmO t (ew G n t ins ds a) (ew G n t ins ds b) (edr G n t ds i (n * t)) n n := by
  unfold ew
  rw [esh, if_neg (by omega), if_neg (by omega), if_neg (by omega), if_neg (by omega), if_neg (by omega), ha, hb, Int.toNat_natCast, Int.toNat_natCast, ewr_getD G n t ins ds hi, ewr_getD G n t ins ds hj]
  rfl
/-- Numbers that a polynomial has at the parties are those that are dealt of it. -/
theorem dl_of {P L : List Int} {n : Nat} (hl : L.length = n) (h : ∀ i, i < n → L.getD i 0 = nm (ev P ((i : Int) + 1))) : L = dl P n := by
  refine list_ext (by rw [hl, dl_len]) fun i hi => ?_
  rw [hl] at hi
  rw [h i hi, dl_getD P hi]
  rfl
/-- Each wire's numbers are shares of what the wire has. -/
theorem ew_poly {G : List Gt} {N n t : Nat} {ins ds : List Int} (hG : okG G N) (hn : 2 * t + 1 ≤ n) (hn9 : n ≤ 9) : ∀ i, i < N → ∃ P : List Int, P.length ≤ t + 1 ∧ ew G n t ins ds i = dl P n ∧ nm (ev P 0) = wi G ins i := by
  intro i
  induction i using Nat.strongRecOn with
  | _ i ih =>
    intro hi
    rcases hG i hi with ⟨h1, _, _, _⟩ | ⟨h1, _, _⟩ | ⟨h1, h2, _⟩ | ⟨h1, h2, h3, _⟩
    · refine ⟨_, ?_, ew_in h1, ?_⟩
      · unfold edr; rw [List.length_cons, List.length_take]; omega
      · rw [wi_in h1, ev, Int.zero_mul, Int.add_zero]
    · refine ⟨[nm (gt G i).n], by simp, ?_, ?_⟩
      · rw [ew_const h1]
        refine dl_of (by simp) fun j hj => ?_
        rw [ev, ev, Int.mul_zero, Int.add_zero, nm_nm]
        simp [hj]
      · rw [wi_const h1, ev, Int.zero_mul, Int.add_zero, nm_nm]
    · obtain ⟨a, ha⟩ : ∃ a : Nat, (gt G i).a = a := ⟨(gt G i).a.toNat, by omega⟩
      obtain ⟨A, a1, a2, a3⟩ := ih a (by omega) (by omega)
      obtain ⟨P, p1, p2, p3⟩ := mxl_dealt (A := A) (B := A) (a := (gt G i).n) (b := 0) (c := 0) (n := n) a1 a1
      rw [← a2] at p2
      refine ⟨P, p1, ?_, ?_⟩
      · rw [ew_scale h1 ha (by omega)]
        exact dl_of (mxl_len _ _ _ _ _ _) p2
      · rw [p3, wi_scale h1 ha (by omega), Int.zero_mul, Int.add_zero, Int.add_zero, Int.mul_comm, ← a3, nm_mull]
    · obtain ⟨a, ha⟩ : ∃ a : Nat, (gt G i).a = a := ⟨(gt G i).a.toNat, by omega⟩
      obtain ⟨b, hb⟩ : ∃ b : Nat, (gt G i).b = b := ⟨(gt G i).b.toNat, by omega⟩
      obtain ⟨A, a1, a2, a3⟩ := ih a (by omega) (by omega)
      obtain ⟨B, b1, b2, b3⟩ := ih b (by omega) (by omega)
      rcases h1 with h1 | h1 | h1
      · obtain ⟨P, p1, p2, p3⟩ := mxl_dealt (A := A) (B := B) (a := 1) (b := 1) (c := 0) (n := n) a1 b1
        rw [← a2, ← b2] at p2
        refine ⟨P, p1, ?_, ?_⟩
        · rw [ew_add h1 ha (by omega) hb (by omega)]
          exact dl_of (mxl_len _ _ _ _ _ _) p2
        · rw [p3, wi_add h1 ha (by omega) hb (by omega), ← a3, ← b3]
          unfold nm
          omega
      · obtain ⟨P, p1, p2, p3⟩ := mxl_dealt (A := A) (B := B) (a := 1) (b := 2147483646) (c := 0) (n := n) a1 b1
        rw [← a2, ← b2] at p2
        refine ⟨P, p1, ?_, ?_⟩
        · rw [ew_sub h1 ha (by omega) hb (by omega)]
          exact dl_of (mxl_len _ _ _ _ _ _) p2
        · rw [p3, wi_sub h1 ha (by omega) hb (by omega), ← a3, ← b3]
          unfold nm
          omega
      · obtain ⟨P, p1, p2, p3⟩ := times_dealt (t := t) (n := n) (A := A) (B := B) (ds := edr G n t ds i (n * t)) a1 b1 hn hn9
        rw [← a2, ← b2] at p2
        refine ⟨P, p1, ?_, ?_⟩
        · rw [ew_mul h1 ha (by omega) hb (by omega)]
          refine dl_of (tmO_len _ _ _ _ _ _) fun j hj => ?_
          rw [tmO_getD _ _ _ _ _ hj]
          exact p2 j hj
        · rw [p3, wi_mul h1 ha (by omega) hb (by omega), ← a3, ← b3, nm_mull, nm_mulr]
/-- What party j sees of gate i. -/
def esn (G : List Gt) (n t : Nat) (ins ds : List Int) (i j : Nat) : List Int :=
  if (gt G i).k = 1 then [(ew G n t ins ds i).getD j 0]
  else if (gt G i).k = 5 then tmR t (ew G n t ins ds (gt G i).a.toNat) (ew G n t ins ds (gt G i).b.toNat) (edr G n t ds i (n * t)) n j
  else []
/-- .. of the first i gates. -/
def sng (G : List Gt) (n t : Nat) (ins ds : List Int) (i j : Nat) : List Int := (List.range i).flatMap fun p => esn G n t ins ds p j
theorem sng_succ (G : List Gt) (n t : Nat) (ins ds : List Int) (i j : Nat) : sng G n t ins ds (i + 1) j = sng G n t ins ds i j ++ esn G n t ins ds i j := by simp [sng, List.range_succ]
/-- .. and of the first q outs. -/
def sno (G : List Gt) (O : List Int) (n t : Nat) (ins ds : List Int) (N q j : Nat) : List Int := sng G n t ins ds N j ++ (List.range q).flatMap fun o => ew G n t ins ds (O.getD o 0).toNat
theorem sno_succ (G : List Gt) (O : List Int) (n t : Nat) (ins ds : List Int) (N q j : Nat) : sno G O n t ins ds N (q + 1) j = sno G O n t ins ds N q j ++ ew G n t ins ds (O.getD q 0).toNat := by simp [sno, List.range_succ]
/-- What all parties have seen. -/
def snl (G : List Gt) (O : List Int) (n t : Nat) (ins ds : List Int) (N m : Nat) : List (List Int) := (List.range n).map fun j => sno G O n t ins ds N m j
theorem snl_len (G : List Gt) (O : List Int) (n t : Nat) (ins ds : List Int) (N m : Nat) : (snl G O n t ins ds N m).length = n := by simp [snl]
theorem snl_getD (G : List Gt) (O : List Int) (n t : Nat) (ins ds : List Int) (N m : Nat) {j : Nat} (h : j < n) : (snl G O n t ins ds N m).getD j [] = sno G O n t ins ds N m j := by simp [snl, h]
theorem esn_bd (G : List Gt) (n t : Nat) (ins ds : List Int) (i : Nat) {j : Nat} (hj : j < n) : ∀ z ∈ esn G n t ins ds i j, 0 ≤ z ∧ z ≤ 2147483646 := by
  unfold esn
  split
  · intro z hz
    obtain rfl := List.mem_singleton.1 hz
    refine ew_bd G n t ins ds i _ ?_
    rw [List.getD_eq_getElem?_getD, List.getElem?_eq_getElem (by rw [ew_len]; exact hj)]
    exact List.getElem_mem _
  · split
    · exact tmR_bd _ _ _ _ _ _
    · intro z hz; simp at hz
theorem sno_bd (G : List Gt) (O : List Int) (n t : Nat) (ins ds : List Int) (N q : Nat) {j : Nat} (hj : j < n) : ∀ z ∈ sno G O n t ins ds N q j, 0 ≤ z ∧ z ≤ 2147483646 := by
  intro z hz
  rcases List.mem_append.1 hz with hz | hz
  · obtain ⟨i, _, hi⟩ := List.mem_flatMap.1 hz
    exact esn_bd G n t ins ds i hj z hi
  · obtain ⟨i, _, hi⟩ := List.mem_flatMap.1 hz
    exact ew_bd _ _ _ _ _ _ z hi
/-- Who may run a circuit. -/
def okc (G : List Gt) (N : Nat) (n t : Int) : Prop := (0 ≤ t ∧ t ≤ 4) ∧ (1 ≤ n ∧ n ≤ 9) ∧ 2 * t + 1 ≤ n ∧ ∀ x ∈ whl G N, x ≤ n
/-- What Need tells. -/
def Nde (G : List Gt) (O : List Int) (N m : Nat) (n t r : Int) : Prop := (r ≠ 0 ∧ Cke G O N m r) ∨ (Cke G O N m 0 ∧ ((¬ okc G N n t ∧ r = 1) ∨ (okc G N n t ∧ r = 0)))
theorem Nde.one {G : List Gt} {O : List Int} {N m : Nat} {n t r s : Int} (h : Nde G O N m n t r) (k : Nde G O N m n t s) : r = s := by
  rcases h with ⟨h1, h2⟩ | ⟨h1, ⟨h2, rfl⟩ | ⟨h2, rfl⟩⟩ <;> rcases k with ⟨k1, k2⟩ | ⟨k1, ⟨k2, rfl⟩ | ⟨k2, rfl⟩⟩
  all_goals first
    | rfl
    | exact h2.one k2
    | exact absurd (h2.one k1) h1
    | exact absurd (k2.one h1) k1
    | exact absurd k2 h2
    | exact absurd h2 k2
theorem Nde.ok {G : List Gt} {O : List Int} {N m : Nat} {n t : Int} (h : Nde G O N m n t 0) : Cke G O N m 0 ∧ okc G N n t := by
  rcases h with ⟨h1, _⟩ | ⟨h1, ⟨_, h2⟩ | ⟨h2, _⟩⟩
  · exact absurd rfl h1
  · omega
  · exact ⟨h1, h2⟩
/-- What is wrong with a run. -/
def Ere (G : List Gt) (O : List Int) (N m : Nat) (n t : Int) (q d : Nat) (r : Int) : Prop :=
  (r ≠ 0 ∧ Nde G O N m n t r) ∨ (Nde G O N m n t 0 ∧ ((q ≠ ci G N ∧ r = 5) ∨ (q = ci G N ∧ ((d ≠ dwn G n.toNat t.toNat N ∧ r = 1) ∨ (d = dwn G n.toNat t.toNat N ∧ r = 0)))))
theorem Ere.one {G : List Gt} {O : List Int} {N m : Nat} {n t : Int} {q d : Nat} {r s : Int} (h : Ere G O N m n t q d r) (k : Ere G O N m n t q d s) : r = s := by
  rcases h with ⟨h1, h2⟩ | ⟨h1, ⟨h2, rfl⟩ | ⟨h2, ⟨h3, rfl⟩ | ⟨h3, rfl⟩⟩⟩ <;> rcases k with ⟨k1, k2⟩ | ⟨k1, ⟨k2, rfl⟩ | ⟨k2, ⟨k3, rfl⟩ | ⟨k3, rfl⟩⟩⟩
  all_goals first
    | rfl
    | exact h2.one k2
    | exact absurd (h2.one k1) h1
    | exact absurd (k2.one h1) k1
    | exact absurd k2 h2
    | exact absurd h2 k2
    | exact absurd k3 h3
    | exact absurd h3 k3
/-- For each of the first k parties, 1 less x by that party. -/
def bl (who : List Int) : Nat → List Int
  | 0 => [1]
  | k + 1 => cvl (bl who k) [1, nm (-(iv (who.getD k 0)))]
theorem bl_len (who : List Int) : ∀ k, (bl who k).length = k + 1
  | 0 => rfl
  | k + 1 => by rw [bl, cvl_len, bl_len who k]; rfl
theorem bl_bd (who : List Int) : ∀ k, ∀ x ∈ bl who k, 0 ≤ x ∧ x ≤ 2147483646
  | 0 => fun x hx => by rw [List.mem_singleton.1 hx]; decide
  | k + 1 => cvl_bd _ _
theorem bl_succ (who : List Int) (k : Nat) (x : Int) : nm (ev (bl who (k + 1)) x) = nm (ev (bl who k) x * (1 - x * iv (who.getD k 0))) := by
  rw [bl, cvl_ev]
  have e : ev [1, nm (-(iv (who.getD k 0)))] x = 1 + x * nm (-(iv (who.getD k 0))) := by simp [ev]
  rw [e]
  refine nm_mul_congr rfl ?_
  rw [← nm_addr, nm_mulr, nm_addr]
  congr 1
  rw [Int.mul_neg, ← Int.sub_eq_add_neg]
theorem bl_one (who : List Int) : ∀ k, nm (ev (bl who k) 0) = 1
  | 0 => by show nm (ev [1] 0) = 1; decide
  | k + 1 => by rw [bl_succ, ← nm_mull, bl_one who k, Int.zero_mul]; decide
theorem bl_first (who : List Int) (k : Nat) : (bl who k).getD 0 0 = 1 := by
  have h := bl_one who k
  have hb := getD_bd' (bl_bd who k) 0
  have hl := bl_len who k
  cases hq : bl who k with
  | nil => rw [hq] at hl; simp at hl
  | cons a l =>
    rw [hq] at h hb
    rw [ev, Int.zero_mul, Int.add_zero] at h
    rw [cons_getD0] at hb ⊢
    rw [nm_small hb.1 hb.2] at h
    exact h
/-- It is nought at each of them. -/
theorem bl_root {who : List Int} : ∀ {k j : Nat}, j < k → nm (who.getD j 0) ≠ 0 → nm (ev (bl who k) (who.getD j 0)) = 0
  | 0, j, h, _ => by omega
  | k + 1, j, h, hz => by
    rw [bl_succ]
    by_cases e : j = k
    · subst e
      have hi := iv_mul hz
      have e1 : nm (1 - who.getD j 0 * iv (who.getD j 0)) = 0 := by rw [← nm_subr, Int.mul_comm, hi]; decide
      rw [← nm_mulr, e1, Int.mul_zero]
      decide
    · rw [← nm_mull, bl_root (by omega) hz, Int.zero_mul]
      decide
/-- Draws that are shifted. -/
def shf (who : List Int) (k : Nat) (a b : Int) (ds : List Int) (q : Nat) : List Int := (List.range q).map fun i => nm (ds.getD i 0 + nm (b - a) * (bl who k).getD (i + 1) 0)
theorem shf_len (who : List Int) (k : Nat) (a b : Int) (ds : List Int) (q : Nat) : (shf who k a b ds q).length = q := by simp [shf]
theorem shf_bd (who : List Int) (k : Nat) (a b : Int) (ds : List Int) (q : Nat) : ∀ z ∈ shf who k a b ds q, 0 ≤ z ∧ z ≤ 2147483646 := fun z hz => by
  obtain ⟨i, _, rfl⟩ := List.mem_map.1 hz
  exact nm_bd _
/-- The pairs of places of a dealing in two variables, in order. -/
def hpl (t : Nat) : List (Nat × Nat) := (List.range (t + 1)).flatMap fun i => ((List.range (t + 1)).filter fun j => decide (i ≤ j ∧ 0 < i + j)).map fun j => (i, j)
theorem hpl_len : ∀ t, t < 5 → (hpl t).length = (t + 1) * (t + 2) / 2 - 1 := by decide
theorem hpl_at : ∀ t, t < 5 → ∀ j, j < 5 → ∀ i, i ≤ j → j ≤ t → 0 < i + j → (hpl t).getD (nd2 (t : Nat) i + ((j : Int) - i)).toNat (0, 0) = (i, j) ∧ 0 ≤ nd2 (t : Nat) i + ((j : Int) - i) := by
  intro t ht j hj i hi hjt h0
  have h1 : t = 0 ∨ t = 1 ∨ t = 2 ∨ t = 3 ∨ t = 4 := by omega
  have h2 : j = 0 ∨ j = 1 ∨ j = 2 ∨ j = 3 ∨ j = 4 := by omega
  have h3 : i = 0 ∨ i = 1 ∨ i = 2 ∨ i = 3 ∨ i = 4 := by omega
  rcases h1 with rfl | rfl | rfl | rfl | rfl <;> rcases h2 with rfl | rfl | rfl | rfl | rfl <;> rcases h3 with rfl | rfl | rfl | rfl | rfl <;> first
    | (exfalso; omega)
    | exact ⟨by decide, by decide⟩
/-- Draws in two variables that are shifted. -/
def twf (who : List Int) (k : Nat) (a b : Int) (ds : List Int) (p : Nat) (x : Nat × Nat) : Int := nm (ds.getD p 0 + nm (b - a) * nm ((bl who k).getD x.1 0 * (bl who k).getD x.2 0))
def twl (who : List Int) (k : Nat) (a b : Int) (ds : List Int) (t q : Nat) : List Int := (List.range q).map fun p => twf who k a b ds p ((hpl t).getD p (0, 0))
theorem twl_len (who : List Int) (k : Nat) (a b : Int) (ds : List Int) (t q : Nat) : (twl who k a b ds t q).length = q := by simp [twl]
theorem twl_getD (who : List Int) (k : Nat) (a b : Int) (ds : List Int) (t : Nat) {q p : Nat} (h : p < q) : (twl who k a b ds t q).getD p 0 = twf who k a b ds p ((hpl t).getD p (0, 0)) := by simp [twl, h]
theorem twl_bd (who : List Int) (k : Nat) (a b : Int) (ds : List Int) (t q : Nat) : ∀ z ∈ twl who k a b ds t q, 0 ≤ z ∧ z ≤ 2147483646 := fun z hz => by
  obtain ⟨i, _, rfl⟩ := List.mem_map.1 hz
  exact nm_bd _
theorem twl_le {who : List Int} {k t : Nat} {a b : Int} {ds : List Int} (ht : t ≤ 4) {i j : Nat} (hij : i ≤ j) (hj : j ≤ t) :
    nm (dn b (twl who k a b ds t ((t + 1) * (t + 2) / 2 - 1)) (nd2 t i + ((j : Int) - i))) = nm (dn a ds (nd2 t i + ((j : Int) - i)) + (b - a) * ((bl who k).getD i 0 * (bl who k).getD j 0)) := by
  by_cases h0 : i + j = 0
  · obtain rfl : i = 0 := by omega
    obtain rfl : j = 0 := by omega
    have e : nd2 (t : Int) 0 + (((0 : Nat) : Int) - ((0 : Nat) : Int)) = -1 := rfl
    rw [e]
    have e2 : ∀ (s : Int) (l : List Int), dn s l (-1) = s := fun s l => rfl
    rw [e2, e2, bl_first]
    congr 1
    omega
  · obtain ⟨h1, h2⟩ := hpl_at t (by omega) j (by omega) i hij hj (by omega)
    have h3 := (pos_bd t (by omega) j (by omega) i hij hj).2
    unfold dn
    rw [if_neg (by omega), if_neg (by omega), twl_getD _ _ _ _ _ _ (by omega), h1]
    unfold twf
    rw [nm_nm]
    refine nm_add_congr rfl ?_
    rw [nm_mull, nm_mulr]
theorem twl_A2 {who : List Int} {k t : Nat} {a b : Int} {ds : List Int} (ht : t ≤ 4) {i j : Nat} (hi : i ≤ t) (hj : j ≤ t) :
    A2 b (twl who k a b ds t ((t + 1) * (t + 2) / 2 - 1)) t i j = nm (A2 a ds t i j + (b - a) * ((bl who k).getD i 0 * (bl who k).getD j 0)) := by
  unfold A2
  by_cases h : i ≤ j
  · rw [if_pos h, if_pos h, nm_addl, twl_le ht h hj]
  · rw [if_neg h, if_neg h, nm_addl, twl_le ht (by omega) hi, Int.mul_comm ((bl who k).getD j 0)]
/-- The rows of those who look are the same. -/
theorem twl_row {who : List Int} {k t r : Nat} {a b : Int} {ds : List Int} (ht : t ≤ 4) (hk : k ≤ t) (hr : r < k) (hz : nm (who.getD r 0) ≠ 0) : rowK b (twl who k a b ds t ((t + 1) * (t + 2) / 2 - 1)) t (who.getD r 0) (t + 1) = rowK a ds t (who.getD r 0) (t + 1) := by
  unfold rowK
  refine List.map_congr_left fun j hj => ?_
  have hj := List.mem_range.1 hj
  have e : nm (ev (colA b (twl who k a b ds t ((t + 1) * (t + 2) / 2 - 1)) t j) (who.getD r 0)) = nm (ev (adl ((b - a) * (bl who k).getD j 0) (colA a ds t j) (bl who k)) (who.getD r 0)) := by
    refine ev_congr _ _ _ fun i => ?_
    rw [adl_getD]
    by_cases hi : i ≤ t
    · rw [colA_getD _ _ _ _ hi, colA_getD _ _ _ _ hi, twl_A2 ht hi (by omega), nm_nm, Int.mul_assoc, Int.mul_comm ((bl who k).getD j 0)]
    · have z1 : (colA b (twl who k a b ds t ((t + 1) * (t + 2) / 2 - 1)) t j).getD i 0 = 0 := getD_big (by rw [colA_len]; omega)
      have z2 : (colA a ds t j).getD i 0 = 0 := getD_big (by rw [colA_len]; omega)
      have z3 : (bl who k).getD i 0 = 0 := getD_big (by rw [bl_len]; omega)
      rw [z1, z2, z3, Int.mul_zero, Int.add_zero]
  rw [e, adl_ev, ← nm_addr, ← nm_mulr, bl_root hr hz, Int.mul_zero]
  show nm (_ + nm 0) = _
  rw [nm_addr, Int.add_zero]
end
section
open Crm Go.RowKit
/-- A slice of shares that the call itself gathers, and one share more: a step of a region that draws. -/
theorem step_appS {P : Program} {T E : TypeId} (hT : P.underlying T = some (.slice E)) (info : (P.info? E).map (fun i => (i.zero, i.size, i.bytes)) = some (some (.agg #[.int .i64 0, .int .u64 0]), 2, 16))
    (w : World) {w1 : World} {ops : Array Oper} {o : Oper} {a : Act} {K : Act → World → Prop} {Q : Exit → Act → World → Prop} {F : Prop} (hgd : o.guard = none) (s x : Operand)
    (ho : o.op = .call { callee := .builtin .append, args := #[s, x], argTypes := #[T, T] })
    (base : Nat) (v : Value) (n : Nat) (l : List (Int × Int)) (hs : a.eval s = v) (hown : w.ownsRow base E 2 v n (shc l)) (p q : Int) (hx : a.eval x = .slice (some ⟨w.heap.size, 0, none⟩) 1 1)
    (hw1 : w1 = w.alloc (.cells #[.int .i64 p, .int .u64 q] E)) (hn : n ≤ 1000000) (hbase : base ≤ w.heap.size)
    (h : ∀ v' w', w'.ownsRow base E 2 v' (n + 1) (shc (l ++ [(p, q)])) → Below base w w' → K (a.put o.dst v') w') :
    if Region.wanted o (yielded ops a.tmps) = true then Oper.wp P o a w1 K Q else F := by
  subst hw1
  obtain ⟨i0, hi, hz0, hz1, hz2⟩ := info_parts info
  refine step_append_lies _ hgd s x T ho base E i0 (.agg #[.int .i64 0, .int .u64 0]) 2 16 hT hi hz0 hz1 hz2 rfl (by decide) v n _ hs (hown.alloc _) ⟨w.heap.size, 0, none⟩ 1 1 [.int .i64 p, .int .u64 q] hx rfl ?_ ?_ (by decide) (by unfold maxLen; omega) (by omega) (by simp; omega) _ rfl ?_
  · intro j u hj
    match j, hj with
    | 0, hj => simp at hj; subst hj; rw [Addr.add_lit]; exact cell_alloc0 _ _ _ _
    | 1, hj => simp at hj; subst hj; rw [Addr.add_lit]; exact cell_alloc1 _ _ _ _
  · intro u hu; simp at hu; rcases hu with rfl | rfl <;> rfl
  · intro g cap w' hown' hgrow _ _
    refine h _ w' (by rw [shc_snoc]; exact hown') ?_
    exact ((Below.refl _ _).alloc hbase _).grown hgrow (by simp; omega) (fun k hk => (hown.lt k hk).1)

theorem RdW.nbd {w : World} {a : Option Addr} {n c : Nat} {l : List (Int × List Int)} (h : RdW w a n c l) {i : Nat} (hi : i < n) : ∀ x ∈ tc l i, 0 ≤ x ∧ x ≤ 18446744073709551615 := by
  obtain ⟨b, o, x, ai, ni, ci, row, _, _, _, HRow, _, _, _, _, hrow⟩ := h.one hi
  rw [HRow.out]; exact hrow.bd

/-- What Join answers. -/
def Jns (l : List (Int × List Int)) (n : Nat) (t : Int) (w : World) (e : Ending) (w' : World) : Prop := ∃ x r, e = .returned (.tuple #[.int .u64 x, .int .i64 r]) ∧ Jnd l n t x r ∧ Below w.heap.size w w'
/-- How many numbers there are besides the secret. -/
def need2 (t : Nat) : Nat := (t + 1) * (t + 2) / 2 - 1
theorem need2_bd {t : Nat} (h : t ≤ 4) : need2 t ≤ 14 := by
  have hcase : t = 0 ∨ t = 1 ∨ t = 2 ∨ t = 3 ∨ t = 4 := by omega
  rcases hcase with rfl | rfl | rfl | rfl | rfl <;> decide
/-- What Need answers. -/
def Nds (t : Int) (w : World) (e : Ending) (w' : World) : Prop :=
  (((t < 0 ∨ 4 < t) ∧ e = .returned (.tuple #[.int .i64 0, .int .i64 1])) ∨ ∃ k : Nat, t = (k : Int) ∧ k ≤ 4 ∧ e = .returned (.tuple #[.int .i64 (need2 k : Nat), .int .i64 0])) ∧ Below w.heap.size w w'
/-- What is dealt with m draws for n parties is dealt rightly. -/
def Dwk (t n : Int) (m k : Nat) : Prop := t = (k : Int) ∧ k ≤ 4 ∧ m = need2 k ∧ (k : Int) + 1 ≤ n ∧ n ≤ 9
/-- What Deal answers. -/
def Dwl (s : Int) (ds : List Int) (t n : Int) (m : Nat) (w : World) (e : Ending) (w' : World) : Prop :=
  (((∀ k, ¬ Dwk t n m k) ∧ e = .returned (.tuple #[.slice none 0 0, .int .i64 1])) ∨ ∃ (k q : Nat) (v : Value) (L : List (Int × Value)), Dwk t n m k ∧ n = (q : Int) ∧ e = .returned (.tuple #[v, .int .i64 0]) ∧ LsW w' w.heap.size v L (dealA s ds k q)) ∧ Below w.heap.size w w'
/-- Rows that are dealt are read. -/
theorem deal_rd {w : World} {B : Nat} {v : Value} {L : List (Int × Value)} {s : Int} {ds : List Int} {t q : Nat} (h : LsW w B v L (dealA s ds t q)) (hq : q ≤ 9) : ∃ a c, v = .slice a q c ∧ RdW w a q c (dealA s ds t q) :=
  h.rdW (dealA_len _ _ _ _) (fun i hi => by unfold ta; rw [dealA_getD s ds t hi]; simp only; omega) (fun i hi => by unfold tc; rw [dealA_getD s ds t hi]; exact bd_u64 (rowK_bd _ _ _ _ _))
/-- What is wrong with what Shift is handed. -/
def Hse (who : List Int) (k q : Nat) (r : Int) : Prop := (¬ dis (fi who) k ∧ r = 5) ∨ (dis (fi who) k ∧ ((¬ (q ≤ 4 ∧ k ≤ q) ∧ r = 1) ∨ ((q ≤ 4 ∧ k ≤ q) ∧ r = 0)))
theorem Hse.one {who : List Int} {k q : Nat} {r s : Int} (h : Hse who k q r) (g : Hse who k q s) : r = s := by
  rcases h with ⟨h1, rfl⟩ | ⟨h1, ⟨h2, rfl⟩ | ⟨h2, rfl⟩⟩ <;> rcases g with ⟨k1, rfl⟩ | ⟨k1, ⟨k2, rfl⟩ | ⟨k2, rfl⟩⟩
  all_goals first
    | rfl
    | exact absurd k1 h1
    | exact absurd h1 k1
    | exact absurd k2 h2
    | exact absurd h2 k2
theorem Hse.ok {who : List Int} {k q : Nat} (h : Hse who k q 0) : dis (fi who) k ∧ q ≤ 4 ∧ k ≤ q := by
  rcases h with ⟨_, h⟩ | ⟨h1, ⟨_, h⟩ | ⟨h2, _⟩⟩
  · omega
  · omega
  · exact ⟨h1, h2.1, h2.2⟩
/-- What Shift answers. -/
def Hsh (who : List Int) (k : Nat) (a b : Int) (ds : List Int) (q : Nat) (w : World) (e : Ending) (w' : World) : Prop :=
  ((∃ r, r ≠ 0 ∧ Hse who k q r ∧ e = .returned (.tuple #[.slice none 0 0, .int .i64 r])) ∨
   (Hse who k q 0 ∧ ∃ v, e = .returned (.tuple #[v, .int .i64 0]) ∧ w'.ownsRow w.heap.size 34 1 v q ((shf who k a b ds q).map (Value.int .u64)))) ∧ Below w.heap.size w w'
/-- What is wrong with what Twine is handed. -/
def Hte (who : List Int) (k : Nat) (t : Int) (q : Nat) (r : Int) : Prop := (¬ dis (fi who) k ∧ r = 5) ∨ (dis (fi who) k ∧ ((¬ ((0 ≤ t ∧ t ≤ 4) ∧ (k : Int) ≤ t ∧ q = need2 t.toNat) ∧ r = 1) ∨ (((0 ≤ t ∧ t ≤ 4) ∧ (k : Int) ≤ t ∧ q = need2 t.toNat) ∧ r = 0)))
theorem Hte.one {who : List Int} {k q : Nat} {t r s : Int} (h : Hte who k t q r) (g : Hte who k t q s) : r = s := by
  rcases h with ⟨h1, rfl⟩ | ⟨h1, ⟨h2, rfl⟩ | ⟨h2, rfl⟩⟩ <;> rcases g with ⟨k1, rfl⟩ | ⟨k1, ⟨k2, rfl⟩ | ⟨k2, rfl⟩⟩
  all_goals first
    | rfl
    | exact absurd k1 h1
    | exact absurd h1 k1
    | exact absurd k2 h2
    | exact absurd h2 k2
theorem Hte.ok {who : List Int} {k q : Nat} {t : Int} (h : Hte who k t q 0) : dis (fi who) k ∧ (0 ≤ t ∧ t ≤ 4) ∧ (k : Int) ≤ t ∧ q = need2 t.toNat := by
  rcases h with ⟨_, h⟩ | ⟨h1, ⟨_, h⟩ | ⟨h2, _⟩⟩
  · omega
  · omega
  · exact ⟨h1, h2⟩
/-- What Twine answers. -/
def Htw (who : List Int) (k : Nat) (t : Int) (a b : Int) (ds : List Int) (q : Nat) (w : World) (e : Ending) (w' : World) : Prop :=
  ((∃ r, r ≠ 0 ∧ Hte who k t q r ∧ e = .returned (.tuple #[.slice none 0 0, .int .i64 r])) ∨
   (Hte who k t q 0 ∧ ∃ v, e = .returned (.tuple #[v, .int .i64 0]) ∧ w'.ownsRow w.heap.size 34 1 v q ((twl who k a b ds t.toNat q).map (Value.int .u64)))) ∧ Below w.heap.size w w'
/-- What is told. -/
def wls (who : List Int) (k : Nat) (a b : Int) (ds : List Int) (q : Nat) (r : Int) : List Int := if r = 0 then shf who k a b ds q else []
def wlt (who : List Int) (k : Nat) (t : Int) (a b : Int) (ds : List Int) (q : Nat) (r : Int) : List Int := if r = 0 then twl who k a b ds t.toNat q else []
theorem Hsh.rd {who : List Int} {k q : Nat} {a b r : Int} {ds : List Int} {w w' : World} {e : Ending} (h : Hsh who k a b ds q w e w') (hr : Hse who k q r) : ∃ a' c', e = .returned (.tuple #[.slice a' (wls who k a b ds q r).length c', .int .i64 r]) ∧ Rd w' a' (wls who k a b ds q r).length c' (wls who k a b ds q r) := by
  rcases h.1 with ⟨s, h1, h2, rfl⟩ | ⟨h1, v, rfl, ho⟩
  · obtain rfl := h2.one hr
    unfold wls
    rw [if_neg h1]
    exact ⟨none, 0, rfl, nil_rd _⟩
  · obtain rfl : 0 = r := h1.one hr
    unfold wls
    rw [if_pos rfl, shf_len]
    obtain ⟨a', c', rfl, hr', _⟩ := Rd.own ho (bd_u64 (shf_bd _ _ _ _ _ _))
    exact ⟨a', c', rfl, hr'⟩
theorem Htw.rd {who : List Int} {k q : Nat} {t a b r : Int} {ds : List Int} {w w' : World} {e : Ending} (h : Htw who k t a b ds q w e w') (hr : Hte who k t q r) : ∃ a' c', e = .returned (.tuple #[.slice a' (wlt who k t a b ds q r).length c', .int .i64 r]) ∧ Rd w' a' (wlt who k t a b ds q r).length c' (wlt who k t a b ds q r) := by
  rcases h.1 with ⟨s, h1, h2, rfl⟩ | ⟨h1, v, rfl, ho⟩
  · obtain rfl := h2.one hr
    unfold wlt
    rw [if_neg h1]
    exact ⟨none, 0, rfl, nil_rd _⟩
  · obtain rfl : 0 = r := h1.one hr
    unfold wlt
    rw [if_pos rfl, twl_len]
    obtain ⟨a', c', rfl, hr', _⟩ := Rd.own ho (bd_u64 (twl_bd _ _ _ _ _ _ _))
    exact ⟨a', c', rfl, hr'⟩
theorem Hsh.told {who : List Int} {k q : Nat} {a b : Int} {ds : List Int} {w w' : World} {e : Ending} (h : Hsh who k a b ds q w e w') (hr : Hse who k q 0) : ∃ a' c', e = .returned (.tuple #[.slice a' q c', .int .i64 0]) ∧ Rd w' a' q c' (shf who k a b ds q) := by
  obtain ⟨a', c', e1, h1⟩ := h.rd hr
  have e2 : wls who k a b ds q 0 = shf who k a b ds q := if_pos rfl
  rw [e2, shf_len] at e1 h1
  exact ⟨a', c', e1, h1⟩
theorem Htw.told {who : List Int} {k q : Nat} {t a b : Int} {ds : List Int} {w w' : World} {e : Ending} (h : Htw who k t a b ds q w e w') (hr : Hte who k t q 0) : ∃ a' c', e = .returned (.tuple #[.slice a' q c', .int .i64 0]) ∧ Rd w' a' q c' (twl who k a b ds t.toNat q) := by
  obtain ⟨a', c', e1, h1⟩ := h.rd hr
  have e2 : wlt who k t a b ds q 0 = twl who k a b ds t.toNat q := if_pos rfl
  rw [e2, twl_len] at e1 h1
  exact ⟨a', c', e1, h1⟩
theorem dis_nz {who : List Int} {k : Nat} (h : dis (fi who) k) : ∀ j, j < k → nm (who.getD j 0) ≠ 0 := fun j hj => by
  have := (h j hj).1
  unfold fi at this
  rw [nm_small (by omega) (by omega)]
  omega
/-- Row g holds the marks M. -/
def BlkT (w : World) (g : Nat) (M : List Bool) : Prop := w.heap[g]? = some (.cells (M.map Value.bool).toArray 143 (0, 0))
theorem BlkT.lt {w : World} {g : Nat} {M : List Bool} (h : BlkT w g M) : g < w.heap.size := (Array.getElem?_eq_some_iff.1 h).1
theorem BlkT.cell {w : World} {g : Nat} {M : List Bool} (h : BlkT w g M) {i : Nat} (hi : i < M.length) : w.cell? ⟨g, i, none⟩ = some (.bool (M.getD i false)) := by
  rw [cell_of_row w g i _ _ (0, 0) h]
  simp [List.getElem?_eq_getElem hi]
theorem BlkT.frozen {w : World} {g : Nat} {M : List Bool} (h : BlkT w g M) (i : Nat) : w.frozen? ⟨g, i, none⟩ = false := frozen_of_row w g i _ _ h
theorem BlkT.set {w : World} {g : Nat} {M : List Bool} (h : BlkT w g M) (i : Nat) (v : Bool) : BlkT (w.setCell ⟨g, i, none⟩ (.bool v)) g (M.set i v) := by
  have := heap_setCell_same w g i _ _ (.bool v) h
  unfold BlkT
  rw [this]
  simp [List.map_set]

theorem hDifferent (a : Option Addr) (n c : Nat) (ts : List Int) (w : World) (h : RdI w a n c ts) :
    Calls Tryd.prog 57 #[.slice a n c] w fun e w' => Tells (dis (fi ts) n) w e w' := by
  have hcap := h.cap
  have hmax := h.max
  unfold maxLen at hmax
  go_enter Tryd.func57, Tryd.ntmps57
  go_wp2
  go_loopw [8] (fun i wr => ∃ (k : Nat) (M : List Bool), k ≤ n ∧ i = .int .i64 k ∧ Hid (Mk (fi ts) k M) ∧ BlkT wr w.heap.size M ∧ Below w.heap.size w wr) (fun i _ => n - (intOf i).toNat)
  case atStart => exact ⟨0, _, Nat.zero_le _, rfl, mk_start _, heap_alloc_new w _, (Below.refl _ _).alloc (Nat.le_refl _) _⟩
  case round =>
    obtain ⟨k, M, hk, rfl, HM, hB, hbel⟩ := hrel
    have hlM := HM.out.len
    have hltB := hB.lt
    by_cases hlt : k < n
    · obtain ⟨b, o, x, rfl, hbb, HX, hx0, hx1, hcx⟩ := (h.below hbel).one hlt
      by_cases hx2 : x < 1
      · have HN : Hid (¬ dis (fi ts) n) := mk_out hlt HX.out (.inl hx2)
        go_wp2
        go_ret
        exact .no HN.out hbel
      · by_cases hx9 : 9 < x
        · have HN : Hid (¬ dis (fi ts) n) := mk_out hlt HX.out (.inr hx9)
          go_wp2
          go_ret
          exact .no HN.out hbel
        · obtain ⟨p, rfl⟩ : ∃ p : Nat, x = p := ⟨x.toNat, by omega⟩
          have hcp := hB.cell (i := p) (by omega)
          cases hm : M.getD p false with
          | true =>
            have HN : Hid (¬ dis (fi ts) n) := mk_twice HM.out hlt HX.out (by omega) (by omega) hm
            rw [hm] at hcp
            clear hm
            go_wp2
            go_ret
            exact .no HN.out hbel
          | false =>
            have HM2 : Hid (Mk (fi ts) (k + 1) (M.set p true)) := mk_step HM.out HX.out (by omega) (by omega) hm
            rw [hm] at hcp
            have hfz := hB.frozen p
            have hB3 := hB.set p true
            have hbel3 := below_grown hbel (grown_set wr w.heap.size p (.bool true)) (Nat.le_refl _)
            clear hm hB hbel
            go_wp2
            go_roundw
            case rel => exact ⟨k + 1, _, by omega, by go_num, HM2, hB3, hbel3⟩
            case measure => simp [intOf]; omega
    · have hkn : k = n := by omega
      subst hkn
      have HD : Hid (dis (fi ts) k) := HM.out.dis
      go_wp2
      go_ret
      exact .yes HD.out hbel
end
section
open Crm
/-- The place of the pair i, j. -/
def pp (t i j : Nat) : Nat := (nd2 (t : Nat) i + ((j : Int) - i)).toNat
theorem pp_lt {t i j : Nat} (ht : t ≤ 4) (hij : i ≤ j) (hj : j ≤ t) (h0 : 0 < i + j) : pp t i j < need2 t := by
  have h := (hpl_at t (by omega) j (by omega) i hij hj h0).2
  have h3 := (pos_bd t (by omega) j (by omega) i hij hj).2
  unfold pp need2
  omega
end
section
open Crm Go.RowKit
theorem wrap_i64 {x : Int} (h0 : -1000000 ≤ x) (h1 : x ≤ 1000000) : IntKind.i64.wrap x = x := by
  unfold IntKind.wrap
  simp [IntKind.signed, IntKind.bits]
  omega
/-- Rows that lie elsewhere. -/
def Far (L : List Value) (n lo hi : Nat) : Prop := ∀ p, p < n → ∀ gg, (L.getD p (.slice none 0 0)).ownBlock = some gg → gg < lo ∨ hi ≤ gg
/-- What Need answers. -/
def Enn (G : List Gt) (O : List Int) (N m : Nat) (n t : Int) (w : World) (e : Ending) (w' : World) : Prop :=
  ((∃ r, r ≠ 0 ∧ Nde G O N m n t r ∧ e = .returned (.tuple #[.int .i64 0, .int .i64 r])) ∨
   (Nde G O N m n t 0 ∧ e = .returned (.tuple #[.int .i64 (dwn G n.toNat t.toNat N : Int), .int .i64 0]))) ∧ Below w.heap.size w w'
/-- What Run answers. -/
def Enr (G : List Gt) (O ins ds : List Int) (N m : Nat) (n t : Int) (q d : Nat) (w : World) (e : Ending) (w' : World) : Prop :=
  ((∃ r, r ≠ 0 ∧ Ere G O N m n t q d r ∧ e = .returned (.tuple #[.slice none 0 0, .slice none 0 0, .int .i64 r])) ∨
   (Ere G O N m n t q d 0 ∧ ∃ a c b k, e = .returned (.tuple #[.slice a m c, .slice b n.toNat k, .int .i64 0]) ∧ Rd w' a m c (otl G O ins m) ∧ RdR w' b n.toNat k (snl G O n.toNat t.toNat ins ds N m))) ∧ Below w.heap.size w w'
theorem Ere.ok {G : List Gt} {O : List Int} {N m : Nat} {n t : Int} {q d : Nat} (h : Ere G O N m n t q d 0) : Nde G O N m n t 0 ∧ q = ci G N ∧ d = dwn G n.toNat t.toNat N := by
  rcases h with ⟨h1, _⟩ | ⟨h1, ⟨_, h2⟩ | ⟨h2, ⟨_, h3⟩ | ⟨h3, _⟩⟩⟩
  · exact absurd rfl h1
  · omega
  · omega
  · exact ⟨h1, h2, h3⟩
/-- What was seen is read. -/
theorem snl_rd {w : World} {B : Nat} {u : Value} {L : List Value} {G : List Gt} {O : List Int} {n t : Nat} {ins ds : List Int} {N m : Nat} (h : LsV w B u L (snl G O n t ins ds N m)) : ∃ a c, u = .slice a n c ∧ RdR w a n c (snl G O n t ins ds N m) :=
  h.rdR (snl_len _ _ _ _ _ _ _ _) fun i hi x hx => by
    rw [snl_getD _ _ _ _ _ _ _ _ hi] at hx
    have := sno_bd _ _ _ _ _ _ _ _ hi x hx
    omega
end
end Go.Proofs.YtljlioglpaogdagDoor
