/- Any shares of a dealing, and their weights: plain facts. · Reckoning with shares: plain facts. · Parties that reckon together: plain facts. · croftref.Times. · croftref.Played: what each party has seen so far, and the wires' numbers: memory. · What the calls of package engine answer. · What the calls of package gate answer. · croftkeep.dealt; shares that are written. · What a right circuit lets be known. -/
import Derived.Test.YtljlioglpaogdafDoorToFitC
import Derived.Test.YtljlioglpaogdafDoorToTopC
import Derived.Test.YtljlioglpaogdafDoorToGaussM
import Derived.Test.YtljlioglpaogdafDoorToSortM
import Derived.Test.YtljlioglpaogdafDoorToLsV2
import Derived.Test.YtljlioglpaogdafDoorToShortC
import Derived.Test.YtljlioglpaogdafDoorToBadM
import Derived.Test.YtljlioglpaogdafDoorToWireC
import Derived.BigQuiet
import Derived.Test.YtljlioglpaogdafDoorProg
import Derived.WalkKit
import Derived.WalkSpells
import Derived.WalkLawsBesides
import Derived.Deep.QuietTactic
import Derived.Test.YtljlioglpaogdafDoorToShpM
namespace Go.Proofs.YtljlioglpaogdafDoor
set_option linter.unusedVariables false
set_option maxRecDepth 100000
set_option maxHeartbeats 8000000
section
open Crm
/-- The weights make of the values the value at 0. -/
theorem sum_wt {ts C : List Int} {K : Nat} (hd : dis (fi ts) K) (hC : C.length ≤ K) (y : Nat → Int) (hy : ∀ j, j < K → nm (y j) = nm (ev C (ts.getD j 0))) : nm (sm (fun i => wt ts K i * y i) K) = nm (ev C 0) := by
  have main : ∀ k, k ≤ K → ∃ R : List Int, R.length ≤ K ∧ (∀ j, j < K → nm (ev R (ts.getD j 0)) = if j < k then nm (y j) else 0) ∧ nm (ev R 0) = nm (sm (fun i => wt ts K i * y i) k) := by
    intro k
    induction k with
    | zero => exact fun _ => ⟨[], Nat.zero_le _, fun j _ => by rw [if_neg (by omega)]; rfl, rfl⟩
    | succ k ih =>
      intro hk
      obtain ⟨R, r1, r2, r3⟩ := ih (by omega)
      obtain ⟨Q, q1, q2, q3⟩ := wt_wgt hd (show k < K by omega)
      have hev : ∀ x, nm (ev (sml R (cvl [y k] Q)) x) = nm (ev R x + y k * ev Q x) := fun x => by
        rw [sml_ev]
        refine nm_add_congr rfl ?_
        rw [cvl_ev, ev, ev, Int.mul_zero, Int.add_zero]
      refine ⟨sml R (cvl [y k] Q), ?_, fun j hj => ?_, ?_⟩
      · rw [sml_len, cvl_len, List.length_singleton]; omega
      · rw [hev]
        have h1 := q2 j hj
        have h2 := r2 j hj
        by_cases e : j = k
        · subst e
          rw [if_pos rfl] at h1
          rw [if_neg (by omega)] at h2
          rw [if_pos (by omega), nm_add_congr (c := 0) (d := y j * 1) h2 (nm_mul_congr rfl (by rw [h1]; rfl)), Int.zero_add, Int.mul_one]
        · rw [if_neg e] at h1
          rw [nm_add_congr (c := ev R (ts.getD j 0)) (d := y k * 0) rfl (nm_mul_congr rfl (by rw [h1]; rfl)), Int.mul_zero, Int.add_zero, h2]
          by_cases e2 : j < k
          · rw [if_pos e2, if_pos (by omega)]
          · rw [if_neg e2, if_neg (by omega)]
      · rw [hev, sm]
        refine nm_add_congr r3 ?_
        rw [q3, nm_mull, Int.mul_comm]
  obtain ⟨R, r1, r2, r3⟩ := main K (Nat.le_refl _)
  rw [← r3]
  have hw : ∀ j, j < K → ((List.range K).map fun k => (ts.getD k 0, y k)).getD j (0, 0) = (ts.getD j 0, y j) := fun j hj => by simp [hj]
  refine ev_one (hs_one (l := (List.range K).map fun k => (ts.getD k 0, y k)) (n := K) (fun j hj => ?_) (fun j hj => ?_) (fun j hj => ?_) r1 hC) 0
  · rw [hw j hj]
    refine ⟨⟨(hd j hj).1.1, by have := (hd j hj).1.2; unfold fi at this; simp only; omega⟩, fun q hq => ?_⟩
    rw [hw q (by omega)]
    exact (hd j hj).2 q hq
  · rw [hw j hj]
    simp only
    rw [r2 j hj, if_pos hj]
  · rw [hw j hj]
    simp only
    exact (hy j hj).symm
/-- Each party's numbers mixed: a times the one, b times the other, and c. -/
def mxl (x y : List Int) (a b c : Int) (n : Nat) : List Int := (List.range n).map fun i => nm (a * x.getD i 0 + b * y.getD i 0 + c)
theorem mxl_len (x y : List Int) (a b c : Int) (n : Nat) : (mxl x y a b c n).length = n := by simp [mxl]
theorem mxl_getD (x y : List Int) (a b c : Int) {n i : Nat} (h : i < n) : (mxl x y a b c n).getD i 0 = nm (a * x.getD i 0 + b * y.getD i 0 + c) := by simp [mxl, h]
theorem mxl_bd (x y : List Int) (a b c : Int) (n : Nat) : ∀ z ∈ mxl x y a b c n, 0 ≤ z ∧ z ≤ 2147483646 := by
  intro z hz
  obtain ⟨i, _, rfl⟩ := List.mem_map.1 hz
  exact nm_bd _
/-- The same by other ways. -/
theorem mxl_ext {x y : List Int} {a b c : Int} {n : Nat} {F : Nat → Int} (h : ∀ i, i < n → F i = nm (a * x.getD i 0 + b * y.getD i 0 + c)) : (List.range n).map F = mxl x y a b c n :=
  List.map_congr_left fun i hi => h i (List.mem_range.1 hi)

/-- The parties' numbers. -/
def pty (n : Nat) : List Int := (List.range n).map fun i : Nat => (i : Int) + 1
theorem pty_getD {n i : Nat} (h : i < n) : (pty n).getD i 0 = (i : Int) + 1 := by simp [pty, h]
theorem pty_dis {n : Nat} (h : n ≤ 9) : dis (fi (pty n)) n := fun i hi => by
  unfold fi
  rw [pty_getD hi]
  exact ⟨⟨by omega, by omega⟩, fun j hj => by rw [pty_getD (show j < n by omega)]; omega⟩

/-- What party i deals: the product of its numbers, and its draws. -/
def prC (t : Nat) (a b ds : List Int) (i : Nat) : List Int := nm (a.getD i 0 * b.getD i 0) :: (ds.drop (i * t)).take t
theorem prC_len (t : Nat) (a b ds : List Int) (i : Nat) : (prC t a b ds i).length ≤ t + 1 := by
  unfold prC; rw [List.length_cons, List.length_take]; omega
/-- What party j was dealt by the first k. -/
def tmR (t : Nat) (a b ds : List Int) (k j : Nat) : List Int := (List.range k).map fun i => dlf (prC t a b ds i) j
theorem tmR_len (t : Nat) (a b ds : List Int) (k j : Nat) : (tmR t a b ds k j).length = k := by simp [tmR]
theorem tmR_getD (t : Nat) (a b ds : List Int) {k i : Nat} (j : Nat) (h : i < k) : (tmR t a b ds k j).getD i 0 = dlf (prC t a b ds i) j := by simp [tmR, h]
theorem tmR_bd (t : Nat) (a b ds : List Int) (k j : Nat) : ∀ z ∈ tmR t a b ds k j, 0 ≤ z ∧ z ≤ 2147483646 := by
  intro z hz
  obtain ⟨i, _, rfl⟩ := List.mem_map.1 hz
  exact dlf_bd _ _
/-- What all were dealt, party by party. -/
def tmG (t : Nat) (a b ds : List Int) (n : Nat) : List (List Int) := (List.range n).map fun j => tmR t a b ds n j
theorem tmG_len (t : Nat) (a b ds : List Int) (n : Nat) : (tmG t a b ds n).length = n := by simp [tmG]
theorem tmG_getD (t : Nat) (a b ds : List Int) {n j : Nat} (h : j < n) : (tmG t a b ds n).getD j [] = tmR t a b ds n j := by simp [tmG, h]
/-- Party j's number of the product. -/
def tmf (t : Nat) (a b ds : List Int) (n j : Nat) : Int := nm (sm (fun i => wt (pty n) n i * dlf (prC t a b ds i) j) n)
def tmO (t : Nat) (a b ds : List Int) (n k : Nat) : List Int := (List.range k).map (tmf t a b ds n)
theorem tmO_len (t : Nat) (a b ds : List Int) (n k : Nat) : (tmO t a b ds n k).length = k := by simp [tmO]
theorem tmO_getD (t : Nat) (a b ds : List Int) (n : Nat) {k j : Nat} (h : j < k) : (tmO t a b ds n k).getD j 0 = tmf t a b ds n j := by simp [tmO, h]
theorem tmO_bd (t : Nat) (a b ds : List Int) (n k : Nat) : ∀ z ∈ tmO t a b ds n k, 0 ≤ z ∧ z ≤ 2147483646 := by
  intro z hz
  obtain ⟨i, _, rfl⟩ := List.mem_map.1 hz
  exact nm_bd _
/-- One polynomial of t + 1 numbers has the parties' numbers of the product. -/
theorem tm_poly (t : Nat) (a b ds : List Int) (W : Nat → Int) : ∀ k, ∃ P : List Int, P.length ≤ t + 1 ∧ ∀ x, ev P x = sm (fun i => W i * ev (prC t a b ds i) x) k
  | 0 => ⟨[], Nat.zero_le _, fun _ => rfl⟩
  | k + 1 => by
    obtain ⟨P, h1, h2⟩ := tm_poly t a b ds W k
    refine ⟨adl (W k) P (prC t a b ds k), ?_, fun x => ?_⟩
    · rw [adl_len]; have := prC_len t a b ds k; omega
    · rw [adl_ev, h2, sm]
/-- Of dealt secrets the product is dealt. -/
theorem times_dealt {t n : Nat} {A B ds : List Int} (hA : A.length ≤ t + 1) (hB : B.length ≤ t + 1) (hn : 2 * t + 1 ≤ n) (hn9 : n ≤ 9) :
    ∃ P : List Int, P.length ≤ t + 1 ∧ (∀ j, j < n → tmf t (dl A n) (dl B n) ds n j = nm (ev P ((j : Int) + 1))) ∧ nm (ev P 0) = nm (ev A 0 * ev B 0) := by
  obtain ⟨P, h1, h2⟩ := tm_poly t (dl A n) (dl B n) ds (wt (pty n) n) n
  refine ⟨P, h1, fun j _ => ?_, ?_⟩
  · unfold tmf
    rw [h2]
    refine sm_ncongr fun i hi => ?_
    unfold dlf
    rw [nm_mulr]
  · rw [h2]
    have h3 := sum_wt (pty_dis hn9) (C := cvl A B) (by rw [cvl_len]; omega) (fun i => ev (prC t (dl A n) (dl B n) ds i) 0) (fun j hj => by
      unfold prC
      rw [ev, Int.zero_mul, Int.add_zero, nm_nm, cvl_ev, dl_getD A hj, dl_getD B hj, pty_getD hj]
      unfold dlf
      exact nm_mul_congr (nm_nm _) (nm_nm _))
    rw [h3, cvl_ev]
/-- Shares of all parties' numbers are those of the polynomial that has them. -/
theorem shl_hs {C L : List Int} {n : Nat} (h : ∀ i, i < n → L.getD i 0 = nm (ev C ((i : Int) + 1))) : Hs (shl L n) n C := fun j hj => by
  rw [shl_getD L hj]
  simp only
  rw [h j hj, nm_nm]
theorem shl_dis (L : List Int) {n : Nat} (h : n ≤ 9) : dis (fa (shl L n)) n := fun i hi => by
  unfold fa
  rw [shl_getD L hi]
  exact ⟨⟨by simp only; omega, by simp only; omega⟩, fun j hj => by rw [shl_getD L (show j < n by omega)]; simp only; omega⟩
/-- What Open tells of them. -/
theorem shl_open {C L : List Int} {n t : Nat} {x r : Int} (hn : n ≤ 9) (ht : t ≤ 4) (htn : t < n) (hC : C.length ≤ t + 1) (h : ∀ i, i < n → L.getD i 0 = nm (ev C ((i : Int) + 1))) (hO : Opn (shl L n) n t x r) : x = nm (ev C 0) ∧ r = 0 :=
  any_open (shl_dis L hn) ht htn hC (shl_hs h) hO
/-- Mixed shares are shares of what is mixed. -/
theorem mxl_dealt {A B : List Int} {a b c : Int} {n t : Nat} (hA : A.length ≤ t + 1) (hB : B.length ≤ t + 1) :
    ∃ P : List Int, P.length ≤ t + 1 ∧ (∀ i, i < n → (mxl (dl A n) (dl B n) a b c n).getD i 0 = nm (ev P ((i : Int) + 1))) ∧ nm (ev P 0) = nm (a * ev A 0 + b * ev B 0 + c) := by
  have e : ∀ x, ev (adl 1 (adl b (A.map (a * ·)) B) [c]) x = a * ev A x + b * ev B x + c := fun x => by
    rw [adl_ev, adl_ev, map_ev, ev, ev, Int.mul_zero, Int.add_zero, Int.one_mul]
  refine ⟨adl 1 (adl b (A.map (a * ·)) B) [c], ?_, fun i hi => ?_, by rw [e]⟩
  · rw [adl_len, adl_len, List.length_map, List.length_singleton]; omega
  · rw [mxl_getD _ _ _ _ _ hi, dl_getD A hi, dl_getD B hi, e]
    refine nm_add_congr (nm_add_congr ?_ ?_) rfl
    · unfold dlf; rw [nm_mulr]
    · unfold dlf; rw [nm_mulr]
/-- Draws that the first i gates take. -/
def dwn (G : List Gt) (n t : Nat) : Nat → Nat
  | 0 => 0
  | i + 1 => dwn G n t i + (if (gt G i).k = 1 then t else if (gt G i).k = 5 then n * t else 0)
/-- The draws of gate i. -/
def edr (G : List Gt) (n t : Nat) (ds : List Int) (i k : Nat) : List Int := (ds.drop (dwn G n t i)).take k
/-- The parties' numbers of wire i, those of the wires ahead being W. -/
def esh (G : List Gt) (n t : Nat) (ins ds : List Int) (W : List (List Int)) (i : Nat) : List Int :=
  if (gt G i).k = 1 then dl (ins.getD (ci G i) 0 :: edr G n t ds i t) n
  else if (gt G i).k = 2 then List.replicate n (nm (gt G i).n)
  else if (gt G i).k = 3 then mxl (W.getD (gt G i).a.toNat []) (W.getD (gt G i).b.toNat []) 1 1 0 n
  else if (gt G i).k = 4 then mxl (W.getD (gt G i).a.toNat []) (W.getD (gt G i).b.toNat []) 1 2147483646 0 n
  else if (gt G i).k = 6 then mxl (W.getD (gt G i).a.toNat []) (W.getD (gt G i).a.toNat []) (gt G i).n 0 0 n
  else tmO t (W.getD (gt G i).a.toNat []) (W.getD (gt G i).b.toNat []) (edr G n t ds i (n * t)) n n
def ewr (G : List Gt) (n t : Nat) (ins ds : List Int) : Nat → List (List Int)
  | 0 => []
  | i + 1 => ewr G n t ins ds i ++ [esh G n t ins ds (ewr G n t ins ds i) i]
/-- The parties' numbers of wire i. -/
def ew (G : List Gt) (n t : Nat) (ins ds : List Int) (i : Nat) : List Int := esh G n t ins ds (ewr G n t ins ds i) i
theorem esh_len (G : List Gt) (n t : Nat) (ins ds : List Int) (W : List (List Int)) (i : Nat) : (esh G n t ins ds W i).length = n := by
  unfold esh
  repeat' split
  · exact dl_len _ _
  · simp
  · exact mxl_len _ _ _ _ _ _
  · exact mxl_len _ _ _ _ _ _
  · exact mxl_len _ _ _ _ _ _
  · exact tmO_len _ _ _ _ _ _
theorem esh_bd (G : List Gt) (n t : Nat) (ins ds : List Int) (W : List (List Int)) (i : Nat) : ∀ z ∈ esh G n t ins ds W i, 0 ≤ z ∧ z ≤ 2147483646 := by
  unfold esh
  repeat' split
  · exact dl_bd _ _
  · intro z hz; obtain rfl := List.eq_of_mem_replicate hz; exact nm_bd _
  · exact mxl_bd _ _ _ _ _ _
  · exact mxl_bd _ _ _ _ _ _
  · exact mxl_bd _ _ _ _ _ _
  · exact tmO_bd _ _ _ _ _ _
theorem ew_len (G : List Gt) (n t : Nat) (ins ds : List Int) (i : Nat) : (ew G n t ins ds i).length = n := esh_len _ _ _ _ _ _ _
theorem ew_bd (G : List Gt) (n t : Nat) (ins ds : List Int) (i : Nat) : ∀ z ∈ ew G n t ins ds i, 0 ≤ z ∧ z ≤ 2147483646 := esh_bd _ _ _ _ _ _ _
theorem ewr_len (G : List Gt) (n t : Nat) (ins ds : List Int) : ∀ i, (ewr G n t ins ds i).length = i
  | 0 => rfl
  | i + 1 => by rw [ewr, List.length_append, ewr_len G n t ins ds i]; rfl
theorem ewr_succ (G : List Gt) (n t : Nat) (ins ds : List Int) (i : Nat) : ewr G n t ins ds (i + 1) = ewr G n t ins ds i ++ [ew G n t ins ds i] := rfl
theorem ewr_getD (G : List Gt) (n t : Nat) (ins ds : List Int) {j : Nat} : ∀ {i : Nat}, j < i → (ewr G n t ins ds i).getD j [] = ew G n t ins ds j
  | 0, h => by omega
  | i + 1, h => by
    have hl := ewr_len G n t ins ds i
    rw [ewr_succ]
    by_cases e : j = i
    · subst e
      rw [List.getD_eq_getElem?_getD, List.getElem?_append_right (by omega), hl, Nat.sub_self]
      rfl
    · rw [List.getD_eq_getElem?_getD, List.getElem?_append_left (by omega), ← List.getD_eq_getElem?_getD]
      exact ewr_getD G n t ins ds (by omega)
theorem ew_in {G : List Gt} {n t : Nat} {ins ds : List Int} {i : Nat} (h : (gt G i).k = 1) : ew G n t ins ds i = dl (ins.getD (ci G i) 0 :: edr G n t ds i t) n := by unfold ew esh; rw [if_pos h]
theorem ew_const {G : List Gt} {n t : Nat} {ins ds : List Int} {i : Nat} (h : (gt G i).k = 2) : ew G n t ins ds i = List.replicate n (nm (gt G i).n) := by unfold ew esh; rw [if_neg (by omega), if_pos h]
theorem ew_add {G : List Gt} {n t : Nat} {ins ds : List Int} {i a b : Nat} (h : (gt G i).k = 3) (ha : (gt G i).a = (a : Int)) (hi : a < i) (hb : (gt G i).b = (b : Int)) (hj : b < i) : ew G n t ins ds i = mxl (ew G n t ins ds a) (ew G n t ins ds b) 1 1 0 n := by
  unfold ew
  rw [esh, if_neg (by omega), if_neg (by omega), if_pos h, ha, hb, Int.toNat_natCast, Int.toNat_natCast, ewr_getD G n t ins ds hi, ewr_getD G n t ins ds hj]
  rfl
theorem ew_sub {G : List Gt} {n t : Nat} {ins ds : List Int} {i a b : Nat} (h : (gt G i).k = 4) (ha : (gt G i).a = (a : Int)) (hi : a < i) (hb : (gt G i).b = (b : Int)) (hj : b < i) : ew G n t ins ds i = mxl (ew G n t ins ds a) (ew G n t ins ds b) 1 2147483646 0 n := by
  unfold ew
  rw [esh, if_neg (by omega), if_neg (by omega), if_neg (by omega), if_pos h, ha, hb, Int.toNat_natCast, Int.toNat_natCast, ewr_getD G n t ins ds hi, ewr_getD G n t ins ds hj]
  rfl
theorem ew_scale {G : List Gt} {n t : Nat} {ins ds : List Int} {i a : Nat} (h : (gt G i).k = 6) (ha : (gt G i).a = (a : Int)) (hi : a < i) : ew G n t ins ds i = mxl (ew G n t ins ds a) (ew G n t ins ds a) (gt G i).n 0 0 n := by
  unfold ew
  rw [esh, if_neg (by omega), if_neg (by omega), if_neg (by omega), if_neg (by omega), if_pos h, ha, Int.toNat_natCast, ewr_getD G n t ins ds hi]
  rfl
theorem ew_mul {G : List Gt} {n t : Nat} {ins ds : List Int} {i a b : Nat} (h : (gt G i).k = 5) (ha : (gt G i).a = (a : Int)) (hi : a < i) (hb : (gt G i).b = (b : Int)) (hj : b < i) : ew G n t ins ds i = tmO t (ew G n t ins ds a) (ew G n t ins ds b) (edr G n t ds i (n * t)) n n := by
  unfold ew
  rw [esh, if_neg (by omega), if_neg (by omega), if_neg (by omega), if_neg (by omega), if_neg (by omega), ha, hb, Int.toNat_natCast, Int.toNat_natCast, ewr_getD G n t ins ds hi, ewr_getD G n t ins ds hj]
  rfl
/-- Numbers that a polynomial has at the parties are those that are dealt of it. -/
theorem dl_of {P L : List Int} {n : Nat} (hl : L.length = n) (h : ∀ i, i < n → L.getD i 0 = nm (ev P ((i : Int) + 1))) : L = dl P n := by
  refine list_ext (by rw [hl, dl_len]) fun i hi => ?_
  rw [hl] at hi
  rw [h i hi, dl_getD P hi]
  rfl
/-- Each wire's numbers are shares of what the wire has. -/
theorem ew_poly {G : List Gt} {N n t : Nat} {ins ds : List Int} (hG : okG G N) (hn : 2 * t + 1 ≤ n) (hn9 : n ≤ 9) : ∀ i, i < N → ∃ P : List Int, P.length ≤ t + 1 ∧ ew G n t ins ds i = dl P n ∧ nm (ev P 0) = wi G ins i := by
  intro i
  induction i using Nat.strongRecOn with
  | _ i ih =>
    intro hi
    rcases hG i hi with ⟨h1, _, _, _⟩ | ⟨h1, _, _⟩ | ⟨h1, h2, _⟩ | ⟨h1, h2, h3, _⟩
    · refine ⟨_, ?_, ew_in h1, ?_⟩
      · unfold edr; rw [List.length_cons, List.length_take]; omega
      · rw [wi_in h1, ev, Int.zero_mul, Int.add_zero]
    · refine ⟨[nm (gt G i).n], by simp, ?_, ?_⟩
      · rw [ew_const h1]
        refine dl_of (by simp) fun j hj => ?_
        rw [ev, ev, Int.mul_zero, Int.add_zero, nm_nm]
        simp [hj]
      · rw [wi_const h1, ev, Int.zero_mul, Int.add_zero, nm_nm]
    · obtain ⟨a, ha⟩ : ∃ a : Nat, (gt G i).a = a := ⟨(gt G i).a.toNat, by omega⟩
      obtain ⟨A, a1, a2, a3⟩ := ih a (by omega) (by omega)
      obtain ⟨P, p1, p2, p3⟩ := mxl_dealt (A := A) (B := A) (a := (gt G i).n) (b := 0) (c := 0) (n := n) a1 a1
      rw [← a2] at p2
      refine ⟨P, p1, ?_, ?_⟩
      · rw [ew_scale h1 ha (by omega)]
        exact dl_of (mxl_len _ _ _ _ _ _) p2
      · rw [p3, wi_scale h1 ha (by omega), Int.zero_mul, Int.add_zero, Int.add_zero, Int.mul_comm, ← a3, nm_mull]
    · obtain ⟨a, ha⟩ : ∃ a : Nat, (gt G i).a = a := ⟨(gt G i).a.toNat, by omega⟩
      obtain ⟨b, hb⟩ : ∃ b : Nat, (gt G i).b = b := ⟨(gt G i).b.toNat, by omega⟩
      obtain ⟨A, a1, a2, a3⟩ := ih a (by omega) (by omega)
      obtain ⟨B, b1, b2, b3⟩ := ih b (by omega) (by omega)
      rcases h1 with h1 | h1 | h1
      · obtain ⟨P, p1, p2, p3⟩ := mxl_dealt (A := A) (B := B) (a := 1) (b := 1) (c := 0) (n := n) a1 b1
        rw [← a2, ← b2] at p2
        refine ⟨P, p1, ?_, ?_⟩
        · rw [ew_add h1 ha (by omega) hb (by omega)]
          exact dl_of (mxl_len _ _ _ _ _ _) p2
        · rw [p3, wi_add h1 ha (by omega) hb (by omega), ← a3, ← b3]
          unfold nm
          omega
      · obtain ⟨P, p1, p2, p3⟩ := mxl_dealt (A := A) (B := B) (a := 1) (b := 2147483646) (c := 0) (n := n) a1 b1
        rw [← a2, ← b2] at p2
        refine ⟨P, p1, ?_, ?_⟩
        · rw [ew_sub h1 ha (by omega) hb (by omega)]
          exact dl_of (mxl_len _ _ _ _ _ _) p2
        · rw [p3, wi_sub h1 ha (by omega) hb (by omega), ← a3, ← b3]
          unfold nm
          omega
      · obtain ⟨P, p1, p2, p3⟩ := times_dealt (t := t) (n := n) (A := A) (B := B) (ds := edr G n t ds i (n * t)) a1 b1 hn hn9
        rw [← a2, ← b2] at p2
        refine ⟨P, p1, ?_, ?_⟩
        · rw [ew_mul h1 ha (by omega) hb (by omega)]
          refine dl_of (tmO_len _ _ _ _ _ _) fun j hj => ?_
          rw [tmO_getD _ _ _ _ _ hj]
          exact p2 j hj
        · rw [p3, wi_mul h1 ha (by omega) hb (by omega), ← a3, ← b3, nm_mull, nm_mulr]
/-- What party j sees of gate i. -/
def esn (G : List Gt) (n t : Nat) (ins ds : List Int) (i j : Nat) : List Int :=
  if (gt G i).k = 1 then [(ew G n t ins ds i).getD j 0]
  else if (gt G i).k = 5 then tmR t (ew G n t ins ds (gt G i).a.toNat) (ew G n t ins ds (gt G i).b.toNat) (edr G n t ds i (n * t)) n j
  else []
/-- .. of the first i gates. -/
def sng (G : List Gt) (n t : Nat) (ins ds : List Int) (i j : Nat) : List Int := (List.range i).flatMap fun p => esn G n t ins ds p j
theorem sng_succ (G : List Gt) (n t : Nat) (ins ds : List Int) (i j : Nat) : sng G n t ins ds (i + 1) j = sng G n t ins ds i j ++ esn G n t ins ds i j := by simp [sng, List.range_succ]
/-- .. and of the first q outs. -/
def sno (G : List Gt) (O : List Int) (n t : Nat) (ins ds : List Int) (N q j : Nat) : List Int := sng G n t ins ds N j ++ (List.range q).flatMap fun o => ew G n t ins ds (O.getD o 0).toNat
theorem sno_succ (G : List Gt) (O : List Int) (n t : Nat) (ins ds : List Int) (N q j : Nat) : sno G O n t ins ds N (q + 1) j = sno G O n t ins ds N q j ++ ew G n t ins ds (O.getD q 0).toNat := by simp [sno, List.range_succ]
/-- What all parties have seen. -/
def snl (G : List Gt) (O : List Int) (n t : Nat) (ins ds : List Int) (N m : Nat) : List (List Int) := (List.range n).map fun j => sno G O n t ins ds N m j
theorem snl_len (G : List Gt) (O : List Int) (n t : Nat) (ins ds : List Int) (N m : Nat) : (snl G O n t ins ds N m).length = n := by simp [snl]
theorem snl_getD (G : List Gt) (O : List Int) (n t : Nat) (ins ds : List Int) (N m : Nat) {j : Nat} (h : j < n) : (snl G O n t ins ds N m).getD j [] = sno G O n t ins ds N m j := by simp [snl, h]
theorem esn_bd (G : List Gt) (n t : Nat) (ins ds : List Int) (i : Nat) {j : Nat} (hj : j < n) : ∀ z ∈ esn G n t ins ds i j, 0 ≤ z ∧ z ≤ 2147483646 := by
  unfold esn
  split
  · intro z hz
    obtain rfl := List.mem_singleton.1 hz
    refine ew_bd G n t ins ds i _ ?_
    rw [List.getD_eq_getElem?_getD, List.getElem?_eq_getElem (by rw [ew_len]; exact hj)]
    exact List.getElem_mem _
  · split
    · exact tmR_bd _ _ _ _ _ _
    · intro z hz; simp at hz
theorem sno_bd (G : List Gt) (O : List Int) (n t : Nat) (ins ds : List Int) (N q : Nat) {j : Nat} (hj : j < n) : ∀ z ∈ sno G O n t ins ds N q j, 0 ≤ z ∧ z ≤ 2147483646 := by
  intro z hz
  rcases List.mem_append.1 hz with hz | hz
  · obtain ⟨i, _, hi⟩ := List.mem_flatMap.1 hz
    exact esn_bd G n t ins ds i hj z hi
  · obtain ⟨i, _, hi⟩ := List.mem_flatMap.1 hz
    exact ew_bd _ _ _ _ _ _ z hi
/-- As many numbers are seen by each party, whatever was drawn. -/
theorem esn_len (G : List Gt) (n t : Nat) (ins ds es : List Int) (i j k : Nat) : (esn G n t ins ds i j).length = (esn G n t ins es i k).length := by
  unfold esn
  split
  · rfl
  · split
    · rw [tmR_len, tmR_len]
    · rfl
theorem sno_len (G : List Gt) (O : List Int) (n t : Nat) (ins ds es : List Int) (N q j k : Nat) : (sno G O n t ins ds N q j).length = (sno G O n t ins es N q k).length := by
  unfold sno sng
  rw [List.length_append, List.length_append, List.length_flatMap, List.length_flatMap, List.length_flatMap, List.length_flatMap]
  congr 1
  · congr 1
    exact List.map_congr_left fun i _ => esn_len G n t ins ds es i j k
  · congr 1
    exact List.map_congr_left fun i _ => by rw [ew_len, ew_len]
/-- Who may run a circuit. -/
def okc (G : List Gt) (N : Nat) (n t : Int) : Prop := (0 ≤ t ∧ t ≤ 4) ∧ (1 ≤ n ∧ n ≤ 9) ∧ 2 * t + 1 ≤ n ∧ ∀ x ∈ whl G N, x ≤ n
/-- What Need tells. -/
def Nde (G : List Gt) (O : List Int) (N m : Nat) (n t r : Int) : Prop := (r ≠ 0 ∧ Cke G O N m r) ∨ (Cke G O N m 0 ∧ ((¬ okc G N n t ∧ r = 1) ∨ (okc G N n t ∧ r = 0)))
theorem Nde.one {G : List Gt} {O : List Int} {N m : Nat} {n t r s : Int} (h : Nde G O N m n t r) (k : Nde G O N m n t s) : r = s := by
  rcases h with ⟨h1, h2⟩ | ⟨h1, ⟨h2, rfl⟩ | ⟨h2, rfl⟩⟩ <;> rcases k with ⟨k1, k2⟩ | ⟨k1, ⟨k2, rfl⟩ | ⟨k2, rfl⟩⟩
  all_goals first
    | rfl
    | exact h2.one k2
    | exact absurd (h2.one k1) h1
    | exact absurd (k2.one h1) k1
    | exact absurd k2 h2
    | exact absurd h2 k2
theorem Nde.ok {G : List Gt} {O : List Int} {N m : Nat} {n t : Int} (h : Nde G O N m n t 0) : Cke G O N m 0 ∧ okc G N n t := by
  rcases h with ⟨h1, _⟩ | ⟨h1, ⟨_, h2⟩ | ⟨h2, _⟩⟩
  · exact absurd rfl h1
  · omega
  · exact ⟨h1, h2⟩
/-- What is wrong with a run. -/
def Ere (G : List Gt) (O : List Int) (N m : Nat) (n t : Int) (q d : Nat) (r : Int) : Prop :=
  (r ≠ 0 ∧ Nde G O N m n t r) ∨ (Nde G O N m n t 0 ∧ ((q ≠ ci G N ∧ r = 5) ∨ (q = ci G N ∧ ((d ≠ dwn G n.toNat t.toNat N ∧ r = 1) ∨ (d = dwn G n.toNat t.toNat N ∧ r = 0)))))
theorem Ere.one {G : List Gt} {O : List Int} {N m : Nat} {n t : Int} {q d : Nat} {r s : Int} (h : Ere G O N m n t q d r) (k : Ere G O N m n t q d s) : r = s := by
  rcases h with ⟨h1, h2⟩ | ⟨h1, ⟨h2, rfl⟩ | ⟨h2, ⟨h3, rfl⟩ | ⟨h3, rfl⟩⟩⟩ <;> rcases k with ⟨k1, k2⟩ | ⟨k1, ⟨k2, rfl⟩ | ⟨k2, ⟨k3, rfl⟩ | ⟨k3, rfl⟩⟩⟩
  all_goals first
    | rfl
    | exact h2.one k2
    | exact absurd (h2.one k1) h1
    | exact absurd (k2.one h1) k1
    | exact absurd k2 h2
    | exact absurd h2 k2
    | exact absurd k3 h3
    | exact absurd h3 k3
end
section
open Crm Go.RowKit
theorem wrap_i64 {x : Int} (h0 : -1000000 ≤ x) (h1 : x ≤ 1000000) : IntKind.i64.wrap x = x := by
  unfold IntKind.wrap
  simp [IntKind.signed, IntKind.bits]
  omega
/-- Rows that lie elsewhere. -/
def Far (L : List Value) (n lo hi : Nat) : Prop := ∀ p, p < n → ∀ gg, (L.getD p (.slice none 0 0)).ownBlock = some gg → gg < lo ∨ hi ≤ gg
/-- append of a list that is read to a slice that the call itself gathers, a step of a region that draws; where it lies. -/
theorem step_appM {P : Program} {T E : TypeId} (hT : P.underlying T = some (.slice E)) (info : (P.info? E).map (fun i => (i.zero, i.size, i.bytes)) = some (some (.int .u64 0), 1, 8))
    (w : World) {ops : Array Oper} {o : Oper} {a : Act} {K : Act → World → Prop} {Q : Exit → Act → World → Prop} {F : Prop} (hgd : o.guard = none) (s x : Operand)
    (ho : o.op = .call { callee := .builtin .append, args := #[s, x], argTypes := #[T, T] })
    (base : Nat) (v : Value) (n : Nat) (xs : List Int) (hs : a.eval s = v) (hown : w.ownsRow base E 1 v n (xs.map (Value.int .u64))) (b o2 m c : Nat) (ys : List Int) (hr : Rd w (some ⟨b, o2, none⟩) m c ys) (hx : a.eval x = .slice (some ⟨b, o2, none⟩) m c)
    (hm : 0 < m) (hn : n + m ≤ 1000000) (hbase : base ≤ w.heap.size)
    (h : ∀ g cap w', w'.ownsRow base E 1 (.slice (some ⟨g, 0, none⟩) (n + m) cap) (n + m) ((xs ++ ys).map (Value.int .u64)) → w.grownBy w' v.ownBlock → ((Value.slice (some ⟨g, 0, none⟩) (n + m) cap).ownBlock = v.ownBlock ∨ ∃ k, (Value.slice (some ⟨g, 0, none⟩) (n + m) cap).ownBlock = some k ∧ w.heap.size ≤ k) → K (a.put o.dst (.slice (some ⟨g, 0, none⟩) (n + m) cap)) w') :
    if Region.wanted o (yielded ops a.tmps) = true then Oper.wp P o a w K Q else F := by
  obtain ⟨i0, hi, hz0, hz1, hz2⟩ := info_parts info
  have hyl := hr.len
  refine step_append_lies _ hgd s x T ho base E i0 (.int .u64 0) 1 8 hT hi hz0 hz1 hz2 rfl (by decide) v n _ hs hown ⟨b, o2, none⟩ m c (ys.map (Value.int .u64)) hx (by simp [hyl]) ?_ ?_ hm (by unfold maxLen; omega) (by omega) hbase _ rfl ?_
  · intro j u hj
    have hjm : j < m := by
      have := (List.getElem?_eq_some_iff.1 hj).1
      simp at this
      omega
    rw [hr.cell _ rfl j hjm]
    rw [List.getElem?_map, List.getElem?_eq_getElem (by omega)] at hj
    simp only [Option.map_some, Option.some.injEq] at hj
    rw [← hj, List.getD_eq_getElem?_getD, List.getElem?_eq_getElem (by omega)]
    rfl
  · intro u hu
    obtain ⟨z, _, rfl⟩ := List.mem_map.1 hu
    rfl
  · intro g cap w' hown' hgrow h4 _
    refine h g cap w' (by rw [List.map_append]; exact hown') hgrow ?_
    rcases h4 with e | e
    · exact .inl (by rw [e]; rfl)
    · exact .inr ⟨g, rfl, by omega⟩
/-- What is gathered: what each party has seen, and the wires; what was made between lo and hi lies apart from what is seen. -/
structure Sen (w wr : World) (gs n : Nat) (Ls : List Value) (S : List (List Int)) (vW : Value) (LW : List Value) (W : List (List Int)) (lo hi : Nat) : Prop where
  seen : LsV wr w.heap.size (.slice (some ⟨gs, 0, none⟩) n n) Ls S
  len : S.length = n
  wires : LsV wr w.heap.size vW LW W
  apt : Apt Ls LW
  out : vW.ownBlock ≠ some gs
  far : Far Ls n lo hi
  gl : gs < lo
  hi : hi ≤ wr.heap.size
  bel : Below w.heap.size w wr
theorem Sen.drew {w wr : World} {gs n : Nat} {Ls : List Value} {S : List (List Int)} {vW : Value} {LW : List Value} {W : List (List Int)} {lo hi : Nat} (h : Sen w wr gs n Ls S vW LW W lo hi) : Sen w wr.drew gs n Ls S vW LW W lo hi :=
  ⟨h.seen.drew, h.len, h.wires.drew, h.apt, h.out, h.far, h.gl, h.hi, h.bel.drew⟩
theorem Sen.below {w wr w' : World} {gs n : Nat} {Ls : List Value} {S : List (List Int)} {vW : Value} {LW : List Value} {W : List (List Int)} {lo hi : Nat} (h : Sen w wr gs n Ls S vW LW W lo hi) (hb : Below wr.heap.size wr w') : Sen w w' gs n Ls S vW LW W lo hi :=
  ⟨h.seen.below hb, h.len, h.wires.below hb, h.apt, h.out, h.far, h.gl, Nat.le_trans h.hi hb.size, h.bel.trans (hb.mono h.bel.size)⟩
/-- A row of the call's that was made between lo and hi stays while what is seen grows. -/
def Btw (lo hi : Nat) (v : Value) : Prop := ∀ b, v.ownBlock = some b → lo ≤ b ∧ b < hi
/-- What party j has seen grows. -/
theorem Sen.put {w wr w7 : World} {gs n j : Nat} {Ls : List Value} {S : List (List Int)} {vW v7 : Value} {LW : List Value} {W : List (List Int)} {lo hi : Nat} {row : List Int} (h : Sen w wr gs n Ls S vW LW W lo hi) (hj : j < n)
    (ho : w7.ownsRow w.heap.size 37 1 v7 row.length (row.map (Value.int .u64))) (hg : wr.grownBy w7 (Ls.getD j (.slice none 0 0)).ownBlock) (hat : v7.ownBlock = (Ls.getD j (.slice none 0 0)).ownBlock ∨ ∃ k, v7.ownBlock = some k ∧ wr.heap.size ≤ k) :
    Sen w (w7.setCell ⟨gs, j, none⟩ v7) gs n (Ls.set j v7) (S.set j row) vW LW W lo hi := by
  have hrow := h.seen.row j (by rw [h.len]; exact hj)
  have hE : (37 : TypeId) ≠ 34 := by decide
  have hg2 : w7.grownBy (w7.setCell ⟨gs, j, none⟩ v7) (some gs) := grown_set _ _ _ _
  have hgs := (h.seen.cell h.len hj).2.2
  have hLl : j < Ls.length := by rw [h.seen.len, h.len]; exact hj
  have hWb := h.wires.blk
  have hW7 : LsV w7 w.heap.size vW LW W := h.wires.grown hg (own_apart hrow h.wires.own hE) (fun i _ => h.apt.symm i j)
  have hW8 : LsV (w7.setCell ⟨gs, j, none⟩ v7) w.heap.size vW LW W := by
    refine hW7.grown hg2 (.inr h.out) (fun i hi => ?_)
    have ho7 := h.seen.own.kept hg (own_apart hrow h.seen.own hE)
    exact own_apart ho7 (hW7.row i hi) (by decide)
  refine ⟨h.seen.upd h.len hj ho hg hat, by rw [List.length_set]; exact h.len, hW8, h.apt.set hLl (H := wr.heap.size) (fun i k hk => (hWb i k hk).2) hat, h.out, fun p hp gg hgg => ?_, h.gl, ?_, ?_⟩
  · rw [getD_setV _ _ _ _ _ hLl] at hgg
    split at hgg
    · rcases hat with e | ⟨k, e, hk⟩
      · rw [e] at hgg
        exact h.far j hj gg hgg
      · rw [e] at hgg
        obtain rfl := Option.some.inj hgg
        right
        exact Nat.le_trans h.hi hk
    · exact h.far p hp gg hgg
  · exact Nat.le_trans h.hi (Nat.le_trans hg.size hg2.size)
  · have hb7 : Below w.heap.size w w7 := h.bel.grown hg h.bel.size (fun q hq => (hrow.lt q hq).1)
    exact hb7.setCell (p := ⟨gs, j, none⟩) (h.seen.own.lt gs rfl).1 _
theorem Sen.keep {w wr w7 : World} {gs n j : Nat} {Ls : List Value} {S : List (List Int)} {vW v7 : Value} {LW : List Value} {W : List (List Int)} {lo hi B2 k z : Nat} {E : TypeId} {v : Value} {xs : List Value} (h : Sen w wr gs n Ls S vW LW W lo hi) (hj : j < n)
    (hx : wr.ownsRow B2 E z v k xs) (hv : Btw lo hi v) (hg : wr.grownBy w7 (Ls.getD j (.slice none 0 0)).ownBlock) : (w7.setCell ⟨gs, j, none⟩ v7).ownsRow B2 E z v k xs := by
  have h1 : v.ownBlock = none ∨ v.ownBlock ≠ (Ls.getD j (.slice none 0 0)).ownBlock := by
    cases hb : v.ownBlock with
    | none => exact .inl rfl
    | some b =>
      right
      intro e
      have h2 := hv b hb
      have h3 := h.far j hj b e.symm
      omega
  refine (hx.kept hg h1).kept (grown_set _ _ _ _) ?_
  cases hb : v.ownBlock with
  | none => exact .inl rfl
  | some b =>
    right
    intro e
    have h2 := hv b hb
    have h3 := h.gl
    have := Option.some.inj e
    omega
/-- Rows of which the first q are longer. -/
def sgx (S : Nat → List Int) (X : Nat → List Int) (n q : Nat) : List (List Int) := (List.range n).map fun p => if p < q then S p ++ X p else S p
theorem sgx_len (S X : Nat → List Int) (n q : Nat) : (sgx S X n q).length = n := by simp [sgx]
theorem sgx_zero (S X : Nat → List Int) (n : Nat) : sgx S X n 0 = (List.range n).map S := by simp [sgx]
theorem sgx_full (S X : Nat → List Int) (n : Nat) : sgx S X n n = (List.range n).map fun p => S p ++ X p := by
  unfold sgx
  refine List.map_congr_left fun p hp => ?_
  rw [if_pos (List.mem_range.1 hp)]
theorem sgx_getD (S X : Nat → List Int) {n q : Nat} (h : q < n) : (sgx S X n q).getD q [] = S q := by simp [sgx, h]
theorem sgx_set (S X : Nat → List Int) (n q : Nat) : (sgx S X n q).set q (S q ++ X q) = sgx S X n (q + 1) := by
  apply List.ext_getElem?
  intro p
  rw [List.getElem?_set]
  by_cases hp : p < n
  · by_cases e : q = p
    · subst e; simp [sgx, hp]
    · have : (p < q + 1) = (p < q) := by apply propext; omega
      simp [sgx, hp, e, this]
  · by_cases e : q = p
    · subst e; simp [sgx, hp]
    · simp [sgx, hp, e]
/-- What Need answers. -/
def Enn (G : List Gt) (O : List Int) (N m : Nat) (n t : Int) (w : World) (e : Ending) (w' : World) : Prop :=
  ((∃ r, r ≠ 0 ∧ Nde G O N m n t r ∧ e = .returned (.tuple #[.int .i64 0, .int .i64 r])) ∨
   (Nde G O N m n t 0 ∧ e = .returned (.tuple #[.int .i64 (dwn G n.toNat t.toNat N : Int), .int .i64 0]))) ∧ Below w.heap.size w w'
/-- What Run answers. -/
def Enr (G : List Gt) (O ins ds : List Int) (N m : Nat) (n t : Int) (q d : Nat) (w : World) (e : Ending) (w' : World) : Prop :=
  ((∃ r, r ≠ 0 ∧ Ere G O N m n t q d r ∧ e = .returned (.tuple #[.slice none 0 0, .slice none 0 0, .int .i64 r])) ∨
   (Ere G O N m n t q d 0 ∧ ∃ a c b k, e = .returned (.tuple #[.slice a m c, .slice b n.toNat k, .int .i64 0]) ∧ Rd w' a m c (otl G O ins m) ∧ RdR w' b n.toNat k (snl G O n.toNat t.toNat ins ds N m))) ∧ Below w.heap.size w w'
theorem Ere.ok {G : List Gt} {O : List Int} {N m : Nat} {n t : Int} {q d : Nat} (h : Ere G O N m n t q d 0) : Nde G O N m n t 0 ∧ q = ci G N ∧ d = dwn G n.toNat t.toNat N := by
  rcases h with ⟨h1, _⟩ | ⟨h1, ⟨_, h2⟩ | ⟨h2, ⟨_, h3⟩ | ⟨h3, _⟩⟩⟩
  · exact absurd rfl h1
  · omega
  · omega
  · exact ⟨h1, h2, h3⟩
/-- What was seen is read. -/
theorem snl_rd {w : World} {B : Nat} {u : Value} {L : List Value} {G : List Gt} {O : List Int} {n t : Nat} {ins ds : List Int} {N m : Nat} (h : LsV w B u L (snl G O n t ins ds N m)) : ∃ a c, u = .slice a n c ∧ RdR w a n c (snl G O n t ins ds N m) :=
  h.rdR (snl_len _ _ _ _ _ _ _ _) fun i hi x hx => by
    rw [snl_getD _ _ _ _ _ _ _ _ hi] at hx
    have := sno_bd _ _ _ _ _ _ _ _ hi x hx
    omega
/-- Wires that may be. -/
def Wr1 (n : Nat) : Prop := 1 ≤ n ∧ n ≤ 9
def Wr2 (n m : Nat) : Prop := (1 ≤ n ∧ n ≤ 9) ∧ m = n
theorem wk_one (n : Nat) : Wk [n] 1 ↔ Wr1 n := by
  unfold Wk Wr1
  constructor
  · intro h; exact h.1
  · intro h
    refine ⟨h, fun i hi => ?_⟩
    obtain rfl : i = 0 := by omega
    rfl
theorem wk_two (n m : Nat) : Wk [n, m] 2 ↔ Wr2 n m := by
  unfold Wk Wr2
  constructor
  · intro h; exact ⟨h.1, h.2 1 (by omega)⟩
  · intro h
    refine ⟨h.1, fun i hi => ?_⟩
    match i, hi with
    | 0, _ => rfl
    | 1, _ => exact h.2
theorem len_two {n m : Nat} (h0 : n ≤ 9223372036854775807) (h1 : m ≤ 9223372036854775807) : ∀ i, [n, m].getD i 0 ≤ 9223372036854775807
  | 0 => h0
  | 1 => h1
  | i + 2 => by simp
theorem len_one {n : Nat} (h0 : n ≤ 9223372036854775807) : ∀ i, [n].getD i 0 ≤ 9223372036854775807
  | 0 => h0
  | i + 1 => by simp
/-- What Add, Sub, Scale, Plus answer. -/
def Gts (ok : Prop) (L : List Int) (n : Nat) (w : World) (e : Ending) (w' : World) : Prop :=
  ((¬ ok ∧ e = .returned (.tuple #[.slice none 0 0, .int .i64 5])) ∨ (ok ∧ ∃ v, e = .returned (.tuple #[v, .int .i64 0]) ∧ w'.ownsRow w.heap.size 37 1 v n (L.map (Value.int .u64)))) ∧ Below w.heap.size w w'
/-- What is wrong with what is multiplied. -/
def Gme (t : Int) (n m q : Nat) (r : Int) : Prop :=
  ((t < 0 ∨ 4 < t) ∧ r = 1) ∨ ((0 ≤ t ∧ t ≤ 4) ∧ ((¬ Wr2 n m ∧ r = 5) ∨ (Wr2 n m ∧ (((n : Int) < 2 * t + 1 ∧ r = 4) ∨ (2 * t + 1 ≤ (n : Int) ∧ (((q : Int) ≠ (n : Int) * t ∧ r = 1) ∨ ((q : Int) = (n : Int) * t ∧ r = 0)))))))
theorem Gme.one {t : Int} {n m q : Nat} {r s : Int} (h : Gme t n m q r) (k : Gme t n m q s) : r = s := by
  rcases h with ⟨h1, rfl⟩ | ⟨h1, h2⟩ <;> rcases k with ⟨k1, rfl⟩ | ⟨k1, k2⟩
  · rfl
  · exfalso; omega
  · exfalso; omega
  · rcases h2 with ⟨h2, rfl⟩ | ⟨h2, h3⟩ <;> rcases k2 with ⟨k2, rfl⟩ | ⟨k2, k3⟩
    · rfl
    · exact absurd k2 h2
    · exact absurd h2 k2
    · rcases h3 with ⟨h3, rfl⟩ | ⟨h3, ⟨h4, rfl⟩ | ⟨h4, rfl⟩⟩ <;> rcases k3 with ⟨k3, rfl⟩ | ⟨k3, ⟨k4, rfl⟩ | ⟨k4, rfl⟩⟩
      all_goals first
        | rfl
        | (exfalso; omega)
        | exact absurd k4 h4
        | exact absurd h4 k4
theorem Gme.ok {t : Int} {n m q : Nat} (h : Gme t n m q 0) : ∃ k : Nat, t = (k : Int) ∧ k ≤ 4 ∧ 1 ≤ n ∧ n ≤ 9 ∧ m = n ∧ 2 * k + 1 ≤ n ∧ q = n * k := by
  rcases h with ⟨_, h⟩ | ⟨h1, ⟨_, h⟩ | ⟨h2, ⟨_, h⟩ | ⟨h3, ⟨_, h⟩ | ⟨h4, _⟩⟩⟩⟩
  · omega
  · omega
  · omega
  · omega
  · obtain ⟨k, rfl⟩ : ∃ k : Nat, t = k := ⟨t.toNat, by omega⟩
    refine ⟨k, rfl, by omega, h2.1.1, h2.1.2, h2.2, by omega, ?_⟩
    have : ((q : Nat) : Int) = ((n * k : Nat) : Int) := by rw [h4]; push_cast; rfl
    omega
/-- What Mul answers. -/
def Gtm (t : Int) (xs ys ds : List Int) (n m q : Nat) (w : World) (e : Ending) (w' : World) : Prop :=
  ((∃ r, r ≠ 0 ∧ Gme t n m q r ∧ e = .returned (.tuple #[.slice none 0 0, .slice none 0 0, .int .i64 r])) ∨
   (Gme t n m q 0 ∧ ∃ v u L, e = .returned (.tuple #[v, u, .int .i64 0]) ∧ w'.ownsRow w.heap.size 37 1 v n ((tmO t.toNat xs ys ds n n).map (Value.int .u64)) ∧ LsV w' w.heap.size u L (tmG t.toNat xs ys ds n))) ∧ Below w.heap.size w w'
theorem own_set2 {w : World} {B n c g : Nat} {E : TypeId} {xs : List Value} (h : w.ownsRow B E 2 (.slice (some ⟨g, 0, none⟩) n c) n xs) (i : Nat) (u : Value) : (w.setCell ⟨g, i, none⟩ u).ownsRow B E 2 (.slice (some ⟨g, 0, none⟩) n c) n (xs.set i u) := by
  refine ⟨by rw [List.length_set]; exact h.1, .inr ?_⟩
  rcases h.2 with ⟨e, _⟩ | ⟨g', cap, cur, e, hb, hg, h1, h2, hs, ht⟩
  · simp at e
  · simp only [Value.slice.injEq, Option.some.injEq, Addr.mk.injEq, and_true, true_and] at e
    obtain ⟨rfl, rfl⟩ := e
    refine ⟨g, c, _, rfl, hb, heap_setCell_same w g i _ _ _ hg, h1, h2, by simpa using hs, ?_⟩
    rw [← ht]
    simp [List.take_set]
theorem own_frozen2 {w : World} {B n c g : Nat} {E : TypeId} {xs : List Value} (h : w.ownsRow B E 2 (.slice (some ⟨g, 0, none⟩) n c) n xs) (i : Nat) : w.frozen? ⟨g, i, none⟩ = false := by
  rcases h.2 with ⟨e, _⟩ | ⟨g', cap, cur, e, hb, hg, _⟩
  · simp at e
  · simp only [Value.slice.injEq, Option.some.injEq, Addr.mk.injEq, and_true, true_and] at e
    obtain ⟨rfl, rfl⟩ := e
    exact frozen_of_row w g i _ _ hg
/-- Its address, where there is a share. -/
theorem own_at2 {w : World} {base n : Nat} {E : TypeId} {v : Value} {xs : List Value} (h : w.ownsRow base E 2 v n xs) (hn : 0 < n) : ∃ g c, v = .slice (some ⟨g, 0, none⟩) n c ∧ base ≤ g ∧ g < w.heap.size ∧ n ≤ c ∧ c ≤ maxLen := by
  rcases h.2 with ⟨_, rfl⟩ | ⟨g, cap, cur, rfl, hb, hg, h1, h2, _⟩
  · omega
  · exact ⟨g, cap, rfl, hb, (Array.getElem?_eq_some_iff.1 hg).1, h1, h2⟩
theorem sh_cell {w : World} {base n c g : Nat} {E : TypeId} {l : List (Int × Int)} (h : w.ownsRow base E 2 (.slice (some ⟨g, 0, none⟩) n c) n (shc l)) (hl : l.length = n) {k : Nat} (hk : k < n) :
    w.cell? ⟨g, k * 2, none⟩ = some (.int .i64 (l.getD k (0, 0)).1) ∧ w.cell? ⟨g, k * 2 + 1, none⟩ = some (.int .u64 (l.getD k (0, 0)).2) := by
  have h1 := shc_get l k (by omega)
  have a1 := h.cells (g := g) rfl _ _ h1.1
  have a2 := h.cells (g := g) rfl _ _ h1.2
  rw [Addr.add_lit] at a1 a2
  exact ⟨by simpa using a1, by simpa using a2⟩
end
section
open Crm
/-- What a right circuit lets be known. -/
theorem Nde.facts {G : List Gt} {O : List Int} {N m : Nat} {n t : Int} (h : Nde G O N m n t 0) : Cke G O N m 0 ∧ ∃ n' t' : Nat, n = n' ∧ t = t' ∧ 2 * t' + 1 ≤ n' ∧ n' ≤ 9 ∧ t' ≤ 4 := by
  obtain ⟨c1, o1, o2, o3, _⟩ := h.ok
  exact ⟨c1, n.toNat, t.toNat, by omega, by omega, by omega, by omega, by omega⟩
end
end Go.Proofs.YtljlioglpaogdafDoor
