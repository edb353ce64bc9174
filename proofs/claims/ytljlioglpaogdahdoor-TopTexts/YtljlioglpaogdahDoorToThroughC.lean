/- Any shares of a dealing, and their weights: plain facts. · Reckoning with shares: plain facts. · Parties that reckon together: plain facts. · Slices of rows of numbers that are read. · Lists of rows of numbers, each row the call's own, no two of them one. · Two lists of rows, all rows of both the call's own, no two of them one. · poly.Through. -/
import Derived.Test.YtljlioglpaogdahDoorToCrewC
import Derived.Test.YtljlioglpaogdahDoorGaussM
import Derived.Test.YtljlioglpaogdahDoorToGatesR
import Derived.Test.YtljlioglpaogdahDoorSlice
import Derived.Test.YtljlioglpaogdahDoorToReadP
import Derived.Deep.AppendLies
import Derived.Deep.RegionLaw
import Derived.Test.YtljlioglpaogdahDoorToRNumC
import Derived.Test.YtljlioglpaogdahDoorToWhoseC
import Derived.Deep.QuietTactic
import Derived.BigQuiet
namespace Go.Proofs.YtljlioglpaogdahDoor
set_option linter.unusedVariables false
set_option maxRecDepth 100000
set_option maxHeartbeats 8000000
section
open Crm
/-- The weights make of the values the value at 0. -/
theorem sum_wt {ts C : List Int} {K : Nat} (hd : dis (fi ts) K) (hC : C.length ≤ K) (y : Nat → Int) (hy : ∀ j, j < K → nm (y j) = nm (ev C (ts.getD j 0))) : nm (sm (fun i => wt ts K i * y i) K) = nm (ev C 0) := by
  have main : ∀ k, k ≤ K → ∃ R : List Int, R.length ≤ K ∧ (∀ j, j < K → nm (ev R (ts.getD j 0)) = if j < k then nm (y j) else 0) ∧ nm (ev R 0) = nm (sm (fun i => wt ts K i * y i) k) := by
    intro k
    induction k with
    | zero => exact fun _ => ⟨[], Nat.zero_le _, fun j _ => by rw [if_neg (by omega)]; rfl, rfl⟩
    | succ k ih =>
      intro hk
      obtain ⟨R, r1, r2, r3⟩ := ih (by omega)
      obtain ⟨Q, q1, q2, q3⟩ := wt_wgt hd (show k < K by omega)
      have hev : ∀ x, nm (ev (sml R (cvl [y k] Q)) x) = nm (ev R x + y k * ev Q x) := fun x => by
        rw [sml_ev]
        refine nm_add_congr rfl ?_
        rw [cvl_ev, ev, ev, Int.mul_zero, Int.add_zero]
      refine ⟨sml R (cvl [y k] Q), ?_, fun j hj => ?_, ?_⟩
      · rw [sml_len, cvl_len, List.length_singleton]; omega
      · rw [hev]
        have h1 := q2 j hj
        have h2 := r2 j hj
        by_cases e : j = k
        · subst e
          rw [if_pos rfl] at h1
          rw [if_neg (by omega)] at h2
          rw [if_pos (by omega), nm_add_congr (c := 0) (d := y j * 1) h2 (nm_mul_congr rfl (by rw [h1]; rfl)), Int.zero_add, Int.mul_one]
        · rw [if_neg e] at h1
          rw [nm_add_congr (c := ev R (ts.getD j 0)) (d := y k * 0) rfl (nm_mul_congr rfl (by rw [h1]; rfl)), Int.mul_zero, Int.add_zero, h2]
          by_cases e2 : j < k
          · rw [if_pos e2, if_pos (by omega)]
          · rw [if_neg e2, if_neg (by omega)]
      · rw [hev, sm]
        refine nm_add_congr r3 ?_
        rw [q3, nm_mull, Int.mul_comm]
  obtain ⟨R, r1, r2, r3⟩ := main K (Nat.le_refl _)
  rw [← r3]
  have hw : ∀ j, j < K → ((List.range K).map fun k => (ts.getD k 0, y k)).getD j (0, 0) = (ts.getD j 0, y j) := fun j hj => by simp [hj]
  refine ev_one (hs_one (l := (List.range K).map fun k => (ts.getD k 0, y k)) (n := K) (fun j hj => ?_) (fun j hj => ?_) (fun j hj => ?_) r1 hC) 0
  · rw [hw j hj]
    refine ⟨⟨(hd j hj).1.1, by have := (hd j hj).1.2; unfold fi at this; simp only; omega⟩, fun q hq => ?_⟩
    rw [hw q (by omega)]
    exact (hd j hj).2 q hq
  · rw [hw j hj]
    simp only
    rw [r2 j hj, if_pos hj]
  · rw [hw j hj]
    simp only
    exact (hy j hj).symm
/-- Each party's numbers mixed: a times the one, b times the other, and c. -/
def mxl (x y : List Int) (a b c : Int) (n : Nat) : List Int := (List.range n).map fun i => nm (a * x.getD i 0 + b * y.getD i 0 + c)
theorem mxl_len (x y : List Int) (a b c : Int) (n : Nat) : (mxl x y a b c n).length = n := by simp [mxl]
theorem mxl_getD (x y : List Int) (a b c : Int) {n i : Nat} (h : i < n) : (mxl x y a b c n).getD i 0 = nm (a * x.getD i 0 + b * y.getD i 0 + c) := by simp [mxl, h]
theorem mxl_bd (x y : List Int) (a b c : Int) (n : Nat) : ∀ z ∈ mxl x y a b c n, 0 ≤ z ∧ z ≤ 2147483646 := by
  intro z hz
  obtain ⟨i, _, rfl⟩ := List.mem_map.1 hz
  exact nm_bd _
/-- The same by other ways. -/
theorem mxl_ext {x y : List Int} {a b c : Int} {n : Nat} {F : Nat → Int} (h : ∀ i, i < n → F i = nm (a * x.getD i 0 + b * y.getD i 0 + c)) : (List.range n).map F = mxl x y a b c n :=
  List.map_congr_left fun i hi => h i (List.mem_range.1 hi)

/-- The parties' numbers. -/
def pty (n : Nat) : List Int := (List.range n).map fun i : Nat => (i : Int) + 1
theorem pty_getD {n i : Nat} (h : i < n) : (pty n).getD i 0 = (i : Int) + 1 := by simp [pty, h]
theorem pty_dis {n : Nat} (h : n ≤ 9) : dis (fi (pty n)) n := fun i hi => by
  unfold fi
  rw [pty_getD hi]
  exact ⟨⟨by omega, by omega⟩, fun j hj => by rw [pty_getD (show j < n by omega)]; omega⟩

/-- What party i deals: the product of its numbers, and its draws. -/
def prC (t : Nat) (a b ds : List Int) (i : Nat) : List Int := nm (a.getD i 0 * b.getD i 0) :: (ds.drop (i * t)).take t
theorem prC_len (t : Nat) (a b ds : List Int) (i : Nat) : (prC t a b ds i).length ≤ t + 1 := by
  unfold prC; rw [List.length_cons, List.length_take]; omega
/-- What party j was dealt by the first k. -/
def tmR (t : Nat) (a b ds : List Int) (k j : Nat) : List Int := (List.range k).map fun i => dlf (prC t a b ds i) j
theorem tmR_len (t : Nat) (a b ds : List Int) (k j : Nat) : (tmR t a b ds k j).length = k := by simp [tmR]
theorem tmR_getD (t : Nat) (a b ds : List Int) {k i : Nat} (j : Nat) (h : i < k) : (tmR t a b ds k j).getD i 0 = dlf (prC t a b ds i) j := by simp [tmR, h]
theorem tmR_bd (t : Nat) (a b ds : List Int) (k j : Nat) : ∀ z ∈ tmR t a b ds k j, 0 ≤ z ∧ z ≤ 2147483646 := by
  intro z hz
  obtain ⟨i, _, rfl⟩ := List.mem_map.1 hz
  exact dlf_bd _ _
/-- What all were dealt, party by party. -/
def tmG (t : Nat) (a b ds : List Int) (n : Nat) : List (List Int) := (List.range n).map fun j => tmR t a b ds n j
theorem tmG_len (t : Nat) (a b ds : List Int) (n : Nat) : (tmG t a b ds n).length = n := by simp [tmG]
theorem tmG_getD (t : Nat) (a b ds : List Int) {n j : Nat} (h : j < n) : (tmG t a b ds n).getD j [] = tmR t a b ds n j := by simp [tmG, h]
/-- Party j's number of the product. -/
def tmf (t : Nat) (a b ds : List Int) (n j : Nat) : Int := nm (sm (fun i => wt (pty n) n i * dlf (prC t a b ds i) j) n)
def tmO (t : Nat) (a b ds : List Int) (n k : Nat) : List Int := (List.range k).map (tmf t a b ds n)
theorem tmO_len (t : Nat) (a b ds : List Int) (n k : Nat) : (tmO t a b ds n k).length = k := by simp [tmO]
theorem tmO_getD (t : Nat) (a b ds : List Int) (n : Nat) {k j : Nat} (h : j < k) : (tmO t a b ds n k).getD j 0 = tmf t a b ds n j := by simp [tmO, h]
theorem tmO_bd (t : Nat) (a b ds : List Int) (n k : Nat) : ∀ z ∈ tmO t a b ds n k, 0 ≤ z ∧ z ≤ 2147483646 := by
  intro z hz
  obtain ⟨i, _, rfl⟩ := List.mem_map.1 hz
  exact nm_bd _
/-- One polynomial of t + 1 numbers has the parties' numbers of the product. -/
theorem tm_poly (t : Nat) (a b ds : List Int) (W : Nat → Int) : ∀ k, ∃ P : List Int, P.length ≤ t + 1 ∧ ∀ x, ev P x = sm (fun i => W i * ev (prC t a b ds i) x) k
  | 0 => ⟨[], Nat.zero_le _, fun _ => rfl⟩
  | k + 1 => by
    obtain ⟨P, h1, h2⟩ := tm_poly t a b ds W k
    refine ⟨adl (W k) P (prC t a b ds k), ?_, fun x => ?_⟩
    · rw [adl_len]; have := prC_len t a b ds k; omega
    · rw [adl_ev, h2, sm]
/-- Of dealt secrets the product is dealt. -/
theorem times_dealt {t n : Nat} {A B ds : List Int} (hA : A.length ≤ t + 1) (hB : B.length ≤ t + 1) (hn : 2 * t + 1 ≤ n) (hn9 : n ≤ 9) :
    ∃ P : List Int, P.length ≤ t + 1 ∧ (∀ j, j < n → tmf t (dl A n) (dl B n) ds n j = nm (ev P ((j : Int) + 1))) ∧ nm (ev P 0) = nm (ev A 0 * ev B 0) := by
  obtain ⟨P, h1, h2⟩ := tm_poly t (dl A n) (dl B n) ds (wt (pty n) n) n
  refine ⟨P, h1, fun j _ => ?_, ?_⟩
  · unfold tmf
    rw [h2]
    refine sm_ncongr fun i hi => ?_
    unfold dlf
    rw [nm_mulr]
  · rw [h2]
    have h3 := sum_wt (pty_dis hn9) (C := cvl A B) (by rw [cvl_len]; omega) (fun i => ev (prC t (dl A n) (dl B n) ds i) 0) (fun j hj => by
      unfold prC
      rw [ev, Int.zero_mul, Int.add_zero, nm_nm, cvl_ev, dl_getD A hj, dl_getD B hj, pty_getD hj]
      unfold dlf
      exact nm_mul_congr (nm_nm _) (nm_nm _))
    rw [h3, cvl_ev]
/-- Shares of all parties' numbers are those of the polynomial that has them. -/
theorem shl_hs {C L : List Int} {n : Nat} (h : ∀ i, i < n → L.getD i 0 = nm (ev C ((i : Int) + 1))) : Hs (shl L n) n C := fun j hj => by
  rw [shl_getD L hj]
  simp only
  rw [h j hj, nm_nm]
theorem shl_dis (L : List Int) {n : Nat} (h : n ≤ 9) : dis (fa (shl L n)) n := fun i hi => by
  unfold fa
  rw [shl_getD L hi]
  exact ⟨⟨by simp only; omega, by simp only; omega⟩, fun j hj => by rw [shl_getD L (show j < n by omega)]; simp only; omega⟩
/-- What Open tells of them. -/
theorem shl_open {C L : List Int} {n t : Nat} {x r : Int} (hn : n ≤ 9) (ht : t ≤ 4) (htn : t < n) (hC : C.length ≤ t + 1) (h : ∀ i, i < n → L.getD i 0 = nm (ev C ((i : Int) + 1))) (hO : Opn (shl L n) n t x r) : x = nm (ev C 0) ∧ r = 0 :=
  any_open (shl_dis L hn) ht htn hC (shl_hs h) hO
/-- Mixed shares are shares of what is mixed. -/
theorem mxl_dealt {A B : List Int} {a b c : Int} {n t : Nat} (hA : A.length ≤ t + 1) (hB : B.length ≤ t + 1) :
    ∃ P : List Int, P.length ≤ t + 1 ∧ (∀ i, i < n → (mxl (dl A n) (dl B n) a b c n).getD i 0 = nm (ev P ((i : Int) + 1))) ∧ nm (ev P 0) = nm (a * ev A 0 + b * ev B 0 + c) := by
  have e : ∀ x, ev (adl 1 (adl b (A.map (a * ·)) B) [c]) x = a * ev A x + b * ev B x + c := fun x => by
    rw [adl_ev, adl_ev, map_ev, ev, ev, Int.mul_zero, Int.add_zero, Int.one_mul]
  refine ⟨adl 1 (adl b (A.map (a * ·)) B) [c], ?_, fun i hi => ?_, by rw [e]⟩
  · rw [adl_len, adl_len, List.length_map, List.length_singleton]; omega
  · rw [mxl_getD _ _ _ _ _ hi, dl_getD A hi, dl_getD B hi, e]
    refine nm_add_congr (nm_add_congr ?_ ?_) rfl
    · unfold dlf; rw [nm_mulr]
    · unfold dlf; rw [nm_mulr]
/-- Draws that the first i gates take. -/
def dwn (G : List Gt) (n t : Nat) : Nat → Nat
  | 0 => 0
  | i + 1 => dwn G n t i + (if (gt G i).k = 1 then t else if (gt G i).k = 5 then n * t else 0)
/-- The draws of gate i. -/
def edr (G : List Gt) (n t : Nat) (ds : List Int) (i k : Nat) : List Int := (ds.drop (dwn G n t i)).take k
/-- The parties' numbers of wire i, those of the wires ahead being W. -/
def esh (G : List Gt) (n t : Nat) (ins ds : List Int) (W : List (List Int)) (i : Nat) : List Int :=
  if (gt G i).k = 1 then dl (ins.getD (ci G i) 0 :: edr G n t ds i t) n
  else if (gt G i).k = 2 then List.replicate n (nm (gt G i).n)
  else if (gt G i).k = 3 then mxl (W.getD (gt G i).a.toNat []) (W.getD (gt G i).b.toNat []) 1 1 0 n
  else if (gt G i).k = 4 then mxl (W.getD (gt G i).a.toNat []) (W.getD (gt G i).b.toNat []) 1 2147483646 0 n
  else if (gt G i).k = 6 then mxl (W.getD (gt G i).a.toNat []) (W.getD (gt G i).a.toNat []) (gt G i).n 0 0 n
  else tmO t (W.getD (gt G i).a.toNat []) (W.getD (gt G i).b.toNat []) (edr G n t ds i (n * t)) n n
def ewr (G : List Gt) (n t : Nat) (ins ds : List Int) : Nat → List (List Int)
  | 0 => []
  | i + 1 => ewr G n t ins ds i ++ [esh G n t ins ds (ewr G n t ins ds i) i]
/-- The parties' numbers of wire i. -/
def ew (G : List Gt) (n t : Nat) (ins ds : List Int) (i : Nat) : List Int := esh G n t ins ds (ewr G n t ins ds i) i
theorem esh_len (G : List Gt) (n t : Nat) (ins ds : List Int) (W : List (List Int)) (i : Nat) : (esh G n t ins ds W i).length = n := by
  unfold esh
  repeat' split
  · exact dl_len _ _
  · simp
  · exact mxl_len _ _ _ _ _ _
  · exact mxl_len _ _ _ _ _ _
  · exact mxl_len _ _ _ _ _ _
  · exact tmO_len _ _ _ _ _ _
theorem esh_bd (G : List Gt) (n t : Nat) (ins ds : List Int) (W : List (List Int)) (i : Nat) : ∀ z ∈ esh G n t ins ds W i, 0 ≤ z ∧ z ≤ 2147483646 := by
  unfold esh
  repeat' split
  · exact dl_bd _ _
  · intro z hz; obtain rfl := List.eq_of_mem_replicate hz; exact nm_bd _
  · exact mxl_bd _ _ _ _ _ _
  · exact mxl_bd _ _ _ _ _ _
  · exact mxl_bd _ _ _ _ _ _
  · exact tmO_bd _ _ _ _ _ _
theorem ew_len (G : List Gt) (n t : Nat) (ins ds : List Int) (i : Nat) : (ew G n t ins ds i).length = n := esh_len _ _ _ _ _ _ _
theorem ew_bd (G : List Gt) (n t : Nat) (ins ds : List Int) (i : Nat) : ∀ z ∈ ew G n t ins ds i, 0 ≤ z ∧ z ≤ 2147483646 := esh_bd _ _ _ _ _ _ _
theorem ewr_len (G : List Gt) (n t : Nat) (ins ds : List Int) : ∀ i, (ewr G n t ins ds i).length = i
  | 0 => rfl
  | i + 1 => by rw [ewr, List.length_append, ewr_len G n t ins ds i]; rfl
theorem ewr_succ (G : List Gt) (n t : Nat) (ins ds : List Int) (i : Nat) : ewr G n t ins ds (i + 1) = ewr G n t ins ds i ++ [ew G n t ins ds i] := rfl
theorem ewr_getD (G : List Gt) (n t : Nat) (ins ds : List Int) {j : Nat} : ∀ {i : Nat}, j < i → (ewr G n t ins ds i).getD j [] = ew G n t ins ds j
  | 0, h => by omega
  | i + 1, h => by
    have hl := ewr_len G n t ins ds i
    rw [ewr_succ]
    by_cases e : j = i
    · subst e
      rw [List.getD_eq_getElem?_getD, List.getElem?_append_right (by omega), hl, Nat.sub_self]
      rfl
    · rw [List.getD_eq_getElem?_getD, List.getElem?_append_left (by omega), ← List.getD_eq_getElem?_getD]
      exact ewr_getD G n t ins ds (by omega)
theorem ew_in {G : List Gt} {n t : Nat} {ins ds : List Int} {i : Nat} (h : (gt G i).k = 1) : ew G n t ins ds i = dl (ins.getD (ci G i) 0 :: edr G n t ds i t) n := by unfold ew esh; rw [if_pos h]
theorem ew_const {G : List Gt} {n t : Nat} {ins ds : List Int} {i : Nat} (h : (gt G i).k = 2) : ew G n t ins ds i = List.replicate n (nm (gt G i).n) := by unfold ew esh; rw [if_neg (by omega), if_pos h]
theorem ew_add {G : List Gt} {n t : Nat} {ins ds : List Int} {i a b : Nat} (h : (gt G i).k = 3) (ha : (gt G i).a = (a : Int)) (hi : a < i) (hb : (gt G i).b = (b : Int)) (hj : b < i) : ew G n t ins ds i = mxl (ew G n t ins ds a) (ew G n t ins ds b) 1 1 0 n := by
  unfold ew
  rw [esh, if_neg (by omega), if_neg (by omega), if_pos h, ha, hb, Int.toNat_natCast, Int.toNat_natCast, ewr_getD G n t ins ds hi, ewr_getD G n t ins ds hj]
  rfl
theorem ew_sub {G : List Gt} {n t : Nat} {ins ds : List Int} {i a b : Nat} (h : (gt G i).k = 4) (ha : (gt G i).a = (a : Int)) (hi : a < i) (hb : (gt G i).b = (b : Int)) (hj : b < i) : ew G n t ins ds i = mxl (ew G n t ins ds a) (ew G n t ins ds b) 1 2147483646 0 n := by
  unfold ew
  rw [esh, if_neg (by omega), if_neg (by omega), if_neg (by omega), if_pos h, ha, hb, Int.toNat_natCast, Int.toNat_natCast, ewr_getD G n t ins ds hi, ewr_getD G n t ins ds hj]
  rfl
theorem ew_scale {G : List Gt} {n t : Nat} {ins ds : List Int} {i a : Nat} (h : (gt G i).k = 6) (ha : (gt G i).a = (a : Int)) (hi : a < i) : ew G n t ins ds i = mxl (ew G n t ins ds a) (ew G n t ins ds a) (gt G i).n 0 0 n := by
  unfold ew
  rw [esh, if_neg (by omega), if_neg (by omega), if_neg (by omega), if_neg (by omega), if_pos h, ha, Int.toNat_natCast, ewr_getD G n t ins ds hi]
  rfl
theorem ew_mul {G : List Gt} {n t : Nat} {ins ds : List Int} {i a b : Nat} (h : (gt G i).k = 5) (ha : (gt G i).a = (a : Int)) (hi : a < i) (hb : (gt G i).b = (b : Int)) (hj : b < i) : ew G n t ins ds i = tmO t (ew G n t ins ds a) (ew G n t ins ds b) (edr G n t ds i (n * t)) n n := by
  unfold ew
  rw [esh, if_neg (by omega), if_neg (by omega), if_neg (by omega), if_neg (by omega), if_neg (by omega), ha, hb, Int.toNat_natCast, Int.toNat_natCast, ewr_getD G n t ins ds hi, ewr_getD G n t ins ds hj]
  rfl
/-- Numbers that a polynomial has at the parties are those that are dealt of it. -/
theorem dl_of {P L : List Int} {n : Nat} (hl : L.length = n) (h : ∀ i, i < n → L.getD i 0 = nm (ev P ((i : Int) + 1))) : L = dl P n := by
  refine list_ext (by rw [hl, dl_len]) fun i hi => ?_
  rw [hl] at hi
  rw [h i hi, dl_getD P hi]
  rfl
/-- Each wire's numbers are shares of what the wire has. -/
theorem ew_poly {G : List Gt} {N n t : Nat} {ins ds : List Int} (hG : okG G N) (hn : 2 * t + 1 ≤ n) (hn9 : n ≤ 9) : ∀ i, i < N → ∃ P : List Int, P.length ≤ t + 1 ∧ ew G n t ins ds i = dl P n ∧ nm (ev P 0) = wi G ins i := by
  intro i
  induction i using Nat.strongRecOn with
  | _ i ih =>
    intro hi
    rcases hG i hi with ⟨h1, _, _, _⟩ | ⟨h1, _, _⟩ | ⟨h1, h2, _⟩ | ⟨h1, h2, h3, _⟩
    · refine ⟨_, ?_, ew_in h1, ?_⟩
      · unfold edr; rw [List.length_cons, List.length_take]; omega
      · rw [wi_in h1, ev, Int.zero_mul, Int.add_zero]
    · refine ⟨[nm (gt G i).n], by simp, ?_, ?_⟩
      · rw [ew_const h1]
        refine dl_of (by simp) fun j hj => ?_
        rw [ev, ev, Int.mul_zero, Int.add_zero, nm_nm]
        simp [hj]
      · rw [wi_const h1, ev, Int.zero_mul, Int.add_zero, nm_nm]
    · obtain ⟨a, ha⟩ : ∃ a : Nat, (gt G i).a = a := ⟨(gt G i).a.toNat, by omega⟩
      obtain ⟨A, a1, a2, a3⟩ := ih a (by omega) (by omega)
      obtain ⟨P, p1, p2, p3⟩ := mxl_dealt (A := A) (B := A) (a := (gt G i).n) (b := 0) (c := 0) (n := n) a1 a1
      rw [← a2] at p2
      refine ⟨P, p1, ?_, ?_⟩
      · rw [ew_scale h1 ha (by omega)]
        exact dl_of (mxl_len _ _ _ _ _ _) p2
      · rw [p3, wi_scale h1 ha (by omega), Int.zero_mul, Int.add_zero, Int.add_zero, Int.mul_comm, ← a3, nm_mull]
    · obtain ⟨a, ha⟩ : ∃ a : Nat, (gt G i).a = a := ⟨(gt G i).a.toNat, by omega⟩
      obtain ⟨b, hb⟩ : ∃ b : Nat, (gt G i).b = b := ⟨(gt G i).b.toNat, by omega⟩
      obtain ⟨A, a1, a2, a3⟩ := ih a (by omega) (by omega)
      obtain ⟨B, b1, b2, b3⟩ := ih b (by omega) (by omega)
      rcases h1 with h1 | h1 | h1
      · obtain ⟨P, p1, p2, p3⟩ := mxl_dealt (A := A) (B := B) (a := 1) (b := 1) (c := 0) (n := n) a1 b1
        rw [← a2, ← b2] at p2
        refine ⟨P, p1, ?_, ?_⟩
        · rw [ew_add h1 ha (by omega) hb (by omega)]
          exact dl_of (mxl_len _ _ _ _ _ _) p2
        · rw [p3, wi_add h1 ha (by omega) hb (by omega), ← a3, ← b3]
          unfold nm
          omega
      · obtain ⟨P, p1, p2, p3⟩ := mxl_dealt (A := A) (B := B) (a := 1) (b := 2147483646) (c := 0) (n := n) a1 b1
        rw [← a2, ← b2] at p2
        refine ⟨P, p1, ?_, ?_⟩
        · rw [ew_sub h1 ha (by omega) hb (by omega)]
          exact dl_of (mxl_len _ _ _ _ _ _) p2
        · rw [p3, wi_sub h1 ha (by omega) hb (by omega), ← a3, ← b3]
          unfold nm
          omega
      · obtain ⟨P, p1, p2, p3⟩ := times_dealt (t := t) (n := n) (A := A) (B := B) (ds := edr G n t ds i (n * t)) a1 b1 hn hn9
        rw [← a2, ← b2] at p2
        refine ⟨P, p1, ?_, ?_⟩
        · rw [ew_mul h1 ha (by omega) hb (by omega)]
          refine dl_of (tmO_len _ _ _ _ _ _) fun j hj => ?_
          rw [tmO_getD _ _ _ _ _ hj]
          exact p2 j hj
        · rw [p3, wi_mul h1 ha (by omega) hb (by omega), ← a3, ← b3, nm_mull, nm_mulr]
/-- What party j sees of gate i. -/
def esn (G : List Gt) (n t : Nat) (ins ds : List Int) (i j : Nat) : List Int :=
  if (gt G i).k = 1 then [(ew G n t ins ds i).getD j 0]
  else if (gt G i).k = 5 then tmR t (ew G n t ins ds (gt G i).a.toNat) (ew G n t ins ds (gt G i).b.toNat) (edr G n t ds i (n * t)) n j
  else []
/-- .. of the first i gates. -/
def sng (G : List Gt) (n t : Nat) (ins ds : List Int) (i j : Nat) : List Int := (List.range i).flatMap fun p => esn G n t ins ds p j
theorem sng_succ (G : List Gt) (n t : Nat) (ins ds : List Int) (i j : Nat) : sng G n t ins ds (i + 1) j = sng G n t ins ds i j ++ esn G n t ins ds i j := by simp [sng, List.range_succ]
/-- .. and of the first q outs. -/
def sno (G : List Gt) (O : List Int) (n t : Nat) (ins ds : List Int) (N q j : Nat) : List Int := sng G n t ins ds N j ++ (List.range q).flatMap fun o => ew G n t ins ds (O.getD o 0).toNat
theorem sno_succ (G : List Gt) (O : List Int) (n t : Nat) (ins ds : List Int) (N q j : Nat) : sno G O n t ins ds N (q + 1) j = sno G O n t ins ds N q j ++ ew G n t ins ds (O.getD q 0).toNat := by simp [sno, List.range_succ]
/-- What all parties have seen. -/
def snl (G : List Gt) (O : List Int) (n t : Nat) (ins ds : List Int) (N m : Nat) : List (List Int) := (List.range n).map fun j => sno G O n t ins ds N m j
theorem snl_len (G : List Gt) (O : List Int) (n t : Nat) (ins ds : List Int) (N m : Nat) : (snl G O n t ins ds N m).length = n := by simp [snl]
theorem snl_getD (G : List Gt) (O : List Int) (n t : Nat) (ins ds : List Int) (N m : Nat) {j : Nat} (h : j < n) : (snl G O n t ins ds N m).getD j [] = sno G O n t ins ds N m j := by simp [snl, h]
theorem esn_bd (G : List Gt) (n t : Nat) (ins ds : List Int) (i : Nat) {j : Nat} (hj : j < n) : ∀ z ∈ esn G n t ins ds i j, 0 ≤ z ∧ z ≤ 2147483646 := by
  unfold esn
  split
  · intro z hz
    obtain rfl := List.mem_singleton.1 hz
    refine ew_bd G n t ins ds i _ ?_
    rw [List.getD_eq_getElem?_getD, List.getElem?_eq_getElem (by rw [ew_len]; exact hj)]
    exact List.getElem_mem _
  · split
    · exact tmR_bd _ _ _ _ _ _
    · intro z hz; simp at hz
theorem sno_bd (G : List Gt) (O : List Int) (n t : Nat) (ins ds : List Int) (N q : Nat) {j : Nat} (hj : j < n) : ∀ z ∈ sno G O n t ins ds N q j, 0 ≤ z ∧ z ≤ 2147483646 := by
  intro z hz
  rcases List.mem_append.1 hz with hz | hz
  · obtain ⟨i, _, hi⟩ := List.mem_flatMap.1 hz
    exact esn_bd G n t ins ds i hj z hi
  · obtain ⟨i, _, hi⟩ := List.mem_flatMap.1 hz
    exact ew_bd _ _ _ _ _ _ z hi
/-- Who may run a circuit. -/
def okc (G : List Gt) (N : Nat) (n t : Int) : Prop := (0 ≤ t ∧ t ≤ 4) ∧ (1 ≤ n ∧ n ≤ 9) ∧ 2 * t + 1 ≤ n ∧ ∀ x ∈ whl G N, x ≤ n
/-- What Need tells. -/
def Nde (G : List Gt) (O : List Int) (N m : Nat) (n t r : Int) : Prop := (r ≠ 0 ∧ Cke G O N m r) ∨ (Cke G O N m 0 ∧ ((¬ okc G N n t ∧ r = 1) ∨ (okc G N n t ∧ r = 0)))
theorem Nde.one {G : List Gt} {O : List Int} {N m : Nat} {n t r s : Int} (h : Nde G O N m n t r) (k : Nde G O N m n t s) : r = s := by
  rcases h with ⟨h1, h2⟩ | ⟨h1, ⟨h2, rfl⟩ | ⟨h2, rfl⟩⟩ <;> rcases k with ⟨k1, k2⟩ | ⟨k1, ⟨k2, rfl⟩ | ⟨k2, rfl⟩⟩
  all_goals first
    | rfl
    | exact h2.one k2
    | exact absurd (h2.one k1) h1
    | exact absurd (k2.one h1) k1
    | exact absurd k2 h2
    | exact absurd h2 k2
theorem Nde.ok {G : List Gt} {O : List Int} {N m : Nat} {n t : Int} (h : Nde G O N m n t 0) : Cke G O N m 0 ∧ okc G N n t := by
  rcases h with ⟨h1, _⟩ | ⟨h1, ⟨_, h2⟩ | ⟨h2, _⟩⟩
  · exact absurd rfl h1
  · omega
  · exact ⟨h1, h2⟩
/-- What is wrong with a run. -/
def Ere (G : List Gt) (O : List Int) (N m : Nat) (n t : Int) (q d : Nat) (r : Int) : Prop :=
  (r ≠ 0 ∧ Nde G O N m n t r) ∨ (Nde G O N m n t 0 ∧ ((q ≠ ci G N ∧ r = 5) ∨ (q = ci G N ∧ ((d ≠ dwn G n.toNat t.toNat N ∧ r = 1) ∨ (d = dwn G n.toNat t.toNat N ∧ r = 0)))))
theorem Ere.one {G : List Gt} {O : List Int} {N m : Nat} {n t : Int} {q d : Nat} {r s : Int} (h : Ere G O N m n t q d r) (k : Ere G O N m n t q d s) : r = s := by
  rcases h with ⟨h1, h2⟩ | ⟨h1, ⟨h2, rfl⟩ | ⟨h2, ⟨h3, rfl⟩ | ⟨h3, rfl⟩⟩⟩ <;> rcases k with ⟨k1, k2⟩ | ⟨k1, ⟨k2, rfl⟩ | ⟨k2, ⟨k3, rfl⟩ | ⟨k3, rfl⟩⟩⟩
  all_goals first
    | rfl
    | exact h2.one k2
    | exact absurd (h2.one k1) h1
    | exact absurd (k2.one h1) k1
    | exact absurd k2 h2
    | exact absurd h2 k2
    | exact absurd k3 h3
    | exact absurd h3 k3
end
section
open Crm Go.RowKit
/-- The slice reads as the rows rs. -/
structure RdR (w : World) (a : Option Addr) (n c : Nat) (rs : List (List Int)) : Prop where
  len : rs.length = n
  cap : n ≤ c
  max : c ≤ maxLen
  nil : a = none → c = 0
  row : ∀ x, a = some x → ∀ i, i < n → ∃ ai ci, w.cell? (x.add i) = some (.slice ai (rs.getD i []).length ci) ∧ Rd w ai (rs.getD i []).length ci (rs.getD i [])

theorem RdR.at {w : World} {a : Option Addr} {n c : Nat} {rs : List (List Int)} (h : RdR w a n c rs) {k : Nat} (hk : k < n) :
    ∃ b o, a = some ⟨b, o, none⟩ ∧ b < w.heap.size ∧ ∀ i, i < n → ∃ ai ci, w.cell? ⟨b, o + i, none⟩ = some (.slice ai (rs.getD i []).length ci) ∧ Rd w ai (rs.getD i []).length ci (rs.getD i []) := by
  cases ha : a with
  | none => have := h.nil ha; have := h.cap; omega
  | some x =>
    obtain ⟨a0, c0, h0, _⟩ := h.row x ha 0 (by omega)
    have hs : x.spot = none := by
      have := spot_none h0
      unfold Addr.add at this
      split at this <;> simp_all
    obtain ⟨b, o, s⟩ := x
    simp only at hs
    subst hs
    refine ⟨b, o, rfl, ?_, fun i hi => by
      obtain ⟨ai, ci, h1, h2⟩ := h.row _ ha i hi
      rw [Addr.add_lit] at h1
      exact ⟨ai, ci, h1, h2⟩⟩
    have := World.block_lt_of_cell? w _ h0
    rwa [Addr.add_lit] at this

/-- One row of it, by names of its own. -/
theorem RdR.one {w : World} {a : Option Addr} {n c : Nat} {rs : List (List Int)} (h : RdR w a n c rs) {k : Nat} (hk : k < n) :
    ∃ b o ai ni ci row, a = some ⟨b, o, none⟩ ∧ b < w.heap.size ∧ Hid (rs.getD k [] = row) ∧ w.cell? ⟨b, o + k, none⟩ = some (.slice ai ni ci) ∧ Rd w ai ni ci row := by
  obtain ⟨b, o, ha, hb, hr⟩ := h.at hk
  obtain ⟨ai, ci, h1, h2⟩ := hr k hk
  exact ⟨b, o, ai, _, ci, _, ha, hb, rfl, h1, h2⟩

theorem RdR.below {w w' : World} {a : Option Addr} {n c : Nat} {rs : List (List Int)} (h : RdR w a n c rs) (hb : Below w.heap.size w w') : RdR w' a n c rs := by
  refine ⟨h.len, h.cap, h.max, h.nil, fun x hx i hi => ?_⟩
  obtain ⟨ai, ci, h1, h2⟩ := h.row x hx i hi
  exact ⟨ai, ci, by rw [hb.cell (World.block_lt_of_cell? w _ h1)]; exact h1, h2.below hb⟩
/-- A list of rows that the call gathers, each row the call's own. -/
structure LsV (w : World) (B : Nat) (v : Value) (L : List Value) (rows : List (List Int)) : Prop where
  own : w.ownsRow B 26 1 v rows.length L
  len : L.length = rows.length
  row : ∀ i, i < rows.length → w.ownsRow B 42 1 (L.getD i (.slice none 0 0)) (rows.getD i []).length ((rows.getD i []).map (Value.int .u64))
  inj : ∀ i j, i < j → j < rows.length → (L.getD i (.slice none 0 0)).ownBlock = none ∨ (L.getD i (.slice none 0 0)).ownBlock ≠ (L.getD j (.slice none 0 0)).ownBlock
theorem lsv_nil (w : World) (B : Nat) : LsV w B (.slice none 0 0) [] [] := ⟨World.ownsRow_nil _ _ _ _, rfl, fun i hi => by simp at hi, fun i j _ hj => by simp at hj⟩
theorem LsV.below {w w' : World} {B : Nat} {v : Value} {L : List Value} {rows : List (List Int)} (h : LsV w B v L rows) (hb : Below w.heap.size w w') : LsV w' B v L rows :=
  ⟨own_below h.own hb, h.len, fun i hi => own_below (h.row i hi) hb, h.inj⟩
theorem LsV.drew {w : World} {B : Nat} {v : Value} {L : List Value} {rows : List (List Int)} (h : LsV w B v L rows) : LsV w.drew B v L rows := ⟨h.own, h.len, h.row, h.inj⟩
theorem LsV.drewN {w : World} {B : Nat} {v : Value} {L : List Value} {rows : List (List Int)} (h : LsV w B v L rows) (q : Nat) : LsV (w.drewN q) B v L rows := ⟨h.own, h.len, h.row, h.inj⟩
/-- When a list of other elements, or one that lies elsewhere, grows. -/
theorem LsV.grown {w w' : World} {B : Nat} {v : Value} {L : List Value} {rows : List (List Int)} {r : Option Nat} (h : LsV w B v L rows) (hg : w.grownBy w' r) (h1 : v.ownBlock = none ∨ v.ownBlock ≠ r) (h2 : ∀ i, i < rows.length → (L.getD i (.slice none 0 0)).ownBlock = none ∨ (L.getD i (.slice none 0 0)).ownBlock ≠ r) : LsV w' B v L rows :=
  ⟨h.own.kept hg h1, h.len, fun i hi => (h.row i hi).kept hg (h2 i hi), h.inj⟩
/-- Rows that are made, none of them filled. -/
theorem lsv_made {w : World} {B n : Nat} {v : Value} (h : w.ownsRow B 26 1 v n (madeCells (Value.slice none 0 0).cells (n * 1)).toList) : LsV w B v (List.replicate n (.slice none 0 0)) (List.replicate n []) := by
  have e : (Value.slice none 0 0).cells = #[Value.slice none 0 0] := rfl
  rw [e, Nat.mul_one, toList_madeCells_one] at h
  have g1 : ∀ i, (List.replicate n (Value.slice none 0 0)).getD i (.slice none 0 0) = .slice none 0 0 := fun i => by
    rw [List.getD_eq_getElem?_getD, List.getElem?_replicate]; split <;> rfl
  have g2 : ∀ i, (List.replicate n ([] : List Int)).getD i [] = [] := fun i => by
    rw [List.getD_eq_getElem?_getD, List.getElem?_replicate]; split <;> rfl
  refine ⟨by rw [List.length_replicate]; exact h, by simp, fun i _ => ?_, fun i j _ _ => by rw [g1]; exact .inl rfl⟩
  rw [g1, g2]
  exact World.ownsRow_nil _ _ _ _
theorem getD_setV {α : Type} (l : List α) (q i : Nat) (x d : α) (hq : q < l.length) : (l.set q x).getD i d = if i = q then x else l.getD i d := by
  by_cases e : i = q
  · subst e; rw [if_pos rfl]; simp [hq]
  · rw [if_neg e]; simp [show ¬ q = i from fun e' => e e'.symm]
/-- A row grows, and is laid at its place again. -/
theorem LsV.upd {w w7 : World} {B g n c q : Nat} {u' : Value} {L : List Value} {rows : List (List Int)} {row : List Int} (h : LsV w B (.slice (some ⟨g, 0, none⟩) n c) L rows) (hl : rows.length = n) (hq : q < n)
    (hr : w7.ownsRow B 42 1 u' row.length (row.map (Value.int .u64))) (hg : w.grownBy w7 (L.getD q (.slice none 0 0)).ownBlock) (hat : u'.ownBlock = (L.getD q (.slice none 0 0)).ownBlock ∨ ∃ k, u'.ownBlock = some k ∧ w.heap.size ≤ k) :
    LsV (w7.setCell ⟨g, q, none⟩ u') B (.slice (some ⟨g, 0, none⟩) n c) (L.set q u') (rows.set q row) := by
  have hL := h.len
  have hE : (26 : TypeId) ≠ 42 := by decide
  have hE' : (42 : TypeId) ≠ 26 := by decide
  have hg2 : w7.grownBy (w7.setCell ⟨g, q, none⟩ u') (some g) := grown_set _ _ _ _
  have ho7 := h.own.kept hg (own_apart (h.row q (by omega)) h.own hE')
  rw [hl] at ho7
  have hne : ∀ i, i < n → i ≠ q → (L.getD i (.slice none 0 0)).ownBlock = none ∨ (L.getD i (.slice none 0 0)).ownBlock ≠ (L.getD q (.slice none 0 0)).ownBlock := fun i hi hiq => by
    rcases Nat.lt_or_ge i q with e | e
    · exact h.inj i q e (by omega)
    · rcases h.inj q i (by omega) (by omega) with e1 | e1
      · by_cases hn : (L.getD i (.slice none 0 0)).ownBlock = none
        · exact .inl hn
        · exact .inr (by rw [e1]; exact hn)
      · exact .inr (fun e2 => e1 e2.symm)
  have hnew : ∀ i, i < n → i ≠ q → (L.getD i (.slice none 0 0)).ownBlock = none ∨ (L.getD i (.slice none 0 0)).ownBlock ≠ u'.ownBlock := fun i hi hiq => by
    rcases hat with e | ⟨k, e, hk⟩
    · rw [e]; exact hne i hi hiq
    · cases hb : (L.getD i (.slice none 0 0)).ownBlock with
      | none => exact .inl rfl
      | some p =>
        right
        rw [e]
        intro e'
        have := ((h.row i (by omega)).lt p hb).2
        simp only [Option.some.injEq] at e'
        omega
  refine ⟨by rw [List.length_set, hl]; exact own_set ho7 q u', by simp [hL], fun i hi => ?_, fun i j hij hj => ?_⟩
  · rw [List.length_set] at hi
    rw [getD_setV _ _ _ _ _ (by omega), getD_setV _ _ _ _ _ (by omega)]
    by_cases e : i = q
    · rw [if_pos e, if_pos e]
      exact hr.kept hg2 (own_apart ho7 hr hE)
    · rw [if_neg e, if_neg e]
      have h7 := (h.row i (by omega)).kept hg (hne i (by omega) e)
      exact h7.kept hg2 (own_apart ho7 h7 hE)
  · rw [List.length_set] at hj
    rw [getD_setV _ _ _ _ _ (by omega), getD_setV _ _ _ _ _ (by omega)]
    by_cases e : i = q
    · rw [if_pos e, if_neg (by omega)]
      rcases hnew j (by omega) (by omega) with e1 | e1
      · by_cases hu : u'.ownBlock = none
        · exact .inl hu
        · exact .inr (by rw [e1]; exact hu)
      · exact .inr (fun e2 => e1 e2.symm)
    · rw [if_neg e]
      by_cases e' : j = q
      · rw [if_pos e']; exact hnew i (by omega) e
      · rw [if_neg e']; exact h.inj i j hij hj
theorem own_baseV {w : World} {B B' n z : Nat} {E : TypeId} {v : Value} {xs : List Value} (h : w.ownsRow B E z v n xs) (hB : B' ≤ B) : w.ownsRow B' E z v n xs := by
  refine ⟨h.1, ?_⟩
  rcases h.2 with h1 | ⟨g, cap, cur, e, hb, h2⟩
  · exact .inl h1
  · exact .inr ⟨g, cap, cur, e, Nat.le_trans hB hb, h2⟩
theorem LsV.base {w : World} {B B' : Nat} {v : Value} {L : List Value} {rows : List (List Int)} (h : LsV w B v L rows) (hB : B' ≤ B) : LsV w B' v L rows :=
  ⟨own_baseV h.own hB, h.len, fun i hi => own_baseV (h.row i hi) hB, h.inj⟩
/-- Its cells. -/
theorem LsV.cell {w : World} {B n c g q : Nat} {L : List Value} {rows : List (List Int)} (h : LsV w B (.slice (some ⟨g, 0, none⟩) n c) L rows) (hl : rows.length = n) (hq : q < n) : w.cell? ⟨g, q, none⟩ = some (L.getD q (.slice none 0 0)) ∧ w.frozen? ⟨g, q, none⟩ = false ∧ g < w.heap.size := by
  have ho := h.own
  rw [hl] at ho
  have hL := h.len
  obtain ⟨g', u, e1, e2, e3, e4, e5⟩ := own_at ho hq
  simp only [Option.some.injEq, Addr.mk.injEq, and_true] at e1
  subst e1
  refine ⟨?_, own_frozen ho q, e3⟩
  rw [e5, ← e4]
  simp [List.getElem?_eq_getElem (show q < L.length by omega)]
/-- One row of it. -/
theorem LsV.one {w : World} {B n q : Nat} {v : Value} {L : List Value} {rows : List (List Int)} (h : LsV w B v L rows) (hl : rows.length = n) (hq : q < n) (hb : ∀ x ∈ rows.getD q [], 0 ≤ x ∧ x ≤ 18446744073709551615) : ∃ a c, L.getD q (.slice none 0 0) = .slice a (rows.getD q []).length c ∧ Rd w a (rows.getD q []).length c (rows.getD q []) := by
  obtain ⟨a, c, e, hr, _⟩ := Rd.own (h.row q (by omega)) hb
  exact ⟨a, c, e, hr⟩
/-- It reads as its rows. -/
theorem LsV.rdR {w : World} {B n : Nat} {v : Value} {L : List Value} {rows : List (List Int)} (h : LsV w B v L rows) (hl : rows.length = n) (hb : ∀ i, i < n → ∀ x ∈ rows.getD i [], 0 ≤ x ∧ x ≤ 18446744073709551615) : ∃ a c, v = .slice a n c ∧ RdR w a n c rows := by
  have ho := h.own
  rw [hl] at ho
  have hL := h.len
  rcases ho.2 with ⟨rfl, rfl⟩ | ⟨g, cap, cur, rfl, hb', hg, h1, h2, hs, ht⟩
  · exact ⟨none, 0, rfl, hl, Nat.le_refl _, Nat.zero_le _, fun _ => rfl, by simp⟩
  · refine ⟨_, _, rfl, hl, h1, h2, by simp, fun x hx i hi => ?_⟩
    obtain rfl := Option.some.inj hx
    obtain ⟨a, c, e, hr⟩ := h.one hl hi (hb i hi)
    refine ⟨a, c, ?_, hr⟩
    have := ho.cells (g := g) rfl i (L.getD i (.slice none 0 0)) (by simp [List.getElem?_eq_getElem (show i < L.length by omega)])
    rw [this, e]
/-- The blocks of A are none of B's. -/
def Apt (A B : List Value) : Prop := ∀ i j, (A.getD i (.slice none 0 0)).ownBlock = none ∨ (A.getD i (.slice none 0 0)).ownBlock ≠ (B.getD j (.slice none 0 0)).ownBlock
theorem Apt.symm {A B : List Value} (h : Apt A B) : Apt B A := fun i j => by
  rcases h j i with e | e
  · by_cases hb : (B.getD i (.slice none 0 0)).ownBlock = none
    · exact .inl hb
    · exact .inr (by rw [e]; exact hb)
  · exact .inr (fun e' => e e'.symm)
theorem apt_rep (n : Nat) (B : List Value) : Apt (List.replicate n (.slice none 0 0)) B := fun _ _ => .inl (by
  rw [List.getD_eq_getElem?_getD, List.getElem?_replicate]
  split <;> rfl)
/-- A row of A is laid anew: where it lay, or where nothing lay. -/
theorem Apt.set {A B : List Value} {q H : Nat} {u : Value} (h : Apt A B) (hq : q < A.length) (hB : ∀ j k, (B.getD j (.slice none 0 0)).ownBlock = some k → k < H) (hu : u.ownBlock = (A.getD q (.slice none 0 0)).ownBlock ∨ ∃ k, u.ownBlock = some k ∧ H ≤ k) : Apt (A.set q u) B := fun i j => by
  rw [getD_setV _ _ _ _ _ hq]
  by_cases e : i = q
  · rw [if_pos e]
    rcases hu with hu | ⟨k, hu, hk⟩
    · rw [hu]; exact h q j
    · right
      rw [hu]
      intro e'
      have := hB j k e'.symm
      omega
  · rw [if_neg e]; exact h i j
/-- One row more in A. -/
theorem Apt.add {A B : List Value} {u : Value} (h : Apt A B) (hu : ∀ j, u.ownBlock = none ∨ u.ownBlock ≠ (B.getD j (.slice none 0 0)).ownBlock) : Apt (A ++ [u]) B := fun i j => by
  rw [List.getD_eq_getElem?_getD]
  rcases Nat.lt_trichotomy i A.length with e | e | e
  · rw [List.getElem?_append_left e, ← List.getD_eq_getElem?_getD]; exact h i j
  · rw [List.getElem?_append_right (by omega), e, Nat.sub_self]; exact hu j
  · rw [List.getElem?_eq_none (by simp; omega)]; exact .inl rfl
/-- Rows that are there lie below. -/
theorem LsV.blk {w : World} {B : Nat} {v : Value} {L : List Value} {rows : List (List Int)} (h : LsV w B v L rows) : ∀ j k, (L.getD j (.slice none 0 0)).ownBlock = some k → B ≤ k ∧ k < w.heap.size := fun j k hk => by
  rcases Nat.lt_or_ge j rows.length with hj | hj
  · exact (h.row j hj).lt k hk
  · rw [List.getD_eq_getElem?_getD, List.getElem?_eq_none (by rw [h.len]; exact hj)] at hk
    simp [Value.ownBlock] at hk
/-- One row more: the outer list grows. -/
theorem LsV.add {w w' : World} {B : Nat} {v v' u : Value} {L : List Value} {rows : List (List Int)} {row : List Int} (h : LsV w B v L rows) (hr : w.ownsRow B 42 1 u row.length (row.map (Value.int .u64)))
    (hnew : ∀ i, i < rows.length → (L.getD i (.slice none 0 0)).ownBlock = none ∨ (L.getD i (.slice none 0 0)).ownBlock ≠ u.ownBlock)
    (ho : w'.ownsRow B 26 1 v' (rows.length + 1) (L ++ [u])) (hg : w.grownBy w' v.ownBlock) : LsV w' B v' (L ++ [u]) (rows ++ [row]) := by
  have hl := h.len
  have gl : ∀ i, i < rows.length → (rows ++ [row]).getD i [] = rows.getD i [] := fun i hi => by simp [List.getElem?_append_left hi]
  have gL : ∀ i, i < rows.length → (L ++ [u]).getD i (.slice none 0 0) = L.getD i (.slice none 0 0) := fun i hi => by simp [List.getElem?_append_left (show i < L.length by omega)]
  have gl' : (rows ++ [row]).getD rows.length [] = row := by simp
  have gL' : (L ++ [u]).getD rows.length (.slice none 0 0) = u := by rw [← hl]; simp
  have hE : (26 : TypeId) ≠ 42 := by decide
  refine ⟨by simpa using ho, by simp [hl], fun i hi => ?_, fun i j hij hj => ?_⟩
  · have hi2 : i < rows.length + 1 := by simpa using hi
    by_cases e : i = rows.length
    · subst e; rw [gl', gL']; exact hr.kept hg (own_apart h.own hr hE)
    · rw [gl i (by omega), gL i (by omega)]; exact (h.row i (by omega)).kept hg (own_apart h.own (h.row i (by omega)) hE)
  · have hj2 : j < rows.length + 1 := by simpa using hj
    by_cases e : j = rows.length
    · subst e; rw [gL', gL i hij]; exact hnew i hij
    · rw [gL i (by omega), gL j (by omega)]; exact h.inj i j hij (by omega)
/-- A row that a list's text lays. -/
theorem Blk.lit1 (w : World) (x : Int) : Blk (w.alloc (.cells #[.int .u64 x] 42)) w.heap.size [x] := heap_alloc_new w _
theorem Blk.lit2 (w : World) (x y : Int) : Blk (w.alloc (.cells #[.int .u64 x, .int .u64 y] 42)) w.heap.size [x, y] := heap_alloc_new w _

theorem cThroughOK (a : Option Addr) (n c : Nat) (l : List (Int × Int)) (w : World) (h : RdS w a n c l) (hn : n ≤ 40) (ho : okk l n) :
    Calls Tryd.prog 61 #[.slice a n c] w fun e w' => ∃ S g, e = .returned (.tuple #[.slice (some ⟨g, 0, none⟩) (tl S n) n, .int .i64 0]) ∧ S.length = n ∧ (∀ x ∈ S, 0 ≤ x ∧ x ≤ 2147483646) ∧
      (∀ j, j < n → nm (ev S (l.getD j (0, 0)).1) = nm (l.getD j (0, 0)).2) ∧ Rd w' (some ⟨g, 0, none⟩) (tl S n) n (trm S) ∧ Below w.heap.size w w' := by
  obtain ⟨i0, hi, hz0, hz1, hz2⟩ := info_parts info42
  have HO : Hid (okk l n) := ho
  clear ho
  have hlen := h.len
  go_enter Tryd.func61, Tryd.ntmps61
  go_wp2_with fail
  refine (cPlaced _ _ _ _ _ h (by omega)).mono ?_
  rintro e w1 ⟨r, rfl, hr, hb1⟩
  obtain rfl : r = true := hr.2 HO.out
  clear hr
  have hs1 := hb1.size
  go_wp2_with (at_make; refine wpList_make_full _ rfl _ _ 26 rfl w1.heap.size 42 i0 (.int .u64 0) 1 Tryd.underlying26 hi hz0 hz1 .i64 .i64 _ _ n rfl rfl (by omega) (by omega) (by rw [hz2]; omega) (by unfold maxLen; omega) (Nat.le_refl _) ?_; intro w2 hown hgrow)
  have hB2 : Blk w2 w1.heap.size (List.replicate n 0) := Blk.made hown
  have hb2 : Below w1.heap.size w1 w2 := (Below.refl _ _).grown hgrow (Nat.le_refl _) (by simp)
  have hb12 : Below w.heap.size w w2 := hb1.trans (hb2.mono hs1)
  clear hown hgrow
  obtain ⟨g1, hg1⟩ : ∃ g1, g1 = w1.heap.size := ⟨_, rfl⟩
  rw [← hg1] at hB2 hs1 ⊢
  clear hg1 hb2 hb1
  have hgl := hB2.lt
  go_loopw [5, 24] (fun z i wr => ∃ (k : Nat) (S Z : List Int) (gz : Nat), k ≤ n ∧ i = .int .i64 k ∧ z = .slice (some ⟨gz, 0, none⟩) (k + 1) (k + 1) ∧ Hid (NwI l n k S Z) ∧ Blk wr g1 S ∧ Blk wr gz Z ∧ gz ≠ g1 ∧ Below w.heap.size w wr) (fun _ i _ => n - (intOf i).toNat)
  case atStart => exact ⟨0, _, _, _, Nat.zero_le _, rfl, rfl, nw_start l n, hB2.below ((Below.refl _ _).alloc (Nat.le_refl _) _) hgl, Blk.lit1 _ _, by omega, hb12.alloc (hb12.size) _⟩
  case round =>
    obtain ⟨k, S, Z, gz, hk, rfl, rfl, HI, hbs, hbz, hne, hbel⟩ := hrel
    have hls := HI.out.ls
    have hlz := HI.out.lz
    have HBS : Hid (∀ x ∈ S, 0 ≤ x ∧ x ≤ 2147483646) := HI.out.bs
    have HBZ : Hid (∀ x ∈ Z, 0 ≤ x ∧ x ≤ 2147483646) := HI.out.bz
    by_cases hlt : k < n
    · obtain ⟨b, o, x, y, rfl, hbb, HX, HY, hx0, hx1, hy0, hy1, hcx, hcy⟩ := (h.below hbel).one hlt
      have hxo := (HO.out k hlt).1
      rw [HX.out] at hxo
      have hxo1 := hxo.1
      have hxo2 := hxo.2
      have HE : Hid (nm (nm (ev Z x)) ≠ 0) := by rw [nm_nm, ← HX.out]; exact HI.out.z1 k (Nat.le_refl _) hlt
      have hnS := nm_bd (ev S x)
      have hnZ := nm_bd (ev Z x)
      have hnL := nm_bd (y - nm (ev S x))
      have hiv := iv_bd (nm (ev Z x))
      have hnX := nm_bd (-x)
      have hbA : Below wr.heap.size wr (wr.alloc (.cells #[.int .i64 x, .int .u64 y] 91)) := (Below.refl _ _).alloc (Nat.le_refl _) _
      have hcA0 := cell_alloc0 wr (.int .i64 x) (.int .u64 y) 91
      have hcA1 := cell_alloc1 wr (.int .i64 x) (.int .u64 y) 91
      go_wp2
      generalize hW : wr.alloc (.cells #[.int .i64 x, .int .u64 y] 91) = W at *
      clear hW
      have hbelW : Below w.heap.size w W := hbel.trans (hbA.mono hbel.size)
      have hbsW := hbs.below hbA hbs.lt
      have hbzW := hbz.below hbA hbz.lt
      have rS : Rd W (some ⟨g1, 0, none⟩) n n S := hbsW.whole n hls.symm (by unfold maxLen; omega) (bd_u64 HBS.out)
      have rZ : Rd W (some ⟨gz, 0, none⟩) (k + 1) (k + 1) Z := hbzW.whole (k + 1) hlz.symm (by unfold maxLen; omega) (bd_u64 HBZ.out)
      clear hbA hbs hbz hbel hcx hcy
      go_quiet ((first | (go_at_call 81; exact Calls.quiet_of (cValueQ _ _ _ _ _ _ (rS.drewN _) (by omega) (by omega))) | (go_at_call 56; exact Calls.quiet_of_same (fSub _ _ _ (by omega) (by omega) (by omega) (by omega)))))
      go_wp2_with fail
      refine (cValueQ _ _ _ _ _ _ (rZ.drewN _) (by omega) (by omega)).mono ?_
      rintro e w3 ⟨rfl, q3, rfl⟩
      go_wp2_with fail
      refine (fInv1 _ _ (by omega) (by omega) HE.out).mono ?_
      rintro e w3 ⟨rfl, rfl⟩
      obtain ⟨t, HT⟩ : ∃ t, Hid (t = nm (nm (y - nm (ev S x)) * iv (nm (ev Z x)))) := ⟨_, rfl⟩
      have hnt : 0 ≤ t ∧ t ≤ 2147483646 := by rw [HT.out]; exact nm_bd _
      have HI2 : Hid (NwI l n (k + 1) (addAt S 0 Z t (k + 1)) (cvl Z [nm (-x), 1])) := nw_step HI.out hlt HO.out HX.out HY.out HT.out
      go_wp2_with (go_at_call 59; refine (fMul _ _ _ (by omega) (by omega) (by omega) (by omega)).mono ?_; rintro e w3 ⟨he, rfl⟩; rw [← HT.out] at he; subst he)
      refine (cAddTimes _ _ _ _ _ _ _ _ _ _ _ (by exact hbsW) (bd_u64 HBS.out) (rZ.drewN _) (fun x hx => by obtain rfl := Option.some.inj hx; exact hne) (by omega) (by omega) (by omega) (by omega) (by omega)).mono ?_
      rintro e w4 ⟨rfl, hb4, hg4⟩
      have hz4 : Blk w4 gz Z := Blk.grown (by exact hbzW) hg4 (by simpa using hne)
      have hbel4 : Below w.heap.size w w4 := below_grown (drewN_below hbelW _) hg4 hs1
      have hbB : Below w4.heap.size w4 (w4.alloc (.cells #[.int .u64 (nm (-x)), .int .u64 1] 42)) := (Below.refl _ _).alloc (Nat.le_refl _) _
      have hp4 := Blk.lit2 w4 (nm (-x)) 1
      clear hbelW hbsW hbzW rS rZ hg4 hcA0 hcA1
      go_wp2_with (go_at_call 56; refine (fSub _ _ _ (by omega) (by omega) (by omega) (by omega)).mono ?_; rintro e w3 ⟨rfl, hw⟩; have hw := hw.symm; subst hw)
      generalize hW5 : w4.alloc (.cells #[.int .u64 (nm (-x)), .int .u64 1] 42) = W5 at *
      have hs5 : w4.heap.size < W5.heap.size := hp4.lt
      clear hW5
      have hbel5 : Below w.heap.size w W5 := hbel4.trans (hbB.mono hbel4.size)
      have hz5 := hz4.below hbB hz4.lt
      have hb5 := hb4.below hbB hb4.lt
      have hl5 := hb5.lt
      have rZ5 : Rd W5 (some ⟨gz, 0, none⟩) (k + 1) (k + 1) Z := hz5.whole (k + 1) hlz.symm (by unfold maxLen; omega) (bd_u64 HBZ.out)
      have rP5 : Rd W5 (some ⟨w4.heap.size, 0, none⟩) 2 2 [nm (-x), 1] := hp4.whole 2 rfl (by unfold maxLen; omega) (by
        intro u hu
        simp only [List.mem_cons, List.not_mem_nil, or_false] at hu
        rcases hu with rfl | rfl <;> omega)
      refine (cProduct _ _ _ _ _ _ _ _ _ rZ5 rP5 (by omega) (by omega) (by omega) (by omega)).mono ?_
      rintro e w6 ⟨rfl, hb6, hbel6⟩
      have hs6 := hb5.below hbel6 hb5.lt
      have hbel7 := hbel5.trans (hbel6.mono hbel5.size)
      clear hbel6 hbel5 hz5 hb5 rZ5 rP5 hp4 hz4 hb4 hbB hbel4
      go_wp2
      go_roundw
      case rel => exact ⟨k + 1, _, _, _, by omega, by go_num, rfl, HI2, hs6, hb6, by omega, hbel7⟩
      case measure => simp [intOf]; omega
    · have hkn : k = n := by omega
      subst hkn
      have rS : Rd wr (some ⟨g1, 0, none⟩) k k S := hbs.whole k hls.symm (by unfold maxLen; omega) (bd_u64 HBS.out)
      go_wp2_with (go_at_call 85; refine (cTrim _ _ _ _ _ rS).mono ?_; rintro e w' ⟨rfl, hw⟩; have hw := hw.symm; subst hw)
      go_ret2
      refine ⟨S, g1, rfl, hls, HBS.out, HI.out.s, ?_, hbel⟩
      have ht := tl_le S k
      have := hbs.rd 0 (tl S k) k ht (by unfold maxLen; omega) (by omega) (bd_u64 HBS.out)
      rw [List.drop_zero] at this
      have e : trm S = S.take (tl S k) := by unfold trm; rw [hls]
      rw [e]
      exact this
end
end Go.Proofs.YtljlioglpaogdahDoor
