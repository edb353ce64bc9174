/- Any shares of a dealing, and their weights: plain facts. · Reckoning with shares: plain facts. · Parties that reckon together: plain facts. · Keys: numbers that are dealt; what is reckoned with them is dealt: plain facts. · Keys: their state, and what each call makes of it: plain. · A store of keys in memory: a struct of four cells, its map, the lists in it. · (*croftref.Store).has, keep. · croftref.Join. · The square of numbers of a dealing in two variables: plain facts, and its block. · (*twine.square).row. · (*croftref.Store).sums. · croftref.NewStore; (*croftref.Store).Drop, Open. · croftref.Times. · (*croftref.Store).Combine, Multiply. · (*croftref.Store).Refresh. · A program's store of keys in memory (keys.Keys), and what its calls leave. · What package keys is asked, call by call. · What the calls of package gate answer. · Package keys: plain facts. · croftkeep.dealt; shares that are written. · Rows by party: the table that package twine makes of rows. -/
import Derived.Test.YtljlioglpaogdafGreatDoorToOpenC
import Derived.Test.YtljlioglpaogdafGreatDoorToLstC
import Derived.Test.YtljlioglpaogdafGreatDoorToGaussR
import Derived.Test.YtljlioglpaogdafGreatDoorToSortM
import Derived.Test.YtljlioglpaogdafGreatDoorToChkC
import Derived.BigQuiet
import Derived.Test.YtljlioglpaogdafGreatDoorToShpM
import Derived.Deep.AppendLies
import Derived.Deep.RegionLaw
import Derived.Test.YtljlioglpaogdafGreatDoorToTwM
import Derived.Test.YtljlioglpaogdafGreatDoorToWireC
import Derived.Laws.Rows
import Derived.Laws.Tables
import Derived.Test.YtljlioglpaogdafGreatDoorProg
import Derived.WalkKit
import Derived.WalkSpells
import Derived.WalkLawsBesides
import Derived.Test.YtljlioglpaogdafGreatDoorToStepC
import Derived.Test.YtljlioglpaogdafGreatDoorToLsV2
import Derived.Deep.RegionWith
import Derived.Deep.QuietTactic
namespace Go.Proofs.YtljlioglpaogdafGreatDoor
set_option linter.unusedVariables false
set_option maxRecDepth 100000
set_option maxHeartbeats 8000000
section
open Crm
theorem sum_wt {ts C : List Int} {K : Nat} (hd : dis (fi ts) K) (hC : C.length ≤ K) (y : Nat → Int) (hy : ∀ j, j < K → nm (y j) = nm (ev C (ts.getD j 0))) : nm (sm (fun i => wt ts K i * y i) K) = nm (ev C 0) := by
  have main : ∀ k, k ≤ K → ∃ R : List Int, R.length ≤ K ∧ (∀ j, j < K → nm (ev R (ts.getD j 0)) = if j < k then nm (y j) else 0) ∧ nm (ev R 0) = nm (sm (fun i => wt ts K i * y i) k) := by
    intro k
    induction k with
    | zero => exact fun _ => ⟨[], Nat.zero_le _, fun j _ => by rw [if_neg (by omega)]; rfl, rfl⟩
    | succ k ih =>
      intro hk
      obtain ⟨R, r1, r2, r3⟩ := ih (by omega)
      obtain ⟨Q, q1, q2, q3⟩ := wt_wgt hd (show k < K by omega)
      have hev : ∀ x, nm (ev (sml R (cvl [y k] Q)) x) = nm (ev R x + y k * ev Q x) := fun x => by
        rw [sml_ev]
        refine nm_add_congr rfl ?_
        rw [cvl_ev, ev, ev, Int.mul_zero, Int.add_zero]
      refine ⟨sml R (cvl [y k] Q), ?_, fun j hj => ?_, ?_⟩
      · rw [sml_len, cvl_len, List.length_singleton]; omega
      · rw [hev]
        have h1 := q2 j hj
        have h2 := r2 j hj
        by_cases e : j = k
        · subst e
          rw [if_pos rfl] at h1
          rw [if_neg (by omega)] at h2
          rw [if_pos (by omega), nm_add_congr (c := 0) (d := y j * 1) h2 (nm_mul_congr rfl (by rw [h1]; rfl)), Int.zero_add, Int.mul_one]
        · rw [if_neg e] at h1
          rw [nm_add_congr (c := ev R (ts.getD j 0)) (d := y k * 0) rfl (nm_mul_congr rfl (by rw [h1]; rfl)), Int.mul_zero, Int.add_zero, h2]
          by_cases e2 : j < k
          · rw [if_pos e2, if_pos (by omega)]
          · rw [if_neg e2, if_neg (by omega)]
      · rw [hev, sm]
        refine nm_add_congr r3 ?_
        rw [q3, nm_mull, Int.mul_comm]
  obtain ⟨R, r1, r2, r3⟩ := main K (Nat.le_refl _)
  rw [← r3]
  have hw : ∀ j, j < K → ((List.range K).map fun k => (ts.getD k 0, y k)).getD j (0, 0) = (ts.getD j 0, y j) := fun j hj => by simp [hj]
  refine ev_one (hs_one (l := (List.range K).map fun k => (ts.getD k 0, y k)) (n := K) (fun j hj => ?_) (fun j hj => ?_) (fun j hj => ?_) r1 hC) 0
  · rw [hw j hj]
    refine ⟨⟨(hd j hj).1.1, by have := (hd j hj).1.2; unfold fi at this; simp only; omega⟩, fun q hq => ?_⟩
    rw [hw q (by omega)]
    exact (hd j hj).2 q hq
  · rw [hw j hj]
    simp only
    rw [r2 j hj, if_pos hj]
  · rw [hw j hj]
    simp only
    exact (hy j hj).symm
def mxl (x y : List Int) (a b c : Int) (n : Nat) : List Int := (List.range n).map fun i => nm (a * x.getD i 0 + b * y.getD i 0 + c)
theorem mxl_len (x y : List Int) (a b c : Int) (n : Nat) : (mxl x y a b c n).length = n := by simp [mxl]
theorem mxl_getD (x y : List Int) (a b c : Int) {n i : Nat} (h : i < n) : (mxl x y a b c n).getD i 0 = nm (a * x.getD i 0 + b * y.getD i 0 + c) := by simp [mxl, h]
theorem mxl_bd (x y : List Int) (a b c : Int) (n : Nat) : ∀ z ∈ mxl x y a b c n, 0 ≤ z ∧ z ≤ 2147483646 := by
  intro z hz
  obtain ⟨i, _, rfl⟩ := List.mem_map.1 hz
  exact nm_bd _
theorem mxl_ext {x y : List Int} {a b c : Int} {n : Nat} {F : Nat → Int} (h : ∀ i, i < n → F i = nm (a * x.getD i 0 + b * y.getD i 0 + c)) : (List.range n).map F = mxl x y a b c n :=
  List.map_congr_left fun i hi => h i (List.mem_range.1 hi)

def pty (n : Nat) : List Int := (List.range n).map fun i : Nat => (i : Int) + 1
theorem pty_getD {n i : Nat} (h : i < n) : (pty n).getD i 0 = (i : Int) + 1 := by simp [pty, h]
theorem pty_dis {n : Nat} (h : n ≤ 9) : dis (fi (pty n)) n := fun i hi => by
  unfold fi
  rw [pty_getD hi]
  exact ⟨⟨by omega, by omega⟩, fun j hj => by rw [pty_getD (show j < n by omega)]; omega⟩

def prC (t : Nat) (a b ds : List Int) (i : Nat) : List Int := nm (a.getD i 0 * b.getD i 0) :: (ds.drop (i * t)).take t
theorem prC_len (t : Nat) (a b ds : List Int) (i : Nat) : (prC t a b ds i).length ≤ t + 1 := by
  unfold prC; rw [List.length_cons, List.length_take]; omega
def tmR (t : Nat) (a b ds : List Int) (k j : Nat) : List Int := (List.range k).map fun i => dlf (prC t a b ds i) j
theorem tmR_len (t : Nat) (a b ds : List Int) (k j : Nat) : (tmR t a b ds k j).length = k := by simp [tmR]
theorem tmR_getD (t : Nat) (a b ds : List Int) {k i : Nat} (j : Nat) (h : i < k) : (tmR t a b ds k j).getD i 0 = dlf (prC t a b ds i) j := by simp [tmR, h]
theorem tmR_bd (t : Nat) (a b ds : List Int) (k j : Nat) : ∀ z ∈ tmR t a b ds k j, 0 ≤ z ∧ z ≤ 2147483646 := by
  intro z hz
  obtain ⟨i, _, rfl⟩ := List.mem_map.1 hz
  exact dlf_bd _ _
def tmG (t : Nat) (a b ds : List Int) (n : Nat) : List (List Int) := (List.range n).map fun j => tmR t a b ds n j
theorem tmG_len (t : Nat) (a b ds : List Int) (n : Nat) : (tmG t a b ds n).length = n := by simp [tmG]
theorem tmG_getD (t : Nat) (a b ds : List Int) {n j : Nat} (h : j < n) : (tmG t a b ds n).getD j [] = tmR t a b ds n j := by simp [tmG, h]
def tmf (t : Nat) (a b ds : List Int) (n j : Nat) : Int := nm (sm (fun i => wt (pty n) n i * dlf (prC t a b ds i) j) n)
def tmO (t : Nat) (a b ds : List Int) (n k : Nat) : List Int := (List.range k).map (tmf t a b ds n)
theorem tmO_len (t : Nat) (a b ds : List Int) (n k : Nat) : (tmO t a b ds n k).length = k := by simp [tmO]
theorem tmO_getD (t : Nat) (a b ds : List Int) (n : Nat) {k j : Nat} (h : j < k) : (tmO t a b ds n k).getD j 0 = tmf t a b ds n j := by simp [tmO, h]
theorem tmO_bd (t : Nat) (a b ds : List Int) (n k : Nat) : ∀ z ∈ tmO t a b ds n k, 0 ≤ z ∧ z ≤ 2147483646 := by
  intro z hz
  obtain ⟨i, _, rfl⟩ := List.mem_map.1 hz
  exact nm_bd _
theorem tm_poly (t : Nat) (a b ds : List Int) (W : Nat → Int) : ∀ k, ∃ P : List Int, P.length ≤ t + 1 ∧ ∀ x, ev P x = sm (fun i => W i * ev (prC t a b ds i) x) k
  | 0 => ⟨[], Nat.zero_le _, fun _ => rfl⟩
  | k + 1 => by
    obtain ⟨P, h1, h2⟩ := tm_poly t a b ds W k
    refine ⟨adl (W k) P (prC t a b ds k), ?_, fun x => ?_⟩
    · rw [adl_len]; have := prC_len t a b ds k; omega
    · rw [adl_ev, h2, sm]
theorem times_dealt {t n : Nat} {A B ds : List Int} (hA : A.length ≤ t + 1) (hB : B.length ≤ t + 1) (hn : 2 * t + 1 ≤ n) (hn9 : n ≤ 9) :
    ∃ P : List Int, P.length ≤ t + 1 ∧ (∀ j, j < n → tmf t (dl A n) (dl B n) ds n j = nm (ev P ((j : Int) + 1))) ∧ nm (ev P 0) = nm (ev A 0 * ev B 0) := by
  obtain ⟨P, h1, h2⟩ := tm_poly t (dl A n) (dl B n) ds (wt (pty n) n) n
  refine ⟨P, h1, fun j _ => ?_, ?_⟩
  · unfold tmf
    rw [h2]
    refine sm_ncongr fun i hi => ?_
    unfold dlf
    rw [nm_mulr]
  · rw [h2]
    have h3 := sum_wt (pty_dis hn9) (C := cvl A B) (by rw [cvl_len]; omega) (fun i => ev (prC t (dl A n) (dl B n) ds i) 0) (fun j hj => by
      unfold prC
      rw [ev, Int.zero_mul, Int.add_zero, nm_nm, cvl_ev, dl_getD A hj, dl_getD B hj, pty_getD hj]
      unfold dlf
      exact nm_mul_congr (nm_nm _) (nm_nm _))
    rw [h3, cvl_ev]
theorem shl_hs {C L : List Int} {n : Nat} (h : ∀ i, i < n → L.getD i 0 = nm (ev C ((i : Int) + 1))) : Hs (shl L n) n C := fun j hj => by
  rw [shl_getD L hj]
  simp only
  rw [h j hj, nm_nm]
theorem shl_dis (L : List Int) {n : Nat} (h : n ≤ 9) : dis (fa (shl L n)) n := fun i hi => by
  unfold fa
  rw [shl_getD L hi]
  exact ⟨⟨by simp only; omega, by simp only; omega⟩, fun j hj => by rw [shl_getD L (show j < n by omega)]; simp only; omega⟩
theorem shl_open {C L : List Int} {n t : Nat} {x r : Int} (hn : n ≤ 9) (ht : t ≤ 4) (htn : t < n) (hC : C.length ≤ t + 1) (h : ∀ i, i < n → L.getD i 0 = nm (ev C ((i : Int) + 1))) (hO : Opn (shl L n) n t x r) : x = nm (ev C 0) ∧ r = 0 :=
  any_open (shl_dis L hn) ht htn hC (shl_hs h) hO
theorem mxl_dealt {A B : List Int} {a b c : Int} {n t : Nat} (hA : A.length ≤ t + 1) (hB : B.length ≤ t + 1) :
    ∃ P : List Int, P.length ≤ t + 1 ∧ (∀ i, i < n → (mxl (dl A n) (dl B n) a b c n).getD i 0 = nm (ev P ((i : Int) + 1))) ∧ nm (ev P 0) = nm (a * ev A 0 + b * ev B 0 + c) := by
  have e : ∀ x, ev (adl 1 (adl b (A.map (a * ·)) B) [c]) x = a * ev A x + b * ev B x + c := fun x => by
    rw [adl_ev, adl_ev, map_ev, ev, ev, Int.mul_zero, Int.add_zero, Int.one_mul]
  refine ⟨adl 1 (adl b (A.map (a * ·)) B) [c], ?_, fun i hi => ?_, by rw [e]⟩
  · rw [adl_len, adl_len, List.length_map, List.length_singleton]; omega
  · rw [mxl_getD _ _ _ _ _ hi, dl_getD A hi, dl_getD B hi, e]
    refine nm_add_congr (nm_add_congr ?_ ?_) rfl
    · unfold dlf; rw [nm_mulr]
    · unfold dlf; rw [nm_mulr]
def dwn (G : List Gt) (n t : Nat) : Nat → Nat
  | 0 => 0
  | i + 1 => dwn G n t i + (if (gt G i).k = 1 then t else if (gt G i).k = 5 then n * t else 0)
def edr (G : List Gt) (n t : Nat) (ds : List Int) (i k : Nat) : List Int := (ds.drop (dwn G n t i)).take k
def esh (G : List Gt) (n t : Nat) (ins ds : List Int) (W : List (List Int)) (i : Nat) : List Int :=
  if (gt G i).k = 1 then dl (ins.getD (ci G i) 0 :: edr G n t ds i t) n
  else if (gt G i).k = 2 then List.replicate n (nm (gt G i).n)
  else if (gt G i).k = 3 then mxl (W.getD (gt G i).a.toNat []) (W.getD (gt G i).b.toNat []) 1 1 0 n
  else if (gt G i).k = 4 then mxl (W.getD (gt G i).a.toNat []) (W.getD (gt G i).b.toNat []) 1 2147483646 0 n
  else if (gt G i).k = 6 then mxl (W.getD (gt G i).a.toNat []) (W.getD (gt G i).a.toNat []) (gt G i).n 0 0 n
  else tmO t (W.getD (gt G i).a.toNat []) (W.getD (gt G i).b.toNat []) (edr G n t ds i (n * t)) n n
def ewr (G : List Gt) (n t : Nat) (ins ds : List Int) : Nat → List (List Int)
  | 0 => []
  | i + 1 => ewr G n t ins ds i ++ [esh G n t ins ds (ewr G n t ins ds i) i]
def ew (G : List Gt) (n t : Nat) (ins ds : List Int) (i : Nat) : List Int := esh G n t ins ds (ewr G n t ins ds i) i
theorem esh_len (G : List Gt) (n t : Nat) (ins ds : List Int) (W : List (List Int)) (i : Nat) : (esh G n t ins ds W i).length = n := by
  unfold esh
  repeat' split
  · exact dl_len _ _
  · simp
  · exact mxl_len _ _ _ _ _ _
  · exact mxl_len _ _ _ _ _ _
  · exact mxl_len _ _ _ _ _ _
  · exact tmO_len _ _ _ _ _ _
theorem esh_bd (G : List Gt) (n t : Nat) (ins ds : List Int) (W : List (List Int)) (i : Nat) : ∀ z ∈ esh G n t ins ds W i, 0 ≤ z ∧ z ≤ 2147483646 := by
  unfold esh
  repeat' split
  · exact dl_bd _ _
  · intro z hz; obtain rfl := List.eq_of_mem_replicate hz; exact nm_bd _
  · exact mxl_bd _ _ _ _ _ _
  · exact mxl_bd _ _ _ _ _ _
  · exact mxl_bd _ _ _ _ _ _
  · exact tmO_bd _ _ _ _ _ _
theorem ew_len (G : List Gt) (n t : Nat) (ins ds : List Int) (i : Nat) : (ew G n t ins ds i).length = n := esh_len _ _ _ _ _ _ _
theorem ew_bd (G : List Gt) (n t : Nat) (ins ds : List Int) (i : Nat) : ∀ z ∈ ew G n t ins ds i, 0 ≤ z ∧ z ≤ 2147483646 := esh_bd _ _ _ _ _ _ _
theorem ewr_len (G : List Gt) (n t : Nat) (ins ds : List Int) : ∀ i, (ewr G n t ins ds i).length = i
  | 0 => rfl
  | i + 1 => by rw [ewr, List.length_append, ewr_len G n t ins ds i]; rfl
theorem ewr_succ (G : List Gt) (n t : Nat) (ins ds : List Int) (i : Nat) : ewr G n t ins ds (i + 1) = ewr G n t ins ds i ++ [ew G n t ins ds i] := rfl
theorem ewr_getD (G : List Gt) (n t : Nat) (ins ds : List Int) {j : Nat} : ∀ {i : Nat}, j < i → (ewr G n t ins ds i).getD j [] = ew G n t ins ds j
  | 0, h => by omega
  | i + 1, h => by
    have hl := ewr_len G n t ins ds i
    rw [ewr_succ]
    by_cases e : j = i
    · subst e
      rw [List.getD_eq_getElem?_getD, List.getElem?_append_right (by omega), hl, Nat.sub_self]
      rfl
    · rw [List.getD_eq_getElem?_getD, List.getElem?_append_left (by omega), ← List.getD_eq_getElem?_getD]
      exact ewr_getD G n t ins ds (by omega)
theorem ew_in {G : List Gt} {n t : Nat} {ins ds : List Int} {i : Nat} (h : (gt G i).k = 1) : ew G n t ins ds i = dl (ins.getD (ci G i) 0 :: edr G n t ds i t) n := by unfold ew esh; rw [if_pos h]
theorem ew_const {G : List Gt} {n t : Nat} {ins ds : List Int} {i : Nat} (h : (gt G i).k = 2) : ew G n t ins ds i = List.replicate n (nm (gt G i).n) := by unfold ew esh; rw [if_neg (by omega), if_pos h]
theorem ew_add {G : List Gt} {n t : Nat} {ins ds : List Int} {i a b : Nat} (h : (gt G i).k = 3) (ha : (gt G i).a = (a : Int)) (hi : a < i) (hb : (gt G i).b = (b : Int)) (hj : b < i) : ew G n t ins ds i = mxl (ew G n t ins ds a) (ew G n t ins ds b) 1 1 0 n := by
  unfold ew
  rw [esh, if_neg (by omega), if_neg (by omega), if_pos h, ha, hb, Int.toNat_natCast, Int.toNat_natCast, ewr_getD G n t ins ds hi, ewr_getD G n t ins ds hj]
  rfl
theorem ew_sub {G : List Gt} {n t : Nat} {ins ds : List Int} {i a b : Nat} (h : (gt G i).k = 4) (ha : (gt G i).a = (a : Int)) (hi : a < i) (hb : (gt G i).b = (b : Int)) (hj : b < i) : ew G n t ins ds i = mxl (ew G n t ins ds a) (ew G n t ins ds b) 1 2147483646 0 n := by
  unfold ew
  rw [esh, if_neg (by omega), if_neg (by omega), if_neg (by omega), if_pos h, ha, hb, Int.toNat_natCast, Int.toNat_natCast, ewr_getD G n t ins ds hi, ewr_getD G n t ins ds hj]
  rfl
theorem ew_scale {G : List Gt} {n t : Nat} {ins ds : List Int} {i a : Nat} (h : (gt G i).k = 6) (ha : (gt G i).a = (a : Int)) (hi : a < i) : ew G n t ins ds i = mxl (ew G n t ins ds a) (ew G n t ins ds a) (gt G i).n 0 0 n := by
  unfold ew
  rw [esh, if_neg (by omega), if_neg (by omega), if_neg (by omega), if_neg (by omega), if_pos h, ha, Int.toNat_natCast, ewr_getD G n t ins ds hi]
  rfl
theorem ew_mul {G : List Gt} {n t : Nat} {ins ds : List Int} {i a b : Nat} (h : (gt G i).k = 5) (ha : (gt G i).a = (a : Int)) (hi : a < i) (hb : (gt G i).b = (b : Int)) (hj : b < i) : ew G n t ins ds i = tmO t (ew G n t ins ds a) (ew G n t ins ds b) (edr G n t ds i (n * t)) n n := by
  unfold ew
  rw [esh, if_neg (by omega), if_neg (by omega), if_neg (by omega), if_neg (by omega), if_neg (by omega), ha, hb, Int.toNat_natCast, Int.toNat_natCast, ewr_getD G n t ins ds hi, ewr_getD G n t ins ds hj]
  rfl
theorem dl_of {P L : List Int} {n : Nat} (hl : L.length = n) (h : ∀ i, i < n → L.getD i 0 = nm (ev P ((i : Int) + 1))) : L = dl P n := by
  refine list_ext (by rw [hl, dl_len]) fun i hi => ?_
  rw [hl] at hi
  rw [h i hi, dl_getD P hi]
  rfl
theorem ew_poly {G : List Gt} {N n t : Nat} {ins ds : List Int} (hG : okG G N) (hn : 2 * t + 1 ≤ n) (hn9 : n ≤ 9) : ∀ i, i < N → ∃ P : List Int, P.length ≤ t + 1 ∧ ew G n t ins ds i = dl P n ∧ nm (ev P 0) = wi G ins i := by
  intro i
  induction i using Nat.strongRecOn with
  | _ i ih =>
    intro hi
    rcases hG i hi with ⟨h1, _, _, _⟩ | ⟨h1, _, _⟩ | ⟨h1, h2, _⟩ | ⟨h1, h2, h3, _⟩
    · refine ⟨_, ?_, ew_in h1, ?_⟩
      · unfold edr; rw [List.length_cons, List.length_take]; omega
      · rw [wi_in h1, ev, Int.zero_mul, Int.add_zero]
    · refine ⟨[nm (gt G i).n], by simp, ?_, ?_⟩
      · rw [ew_const h1]
        refine dl_of (by simp) fun j hj => ?_
        rw [ev, ev, Int.mul_zero, Int.add_zero, nm_nm]
        simp [hj]
      · rw [wi_const h1, ev, Int.zero_mul, Int.add_zero, nm_nm]
    · obtain ⟨a, ha⟩ : ∃ a : Nat, (gt G i).a = a := ⟨(gt G i).a.toNat, by omega⟩
      obtain ⟨A, a1, a2, a3⟩ := ih a (by omega) (by omega)
      obtain ⟨P, p1, p2, p3⟩ := mxl_dealt (A := A) (B := A) (a := (gt G i).n) (b := 0) (c := 0) (n := n) a1 a1
      rw [← a2] at p2
      refine ⟨P, p1, ?_, ?_⟩
      · rw [ew_scale h1 ha (by omega)]
        exact dl_of (mxl_len _ _ _ _ _ _) p2
      · rw [p3, wi_scale h1 ha (by omega), Int.zero_mul, Int.add_zero, Int.add_zero, Int.mul_comm, ← a3, nm_mull]
    · obtain ⟨a, ha⟩ : ∃ a : Nat, (gt G i).a = a := ⟨(gt G i).a.toNat, by omega⟩
      obtain ⟨b, hb⟩ : ∃ b : Nat, (gt G i).b = b := ⟨(gt G i).b.toNat, by omega⟩
      obtain ⟨A, a1, a2, a3⟩ := ih a (by omega) (by omega)
      obtain ⟨B, b1, b2, b3⟩ := ih b (by omega) (by omega)
      rcases h1 with h1 | h1 | h1
      · obtain ⟨P, p1, p2, p3⟩ := mxl_dealt (A := A) (B := B) (a := 1) (b := 1) (c := 0) (n := n) a1 b1
        rw [← a2, ← b2] at p2
        refine ⟨P, p1, ?_, ?_⟩
        · rw [ew_add h1 ha (by omega) hb (by omega)]
          exact dl_of (mxl_len _ _ _ _ _ _) p2
        · rw [p3, wi_add h1 ha (by omega) hb (by omega), ← a3, ← b3]
          unfold nm
          omega
      · obtain ⟨P, p1, p2, p3⟩ := mxl_dealt (A := A) (B := B) (a := 1) (b := 2147483646) (c := 0) (n := n) a1 b1
        rw [← a2, ← b2] at p2
        refine ⟨P, p1, ?_, ?_⟩
        · rw [ew_sub h1 ha (by omega) hb (by omega)]
          exact dl_of (mxl_len _ _ _ _ _ _) p2
        · rw [p3, wi_sub h1 ha (by omega) hb (by omega), ← a3, ← b3]
          unfold nm
          omega
      · obtain ⟨P, p1, p2, p3⟩ := times_dealt (t := t) (n := n) (A := A) (B := B) (ds := edr G n t ds i (n * t)) a1 b1 hn hn9
        rw [← a2, ← b2] at p2
        refine ⟨P, p1, ?_, ?_⟩
        · rw [ew_mul h1 ha (by omega) hb (by omega)]
          refine dl_of (tmO_len _ _ _ _ _ _) fun j hj => ?_
          rw [tmO_getD _ _ _ _ _ hj]
          exact p2 j hj
        · rw [p3, wi_mul h1 ha (by omega) hb (by omega), ← a3, ← b3, nm_mull, nm_mulr]
def esn (G : List Gt) (n t : Nat) (ins ds : List Int) (i j : Nat) : List Int :=
  if (gt G i).k = 1 then [(ew G n t ins ds i).getD j 0]
  else if (gt G i).k = 5 then tmR t (ew G n t ins ds (gt G i).a.toNat) (ew G n t ins ds (gt G i).b.toNat) (edr G n t ds i (n * t)) n j
  else []
def sng (G : List Gt) (n t : Nat) (ins ds : List Int) (i j : Nat) : List Int := (List.range i).flatMap fun p => esn G n t ins ds p j
theorem sng_succ (G : List Gt) (n t : Nat) (ins ds : List Int) (i j : Nat) : sng G n t ins ds (i + 1) j = sng G n t ins ds i j ++ esn G n t ins ds i j := by simp [sng, List.range_succ]
def sno (G : List Gt) (O : List Int) (n t : Nat) (ins ds : List Int) (N q j : Nat) : List Int := sng G n t ins ds N j ++ (List.range q).flatMap fun o => ew G n t ins ds (O.getD o 0).toNat
theorem sno_succ (G : List Gt) (O : List Int) (n t : Nat) (ins ds : List Int) (N q j : Nat) : sno G O n t ins ds N (q + 1) j = sno G O n t ins ds N q j ++ ew G n t ins ds (O.getD q 0).toNat := by simp [sno, List.range_succ]
def snl (G : List Gt) (O : List Int) (n t : Nat) (ins ds : List Int) (N m : Nat) : List (List Int) := (List.range n).map fun j => sno G O n t ins ds N m j
theorem snl_len (G : List Gt) (O : List Int) (n t : Nat) (ins ds : List Int) (N m : Nat) : (snl G O n t ins ds N m).length = n := by simp [snl]
theorem snl_getD (G : List Gt) (O : List Int) (n t : Nat) (ins ds : List Int) (N m : Nat) {j : Nat} (h : j < n) : (snl G O n t ins ds N m).getD j [] = sno G O n t ins ds N m j := by simp [snl, h]
theorem esn_bd (G : List Gt) (n t : Nat) (ins ds : List Int) (i : Nat) {j : Nat} (hj : j < n) : ∀ z ∈ esn G n t ins ds i j, 0 ≤ z ∧ z ≤ 2147483646 := by
  unfold esn
  split
  · intro z hz
    obtain rfl := List.mem_singleton.1 hz
    refine ew_bd G n t ins ds i _ ?_
    rw [List.getD_eq_getElem?_getD, List.getElem?_eq_getElem (by rw [ew_len]; exact hj)]
    exact List.getElem_mem _
  · split
    · exact tmR_bd _ _ _ _ _ _
    · intro z hz; simp at hz
theorem sno_bd (G : List Gt) (O : List Int) (n t : Nat) (ins ds : List Int) (N q : Nat) {j : Nat} (hj : j < n) : ∀ z ∈ sno G O n t ins ds N q j, 0 ≤ z ∧ z ≤ 2147483646 := by
  intro z hz
  rcases List.mem_append.1 hz with hz | hz
  · obtain ⟨i, _, hi⟩ := List.mem_flatMap.1 hz
    exact esn_bd G n t ins ds i hj z hi
  · obtain ⟨i, _, hi⟩ := List.mem_flatMap.1 hz
    exact ew_bd _ _ _ _ _ _ z hi
def okc (G : List Gt) (N : Nat) (n t : Int) : Prop := (0 ≤ t ∧ t ≤ 4) ∧ (1 ≤ n ∧ n ≤ 9) ∧ 2 * t + 1 ≤ n ∧ ∀ x ∈ whl G N, x ≤ n
def Nde (G : List Gt) (O : List Int) (N m : Nat) (n t r : Int) : Prop := (r ≠ 0 ∧ Cke G O N m r) ∨ (Cke G O N m 0 ∧ ((¬ okc G N n t ∧ r = 1) ∨ (okc G N n t ∧ r = 0)))
theorem Nde.one {G : List Gt} {O : List Int} {N m : Nat} {n t r s : Int} (h : Nde G O N m n t r) (k : Nde G O N m n t s) : r = s := by
  rcases h with ⟨h1, h2⟩ | ⟨h1, ⟨h2, rfl⟩ | ⟨h2, rfl⟩⟩ <;> rcases k with ⟨k1, k2⟩ | ⟨k1, ⟨k2, rfl⟩ | ⟨k2, rfl⟩⟩
  all_goals first
    | rfl
    | exact h2.one k2
    | exact absurd (h2.one k1) h1
    | exact absurd (k2.one h1) k1
    | exact absurd k2 h2
    | exact absurd h2 k2
theorem Nde.ok {G : List Gt} {O : List Int} {N m : Nat} {n t : Int} (h : Nde G O N m n t 0) : Cke G O N m 0 ∧ okc G N n t := by
  rcases h with ⟨h1, _⟩ | ⟨h1, ⟨_, h2⟩ | ⟨h2, _⟩⟩
  · exact absurd rfl h1
  · omega
  · exact ⟨h1, h2⟩
def Ere (G : List Gt) (O : List Int) (N m : Nat) (n t : Int) (q d : Nat) (r : Int) : Prop :=
  (r ≠ 0 ∧ Nde G O N m n t r) ∨ (Nde G O N m n t 0 ∧ ((q ≠ ci G N ∧ r = 5) ∨ (q = ci G N ∧ ((d ≠ dwn G n.toNat t.toNat N ∧ r = 1) ∨ (d = dwn G n.toNat t.toNat N ∧ r = 0)))))
theorem Ere.one {G : List Gt} {O : List Int} {N m : Nat} {n t : Int} {q d : Nat} {r s : Int} (h : Ere G O N m n t q d r) (k : Ere G O N m n t q d s) : r = s := by
  rcases h with ⟨h1, h2⟩ | ⟨h1, ⟨h2, rfl⟩ | ⟨h2, ⟨h3, rfl⟩ | ⟨h3, rfl⟩⟩⟩ <;> rcases k with ⟨k1, k2⟩ | ⟨k1, ⟨k2, rfl⟩ | ⟨k2, ⟨k3, rfl⟩ | ⟨k3, rfl⟩⟩⟩
  all_goals first
    | rfl
    | exact h2.one k2
    | exact absurd (h2.one k1) h1
    | exact absurd (k2.one h1) k1
    | exact absurd k2 h2
    | exact absurd h2 k2
    | exact absurd k3 h3
    | exact absurd h3 k3
def Ksh (n t : Nat) (L : List Int) (v : Int) : Prop := ∃ P : List Int, P.length ≤ t + 1 ∧ L = dl P n ∧ nm (ev P 0) = v
theorem Ksh.len {n t : Nat} {L : List Int} {v : Int} (h : Ksh n t L v) : L.length = n := by
  obtain ⟨P, _, rfl, _⟩ := h
  exact dl_len _ _
theorem Ksh.bd {n t : Nat} {L : List Int} {v : Int} (h : Ksh n t L v) : ∀ z ∈ L, 0 ≤ z ∧ z ≤ 2147483646 := by
  obtain ⟨P, _, rfl, _⟩ := h
  exact dl_bd _ _
theorem Ksh.val {n t : Nat} {L : List Int} {v : Int} (h : Ksh n t L v) : 0 ≤ v ∧ v ≤ 2147483646 := by
  obtain ⟨P, _, _, rfl⟩ := h
  exact nm_bd _
theorem ksh_deal {n t : Nat} {x : Int} {ds : List Int} (h : ds.length ≤ t) : Ksh n t (dl (x :: ds) n) (nm x) := ⟨x :: ds, by rw [List.length_cons]; omega, rfl, by rw [ev, Int.zero_mul, Int.add_zero]⟩
theorem ksh_zero (n t : Nat) : Ksh n t (List.replicate n 0) 0 := by
  refine ⟨[], Nat.zero_le _, ?_, rfl⟩
  exact dl_of (by simp) fun i hi => by simp [hi, ev]; rfl
theorem Ksh.mix {n t : Nat} {L M : List Int} {v u : Int} (a b c : Int) (h : Ksh n t L v) (g : Ksh n t M u) : Ksh n t (mxl L M a b c n) (nm (a * v + b * u + c)) := by
  obtain ⟨A, a1, rfl, rfl⟩ := h
  obtain ⟨B, b1, rfl, rfl⟩ := g
  obtain ⟨P, p1, p2, p3⟩ := mxl_dealt (A := A) (B := B) (a := a) (b := b) (c := c) (n := n) a1 b1
  refine ⟨P, p1, dl_of (mxl_len _ _ _ _ _ _) p2, ?_⟩
  rw [p3]
  refine nm_add_congr (nm_add_congr ?_ ?_) rfl
  · rw [nm_mulr]
  · rw [nm_mulr]
def kdr (t : Nat) (sec : Bool) (ds : List Int) (i : Nat) : List Int := if sec then ds.getD (i * (t + 1)) 0 :: (ds.drop (i * (t + 1) + 1)).take t else 0 :: (ds.drop (i * t)).take t
def ksm (n t : Nat) (sec : Bool) (ds : List Int) : Nat → List Int
  | 0 => List.replicate n 0
  | i + 1 => mxl (ksm n t sec ds i) (dl (kdr t sec ds i) n) 1 1 0 n
def ksv (t : Nat) (sec : Bool) (ds : List Int) : Nat → Int
  | 0 => 0
  | i + 1 => nm (ksv t sec ds i + nm ((kdr t sec ds i).getD 0 0))
theorem kdr_ksh (n t : Nat) (sec : Bool) (ds : List Int) (i : Nat) : Ksh n t (dl (kdr t sec ds i) n) (nm ((kdr t sec ds i).getD 0 0)) := by
  unfold kdr
  cases sec with
  | true =>
    rw [if_pos rfl]
    exact ksh_deal (by rw [List.length_take]; omega)
  | false =>
    rw [if_neg (by decide)]
    exact ksh_deal (by rw [List.length_take]; omega)
theorem ksm_ksh (n t : Nat) (sec : Bool) (ds : List Int) : ∀ i, Ksh n t (ksm n t sec ds i) (ksv t sec ds i)
  | 0 => ksh_zero n t
  | i + 1 => by
    have h := (ksm_ksh n t sec ds i).mix 1 1 0 (kdr_ksh n t sec ds i)
    rw [Int.one_mul, Int.one_mul, Int.add_zero] at h
    exact h
theorem ksv_false (t : Nat) (ds : List Int) : ∀ i, ksv t false ds i = 0
  | 0 => rfl
  | i + 1 => by
    rw [ksv, ksv_false t ds i]
    rfl
theorem Ksh.fresh {n t : Nat} {L ds : List Int} {v : Int} (h : Ksh n t L v) : Ksh n t (mxl L (ksm n t false ds n) 1 1 0 n) v := by
  have g := h.mix 1 1 0 (ksm_ksh n t false ds n)
  rw [ksv_false, Int.one_mul, Int.one_mul, Int.add_zero, Int.add_zero, nm_small h.val.1 h.val.2] at g
  exact g
structure Kt where
  n : Nat
  t : Nat
  last : Nat
  cnt : Nat
  f : Int → Option (List Int)
def kset (f : Int → Option (List Int)) (h : Int) (v : Option (List Int)) : Int → Option (List Int) := fun i => if i = h then v else f i
theorem kset_same (f : Int → Option (List Int)) (h : Int) (v : Option (List Int)) : kset f h v h = v := if_pos rfl
theorem kset_other (f : Int → Option (List Int)) {h i : Int} (v : Option (List Int)) (e : i ≠ h) : kset f h v i = f i := if_neg e
structure Kwf (s : Kt) : Prop where
  t4 : s.t ≤ 4
  n9 : s.n ≤ 9
  nt : 2 * s.t + 1 ≤ s.n
  c8 : s.cnt ≤ 8
  key : ∀ h l, s.f h = some l → (1 ≤ h ∧ h ≤ (s.last : Int)) ∧ l.length = s.n ∧ ∀ x ∈ l, 0 ≤ x ∧ x ≤ 2147483646
def k0 (n t : Nat) : Kt := ⟨n, t, 0, 0, fun _ => none⟩
theorem k0_wf {n t : Nat} (ht : t ≤ 4) (hn : n ≤ 9) (h : 2 * t + 1 ≤ n) : Kwf (k0 n t) := ⟨ht, hn, h, Nat.zero_le _, fun h l e => by cases e⟩
def kput (s : Kt) (l : List Int) : Kt := ⟨s.n, s.t, s.last + 1, s.cnt + 1, kset s.f ((s.last : Int) + 1) (some l)⟩
def kadd (s : Kt) (l : List Int) : Int × Int × Kt := if 8 ≤ s.cnt then (0, 2, s) else ((s.last : Int) + 1, 0, kput s l)
def kgen (s : Kt) (ds : List Int) : Int × Int × Kt := if ds.length = s.n * (s.t + 1) then kadd s (ksm s.n s.t true ds s.n) else (0, 1, s)
def kmix (s : Kt) (g h : Int) (a b c : Int) : Int × Int × Kt :=
  match s.f g, s.f h with
  | some l, some m => kadd s (mxl l m a b c s.n)
  | _, _ => (0, 4, s)
def kmul (s : Kt) (g h : Int) (ds : List Int) : Int × Int × Kt :=
  match s.f g, s.f h with
  | some l, some m => if ds.length = s.n * s.t then kadd s (tmO s.t l m ds s.n s.n) else (0, 1, s)
  | _, _ => (0, 4, s)
def ktrn (s : Kt) (h : Int) (l : List Int) : Kt := ⟨s.n, s.t, s.last, s.cnt, kset s.f h (some l)⟩
def krfr (s : Kt) (h : Int) (ds : List Int) : Int × Kt :=
  match s.f h with
  | some l => if ds.length = s.n * s.t then (0, ktrn s h (mxl l (ksm s.n s.t false ds s.n) 1 1 0 s.n)) else (1, s)
  | none => (4, s)
def kout (s : Kt) (h : Int) : Kt := ⟨s.n, s.t, s.last, s.cnt - 1, kset s.f h none⟩
def kdrp (s : Kt) (h : Int) : Int × Kt :=
  match s.f h with
  | some _ => (0, kout s h)
  | none => (4, s)
def Kop (s : Kt) (h x r : Int) : Prop := (s.f h = none ∧ x = 0 ∧ r = 4) ∨ ∃ l, s.f h = some l ∧ Opn (shl l s.n) s.n s.t x r
theorem Kop.one {s : Kt} {h x r y q : Int} (a : Kop s h x r) (b : Kop s h y q) : x = y ∧ r = q := by
  rcases a with ⟨a1, rfl, rfl⟩ | ⟨l, a1, a2⟩ <;> rcases b with ⟨b1, rfl, rfl⟩ | ⟨m, b1, b2⟩
  · exact ⟨rfl, rfl⟩
  · rw [a1] at b1; cases b1
  · rw [a1] at b1; cases b1
  · rw [a1] at b1
    obtain rfl := Option.some.inj b1
    exact a2.one b2
theorem kput_wf {s : Kt} {l : List Int} (h : Kwf s) (hc : s.cnt < 8) (hl : l.length = s.n) (hb : ∀ x ∈ l, 0 ≤ x ∧ x ≤ 2147483646) : Kwf (kput s l) := by
  refine ⟨h.t4, h.n9, h.nt, hc, fun i m e => ?_⟩
  unfold kput kset at e
  simp only at e
  split at e
  · rename_i hi
    obtain rfl := Option.some.inj e
    refine ⟨⟨by omega, ?_⟩, hl, hb⟩
    show i ≤ ((s.last + 1 : Nat) : Int)
    omega
  · have := h.key i m e
    refine ⟨⟨this.1.1, ?_⟩, this.2⟩
    show i ≤ ((s.last + 1 : Nat) : Int)
    omega
theorem ktrn_wf {s : Kt} {h : Int} {l m : List Int} (w : Kwf s) (hm : s.f h = some m) (hl : l.length = s.n) (hb : ∀ x ∈ l, 0 ≤ x ∧ x ≤ 2147483646) : Kwf (ktrn s h l) := by
  refine ⟨w.t4, w.n9, w.nt, w.c8, fun i k e => ?_⟩
  unfold ktrn kset at e
  simp only at e
  split at e
  · rename_i hi
    obtain rfl := Option.some.inj e
    have := w.key h m hm
    rw [hi]
    exact ⟨this.1, hl, hb⟩
  · exact w.key i k e
theorem kout_wf {s : Kt} {h : Int} (w : Kwf s) : Kwf (kout s h) := by
  refine ⟨w.t4, w.n9, w.nt, ?_, fun i k e => ?_⟩
  · have := w.c8
    show s.cnt - 1 ≤ 8
    omega
  · unfold kout kset at e
    simp only at e
    split at e
    · cases e
    · exact w.key i k e
theorem ksm_bd (n t : Nat) (b : Bool) (ds : List Int) (i : Nat) : ∀ x ∈ ksm n t b ds i, 0 ≤ x ∧ x ≤ 2147483646 := (ksm_ksh n t b ds i).bd
theorem tmO_bd' (t : Nat) (a b ds : List Int) (n k : Nat) : ∀ x ∈ tmO t a b ds n k, 0 ≤ x ∧ x ≤ 2147483646 := fun x hx => by
  unfold tmO at hx
  obtain ⟨j, _, rfl⟩ := List.mem_map.1 hx
  exact nm_bd _
theorem kadd_cases (s : Kt) (l : List Int) : (8 ≤ s.cnt ∧ kadd s l = (0, 2, s)) ∨ (s.cnt < 8 ∧ kadd s l = ((s.last : Int) + 1, 0, kput s l)) := by
  unfold kadd
  split
  · exact .inl ⟨by assumption, rfl⟩
  · exact .inr ⟨by omega, rfl⟩
end
section
open Crm Go.RowKit
theorem cell_block {w w' : World} {p : Addr} (e : w'.heap[p.block]? = w.heap[p.block]?) : w'.cell? p = w.cell? p := by unfold World.cell?; rw [e]
theorem add_block (x : Addr) (i : Nat) : (x.add i).block = x.block := by unfold Addr.add; split <;> rfl
theorem Rd.block {w w' : World} {a : Option Addr} {n c : Nat} {xs : List Int} (h : Rd w a n c xs) (hk : ∀ x, a = some x → w'.heap[x.block]? = w.heap[x.block]?) : Rd w' a n c xs := by
  refine ⟨h.len, h.cap, h.max, h.bd, h.nil, fun x hx i hi => ?_⟩
  have e : w'.cell? (x.add i) = w.cell? (x.add i) := cell_block (by rw [add_block]; exact hk x hx)
  rw [e]
  exact h.cell x hx i hi
structure Tch (w w' : World) (G : Nat → Prop) : Prop where
  os : w'.os = w.os
  tape : w'.tape = w.tape
  output : w'.output = w.output
  size : w.heap.size ≤ w'.heap.size
  block : ∀ i, i < w.heap.size → ¬ G i → w'.heap[i]? = w.heap[i]?
def Gnx (G : Nat → Prop) (w w' : World) : Nat → Prop := fun i => G i ∨ (w.heap.size ≤ i ∧ i < w'.heap.size)
theorem Tch.refl (w : World) (G : Nat → Prop) : Tch w w G := ⟨rfl, rfl, rfl, Nat.le_refl _, fun _ _ _ => rfl⟩
theorem Tch.of_below {w w' : World} {G : Nat → Prop} (h : Below w.heap.size w w') : Tch w w' G := ⟨h.os, h.tape, h.output, h.size, fun i hi _ => h.block i hi⟩
theorem Tch.trans {w w1 w2 : World} {G : Nat → Prop} (h : Tch w w1 G) (k : Tch w1 w2 (Gnx G w w1)) : Tch w w2 G :=
  ⟨k.os.trans h.os, k.tape.trans h.tape, k.output.trans h.output, Nat.le_trans h.size k.size, fun i hi hn => (k.block i (Nat.lt_of_lt_of_le hi h.size) (fun g => g.elim hn (fun g => by omega))).trans (h.block i hi hn)⟩
theorem Tch.below {B : Nat} {w0 w w' : World} {G : Nat → Prop} (h : Tch w w' G) (hb : Below B w0 w) (hG : ∀ i, G i → B ≤ i) (hB : B ≤ w.heap.size) : Below B w0 w' :=
  ⟨h.os.trans hb.os, h.tape.trans hb.tape, h.output.trans hb.output, Nat.le_trans hb.size h.size, fun i hi => (h.block i (by omega) (fun g => by have := hG i g; omega)).trans (hb.block i hi)⟩
theorem Tch.rd {w w' : World} {G : Nat → Prop} {a : Option Addr} {n c : Nat} {xs : List Int} (h : Tch w w' G) (r : Rd w a n c xs) (hn : 0 < n) (hG : ∀ x, a = some x → ¬ G x.block) : Rd w' a n c xs := by
  refine r.block fun x hx => h.block _ ?_ (hG x hx)
  obtain ⟨b, o, rfl, hb, _⟩ := r.at hn
  obtain rfl := Option.some.inj hx
  exact hb
theorem Gnx.lt {G : Nat → Prop} {w w' : World} (h : ∀ i, G i → i < w.heap.size) (hs : w.heap.size ≤ w'.heap.size) : ∀ i, Gnx G w w' i → i < w'.heap.size := fun i g => g.elim (fun g => Nat.lt_of_lt_of_le (h i g) hs) (fun g => g.2)
theorem Gnx.ge {G : Nat → Prop} {w w' : World} {B : Nat} (h : ∀ i, G i → B ≤ i) (hs : B ≤ w.heap.size) : ∀ i, Gnx G w w' i → B ≤ i := fun i g => g.elim (h i) (fun g => Nat.le_trans hs g.1)
theorem Gnx.sub {G : Nat → Prop} {w w1 w2 : World} (h : w.heap.size ≤ w1.heap.size) (hs : w1.heap.size ≤ w2.heap.size) : ∀ i, Gnx (Gnx G w w1) w1 w2 i → Gnx G w w2 i := fun i g =>
  g.elim (fun g => g.elim .inl (fun g => .inr ⟨g.1, by omega⟩)) (fun g => .inr ⟨by omega, g.2⟩)

structure Sto (TY : TypeId) (w : World) (p b : Nat) (V : Int → Option Value) (s : Kt) : Prop where
  row : w.heap[p]? = some (.cells #[.int .i64 s.n, .int .i64 s.t, .int .i64 s.last, .map (some b)] TY (0, 0))
  map : MapI w b s.cnt V
  val : ∀ h, (s.f h = none ∧ V h = none) ∨ ∃ l a c, s.f h = some l ∧ V h = some (.slice a s.n c) ∧ Rd w a s.n c l
  wf : Kwf s
def Ftp (p b : Nat) (V : Int → Option Value) : Nat → Prop := fun i => i = p ∨ i = b ∨ ∃ h a m c, V h = some (.slice (some a) m c) ∧ a.block = i
theorem Sto.keep {TY : TypeId} {w w' : World} {p b : Nat} {V : Int → Option Value} {s : Kt} (h : Sto TY w p b V s) (hk : ∀ i, Ftp p b V i → w'.heap[i]? = w.heap[i]?) : Sto TY w' p b V s := by
  refine ⟨by rw [hk p (.inl rfl)]; exact h.row, h.map.block (hk b (.inr (.inl rfl))), fun i => ?_, h.wf⟩
  rcases h.val i with e | ⟨l, a, c, e1, e2, e3⟩
  · exact .inl e
  · exact .inr ⟨l, a, c, e1, e2, e3.block fun x hx => hk _ (.inr (.inr ⟨i, x, _, _, by rw [← hx]; exact e2, rfl⟩))⟩
def Stx (TY : TypeId) (w : World) (p : Nat) (G : Nat → Prop) (s : Kt) : Prop := (∃ b V, Sto TY w p b V s ∧ ∀ i, Ftp p b V i → G i) ∧ ∀ i, G i → i < w.heap.size
theorem Stx.keep {TY : TypeId} {w w' : World} {p : Nat} {G : Nat → Prop} {s : Kt} (h : Stx TY w p G s) (hk : ∀ i, G i → w'.heap[i]? = w.heap[i]?) : Stx TY w' p G s := by
  obtain ⟨⟨b, V, h1, h2⟩, h3⟩ := h
  refine ⟨⟨b, V, h1.keep fun i hi => hk i (h2 i hi), h2⟩, fun i hi => ?_⟩
  have e := hk i hi
  rw [Array.getElem?_eq_getElem (h3 i hi)] at e
  exact (Array.getElem?_eq_some_iff.1 e).1
theorem Stx.mono {TY : TypeId} {w : World} {p : Nat} {G G' : Nat → Prop} {s : Kt} (h : Stx TY w p G s) (hG : ∀ i, G i → G' i) (hl : ∀ i, G' i → i < w.heap.size) : Stx TY w p G' s := by
  obtain ⟨⟨b, V, h1, h2⟩, h3⟩ := h
  exact ⟨⟨b, V, h1, fun i hi => hG i (h2 i hi)⟩, hl⟩
theorem Stx.below {TY : TypeId} {w w' : World} {p : Nat} {G : Nat → Prop} {s : Kt} (h : Stx TY w p G s) (hb : Below w.heap.size w w') : Stx TY w' p (Gnx G w w') s :=
  (h.keep fun i hi => hb.block i (h.2 i hi)).mono (fun _ => .inl) (Gnx.lt h.2 hb.size)
theorem Stx.same {TY : TypeId} {w w' : World} {p : Nat} {G : Nat → Prop} {s : Kt} (h : Stx TY w p G s) (hb : Below w.heap.size w w') : Stx TY w' p G s := h.keep fun i hi => hb.block i (h.2 i hi)
theorem Stx.wf {TY : TypeId} {w : World} {p : Nat} {G : Nat → Prop} {s : Kt} (h : Stx TY w p G s) : Kwf s := let ⟨⟨_, _, h1, _⟩, _⟩ := h; h1.wf
theorem Stx.aside {TY : TypeId} {w w' : World} {p : Nat} {G G' : Nat → Prop} {s : Kt} (h : Stx TY w p G s) (ht : Tch w w' G') (hd : ∀ i, G i → ¬ G' i) : Stx TY w' p G s := h.keep fun i hi => ht.block i (h.2 i hi) (hd i hi)
def Kde (TY : TypeId) (p : Nat) (G : Nat → Prop) (r : Int × Int × Kt) (w : World) (e : Ending) (w' : World) : Prop :=
  e = .returned (.tuple #[.int .i64 r.1, .int .i64 r.2.1]) ∧ Stx TY w' p (Gnx G w w') r.2.2 ∧ Tch w w' G
def Kte (TY : TypeId) (p : Nat) (G : Nat → Prop) (r : Int × Kt) (w : World) (e : Ending) (w' : World) : Prop :=
  e = .returned (.int .i64 r.1) ∧ Stx TY w' p (Gnx G w w') r.2 ∧ Tch w w' G
theorem Kde.behind {TY : TypeId} {p : Nat} {G : Nat → Prop} {r : Int × Int × Kt} {w w1 w' : World} {e : Ending} (hb : Below w.heap.size w w1) (h : Kde TY p (Gnx G w w1) r w1 e w') (hG : ∀ i, G i → i < w.heap.size) : Kde TY p G r w e w' := by
  obtain ⟨h1, h2, h3⟩ := h
  refine ⟨h1, h2.mono (Gnx.sub hb.size h3.size) (Gnx.lt hG (Nat.le_trans hb.size h3.size)), (Tch.of_below hb).trans h3⟩
theorem Kte.behind {TY : TypeId} {p : Nat} {G : Nat → Prop} {r : Int × Kt} {w w1 w' : World} {e : Ending} (hb : Below w.heap.size w w1) (h : Kte TY p (Gnx G w w1) r w1 e w') (hG : ∀ i, G i → i < w.heap.size) : Kte TY p G r w e w' := by
  obtain ⟨h1, h2, h3⟩ := h
  refine ⟨h1, h2.mono (Gnx.sub hb.size h3.size) (Gnx.lt hG (Nat.le_trans hb.size h3.size)), (Tch.of_below hb).trans h3⟩
theorem Kde.after {TY : TypeId} {p : Nat} {G : Nat → Prop} {r : Int × Int × Kt} {w w1 w' : World} {e : Ending} (hb : Below w.heap.size w w1) (h : Kde TY p G r w1 e w') (hG : ∀ i, G i → i < w.heap.size) : Kde TY p G r w e w' := by
  obtain ⟨h1, h2, h3⟩ := h
  have hs := hb.size
  refine ⟨h1, h2.mono (fun i g => g.elim .inl (fun g => .inr ⟨by omega, g.2⟩)) (Gnx.lt hG (Nat.le_trans hs h3.size)), ⟨h3.os.trans hb.os, h3.tape.trans hb.tape, h3.output.trans hb.output, Nat.le_trans hs h3.size, fun i hi hn => (h3.block i (by omega) hn).trans (hb.block i hi)⟩⟩
theorem Kte.after {TY : TypeId} {p : Nat} {G : Nat → Prop} {r : Int × Kt} {w w1 w' : World} {e : Ending} (hb : Below w.heap.size w w1) (h : Kte TY p G r w1 e w') (hG : ∀ i, G i → i < w.heap.size) : Kte TY p G r w e w' := by
  obtain ⟨h1, h2, h3⟩ := h
  have hs := hb.size
  refine ⟨h1, h2.mono (fun i g => g.elim .inl (fun g => .inr ⟨by omega, g.2⟩)) (Gnx.lt hG (Nat.le_trans hs h3.size)), ⟨h3.os.trans hb.os, h3.tape.trans hb.tape, h3.output.trans hb.output, Nat.le_trans hs h3.size, fun i hi hn => (h3.block i (by omega) hn).trans (hb.block i hi)⟩⟩
theorem gnx_new {G : Nat → Prop} {w w1 : World} {a : Option Addr} {n c : Nat} {xs : List Int} (r : Rd w1 a n c xs) (hn : 0 < n) (hx : ∀ x, a = some x → w.heap.size ≤ x.block) : ∀ x, a = some x → Gnx G w w1 x.block := fun x e => by
  obtain ⟨b, o, e2, hb, _⟩ := r.at hn
  rw [e] at e2
  obtain rfl := Option.some.inj e2
  exact .inr ⟨hx _ e, hb⟩
theorem Sto.four {TY : TypeId} {w : World} {p b : Nat} {V : Int → Option Value} {s : Kt} (h : Sto TY w p b V s) : w.cell? ⟨p, 0, none⟩ = some (.int .i64 s.n) ∧ w.cell? ⟨p, 1, none⟩ = some (.int .i64 s.t) ∧ w.cell? ⟨p, 2, none⟩ = some (.int .i64 s.last) ∧ w.cell? ⟨p, 3, none⟩ = some (.map (some b)) := by
  refine ⟨?_, ?_, ?_, ?_⟩ <;> (rw [cell_of_row w p _ _ _ (0, 0) h.row]; rfl)
theorem Sto.lt {TY : TypeId} {w : World} {p b : Nat} {V : Int → Option Value} {s : Kt} (h : Sto TY w p b V s) : p < w.heap.size := (Array.getElem?_eq_some_iff.1 h.row).1
theorem Sto.ne {TY : TypeId} {w : World} {p b : Nat} {V : Int → Option Value} {s : Kt} (h : Sto TY w p b V s) : b ≠ p := fun e => by
  obtain ⟨es, ck, hm⟩ := h.map.map
  rw [e, h.row] at hm
  cases hm
theorem Sto.apart {TY : TypeId} {w : World} {p b : Nat} {V : Int → Option Value} {s : Kt} (h : Sto TY w p b V s) {a : Addr} {n c : Nat} {xs : List Int} (r : Rd w (some a) n c xs) (hn : 0 < n) : a.block ≠ p ∧ a.block ≠ b := by
  obtain ⟨g, o, e, _, hc⟩ := r.at hn
  obtain rfl := Option.some.inj e
  have h0 := hc 0 hn
  constructor
  · intro e
    simp only at e
    subst e
    rw [cell_of_row w g _ _ _ (0, 0) h.row] at h0
    have hcase : o + 0 = 0 ∨ o + 0 = 1 ∨ o + 0 = 2 ∨ o + 0 = 3 ∨ 4 ≤ o + 0 := by omega
    rcases hcase with e | e | e | e | e
    · rw [e] at h0; simp at h0
    · rw [e] at h0; simp at h0
    · rw [e] at h0; simp at h0
    · rw [e] at h0; simp at h0
    · rw [Array.getElem?_eq_none (by simpa using e)] at h0
      cases h0
  · intro e
    simp only at e
    subst e
    obtain ⟨es, ck, hm⟩ := h.map.map
    unfold World.cell? at h0
    simp [hm] at h0
theorem Sto.put {TY : TypeId} {w w' : World} {p b : Nat} {V : Int → Option Value} {s : Kt} {a : Option Addr} {c : Nat} {l : List Int} (h : Sto TY w p b V s) (hc : s.cnt < 8) (hl : ∀ x ∈ l, 0 ≤ x ∧ x ≤ 2147483646) (r : Rd w a s.n c l)
    (hm : MapI w' b (if (V ((s.last : Int) + 1)).isSome then s.cnt else s.cnt + 1) (mset V ((s.last : Int) + 1) (some (.slice a s.n c))))
    (hr : w'.heap[p]? = some (.cells #[.int .i64 s.n, .int .i64 s.t, .int .i64 ((s.last : Int) + 1), .map (some b)] TY (0, 0))) (hk : ∀ i, i < w.heap.size → i ≠ p → i ≠ b → w'.heap[i]? = w.heap[i]?) :
    Sto TY w' p b (mset V ((s.last : Int) + 1) (some (.slice a s.n c))) (kput s l) := by
  have hn : 0 < s.n := by have := h.wf.nt; omega
  have hrd : ∀ {a : Option Addr} {c : Nat} {l : List Int}, Rd w a s.n c l → Rd w' a s.n c l := fun {a c l} r => r.block fun x hx => by
    subst hx
    have h1 := h.apart r hn
    obtain ⟨g, o, e, hg, _⟩ := r.at hn
    obtain rfl := Option.some.inj e
    exact hk _ hg h1.1 h1.2
  have hv : V ((s.last : Int) + 1) = none := by
    rcases h.val ((s.last : Int) + 1) with e | ⟨m, _, _, e, _⟩
    · exact e.2
    · have := (h.wf.key _ m e).1
      omega
  refine ⟨?_, ?_, fun i => ?_, kput_wf h.wf hc r.len hl⟩
  · rw [hr]; unfold kput; simp
  · rw [hv] at hm
    exact hm
  · unfold mset
    show (kset s.f ((s.last : Int) + 1) (some l) i = none ∧ _) ∨ ∃ l_1 a_1 c_1, kset s.f ((s.last : Int) + 1) (some l) i = some l_1 ∧ _ ∧ Rd w' a_1 s.n c_1 l_1
    by_cases e : i = (s.last : Int) + 1
    · subst e
      rw [kset_same, if_pos rfl]
      exact .inr ⟨l, a, c, rfl, rfl, hrd r⟩
    · rw [kset_other _ _ e, if_neg e]
      rcases h.val i with e | ⟨l, a, c, e1, e2, e3⟩
      · exact .inl e
      · exact .inr ⟨l, a, c, e1, e2, hrd e3⟩
theorem Sto.turn {TY : TypeId} {w w' : World} {p b : Nat} {V : Int → Option Value} {s : Kt} {a : Option Addr} {c : Nat} {l m : List Int} {k : Int} (h : Sto TY w p b V s) (hm0 : s.f k = some m) (hl : ∀ x ∈ l, 0 ≤ x ∧ x ≤ 2147483646) (r : Rd w a s.n c l)
    (hm : MapI w' b (if (V k).isSome then s.cnt else s.cnt + 1) (mset V k (some (.slice a s.n c)))) (hk : ∀ i, i < w.heap.size → i ≠ b → w'.heap[i]? = w.heap[i]?) :
    Sto TY w' p b (mset V k (some (.slice a s.n c))) (ktrn s k l) := by
  have hn : 0 < s.n := by have := h.wf.nt; omega
  have hrd : ∀ {a : Option Addr} {c : Nat} {l : List Int}, Rd w a s.n c l → Rd w' a s.n c l := fun {a c l} r => r.block fun x hx => by
    subst hx
    have h1 := h.apart r hn
    obtain ⟨g, o, e, hg, _⟩ := r.at hn
    obtain rfl := Option.some.inj e
    exact hk _ hg h1.2
  have hv : (V k).isSome = true := by
    rcases h.val k with e | ⟨m, _, _, _, e, _⟩
    · rw [e.1] at hm0; cases hm0
    · rw [e]; rfl
  refine ⟨by rw [hk p h.lt h.ne.symm]; exact h.row, ?_, fun i => ?_, ktrn_wf h.wf hm0 r.len hl⟩
  · rw [hv] at hm
    exact hm
  · unfold mset
    show (kset s.f k (some l) i = none ∧ _) ∨ ∃ l_1 a_1 c_1, kset s.f k (some l) i = some l_1 ∧ _ ∧ Rd w' a_1 s.n c_1 l_1
    by_cases e : i = k
    · subst e
      rw [kset_same, if_pos rfl]
      exact .inr ⟨l, a, c, rfl, rfl, hrd r⟩
    · rw [kset_other _ _ e, if_neg e]
      rcases h.val i with e | ⟨l, a, c, e1, e2, e3⟩
      · exact .inl e
      · exact .inr ⟨l, a, c, e1, e2, hrd e3⟩
theorem Sto.out {TY : TypeId} {w w' : World} {p b : Nat} {V : Int → Option Value} {s : Kt} {m : List Int} {k : Int} (h : Sto TY w p b V s) (hm0 : s.f k = some m)
    (hm : MapI w' b (if (V k).isSome then s.cnt - 1 else s.cnt) (mset V k none)) (hk : ∀ i, i < w.heap.size → i ≠ b → w'.heap[i]? = w.heap[i]?) : Sto TY w' p b (mset V k none) (kout s k) := by
  have hn : 0 < s.n := by have := h.wf.nt; omega
  have hrd : ∀ {a : Option Addr} {c : Nat} {l : List Int}, Rd w a s.n c l → Rd w' a s.n c l := fun {a c l} r => r.block fun x hx => by
    subst hx
    have h1 := h.apart r hn
    obtain ⟨g, o, e, hg, _⟩ := r.at hn
    obtain rfl := Option.some.inj e
    exact hk _ hg h1.2
  have hv : (V k).isSome = true := by
    rcases h.val k with e | ⟨m, _, _, _, e, _⟩
    · rw [e.1] at hm0; cases hm0
    · rw [e]; rfl
  refine ⟨by rw [hk p h.lt h.ne.symm]; exact h.row, ?_, fun i => ?_, kout_wf h.wf⟩
  · rw [hv] at hm
    exact hm
  · unfold mset
    show (kset s.f k none i = none ∧ _) ∨ ∃ l_1 a_1 c_1, kset s.f k none i = some l_1 ∧ _ ∧ Rd w' a_1 s.n c_1 l_1
    by_cases e : i = k
    · subst e
      rw [kset_same, if_pos rfl]
      exact .inl ⟨rfl, rfl⟩
    · rw [kset_other _ _ e, if_neg e]
      rcases h.val i with e | ⟨l, a, c, e1, e2, e3⟩
      · exact .inl e
      · exact .inr ⟨l, a, c, e1, e2, hrd e3⟩
theorem zeroL (w : World) : (zeroValue 53).run Tryz.prog w = .ok (.slice none 0 0) w := by kernel_rfl
def hsl (s : Kt) (hs : List Int) (k : Nat) : Bool := (hs.take k).all fun h => (s.f h).isSome
theorem step_appS {P : Program} {T E : TypeId} (hT : P.underlying T = some (.slice E)) (info : (P.info? E).map (fun i => (i.zero, i.size, i.bytes)) = some (some (.agg #[.int .i64 0, .int .u64 0]), 2, 16))
    (w : World) {w1 : World} {ops : Array Oper} {o : Oper} {a : Act} {K : Act → World → Prop} {Q : Exit → Act → World → Prop} {F : Prop} (hgd : o.guard = none) (s x : Operand)
    (ho : o.op = .call { callee := .builtin .append, args := #[s, x], argTypes := #[T, T] })
    (base : Nat) (v : Value) (n : Nat) (l : List (Int × Int)) (hs : a.eval s = v) (hown : w.ownsRow base E 2 v n (shc l)) (p q : Int) (hx : a.eval x = .slice (some ⟨w.heap.size, 0, none⟩) 1 1)
    (hw1 : w1 = w.alloc (.cells #[.int .i64 p, .int .u64 q] E)) (hn : n ≤ 1000000) (hbase : base ≤ w.heap.size)
    (h : ∀ v' w', w'.ownsRow base E 2 v' (n + 1) (shc (l ++ [(p, q)])) → Below base w w' → K (a.put o.dst v') w') :
    if Region.wanted o (yielded ops a.tmps) = true then Oper.wp P o a w1 K Q else F := by
  subst hw1
  obtain ⟨i0, hi, hz0, hz1, hz2⟩ := info_parts info
  refine step_append_lies _ hgd s x T ho base E i0 (.agg #[.int .i64 0, .int .u64 0]) 2 16 hT hi hz0 hz1 hz2 rfl (by decide) v n _ hs (hown.alloc _) ⟨w.heap.size, 0, none⟩ 1 1 [.int .i64 p, .int .u64 q] hx rfl ?_ ?_ (by decide) (by unfold maxLen; omega) (by omega) (by simp; omega) _ rfl ?_
  · intro j u hj
    match j, hj with
    | 0, hj => simp at hj; subst hj; rw [Addr.add_lit]; exact cell_alloc0 _ _ _ _
    | 1, hj => simp at hj; subst hj; rw [Addr.add_lit]; exact cell_alloc1 _ _ _ _
  · intro u hu; simp at hu; rcases hu with rfl | rfl <;> rfl
  · intro g cap w' hown' hgrow _ _
    refine h _ w' (by rw [shc_snoc]; exact hown') ?_
    exact ((Below.refl _ _).alloc hbase _).grown hgrow (by simp; omega) (fun k hk => (hown.lt k hk).1)

theorem RdW.nbd {w : World} {a : Option Addr} {n c : Nat} {l : List (Int × List Int)} (h : RdW w a n c l) {i : Nat} (hi : i < n) : ∀ x ∈ tc l i, 0 ≤ x ∧ x ≤ 18446744073709551615 := by
  obtain ⟨b, o, x, ai, ni, ci, row, _, _, _, HRow, _, _, _, _, hrow⟩ := h.one hi
  rw [HRow.out]; exact hrow.bd
theorem Rd.tail {w : World} {b o n c : Nat} {xs : List Int} {a : Option Addr} (h : Rd w (some ⟨b, o, none⟩) (n + 1) (c + 1) xs) (ha : (0 < n → a = some ⟨b, o + 1, none⟩) ∧ a ≠ none) : Rd w a n c (xs.drop 1) := by
  have h1 := h.cap
  have h2 := h.max
  refine ⟨by have := h.len; simp; omega, by omega, by omega, fun x hx => h.bd x (List.mem_of_mem_drop hx), fun e => absurd e ha.2, fun x hx i hi => ?_⟩
  rw [ha.1 (by omega)] at hx
  obtain rfl := Option.some.inj hx
  have := h.cell _ rfl (i + 1) (by omega)
  rw [Addr.add_lit] at this ⊢
  rw [show o + 1 + i = o + (i + 1) by omega, this]
  congr 2
  simp
theorem Blk.own {w : World} {g n B : Nat} {L : List Int} (h : Blk w g L) (hl : L.length = n) (hB : B ≤ g) (hn : n ≤ 1000) : w.ownsRow B 77 1 (.slice (some ⟨g, 0, none⟩) n n) n (L.map (Value.int .u64)) :=
  ⟨by simp [hl], .inr ⟨g, n, _, rfl, hB, h, Nat.le_refl _, by unfold maxLen; omega, by simp [hl], by rw [List.take_of_length_le (by simp [hl])]⟩⟩
def kat (t : Nat) (sec : Bool) (i : Nat) : Nat := if sec then i * (t + 1) else i * t
theorem kdr_true (t : Nat) (ds : List Int) (i : Nat) : kdr t true ds i = ds.getD (kat t true i) 0 :: (ds.drop (kat t true i + 1)).take t := rfl
theorem kdr_fals (t : Nat) (ds : List Int) (i : Nat) : kdr t false ds i = 0 :: (ds.drop (kat t false i)).take t := rfl
theorem infoU1 : (Tryz.prog.info? 77).map (·.size) = some 1 := by kernel_rfl
theorem sto_new (w : World) {n t : Nat} (ht : t ≤ 4) (hn : n ≤ 9) (h : 2 * t + 1 ≤ n) (TY : TypeId) {A : World} (hA : A = (w.alloc (.map #[] 0)).alloc (.cells #[.int .i64 n, .int .i64 t, .int .i64 0, .map (some w.heap.size)] TY)) :
    Stx TY A (w.heap.size + 1) (fun i => w.heap.size ≤ i ∧ i < w.heap.size + 2) (k0 n t) ∧ Below w.heap.size w A := by
  subst hA
  have h1 := MapI.made w
  have e1 : (w.alloc (.map #[] 0)).heap.size = w.heap.size + 1 := by simp
  have hb : Below (w.alloc (.map #[] 0)).heap.size (w.alloc (.map #[] 0)) ((w.alloc (.map #[] 0)).alloc (.cells #[.int .i64 n, .int .i64 t, .int .i64 0, .map (some w.heap.size)] TY)) := (Below.refl _ _).alloc (Nat.le_refl _) _
  have h2 := heap_alloc_new (w.alloc (.map #[] 0)) (.cells #[.int .i64 n, .int .i64 t, .int .i64 0, .map (some w.heap.size)] TY)
  rw [e1] at h2
  refine ⟨⟨⟨w.heap.size, fun _ => none, ⟨h2, h1.below hb h1.lt, fun i => .inl ⟨rfl, rfl⟩, k0_wf ht hn h⟩, fun i hi => ?_⟩, fun i hi => by simp; omega⟩, ((Below.refl _ _).alloc (Nat.le_refl _) _).alloc (by simp) _⟩
  rcases hi with rfl | rfl | ⟨_, _, _, _, e, _⟩
  · omega
  · omega
  · cases e
theorem wrap_i64 {x : Int} (h0 : -1000000 ≤ x) (h1 : x ≤ 1000000) : IntKind.i64.wrap x = x := by
  unfold IntKind.wrap
  simp [IntKind.signed, IntKind.bits]
  omega
def Far (L : List Value) (n lo hi : Nat) : Prop := ∀ p, p < n → ∀ gg, (L.getD p (.slice none 0 0)).ownBlock = some gg → gg < lo ∨ hi ≤ gg
theorem Sto.slice {TY : TypeId} {w : World} {p b : Nat} {V : Int → Option Value} {s : Kt} (h : Sto TY w p b V s) {x : Int} {l : List Int} (hf : s.f x = some l) : ∃ a c, V x = some (Value.slice a s.n c) ∧ Rd w a s.n c l := by
  rcases h.val x with e | ⟨l', a, c, e1, e2, e3⟩
  · rw [e.1] at hf; cases hf
  · rw [e1] at hf
    obtain rfl := Option.some.inj hf
    exact ⟨a, c, e2, e3⟩
theorem stx_turn {TY : TypeId} {w w' : World} {p b : Nat} {G : Nat → Prop} {V : Int → Option Value} {s : Kt} {a : Option Addr} {c : Nat} {l m : List Int} {k : Int} (h : Sto TY w p b V s) (hF : ∀ i, Ftp p b V i → G i) (hGl : ∀ i, G i → i < w.heap.size) (hm0 : s.f k = some m) (hl : ∀ x ∈ l, 0 ≤ x ∧ x ≤ 2147483646) (r : Rd w a s.n c l) (hG : ∀ x, a = some x → G x.block)
    (hm : MapI w' b (if (V k).isSome then s.cnt else s.cnt + 1) (mset V k (some (.slice a s.n c)))) (hg : w.grownBy w' (some b)) (e : Ending) (he : e = .returned (.int .i64 0)) : Kte TY p G (0, ktrn s k l) w e w' := by
  have hk : ∀ i, i < w.heap.size → i ≠ b → w'.heap[i]? = w.heap[i]? := fun i hi hne => hg.block i hi (by simpa using hne)
  refine ⟨he, ⟨⟨b, _, h.turn hm0 hl r hm hk, fun i hi => .inl ?_⟩, Gnx.lt hGl hg.size⟩, ⟨hg.os, hg.tape, hg.output, hg.size, fun i hi hn => hk i hi (fun e => hn (hF _ (.inr (.inl e))))⟩⟩
  rcases hi with rfl | rfl | ⟨hh, a', m, c', e, rfl⟩
  · exact hF _ (.inl rfl)
  · exact hF _ (.inr (.inl rfl))
  · unfold mset at e
    split at e
    · simp only [Option.some.injEq, Value.slice.injEq] at e
      exact hG a' e.1
    · exact hF _ (.inr (.inr ⟨hh, a', m, c', e, rfl⟩))
def Kst (w : World) (p : Nat) (G : Nat → Prop) (s : Kt) : Prop := Stx 118 w p G s
theorem Kst.lt {w : World} {p : Nat} {G : Nat → Prop} {s : Kt} (h : Kst w p G s) : ∀ i, G i → i < w.heap.size := h.2
theorem Kst.wf {w : World} {p : Nat} {G : Nat → Prop} {s : Kt} (h : Kst w p G s) : Kwf s := Stx.wf h
theorem Kst.same {w w' : World} {p : Nat} {G : Nat → Prop} {s : Kt} (h : Kst w p G s) (hb : Below w.heap.size w w') : Kst w' p G s := Stx.same h hb
theorem Kst.aside {w w' : World} {p : Nat} {G G' : Nat → Prop} {s : Kt} (h : Kst w p G s) (ht : Tch w w' G') (hd : ∀ i, G i → ¬ G' i) : Kst w' p G s := Stx.aside h ht hd
def Kke (p : Nat) (G : Nat → Prop) (r : Int × Int × Kt) (w : World) (e : Ending) (w' : World) : Prop :=
  e = .returned (.tuple #[.int .i64 r.1, .int .i64 r.2.1]) ∧ Kst w' p (Gnx G w w') r.2.2 ∧ Tch w w' G
def Kkt (p : Nat) (G : Nat → Prop) (r : Int × Kt) (w : World) (e : Ending) (w' : World) : Prop :=
  e = .returned (.int .i64 r.1) ∧ Kst w' p (Gnx G w w') r.2 ∧ Tch w w' G
def Knw (n t : Int) (w : World) (e : Ending) (w' : World) : Prop :=
  ((¬ ((0 ≤ t ∧ t ≤ 4) ∧ n ≤ 9 ∧ 2 * t + 1 ≤ n) ∧ e = .returned (.tuple #[.pointer none, .int .i64 1])) ∨
    ∃ (n' t' p : Nat) (G : Nat → Prop), n = (n' : Int) ∧ t = (t' : Int) ∧ t' ≤ 4 ∧ n' ≤ 9 ∧ 2 * t' + 1 ≤ n' ∧ e = .returned (.tuple #[.pointer (some ⟨p, 0, none⟩), .int .i64 0]) ∧ Kst w' p G (k0 n' t') ∧ ∀ i, G i → w.heap.size ≤ i) ∧ Below w.heap.size w w'
def Kpn (s : Kt) (x : Int) (w : World) (e : Ending) (w' : World) : Prop := ∃ y r, e = .returned (.tuple #[.int .u64 y, .int .i64 r]) ∧ Kop s x y r ∧ Below w.heap.size w w'
theorem Kop.val {s : Kt} {x y r : Int} (h : Kop s x y r) : 0 ≤ y ∧ y ≤ 2147483646 := by
  rcases h with ⟨_, rfl, _⟩ | ⟨l, _, ⟨_, _, rfl⟩ | ⟨_, ⟨S, _, _, rfl, _⟩ | ⟨_, rfl, _⟩⟩⟩
  · omega
  · omega
  · exact nm_bd _
  · omega
def KcNew : Prop := ∀ (n t : Int) (w : World), i64r n → i64r t → Calls Tryz.prog 94 #[.int .i64 n, .int .i64 t] w (Knw n t w)
def KcGen : Prop := ∀ (p : Nat) (G : Nat → Prop) (s : Kt) (a : Option Addr) (m c : Nat) (ds : List Int) (w : World), Kst w p G s → Rd w a m c ds → s.last ≤ 1000000 → Calls Tryz.prog 46 #[.pointer (some ⟨p, 0, none⟩), .slice a m c] w (Kke p G (kgen s ds) w)
def KcRefresh : Prop := ∀ (p : Nat) (G : Nat → Prop) (s : Kt) (x : Int) (a : Option Addr) (m c : Nat) (ds : List Int) (w : World), Kst w p G s → i64r x → Rd w a m c ds → Calls Tryz.prog 49 #[.pointer (some ⟨p, 0, none⟩), .int .i64 x, .slice a m c] w (Kkt p G (krfr s x ds) w)
def KcTweak : Prop := ∀ (p : Nat) (G : Nat → Prop) (s : Kt) (x u : Int) (w : World), Kst w p G s → i64r x → 0 ≤ u → u ≤ 18446744073709551615 → s.last ≤ 1000000 → Calls Tryz.prog 51 #[.pointer (some ⟨p, 0, none⟩), .int .i64 x, .int .u64 u] w (Kke p G (kmix s x x 1 0 u) w)
def KcCombine : Prop := ∀ (p : Nat) (G : Nat → Prop) (s : Kt) (g x u v : Int) (w : World), Kst w p G s → i64r g → i64r x → 0 ≤ u → u ≤ 18446744073709551615 → 0 ≤ v → v ≤ 18446744073709551615 → s.last ≤ 1000000 → Calls Tryz.prog 53 #[.pointer (some ⟨p, 0, none⟩), .int .i64 g, .int .i64 x, .int .u64 u, .int .u64 v] w (Kke p G (kmix s g x u v 0) w)
def KcMultiply : Prop := ∀ (p : Nat) (G : Nat → Prop) (s : Kt) (g x : Int) (a : Option Addr) (m c : Nat) (ds : List Int) (w : World), Kst w p G s → i64r g → i64r x → Rd w a m c ds → s.last ≤ 1000000 → Calls Tryz.prog 55 #[.pointer (some ⟨p, 0, none⟩), .int .i64 g, .int .i64 x, .slice a m c] w (Kke p G (kmul s g x ds) w)
def KcOpen : Prop := ∀ (p : Nat) (G : Nat → Prop) (s : Kt) (x : Int) (w : World), Kst w p G s → i64r x → Calls Tryz.prog 58 #[.pointer (some ⟨p, 0, none⟩), .int .i64 x] w (Kpn s x w)
def KcDrop : Prop := ∀ (p : Nat) (G : Nat → Prop) (s : Kt) (x : Int) (w : World), Kst w p G s → i64r x → Calls Tryz.prog 60 #[.pointer (some ⟨p, 0, none⟩), .int .i64 x] w (Kkt p G (kdrp s x) w)
def Wr1 (n : Nat) : Prop := 1 ≤ n ∧ n ≤ 9
def Wr2 (n m : Nat) : Prop := (1 ≤ n ∧ n ≤ 9) ∧ m = n
theorem wk_one (n : Nat) : Wk [n] 1 ↔ Wr1 n := by
  unfold Wk Wr1
  constructor
  · intro h; exact h.1
  · intro h
    refine ⟨h, fun i hi => ?_⟩
    obtain rfl : i = 0 := by omega
    rfl
theorem wk_two (n m : Nat) : Wk [n, m] 2 ↔ Wr2 n m := by
  unfold Wk Wr2
  constructor
  · intro h; exact ⟨h.1, h.2 1 (by omega)⟩
  · intro h
    refine ⟨h.1, fun i hi => ?_⟩
    match i, hi with
    | 0, _ => rfl
    | 1, _ => exact h.2
theorem len_two {n m : Nat} (h0 : n ≤ 9223372036854775807) (h1 : m ≤ 9223372036854775807) : ∀ i, [n, m].getD i 0 ≤ 9223372036854775807
  | 0 => h0
  | 1 => h1
  | i + 2 => by simp
theorem len_one {n : Nat} (h0 : n ≤ 9223372036854775807) : ∀ i, [n].getD i 0 ≤ 9223372036854775807
  | 0 => h0
  | i + 1 => by simp
def Gts (ok : Prop) (L : List Int) (n : Nat) (w : World) (e : Ending) (w' : World) : Prop :=
  ((¬ ok ∧ e = .returned (.tuple #[.slice none 0 0, .int .i64 5])) ∨ (ok ∧ ∃ v, e = .returned (.tuple #[v, .int .i64 0]) ∧ w'.ownsRow w.heap.size 77 1 v n (L.map (Value.int .u64)))) ∧ Below w.heap.size w w'
def Gme (t : Int) (n m q : Nat) (r : Int) : Prop :=
  ((t < 0 ∨ 4 < t) ∧ r = 1) ∨ ((0 ≤ t ∧ t ≤ 4) ∧ ((¬ Wr2 n m ∧ r = 5) ∨ (Wr2 n m ∧ (((n : Int) < 2 * t + 1 ∧ r = 4) ∨ (2 * t + 1 ≤ (n : Int) ∧ (((q : Int) ≠ (n : Int) * t ∧ r = 1) ∨ ((q : Int) = (n : Int) * t ∧ r = 0)))))))
theorem Gme.one {t : Int} {n m q : Nat} {r s : Int} (h : Gme t n m q r) (k : Gme t n m q s) : r = s := by
  rcases h with ⟨h1, rfl⟩ | ⟨h1, h2⟩ <;> rcases k with ⟨k1, rfl⟩ | ⟨k1, k2⟩
  · rfl
  · exfalso; omega
  · exfalso; omega
  · rcases h2 with ⟨h2, rfl⟩ | ⟨h2, h3⟩ <;> rcases k2 with ⟨k2, rfl⟩ | ⟨k2, k3⟩
    · rfl
    · exact absurd k2 h2
    · exact absurd h2 k2
    · rcases h3 with ⟨h3, rfl⟩ | ⟨h3, ⟨h4, rfl⟩ | ⟨h4, rfl⟩⟩ <;> rcases k3 with ⟨k3, rfl⟩ | ⟨k3, ⟨k4, rfl⟩ | ⟨k4, rfl⟩⟩
      all_goals first
        | rfl
        | (exfalso; omega)
        | exact absurd k4 h4
        | exact absurd h4 k4
theorem Gme.ok {t : Int} {n m q : Nat} (h : Gme t n m q 0) : ∃ k : Nat, t = (k : Int) ∧ k ≤ 4 ∧ 1 ≤ n ∧ n ≤ 9 ∧ m = n ∧ 2 * k + 1 ≤ n ∧ q = n * k := by
  rcases h with ⟨_, h⟩ | ⟨h1, ⟨_, h⟩ | ⟨h2, ⟨_, h⟩ | ⟨h3, ⟨_, h⟩ | ⟨h4, _⟩⟩⟩⟩
  · omega
  · omega
  · omega
  · omega
  · obtain ⟨k, rfl⟩ : ∃ k : Nat, t = k := ⟨t.toNat, by omega⟩
    refine ⟨k, rfl, by omega, h2.1.1, h2.1.2, h2.2, by omega, ?_⟩
    have : ((q : Nat) : Int) = ((n * k : Nat) : Int) := by rw [h4]; push_cast; rfl
    omega
def Gtm (t : Int) (xs ys ds : List Int) (n m q : Nat) (w : World) (e : Ending) (w' : World) : Prop :=
  ((∃ r, r ≠ 0 ∧ Gme t n m q r ∧ e = .returned (.tuple #[.slice none 0 0, .slice none 0 0, .int .i64 r])) ∨
   (Gme t n m q 0 ∧ ∃ v u L, e = .returned (.tuple #[v, u, .int .i64 0]) ∧ w'.ownsRow w.heap.size 77 1 v n ((tmO t.toNat xs ys ds n n).map (Value.int .u64)) ∧ LsV w' w.heap.size u L (tmG t.toNat xs ys ds n))) ∧ Below w.heap.size w w'
end
section
open Crm
theorem mxl_back {n : Nat} {l : List Int} (hl : l.length = n) (hb : ∀ x ∈ l, 0 ≤ x ∧ x ≤ 2147483646) : mxl l (List.replicate n 0) 1 1 0 n = l := by
  refine List.ext_getElem (by rw [mxl_len, hl]) fun i h1 h2 => ?_
  have h := mxl_getD l (List.replicate n 0) 1 1 0 (n := n) (i := i) (by omega)
  rw [List.getD_eq_getElem?_getD, List.getElem?_eq_getElem h1, Option.getD_some] at h
  rw [h]
  have e : (List.replicate n (0 : Int)).getD i 0 = 0 := by simp [List.getElem?_replicate]; split <;> rfl
  rw [e, List.getD_eq_getElem?_getD, List.getElem?_eq_getElem h2, Option.getD_some]
  have hx := hb _ (List.getElem_mem h2)
  rw [Int.one_mul, Int.one_mul, Int.add_zero, Int.add_zero]
  exact nm_small hx.1 hx.2
theorem mxl_more (l K D : List Int) (n : Nat) : mxl (mxl l K 1 1 0 n) D 1 1 0 n = mxl l (mxl K D 1 1 0 n) 1 1 0 n := by
  show (List.range n).map _ = _
  refine mxl_ext fun i hi => ?_
  rw [mxl_getD _ _ _ _ _ hi, mxl_getD _ _ _ _ _ hi]
  simp only [Int.one_mul, Int.add_zero]
  rw [nm_addl, nm_addr, Int.add_assoc]
theorem mxl_two (f g : List Int) (a b : Int) (n : Nat) : mxl (mxl f f a 0 0 n) (mxl g g b 0 0 n) 1 1 0 n = mxl f g a b 0 n := by
  show (List.range n).map _ = _
  refine mxl_ext fun i hi => ?_
  rw [mxl_getD _ _ _ _ _ hi, mxl_getD _ _ _ _ _ hi]
  simp only [Int.one_mul, Int.zero_mul, Int.add_zero]
  rw [nm_addl, nm_addr]
def kra (n t : Nat) (ds l : List Int) : Nat → List Int
  | 0 => l
  | i + 1 => mxl (kra n t ds l i) (dl (kdr t false ds i) n) 1 1 0 n
theorem kra_ksm {n : Nat} (t : Nat) (ds : List Int) {l : List Int} (hl : l.length = n) (hb : ∀ x ∈ l, 0 ≤ x ∧ x ≤ 2147483646) : ∀ i, kra n t ds l i = mxl l (ksm n t false ds i) 1 1 0 n
  | 0 => (mxl_back hl hb).symm
  | i + 1 => by
    rw [kra, kra_ksm t ds hl hb i, ksm]
    exact mxl_more _ _ _ _
theorem kra_bd {n : Nat} (t : Nat) (ds : List Int) {l : List Int} (hb : ∀ x ∈ l, 0 ≤ x ∧ x ≤ 2147483646) (i : Nat) : ∀ x ∈ kra n t ds l i, 0 ≤ x ∧ x ≤ 2147483646 := by
  cases i with
  | zero => exact hb
  | succ i => exact mxl_bd _ _ _ _ _ _
end
section
open Crm Go.RowKit
theorem own_set2 {w : World} {B n c g : Nat} {E : TypeId} {xs : List Value} (h : w.ownsRow B E 2 (.slice (some ⟨g, 0, none⟩) n c) n xs) (i : Nat) (u : Value) : (w.setCell ⟨g, i, none⟩ u).ownsRow B E 2 (.slice (some ⟨g, 0, none⟩) n c) n (xs.set i u) := by
  refine ⟨by rw [List.length_set]; exact h.1, .inr ?_⟩
  rcases h.2 with ⟨e, _⟩ | ⟨g', cap, cur, e, hb, hg, h1, h2, hs, ht⟩
  · simp at e
  · simp only [Value.slice.injEq, Option.some.injEq, Addr.mk.injEq, and_true, true_and] at e
    obtain ⟨rfl, rfl⟩ := e
    refine ⟨g, c, _, rfl, hb, heap_setCell_same w g i _ _ _ hg, h1, h2, by simpa using hs, ?_⟩
    rw [← ht]
    simp [List.take_set]
theorem own_frozen2 {w : World} {B n c g : Nat} {E : TypeId} {xs : List Value} (h : w.ownsRow B E 2 (.slice (some ⟨g, 0, none⟩) n c) n xs) (i : Nat) : w.frozen? ⟨g, i, none⟩ = false := by
  rcases h.2 with ⟨e, _⟩ | ⟨g', cap, cur, e, hb, hg, _⟩
  · simp at e
  · simp only [Value.slice.injEq, Option.some.injEq, Addr.mk.injEq, and_true, true_and] at e
    obtain ⟨rfl, rfl⟩ := e
    exact frozen_of_row w g i _ _ hg
theorem own_at2 {w : World} {base n : Nat} {E : TypeId} {v : Value} {xs : List Value} (h : w.ownsRow base E 2 v n xs) (hn : 0 < n) : ∃ g c, v = .slice (some ⟨g, 0, none⟩) n c ∧ base ≤ g ∧ g < w.heap.size ∧ n ≤ c ∧ c ≤ maxLen := by
  rcases h.2 with ⟨_, rfl⟩ | ⟨g, cap, cur, rfl, hb, hg, h1, h2, _⟩
  · omega
  · exact ⟨g, cap, rfl, hb, (Array.getElem?_eq_some_iff.1 hg).1, h1, h2⟩
theorem sh_cell {w : World} {base n c g : Nat} {E : TypeId} {l : List (Int × Int)} (h : w.ownsRow base E 2 (.slice (some ⟨g, 0, none⟩) n c) n (shc l)) (hl : l.length = n) {k : Nat} (hk : k < n) :
    w.cell? ⟨g, k * 2, none⟩ = some (.int .i64 (l.getD k (0, 0)).1) ∧ w.cell? ⟨g, k * 2 + 1, none⟩ = some (.int .u64 (l.getD k (0, 0)).2) := by
  have h1 := shc_get l k (by omega)
  have a1 := h.cells (g := g) rfl _ _ h1.1
  have a2 := h.cells (g := g) rfl _ _ h1.2
  rw [Addr.add_lit] at a1 a2
  exact ⟨by simpa using a1, by simpa using a2⟩
structure Pt (w : World) (l : List (Int × List Int)) (k : Nat) (S : List Value) : Prop where
  len : S.length = 10
  row : ∀ p : Nat, p < 10 → ∃ a m c, S[p]? = some (.slice a m c) ∧ m ≤ 5 ∧ ((m = 0 ∧ ∀ r, r < k → ta l r ≠ (p : Int)) ∨ (∃ r, r < k ∧ ta l r = (p : Int) ∧ 1 ≤ m ∧ Rd w a m c (tc l r)))
  rwk : Rwk l k
theorem Pt.below {w w' : World} {l : List (Int × List Int)} {k : Nat} {S : List Value} (h : Pt w l k S) (hb : Below w.heap.size w w') : Pt w' l k S := by
  refine ⟨h.len, fun p hp => ?_, h.rwk⟩
  obtain ⟨a, m, c, h1, h2, h3⟩ := h.row p hp
  refine ⟨a, m, c, h1, h2, ?_⟩
  rcases h3 with h3 | ⟨r, r1, r2, r3, r4⟩
  · exact .inl h3
  · exact .inr ⟨r, r1, r2, r3, r4.below hb⟩
theorem Pt.one {w : World} {l : List (Int × List Int)} {k : Nat} {S : List Value} (h : Pt w l k S) : (S.toArray.all (·.oneCell')) = true := by
  rw [Array.all_eq_true_iff_forall_mem]
  intro v hv
  obtain ⟨i, hi, rfl⟩ := List.getElem_of_mem (show v ∈ S by simpa using hv)
  obtain ⟨a, m, c, h1, _⟩ := h.row i (by have := h.len; omega)
  rw [List.getElem?_eq_getElem hi] at h1
  rw [Option.some.inj h1]
  rfl
theorem Pt.size {w : World} {l : List (Int × List Int)} {k : Nat} {S : List Value} (h : Pt w l k S) : S.toArray.size = 10 := by simpa using h.len
end
end Go.Proofs.YtljlioglpaogdafGreatDoor
