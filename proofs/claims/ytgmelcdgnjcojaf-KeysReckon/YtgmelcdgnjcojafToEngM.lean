/- Any shares of a dealing, and their weights: plain facts. · Reckoning with shares: plain facts. · Parties that reckon together: plain facts. -/
import Derived.Test.YtgmelcdgnjcojafToPlaceC
import Derived.Test.YtgmelcdgnjcojafToGaussM
import Derived.Test.YtgmelcdgnjcojafToPolyM3
namespace Go.Proofs.Ytgmelcdgnjcojaf
open Crm

theorem shl_mem {C : List Int} {m : Nat} {p : Int × Int} (h : p ∈ shl (dl C m) m) : ∃ i, i < m ∧ p = ((i : Int) + 1, dlf C i) := by
  obtain ⟨i, hi, rfl⟩ := List.mem_map.1 h
  have hi' : i < m := by simpa using hi
  exact ⟨i, hi', by rw [dl_getD C hi']⟩
theorem shl_pair (xs : List Int) (m : Nat) : (shl xs m).Pairwise (fun p q => p.1 ≠ q.1) := by
  unfold shl
  rw [List.pairwise_map, List.pairwise_iff_getElem]
  intro i j hi hj hij
  simp
  omega
/-- What was picked. -/
theorem picked_ok {C : List Int} {m K : Nat} {out rem : List (Int × Int)} (hm : m ≤ 9) (hlo : out.length = K) (hp : (out ++ rem).Perm (shl (dl C m) m)) :
    dis (fa out) K ∧ Hs out K C ∧ (∀ j, j < K → fy out j = nm (ev C (fa out j)) ∧ 0 ≤ fy out j ∧ fy out j ≤ 2147483646) := by
  have hmem : ∀ j, j < K → ∃ i, i < m ∧ out.getD j (0, 0) = ((i : Int) + 1, dlf C i) := fun j hj => by
    refine shl_mem (hp.subset (List.mem_append_left _ ?_))
    rw [List.getD_eq_getElem?_getD, List.getElem?_eq_getElem (show j < out.length by omega)]
    exact List.getElem_mem _
  have hpw : out.Pairwise (fun p q => p.1 ≠ q.1) := by
    have h1 := (hp.pairwise_iff (R := fun (p q : Int × Int) => p.1 ≠ q.1) (fun h => fun e => h e.symm)).2 (shl_pair (dl C m) m)
    exact (List.pairwise_append.1 h1).1
  have hval : ∀ j, j < K → fy out j = nm (ev C (fa out j)) ∧ 0 ≤ fy out j ∧ fy out j ≤ 2147483646 := fun j hj => by
    obtain ⟨i, _, e⟩ := hmem j hj
    unfold fy fa
    rw [e]
    exact ⟨rfl, (dlf_bd C i).1, (dlf_bd C i).2⟩
  refine ⟨fun j hj => ?_, fun j hj => ?_, hval⟩
  · obtain ⟨i, hi, e⟩ := hmem j hj
    refine ⟨by unfold fa; rw [e]; simp only; omega, fun q hq => ?_⟩
    have h2 := List.pairwise_iff_getElem.1 hpw q j (by omega) (by omega) hq
    unfold fa
    rw [List.getD_eq_getElem?_getD, List.getElem?_eq_getElem (show q < out.length by omega), List.getD_eq_getElem?_getD, List.getElem?_eq_getElem (show j < out.length by omega)]
    exact h2
  · have := (hval j hj).1
    unfold fy fa at this
    rw [this, nm_nm]

/-- The weights make of the values the value at 0. -/
theorem sum_wt {ts C : List Int} {K : Nat} (hd : dis (fi ts) K) (hC : C.length ≤ K) (y : Nat → Int) (hy : ∀ j, j < K → nm (y j) = nm (ev C (ts.getD j 0))) : nm (sm (fun i => wt ts K i * y i) K) = nm (ev C 0) := by
  have main : ∀ k, k ≤ K → ∃ R : List Int, R.length ≤ K ∧ (∀ j, j < K → nm (ev R (ts.getD j 0)) = if j < k then nm (y j) else 0) ∧ nm (ev R 0) = nm (sm (fun i => wt ts K i * y i) k) := by
    intro k
    induction k with
    | zero => exact fun _ => ⟨[], Nat.zero_le _, fun j _ => by rw [if_neg (by omega)]; rfl, rfl⟩
    | succ k ih =>
      intro hk
      obtain ⟨R, r1, r2, r3⟩ := ih (by omega)
      obtain ⟨Q, q1, q2, q3⟩ := wt_wgt hd (show k < K by omega)
      have hev : ∀ x, nm (ev (sml R (cvl [y k] Q)) x) = nm (ev R x + y k * ev Q x) := fun x => by
        rw [sml_ev]
        refine nm_add_congr rfl ?_
        rw [cvl_ev, ev, ev, Int.mul_zero, Int.add_zero]
      refine ⟨sml R (cvl [y k] Q), ?_, fun j hj => ?_, ?_⟩
      · rw [sml_len, cvl_len, List.length_singleton]; omega
      · rw [hev]
        have h1 := q2 j hj
        have h2 := r2 j hj
        by_cases e : j = k
        · subst e
          rw [if_pos rfl] at h1
          rw [if_neg (by omega)] at h2
          rw [if_pos (by omega), nm_add_congr (c := 0) (d := y j * 1) h2 (nm_mul_congr rfl (by rw [h1]; rfl)), Int.zero_add, Int.mul_one]
        · rw [if_neg e] at h1
          rw [nm_add_congr (c := ev R (ts.getD j 0)) (d := y k * 0) rfl (nm_mul_congr rfl (by rw [h1]; rfl)), Int.mul_zero, Int.add_zero, h2]
          by_cases e2 : j < k
          · rw [if_pos e2, if_pos (by omega)]
          · rw [if_neg e2, if_neg (by omega)]
      · rw [hev, sm]
        refine nm_add_congr r3 ?_
        rw [q3, nm_mull, Int.mul_comm]
  obtain ⟨R, r1, r2, r3⟩ := main K (Nat.le_refl _)
  rw [← r3]
  have hw : ∀ j, j < K → ((List.range K).map fun k => (ts.getD k 0, y k)).getD j (0, 0) = (ts.getD j 0, y j) := fun j hj => by simp [hj]
  refine ev_one (hs_one (l := (List.range K).map fun k => (ts.getD k 0, y k)) (n := K) (fun j hj => ?_) (fun j hj => ?_) (fun j hj => ?_) r1 hC) 0
  · rw [hw j hj]
    refine ⟨⟨(hd j hj).1.1, by have := (hd j hj).1.2; unfold fi at this; simp only; omega⟩, fun q hq => ?_⟩
    rw [hw q (by omega)]
    exact (hd j hj).2 q hq
  · rw [hw j hj]
    simp only
    rw [r2 j hj, if_pos hj]
  · rw [hw j hj]
    simp only
    exact (hy j hj).symm
end Go.Proofs.Ytgmelcdgnjcojaf

namespace Go.Proofs.Ytgmelcdgnjcojaf
open Crm

/-- Each party's numbers mixed: a times the one, b times the other, and c. -/
def mxl (x y : List Int) (a b c : Int) (n : Nat) : List Int := (List.range n).map fun i => nm (a * x.getD i 0 + b * y.getD i 0 + c)
theorem mxl_len (x y : List Int) (a b c : Int) (n : Nat) : (mxl x y a b c n).length = n := by simp [mxl]
theorem mxl_getD (x y : List Int) (a b c : Int) {n i : Nat} (h : i < n) : (mxl x y a b c n).getD i 0 = nm (a * x.getD i 0 + b * y.getD i 0 + c) := by simp [mxl, h]
theorem mxl_snoc (x y : List Int) (a b c : Int) (n : Nat) : mxl x y a b c n ++ [nm (a * x.getD n 0 + b * y.getD n 0 + c)] = mxl x y a b c (n + 1) := by simp [mxl, List.range_succ]
theorem mxl_bd (x y : List Int) (a b c : Int) (n : Nat) : ∀ z ∈ mxl x y a b c n, 0 ≤ z ∧ z ≤ 2147483646 := by
  intro z hz
  obtain ⟨i, _, rfl⟩ := List.mem_map.1 hz
  exact nm_bd _
theorem mxl_one {a b c p q : Int} : nm (nm (nm (a * p) + nm (b * q)) + c) = nm (a * p + b * q + c) := by
  rw [nm_addl]
  refine nm_add_congr ?_ rfl
  exact nm_add_congr (nm_nm _) (nm_nm _)
/-- The same by other ways. -/
theorem mxl_ext {x y : List Int} {a b c : Int} {n : Nat} {F : Nat → Int} (h : ∀ i, i < n → F i = nm (a * x.getD i 0 + b * y.getD i 0 + c)) : (List.range n).map F = mxl x y a b c n :=
  List.map_congr_left fun i hi => h i (List.mem_range.1 hi)

/-- The parties' numbers. -/
def pty (n : Nat) : List Int := (List.range n).map fun i : Nat => (i : Int) + 1
theorem pty_len (n : Nat) : (pty n).length = n := by simp [pty]
theorem pty_getD {n i : Nat} (h : i < n) : (pty n).getD i 0 = (i : Int) + 1 := by simp [pty, h]
theorem pty_snoc (n : Nat) : pty n ++ [(n : Int) + 1] = pty (n + 1) := by simp [pty, List.range_succ]
theorem pty_dis {n : Nat} (h : n ≤ 9) : dis (fi (pty n)) n := fun i hi => by
  unfold fi
  rw [pty_getD hi]
  exact ⟨⟨by omega, by omega⟩, fun j hj => by rw [pty_getD (show j < n by omega)]; omega⟩

/-- What party i deals: the product of its numbers, and its draws. -/
def prC (t : Nat) (a b ds : List Int) (i : Nat) : List Int := nm (a.getD i 0 * b.getD i 0) :: (ds.drop (i * t)).take t
theorem prC_len (t : Nat) (a b ds : List Int) (i : Nat) : (prC t a b ds i).length ≤ t + 1 := by
  unfold prC; rw [List.length_cons, List.length_take]; omega
/-- What party j was dealt by the first k. -/
def tmR (t : Nat) (a b ds : List Int) (k j : Nat) : List Int := (List.range k).map fun i => dlf (prC t a b ds i) j
theorem tmR_len (t : Nat) (a b ds : List Int) (k j : Nat) : (tmR t a b ds k j).length = k := by simp [tmR]
theorem tmR_getD (t : Nat) (a b ds : List Int) {k i : Nat} (j : Nat) (h : i < k) : (tmR t a b ds k j).getD i 0 = dlf (prC t a b ds i) j := by simp [tmR, h]
theorem tmR_snoc (t : Nat) (a b ds : List Int) (k j : Nat) : tmR t a b ds k j ++ [dlf (prC t a b ds k) j] = tmR t a b ds (k + 1) j := by simp [tmR, List.range_succ]
theorem tmR_bd (t : Nat) (a b ds : List Int) (k j : Nat) : ∀ z ∈ tmR t a b ds k j, 0 ≤ z ∧ z ≤ 2147483646 := by
  intro z hz
  obtain ⟨i, _, rfl⟩ := List.mem_map.1 hz
  exact dlf_bd _ _
/-- What all were dealt, party by party. -/
def tmG (t : Nat) (a b ds : List Int) (n : Nat) : List (List Int) := (List.range n).map fun j => tmR t a b ds n j
theorem tmG_len (t : Nat) (a b ds : List Int) (n : Nat) : (tmG t a b ds n).length = n := by simp [tmG]
theorem tmG_getD (t : Nat) (a b ds : List Int) {n j : Nat} (h : j < n) : (tmG t a b ds n).getD j [] = tmR t a b ds n j := by simp [tmG, h]
/-- Party j's number of the product. -/
def tmf (t : Nat) (a b ds : List Int) (n j : Nat) : Int := nm (sm (fun i => wt (pty n) n i * dlf (prC t a b ds i) j) n)
def tmO (t : Nat) (a b ds : List Int) (n k : Nat) : List Int := (List.range k).map (tmf t a b ds n)
theorem tmO_len (t : Nat) (a b ds : List Int) (n k : Nat) : (tmO t a b ds n k).length = k := by simp [tmO]
theorem tmO_getD (t : Nat) (a b ds : List Int) (n : Nat) {k j : Nat} (h : j < k) : (tmO t a b ds n k).getD j 0 = tmf t a b ds n j := by simp [tmO, h]
theorem tmO_snoc (t : Nat) (a b ds : List Int) (n k : Nat) : tmO t a b ds n k ++ [tmf t a b ds n k] = tmO t a b ds n (k + 1) := by simp [tmO, List.range_succ]
theorem tmO_bd (t : Nat) (a b ds : List Int) (n k : Nat) : ∀ z ∈ tmO t a b ds n k, 0 ≤ z ∧ z ≤ 2147483646 := by
  intro z hz
  obtain ⟨i, _, rfl⟩ := List.mem_map.1 hz
  exact nm_bd _
/-- One polynomial of t + 1 numbers has the parties' numbers of the product. -/
theorem tm_poly (t : Nat) (a b ds : List Int) (W : Nat → Int) : ∀ k, ∃ P : List Int, P.length ≤ t + 1 ∧ ∀ x, ev P x = sm (fun i => W i * ev (prC t a b ds i) x) k
  | 0 => ⟨[], Nat.zero_le _, fun _ => rfl⟩
  | k + 1 => by
    obtain ⟨P, h1, h2⟩ := tm_poly t a b ds W k
    refine ⟨adl (W k) P (prC t a b ds k), ?_, fun x => ?_⟩
    · rw [adl_len]; have := prC_len t a b ds k; omega
    · rw [adl_ev, h2, sm]
/-- Of dealt secrets the product is dealt. -/
theorem times_dealt {t n : Nat} {A B ds : List Int} (hA : A.length ≤ t + 1) (hB : B.length ≤ t + 1) (hn : 2 * t + 1 ≤ n) (hn9 : n ≤ 9) :
    ∃ P : List Int, P.length ≤ t + 1 ∧ (∀ j, j < n → tmf t (dl A n) (dl B n) ds n j = nm (ev P ((j : Int) + 1))) ∧ nm (ev P 0) = nm (ev A 0 * ev B 0) := by
  obtain ⟨P, h1, h2⟩ := tm_poly t (dl A n) (dl B n) ds (wt (pty n) n) n
  refine ⟨P, h1, fun j _ => ?_, ?_⟩
  · unfold tmf
    rw [h2]
    refine sm_ncongr fun i hi => ?_
    unfold dlf
    rw [nm_mulr]
  · rw [h2]
    have h3 := sum_wt (pty_dis hn9) (C := cvl A B) (by rw [cvl_len]; omega) (fun i => ev (prC t (dl A n) (dl B n) ds i) 0) (fun j hj => by
      unfold prC
      rw [ev, Int.zero_mul, Int.add_zero, nm_nm, cvl_ev, dl_getD A hj, dl_getD B hj, pty_getD hj]
      unfold dlf
      exact nm_mul_congr (nm_nm _) (nm_nm _))
    rw [h3, cvl_ev]
/-- Shares of all parties' numbers are those of the polynomial that has them. -/
theorem shl_hs {C L : List Int} {n : Nat} (h : ∀ i, i < n → L.getD i 0 = nm (ev C ((i : Int) + 1))) : Hs (shl L n) n C := fun j hj => by
  rw [shl_getD L hj]
  simp only
  rw [h j hj, nm_nm]
theorem shl_dis (L : List Int) {n : Nat} (h : n ≤ 9) : dis (fa (shl L n)) n := fun i hi => by
  unfold fa
  rw [shl_getD L hi]
  exact ⟨⟨by simp only; omega, by simp only; omega⟩, fun j hj => by rw [shl_getD L (show j < n by omega)]; simp only; omega⟩
/-- What Open tells of them. -/
theorem shl_open {C L : List Int} {n t : Nat} {x r : Int} (hn : n ≤ 9) (ht : t ≤ 4) (htn : t < n) (hC : C.length ≤ t + 1) (h : ∀ i, i < n → L.getD i 0 = nm (ev C ((i : Int) + 1))) (hO : Opn (shl L n) n t x r) : x = nm (ev C 0) ∧ r = 0 :=
  any_open (shl_dis L hn) ht htn hC (shl_hs h) hO
/-- Mixed shares are shares of what is mixed. -/
theorem mxl_dealt {A B : List Int} {a b c : Int} {n t : Nat} (hA : A.length ≤ t + 1) (hB : B.length ≤ t + 1) :
    ∃ P : List Int, P.length ≤ t + 1 ∧ (∀ i, i < n → (mxl (dl A n) (dl B n) a b c n).getD i 0 = nm (ev P ((i : Int) + 1))) ∧ nm (ev P 0) = nm (a * ev A 0 + b * ev B 0 + c) := by
  have e : ∀ x, ev (adl 1 (adl b (A.map (a * ·)) B) [c]) x = a * ev A x + b * ev B x + c := fun x => by
    rw [adl_ev, adl_ev, map_ev, ev, ev, Int.mul_zero, Int.add_zero, Int.one_mul]
  refine ⟨adl 1 (adl b (A.map (a * ·)) B) [c], ?_, fun i hi => ?_, by rw [e]⟩
  · rw [adl_len, adl_len, List.length_map, List.length_singleton]; omega
  · rw [mxl_getD _ _ _ _ _ hi, dl_getD A hi, dl_getD B hi, e]
    refine nm_add_congr (nm_add_congr ?_ ?_) rfl
    · unfold dlf; rw [nm_mulr]
    · unfold dlf; rw [nm_mulr]
end Go.Proofs.Ytgmelcdgnjcojaf

namespace Go.Proofs.Ytgmelcdgnjcojaf
open Crm

/-- Draws that the first i gates take. -/
def dwn (G : List Gt) (n t : Nat) : Nat → Nat
  | 0 => 0
  | i + 1 => dwn G n t i + (if (gt G i).k = 1 then t else if (gt G i).k = 5 then n * t else 0)
/-- The draws of gate i. -/
def edr (G : List Gt) (n t : Nat) (ds : List Int) (i k : Nat) : List Int := (ds.drop (dwn G n t i)).take k
/-- The parties' numbers of wire i, those of the wires ahead being W. -/
def esh (G : List Gt) (n t : Nat) (ins ds : List Int) (W : List (List Int)) (i : Nat) : List Int :=
  if (gt G i).k = 1 then dl (ins.getD (ci G i) 0 :: edr G n t ds i t) n
  else if (gt G i).k = 2 then List.replicate n (nm (gt G i).n)
  else if (gt G i).k = 3 then mxl (W.getD (gt G i).a.toNat []) (W.getD (gt G i).b.toNat []) 1 1 0 n
  else if (gt G i).k = 4 then mxl (W.getD (gt G i).a.toNat []) (W.getD (gt G i).b.toNat []) 1 2147483646 0 n
  else if (gt G i).k = 6 then mxl (W.getD (gt G i).a.toNat []) (W.getD (gt G i).a.toNat []) (gt G i).n 0 0 n
  else tmO t (W.getD (gt G i).a.toNat []) (W.getD (gt G i).b.toNat []) (edr G n t ds i (n * t)) n n
def ewr (G : List Gt) (n t : Nat) (ins ds : List Int) : Nat → List (List Int)
  | 0 => []
  | i + 1 => ewr G n t ins ds i ++ [esh G n t ins ds (ewr G n t ins ds i) i]
/-- The parties' numbers of wire i. -/
def ew (G : List Gt) (n t : Nat) (ins ds : List Int) (i : Nat) : List Int := esh G n t ins ds (ewr G n t ins ds i) i
theorem esh_len (G : List Gt) (n t : Nat) (ins ds : List Int) (W : List (List Int)) (i : Nat) : (esh G n t ins ds W i).length = n := by
  unfold esh
  repeat' split
  · exact dl_len _ _
  · simp
  · exact mxl_len _ _ _ _ _ _
  · exact mxl_len _ _ _ _ _ _
  · exact mxl_len _ _ _ _ _ _
  · exact tmO_len _ _ _ _ _ _
theorem esh_bd (G : List Gt) (n t : Nat) (ins ds : List Int) (W : List (List Int)) (i : Nat) : ∀ z ∈ esh G n t ins ds W i, 0 ≤ z ∧ z ≤ 2147483646 := by
  unfold esh
  repeat' split
  · exact dl_bd _ _
  · intro z hz; obtain rfl := List.eq_of_mem_replicate hz; exact nm_bd _
  · exact mxl_bd _ _ _ _ _ _
  · exact mxl_bd _ _ _ _ _ _
  · exact mxl_bd _ _ _ _ _ _
  · exact tmO_bd _ _ _ _ _ _
theorem ew_len (G : List Gt) (n t : Nat) (ins ds : List Int) (i : Nat) : (ew G n t ins ds i).length = n := esh_len _ _ _ _ _ _ _
theorem ew_bd (G : List Gt) (n t : Nat) (ins ds : List Int) (i : Nat) : ∀ z ∈ ew G n t ins ds i, 0 ≤ z ∧ z ≤ 2147483646 := esh_bd _ _ _ _ _ _ _
theorem ewr_len (G : List Gt) (n t : Nat) (ins ds : List Int) : ∀ i, (ewr G n t ins ds i).length = i
  | 0 => rfl
  | i + 1 => by rw [ewr, List.length_append, ewr_len G n t ins ds i]; rfl
theorem ewr_succ (G : List Gt) (n t : Nat) (ins ds : List Int) (i : Nat) : ewr G n t ins ds (i + 1) = ewr G n t ins ds i ++ [ew G n t ins ds i] := rfl
theorem ewr_getD (G : List Gt) (n t : Nat) (ins ds : List Int) {j : Nat} : ∀ {i : Nat}, j < i → (ewr G n t ins ds i).getD j [] = ew G n t ins ds j
  | 0, h => by omega
  | i + 1, h => by
    have hl := ewr_len G n t ins ds i
    rw [ewr_succ]
    by_cases e : j = i
    · subst e
      rw [List.getD_eq_getElem?_getD, List.getElem?_append_right (by omega), hl, Nat.sub_self]
      rfl
    · rw [List.getD_eq_getElem?_getD, List.getElem?_append_left (by omega), ← List.getD_eq_getElem?_getD]
      exact ewr_getD G n t ins ds (by omega)
theorem ew_in {G : List Gt} {n t : Nat} {ins ds : List Int} {i : Nat} (h : (gt G i).k = 1) : ew G n t ins ds i = dl (ins.getD (ci G i) 0 :: edr G n t ds i t) n := by unfold ew esh; rw [if_pos h]
theorem ew_const {G : List Gt} {n t : Nat} {ins ds : List Int} {i : Nat} (h : (gt G i).k = 2) : ew G n t ins ds i = List.replicate n (nm (gt G i).n) := by unfold ew esh; rw [if_neg (by omega), if_pos h]
theorem ew_add {G : List Gt} {n t : Nat} {ins ds : List Int} {i a b : Nat} (h : (gt G i).k = 3) (ha : (gt G i).a = (a : Int)) (hi : a < i) (hb : (gt G i).b = (b : Int)) (hj : b < i) : ew G n t ins ds i = mxl (ew G n t ins ds a) (ew G n t ins ds b) 1 1 0 n := by
  unfold ew
  rw [esh, if_neg (by omega), if_neg (by omega), if_pos h, ha, hb, Int.toNat_natCast, Int.toNat_natCast, ewr_getD G n t ins ds hi, ewr_getD G n t ins ds hj]
  rfl
theorem ew_sub {G : List Gt} {n t : Nat} {ins ds : List Int} {i a b : Nat} (h : (gt G i).k = 4) (ha : (gt G i).a = (a : Int)) (hi : a < i) (hb : (gt G i).b = (b : Int)) (hj : b < i) : ew G n t ins ds i = mxl (ew G n t ins ds a) (ew G n t ins ds b) 1 2147483646 0 n := by
  unfold ew
  rw [esh, if_neg (by omega), if_neg (by omega), if_neg (by omega), if_pos h, ha, hb, Int.toNat_natCast, Int.toNat_natCast, ewr_getD G n t ins ds hi, ewr_getD G n t ins ds hj]
  rfl
theorem ew_scale {G : List Gt} {n t : Nat} {ins ds : List Int} {i a : Nat} (h : (gt G i).k = 6) (ha : (gt G i).a = (a : Int)) (hi : a < i) : ew G n t ins ds i = mxl (ew G n t ins ds a) (ew G n t ins ds a) (gt G i).n 0 0 n := by
  unfold ew
  rw [esh, if_neg (by omega), if_neg (by omega), if_neg (by omega), if_neg (by omega), if_pos h, ha, Int.toNat_natCast, ewr_getD G n t ins ds hi]
  rfl
theorem ew_mul {G : List Gt} {n t : Nat} {ins ds : List Int} {i a b : Nat} (h : (gt G i).k = 5) (ha : (gt G i).a = (a : Int)) (hi : a < i) (hb : (gt G i).b = (b : Int)) (hj : b < i) : ew G n t ins ds i = tmO t (ew G n t ins ds a) (ew G n t ins ds b) (edr G n t ds i (n * t)) n n := by
  unfold ew
  rw [esh, if_neg (by omega), if_neg (by omega), if_neg (by omega), if_neg (by omega), if_neg (by omega), ha, hb, Int.toNat_natCast, Int.toNat_natCast, ewr_getD G n t ins ds hi, ewr_getD G n t ins ds hj]
  rfl
/-- Numbers that a polynomial has at the parties are those that are dealt of it. -/
theorem dl_of {P L : List Int} {n : Nat} (hl : L.length = n) (h : ∀ i, i < n → L.getD i 0 = nm (ev P ((i : Int) + 1))) : L = dl P n := by
  refine list_ext (by rw [hl, dl_len]) fun i hi => ?_
  rw [hl] at hi
  rw [h i hi, dl_getD P hi]
  rfl
/-- Each wire's numbers are shares of what the wire has. -/
theorem ew_poly {G : List Gt} {N n t : Nat} {ins ds : List Int} (hG : okG G N) (hn : 2 * t + 1 ≤ n) (hn9 : n ≤ 9) : ∀ i, i < N → ∃ P : List Int, P.length ≤ t + 1 ∧ ew G n t ins ds i = dl P n ∧ nm (ev P 0) = wi G ins i := by
  intro i
  induction i using Nat.strongRecOn with
  | _ i ih =>
    intro hi
    rcases hG i hi with ⟨h1, _, _, _⟩ | ⟨h1, _, _⟩ | ⟨h1, h2, _⟩ | ⟨h1, h2, h3, _⟩
    · refine ⟨_, ?_, ew_in h1, ?_⟩
      · unfold edr; rw [List.length_cons, List.length_take]; omega
      · rw [wi_in h1, ev, Int.zero_mul, Int.add_zero]
    · refine ⟨[nm (gt G i).n], by simp, ?_, ?_⟩
      · rw [ew_const h1]
        refine dl_of (by simp) fun j hj => ?_
        rw [ev, ev, Int.mul_zero, Int.add_zero, nm_nm]
        simp [hj]
      · rw [wi_const h1, ev, Int.zero_mul, Int.add_zero, nm_nm]
    · obtain ⟨a, ha⟩ : ∃ a : Nat, (gt G i).a = a := ⟨(gt G i).a.toNat, by omega⟩
      obtain ⟨A, a1, a2, a3⟩ := ih a (by omega) (by omega)
      obtain ⟨P, p1, p2, p3⟩ := mxl_dealt (A := A) (B := A) (a := (gt G i).n) (b := 0) (c := 0) (n := n) a1 a1
      rw [← a2] at p2
      refine ⟨P, p1, ?_, ?_⟩
      · rw [ew_scale h1 ha (by omega)]
        exact dl_of (mxl_len _ _ _ _ _ _) p2
      · rw [p3, wi_scale h1 ha (by omega), Int.zero_mul, Int.add_zero, Int.add_zero, Int.mul_comm, ← a3, nm_mull]
    · obtain ⟨a, ha⟩ : ∃ a : Nat, (gt G i).a = a := ⟨(gt G i).a.toNat, by omega⟩
      obtain ⟨b, hb⟩ : ∃ b : Nat, (gt G i).b = b := ⟨(gt G i).b.toNat, by omega⟩
      obtain ⟨A, a1, a2, a3⟩ := ih a (by omega) (by omega)
      obtain ⟨B, b1, b2, b3⟩ := ih b (by omega) (by omega)
      rcases h1 with h1 | h1 | h1
      · obtain ⟨P, p1, p2, p3⟩ := mxl_dealt (A := A) (B := B) (a := 1) (b := 1) (c := 0) (n := n) a1 b1
        rw [← a2, ← b2] at p2
        refine ⟨P, p1, ?_, ?_⟩
        · rw [ew_add h1 ha (by omega) hb (by omega)]
          exact dl_of (mxl_len _ _ _ _ _ _) p2
        · rw [p3, wi_add h1 ha (by omega) hb (by omega), ← a3, ← b3]
          unfold nm
          omega
      · obtain ⟨P, p1, p2, p3⟩ := mxl_dealt (A := A) (B := B) (a := 1) (b := 2147483646) (c := 0) (n := n) a1 b1
        rw [← a2, ← b2] at p2
        refine ⟨P, p1, ?_, ?_⟩
        · rw [ew_sub h1 ha (by omega) hb (by omega)]
          exact dl_of (mxl_len _ _ _ _ _ _) p2
        · rw [p3, wi_sub h1 ha (by omega) hb (by omega), ← a3, ← b3]
          unfold nm
          omega
      · obtain ⟨P, p1, p2, p3⟩ := times_dealt (t := t) (n := n) (A := A) (B := B) (ds := edr G n t ds i (n * t)) a1 b1 hn hn9
        rw [← a2, ← b2] at p2
        refine ⟨P, p1, ?_, ?_⟩
        · rw [ew_mul h1 ha (by omega) hb (by omega)]
          refine dl_of (tmO_len _ _ _ _ _ _) fun j hj => ?_
          rw [tmO_getD _ _ _ _ _ hj]
          exact p2 j hj
        · rw [p3, wi_mul h1 ha (by omega) hb (by omega), ← a3, ← b3, nm_mull, nm_mulr]
/-- What party j sees of gate i. -/
def esn (G : List Gt) (n t : Nat) (ins ds : List Int) (i j : Nat) : List Int :=
  if (gt G i).k = 1 then [(ew G n t ins ds i).getD j 0]
  else if (gt G i).k = 5 then tmR t (ew G n t ins ds (gt G i).a.toNat) (ew G n t ins ds (gt G i).b.toNat) (edr G n t ds i (n * t)) n j
  else []
/-- .. of the first i gates. -/
def sng (G : List Gt) (n t : Nat) (ins ds : List Int) (i j : Nat) : List Int := (List.range i).flatMap fun p => esn G n t ins ds p j
theorem sng_succ (G : List Gt) (n t : Nat) (ins ds : List Int) (i j : Nat) : sng G n t ins ds (i + 1) j = sng G n t ins ds i j ++ esn G n t ins ds i j := by simp [sng, List.range_succ]
/-- .. and of the first q outs. -/
def sno (G : List Gt) (O : List Int) (n t : Nat) (ins ds : List Int) (N q j : Nat) : List Int := sng G n t ins ds N j ++ (List.range q).flatMap fun o => ew G n t ins ds (O.getD o 0).toNat
theorem sno_succ (G : List Gt) (O : List Int) (n t : Nat) (ins ds : List Int) (N q j : Nat) : sno G O n t ins ds N (q + 1) j = sno G O n t ins ds N q j ++ ew G n t ins ds (O.getD q 0).toNat := by simp [sno, List.range_succ]
/-- What all parties have seen. -/
def snl (G : List Gt) (O : List Int) (n t : Nat) (ins ds : List Int) (N m : Nat) : List (List Int) := (List.range n).map fun j => sno G O n t ins ds N m j
theorem snl_len (G : List Gt) (O : List Int) (n t : Nat) (ins ds : List Int) (N m : Nat) : (snl G O n t ins ds N m).length = n := by simp [snl]
theorem snl_getD (G : List Gt) (O : List Int) (n t : Nat) (ins ds : List Int) (N m : Nat) {j : Nat} (h : j < n) : (snl G O n t ins ds N m).getD j [] = sno G O n t ins ds N m j := by simp [snl, h]
theorem esn_bd (G : List Gt) (n t : Nat) (ins ds : List Int) (i : Nat) {j : Nat} (hj : j < n) : ∀ z ∈ esn G n t ins ds i j, 0 ≤ z ∧ z ≤ 2147483646 := by
  unfold esn
  split
  · intro z hz
    obtain rfl := List.mem_singleton.1 hz
    refine ew_bd G n t ins ds i _ ?_
    rw [List.getD_eq_getElem?_getD, List.getElem?_eq_getElem (by rw [ew_len]; exact hj)]
    exact List.getElem_mem _
  · split
    · exact tmR_bd _ _ _ _ _ _
    · intro z hz; simp at hz
theorem sno_bd (G : List Gt) (O : List Int) (n t : Nat) (ins ds : List Int) (N q : Nat) {j : Nat} (hj : j < n) : ∀ z ∈ sno G O n t ins ds N q j, 0 ≤ z ∧ z ≤ 2147483646 := by
  intro z hz
  rcases List.mem_append.1 hz with hz | hz
  · obtain ⟨i, _, hi⟩ := List.mem_flatMap.1 hz
    exact esn_bd G n t ins ds i hj z hi
  · obtain ⟨i, _, hi⟩ := List.mem_flatMap.1 hz
    exact ew_bd _ _ _ _ _ _ z hi
/-- As many numbers are seen by each party, whatever was drawn. -/
theorem esn_len (G : List Gt) (n t : Nat) (ins ds es : List Int) (i j k : Nat) : (esn G n t ins ds i j).length = (esn G n t ins es i k).length := by
  unfold esn
  split
  · rfl
  · split
    · rw [tmR_len, tmR_len]
    · rfl
theorem sno_len (G : List Gt) (O : List Int) (n t : Nat) (ins ds es : List Int) (N q j k : Nat) : (sno G O n t ins ds N q j).length = (sno G O n t ins es N q k).length := by
  unfold sno sng
  rw [List.length_append, List.length_append, List.length_flatMap, List.length_flatMap, List.length_flatMap, List.length_flatMap]
  congr 1
  · congr 1
    exact List.map_congr_left fun i _ => esn_len G n t ins ds es i j k
  · congr 1
    exact List.map_congr_left fun i _ => by rw [ew_len, ew_len]
/-- Who may run a circuit. -/
def okc (G : List Gt) (N : Nat) (n t : Int) : Prop := (0 ≤ t ∧ t ≤ 4) ∧ (1 ≤ n ∧ n ≤ 9) ∧ 2 * t + 1 ≤ n ∧ ∀ x ∈ whl G N, x ≤ n
/-- What Need tells. -/
def Nde (G : List Gt) (O : List Int) (N m : Nat) (n t r : Int) : Prop := (r ≠ 0 ∧ Cke G O N m r) ∨ (Cke G O N m 0 ∧ ((¬ okc G N n t ∧ r = 1) ∨ (okc G N n t ∧ r = 0)))
theorem Nde.one {G : List Gt} {O : List Int} {N m : Nat} {n t r s : Int} (h : Nde G O N m n t r) (k : Nde G O N m n t s) : r = s := by
  rcases h with ⟨h1, h2⟩ | ⟨h1, ⟨h2, rfl⟩ | ⟨h2, rfl⟩⟩ <;> rcases k with ⟨k1, k2⟩ | ⟨k1, ⟨k2, rfl⟩ | ⟨k2, rfl⟩⟩
  all_goals first
    | rfl
    | exact h2.one k2
    | exact absurd (h2.one k1) h1
    | exact absurd (k2.one h1) k1
    | exact absurd k2 h2
    | exact absurd h2 k2
theorem Nde.ok {G : List Gt} {O : List Int} {N m : Nat} {n t : Int} (h : Nde G O N m n t 0) : Cke G O N m 0 ∧ okc G N n t := by
  rcases h with ⟨h1, _⟩ | ⟨h1, ⟨_, h2⟩ | ⟨h2, _⟩⟩
  · exact absurd rfl h1
  · omega
  · exact ⟨h1, h2⟩
/-- What is wrong with a run. -/
def Ere (G : List Gt) (O : List Int) (N m : Nat) (n t : Int) (q d : Nat) (r : Int) : Prop :=
  (r ≠ 0 ∧ Nde G O N m n t r) ∨ (Nde G O N m n t 0 ∧ ((q ≠ ci G N ∧ r = 5) ∨ (q = ci G N ∧ ((d ≠ dwn G n.toNat t.toNat N ∧ r = 1) ∨ (d = dwn G n.toNat t.toNat N ∧ r = 0)))))
theorem Ere.one {G : List Gt} {O : List Int} {N m : Nat} {n t : Int} {q d : Nat} {r s : Int} (h : Ere G O N m n t q d r) (k : Ere G O N m n t q d s) : r = s := by
  rcases h with ⟨h1, h2⟩ | ⟨h1, ⟨h2, rfl⟩ | ⟨h2, ⟨h3, rfl⟩ | ⟨h3, rfl⟩⟩⟩ <;> rcases k with ⟨k1, k2⟩ | ⟨k1, ⟨k2, rfl⟩ | ⟨k2, ⟨k3, rfl⟩ | ⟨k3, rfl⟩⟩⟩
  all_goals first
    | rfl
    | exact h2.one k2
    | exact absurd (h2.one k1) h1
    | exact absurd (k2.one h1) k1
    | exact absurd k2 h2
    | exact absurd h2 k2
    | exact absurd k3 h3
    | exact absurd h3 k3
end Go.Proofs.Ytgmelcdgnjcojaf
