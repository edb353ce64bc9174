/- BERLEKAMP, WELCH: plain facts. · decode.equation. -/
import Derived.Test.YtoekicjppheemabToRDecM
import Derived.Test.YtoekicjppheemabToGaussR
import Derived.Test.YtoekicjppheemabToFitC
import Derived.Test.YtoekicjppheemabToProdC
import Derived.Deep.AppendLies
import Derived.Deep.RegionHeld3
import Derived.Deep.RegionLaw
namespace Go.Proofs.Ytoekicjppheemab
open Crm

theorem getD_appL {a b : List Int} {i : Nat} (h : i < a.length) : (a ++ b).getD i 0 = a.getD i 0 := by simp [List.getElem?_append_left h]
theorem getD_appR {a b : List Int} {i : Nat} (h : a.length ≤ i) : (a ++ b).getD i 0 = b.getD (i - a.length) 0 := by simp [List.getElem?_append_right h]

/-- Number j of the equation that a share gives: c numbers of the one polynomial, e of the other, and the other side. -/
def eqc (x y : Int) (c e j : Nat) : Int := if j < c then pw x j else if j < c + e then nm (0 - nm (y * pw x (j - c))) else nm (y * pw x e)
def eqn (x y : Int) (c e k : Nat) : List Int := (List.range k).map (eqc x y c e)
theorem eqn_len (x y : Int) (c e k : Nat) : (eqn x y c e k).length = k := by simp [eqn]
theorem eqn_getD (x y : Int) (c e : Nat) {k j : Nat} (h : j < k) : (eqn x y c e k).getD j 0 = eqc x y c e j := by simp [eqn, h]
theorem eqn_snoc (x y : Int) (c e k : Nat) {v : Int} (h : v = eqc x y c e k) : eqn x y c e k ++ [v] = eqn x y c e (k + 1) := by rw [h]; simp [eqn, List.range_succ]
theorem eqc_bd (x y : Int) (c e j : Nat) : 0 ≤ eqc x y c e j ∧ eqc x y c e j ≤ 2147483646 := by
  unfold eqc
  split
  · exact pw_bd _ _
  · split <;> exact nm_bd _
theorem eqn_bd (x y : Int) (c e k : Nat) : ∀ z ∈ eqn x y c e k, 0 ≤ z ∧ z ≤ 2147483646 := by
  intro z hz
  obtain ⟨i, _, rfl⟩ := List.mem_map.1 hz
  exact eqc_bd _ _ _ _ _
theorem eqc_first (x y : Int) (e : Nat) {c j : Nat} (h : j < c) : pw x j = eqc x y c e j := by unfold eqc; rw [if_pos h]
theorem eqc_second (x y : Int) (c : Nat) {e j : Nat} (h : j < e) : nm (0 - nm (y * pw x j)) = eqc x y c e (c + j) := by
  unfold eqc; rw [if_neg (by omega), if_pos (by omega), show c + j - c = j by omega]
theorem eqc_last (x y : Int) (c e : Nat) : nm (y * pw x e) = eqc x y c e (c + e) := by unfold eqc; rw [if_neg (by omega), if_neg (by omega)]

theorem sm_split (f : Nat → Int) (a : Nat) : ∀ b, sm f (a + b) = sm f a + sm (fun j => f (a + j)) b
  | 0 => by simp [sm]
  | b + 1 => by rw [← Nat.add_assoc, sm, sm, sm_split f a b, Int.add_assoc]
/-- Some of f's numbers as a list. -/
def ls (f : Nat → Int) (o k : Nat) : List Int := (List.range k).map fun j => f (o + j)
theorem ls_len (f : Nat → Int) (o k : Nat) : (ls f o k).length = k := by simp [ls]
theorem ls_getD (f : Nat → Int) (o : Nat) {k j : Nat} (h : j < k) : (ls f o k).getD j 0 = f (o + j) := by simp [ls, h]
theorem ls_ev (f : Nat → Int) (o : Nat) (x : Int) : ∀ k, sm (fun j => f (o + j) * x ^ j) k = ev (ls f o k) x
  | 0 => rfl
  | k + 1 => by
    have e : ls f o (k + 1) = ls f o k ++ [f (o + k)] := by simp [ls, List.range_succ]
    rw [sm, ls_ev f o x k, e, ev_snoc, ls_len]
/-- What an equation says of the two polynomials. -/
theorem eq_row (f : Nat → Int) (x y : Int) (c e : Nat) : nm (sm (fun j => f j * eqc x y c e j) (c + e)) = nm (ev (ls f 0 c) x - y * ev (ls f c e) x) := by
  rw [sm_split]
  have h1 : nm (sm (fun j => f j * eqc x y c e j) c) = nm (ev (ls f 0 c) x) := by
    rw [← ls_ev]
    refine sm_ncongr fun j hj => ?_
    rw [← eqc_first x y e hj, Nat.zero_add]
    unfold pw
    exact nm_mulr _ _
  have h2 : nm (sm (fun j => f (c + j) * eqc x y c e (c + j)) e) = nm (-y * ev (ls f c e) x) := by
    rw [← ls_ev, ← sm_mul]
    refine sm_ncongr fun j hj => ?_
    rw [← eqc_second x y c hj, nm_mulr, Int.zero_sub, Int.mul_neg]
    have h3 : nm (f (c + j) * nm (y * pw x j)) = nm (y * (f (c + j) * x ^ j)) := by
      unfold pw
      rw [nm_mulr, ← Int.mul_assoc, nm_mulr]
      congr 1
      rw [Int.mul_comm (f (c + j)) y, Int.mul_assoc]
    rw [Int.neg_mul]
    unfold nm at h3 ⊢
    omega
  rw [nm_add_congr h1 h2]
  congr 1
  rw [Int.neg_mul, Int.sub_eq_add_neg]

/-- A polynomial that is 0 at the places. -/
def zrt : List Int → List Int
  | [] => [1]
  | a :: l => adl (-a) (0 :: zrt l) (zrt l)
theorem zrt_len : ∀ l : List Int, (zrt l).length = l.length + 1
  | [] => rfl
  | a :: l => by rw [zrt, adl_len, List.length_cons, List.length_cons, zrt_len l]; omega
theorem zrt_top : ∀ l : List Int, (zrt l).getD l.length 0 = 1
  | [] => rfl
  | a :: l => by
    rw [zrt, adl_getD, List.length_cons, cons_getDs, zrt_top l, getD_big (show (zrt l).length ≤ l.length + 1 by rw [zrt_len]; omega), Int.mul_zero]; rfl
theorem zrt_ev : ∀ (l : List Int) (a : Int), a ∈ l → ev (zrt l) a = 0
  | b :: l, a, h => by
    rw [zrt, adl_ev]
    have e : ev (0 :: zrt l) a = a * ev (zrt l) a := by rw [ev, Int.zero_add]
    rw [e]
    rcases List.mem_cons.1 h with rfl | h
    · rw [Int.neg_mul, Int.add_right_neg]
    · rw [zrt_ev l a h, Int.mul_zero, Int.mul_zero]; rfl

/-- The equations of shares. -/
def Bwe (M : Nat → Nat → Int) (l : List (Int × Int)) (n c e : Nat) : Prop := ∀ i j, i < n → j < c + e + 1 → M i j = eqc (l.getD i (0, 0)).1 (l.getD i (0, 0)).2 c e j

theorem mem_bdl {l : List (Int × Int)} {p : List Int} : ∀ {n i : Nat}, i < n → ¬ nm (ev p (l.getD i (0, 0)).1) = nm (l.getD i (0, 0)).2 → (l.getD i (0, 0)).1 ∈ bdl l p n
  | n + 1, i, hi, h => by
    by_cases e : i = n
    · subst e; rw [bdl_bad h]; simp
    · have := mem_bdl (n := n) (show i < n by omega) h
      rw [bdl]; split
      · exact this
      · exact List.mem_append_left _ this

theorem bw_dep {M : Nat → Nat → Int} {l : List (Int × Int)} {n t e : Nat} {p : List Int} (hM : Bwe M l n (t + 1 + e) e) (hp : p.length ≤ t + 1) (hb : (bdl l p n).length ≤ e) : dep M n (t + 1 + e + e) := by
  obtain ⟨Z, hZl, hZt, hZ0⟩ : ∃ Z : List Int, Z.length = e + 1 ∧ Z.getD e 0 = 1 ∧ ∀ a ∈ bdl l p n, ev Z a = 0 := by
    refine ⟨zrt (bdl l p n ++ List.replicate (e - (bdl l p n).length) 0), ?_, ?_, fun a ha => zrt_ev _ a (List.mem_append_left _ ha)⟩
    · rw [zrt_len]; simp; omega
    · have := zrt_top (bdl l p n ++ List.replicate (e - (bdl l p n).length) 0)
      have hl : (bdl l p n ++ List.replicate (e - (bdl l p n).length) 0).length = e := by simp; omega
      rwa [hl] at this
  refine ⟨fun j => if j < t + 1 + e then (cvl p Z).getD j 0 else Z.getD (j - (t + 1 + e)) 0, fun i hi => ?_⟩
  obtain ⟨x, hx⟩ : ∃ x, (l.getD i (0, 0)).1 = x := ⟨_, rfl⟩
  obtain ⟨y, hy⟩ : ∃ y, (l.getD i (0, 0)).2 = y := ⟨_, rfl⟩
  have hrow : ∀ j, j < t + 1 + e + e + 1 → M i j = eqc x y (t + 1 + e) e j := fun j hj => by rw [hM i j hi hj, hx, hy]
  rw [hrow _ (by omega), sm_ncongr (g := fun j => (if j < t + 1 + e then (cvl p Z).getD j 0 else Z.getD (j - (t + 1 + e)) 0) * eqc x y (t + 1 + e) e j) (fun j hj => by rw [hrow j (by omega)]), eq_row, ← eqc_last, nm_nm]
  have hB : nm (ev (ls (fun j => if j < t + 1 + e then (cvl p Z).getD j 0 else Z.getD (j - (t + 1 + e)) 0) 0 (t + 1 + e)) x) = nm (ev p x * ev Z x) := by
    rw [← cvl_ev]
    refine ev_congr _ _ _ fun j => ?_
    by_cases hj : j < t + 1 + e
    · rw [ls_getD _ _ hj]; simp [hj]
    · rw [getD_big (by rw [ls_len]; omega), getD_big (by rw [cvl_len]; omega)]
  have hZe : ev Z x = ev (ls (fun j => if j < t + 1 + e then (cvl p Z).getD j 0 else Z.getD (j - (t + 1 + e)) 0) (t + 1 + e) e) x + x ^ e := by
    have h1 : Z = ls (fun j => if j < t + 1 + e then (cvl p Z).getD j 0 else Z.getD (j - (t + 1 + e)) 0) (t + 1 + e) e ++ [1] := by
      refine list_ext (by simp [ls_len, hZl]) fun j hj => ?_
      by_cases hje : j < e
      · rw [getD_appL (by rw [ls_len]; exact hje), ls_getD _ _ hje, if_neg (by omega), show t + 1 + e + j - (t + 1 + e) = j by omega]
      · have : j = e := by omega
        subst this
        rw [hZt, getD_appR (by rw [ls_len]; omega), ls_len, Nat.sub_self]; rfl
    have h2 := ev_snoc (ls (fun j => if j < t + 1 + e then (cvl p Z).getD j 0 else Z.getD (j - (t + 1 + e)) 0) (t + 1 + e) e) 1 x
    rw [← h1, ls_len, Int.one_mul] at h2
    exact h2
  generalize ev (ls (fun j => if j < t + 1 + e then (cvl p Z).getD j 0 else Z.getD (j - (t + 1 + e)) 0) (t + 1 + e) e) x = L at hZe ⊢
  generalize ev (ls (fun j => if j < t + 1 + e then (cvl p Z).getD j 0 else Z.getD (j - (t + 1 + e)) 0) 0 (t + 1 + e)) x = B at hB ⊢
  have hk : nm (ev p x * ev Z x) = nm (y * ev Z x) := by
    by_cases hg : nm (ev p (l.getD i (0, 0)).1) = nm (l.getD i (0, 0)).2
    · rw [hx, hy] at hg; exact nm_mul_congr hg rfl
    · have := hZ0 _ (mem_bdl hi hg)
      rw [hx] at this
      rw [this, Int.mul_zero, Int.mul_zero]
  rw [hk, hZe, Int.mul_add] at hB
  have hpw : nm (y * pw x e) = nm (y * x ^ e) := by unfold pw; exact nm_mulr _ _
  rw [hpw]
  generalize y * L = a at *
  generalize y * x ^ e = b at *
  unfold nm at *
  omega

/-- What the two polynomials tell at each share. -/
theorem bw_eq {M : Nat → Nat → Int} {l : List (Int × Int)} {n c e : Nat} {V : List Int} (hM : Bwe M l n c e) (hV : Sol M n (c + e) V) {i : Nat} (hi : i < n) :
    nm (ev (V.take c) (l.getD i (0, 0)).1) = nm ((l.getD i (0, 0)).2 * ev (V.drop c ++ [1]) (l.getD i (0, 0)).1) := by
  have h := hV.ns i hi
  obtain ⟨x, hx⟩ : ∃ x, (l.getD i (0, 0)).1 = x := ⟨_, rfl⟩
  obtain ⟨y, hy⟩ : ∃ y, (l.getD i (0, 0)).2 = y := ⟨_, rfl⟩
  have hrow : ∀ j, j < c + e + 1 → M i j = eqc x y c e j := fun j hj => by rw [hM i j hi hj, hx, hy]
  rw [hx, hy, sm_ncongr (g := fun j => (if j < c + e then V.getD j 0 else -1) * eqc x y c e j) (fun j hj => by rw [hrow j hj]), sm] at *
  rw [nm_add_congr (eq_row _ x y c e) rfl, if_neg (by omega), ← eqc_last] at h
  have hl := hV.len
  have e1 : ls (fun j => if j < c + e then V.getD j 0 else -1) 0 c = V.take c := by
    refine list_ext (by rw [ls_len]; simp; omega) fun j hj => ?_
    rw [ls_len] at hj
    rw [ls_getD _ _ hj, if_pos (by omega), take_getD, if_pos hj, Nat.zero_add]
  have e2 : ls (fun j => if j < c + e then V.getD j 0 else -1) c e = V.drop c := by
    refine list_ext (by rw [ls_len]; simp; omega) fun j hj => ?_
    rw [ls_len] at hj
    rw [ls_getD _ _ hj, if_pos (by omega)]
    simp
  rw [e1, e2] at h
  have hdl : (V.drop c).length = e := by simp; omega
  rw [ev_snoc, hdl, Int.one_mul, Int.mul_add]
  have hpw : nm (y * pw x e) = nm (y * x ^ e) := by unfold pw; exact nm_mulr _ _
  rw [hpw] at h
  generalize ev (V.take c) x = a at *
  generalize y * ev (V.drop c) x = b at *
  generalize y * x ^ e = d at *
  unfold nm at *
  omega

/-- The highest number of a product. -/
theorem pc_top {D Z : List Int} {N e : Nat} (hZ : Z.length = e + 1) (hD : ∀ t, N < t → nm (D.getD t 0) = 0) : ∀ d, nm (pc D Z (N + e) (N + 1 + d)) = nm (D.getD N 0 * Z.getD e 0)
  | 0 => by
    rw [Nat.add_zero, pc, pc_far D Z (N + e) N (by omega), Int.zero_add, tm, if_pos (by omega), show N + e - N = e by omega]
  | d + 1 => by
    rw [← Nat.add_assoc, pc, nm_add_congr (pc_top hZ hD d) (show nm (tm D Z (N + e) (N + 1 + d)) = nm 0 from ?_), Int.add_zero]
    unfold tm
    split
    · rw [nm_mul_congr (c := 0) (hD _ (by omega)) rfl, Int.zero_mul]
    · rfl
theorem pc_sub (Q p Z : List Int) (t : Nat) : ∀ n, pc (adl (-1) Q p) Z t n = pc Q Z t n - pc p Z t n
  | 0 => rfl
  | n + 1 => by
    rw [pc, pc, pc, pc_sub Q p Z t n]
    unfold tm
    split
    · rw [adl_getD, Int.neg_one_mul, Int.add_mul, Int.neg_mul]; omega
    · omega
theorem pc_long {Q Z : List Int} {t n : Nat} (h : Q.length ≤ n) : pc Q Z t n = pc Q Z t Q.length := by
  have := pc_ge Q Z t (n - Q.length)
  rwa [show Q.length + (n - Q.length) = n by omega] at this

/-- There is but one way to divide. -/
theorem div_one {Q R p Z : List Int} {e : Nat} (hZ : Z.length = e + 1) (hZt : Z.getD e 0 = 1) (nR : Nml R) (hR : R.length < e + 1) (h : ∀ t, nm (pc Q Z t Q.length + R.getD t 0) = nm (pc p Z t p.length)) : nrm Q = nrm p ∧ R = [] := by
  obtain ⟨D, hD⟩ : ∃ D, D = adl (-1) Q p := ⟨_, rfl⟩
  have hDl : D.length = max Q.length p.length := by rw [hD, adl_len]
  have hpc : ∀ t, nm (pc D Z t D.length) = nm (- R.getD t 0) := fun t => by
    have h1 := h t
    rw [← pc_long (show Q.length ≤ D.length by omega), ← pc_long (show p.length ≤ D.length by omega)] at h1
    rw [hD, pc_sub, ← hD]
    generalize pc Q Z t D.length = a at *
    generalize pc p Z t D.length = b at *
    unfold nm at *
    omega
  have hz : ∀ t, nm (D.getD t 0) = 0 := by
    have hz0 : tl (nz D) D.length = 0 := by
      refine Decidable.byContradiction fun hne => ?_
      obtain ⟨N, hN⟩ : ∃ N, tl (nz D) D.length = N + 1 := ⟨tl (nz D) D.length - 1, by omega⟩
      have h1 := tl_top (nz D) D.length (by omega)
      have h2 := tl_le (nz D) D.length
      rw [hN, Nat.add_sub_cancel, nz_getD] at h1
      have h3 := pc_top (D := D) (N := N) hZ (fun t ht => by
        by_cases htl : t < D.length
        · have := tl_above (nz D) D.length t (by omega) htl
          rwa [nz_getD] at this
        · rw [getD_big (by omega)]; rfl) (D.length - (N + 1))
      rw [show N + 1 + (D.length - (N + 1)) = D.length by omega, hpc, getD_big (show R.length ≤ N + e by omega), hZt, Int.mul_one] at h3
      exact h1 h3.symm
    intro t
    by_cases htl : t < D.length
    · have := tl_above (nz D) D.length t (by omega) htl
      rwa [nz_getD] at this
    · rw [getD_big (by omega)]; rfl
  have hQp : ∀ t, nm (Q.getD t 0) = nm (p.getD t 0) := fun t => by
    have := hz t
    rw [hD, adl_getD] at this
    unfold nm at *
    omega
  refine ⟨nrm_ext hQp, ?_⟩
  cases R with
  | nil => rfl
  | cons r R =>
    have h1 := nR.top (by simp)
    have h2 := hpc ((r :: R).length - 1)
    have h4 : nm (pc D Z ((r :: R).length - 1) D.length) = 0 := by
      have : ∀ n, nm (pc D Z ((r :: R).length - 1) n) = 0 := fun n => by
        induction n with
        | zero => rfl
        | succ n ih =>
          rw [pc, nm_add_congr (c := 0) (d := 0) ih ?_]; · rfl
          unfold tm
          split
          · rw [nm_mul_congr (c := 0) (hz n) rfl, Int.zero_mul]
          · rfl
      exact this _
    have h3 := getD_bd' nR.bd ((r :: R).length - 1)
    rw [h4] at h2
    unfold nm at h2
    omega

/-- What comes of the division tells whether there is a polynomial that has all shares but a few. -/
theorem bw_find {M : Nat → Nat → Int} {l : List (Int × Int)} {n t e : Nat} {V Q R Z : List Int} (hl : l.length = n) (hd : dis (fa l) n) (hn : t + 1 + 2 * e ≤ n) (hM : Bwe M l n (t + 1 + e) e) (hV : Sol M n (t + 1 + e + e) V)
    (hZ : Z = V.drop (t + 1 + e) ++ [1]) (nQ : Nml Q) (nR : Nml R) (hR : R.length < e + 1) (h : ∀ j, nm (pc Q Z j Q.length + R.getD j 0) = nm ((V.take (t + 1 + e)).getD j 0)) :
    (R = [] → Q.length ≤ t + 1 ∧ (bdl l Q n).length ≤ e) ∧ (R ≠ [] → ∀ p : List Int, p.length ≤ t + 1 → ¬ (bdl l p n).length ≤ e) := by
  have hVl := hV.len
  have hZl : Z.length = e + 1 := by rw [hZ]; simp; omega
  have hZt : Z.getD e 0 = 1 := by
    have hdl : (V.drop (t + 1 + e)).length = e := by simp; omega
    rw [hZ, getD_appR (by omega), hdl, Nat.sub_self]; rfl
  have heq : ∀ i, i < n → nm (ev (V.take (t + 1 + e)) (l.getD i (0, 0)).1) = nm ((l.getD i (0, 0)).2 * ev Z (l.getD i (0, 0)).1) := fun i hi => by rw [hZ]; exact bw_eq hM hV hi
  have hget : ∀ x ∈ l, ∃ i, i < n ∧ l.getD i (0, 0) = x := fun x hx => by
    obtain ⟨i, hi, e⟩ := List.getElem_of_mem hx
    exact ⟨i, by omega, by simp [List.getElem?_eq_getElem hi, e]⟩
  have hpair : ∀ f : Int × Int → Bool, (ats (l.filter f)).Pairwise (fun a b => nm (a - b) ≠ 0) := fun f => by
    have h1 := ats_pair hl (dis_okk hd)
    unfold ats at h1 ⊢
    rw [List.pairwise_map] at h1 ⊢
    exact h1.filter _
  constructor
  · rintro rfl
    have h' : ∀ j, nm (pc Q Z j Q.length) = nm ((V.take (t + 1 + e)).getD j 0) := fun j => by have := h j; simpa using this
    refine ⟨?_, ?_⟩
    · rcases Nat.lt_or_ge (t + 1) Q.length with hlt | hge
      · exfalso
        have h1 := pc_top (D := Q) (Z := Z) (N := Q.length - 1) hZl (fun j hj => by rw [getD_big (by omega)]; rfl) 0
        rw [show Q.length - 1 + 1 + 0 = Q.length by omega, h', hZt, Int.mul_one, getD_big (by simp; omega)] at h1
        have h2 := nQ.top (by omega)
        have h3 := getD_bd' nQ.bd (Q.length - 1)
        unfold nm at h1
        omega
      · exact hge
    · rcases Nat.lt_or_ge e (bdl l Q n).length with hlt | hge
      · exfalso
        rw [← hl, bdl_all] at hlt
        have hr := roots (ats (l.filter (badb Q))) Z (hpair _) (fun a ha => by
          obtain ⟨x, hx, rfl⟩ := List.mem_map.1 ha
          obtain ⟨hx1, hx2⟩ := List.mem_filter.1 hx
          obtain ⟨i, hi, rfl⟩ := hget x hx1
          have hb : ¬ nm (ev Q (l.getD i (0, 0)).1) = nm (l.getD i (0, 0)).2 := by simpa [badb] using hx2
          refine Decidable.byContradiction fun hne => hb ?_
          refine nm_cancel (a := ev Z (l.getD i (0, 0)).1) ?_ hne
          rw [Int.mul_comm, ← cvl_ev, Int.mul_comm _ (l.getD i (0, 0)).2, ← heq i hi]
          refine ev_congr _ _ _ fun j => ?_
          rw [cvl_getD, nm_nm]
          exact h' j) (by rw [ats_len]; rw [List.length_map] at hlt; omega) 1 (by rw [hZ]; simp)
        revert hr; decide
      · exact hge
  · intro hR0 p hp hb
    have hpoly : nrm (V.take (t + 1 + e)) = nrm (cvl p Z) := by
      have hcnt := cnt_good l p n
      have hf : (l.filter fun x => !badb p x).length + (bdl l p n).length = n := by
        rw [← hl, bdl_all, List.length_map]
        clear hb hcnt hget hpair heq hV hM hd hl hn h
        induction l with
        | nil => rfl
        | cons a l ih =>
          simp only [List.filter_cons, List.length_cons]
          cases badb p a <;> simp <;> omega
      refine same_poly (hpair fun x => !badb p x) (fun a ha => ?_) ?_ ?_
      · obtain ⟨x, hx, rfl⟩ := List.mem_map.1 ha
        obtain ⟨hx1, hx2⟩ := List.mem_filter.1 hx
        obtain ⟨i, hi, rfl⟩ := hget x hx1
        have hg : nm (ev p (l.getD i (0, 0)).1) = nm (l.getD i (0, 0)).2 := by simpa [badb] using hx2
        rw [heq i hi, cvl_ev]
        exact (nm_mul_congr hg rfl).symm
      · rw [ats_len]; simp; omega
      · rw [ats_len, cvl_len]; omega
    have := (div_one hZl hZt nR hR (Q := Q) (p := p) fun j => by
      rw [h j, ← nrm_getD, hpoly, nrm_getD, cvl_getD, nm_nm]).2
    exact hR0 this
end Go.Proofs.Ytoekicjppheemab

namespace Go.Proofs.Ytoekicjppheemab
open Go.RowKit Crm

/-- A slice that the call itself gathers, and one number more: a step of a region that draws. -/
theorem step_app1 {P : Program} {T E : TypeId} (hT : P.underlying T = some (.slice E)) (info : (P.info? E).map (fun i => (i.zero, i.size, i.bytes)) = some (some (.int .u64 0), 1, 8))
    (w : World) {w1 : World} {ops : Array Oper} {o : Oper} {a : Act} {K : Act → World → Prop} {Q : Exit → Act → World → Prop} {F : Prop} (hgd : o.guard = none) (s x : Operand)
    (ho : o.op = .call { callee := .builtin .append, args := #[s, x], argTypes := #[T, T] })
    (base : Nat) (v : Value) (n : Nat) (xs : List Int) (hs : a.eval s = v) (hown : w.ownsRow base E 1 v n (xs.map (Value.int .u64))) (y : Int) (hx : a.eval x = .slice (some ⟨w.heap.size, 0, none⟩) 1 1)
    (hw1 : w1 = w.alloc (.cells #[.int .u64 y] E)) (hn : n ≤ 1000000) (hbase : base ≤ w.heap.size)
    (h : ∀ v' w', w'.ownsRow base E 1 v' (n + 1) ((xs ++ [y]).map (Value.int .u64)) → Below base w w' → K (a.put o.dst v') w') :
    if Region.wanted o (yielded ops a.tmps) = true then Oper.wp P o a w1 K Q else F := by
  subst hw1
  obtain ⟨i0, hi, hz0, hz1, hz2⟩ := info_parts info
  refine step_append_lies _ hgd s x T ho base E i0 (.int .u64 0) 1 8 hT hi hz0 hz1 hz2 rfl (by decide) v n _ hs (hown.alloc _) ⟨w.heap.size, 0, none⟩ 1 1 [.int .u64 y] hx rfl ?_ ?_ (by decide) (by unfold maxLen; omega) (by omega) (by simp; omega) _ rfl ?_
  · intro j u hj
    match j, hj with
    | 0, hj => simp at hj; subst hj; simp [Addr.add]
  · intro u hu; simp at hu; subst hu; rfl
  · intro g cap w' hown' hgrow _ _
    refine h _ w' (by rw [List.map_append]; exact hown') ?_
    exact ((Below.refl _ _).alloc hbase _).grown hgrow (by simp; omega) (fun k hk => (hown.lt k hk).1)

set_option maxRecDepth 100000 in
set_option maxHeartbeats 1000000 in
theorem cEquation (x y : Int) (c e : Nat) (w : World) (hx1 : 1 ≤ x) (hx9 : x ≤ 9) (hy0 : 0 ≤ y) (hy1 : y ≤ 18446744073709551615) (hc : c ≤ 100) (hec : e < c) :
    Calls Try.prog 18 #[.agg #[.int .i64 x, .int .u64 y], .int .i64 c, .int .i64 e] w fun en w' => ∃ a cp, en = .returned (.slice a (c + e + 1) cp) ∧ Rd w' a (c + e + 1) cp (eqn x y c e (c + e + 1)) ∧ (∀ q, a = some q → w.heap.size ≤ q.block) ∧ Below w.heap.size w w' := by
  obtain ⟨i0, hi, hz0, hz1, hz2⟩ := info_parts info28
  have hcA0 := cell_alloc0 w (.int .i64 x) (.int .u64 y) 41
  have hcA1 := cell_alloc1 w (.int .i64 x) (.int .u64 y) 41
  have hbA : Below w.heap.size w (w.alloc (.cells #[.int .i64 x, .int .u64 y] 41)) := (Below.refl _ _).alloc (Nat.le_refl _) _
  have HsA : Hid ((w.alloc (.cells #[.int .i64 x, .int .u64 y] 41)).heap.size = w.heap.size + 1) := by simp [Hid]
  go_enter Try.func18, Try.ntmps18
  go_wp2_with (at_make; generalize w.alloc (.cells #[.int .i64 x, .int .u64 y] 41) = wA at *; refine wpList_make_own _ rfl _ _ 23 rfl wA.heap.size 28 i0 (.int .u64 0) 1 Try.underlying23 hi hz0 hz1 .i64 .i64 _ (c + e + 1) rfl rfl (by omega) (by rw [hz2]; omega) (by unfold maxLen; omega) (Nat.le_refl _) ?_; intro w1 hown hgrow)
  have hb1 : Below wA.heap.size wA w1 := (Below.refl _ _).grown hgrow (Nat.le_refl _) (by simp)
  clear hgrow
  go_loopw [8, 20] (fun v i wr => ∃ k : Nat, k ≤ c ∧ i = .int .i64 k ∧ wr.ownsRow wA.heap.size 28 1 v k ((eqn x y c e k).map (Value.int .u64)) ∧ Below wA.heap.size wA wr) (fun _ i _ => c - (intOf i).toNat)
  case atStart => exact ⟨0, Nat.zero_le _, rfl, hown, hb1⟩
  case round =>
    clear hown hb1
    obtain ⟨k, hk, rfl, hown, hbel⟩ := hrel
    have hs1 := hbel.size
    by_cases hlt : k < c
    · have hp := pw_bd x k
      have HV : Hid (pw x k = eqc x y c e k) := eqc_first x y e hlt
      go_wp2_with (first | (go_at_call 29; refine (fPow _ _ _ (by omega) (by omega) (by omega) (by omega)).mono ?_; rintro en w' ⟨rfl, hw⟩; have hw := hw.symm; subst hw) | (at_builtin; refine wpList_app1 Try.underlying23 info28 _ rfl _ _ rfl wA.heap.size _ _ _ rfl hown _ rfl (by omega) (by omega) ?_; intro v' w3 hown3 hbel3; rw [eqn_snoc x y c e k HV.out] at hown3; have hbel4 := hbel.trans hbel3; clear hown hbel hbel3))
      go_roundw
      case rel => exact ⟨k + 1, by omega, by go_num, hown3, hbel4⟩
      case measure => simp [intOf]; omega
    · have hkc : k = c := by omega
      subst hkc
      obtain ⟨wo, hwo⟩ : ∃ wo, wo = wr := ⟨_, rfl⟩
      subst hwo
      go_wp2
      go_loopw [8, 32] (fun v i wr => ∃ j : Nat, j ≤ e ∧ i = .int .i64 j ∧ wr.ownsRow wA.heap.size 28 1 v (k + j) ((eqn x y k e (k + j)).map (Value.int .u64)) ∧ Below wA.heap.size wA wr) (fun _ i _ => e - (intOf i).toNat)
      case atStart => exact ⟨0, Nat.zero_le _, rfl, hown, hbel⟩
      case round =>
        clear hown hbel
        obtain ⟨j, hj, rfl, hown, hbel⟩ := hrel
        have hs2 := hbel.size
        by_cases hlt : j < e
        · obtain ⟨a', c', rfl, hr, _⟩ := Rd.own hown (bd_u64 (eqn_bd x y k e (k + j)))
          obtain ⟨b, o, z, rfl, hbb, HZ, hz0', hz1', hcz⟩ := hr.one (show j < k + j by omega)
          have HZ2 : Hid (z = pw x j) := by
            have := HZ.out
            rw [eqn_getD x y k e (by omega), ← eqc_first x y e (by omega)] at this
            exact this.symm
          have hcy : wr.cell? ⟨w.heap.size, 1, none⟩ = some (.int .u64 y) := by rw [hbel.cell (by have := HsA.out; simp only; omega)]; exact hcA1
          have hm := nm_bd (y * z)
          have HV : Hid (nm (-nm (y * z)) = eqc x y k e (k + j)) := by rw [HZ2.out, ← Int.zero_sub]; exact eqc_second x y k hlt
          have hj0 : (0 : Int) ≤ (j : Int) := by omega
          have hjk : (j : Int) < (k : Int) + (j : Int) := by omega
          have hown2 : wr.drew.ownsRow wA.heap.size 28 1 (.slice (some ⟨b, o, none⟩) (k + j) c') (k + j) ((eqn x y k e (k + j)).map (Value.int .u64)) := hown
          have hbel2 := hbel.drew
          clear HZ hr
          go_wp2
          go_region_law (first | (refine step_app1 Try.underlying23 info28 wr.drew rfl _ _ rfl wA.heap.size _ _ _ rfl hown2 (nm (-nm (y * z))) rfl rfl (by omega) (by exact hs2) ?_; intro v' w3 hown3 hbel3; rw [eqn_snoc x y k e (k + j) HV.out] at hown3; have hbel4 := hbel2.trans hbel3) | (go_simp; go_at_call 31; refine (fMul _ _ _ (by omega) (by omega) (by omega) (by omega)).mono ?_; rintro en w' ⟨rfl, rfl⟩) | (go_simp; go_at_call 30; refine (fSub _ _ _ (by omega) (by omega) (by omega) (by omega)).mono ?_; rintro en w' ⟨rfl, rfl⟩))
          all_goals
            clear hown hbel hown2 hbel2 hbel3
            go_wp2
            go_roundw
            case rel => exact ⟨j + 1, by omega, by go_num, hown3, hbel4⟩
            case measure => simp [intOf]; omega
        · have hje : j = e := by omega
          subst hje
          obtain ⟨a', c', rfl, hr, _⟩ := Rd.own hown (bd_u64 (eqn_bd x y k j (k + j)))
          obtain ⟨b, o, z, rfl, hbb, HZ, hz0', hz1', hcz⟩ := hr.one (show j < k + j by omega)
          have HZ2 : Hid (z = pw x j) := by
            have := HZ.out
            rw [eqn_getD x y k j (by omega), ← eqc_first x y j (by omega)] at this
            exact this.symm
          have hcy : wr.cell? ⟨w.heap.size, 1, none⟩ = some (.int .u64 y) := by rw [hbel.cell (by have := HsA.out; simp only; omega)]; exact hcA1
          have hm := nm_bd (y * z)
          have HV : Hid (nm (y * z) = eqc x y k j (k + j)) := by rw [HZ2.out]; exact eqc_last x y k j
          have hj0 : (0 : Int) ≤ (j : Int) := by omega
          have hjk : (j : Int) < (k : Int) + (j : Int) := by omega
          have hown2 : wr.drew.ownsRow wA.heap.size 28 1 (.slice (some ⟨b, o, none⟩) (k + j) c') (k + j) ((eqn x y k j (k + j)).map (Value.int .u64)) := hown
          have hbel2 := hbel.drew
          clear HZ hr
          go_wp2
          go_region_law (first | (refine step_app1 Try.underlying23 info28 wr.drew rfl _ _ rfl wA.heap.size _ _ _ rfl hown2 (nm (y * z)) rfl rfl (by omega) (by exact hs2) ?_; intro v' w3 hown3 hbel3; rw [eqn_snoc x y k j (k + j) HV.out] at hown3; have hbel4 := hbel2.trans hbel3; obtain ⟨a3, c3, rfl, hr3, hf3⟩ := Rd.own hown3 (bd_u64 (eqn_bd x y k j (k + j + 1)))) | (go_simp; go_at_call 31; refine (fMul _ _ _ (by omega) (by omega) (by omega) (by omega)).mono ?_; rintro en w' ⟨rfl, rfl⟩))
          all_goals
            clear hown hbel hown2 hbel2 hbel3
            go_wp2
            go_ret
            exact ⟨a3, c3, rfl, hr3, fun q hq => by have := hf3 q hq; have := HsA.out; omega, hbA.trans (hbel4.mono hbA.size)⟩
end Go.Proofs.Ytoekicjppheemab
