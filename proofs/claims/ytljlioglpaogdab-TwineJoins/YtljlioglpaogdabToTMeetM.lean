/- Rows of a dealing in two variables meet; a bent one is told: plain facts. · Rows that meet, each two of them, are rows of one F: plain facts. -/
import Derived.Test.YtljlioglpaogdabToRefPolyC
import Derived.Test.YtljlioglpaogdabToCheckC
import Derived.Test.YtljlioglpaogdabToTPairM
import Derived.Test.YtljlioglpaogdabToGaussM
import Derived.Test.YtljlioglpaogdabToTJoinM
namespace Go.Proofs.Ytljlioglpaogdab
set_option linter.unusedVariables false
set_option maxRecDepth 100000
set_option maxHeartbeats 8000000
section
open Crm
theorem ev_sm (x : Int) : ∀ L : List Int, ev L x = sm (fun j => L.getD j 0 * x ^ j) L.length := by
  intro L
  have h : ∀ k, k ≤ L.length → ev (L.take k) x = sm (fun j => L.getD j 0 * x ^ j) k := by
    intro k
    induction k with
    | zero => intro _; rfl
    | succ k ih => intro hk; rw [ev_take L x (by omega), ih (by omega), sm]
  have := h L.length (Nat.le_refl _)
  rwa [List.take_length] at this
/-- Through places, no two of them one, goes a polynomial. -/
theorem thru_ex (f g : Nat → Int) {n : Nat} (hd : dis f n) : ∃ p : List Int, p.length ≤ n ∧ ∀ r, r < n → nm (ev p (f r)) = nm (g r) := by
  let l : List (Int × Int) := (List.range n).map fun r => (f r, g r)
  have hw : ∀ r, r < n → l.getD r (0, 0) = (f r, g r) := fun r hr => by simp [l, hr]
  have ho : okk l n := fun i hi => by
    rw [hw i hi]
    have h1 := hd i hi
    refine ⟨⟨h1.1.1, by simp only; omega⟩, fun j hj => ?_⟩
    rw [hw j (by omega)]
    exact h1.2 j hj
  have h : ∀ k, k ≤ n → ∃ S Z, NwI l n k S Z := by
    intro k
    induction k with
    | zero => exact fun _ => ⟨_, _, nw_start l n⟩
    | succ k ih =>
      intro hk
      obtain ⟨S, Z, hI⟩ := ih (by omega)
      exact ⟨_, _, nw_step hI (by omega) ho rfl rfl rfl⟩
  obtain ⟨S, Z, hI⟩ := h n (Nat.le_refl _)
  refine ⟨S, by rw [hI.ls]; exact Nat.le_refl _, fun r hr => ?_⟩
  have := hI.s r hr
  rwa [hw r hr] at this

theorem ev_nm (L : List Int) (x : Int) {m : Nat} (h : L.length ≤ m) : nm (ev L x) = nm (sm (fun j => L.getD j 0 * x ^ j) m) := by
  rw [ev_sm]
  exact (sm_cut h fun j hj _ => by rw [getD_big hj, Int.zero_mul]; rfl).symm
theorem ev_at0 (L : List Int) : ev L 0 = L.getD 0 0 := by
  cases L with
  | nil => rfl
  | cons a L => rw [ev, Int.zero_mul, Int.add_zero]; rfl

/-- What F tells. -/
def gr (G : Nat → List Int) (t : Nat) (x y : Int) : Int := sm (fun j => sm (fun i => (G j).getD i 0 * x ^ i * y ^ j) (t + 1)) (t + 1)
theorem gr_col (G : Nat → List Int) (t : Nat) (x y : Int) : gr G t x y = sm (fun i => sm (fun j => (G j).getD i 0 * x ^ i * y ^ j) (t + 1)) (t + 1) :=
  sm_swap (fun i j => (G j).getD i 0 * x ^ i * y ^ j) (t + 1) (t + 1)
theorem gr_row {G : Nat → List Int} {t : Nat} {x : Int} {R : List Int} (hl : ∀ j, j ≤ t → (G j).length ≤ t + 1) (hR : R.length = t + 1) (hv : ∀ j, j ≤ t → nm (ev (G j) x) = nm (R.getD j 0)) (y : Int) : nm (gr G t x y) = nm (ev R y) := by
  rw [ev_sm, hR]
  refine sm_ncongr fun j hj => ?_
  have e : sm (fun i => (G j).getD i 0 * x ^ i * y ^ j) (t + 1) = y ^ j * sm (fun i => (G j).getD i 0 * x ^ i) (t + 1) := by
    rw [← sm_mul]
    congr 1
    funext i
    rw [Int.mul_comm]
  rw [e, Int.mul_comm]
  exact nm_mul_congr (by rw [← ev_nm (G j) x (hl j (by omega))]; exact hv j (by omega)) rfl
theorem gr_sym {G : Nat → List Int} {t : Nat} (hs : ∀ i j, i ≤ t → j ≤ t → nm ((G i).getD j 0) = nm ((G j).getD i 0)) (x y : Int) : nm (gr G t x y) = nm (gr G t y x) := by
  rw [gr_col]
  unfold gr
  refine sm_ncongr fun i hi => sm_ncongr fun j hj => ?_
  rw [Int.mul_assoc, Int.mul_assoc, Int.mul_comm (y ^ j)]
  exact nm_mul_congr (hs j i (by omega) (by omega)) rfl
/-- Rows of one F meet. -/
theorem twf_meet {l : List (Int × List Int)} {n t : Nat} {G : Nat → List Int} (h : TwF l n t G) (hw : ∀ i, i < n → (tc l i).length = t + 1) {r s : Nat} (hr : r < n) (hs : s < n) : nm (ev (tc l r) (ta l s)) = nm (ev (tc l s) (ta l r)) := by
  rw [← gr_row h.le (hw r hr) (fun j hj => h.val j hj r hr), ← gr_row h.le (hw s hs) (fun j hj => h.val j hj s hs)]
  exact gr_sym h.sym _ _
theorem map_getD0 (f : Nat → Int) {m i : Nat} (h : i < m) : ((List.range m).map f).getD i 0 = f i := by simp [h]
/-- Rows that meet, and are enough, are rows of one F. -/
theorem meet_twf {l : List (Int × List Int)} {n t : Nat} (hd : dis (ta l) n) (hn : t < n) (hw : ∀ i, i < n → (tc l i).length = t + 1) (hm : ∀ r s, r < n → s < n → nm (ev (tc l r) (ta l s)) = nm (ev (tc l s) (ta l r))) : ∃ G, TwF l n t G := by
  have hd1 : dis (ta l) (t + 1) := dis_le hd (by omega)
  obtain ⟨G, hG⟩ := Classical.axiomOfChoice fun j : Nat => thru_ex (ta l) (fun r => (tc l r).getD j 0) hd1
  have hle : ∀ j, j ≤ t → (G j).length ≤ t + 1 := fun j _ => (hG j).1
  have hrow : ∀ r, r ≤ t → ∀ y, nm (gr G t (ta l r) y) = nm (ev (tc l r) y) := fun r hr y => gr_row hle (hw r (by omega)) (fun j _ => (hG j).2 r (by omega)) y
  have hsym : ∀ i j, i ≤ t → j ≤ t → nm ((G i).getD j 0) = nm ((G j).getD i 0) := by
    intro i j hi hj
    let M : List Int := (List.range (t + 1)).map fun q => (G q).getD i 0
    have hMl : M.length = t + 1 := by simp [M]
    have hM : ∀ q, q < t + 1 → M.getD q 0 = (G q).getD i 0 := fun q hq => map_getD0 _ hq
    have hMe : ∀ r, r < t + 1 → nm (ev M (ta l r)) = nm (ev (G i) (ta l r)) := by
      intro r hr
      let X : List Int := (List.range (t + 1)).map fun p => sm (fun q => (G q).getD p 0 * ta l r ^ q) (t + 1)
      have hXl : X.length = t + 1 := by simp [X]
      have hX : ∀ p, p < t + 1 → X.getD p 0 = sm (fun q => (G q).getD p 0 * ta l r ^ q) (t + 1) := fun p hp => map_getD0 _ hp
      have hXe : ∀ s, s < t + 1 → nm (ev X (ta l s)) = nm (ev (tc l r) (ta l s)) := by
        intro s hs
        rw [hm r s (by omega) (by omega), ← hrow s (by omega), ev_sm, hXl, gr_col]
        refine sm_ncongr fun p hp => ?_
        rw [hX p hp, Int.mul_comm, ← sm_mul]
        refine sm_ncongr fun q hq => ?_
        rw [← Int.mul_assoc, Int.mul_comm (ta l s ^ p)]
      have h1 := col_one hd1 (Nat.lt_succ_self t) (by rw [hXl]; exact Nat.le_refl _) (by rw [hw r (by omega)]; exact Nat.le_refl _) hXe
      rw [(hG i).2 r hr, ← nrm_getD, ← h1, nrm_getD, hX i (by omega), ev_sm, hMl]
      exact sm_ncongr fun q hq => by rw [hM q hq]
    have h2 := col_one hd1 (Nat.lt_succ_self t) (by rw [hMl]; exact Nat.le_refl _) (hG i).1 hMe
    rw [← nrm_getD, ← h2, nrm_getD, hM j (by omega)]
  refine ⟨G, hle, hsym, fun j hj r hr => ?_⟩
  let Y : List Int := (List.range (t + 1)).map fun q => ev (G q) (ta l r)
  have hYl : Y.length = t + 1 := by simp [Y]
  have hY : ∀ q, q < t + 1 → Y.getD q 0 = ev (G q) (ta l r) := fun q hq => map_getD0 _ hq
  have h3 := col_one (p := Y) (q := tc l r) hd1 (Nat.lt_succ_self t) (by rw [hYl]; exact Nat.le_refl _) (by rw [hw r hr]; exact Nat.le_refl _) fun b hb => by
    rw [← gr_row hle hYl (fun q hq => by rw [hY q (by omega)]) (ta l b), gr_sym hsym, hrow b (by omega), hm b r (by omega) hr]
  rw [← hY j (by omega), ← nrm_getD, h3, nrm_getD]

theorem prs_none {l : List (Int × List Int)} {n : Nat} (hd : dis (ta l) n) (hP : Prs l n []) : ∀ r s, r < n → s < n → nm (ev (tc l r) (ta l s)) = nm (ev (tc l s) (ta l r)) := by
  have h : ∀ r s, r < n → s < n → ta l r < ta l s → nm (ev (tc l r) (ta l s)) = nm (ev (tc l s) (ta l r)) := fun r s hr hs hlt => by
    refine Decidable.byContradiction fun hne => ?_
    have := (hP.mem (ta l r) (ta l s)).2 ⟨hlt, r, s, hr, hs, rfl, rfl, hne⟩
    simp at this
  intro r s hr hs
  rcases Int.lt_trichotomy (ta l r) (ta l s) with e | e | e
  · exact h r s hr hs e
  · obtain rfl := dis_idx hd hr hs e; rfl
  · exact (h s r hs hr e).symm
/-- All meet: what the rows tell at 0 tells the secret. -/
theorem meet_join {l : List (Int × List Int)} {n t : Nat} {x r : Int} (hR : Rwt l n t) (ht : t ≤ 4) (hn : t < n) (hP : Prs l n []) (hO : Opn (colS l 0 n) n t x r) : Jnd l n t x r := by
  have hd := hR.1.dis
  obtain ⟨G, hG⟩ := meet_twf hd hn hR.2 (prs_none hd hP)
  have h1 : Opn (colS l 0 n) n t (nm (ev (G 0) 0)) 0 :=
    .inr ⟨.inr (.inr (.inr ⟨⟨by omega, by omega⟩, colS_dis hd 0, by omega, rfl⟩)), .inl ⟨G 0, by have := hG.le 0 (Nat.zero_le _); omega, (colS_hs (Nat.le_refl _)).2 (hG.val 0 (Nat.zero_le _)), rfl, rfl⟩⟩
  obtain ⟨rfl, rfl⟩ := hO.one h1
  exact .inr ⟨t, rfl, ht, .inr (.inr ⟨hR, hn, .inl ⟨G, hG, by rw [ev_at0], rfl⟩⟩)⟩
theorem meet_not {l : List (Int × List Int)} {n t : Nat} {L : List (Int × Int)} (hR : Rwt l n t) (ht : t ≤ 4) (hn : t < n) (hP : Prs l n L) (hL : L.length ≠ 0) : Jnd l n t 0 6 := by
  refine .inr ⟨t, rfl, ht, .inr (.inr ⟨hR, hn, .inr ⟨fun G hG => ?_, rfl, rfl⟩⟩)⟩
  cases L with
  | nil => exact hL rfl
  | cons p L =>
    obtain ⟨i, j⟩ := p
    obtain ⟨_, r, s, hr, hs, ei, ej, hne⟩ := (hP.mem i j).1 (by simp)
    subst ei ej
    exact hne (twf_meet hG hR.2 hr hs)
end
end Go.Proofs.Ytljlioglpaogdab
