/- Rows that meet, each two of them, are rows of one F: plain facts. · twine.Pairs, twine.Join. · Package twine: Need, Deal, Pairs, Join. -/
import Derived.Test.YtnofegdlainjaagDoorToEngM
import Derived.Test.YtnofegdlainjaagDoorToTJoinM
import Derived.Test.YtnofegdlainjaagDoorToTwApC
import Derived.Test.YtnofegdlainjaagDoorToEnK
import Derived.Test.YtnofegdlainjaagDoorToDealtC
import Derived.Deep.WholeRow
import Derived.Test.YtnofegdlainjaagDoorToTwDeC
namespace Go.Proofs.YtnofegdlainjaagDoor
open Crm

/-- Through places, no two of them one, goes a polynomial. -/
theorem thru_ex (f g : Nat → Int) {n : Nat} (hd : dis f n) : ∃ p : List Int, p.length ≤ n ∧ ∀ r, r < n → nm (ev p (f r)) = nm (g r) := by
  let l : List (Int × Int) := (List.range n).map fun r => (f r, g r)
  have hw : ∀ r, r < n → l.getD r (0, 0) = (f r, g r) := fun r hr => by simp [l, hr]
  have ho : okk l n := fun i hi => by
    rw [hw i hi]
    have h1 := hd i hi
    refine ⟨⟨h1.1.1, by simp only; omega⟩, fun j hj => ?_⟩
    rw [hw j (by omega)]
    exact h1.2 j hj
  have h : ∀ k, k ≤ n → ∃ S Z, NwI l n k S Z := by
    intro k
    induction k with
    | zero => exact fun _ => ⟨_, _, nw_start l n⟩
    | succ k ih =>
      intro hk
      obtain ⟨S, Z, hI⟩ := ih (by omega)
      exact ⟨_, _, nw_step hI (by omega) ho rfl rfl rfl⟩
  obtain ⟨S, Z, hI⟩ := h n (Nat.le_refl _)
  refine ⟨S, by rw [hI.ls]; exact Nat.le_refl _, fun r hr => ?_⟩
  have := hI.s r hr
  rwa [hw r hr] at this

theorem ev_nm (L : List Int) (x : Int) {m : Nat} (h : L.length ≤ m) : nm (ev L x) = nm (sm (fun j => L.getD j 0 * x ^ j) m) := by
  rw [ev_sm]
  exact (sm_cut h fun j hj _ => by rw [getD_big hj, Int.zero_mul]; rfl).symm
theorem ev_at0 (L : List Int) : ev L 0 = L.getD 0 0 := by
  cases L with
  | nil => rfl
  | cons a L => rw [ev, Int.zero_mul, Int.add_zero]; rfl

/-- What F tells. -/
def gr (G : Nat → List Int) (t : Nat) (x y : Int) : Int := sm (fun j => sm (fun i => (G j).getD i 0 * x ^ i * y ^ j) (t + 1)) (t + 1)
theorem gr_col (G : Nat → List Int) (t : Nat) (x y : Int) : gr G t x y = sm (fun i => sm (fun j => (G j).getD i 0 * x ^ i * y ^ j) (t + 1)) (t + 1) :=
  sm_swap (fun i j => (G j).getD i 0 * x ^ i * y ^ j) (t + 1) (t + 1)
theorem gr_row {G : Nat → List Int} {t : Nat} {x : Int} {R : List Int} (hl : ∀ j, j ≤ t → (G j).length ≤ t + 1) (hR : R.length = t + 1) (hv : ∀ j, j ≤ t → nm (ev (G j) x) = nm (R.getD j 0)) (y : Int) : nm (gr G t x y) = nm (ev R y) := by
  rw [ev_sm, hR]
  refine sm_ncongr fun j hj => ?_
  have e : sm (fun i => (G j).getD i 0 * x ^ i * y ^ j) (t + 1) = y ^ j * sm (fun i => (G j).getD i 0 * x ^ i) (t + 1) := by
    rw [← sm_mul]
    congr 1
    funext i
    rw [Int.mul_comm]
  rw [e, Int.mul_comm]
  exact nm_mul_congr (by rw [← ev_nm (G j) x (hl j (by omega))]; exact hv j (by omega)) rfl
theorem gr_sym {G : Nat → List Int} {t : Nat} (hs : ∀ i j, i ≤ t → j ≤ t → nm ((G i).getD j 0) = nm ((G j).getD i 0)) (x y : Int) : nm (gr G t x y) = nm (gr G t y x) := by
  rw [gr_col]
  unfold gr
  refine sm_ncongr fun i hi => sm_ncongr fun j hj => ?_
  rw [Int.mul_assoc, Int.mul_assoc, Int.mul_comm (y ^ j)]
  exact nm_mul_congr (hs j i (by omega) (by omega)) rfl
/-- Rows of one F meet. -/
theorem twf_meet {l : List (Int × List Int)} {n t : Nat} {G : Nat → List Int} (h : TwF l n t G) (hw : ∀ i, i < n → (tc l i).length = t + 1) {r s : Nat} (hr : r < n) (hs : s < n) : nm (ev (tc l r) (ta l s)) = nm (ev (tc l s) (ta l r)) := by
  rw [← gr_row h.le (hw r hr) (fun j hj => h.val j hj r hr), ← gr_row h.le (hw s hs) (fun j hj => h.val j hj s hs)]
  exact gr_sym h.sym _ _
theorem map_getD0 (f : Nat → Int) {m i : Nat} (h : i < m) : ((List.range m).map f).getD i 0 = f i := by simp [h]
/-- Rows that meet, and are enough, are rows of one F. -/
theorem meet_twf {l : List (Int × List Int)} {n t : Nat} (hd : dis (ta l) n) (hn : t < n) (hw : ∀ i, i < n → (tc l i).length = t + 1) (hm : ∀ r s, r < n → s < n → nm (ev (tc l r) (ta l s)) = nm (ev (tc l s) (ta l r))) : ∃ G, TwF l n t G := by
  have hd1 : dis (ta l) (t + 1) := dis_le hd (by omega)
  obtain ⟨G, hG⟩ := Classical.axiomOfChoice fun j : Nat => thru_ex (ta l) (fun r => (tc l r).getD j 0) hd1
  have hle : ∀ j, j ≤ t → (G j).length ≤ t + 1 := fun j _ => (hG j).1
  have hrow : ∀ r, r ≤ t → ∀ y, nm (gr G t (ta l r) y) = nm (ev (tc l r) y) := fun r hr y => gr_row hle (hw r (by omega)) (fun j _ => (hG j).2 r (by omega)) y
  have hsym : ∀ i j, i ≤ t → j ≤ t → nm ((G i).getD j 0) = nm ((G j).getD i 0) := by
    intro i j hi hj
    let M : List Int := (List.range (t + 1)).map fun q => (G q).getD i 0
    have hMl : M.length = t + 1 := by simp [M]
    have hM : ∀ q, q < t + 1 → M.getD q 0 = (G q).getD i 0 := fun q hq => map_getD0 _ hq
    have hMe : ∀ r, r < t + 1 → nm (ev M (ta l r)) = nm (ev (G i) (ta l r)) := by
      intro r hr
      let X : List Int := (List.range (t + 1)).map fun p => sm (fun q => (G q).getD p 0 * ta l r ^ q) (t + 1)
      have hXl : X.length = t + 1 := by simp [X]
      have hX : ∀ p, p < t + 1 → X.getD p 0 = sm (fun q => (G q).getD p 0 * ta l r ^ q) (t + 1) := fun p hp => map_getD0 _ hp
      have hXe : ∀ s, s < t + 1 → nm (ev X (ta l s)) = nm (ev (tc l r) (ta l s)) := by
        intro s hs
        rw [hm r s (by omega) (by omega), ← hrow s (by omega), ev_sm, hXl, gr_col]
        refine sm_ncongr fun p hp => ?_
        rw [hX p hp, Int.mul_comm, ← sm_mul]
        refine sm_ncongr fun q hq => ?_
        rw [← Int.mul_assoc, Int.mul_comm (ta l s ^ p)]
      have h1 := col_one hd1 (Nat.lt_succ_self t) (by rw [hXl]; exact Nat.le_refl _) (by rw [hw r (by omega)]; exact Nat.le_refl _) hXe
      rw [(hG i).2 r hr, ← nrm_getD, ← h1, nrm_getD, hX i (by omega), ev_sm, hMl]
      exact sm_ncongr fun q hq => by rw [hM q hq]
    have h2 := col_one hd1 (Nat.lt_succ_self t) (by rw [hMl]; exact Nat.le_refl _) (hG i).1 hMe
    rw [← nrm_getD, ← h2, nrm_getD, hM j (by omega)]
  refine ⟨G, hle, hsym, fun j hj r hr => ?_⟩
  let Y : List Int := (List.range (t + 1)).map fun q => ev (G q) (ta l r)
  have hYl : Y.length = t + 1 := by simp [Y]
  have hY : ∀ q, q < t + 1 → Y.getD q 0 = ev (G q) (ta l r) := fun q hq => map_getD0 _ hq
  have h3 := col_one (p := Y) (q := tc l r) hd1 (Nat.lt_succ_self t) (by rw [hYl]; exact Nat.le_refl _) (by rw [hw r hr]; exact Nat.le_refl _) fun b hb => by
    rw [← gr_row hle hYl (fun q hq => by rw [hY q (by omega)]) (ta l b), gr_sym hsym, hrow b (by omega), hm b r (by omega) hr]
  rw [← hY j (by omega), ← nrm_getD, h3, nrm_getD]

theorem prs_none {l : List (Int × List Int)} {n : Nat} (hd : dis (ta l) n) (hP : Prs l n []) : ∀ r s, r < n → s < n → nm (ev (tc l r) (ta l s)) = nm (ev (tc l s) (ta l r)) := by
  have h : ∀ r s, r < n → s < n → ta l r < ta l s → nm (ev (tc l r) (ta l s)) = nm (ev (tc l s) (ta l r)) := fun r s hr hs hlt => by
    refine Decidable.byContradiction fun hne => ?_
    have := (hP.mem (ta l r) (ta l s)).2 ⟨hlt, r, s, hr, hs, rfl, rfl, hne⟩
    simp at this
  intro r s hr hs
  rcases Int.lt_trichotomy (ta l r) (ta l s) with e | e | e
  · exact h r s hr hs e
  · obtain rfl := dis_idx hd hr hs e; rfl
  · exact (h s r hs hr e).symm
/-- All meet: what the rows tell at 0 tells the secret. -/
theorem meet_join {l : List (Int × List Int)} {n t : Nat} {x r : Int} (hR : Rwt l n t) (ht : t ≤ 4) (hn : t < n) (hP : Prs l n []) (hO : Opn (colS l 0 n) n t x r) : Jnd l n t x r := by
  have hd := hR.1.dis
  obtain ⟨G, hG⟩ := meet_twf hd hn hR.2 (prs_none hd hP)
  have h1 : Opn (colS l 0 n) n t (nm (ev (G 0) 0)) 0 :=
    .inr ⟨.inr (.inr (.inr ⟨⟨by omega, by omega⟩, colS_dis hd 0, by omega, rfl⟩)), .inl ⟨G 0, by have := hG.le 0 (Nat.zero_le _); omega, (colS_hs (Nat.le_refl _)).2 (hG.val 0 (Nat.zero_le _)), rfl, rfl⟩⟩
  obtain ⟨rfl, rfl⟩ := hO.one h1
  exact .inr ⟨t, rfl, ht, .inr (.inr ⟨hR, hn, .inl ⟨G, hG, by rw [ev_at0], rfl⟩⟩)⟩
theorem meet_not {l : List (Int × List Int)} {n t : Nat} {L : List (Int × Int)} (hR : Rwt l n t) (ht : t ≤ 4) (hn : t < n) (hP : Prs l n L) (hL : L.length ≠ 0) : Jnd l n t 0 6 := by
  refine .inr ⟨t, rfl, ht, .inr (.inr ⟨hR, hn, .inr ⟨fun G hG => ?_, rfl, rfl⟩⟩)⟩
  cases L with
  | nil => exact hL rfl
  | cons p L =>
    obtain ⟨i, j⟩ := p
    obtain ⟨_, r, s, hr, hs, ei, ej, hne⟩ := (hP.mem i j).1 (by simp)
    subst ei ej
    exact hne (twf_meet hG hR.2 hr hs)
end Go.Proofs.YtnofegdlainjaagDoor

namespace Go.Proofs.YtnofegdlainjaagDoor
open Go.RowKit Crm

theorem pt_new {w : World} {l : List (Int × List Int)} {n : Nat} {S : List Value} (h : Pt w l n S) : BlkV (w.alloc (.cells S.toArray 113)) w.heap.size S ∧ Pt (w.alloc (.cells S.toArray 113)) l n S ∧ Below w.heap.size w (w.alloc (.cells S.toArray 113)) :=
  have hb : Below w.heap.size w (w.alloc (.cells S.toArray 113)) := (Below.refl _ _).alloc (Nat.le_refl _) _
  ⟨heap_alloc_new w _, h.below hb, hb⟩

set_option maxRecDepth 100000 in
set_option maxHeartbeats 1000000 in
theorem cTwJoin (t : Int) (a : Option Addr) (n c : Nat) (l : List (Int × List Int)) (w : World) (h : RdW w a n c l) : Calls Tryd.prog 42 #[.int .i64 t, .slice a n c] w fun e w' => Jns l n t w e w' := by
  have hcap := h.cap
  have hmax := h.max
  unfold maxLen at hmax
  by_cases h1 : t < 0
  · have HT : Hid (t < 0 ∨ 4 < t) := .inl h1
    go_enter Tryd.func42, Tryd.ntmps42
    go_wp2
    go_ret2
    exact ⟨0, 1, rfl, .inl ⟨HT.out, rfl, rfl⟩, Below.refl _ _⟩
  · by_cases h2 : 4 < t
    · have HT : Hid (t < 0 ∨ 4 < t) := .inr h2
      go_enter Tryd.func42, Tryd.ntmps42
      go_wp2
      go_ret2
      exact ⟨0, 1, rfl, .inl ⟨HT.out, rfl, rfl⟩, Below.refl _ _⟩
    · obtain ⟨k, rfl⟩ : ∃ k : Nat, t = k := ⟨t.toNat, by omega⟩
      go_enter Tryd.func42, Tryd.ntmps42
      go_wp2_with fail
      refine (cByParty _ _ _ _ _ h).mono ?_
      rintro e w1 ⟨⟨S, hP, rfl⟩ | ⟨hn, rfl⟩, hb1⟩
      · have HY : Hid (Rwk l n) := hP.rwk
        have hn9 := dis_nine hP.rwk.dis
        have Hin : Hid ((Tryd.prog.info? 113).map (·.size) = some S.toArray.size) := by unfold Hid; rw [hP.size]; exact infoPt
        have Hne : Hid (nil10.toArray.size = S.toArray.size) := by unfold Hid; rw [hP.size]; rfl
        have Hon : Hid (_ = _) := hP.one
        obtain ⟨hB2, hP2, hb2⟩ := pt_new hP
        have HP2 : Hid (Pt _ l n S) := hP2
        have hw2 := hb1.trans (hb2.mono hb1.size)
        have HK1 : Hid ((k : Int) + 1 = ((k + 1 : Nat) : Int)) := by unfold Hid; omega
        clear hP hP2 hb1 hb2
        go_wp2_with (first | (refine wpList_store_row rfl 113 _ _ rfl w1.heap.size S.toArray rfl rfl 113 nil10.toArray (heap_alloc_new w1 _) Hin.out Hne.out Hon.out ?_; rw [World.setRow_alloc_new]; generalize w1.alloc (.cells S.toArray 113) = w2 at *) | fail)
        rw [HK1.out]
        refine (cAllHave _ _ _ _ (k + 1) _ (h.below hw2)).mono ?_
        rintro e w3 ⟨b, rfl, hb, hb3⟩
        have HB : Hid (_ ↔ _) := hb
        have hw3 := hw2.trans (hb3.mono hw2.size)
        have hB3 := hB2.below hb3 hB2.lt
        have HP3 : Hid (Pt w3 l n S) := HP2.out.below hb3
        clear hb hb3 hB2 HP2 hw2
        cases b with
        | false =>
          have HJ : Hid (Jnd l n k 0 5) := .inr ⟨k, rfl, by omega, .inl ⟨fun e => (by have := HB.out.2 e.2; cases this), rfl, rfl⟩⟩
          go_wp2
          go_ret2
          exact ⟨0, 5, rfl, HJ.out, hw3⟩
        | true =>
          have HW : Hid (Rwt l n k) := ⟨HY.out, HB.out.1 rfl⟩
          clear HB
          by_cases hnk : n ≤ k
          · have HJ : Hid (Jnd l n k 0 4) := .inr ⟨k, rfl, by omega, .inr (.inl ⟨HW.out, hnk, rfl, rfl⟩)⟩
            go_wp2
            go_ret2
            exact ⟨0, 4, rfl, HJ.out, hw3⟩
          · go_wp2_with fail
            refine (cApart _ _ _ _ _ hB3 HP3.out).mono ?_
            rintro e w4 ⟨v, K, rfl, hown, hKl, hPr, hb4⟩
            obtain ⟨a5, c5, rfl, hr5⟩ := RdP.own hown rfl
            have hw4 := hw3.trans (hb4.mono hw3.size)
            by_cases hK0 : K.length = 0
            · have HPr : Hid (Prs l n []) := by unfold Hid; rw [← List.eq_nil_of_length_eq_zero hK0]; exact hPr
              rw [hK0]
              clear hPr hown hr5 hK0 hKl hb4 hw3 hB3 HP3
              go_wp2_with fail
              refine (cStarts _ _ _ _ _ (h.below hw4) hn9 (fun i hi => by rw [HW.out.2 i hi]; omega)).mono ?_
              rintro e w5 ⟨bb, d, rfl, hR5, hb5⟩
              have hw5 := hw4.trans (hb5.mono hw4.size)
              clear hb5 hw4
              go_wp2_with fail
              refine (cOpenS _ _ _ _ _ _ hR5).mono ?_
              rintro e w6 ⟨x, r, rfl, hO, hb6⟩
              have HJ : Hid (Jnd l n k x r) := meet_join HW.out (by omega) (by omega) HPr.out hO
              have hw6 := hw5.trans (hb6.mono hw5.size)
              clear hO hb6 hw5 hR5
              go_wp2
              go_ret2
              exact ⟨x, r, rfl, HJ.out, hw6⟩
            · have HJ : Hid (Jnd l n k 0 6) := meet_not HW.out (by omega) (by omega) hPr hK0
              obtain ⟨NK, HNK⟩ : ∃ NK, Hid (K.length = NK) := ⟨_, rfl⟩
              rw [HNK.out] at hK0 hKl ⊢
              have hNK : (0 : Int) < (NK : Int) := by omega
              clear hPr hown hr5 hK0
              go_wp2
              go_ret2
              exact ⟨0, 6, rfl, HJ.out, hw4⟩
      · have HN : Hid (¬ Rwk l n) := hn
        have hb2 : Below w1.heap.size w1 (w1.alloc (.cells nil10.toArray 113)) := (Below.refl _ _).alloc (Nat.le_refl _) _
        have hw2 := hb1.trans (hb2.mono hb1.size)
        have HJ : Hid (Jnd l n k 0 5) := .inr ⟨k, rfl, by omega, .inl ⟨fun e => HN.out e.1, rfl, rfl⟩⟩
        clear hn hb1 hb2
        go_wp2_with (refine wpList_store_row rfl 113 _ _ rfl w1.heap.size nil10.toArray rfl rfl 113 nil10.toArray (heap_alloc_new w1 _) infoPt rfl nil10_one ?_; rw [World.setRow_alloc_new]; generalize w1.alloc (.cells nil10.toArray 113) = w2 at *)
        go_ret2
        exact ⟨0, 5, rfl, HJ.out, hw2⟩
end Go.Proofs.YtnofegdlainjaagDoor

namespace Go.Proofs.YtnofegdlainjaagDoor
end Go.Proofs.YtnofegdlainjaagDoor
