/- solve.lead. -/
import Derived.Test.YtcfegjmmicgagadMxC
import Derived.BigRegion
namespace Go.Proofs.Ytcfegjmmicgagad
open Go.RowKit Crm

/-- What lead does once it has found row p for the column c: row p is made 1 there, and changes places with row k. -/
def Led (n W k p c : Nat) (M N : Nat → List Int) : Prop :=
  ∀ i j, i < n → j < W → (N i).getD j 0 = if i = k then nm ((M p).getD j 0 * iv ((M p).getD c 0)) else if i = p then (M k).getD j 0 else (M i).getD j 0

set_option maxHeartbeats 1000000 in
theorem cLead (a : Option Addr) (k m c W lo hi gl : Nat) (G : Nat → Nat) (M : Nat → List Int) (w : World) (h : Mx w lo hi gl (k + m) W G M) (ha : 0 < m → a = some ⟨gl, k, none⟩) (hc : c < W) (hW : W ≤ 1000) (hm : m ≤ 1000) :
    Calls Try.prog 40 #[.slice a m m, .int .i64 c] w fun e w' => (e = .returned (.bool false) ∧ w' = w ∧ ∀ i, k ≤ i → i < k + m → (M i).getD c 0 = 0) ∨
      (∃ p G' N, e = .returned (.bool true) ∧ k ≤ p ∧ p < k + m ∧ nm ((M p).getD c 0) ≠ 0 ∧ Mx w' lo hi gl (k + m) W G' N ∧ Led (k + m) W k p c M N ∧ Fr lo hi w w') := by
  go_enter Try.func40, Try.ntmps40
  go_wp2
  go_loopw [12] (fun i wr => ∃ q : Nat, q ≤ m ∧ i = .int .i64 q ∧ Hid (∀ i, k ≤ i → i < k + q → (M i).getD c 0 = 0) ∧ wr = w) (fun i _ => m - (intOf i).toNat)
  case atStart => exact ⟨0, Nat.zero_le _, rfl, fun i h1 h2 => by omega, rfl⟩
  case round =>
    obtain ⟨q, hq, rfl, HZ, hw⟩ := hrel
    have hw := hw.symm
    subst hw
    obtain ⟨wo, hwo⟩ : ∃ wo, wo = w := ⟨_, rfl⟩
    subst hwo
    by_cases hlt : q < m
    · have ha' := ha (by omega)
      subst ha'
      have hkq : k + q < k + m := by omega
      have hcl := h.cell hkq
      have hcn := h.num hkq hc
      have hnb := h.nbd hkq c
      obtain ⟨x, HX⟩ : ∃ x, Hid ((M (k + q)).getD c 0 = x) := ⟨_, rfl⟩
      rw [HX.out] at hcn hnb
      have hbk := h.row _ hkq
      have hwd := h.wid _ hkq
      obtain ⟨g, HG⟩ : ∃ g, Hid (G (k + q) = g) := ⟨_, rfl⟩
      rw [HG.out] at hcl hcn hbk
      by_cases hx : nm x = 0
      · have HZ2 : Hid (∀ i, k ≤ i → i < k + (q + 1) → (M i).getD c 0 = 0) := fun i h1 h2 => by
          by_cases e : i = k + q
          · rw [e, HX.out, ← hx, nm_small (by omega) (by omega)]
          · exact HZ.out i h1 (by omega)
        go_wp2_with (first | (go_at_call 29; refine (fInv0 _ _ (by omega) (by omega) hx).mono ?_; rintro e w' ⟨rfl, hw⟩; have hw := hw.symm; subst hw) | fail)
        go_roundw
        case rel => exact ⟨q + 1, by omega, by go_num, HZ2, by trivial⟩
        case measure => simp [intOf]; omega
      · have hivb := iv_bd x
        obtain ⟨u, HU⟩ : ∃ u, Hid (iv x = u) := ⟨_, rfl⟩
        go_wp2_with (first | (go_at_call 29; refine (fInv1 _ _ (by omega) (by omega) hx).mono ?_; rintro e w' ⟨rfl, hw⟩; have hw := hw.symm; subst hw; rw [HU.out]) | fail)
        rw [HU.out] at hivb
        go_loopw [29] (fun i wr => ∃ (j : Nat) (A : List Int), j ≤ W ∧ i = .int .i64 j ∧ Hid (Sc (M (k + q)) u j A) ∧ Blk wr g A ∧ wo.grownBy wr (some g)) (fun i _ => W - (intOf i).toNat)
        case atStart => exact ⟨0, _, Nat.zero_le _, rfl, sc_start _ _ (h.bd _ hkq), hbk, World.grownBy.refl _ _⟩
        case round =>
          obtain ⟨j, A, hj, rfl, HS, hblk, hgr⟩ := hrel
          have hlA : A.length = W := by rw [HS.out.len]; exact hwd
          by_cases hjw : j < W
          · have hcell := hblk.cell (i := j) (by omega)
            have hfz := hblk.frozen j
            obtain ⟨y, hy⟩ : ∃ y, y = A.getD j 0 := ⟨_, rfl⟩
            have HY : Hid (y = (M (k + q)).getD j 0) := by rw [hy, HS.out.at_ _ (by omega), if_neg (by omega)]; exact rfl
            have hyb : 0 ≤ y ∧ y ≤ 2147483646 := by rw [hy]; exact getD_bd' HS.out.bd _
            rw [← hy] at hcell
            clear hy
            have HS2 : Hid (Sc (M (k + q)) u (j + 1) (A.set j (nm (y * u)))) := sc_step HS.out (by omega) (by rw [HY.out])
            have Hb2 := hblk.set j (nm (y * u))
            have Hg2 := grown_trans hgr (grown_set wr g j (.int .u64 (nm (y * u))))
            go_wp2_with (first | (go_at_call 12; refine (fMul _ _ _ (by omega) (by omega) (by omega) (by omega)).mono ?_; rintro e w' ⟨rfl, hw⟩; have hw := hw.symm; subst hw) | fail)
            go_roundw
            case rel => exact ⟨j + 1, _, by omega, by go_num, HS2, Hb2, Hg2⟩
            case measure => simp [intOf]; omega
          · have hjw2 : j = W := by omega
            subst hjw2
            have hM2 : Mx wr lo hi gl (k + m) j G (fun i => if i = k + q then A else M i) := h.put hkq (by rw [HG.out]; exact hgr) (by rw [HG.out]; exact hblk) hlA HS.out.bd
            have hfr := Fr.grown hgr (by rw [← HG.out]; exact (h.rng _ hkq).1) (by rw [← HG.out]; exact (h.rng _ hkq).2.1)
            have hk1 : k < k + m := by omega
            have hm0 : 0 < m := by omega
            have hc1 := hM2.cell hk1
            have hc2 := hM2.cell hkq
            rw [HG.out] at hc2
            have hf1 := hM2.frozen k
            have hf2 := hM2.frozen (k + q)
            have hsw := hM2.swap hk1 hkq
            have hfs := hfr.trans (fr_set2 wr h.gb.1 h.gb.2 k (k + q) (.slice (some ⟨G (k + q), 0, none⟩) j j) (.slice (some ⟨G k, 0, none⟩) j j))
            rw [HG.out] at hsw hfs
            obtain ⟨v', hv'⟩ := cell?_setCell_some (w := wr) (p := ⟨gl, k, none⟩) (x := .slice (some ⟨g, 0, none⟩) j j) (q := ⟨gl, k + q, none⟩) (v := .slice (some ⟨g, 0, none⟩) j j) hc2
            have HL : Hid (Led (k + m) j k (k + q) c M (fun i => (fun i => if i = k + q then A else M i) (if i = k then k + q else if i = k + q then k else i))) := fun i t hi ht => by
              show ((if (if i = k then k + q else if i = k + q then k else i) = k + q then A else M (if i = k then k + q else if i = k + q then k else i)) : List Int).getD t 0 = _
              by_cases e1 : i = k
              · rw [if_pos e1, if_pos rfl, if_pos e1, HS.out.at_ t (by omega), if_pos ht, HX.out, HU.out]
              · by_cases e2 : i = k + q
                · rw [if_neg e1, if_pos e2, if_neg (by omega), if_neg e1, if_pos e2]
                · rw [if_neg e1, if_neg e2, if_neg e2, if_neg e1, if_neg e2]
            have hx2 : nm ((M (k + q)).getD c 0) ≠ 0 := by rw [HX.out]; exact hx
            clear HZ HS hblk hgr hbk h hM2 hfr hcn hcl
            go_wp2
            go_region
            all_goals
              go_wp2
              go_ret
              exact .inr ⟨k + q, _, _, rfl, by omega, hkq, hx2, hsw.drew, HL.out, hfs.drew⟩
    · have hkl : q = m := by omega
      subst hkl
      go_wp2
      go_ret
      exact .inl ⟨rfl, rfl, HZ.out⟩
end Go.Proofs.Ytcfegjmmicgagad
