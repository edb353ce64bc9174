/- The walk of croftkeep.ShamirTells. -/
import Derived.Test.YtenbmdibbnlljadDealtC
namespace Go.Proofs.Ytenbmdibbnlljad
open Go.RowKit Crm

theorem set_getD {l : List (Int × Int)} {q j : Nat} {p : Int × Int} (hj : j < l.length) : (l.set q p).getD j (0, 0) = if j = q then p else l.getD j (0, 0) := by
  by_cases e : j = q
  · subst e; simp [hj]
  · simp [e, show ¬ q = j from fun e' => e e'.symm]

set_option maxRecDepth 100000 in
set_option maxHeartbeats 2000000 in
theorem shamirTellsW (s : Int) (a0 : Option Addr) (n0 c0 : Nat) (xs : List Int) (t n i b : Int) (w : World) (hs0 : 0 ≤ s) (hs1 : s ≤ 18446744073709551615) (h0 : Rd w a0 n0 c0 xs) (hb0 : 0 ≤ b) (hb1 : b ≤ 18446744073709551615) :
    Calls Try.prog 7 #[.int .u64 s, .slice a0 n0 c0, .int .i64 t, .int .i64 n, .int .i64 i, .int .u64 b] w fun e w' => e = .returned (.bool true) ∧ Below w.heap.size w w' := by
  go_enter Try.func7, Try.ntmps7
  go_wp2_with fail
  refine (kDealt _).mono ?_
  rintro e w1 ⟨rfl, hw1⟩
  go_wp2_with fail
  refine (kCrew _ _ _).mono ?_
  rintro e w2 ⟨⟨k, m, rfl, hk, hkm, hm⟩, hw⟩
  have hw := hw.symm
  subst hw
  go_wp2_with fail
  refine (kFilled _ _ _ _ k _ (h0.below hw1) hk).mono ?_
  rintro e w3 ⟨g3, rfl, hr3, hb3⟩
  have HPl : Hid ((padded xs k).length = k) := padded_len xs k
  generalize padded xs k = P at hr3 HPl
  have hw3 := hw1.trans (hb3.mono hw1.size)
  clear hw1 hb3 h0
  go_wp2_with fail
  refine (cDealOK s _ _ _ _ m _ hr3 hs0 hs1 hk (by omega) hm).mono ?_
  rintro e w4 ⟨g4, rfl, hr4, _, hb4⟩
  have hw4 := hw3.trans (hb4.mono hw3.size)
  clear hw3 hb4 hr3
  obtain ⟨C, HC⟩ : ∃ C, Hid (s :: P = C) := ⟨_, rfl⟩
  have HCl : Hid (C.length ≤ k + 1) := by unfold Hid; rw [← HC.out]; simp [HPl.out]
  rw [HC.out] at hr4
  have hnb := nm_bd b
  by_cases h1 : m < k + 2
  · go_wp2_with fail
    go_ret
    exact ⟨rfl, hw4⟩
  · by_cases h2 : nm b = 0
    · have h2b : (nm b == 0) = true := by rw [beq_iff_eq]; exact h2
      clear h2
      go_wp2_with (go_at_call 22; refine (fNorm _ _ (by omega) (by omega)).mono ?_; rintro e w' ⟨rfl, hw⟩; have hw := hw.symm; subst hw)
      go_ret
      exact ⟨rfl, hw4⟩
    · have h2b : (nm b == 0) = false := by rw [beq_eq_false_iff_ne]; exact h2
      have H2 : Hid (nm b ≠ 0) := h2
      clear h2
      go_wp2_with fail
      refine (fNorm _ _ (by omega) (by omega)).mono ?_
      rintro e w' ⟨rfl, hw⟩
      have hw := hw.symm
      subst hw
      go_wp2_with fail
      refine (kShares _ _ _ _ _ hr4 hm).mono ?_
      rintro e w5 ⟨v, rfl, hown, hb5⟩
      have hw5 := hw4.trans (hb5.mono hw4.size)
      have hs4 := hw4.size
      have hll := shl_len (dl C m) m
      obtain ⟨g, c, rfl, hg1, hg2, hcm, hcx⟩ := own_at2 hown (by omega)
      unfold maxLen at hcx
      clear hw4 hb5 hr4 h2b
      go_wp2_with fail
      refine (rRest _ m _ (by omega) (by omega)).mono ?_
      rintro e w6 ⟨⟨q, hq, rfl⟩, hw⟩
      have hw := hw.symm
      subst hw
      have hcq := (sh_cell hown hll hq).2
      rw [shl_getD _ hq, dl_getD C hq] at hcq
      have hfq := own_frozen2 hown (q * 2 + 1)
      have hy := dlf_bd C q
      obtain ⟨y, HY⟩ : ∃ y, Hid (dlf C q = y) := ⟨_, rfl⟩
      rw [HY.out] at hcq hy
      have hnz := nm_bd (y + b)
      obtain ⟨z, HZ⟩ : ∃ z, Hid (nm (y + b) = z) := ⟨_, rfl⟩
      rw [HZ.out] at hnz
      have hown7 := own_set2 hown (q * 2 + 1) (.int .u64 z)
      rw [shc_setY, shl_getD _ hq] at hown7
      have hw7 := below_grown hw5 (grown_set w5 g (q * 2 + 1) (.int .u64 z)) (by omega)
      obtain ⟨l, HL⟩ : ∃ l, Hid ((shl (dl C m) m).set q ((q : Int) + 1, z) = l) := ⟨_, rfl⟩
      have Hl : Hid (∀ j, j < m → l.getD j (0, 0) = ((j : Int) + 1, if j = q then nm (dlf C j + b) else dlf C j)) := fun j hj => by
        rw [← HL.out, set_getD (by omega)]
        by_cases e : j = q
        · subst e; rw [if_pos rfl, if_pos rfl, HY.out, HZ.out]
        · rw [if_neg e, if_neg e, shl_getD _ hj, dl_getD C hj]
      have Hll : Hid (l.length = m) := by unfold Hid; rw [← HL.out, List.length_set]; exact hll
      simp only at hown7
      rw [HL.out] at hown7
      have hbd : ∀ j, j < m → (-9223372036854775808 ≤ (l.getD j (0, 0)).1 ∧ (l.getD j (0, 0)).1 ≤ 9223372036854775807) ∧ 0 ≤ (l.getD j (0, 0)).2 ∧ (l.getD j (0, 0)).2 ≤ 18446744073709551615 := fun j hj => by
        rw [Hl.out j hj]
        refine ⟨⟨by simp only; omega, by simp only; omega⟩, ?_⟩
        simp only
        split
        · have := nm_bd (dlf C j + b); omega
        · have := dlf_bd C j; omega
      obtain ⟨a7, c7, e7, hR7⟩ := RdS.own hown7 Hll.out hbd
      simp only [Value.slice.injEq, true_and] at e7
      obtain ⟨rfl, rfl⟩ := e7
      clear hbd hown7
      go_wp2_with (go_at_call 19; refine (fAdd _ _ _ (by omega) (by omega) (by omega) (by omega)).mono ?_; rintro e w' ⟨rfl, hw⟩; have hw := hw.symm; subst hw; rw [HZ.out])
      generalize w5.setCell ⟨g, q * 2 + 1, none⟩ (.int .u64 z) = w7 at *
      refine (cOpenS _ _ _ _ _ _ hR7).mono ?_
      rintro e w8 ⟨x, r, rfl, hO, hb8⟩
      obtain rfl := wrong_told hk HCl.out (by omega) hm hq H2.out Hl.out hO
      have hw8 := hw7.trans (hb8.mono hw7.size)
      clear hO hb8 hw7
      go_wp2
      go_ret
      exact ⟨rfl, hw8⟩
end Go.Proofs.Ytenbmdibbnlljad
