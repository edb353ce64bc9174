/- The walk of croftlaw.PolyDivides. -/
import Derived.Test.YtihiolnagcelkaaDivF
import Derived.Test.YtihiolnagcelkaaSumC
import Derived.Test.YtihiolnagcelkaaPolySaysW
namespace Go.Proofs.Ytihiolnagcelkaa
open Go.RowKit Crm

theorem div_law {Q D R X P : List Int} (h : ∀ t, nm (pc Q D t Q.length + R.getD t 0) = nm (X.getD t 0)) (hP : ∀ t, P.getD t 0 = nm (pc Q D t Q.length)) : nrm (sml P R) = nrm X := by
  refine nrm_ext fun t => ?_
  rw [sml_getD, nm_nm, hP, nm_addl, h]

set_option maxHeartbeats 1000000 in
theorem polyDividesW (a0 : Option Addr) (len0 cap0 : Nat) (X : List Int) (a1 : Option Addr) (len1 cap1 : Nat) (Y : List Int) (w : World) (h : Rd w a0 len0 cap0 X) (g : Rd w a1 len1 cap1 Y) :
    Calls Try.prog 5 #[.slice a0 len0 cap0, .slice a1 len1 cap1] w fun e w' => e = .returned (.bool true) ∧ Below w.heap.size w w' := by
  have hm0 : len0 ≤ 9223372036854775807 := by have := h.cap; have := h.max; unfold maxLen at this; omega
  have hm1 : len1 ≤ 9223372036854775807 := by have := g.cap; have := g.max; unfold maxLen at this; omega
  by_cases hn : 40 < len0
  · go_enter Try.func5, Try.ntmps5
    go_wp2_with (go_at_call 26; refine (cDivL _ _ _ _ _ _ _ hm0 hm1 (.inl hn)).mono ?_; rintro e w' ⟨rfl, rfl⟩)
    go_ret
    exact ⟨rfl, Below.refl _ _⟩
  · by_cases hm : 40 < len1
    · go_enter Try.func5, Try.ntmps5
      go_wp2_with (go_at_call 26; refine (cDivL _ _ _ _ _ _ _ hm0 hm1 (.inr hm)).mono ?_; rintro e w' ⟨rfl, rfl⟩)
      go_ret
      exact ⟨rfl, Below.refl _ _⟩
    · by_cases hz : tl (nz Y) len1 = 0
      · have HZ : Hid (tl (nz Y) len1 = 0) := hz
        clear hz
        go_enter Try.func5, Try.ntmps5
        go_wp2_with fail
        refine (cDivZ _ _ _ _ _ _ _ _ g (by omega) (by omega) HZ.out).mono ?_
        rintro e v1 ⟨rfl, hv1⟩
        go_wp2_with fail
        refine (rNormal _ _ _ _ _ (g.below hv1) (by omega)).mono ?_
        rintro e v2 ⟨b2, c2, rfl, hr2, hv2, _⟩
        rw [HZ.out]
        have hw2 := hv1.trans (hv2.mono hv1.size)
        clear hr2 hv2 hv1
        go_wp2
        go_ret
        exact ⟨rfl, hw2⟩
      · have hM0 : 0 < tl (nz Y) len1 := by omega
        clear hz
        have hM1 := tl_le (nz Y) len1
        have hlx := h.len
        have hly := g.len
        have hlny : (nrm Y).length = tl (nz Y) len1 := by rw [nrm_len, hly]
        obtain ⟨M, HM⟩ : ∃ M, Hid (tl (nz Y) len1 = M) := ⟨_, rfl⟩
        rw [HM.out] at hM1 hlny
        have hM2 : 0 < M := by rw [← HM.out]; exact hM0
        have hMb : ((M : Int) == 0) = false := by rw [beq_eq_false_iff_ne]; omega
        have HM0 : Hid (0 < tl (nz Y) len1) := hM0
        clear hM0
        go_enter Try.func5, Try.ntmps5
        go_wp2_with fail
        refine (cDivOK _ _ _ _ _ _ _ _ _ h g (by omega) (by omega) HM0.out).mono ?_
        rintro e v1 ⟨Q, R, aq, ar, cq, cr, rfl, hq1, hr1, nQ, nR, hRl, hQl, hid, hv1⟩
        have HQ : Hid (Nml Q) := nQ
        have HR : Hid (Nml R) := nR
        have HI : Hid (∀ t, nm (pc Q (nrm Y) t Q.length + R.getD t 0) = nm (X.getD t 0)) := hid
        clear nQ nR hid
        obtain ⟨q, hq⟩ : ∃ q, q = Q.length := ⟨_, rfl⟩
        obtain ⟨r, hr⟩ : ∃ r, r = R.length := ⟨_, rfl⟩
        rw [← hq] at hq1 hQl ⊢
        rw [← hr] at hr1 hRl ⊢
        have Hq : Hid (q = Q.length) := hq
        have Hr : Hid (r = R.length) := hr
        clear hq hr
        rw [hlny] at hRl
        go_wp2_with fail
        refine (rNormal _ _ _ _ _ (g.below hv1) (by omega)).mono ?_
        rintro e v2 ⟨b2, c2, rfl, hn2, hv2, _⟩
        rw [HM.out] at hn2 ⊢
        have hw2 := hv1.trans (hv2.mono hv1.size)
        have hq2 := hq1.below hv2
        have hr2 := hr1.below hv2
        clear hq1 hr1 hv2 hv1
        go_wp2_with fail
        refine (rNormal _ _ _ _ _ hq2 (by omega)).mono ?_
        rintro e v3 ⟨b3, c3, rfl, hm3, hv3, _⟩
        rw [nrm_id HQ.out] at hm3
        have hw3 := hw2.trans (hv3.mono hw2.size)
        have hq3 := hq2.below hv3
        have hr3 := hr2.below hv3
        have hn3 := hn2.below hv3
        clear hq2 hr2 hn2 hv3 hw2
        go_wp2_with fail
        refine (cSame _ _ _ _ _ _ _ _ hq3 hm3).mono ?_
        rintro e v4 ⟨rfl, hv4⟩
        have hw4 := hw3.trans (hv4.mono hw3.size)
        have hq4 := hq3.below hv4
        have hr4 := hr3.below hv4
        have hn4 := hn3.below hv4
        clear hq3 hr3 hn3 hv4 hw3 hm3
        go_wp2_with fail
        refine (rNormal _ _ _ _ _ hr4 (by omega)).mono ?_
        rintro e v5 ⟨b5, c5, rfl, hm5, hv5, _⟩
        rw [nrm_id HR.out] at hm5
        have hw5 := hw4.trans (hv5.mono hw4.size)
        have hq5 := hq4.below hv5
        have hr5 := hr4.below hv5
        have hn5 := hn4.below hv5
        clear hq4 hr4 hn4 hv5 hw4
        go_wp2_with fail
        refine (cSame _ _ _ _ _ _ _ _ hr5 hm5).mono ?_
        rintro e v6 ⟨rfl, hv6⟩
        have hw6 := hw5.trans (hv6.mono hw5.size)
        have hq6 := hq5.below hv6
        have hr6 := hr5.below hv6
        have hn6 := hn5.below hv6
        clear hq5 hr5 hn5 hv6 hw5 hm5
        by_cases hq0 : q = 0
        · have HE : Hid (nrm (sml [] R) = nrm X) := div_law (Q := Q) (D := nrm Y) HI.out fun t => by
            rw [← Hq.out, hq0]; rfl
          have HZ : Hid (tl (nz Q) q = 0) := by unfold Hid; rw [hq0]; rfl
          clear hq0
          go_wp2_with fail
          refine (rProduct0 _ _ _ _ _ _ _ _ _ hq6 hn6 (by omega) (by omega) (.inl HZ.out)).mono ?_
          rintro e v7 ⟨rfl, hv7⟩
          have hw7 := hw6.trans (hv7.mono hw6.size)
          have hr7 := hr6.below hv7
          clear hq6 hr6 hn6 hv7 hw6
          go_wp2_with fail
          refine (rSum _ _ _ _ _ _ _ _ _ (nil_rd _) hr7 (by omega) (by omega)).mono ?_
          rintro e v8 ⟨b8, c8, rfl, hs8, hv8, _⟩
          have hw8 := hw7.trans (hv8.mono hw7.size)
          rw [HE.out] at hs8 ⊢
          clear hr7 hv8 hw7
          go_wp2_with fail
          refine (rNormal _ _ _ _ _ (h.below hw8) (by omega)).mono ?_
          rintro e v9 ⟨b9, c9, rfl, hm9, hv9, _⟩
          have hw9 := hw8.trans (hv9.mono hw8.size)
          have hs9 := hs8.below hv9
          clear hs8 hv9 hw8
          go_wp2_with fail
          refine (cSame _ _ _ _ _ _ _ _ hs9 hm9).mono ?_
          rintro e v10 ⟨rfl, hv10⟩
          have hw10 := hw9.trans (hv10.mono hw9.size)
          clear hs9 hm9 hv10 hw9
          go_wp2
          go_ret
          exact ⟨rfl, hw10⟩
        · have hcv : cvl (nrm Q) (nrm (nrm Y)) = cvl Q (nrm Y) := by rw [nrm_id HQ.out, nrm_id (nrm_Nml Y)]
          have HC : Hid (cvl (nrm Q) (nrm (nrm Y)) = cvl Q (nrm Y)) := hcv
          have HE : Hid (nrm (sml (cvl Q (nrm Y)) R) = nrm X) := div_law (Q := Q) (D := nrm Y) HI.out fun t => cvl_getD _ _ _
          have HZ1 : Hid (tl (nz Q) q = q) := by unfold Hid; rw [Hq.out, tl_nrm HQ.out]
          have HZ2 : Hid (tl (nz (nrm Y)) M = M) := by unfold Hid; rw [← hlny, tl_nrm (nrm_Nml Y)]
          clear hcv
          go_wp2_with fail
          refine (rProduct1 _ _ _ _ _ _ _ _ _ hq6 hn6 (by omega) (by omega) (by rw [HZ1.out]; omega) (by rw [HZ2.out]; omega)).mono ?_
          rintro e v7 ⟨b7, c7, rfl, hp7, hv7, _⟩
          rw [HZ1.out, HZ2.out] at hp7 ⊢
          rw [HC.out] at hp7
          have hw7 := hw6.trans (hv7.mono hw6.size)
          have hr7 := hr6.below hv7
          clear hq6 hr6 hn6 hv7 hw6
          go_wp2_with fail
          refine (rSum _ _ _ _ _ _ _ _ _ hp7 hr7 (by omega) (by omega)).mono ?_
          rintro e v8 ⟨b8, c8, rfl, hs8, hv8, _⟩
          have hw8 := hw7.trans (hv8.mono hw7.size)
          rw [HE.out] at hs8 ⊢
          clear hr7 hv8 hw7 hp7
          go_wp2_with fail
          refine (rNormal _ _ _ _ _ (h.below hw8) (by omega)).mono ?_
          rintro e v9 ⟨b9, c9, rfl, hm9, hv9, _⟩
          have hw9 := hw8.trans (hv9.mono hw8.size)
          have hs9 := hs8.below hv9
          clear hs8 hv9 hw8
          go_wp2_with fail
          refine (cSame _ _ _ _ _ _ _ _ hs9 hm9).mono ?_
          rintro e v10 ⟨rfl, hv10⟩
          have hw10 := hw9.trans (hv10.mono hw9.size)
          clear hs9 hm9 hv10 hw9
          go_wp2
          go_ret
          exact ⟨rfl, hw10⟩
end Go.Proofs.Ytihiolnagcelkaa
