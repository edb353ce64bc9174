/- The walk of croftlaw.PolySays. -/
import Derived.Test.YtihiolnagcelkaaFaceC
import Derived.Test.YtihiolnagcelkaaRefProdC
namespace Go.Proofs.Ytihiolnagcelkaa
open Go.RowKit Crm

set_option maxHeartbeats 1000000 in
theorem polySaysW (a0 : Option Addr) (len0 cap0 : Nat) (X : List Int) (a1 : Option Addr) (len1 cap1 : Nat) (Y : List Int) (a2 : Int) (w : World) (h : Rd w a0 len0 cap0 X) (g : Rd w a1 len1 cap1 Y) (hx0 : 0 ≤ a2) (hx1 : a2 ≤ 18446744073709551615) :
    Calls Try.prog 4 #[.slice a0 len0 cap0, .slice a1 len1 cap1, .int .u64 a2] w fun e w' => e = .returned (.bool true) ∧ Below w.heap.size w w' := by
  have hm0 : len0 ≤ 9223372036854775807 := by have := h.cap; have := h.max; unfold maxLen at this; omega
  have hm1 : len1 ≤ 9223372036854775807 := by have := g.cap; have := g.max; unfold maxLen at this; omega
  by_cases hn : 40 < len0
  · go_enter Try.func4, Try.ntmps4
    go_wp2_with (first | (go_at_call 22; refine (cNormL _ _ _ _ hm0 hn).mono ?_; rintro e w' ⟨rfl, rfl⟩) | (go_at_call 23; refine (cMulL _ _ _ _ _ _ _ hm0 hm1 (.inl hn)).mono ?_; rintro e w' ⟨rfl, rfl⟩) | (go_at_call 24; refine (cEvalL _ _ _ _ _ hm0 hn).mono ?_; rintro e w' ⟨rfl, rfl⟩) | fail)
    refine (cSame _ _ _ _ _ _ _ _ (nil_rd _) (nil_rd _)).mono ?_
    rintro e v1 ⟨rfl, hv1⟩
    go_wp2_with fail
    refine (cSame _ _ _ _ _ _ _ _ (nil_rd _) (nil_rd _)).mono ?_
    rintro e v2 ⟨rfl, hv2⟩
    have hv := hv1.trans (hv2.mono hv1.size)
    go_wp2
    go_ret
    exact ⟨rfl, hv⟩
  · by_cases hm : 40 < len1
    · go_enter Try.func4, Try.ntmps4
      go_wp2_with fail
      refine (rNormal _ _ _ _ _ h (by omega)).mono ?_
      rintro e v1 ⟨b1, c1, rfl, hr1, hv1, _⟩
      go_wp2_with fail
      refine (rEval _ _ _ _ _ _ (h.below hv1) (by omega) hx0 hx1).mono ?_
      rintro e v1' ⟨rfl, rfl⟩
      go_wp2_with fail
      refine (cNormOK _ _ _ _ _ (h.below hv1) (by omega)).mono ?_
      rintro e v2 ⟨rfl, hr2, hv2⟩
      have hw2 := hv1.trans (hv2.mono hv1.size)
      go_wp2_with fail
      refine (cMulL _ _ _ _ _ _ _ hm0 hm1 (.inr hm)).mono ?_
      rintro e v2' ⟨rfl, rfl⟩
      go_wp2_with fail
      refine (cEvalOK _ _ _ _ _ _ (h.below hw2) (by omega) hx0 hx1).mono ?_
      rintro e v3 ⟨rfl, hv3⟩
      have hw3 := hw2.trans (hv3.mono hw2.size)
      go_wp2_with fail
      refine (cSame _ _ _ _ _ _ _ _ (hr2.below hv3) ((hr1.below hv2).below hv3)).mono ?_
      rintro e v4 ⟨rfl, hv4⟩
      have hw4 := hw3.trans (hv4.mono hw3.size)
      go_wp2_with fail
      refine (cSame _ _ _ _ _ _ _ _ (nil_rd _) (nil_rd _)).mono ?_
      rintro e v5 ⟨rfl, hv5⟩
      have hw5 := hw4.trans (hv5.mono hw4.size)
      clear hr1 hr2 hv1 hv2 hv3 hv4 hv5 hw2 hw3 hw4 h g
      go_wp2
      go_ret
      exact ⟨rfl, hw5⟩
    · by_cases hz : tl (nz X) len0 = 0 ∨ tl (nz Y) len1 = 0
      · go_enter Try.func4, Try.ntmps4
        have HZ : Hid (tl (nz X) len0 = 0 ∨ tl (nz Y) len1 = 0) := hz
        clear hz
        go_wp2_with fail
        refine (rNormal _ _ _ _ _ h (by omega)).mono ?_
        rintro e v1 ⟨b1, c1, rfl, hr1, hv1, _⟩
        go_wp2_with fail
        refine (rEval _ _ _ _ _ _ (h.below hv1) (by omega) hx0 hx1).mono ?_
        rintro e v1' ⟨rfl, rfl⟩
        go_wp2_with fail
        refine (rProduct0 _ _ _ _ _ _ _ _ _ (h.below hv1) (g.below hv1) (by omega) (by omega) HZ.out).mono ?_
        rintro e va ⟨rfl, hva⟩
        have hwa := hv1.trans (hva.mono hv1.size)
        go_wp2_with fail
        refine (cNormOK _ _ _ _ _ (h.below hwa) (by omega)).mono ?_
        rintro e v2 ⟨rfl, hr2, hv2⟩
        have hw2 := hwa.trans (hv2.mono hwa.size)
        go_wp2_with fail
        refine (cMul0 _ _ _ _ _ _ _ _ _ (h.below hw2) (g.below hw2) (by omega) (by omega) HZ.out).mono ?_
        rintro e vb ⟨rfl, hvb⟩
        have hwb := hw2.trans (hvb.mono hw2.size)
        go_wp2_with fail
        refine (cEvalOK _ _ _ _ _ _ (h.below hwb) (by omega) hx0 hx1).mono ?_
        rintro e v3 ⟨rfl, hv3⟩
        have hw3 := hwb.trans (hv3.mono hwb.size)
        go_wp2_with fail
        refine (cSame _ _ _ _ _ _ _ _ ((hr2.below hvb).below hv3) ((((hr1.below hva).below hv2).below hvb).below hv3)).mono ?_
        rintro e v4 ⟨rfl, hv4⟩
        have hw4 := hw3.trans (hv4.mono hw3.size)
        go_wp2_with fail
        refine (cSame _ _ _ _ _ _ _ _ (nil_rd _) (nil_rd _)).mono ?_
        rintro e v5 ⟨rfl, hv5⟩
        have hw5 := hw4.trans (hv5.mono hw4.size)
        clear hr1 hr2 hv1 hv2 hv3 hv4 hv5 hw2 hw3 hw4 h g hva hvb hwa hwb
        go_wp2
        go_ret
        exact ⟨rfl, hw5⟩
      · have hzx : 0 < tl (nz X) len0 := by omega
        have hzy : 0 < tl (nz Y) len1 := by omega
        have hN1 := tl_le (nz X) len0
        have hM1 := tl_le (nz Y) len1
        clear hz
        by_cases hb : 41 < tl (nz X) len0 + tl (nz Y) len1
        · obtain ⟨R, HR⟩ : ∃ R, Hid (tl (nz X) len0 + tl (nz Y) len1 - 1 = R) := ⟨_, rfl⟩
          have hR : 40 < R := by have := HR.out; omega
          have hR2 : R ≤ 80 := by have := HR.out; omega
          go_enter Try.func4, Try.ntmps4
          go_wp2_with fail
          refine (rNormal _ _ _ _ _ h (by omega)).mono ?_
          rintro e v1 ⟨b1, c1, rfl, hr1, hv1, _⟩
          go_wp2_with fail
          refine (rEval _ _ _ _ _ _ (h.below hv1) (by omega) hx0 hx1).mono ?_
          rintro e v1' ⟨rfl, rfl⟩
          go_wp2_with fail
          refine (rProduct1 _ _ _ _ _ _ _ _ _ (h.below hv1) (g.below hv1) (by omega) (by omega) hzx hzy).mono ?_
          rintro e va ⟨bp, cp, rfl, hrp, hva, _⟩
          rw [HR.out] at hrp ⊢
          have hwa := hv1.trans (hva.mono hv1.size)
          go_wp2_with fail
          refine (cNormOK _ _ _ _ _ (h.below hwa) (by omega)).mono ?_
          rintro e v2 ⟨rfl, hr2, hv2⟩
          have hw2 := hwa.trans (hv2.mono hwa.size)
          go_wp2_with fail
          refine (cMulB _ _ _ _ _ _ _ _ _ (h.below hw2) (g.below hw2) (by omega) (by omega) hzx hzy hb).mono ?_
          rintro e vb ⟨rfl, hvb⟩
          have hwb := hw2.trans (hvb.mono hw2.size)
          go_wp2_with fail
          refine (cEvalOK _ _ _ _ _ _ (h.below hwb) (by omega) hx0 hx1).mono ?_
          rintro e v3 ⟨rfl, hv3⟩
          have hw3 := hwb.trans (hv3.mono hwb.size)
          go_wp2_with fail
          refine (cSame _ _ _ _ _ _ _ _ ((hr2.below hvb).below hv3) ((((hr1.below hva).below hv2).below hvb).below hv3)).mono ?_
          rintro e v4 ⟨rfl, hv4⟩
          have hw4 := hw3.trans (hv4.mono hw3.size)
          go_wp2_with fail
          refine (cSame _ _ _ _ _ _ _ _ (nil_rd _) (nil_rd _)).mono ?_
          rintro e v5 ⟨rfl, hv5⟩
          have hw5 := hw4.trans (hv5.mono hw4.size)
          clear hr1 hr2 hv1 hv2 hv3 hv4 hv5 hw2 hw3 hw4 h g hva hvb hwa hwb
          go_wp2
          go_ret
          exact ⟨rfl, hw5⟩
        · obtain ⟨R, HR⟩ : ∃ R, Hid (tl (nz X) len0 + tl (nz Y) len1 - 1 = R) := ⟨_, rfl⟩
          have hR : R ≤ 40 := by have := HR.out; omega
          go_enter Try.func4, Try.ntmps4
          go_wp2_with fail
          refine (rNormal _ _ _ _ _ h (by omega)).mono ?_
          rintro e v1 ⟨b1, c1, rfl, hr1, hv1, _⟩
          go_wp2_with fail
          refine (rEval _ _ _ _ _ _ (h.below hv1) (by omega) hx0 hx1).mono ?_
          rintro e v1' ⟨rfl, rfl⟩
          go_wp2_with fail
          refine (rProduct1 _ _ _ _ _ _ _ _ _ (h.below hv1) (g.below hv1) (by omega) (by omega) hzx hzy).mono ?_
          rintro e va ⟨bp, cp, rfl, hrp, hva, _⟩
          rw [HR.out] at hrp ⊢
          have hwa := hv1.trans (hva.mono hv1.size)
          go_wp2_with fail
          refine (cNormOK _ _ _ _ _ (h.below hwa) (by omega)).mono ?_
          rintro e v2 ⟨rfl, hr2, hv2⟩
          have hw2 := hwa.trans (hv2.mono hwa.size)
          go_wp2_with fail
          refine (cMulOK _ _ _ _ _ _ _ _ _ (h.below hw2) (g.below hw2) (by omega) (by omega) hzx hzy (by omega)).mono ?_
          rintro e vb ⟨am, rfl, hrm, hvb⟩
          rw [HR.out] at hrm ⊢
          have hwb := hw2.trans (hvb.mono hw2.size)
          go_wp2_with fail
          refine (cEvalOK _ _ _ _ _ _ (h.below hwb) (by omega) hx0 hx1).mono ?_
          rintro e v3 ⟨rfl, hv3⟩
          have hw3 := hwb.trans (hv3.mono hwb.size)
          go_wp2_with fail
          refine (cSame _ _ _ _ _ _ _ _ ((hr2.below hvb).below hv3) ((((hr1.below hva).below hv2).below hvb).below hv3)).mono ?_
          rintro e v4 ⟨rfl, hv4⟩
          have hw4 := hw3.trans (hv4.mono hw3.size)
          go_wp2_with fail
          refine (cSame _ _ _ _ _ _ _ _ ((hrm.below hv3).below hv4) ((((hrp.below hv2).below hvb).below hv3).below hv4)).mono ?_
          rintro e v5 ⟨rfl, hv5⟩
          have hw5 := hw4.trans (hv5.mono hw4.size)
          clear hr1 hr2 hv1 hv2 hv3 hv4 hv5 hw2 hw3 hw4 h g hva hvb hwa hwb
          go_wp2
          go_ret
          exact ⟨rfl, hw5⟩
end Go.Proofs.Ytihiolnagcelkaa
