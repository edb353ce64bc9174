/- Package twine: Need, Deal, Pairs, Join. · The walk of croftlaw.TwineDeals. -/
import Derived.Test.YtiegggenfdebnabToTwByM
import Derived.Test.YtiegggenfdebnabToTwJoC
namespace Go.Proofs.Ytiegggenfdebnab
end Go.Proofs.Ytiegggenfdebnab

namespace Go.Proofs.Ytiegggenfdebnab
open Go.RowKit Crm

set_option maxRecDepth 100000 in
set_option maxHeartbeats 2000000 in
theorem twineDealsW (s t : Int) (a0 : Option Addr) (m c0 : Nat) (ds : List Int) (n : Int) (w : World) (hs0 : 0 ≤ s) (hs1 : s ≤ 18446744073709551615) (h : Rd w a0 m c0 ds) :
    Calls Try.prog 4 #[.int .u64 s, .int .i64 t, .slice a0 m c0, .int .i64 n] w fun e w' => e = .returned (.bool true) ∧ Below w.heap.size w w' := by
  have hcap := h.cap
  have hmax := h.max
  unfold maxLen at hmax
  go_enter Try.func4, Try.ntmps4
  go_wp2_with fail
  refine (cTwNeed t w).mono ?_
  rintro e w1 ⟨⟨ht, rfl⟩ | ⟨k, rfl, hk, rfl⟩, hb1⟩
  · have HT : Hid (t < 0 ∨ 4 < t) := ht
    clear ht
    go_wp2_with fail
    refine (cTwDeal s t _ _ _ ds n _ (h.below hb1) hs0 hs1).mono ?_
    rintro e w2 ⟨⟨_, rfl⟩ | ⟨k, q, v2, L2, hD, _⟩, hb2⟩
    · have hw2 := hb1.trans (hb2.mono hb1.size)
      clear hb1 hb2
      go_wp2_with (go_at_call 14; refine (rInN _ _ _ _ HT.out).mono ?_; rintro e w' ⟨rfl, hw⟩; have hw := hw.symm; subst hw)
      go_ret
      exact ⟨rfl, hw2⟩
    · exfalso
      have h1 := hD.1
      have h2 := hD.2.1
      have := HT.out
      omega
  · go_wp2_with fail
    refine (cTwDeal s k _ _ _ ds n _ (h.below hb1) hs0 hs1).mono ?_
    rintro e w2 ⟨hD, hb2⟩
    have hw2 := hb1.trans (hb2.mono hb1.size)
    have hn14 := need2_bd hk
    obtain ⟨N, HN⟩ : ∃ N, Hid (need2 k = N) := ⟨_, rfl⟩
    rw [HN.out] at hn14 ⊢
    have HNe : Hid ((k + 1) * (k + 2) / 2 - 1 = N) := HN.out
    clear hb1 hb2
    rcases hD with ⟨hno, rfl⟩ | ⟨k', q, v2, L2, hD, rfl, rfl, hL2⟩
    · by_cases hmN : m = N
      · have hnn : n < (k : Int) + 1 ∨ 9 < n := by
          refine Decidable.byContradiction fun hh => hno k ⟨rfl, hk, by rw [HN.out]; exact hmN, by omega, by omega⟩
        have HNN : Hid (n < (k : Int) + 1 ∨ 9 < n) := hnn
        clear hno hnn
        subst hmN
        go_wp2_with (first | (go_at_call 14; refine (rInY _ _ _ _ (by omega) (by omega)).mono ?_; rintro e w' ⟨rfl, hw⟩; have hw := hw.symm; subst hw) | (go_at_call 14; refine (rInN _ _ _ _ HNN.out).mono ?_; rintro e w' ⟨rfl, hw⟩; have hw := hw.symm; subst hw) | (go_at_call 15; refine (rTwoNeed k _ hk).mono ?_; rintro e w' ⟨rfl, hw⟩; have hw := hw.symm; subst hw; rw [HNe.out]))
        go_ret
        exact ⟨rfl, hw2⟩
      · have hmb : ((m : Int) != (N : Int)) = true := by rw [bne_iff_ne]; omega
        clear hno
        go_wp2_with (first | (go_at_call 14; refine (rInY _ _ _ _ (by omega) (by omega)).mono ?_; rintro e w' ⟨rfl, hw⟩; have hw := hw.symm; subst hw) | (go_at_call 15; refine (rTwoNeed k _ hk).mono ?_; rintro e w' ⟨rfl, hw⟩; have hw := hw.symm; subst hw; rw [HNe.out]))
        go_ret
        exact ⟨rfl, hw2⟩
    · obtain rfl : k = k' := by have := hD.1; omega
      obtain rfl : m = N := by rw [← HN.out]; exact hD.2.2.1
      have hq1 : (k : Int) + 1 ≤ (q : Int) := hD.2.2.2.1
      have hq9 : (q : Int) ≤ 9 := hD.2.2.2.2
      clear hD
      obtain ⟨a2, c2, rfl, hr2⟩ := deal_rd hL2 (by omega)
      clear hL2
      have hrd := h.below hw2
      have hw2s := hw2.size
      go_wp2_with (first | (go_at_call 14; refine (rInY _ _ _ _ (by omega) (by omega)).mono ?_; rintro e w' ⟨rfl, hw⟩; have hw := hw.symm; subst hw) | (go_at_call 15; refine (rTwoNeed k _ hk).mono ?_; rintro e w' ⟨rfl, hw⟩; have hw := hw.symm; subst hw; rw [HNe.out]) | fail)
      refine (rTwoDeal s _ _ _ ds k q _ hrd hs0 hs1 hk HNe.out.symm (by omega)).mono ?_
      rintro e w3 ⟨v, L, rfl, hL, hb3⟩
      obtain ⟨a3, c3, rfl, hr3⟩ := deal_rd hL (by omega)
      have hw3 := hw2.trans (hb3.mono hw2s)
      have hr2 := hr2.below hb3
      clear hL hb3 hw2 hrd
      go_wp2_with fail
      refine (sSameRows _ _ _ _ _ _ _ _ hr2 hr3).mono ?_
      rintro e w4 ⟨rfl, hb4⟩
      have hw4 := hw3.trans (hb4.mono hw3.size)
      clear hb4 hw3 hr2 hr3
      go_wp2
      go_ret
      exact ⟨rfl, hw4⟩
end Go.Proofs.Ytiegggenfdebnab
