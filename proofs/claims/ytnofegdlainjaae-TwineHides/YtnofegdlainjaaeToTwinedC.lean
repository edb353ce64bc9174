/- Package twine: Need, Deal, Pairs, Join. · croftkeep.twined. -/
import Derived.Test.YtnofegdlainjaaeToTwByM
import Derived.Test.YtnofegdlainjaaeToTwJoC
import Derived.Test.YtnofegdlainjaaeToCircM
import Derived.Test.YtnofegdlainjaaeToShortC
namespace Go.Proofs.Ytnofegdlainjaae
end Go.Proofs.Ytnofegdlainjaae

namespace Go.Proofs.Ytnofegdlainjaae
open Go.RowKit Crm

set_option maxRecDepth 100000 in
set_option maxHeartbeats 1000000 in
theorem kTwined (w : World) : Calls Try.prog 20 #[] w fun e w' => e = .returned (.bool true) ∧ Below w.heap.size w w' := by
  have hb1 := below_one w (.cells #[.int .u64 2, .int .u64 3] 22)
  have r1 := rd_of2 w (x := 2) (y := 3) (by omega) (by omega)
  go_enter Try.func20, Try.ntmps20
  go_wp2_with fail
  generalize w.alloc (.cells #[.int .u64 2, .int .u64 3] 22) = v1 at *
  refine (cTwDeal 5 1 _ _ _ [2, 3] 3 _ r1 (by omega) (by omega)).mono ?_
  rintro e v2 ⟨⟨hno, rfl⟩ | ⟨k, q, v, L, hD, hq, rfl, hL⟩, hb2⟩
  · exact absurd ⟨rfl, by omega, rfl, by omega, by omega⟩ (hno 1)
  · obtain rfl : k = 1 := by have := hD.1; omega
    obtain rfl : q = 3 := by omega
    obtain ⟨a2, c2, rfl, hr2⟩ := deal_rd hL (by omega)
    have hw2 := hb1.trans (hb2.mono hb1.size)
    clear hb1 hb2 hL hD hq r1
    go_wp2_with fail
    refine (cTwJoin _ _ _ _ _ _ hr2).mono ?_
    rintro e v3 ⟨x, r, rfl, hJ, hb3⟩
    obtain ⟨rfl, rfl⟩ := ofd_join (t := 1) (deal_ofd 5 [2, 3] 1 3) (deal_dis 5 [2, 3] 1 (by omega)) (by omega) (by omega) hJ
    have h5 : nm 5 = 5 := by decide
    rw [h5]
    have hr3 := hr2.below hb3
    have hw3 := hw2.trans (hb3.mono hw2.size)
    clear hJ hb3 hr2 hw2 h5
    obtain ⟨b, o, x, ai, ni, ci, row, rfl, hbb, HX, HRow, hx0, hx1, hcx, hcr, hrow⟩ := hr3.one (show 0 < 3 by omega)
    have e7 : row = [7, 5] := by rw [← HRow.out]; decide
    subst e7
    simp only [Nat.zero_mul, Nat.add_zero] at hcx hcr
    have hb4 := below_one v3 (.cells #[.int .u64 7, .int .u64 5] 22)
    have r4 := rd_of2 v3 (x := 7) (y := 5) (by omega) (by omega)
    clear hr3
    go_wp2_with fail
    generalize v3.alloc (.cells #[.int .u64 7, .int .u64 5] 22) = v4 at *
    have hw4 := hw3.trans (hb4.mono hw3.size)
    refine (cSame _ _ _ _ _ _ _ _ (hrow.below hb4) r4).mono ?_
    rintro e v5 ⟨rfl, hb5⟩
    have hw5 := hw4.trans (hb5.mono hw4.size)
    clear hb5 hw4 hb4 r4 hrow hw3
    go_wp2
    go_ret
    exact ⟨rfl, hw5⟩
end Go.Proofs.Ytnofegdlainjaae
