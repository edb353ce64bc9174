/- slices.Equal of ints. · The walk of croftlaw.DecodeSays. -/
import Derived.Test.YtoekicjppheemabToFitC
import Derived.Test.YtoekicjppheemabToFaceC
import Derived.Test.YtoekicjppheemabToRDecC
namespace Go.Proofs.Ytoekicjppheemab
open Go.RowKit Crm

set_option maxRecDepth 100000 in
theorem zEqual (a : Option Addr) (n c : Nat) (xs : List Int) (b : Option Addr) (m d : Nat) (ys : List Int) (w : World) (h : RdI w a n c xs) (g : RdI w b m d ys) :
    Calls Try.prog 9 #[.slice a n c, .slice b m d] w fun e w' => e = .returned (.bool (xs == ys)) ∧ Below w.heap.size w w' := by
  have hm := h.max
  have hcap := h.cap
  have hlen := h.len
  have gm := g.max
  have gcap := g.cap
  have glen := g.len
  unfold maxLen at hm gm
  by_cases hnm : n = m
  · subst hnm
    go_enter Try.func9, Try.ntmps9
    go_wp2
    go_loopw [13] (fun i wr => ∃ k : Nat, k ≤ n ∧ i = .int .i64 k ∧ Hid (xs.take k = ys.take k) ∧ Below w.heap.size w wr) (fun i _ => n - (intOf i).toNat)
    case atStart => exact ⟨0, Nat.zero_le _, rfl, rfl, Below.refl _ _⟩
    case round =>
      obtain ⟨k, hk, rfl, HT, hbel⟩ := hrel
      by_cases hlt : k < n
      · obtain ⟨b1, o1, x, rfl, hb1, HX, hx0, hx1, hc1⟩ := (h.below hbel).one hlt
        obtain ⟨b2, o2, y, rfl, hb2, HY, hy0, hy1, hc2⟩ := (g.below hbel).one hlt
        by_cases hxy : x = y
        · subst hxy
          go_wp2
          go_region
          all_goals go_wp2
          all_goals
            go_roundw
            case rel => exact ⟨k + 1, by omega, by go_num, take_eq (by omega) (by omega) HT.out (HX.out.trans HY.out.symm), by first | exact hbel.drew | exact hbel.drew.drew⟩
            case measure => simp [intOf]; omega
        · have hxb : (x != y) = true := by rw [bne_iff_ne]; exact hxy
          go_wp2
          have HE : Hid ((xs == ys) = false) := by
            refine beq_eq_false_iff_ne.2 fun e => hxy ?_
            rw [← HX.out, ← HY.out, e]
          go_region
          all_goals go_wp2
          all_goals
            go_ret
            rw [HE.out]
            exact ⟨rfl, by first | exact hbel.drew | exact hbel.drew.drew⟩
      · have HE : Hid ((xs == ys) = true) := by
          refine beq_iff_eq.2 ?_
          have := HT.out
          rwa [List.take_of_length_le (by omega), List.take_of_length_le (by omega)] at this
        go_wp2
        go_ret
        rw [HE.out]
        exact ⟨rfl, hbel⟩
  · have hb : ((n : Int) != (m : Int)) = true := by rw [bne_iff_ne]; omega
    go_enter Try.func9, Try.ntmps9
    have HE : Hid ((xs == ys) = false) := beq_eq_false_iff_ne.2 fun e => hnm (by rw [← hlen, ← glen, e])
    go_wp2
    go_ret
    rw [HE.out]
    exact ⟨rfl, Below.refl _ _⟩

/-- Two slices that read the same are equal. -/
theorem zSame (a : Option Addr) (n c : Nat) (xs : List Int) (b : Option Addr) (m d : Nat) (w : World) (h : RdI w a n c xs) (g : RdI w b m d xs) :
    Calls Try.prog 9 #[.slice a n c, .slice b m d] w fun e w' => e = .returned (.bool true) ∧ Below w.heap.size w w' := by
  refine (zEqual _ _ _ _ _ _ _ _ _ h g).mono ?_
  rintro e w' ⟨rfl, hb⟩
  exact ⟨by rw [beq_self_eq_true], hb⟩
end Go.Proofs.Ytoekicjppheemab

namespace Go.Proofs.Ytoekicjppheemab
open Go.RowKit Crm

set_option maxRecDepth 100000 in
set_option maxHeartbeats 1000000 in
theorem decodeSaysW (t e : Int) (a : Option Addr) (n c : Nat) (l : List (Int × Int)) (w : World) (h : RdS w a n c l) :
    Calls Try.prog 3 #[.int .i64 t, .int .i64 e, .slice a n c] w fun en w' => en = .returned (.bool true) ∧ Below w.heap.size w w' := by
  have hl := h.len
  go_enter Try.func3, Try.ntmps3
  go_wp2_with fail
  refine (cDecode _ _ _ _ _ _ _ h).mono ?_
  rintro en w1 ⟨P, B, r, a1, k1, c1, a2, k2, c2, rfl, hD1, hrP1, hrB1, hb1⟩
  have HD1 : Hid (Dcd l n t e P B r) := hD1
  clear hD1
  go_wp2_with fail
  refine (rDecode _ _ _ _ _ _ _ (h.below hb1)).mono ?_
  rintro en w2 ⟨P', B', r', a3, k3, c3, a4, k4, c4, rfl, hD2, hrP2, hrB2, hb2⟩
  obtain ⟨rfl, rfl, rfl⟩ := HD1.out.one hl hD2
  have hw2 := hb1.trans (hb2.mono hb1.size)
  have hrP1 := hrP1.below hb2
  have hrB1 := hrB1.below hb2
  clear HD1 hD2 hb1 hb2
  go_wp2_with fail
  refine (cOpenD _ _ _ _ _ _ (h.below hw2)).mono ?_
  rintro en w3 ⟨x, C, s, a5, k5, c5, rfl, hR1, hrC1, hb3⟩
  have HR1 : Hid (Rob l n t x C s) := hR1
  have hw3 := hw2.trans (hb3.mono hw2.size)
  have hrP1 := hrP1.below hb3
  have hrB1 := hrB1.below hb3
  have hrP2 := hrP2.below hb3
  have hrB2 := hrB2.below hb3
  clear hR1 hb3 hw2
  go_wp2_with fail
  refine (rRobust _ _ _ _ _ _ (h.below hw3)).mono ?_
  rintro en w4 ⟨x', C', s', a6, k6, c6, rfl, hR2, hrC2, hb4⟩
  obtain ⟨rfl, rfl, rfl⟩ := HR1.out.one hl hR2
  have hw4 := hw3.trans (hb4.mono hw3.size)
  have hrP1 := hrP1.below hb4
  have hrB1 := hrB1.below hb4
  have hrP2 := hrP2.below hb4
  have hrB2 := hrB2.below hb4
  have hrC1 := hrC1.below hb4
  clear HR1 hR2 hb4 hw3
  go_wp2_with fail
  refine (cSame _ _ _ _ _ _ _ _ hrP1 hrP2).mono ?_
  rintro en w5 ⟨rfl, hb5⟩
  have hw5 := hw4.trans (hb5.mono hw4.size)
  have hrB1 := hrB1.below hb5
  have hrB2 := hrB2.below hb5
  have hrC1 := hrC1.below hb5
  have hrC2 := hrC2.below hb5
  clear hrP1 hrP2 hb5 hw4
  go_wp2_with fail
  refine (zSame _ _ _ _ _ _ _ _ hrB1 hrB2).mono ?_
  rintro en w6 ⟨rfl, hb6⟩
  have hw6 := hw5.trans (hb6.mono hw5.size)
  have hrC1 := hrC1.below hb6
  have hrC2 := hrC2.below hb6
  clear hrB1 hrB2 hb6 hw5
  go_wp2_with fail
  refine (zSame _ _ _ _ _ _ _ _ hrC1 hrC2).mono ?_
  rintro en w7 ⟨rfl, hb7⟩
  have hw7 := hw6.trans (hb7.mono hw6.size)
  clear hrC1 hrC2 hb7 hw6
  go_wp2
  go_ret
  exact ⟨rfl, hw7⟩
end Go.Proofs.Ytoekicjppheemab
