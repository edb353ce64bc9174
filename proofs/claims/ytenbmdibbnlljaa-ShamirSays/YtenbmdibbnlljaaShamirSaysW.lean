/- The walk of croftlaw.ShamirSays. -/
import Derived.Test.YtenbmdibbnlljaaOpenC
import Derived.Test.YtenbmdibbnlljaaFitC
import Derived.Test.YtenbmdibbnlljaaRefWtC
namespace Go.Proofs.Ytenbmdibbnlljaa
open Go.RowKit Crm

/-- What Deal answers, whatever is handed in. -/
def Dls (D : List Int) (r : Int) (w : World) (e : Ending) (w' : World) : Prop := ∃ a k c, e = .returned (.tuple #[.slice a k c, .int .i64 r]) ∧ Rd w' a k c D ∧ Below w.heap.size w w'
theorem cDealS (s : Int) (a : Option Addr) (m c : Nat) (xs : List Int) (n : Int) (w : World) (h : Rd w a m c xs) (hs0 : 0 ≤ s) (hs1 : s ≤ 18446744073709551615) :
    ∃ D r, Calls Try.prog 40 #[.int .u64 s, .slice a m c, .int .i64 n] w (Dls D r w) ∧ ∀ w', Rd w' a m c xs → Calls Try.prog 41 #[.int .u64 s, .slice a m c, .int .i64 n] w' (Dls D r w') := by
  have hcap := h.cap
  have hmax := h.max
  unfold maxLen at hmax
  by_cases hb : 4 < m ∨ n ≤ m ∨ 9 < n
  · refine ⟨[], 1, (cDealE _ _ _ _ _ _ (by omega) hb).mono ?_, fun w' _ => (rDealE _ _ _ _ _ _ (by omega) hb).mono ?_⟩
    · rintro e w1 ⟨rfl, rfl⟩
      exact ⟨none, 0, 0, rfl, nil_rd _, Below.refl _ _⟩
    · rintro e w1 ⟨rfl, rfl⟩
      exact ⟨none, 0, 0, rfl, nil_rd _, Below.refl _ _⟩
  · obtain ⟨k, rfl⟩ : ∃ k : Nat, n = k := ⟨n.toNat, by omega⟩
    refine ⟨dl (s :: xs) k, 0, (cDealOK _ _ _ _ _ k _ h hs0 hs1 (by omega) (by omega) (by omega)).mono ?_, fun w' h' => (rDealOK _ _ _ _ _ k _ h' hs0 hs1 (by omega) (by omega) (by omega)).mono ?_⟩
    · rintro e w1 ⟨g, rfl, hr, _, hb⟩
      exact ⟨_, _, _, rfl, hr, hb⟩
    · rintro e w1 ⟨a', c', rfl, hr, hb⟩
      exact ⟨_, _, _, rfl, hr, hb⟩

/-- What Weights answers, whatever is handed in. -/
theorem cWeightsS (a : Option Addr) (n c : Nat) (ts : List Int) (w : World) (h : RdI w a n c ts) :
    Calls Try.prog 44 #[.slice a n c] w fun e w' => ∃ W r, Dls W r w e w' ∧ ((0 < n ∧ dis (fi ts) n) → W = wtl ts n n ∧ r = 0) ∧ (¬ (0 < n ∧ dis (fi ts) n) → W = [] ∧ r = 5) := by
  by_cases hn : 0 < n
  · refine (cWeights1 _ _ _ _ _ h hn).mono ?_
    rintro e w1 ⟨⟨hd, rfl⟩ | ⟨hd, g, rfl, hr, _⟩, hb⟩
    · exact ⟨[], 5, ⟨none, 0, 0, rfl, nil_rd _, hb⟩, fun hh => absurd hh.2 hd, fun _ => ⟨rfl, rfl⟩⟩
    · exact ⟨_, 0, ⟨_, _, _, rfl, hr, hb⟩, fun _ => ⟨rfl, rfl⟩, fun hh => absurd ⟨hn, hd⟩ hh⟩
  · obtain rfl : n = 0 := by omega
    refine (cWeights0 _ _ _).mono ?_
    rintro e w1 ⟨rfl, rfl⟩
    exact ⟨[], 5, ⟨none, 0, 0, rfl, nil_rd _, Below.refl _ _⟩, fun hh => absurd hh.1 hn, fun _ => ⟨rfl, rfl⟩⟩

set_option maxRecDepth 100000 in
set_option maxHeartbeats 2000000 in
theorem shamirSaysW (s : Int) (a0 : Option Addr) (n0 c0 : Nat) (xs : List Int) (n t : Int) (a1 : Option Addr) (n1 c1 : Nat) (l : List (Int × Int)) (a2 : Option Addr) (n2 c2 : Nat) (ts : List Int) (w : World)
    (hs0 : 0 ≤ s) (hs1 : s ≤ 18446744073709551615) (h0 : Rd w a0 n0 c0 xs) (h1 : RdS w a1 n1 c1 l) (h2 : RdI w a2 n2 c2 ts) :
    Calls Try.prog 8 #[.int .u64 s, .slice a0 n0 c0, .int .i64 n, .int .i64 t, .slice a1 n1 c1, .slice a2 n2 c2] w fun e w' => e = .returned (.bool true) ∧ Below w.heap.size w w' := by
  obtain ⟨D, rd, hD1, hD2⟩ := cDealS s a0 n0 c0 xs n w h0 hs0 hs1
  go_enter Try.func8, Try.ntmps8
  go_wp2_with fail
  refine hD1.mono ?_
  rintro e w1 ⟨ad, kd, cd, rfl, hrd, hb1⟩
  clear hD1
  go_wp2_with fail
  refine (hD2 _ (h0.below hb1)).mono ?_
  rintro e w2 ⟨ae, ke, ce, rfl, hre, hb2⟩
  have hw2 := hb1.trans (hb2.mono hb1.size)
  have hrd2 := hrd.below hb2
  clear hD2 hrd hb1 hb2 h0
  go_wp2_with fail
  refine (cOpenS _ _ _ _ _ _ (h1.below hw2)).mono ?_
  rintro e w3 ⟨x, ro, rfl, hO1, hb3⟩
  have HO1 : Hid (Opn l n1 t x ro) := hO1
  have hw3 := hw2.trans (hb3.mono hw2.size)
  have hrd3 := hrd2.below hb3
  have hre3 := hre.below hb3
  clear hO1 hrd2 hre hb3 hw2
  go_wp2_with fail
  refine (rOpenS _ _ _ _ _ _ (h1.below hw3)).mono ?_
  rintro e w4 ⟨y, rp, rfl, hO2, hb4⟩
  obtain ⟨rfl, rfl⟩ := HO1.out.one hO2
  have hw4 := hw3.trans (hb4.mono hw3.size)
  have hrd4 := hrd3.below hb4
  have hre4 := hre3.below hb4
  clear HO1 hO2 hrd3 hre3 hb4 hw3
  go_wp2_with fail
  refine (cWeightsS _ _ _ _ _ (h2.below hw4)).mono ?_
  rintro e w5 ⟨W, rw_, ⟨aw, kw, cw, rfl, hrw, hb5⟩, hWY, hWN⟩
  have HWY : Hid ((0 < n2 ∧ dis (fi ts) n2) → W = wtl ts n2 n2 ∧ rw_ = 0) := hWY
  have HWN : Hid (¬ (0 < n2 ∧ dis (fi ts) n2) → W = [] ∧ rw_ = 5) := hWN
  have hw5 := hw4.trans (hb5.mono hw4.size)
  have hrd5 := hrd4.below hb5
  have hre5 := hre4.below hb5
  clear hWY hWN hrd4 hre4 hb5 hw4
  go_wp2_with fail
  refine (rParties _ _ _ _ _ (h2.below hw5)).mono ?_
  rintro e w6 ⟨r, rfl, hr, hb6⟩
  have HR : Hid (r = true ↔ (0 < n2 ∧ dis (fi ts) n2)) := hr
  have hw6 := hw5.trans (hb6.mono hw5.size)
  have hrd6 := hrd5.below hb6
  have hre6 := hre5.below hb6
  have hrw6 := hrw.below hb6
  clear hr hrd5 hre5 hb6 hw5 hrw
  cases r with
  | false =>
    obtain ⟨rfl, rfl⟩ := HWN.out (fun hh => by have := HR.out.2 hh; cases this)
    clear HWY HWN HR
    go_wp2_with fail
    refine (cSame _ _ _ _ _ _ _ _ hrd6 hre6).mono ?_
    rintro e w7 ⟨rfl, hb7⟩
    have hw7 := hw6.trans (hb7.mono hw6.size)
    have hrw7 := hrw6.below hb7
    clear hrd6 hre6 hb7 hw6 hrw6
    go_wp2_with fail
    refine (cCheckS _ _ _ _ _ _ (h1.below hw7)).mono ?_
    rintro e w8 ⟨rc, rfl, hS1, hb8⟩
    have HS1 : Hid (She l n1 t rc) := hS1
    have hw8 := hw7.trans (hb8.mono hw7.size)
    have hrw8 := hrw7.below hb8
    clear hS1 hb8 hw7 hrw7
    go_wp2_with fail
    refine (rShares _ _ _ _ _ _ (h1.below hw8)).mono ?_
    rintro e w9 ⟨rs, rfl, hS2, hb9⟩
    obtain rfl := HS1.out.one hS2
    have hw9 := hw8.trans (hb9.mono hw8.size)
    have hrw9 := hrw8.below hb9
    clear HS1 hS2 hb9 hw8 hrw8
    go_wp2_with fail
    refine (cSame _ _ _ _ _ _ _ _ hrw9 (nil_rd _)).mono ?_
    rintro e w10 ⟨rfl, hb10⟩
    have hw10 := hw9.trans (hb10.mono hw9.size)
    clear hb10 hw9 hrw9
    go_wp2
    go_ret
    exact ⟨rfl, hw10⟩
  | true =>
    have hP := HR.out.1 rfl
    obtain ⟨rfl, rfl⟩ := HWY.out hP
    have HD : Hid (dis (fi ts) n2) := hP.2
    clear HWY HWN HR hP
    go_wp2_with fail
    refine (rWeights _ _ _ _ _ (h2.below hw6) HD.out).mono ?_
    rintro e w11 ⟨av, cv, rfl, hrv, hb11⟩
    have hw11 := hw6.trans (hb11.mono hw6.size)
    have hrd11 := hrd6.below hb11
    have hre11 := hre6.below hb11
    have hrw11 := hrw6.below hb11
    clear hrd6 hre6 hb11 hw6 hrw6
    go_wp2_with fail
    refine (cSame _ _ _ _ _ _ _ _ hrd11 hre11).mono ?_
    rintro e w7 ⟨rfl, hb7⟩
    have hw7 := hw11.trans (hb7.mono hw11.size)
    have hrw7 := hrw11.below hb7
    have hrv7 := hrv.below hb7
    clear hrd11 hre11 hb7 hw11 hrw11 hrv
    go_wp2_with fail
    refine (cCheckS _ _ _ _ _ _ (h1.below hw7)).mono ?_
    rintro e w8 ⟨rc, rfl, hS1, hb8⟩
    have HS1 : Hid (She l n1 t rc) := hS1
    have hw8 := hw7.trans (hb8.mono hw7.size)
    have hrw8 := hrw7.below hb8
    have hrv8 := hrv7.below hb8
    clear hS1 hb8 hw7 hrw7 hrv7
    go_wp2_with fail
    refine (rShares _ _ _ _ _ _ (h1.below hw8)).mono ?_
    rintro e w9 ⟨rs, rfl, hS2, hb9⟩
    obtain rfl := HS1.out.one hS2
    have hw9 := hw8.trans (hb9.mono hw8.size)
    have hrw9 := hrw8.below hb9
    have hrv9 := hrv8.below hb9
    clear HS1 hS2 hb9 hw8 hrw8 hrv8
    go_wp2_with fail
    refine (cSame _ _ _ _ _ _ _ _ hrw9 hrv9).mono ?_
    rintro e w10 ⟨rfl, hb10⟩
    have hw10 := hw9.trans (hb10.mono hw9.size)
    clear hb10 hw9 hrw9 hrv9
    go_wp2
    go_ret
    exact ⟨rfl, hw10⟩
end Go.Proofs.Ytenbmdibbnlljaa
