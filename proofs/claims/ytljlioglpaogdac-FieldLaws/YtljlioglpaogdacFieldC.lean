/- What each call of package field answers: the rest of the sum, the difference, the product, the power, the inverse; no world is changed. -/
import Derived.Test.YtljlioglpaogdacMath
import Derived.Test.YtljlioglpaogdacProg
import Derived.WalkKit
import Derived.WalkSpells
import Derived.WalkLawsBesides
namespace Go.Proofs.Ytljlioglpaogdac
set_option linter.unusedVariables false
set_option maxRecDepth 100000
set_option maxHeartbeats 8000000
section
open Crm Go.RowKit
theorem fNorm (a : Int) (w : World) (h0 : 0 ≤ a) (h1 : a ≤ 18446744073709551615) :
    Calls Try.prog 35 #[.int .u64 a] w fun e w' => e = .returned (.int .u64 (nm a)) ∧ w' = w := by
  go_enter Try.func35, Try.ntmps35
  go_wp2
  go_ret
  exact ⟨rfl, rfl⟩

theorem fAdd (a b : Int) (w : World) (h0 : 0 ≤ a) (h1 : a ≤ 18446744073709551615) (g0 : 0 ≤ b) (g1 : b ≤ 18446744073709551615) :
    Calls Try.prog 34 #[.int .u64 a, .int .u64 b] w fun e w' => e = .returned (.int .u64 (nm (a + b))) ∧ w' = w := by
  have ha := nm_bd a
  have hb := nm_bd b
  have HN : Hid (nm (a + b) = nm (nm a + nm b)) := by rw [nm_addl, nm_addr]; exact rfl
  go_enter Try.func34, Try.ntmps34
  go_wp2_with (go_at_call 35; refine (fNorm _ _ (by omega) (by omega)).mono ?_; rintro e w' ⟨rfl, rfl⟩)
  go_ret
  rw [HN.out]
  exact ⟨rfl, rfl⟩

theorem fSub (a b : Int) (w : World) (h0 : 0 ≤ a) (h1 : a ≤ 18446744073709551615) (g0 : 0 ≤ b) (g1 : b ≤ 18446744073709551615) :
    Calls Try.prog 33 #[.int .u64 a, .int .u64 b] w fun e w' => e = .returned (.int .u64 (nm (a - b))) ∧ w' = w := by
  have ha := nm_bd a
  have hb := nm_bd b
  have HN : Hid (nm (a - b) = nm (nm a + 2147483647 - nm b)) := by unfold nm Hid; omega
  go_enter Try.func33, Try.ntmps33
  go_wp2_with (go_at_call 35; refine (fNorm _ _ (by omega) (by omega)).mono ?_; rintro e w' ⟨rfl, rfl⟩)
  go_ret
  rw [HN.out]
  exact ⟨rfl, rfl⟩

theorem mul_bd {x y : Int} (hx : 0 ≤ x ∧ x ≤ 2147483646) (hy : 0 ≤ y ∧ y ≤ 2147483646) : 0 ≤ x * y ∧ x * y ≤ 4611686009837453316 :=
  ⟨Int.mul_nonneg hx.1 hy.1, by have := Int.mul_le_mul hx.2 hy.2 hy.1 (by omega : (0 : Int) ≤ 2147483646); omega⟩

theorem fMul (a b : Int) (w : World) (h0 : 0 ≤ a) (h1 : a ≤ 18446744073709551615) (g0 : 0 ≤ b) (g1 : b ≤ 18446744073709551615) :
    Calls Try.prog 32 #[.int .u64 a, .int .u64 b] w fun e w' => e = .returned (.int .u64 (nm (a * b))) ∧ w' = w := by
  have ha := nm_bd a
  have hb := nm_bd b
  have hm := mul_bd ha hb
  have HN : Hid (nm (a * b) = nm (nm a * nm b)) := by rw [nm_mull, nm_mulr]; exact rfl
  go_enter Try.func32, Try.ntmps32
  go_wp2_with (go_at_call 35; refine (fNorm _ _ (by omega) (by omega)).mono ?_; rintro e w' ⟨rfl, rfl⟩)
  go_ret
  rw [HN.out]
  exact ⟨rfl, rfl⟩

theorem fPow (a n : Int) (w : World) (h0 : 0 ≤ a) (h1 : a ≤ 18446744073709551615) (g0 : 0 ≤ n) (g1 : n ≤ 18446744073709551615) :
    Calls Try.prog 36 #[.int .u64 a, .int .u64 n] w fun e w' => e = .returned (.int .u64 (pw a n.toNat)) ∧ w' = w := by
  have ha := nm_bd a
  go_enter Try.func36, Try.ntmps36
  go_wp2_with (go_at_call 35; refine (fNorm _ _ (by omega) (by omega)).mono ?_; rintro e w' ⟨rfl, rfl⟩)
  go_loop [1, 5, 6] (fun vn vp vs => ∃ (m : Nat) (p s : Int), vn = .int .u64 m ∧ vp = .int .u64 p ∧ vs = .int .u64 s ∧ (m : Int) ≤ 18446744073709551615 ∧ (0 ≤ p ∧ p ≤ 2147483646) ∧ (0 ≤ s ∧ s ≤ 2147483646) ∧ nm (p * pw s m) = pw a n.toNat) (fun vn _ _ => (intOf vn).toNat)
  case atStart =>
    obtain ⟨k, rfl⟩ := Int.eq_ofNat_of_zero_le g0
    exact ⟨k, 1, nm a, rfl, rfl, rfl, g1, by omega, ha, by rw [Int.one_mul, pw_nm, Int.toNat_natCast]; exact nm_nm _⟩
  case round =>
    obtain ⟨m, p, s, rfl, rfl, rfl, hm, hp, hs, hr⟩ := hrel
    have HR : Hid (nm (p * pw s m) = pw a n.toNat) := hr
    clear hr
    have hpp := mul_bd hp hs
    have hss := mul_bd hs hs
    have hnp := nm_bd (p * s)
    have hns := nm_bd (s * s)
    have hand := and_one_u64 m (by omega) hm
    by_cases hlt : 0 < m
    · by_cases hb : m % 2 = 1
      · have hand1 : (bits BinOp.and IntKind.u64 (m : Int) 1 == 1) = true := by rw [hand, beq_iff_eq]; omega
        clear hand
        have HB : Hid (m % 2 = 1) := hb
        clear hb
        go_wp2_with (go_at_call 32; refine (fMul _ _ _ (by omega) (by omega) (by omega) (by omega)).mono ?_; rintro e w' ⟨rfl, rfl⟩)
        go_round
        case rel => exact ⟨m / 2, _, _, rfl, rfl, rfl, by omega, hnp, hns, by rw [low1 p s m HB.out]; exact HR.out⟩
        case measure => simp [intOf]; omega
      · have hand1 : (bits BinOp.and IntKind.u64 (m : Int) 1 == 1) = false := by rw [hand, beq_eq_false_iff_ne]; omega
        clear hand
        have HB : Hid (m % 2 = 0) := by unfold Hid; omega
        clear hb
        go_wp2_with (go_at_call 32; refine (fMul _ _ _ (by omega) (by omega) (by omega) (by omega)).mono ?_; rintro e w' ⟨rfl, rfl⟩)
        go_round
        case rel => exact ⟨m / 2, _, _, rfl, rfl, rfl, by omega, hp, hns, by rw [low0 p s m HB.out]; exact HR.out⟩
        case measure => simp [intOf]; omega
    · have HM : Hid (m = 0) := by unfold Hid; omega
      clear hand
      go_wp2
      go_ret
      have h := HR.out
      rw [HM.out, pw_zero, Int.mul_one, nm_small hp.1 hp.2] at h
      rw [h]
      exact ⟨rfl, rfl⟩

theorem fInv0 (a : Int) (w : World) (h0 : 0 ≤ a) (h1 : a ≤ 18446744073709551615) (hz : nm a = 0) :
    Calls Try.prog 37 #[.int .u64 a] w fun e w' => e = .returned (.tuple #[.int .u64 0, .int .i64 1]) ∧ w' = w := by
  go_enter Try.func37, Try.ntmps37
  go_wp2_with (go_at_call 35; refine (fNorm _ _ (by omega) (by omega)).mono ?_; rintro e w' ⟨rfl, rfl⟩)
  go_ret2
  exact ⟨rfl, rfl⟩

theorem fInv1 (a : Int) (w : World) (h0 : 0 ≤ a) (h1 : a ≤ 18446744073709551615) (hz : nm a ≠ 0) :
    Calls Try.prog 37 #[.int .u64 a] w fun e w' => e = .returned (.tuple #[.int .u64 (iv a), .int .i64 0]) ∧ w' = w := by
  have hz' : (nm a == 0) = false := by rw [beq_eq_false_iff_ne]; exact hz
  go_enter Try.func37, Try.ntmps37
  go_wp2_with (first | (go_at_call 35; refine (fNorm _ _ (by omega) (by omega)).mono ?_; rintro e w' ⟨rfl, rfl⟩) | (go_at_call 36; refine (fPow _ _ _ (by omega) (by omega) (by omega) (by omega)).mono ?_; rintro e w' ⟨rfl, rfl⟩))
  go_ret2
  exact ⟨rfl, rfl⟩
end
end Go.Proofs.Ytljlioglpaogdac
