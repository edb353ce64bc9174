/- What each call of package field answers: the rest of the sum, the difference, the product, the power, the inverse; no world is changed. · croftref.Norm, Add, Mul: the same rests, by other roads. · croftref.Neg, Pow, Inv. -/
import Derived.Test.YtljlioglpaogdaaMath
import Derived.Test.YtljlioglpaogdaaProg
import Derived.WalkKit
import Derived.WalkSpells
import Derived.WalkLawsBesides
namespace Go.Proofs.Ytljlioglpaogdaa
set_option linter.unusedVariables false
set_option maxRecDepth 100000
set_option maxHeartbeats 8000000
section
open Crm Go.RowKit
theorem fNorm (a : Int) (w : World) (h0 : 0 ≤ a) (h1 : a ≤ 18446744073709551615) :
    Calls Try.prog 12 #[.int .u64 a] w fun e w' => e = .returned (.int .u64 (nm a)) ∧ w' = w := by
  go_enter Try.func12, Try.ntmps12
  go_wp2
  go_ret
  exact ⟨rfl, rfl⟩

theorem fAdd (a b : Int) (w : World) (h0 : 0 ≤ a) (h1 : a ≤ 18446744073709551615) (g0 : 0 ≤ b) (g1 : b ≤ 18446744073709551615) :
    Calls Try.prog 13 #[.int .u64 a, .int .u64 b] w fun e w' => e = .returned (.int .u64 (nm (a + b))) ∧ w' = w := by
  have ha := nm_bd a
  have hb := nm_bd b
  have HN : Hid (nm (a + b) = nm (nm a + nm b)) := by rw [nm_addl, nm_addr]; exact rfl
  go_enter Try.func13, Try.ntmps13
  go_wp2_with (go_at_call 12; refine (fNorm _ _ (by omega) (by omega)).mono ?_; rintro e w' ⟨rfl, rfl⟩)
  go_ret
  rw [HN.out]
  exact ⟨rfl, rfl⟩

theorem fSub (a b : Int) (w : World) (h0 : 0 ≤ a) (h1 : a ≤ 18446744073709551615) (g0 : 0 ≤ b) (g1 : b ≤ 18446744073709551615) :
    Calls Try.prog 15 #[.int .u64 a, .int .u64 b] w fun e w' => e = .returned (.int .u64 (nm (a - b))) ∧ w' = w := by
  have ha := nm_bd a
  have hb := nm_bd b
  have HN : Hid (nm (a - b) = nm (nm a + 2147483647 - nm b)) := by unfold nm Hid; omega
  go_enter Try.func15, Try.ntmps15
  go_wp2_with (go_at_call 12; refine (fNorm _ _ (by omega) (by omega)).mono ?_; rintro e w' ⟨rfl, rfl⟩)
  go_ret
  rw [HN.out]
  exact ⟨rfl, rfl⟩

theorem mul_bd {x y : Int} (hx : 0 ≤ x ∧ x ≤ 2147483646) (hy : 0 ≤ y ∧ y ≤ 2147483646) : 0 ≤ x * y ∧ x * y ≤ 4611686009837453316 :=
  ⟨Int.mul_nonneg hx.1 hy.1, by have := Int.mul_le_mul hx.2 hy.2 hy.1 (by omega : (0 : Int) ≤ 2147483646); omega⟩

theorem fMul (a b : Int) (w : World) (h0 : 0 ≤ a) (h1 : a ≤ 18446744073709551615) (g0 : 0 ≤ b) (g1 : b ≤ 18446744073709551615) :
    Calls Try.prog 17 #[.int .u64 a, .int .u64 b] w fun e w' => e = .returned (.int .u64 (nm (a * b))) ∧ w' = w := by
  have ha := nm_bd a
  have hb := nm_bd b
  have hm := mul_bd ha hb
  have HN : Hid (nm (a * b) = nm (nm a * nm b)) := by rw [nm_mull, nm_mulr]; exact rfl
  go_enter Try.func17, Try.ntmps17
  go_wp2_with (go_at_call 12; refine (fNorm _ _ (by omega) (by omega)).mono ?_; rintro e w' ⟨rfl, rfl⟩)
  go_ret
  rw [HN.out]
  exact ⟨rfl, rfl⟩

theorem fPow (a n : Int) (w : World) (h0 : 0 ≤ a) (h1 : a ≤ 18446744073709551615) (g0 : 0 ≤ n) (g1 : n ≤ 18446744073709551615) :
    Calls Try.prog 19 #[.int .u64 a, .int .u64 n] w fun e w' => e = .returned (.int .u64 (pw a n.toNat)) ∧ w' = w := by
  have ha := nm_bd a
  go_enter Try.func19, Try.ntmps19
  go_wp2_with (go_at_call 12; refine (fNorm _ _ (by omega) (by omega)).mono ?_; rintro e w' ⟨rfl, rfl⟩)
  go_loop [1, 5, 6] (fun vn vp vs => ∃ (m : Nat) (p s : Int), vn = .int .u64 m ∧ vp = .int .u64 p ∧ vs = .int .u64 s ∧ (m : Int) ≤ 18446744073709551615 ∧ (0 ≤ p ∧ p ≤ 2147483646) ∧ (0 ≤ s ∧ s ≤ 2147483646) ∧ nm (p * pw s m) = pw a n.toNat) (fun vn _ _ => (intOf vn).toNat)
  case atStart =>
    obtain ⟨k, rfl⟩ := Int.eq_ofNat_of_zero_le g0
    exact ⟨k, 1, nm a, rfl, rfl, rfl, g1, by omega, ha, by rw [Int.one_mul, pw_nm, Int.toNat_natCast]; exact nm_nm _⟩
  case round =>
    obtain ⟨m, p, s, rfl, rfl, rfl, hm, hp, hs, hr⟩ := hrel
    have HR : Hid (nm (p * pw s m) = pw a n.toNat) := hr
    clear hr
    have hpp := mul_bd hp hs
    have hss := mul_bd hs hs
    have hnp := nm_bd (p * s)
    have hns := nm_bd (s * s)
    have hand := and_one_u64 m (by omega) hm
    by_cases hlt : 0 < m
    · by_cases hb : m % 2 = 1
      · have hand1 : (bits BinOp.and IntKind.u64 (m : Int) 1 == 1) = true := by rw [hand, beq_iff_eq]; omega
        clear hand
        have HB : Hid (m % 2 = 1) := hb
        clear hb
        go_wp2_with (go_at_call 17; refine (fMul _ _ _ (by omega) (by omega) (by omega) (by omega)).mono ?_; rintro e w' ⟨rfl, rfl⟩)
        go_round
        case rel => exact ⟨m / 2, _, _, rfl, rfl, rfl, by omega, hnp, hns, by rw [low1 p s m HB.out]; exact HR.out⟩
        case measure => simp [intOf]; omega
      · have hand1 : (bits BinOp.and IntKind.u64 (m : Int) 1 == 1) = false := by rw [hand, beq_eq_false_iff_ne]; omega
        clear hand
        have HB : Hid (m % 2 = 0) := by unfold Hid; omega
        clear hb
        go_wp2_with (go_at_call 17; refine (fMul _ _ _ (by omega) (by omega) (by omega) (by omega)).mono ?_; rintro e w' ⟨rfl, rfl⟩)
        go_round
        case rel => exact ⟨m / 2, _, _, rfl, rfl, rfl, by omega, hp, hns, by rw [low0 p s m HB.out]; exact HR.out⟩
        case measure => simp [intOf]; omega
    · have HM : Hid (m = 0) := by unfold Hid; omega
      clear hand
      go_wp2
      go_ret
      have h := HR.out
      rw [HM.out, pw_zero, Int.mul_one, nm_small hp.1 hp.2] at h
      rw [h]
      exact ⟨rfl, rfl⟩

theorem fInv0 (a : Int) (w : World) (h0 : 0 ≤ a) (h1 : a ≤ 18446744073709551615) (hz : nm a = 0) :
    Calls Try.prog 9 #[.int .u64 a] w fun e w' => e = .returned (.tuple #[.int .u64 0, .int .i64 1]) ∧ w' = w := by
  go_enter Try.func9, Try.ntmps9
  go_wp2_with (go_at_call 12; refine (fNorm _ _ (by omega) (by omega)).mono ?_; rintro e w' ⟨rfl, rfl⟩)
  go_ret2
  exact ⟨rfl, rfl⟩

theorem fInv1 (a : Int) (w : World) (h0 : 0 ≤ a) (h1 : a ≤ 18446744073709551615) (hz : nm a ≠ 0) :
    Calls Try.prog 9 #[.int .u64 a] w fun e w' => e = .returned (.tuple #[.int .u64 (iv a), .int .i64 0]) ∧ w' = w := by
  have hz' : (nm a == 0) = false := by rw [beq_eq_false_iff_ne]; exact hz
  go_enter Try.func9, Try.ntmps9
  go_wp2_with (first | (go_at_call 12; refine (fNorm _ _ (by omega) (by omega)).mono ?_; rintro e w' ⟨rfl, rfl⟩) | (go_at_call 19; refine (fPow _ _ _ (by omega) (by omega) (by omega) (by omega)).mono ?_; rintro e w' ⟨rfl, rfl⟩))
  go_ret2
  exact ⟨rfl, rfl⟩
theorem rNorm (a : Int) (w : World) (h0 : 0 ≤ a) (h1 : a ≤ 18446744073709551615) :
    Calls Try.prog 10 #[.int .u64 a] w fun e w' => e = .returned (.int .u64 (nm a)) ∧ w' = w := by
  have HN : Hid (nm a = a - a / 2147483647 * 2147483647) := by unfold nm Hid; omega
  go_enter Try.func10, Try.ntmps10
  go_wp2
  go_ret
  rw [HN.out]
  exact ⟨rfl, rfl⟩

theorem rAdd (a b : Int) (w : World) (h0 : 0 ≤ a) (h1 : a ≤ 18446744073709551615) (g0 : 0 ≤ b) (g1 : b ≤ 18446744073709551615) :
    Calls Try.prog 14 #[.int .u64 a, .int .u64 b] w fun e w' => e = .returned (.int .u64 (nm (a + b))) ∧ w' = w := by
  have ha := nm_bd a
  have hb := nm_bd b
  have HN : Hid (nm (a + b) = nm (nm a + nm b)) := by rw [nm_addl, nm_addr]; exact rfl
  go_enter Try.func14, Try.ntmps14
  go_wp2_with (go_at_call 10; refine (rNorm _ _ (by omega) (by omega)).mono ?_; rintro e w' ⟨rfl, rfl⟩)
  go_ret
  rw [HN.out]
  exact ⟨rfl, rfl⟩

theorem rMul (a b : Int) (w : World) (h0 : 0 ≤ a) (h1 : a ≤ 18446744073709551615) (g0 : 0 ≤ b) (g1 : b ≤ 18446744073709551615) :
    Calls Try.prog 18 #[.int .u64 a, .int .u64 b] w fun e w' => e = .returned (.int .u64 (nm (a * b))) ∧ w' = w := by
  have ha := nm_bd a
  have hb := nm_bd b
  have HE : Hid (nm (a * b) = nm (nm a * nm b)) := by rw [nm_mull, nm_mulr]; exact rfl
  go_enter Try.func18, Try.ntmps18
  go_wp2_with (go_at_call 10; refine (rNorm _ _ (by omega) (by omega)).mono ?_; rintro e w' ⟨rfl, rfl⟩)
  go_loop [5, 6] (fun out i => ∃ (k : Nat) (o : Int), k ≤ 31 ∧ i = .int .i64 ((k : Int) - 1) ∧ out = .int .u64 o ∧ o = nm (nm a * (nm b / 2 ^ k))) (fun _ i => (intOf i + 1).toNat)
  case atStart =>
    refine ⟨31, 0, by omega, rfl, rfl, ?_⟩
    have : nm b / 2 ^ 31 = 0 := by omega
    rw [this, Int.mul_zero]; rfl
  case round =>
    obtain ⟨k, o, hk, rfl, rfl, hr⟩ := hrel
    have ho : 0 ≤ o ∧ o ≤ 2147483646 := by rw [hr]; exact nm_bd _
    have HR : Hid (o = nm (nm a * (nm b / 2 ^ k))) := hr
    clear hr
    have hoo := nm_bd (o + o)
    have hooa := nm_bd (nm (o + o) + nm a)
    by_cases hlt : 0 < k
    · have hq : 0 ≤ nm b / 2 ^ (k - 1) := Int.ediv_nonneg hb.1 (Int.le_of_lt (Int.pow_pos (by omega)))
      have HR2 : Hid (o = nm (nm a * (nm b / 2 ^ ((k - 1) + 1)))) := by rw [Nat.sub_add_cancel hlt]; exact HR
      by_cases hbit : (nm b / 2 ^ (k - 1)) % 2 = 1
      · have hb1 : ((nm b / 2 ^ (k - 1)) % 2 == 1) = true := by rw [beq_iff_eq]; exact hbit
        have HB : Hid (nm (nm (o + o) + nm a) = nm (nm a * (nm b / 2 ^ (k - 1)))) := mul_bit1 _ _ _ hbit o HR2.out
        clear hbit
        go_wp2_with (go_at_call 10; refine (rNorm _ _ (by omega) (by omega)).mono ?_; rintro e w' ⟨rfl, rfl⟩)
        go_round
        case rel => exact ⟨k - 1, _, by omega, by go_num, rfl, HB.out⟩
        case measure => simp [intOf]; omega
      · have hb1 : ((nm b / 2 ^ (k - 1)) % 2 == 1) = false := by rw [beq_eq_false_iff_ne]; exact hbit
        have HB : Hid (nm (o + o) = nm (nm a * (nm b / 2 ^ (k - 1)))) := mul_bit0 _ _ _ (by omega) o HR2.out
        clear hbit
        go_wp2_with (go_at_call 10; refine (rNorm _ _ (by omega) (by omega)).mono ?_; rintro e w' ⟨rfl, rfl⟩)
        go_round
        case rel => exact ⟨k - 1, _, by omega, by go_num, rfl, HB.out⟩
        case measure => simp [intOf]; omega
    · have HM : Hid (k = 0) := by unfold Hid; omega
      go_wp2
      go_ret
      have h := HR.out
      rw [HM.out, Int.pow_zero, Int.ediv_one, ← HE.out] at h
      rw [h]
      exact ⟨rfl, rfl⟩
theorem rNeg (a : Int) (w : World) (h0 : 0 ≤ a) (h1 : a ≤ 18446744073709551615) :
    Calls Try.prog 16 #[.int .u64 a] w fun e w' => e = .returned (.int .u64 (nm (-a))) ∧ w' = w := by
  have ha := nm_bd a
  have HN : Hid (nm (-a) = nm (2147483647 - nm a)) := by unfold nm Hid; omega
  go_enter Try.func16, Try.ntmps16
  go_wp2_with (go_at_call 10; refine (rNorm _ _ (by omega) (by omega)).mono ?_; rintro e w' ⟨rfl, rfl⟩)
  go_ret
  rw [HN.out]
  exact ⟨rfl, rfl⟩

theorem rPow (a n : Int) (w : World) (h0 : 0 ≤ a) (h1 : a ≤ 18446744073709551615) (g0 : 0 ≤ n) (g1 : n ≤ 18446744073709551615) :
    Calls Try.prog 20 #[.int .u64 a, .int .u64 n] w fun e w' => e = .returned (.int .u64 (pw a n.toNat)) ∧ w' = w := by
  obtain ⟨N, rfl⟩ := Int.eq_ofNat_of_zero_le g0
  rw [Int.toNat_natCast]
  go_enter Try.func20, Try.ntmps20
  go_wp2
  go_loop [5, 6] (fun out i => ∃ (k : Nat) (o : Int), k ≤ 64 ∧ i = .int .i64 ((k : Int) - 1) ∧ out = .int .u64 o ∧ o = pw a (N / 2 ^ k)) (fun _ i => (intOf i + 1).toNat)
  case atStart =>
    refine ⟨64, 1, by omega, rfl, rfl, ?_⟩
    have : N / 2 ^ 64 = 0 := by omega
    rw [this, pw_zero]
  case round =>
    obtain ⟨k, o, hk, rfl, rfl, hr⟩ := hrel
    have ho : 0 ≤ o ∧ o ≤ 2147483646 := by rw [hr]; exact pw_bd _ _
    have HR : Hid (o = pw a (N / 2 ^ k)) := hr
    clear hr
    have hoo := nm_bd (o * o)
    have hooa := nm_bd (nm (o * o) * a)
    by_cases hlt : 0 < k
    · have hq : 0 ≤ (N : Int) / 2 ^ (k - 1) := Int.ediv_nonneg g0 (Int.le_of_lt (Int.pow_pos (by omega)))
      have hcast : ((N : Int) / 2 ^ (k - 1)) % 2 = ((N / 2 ^ (k - 1) % 2 : Nat) : Int) := by simp
      have HR2 : Hid (o = pw a (N / 2 ^ ((k - 1) + 1))) := by rw [Nat.sub_add_cancel hlt]; exact HR
      by_cases hbit : (N / 2 ^ (k - 1)) % 2 = 1
      · have hb1 : (((N : Int) / 2 ^ (k - 1)) % 2 == 1) = true := by rw [beq_iff_eq, hcast, hbit]; rfl
        have HB : Hid (nm (nm (o * o) * a) = pw a (N / 2 ^ (k - 1))) := pow_bit1 _ _ _ hbit o HR2.out
        clear hbit hcast
        go_wp2_with (go_at_call 18; refine (rMul _ _ _ (by omega) (by omega) (by omega) (by omega)).mono ?_; rintro e w' ⟨rfl, rfl⟩)
        go_round
        case rel => exact ⟨k - 1, _, by omega, by go_num, rfl, HB.out⟩
        case measure => simp [intOf]; omega
      · have hb1 : (((N : Int) / 2 ^ (k - 1)) % 2 == 1) = false := by rw [beq_eq_false_iff_ne, hcast]; omega
        have HB : Hid (nm (o * o) = pw a (N / 2 ^ (k - 1))) := pow_bit0 _ _ _ (by omega) o HR2.out
        clear hbit hcast
        go_wp2_with (go_at_call 18; refine (rMul _ _ _ (by omega) (by omega) (by omega) (by omega)).mono ?_; rintro e w' ⟨rfl, rfl⟩)
        go_round
        case rel => exact ⟨k - 1, _, by omega, by go_num, rfl, HB.out⟩
        case measure => simp [intOf]; omega
    · have HM : Hid (k = 0) := by unfold Hid; omega
      go_wp2
      go_ret
      have h := HR.out
      rw [HM.out, Nat.pow_zero, Nat.div_one] at h
      rw [h]
      exact ⟨rfl, rfl⟩

theorem rInv (a : Int) (w : World) (h0 : 0 ≤ a) (h1 : a ≤ 18446744073709551615) (hz : nm a ≠ 0) :
    Calls Try.prog 11 #[.int .u64 a] w fun e w' => e = .returned (.int .u64 (iv a)) ∧ w' = w := by
  have ha := nm_bd a
  have HZ : Hid (nm a ≠ 0) := hz
  clear hz
  go_enter Try.func11, Try.ntmps11
  go_wp2_with (go_at_call 10; refine (rNorm _ _ (by omega) (by omega)).mono ?_; rintro e w' ⟨rfl, rfl⟩)
  go_loop [3, 4, 5, 6] (fun vr vn vx vt => ∃ r n x t : Int, vr = .int .u64 r ∧ vn = .int .u64 n ∧ vx = .int .u64 x ∧ vt = .int .u64 t ∧ (0 ≤ r ∧ r ≤ 2147483647) ∧ (0 ≤ n ∧ n ≤ 2147483647) ∧ (0 ≤ x ∧ x ≤ 2147483646) ∧ (0 ≤ t ∧ t ≤ 2147483646) ∧ nm (x * a) = nm r ∧ nm (t * a) = nm n ∧ Nat.gcd r.toNat n.toNat = 1) (fun _ vn _ _ => (intOf vn).toNat)
  case atStart =>
    refine ⟨2147483647, nm a, 0, 1, rfl, rfl, rfl, rfl, by omega, by omega, by omega, by omega, ?_, ?_, cop_int HZ.out⟩
    · rw [Int.zero_mul]; rfl
    · rw [Int.one_mul, nm_nm]
  case round =>
    obtain ⟨r, n, x, t, rfl, rfl, rfl, rfl, hr, hn, hx, ht, e1, e2, e3⟩ := hrel
    by_cases hlt : 0 < n
    · obtain ⟨b1, b2, b3, b4, b5, b6⟩ := eu_bd hr.1 hlt
      have HG : Hid (Nat.gcd n.toNat (r - r / n * n).toNat = 1) := eu_gcd hr.1 hlt e3
      have HT : Hid (nm (nm (x - r / n * t) * a) = nm (r - r / n * n)) := eu_step e1 e2
      have HE : Hid (nm (x + nm (-nm (r / n * t))) = nm (x - r / n * t)) := by unfold Hid; rw [nm_addr]; generalize r / n * t = y; unfold nm; omega
      have H2 : Hid (nm (t * a) = nm n) := e2
      clear e1 e2 e3
      have c1 := nm_bd (r / n * t)
      have c2 := nm_bd (-nm (r / n * t))
      have c3 := nm_bd (x + nm (-nm (r / n * t)))
      have hne : (n != 0) = true := by rw [bne_iff_ne]; omega
      go_wp2_with (first | (go_at_call 18; refine (rMul _ _ _ (by omega) (by omega) (by omega) (by omega)).mono ?_; rintro e w' ⟨rfl, rfl⟩) | (go_at_call 16; refine (rNeg _ _ (by omega) (by omega)).mono ?_; rintro e w' ⟨rfl, rfl⟩) | (go_at_call 14; refine (rAdd _ _ _ (by omega) (by omega) (by omega) (by omega)).mono ?_; rintro e w' ⟨rfl, rfl⟩))
      go_round
      case rel => exact ⟨n, r - r / n * n, t, nm (x + nm (-nm (r / n * t))), rfl, rfl, rfl, rfl, by omega, by omega, ht, c3, H2.out, by rw [HE.out]; exact HT.out, HG.out⟩
      case measure => simp [intOf]; omega
    · have HM : Hid (n = 0) := by unfold Hid; omega
      have H1 : Hid (nm (x * a) = nm r) := e1
      have H3 : Hid (Nat.gcd r.toNat n.toNat = 1) := e3
      clear e1 e2 e3
      have hne : (n != 0) = false := by have := HM.out; rw [this]; rfl
      go_wp2
      go_ret
      have h3 := H3.out
      rw [HM.out] at h3
      rw [eu_end h3 hr.1 H1.out hx.1 hx.2]
      exact ⟨rfl, rfl⟩
end
end Go.Proofs.Ytljlioglpaogdaa
