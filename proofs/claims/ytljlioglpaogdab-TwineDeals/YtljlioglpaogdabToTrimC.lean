/- poly.placed. · croftref.In, croftref.Ats. · croftref.Norm, Add, Mul: the same rests, by other roads. · croftref.Neg, Pow, Inv. · croftref.Rows, rowOf, TwoNeed, number. · croftref.number: the numbers of a dealing in two variables. · Slices of ints that are read; shares that a call gathers. · Two lists of shares that a call gathers in turn; one behind the other. · Lists of rows (api.Row) that a call gathers. · croftref.Normal, croftref.Eval. · croftref.Sum. · croftref.TwoDeal. · What each call of package field answers: the rest of the sum, the difference, the product, the power, the inverse; no world is changed. · poly.trim, poly.normal. -/
import Derived.Test.YtljlioglpaogdabToRows2
import Derived.Test.YtljlioglpaogdabToPolyM3
import Derived.Test.YtljlioglpaogdabProg
import Derived.WalkKit
import Derived.WalkSpells
import Derived.WalkLawsBesides
import Derived.Laws.AppendOwnNone
namespace Go.Proofs.Ytljlioglpaogdab
set_option linter.unusedVariables false
set_option maxRecDepth 100000
set_option maxHeartbeats 8000000
section
open Crm Go.RowKit
/-- The variable that a round makes for a share. -/
theorem cell_alloc0 (w : World) (x y : Value) (t : TypeId) : (w.alloc (.cells #[x, y] t)).cell? ⟨w.heap.size, 0, none⟩ = some x := by
  rw [cell_of_row _ _ _ #[x, y] t (0, 0) (heap_alloc_new w _)]; rfl
theorem cell_alloc1 (w : World) (x y : Value) (t : TypeId) : (w.alloc (.cells #[x, y] t)).cell? ⟨w.heap.size, 1, none⟩ = some y := by
  rw [cell_of_row _ _ _ #[x, y] t (0, 0) (heap_alloc_new w _)]; rfl
theorem rInY (n lo hi : Int) (w : World) (h1 : lo ≤ n) (h2 : n ≤ hi) :
    Calls Try.prog 16 #[.int .i64 n, .int .i64 lo, .int .i64 hi] w fun e w' => e = .returned (.bool true) ∧ w' = w := by
  go_enter Try.func16, Try.ntmps16
  go_wp2
  go_ret
  exact ⟨rfl, rfl⟩
theorem rInN (n lo hi : Int) (w : World) (h : n < lo ∨ hi < n) :
    Calls Try.prog 16 #[.int .i64 n, .int .i64 lo, .int .i64 hi] w fun e w' => e = .returned (.bool false) ∧ w' = w := by
  by_cases h1 : n < lo
  · clear h
    go_enter Try.func16, Try.ntmps16
    go_wp2
    go_ret
    exact ⟨rfl, rfl⟩
  · have h2 : hi < n := by omega
    have hd : decide (n ≤ hi) = false := by simp; omega
    clear h
    go_enter Try.func16, Try.ntmps16
    go_wp2
    go_ret
    exact ⟨rfl, rfl⟩
theorem rNorm (a : Int) (w : World) (h0 : 0 ≤ a) (h1 : a ≤ 18446744073709551615) :
    Calls Try.prog 41 #[.int .u64 a] w fun e w' => e = .returned (.int .u64 (nm a)) ∧ w' = w := by
  have HN : Hid (nm a = a - a / 2147483647 * 2147483647) := by unfold nm Hid; omega
  go_enter Try.func41, Try.ntmps41
  go_wp2
  go_ret
  rw [HN.out]
  exact ⟨rfl, rfl⟩

theorem rAdd (a b : Int) (w : World) (h0 : 0 ≤ a) (h1 : a ≤ 18446744073709551615) (g0 : 0 ≤ b) (g1 : b ≤ 18446744073709551615) :
    Calls Try.prog 46 #[.int .u64 a, .int .u64 b] w fun e w' => e = .returned (.int .u64 (nm (a + b))) ∧ w' = w := by
  have ha := nm_bd a
  have hb := nm_bd b
  have HN : Hid (nm (a + b) = nm (nm a + nm b)) := by rw [nm_addl, nm_addr]; exact rfl
  go_enter Try.func46, Try.ntmps46
  go_wp2_with (go_at_call 41; refine (rNorm _ _ (by omega) (by omega)).mono ?_; rintro e w' ⟨rfl, rfl⟩)
  go_ret
  rw [HN.out]
  exact ⟨rfl, rfl⟩

theorem rMul (a b : Int) (w : World) (h0 : 0 ≤ a) (h1 : a ≤ 18446744073709551615) (g0 : 0 ≤ b) (g1 : b ≤ 18446744073709551615) :
    Calls Try.prog 47 #[.int .u64 a, .int .u64 b] w fun e w' => e = .returned (.int .u64 (nm (a * b))) ∧ w' = w := by
  have ha := nm_bd a
  have hb := nm_bd b
  have HE : Hid (nm (a * b) = nm (nm a * nm b)) := by rw [nm_mull, nm_mulr]; exact rfl
  go_enter Try.func47, Try.ntmps47
  go_wp2_with (go_at_call 41; refine (rNorm _ _ (by omega) (by omega)).mono ?_; rintro e w' ⟨rfl, rfl⟩)
  go_loop [5, 6] (fun out i => ∃ (k : Nat) (o : Int), k ≤ 31 ∧ i = .int .i64 ((k : Int) - 1) ∧ out = .int .u64 o ∧ o = nm (nm a * (nm b / 2 ^ k))) (fun _ i => (intOf i + 1).toNat)
  case atStart =>
    refine ⟨31, 0, by omega, rfl, rfl, ?_⟩
    have : nm b / 2 ^ 31 = 0 := by omega
    rw [this, Int.mul_zero]; rfl
  case round =>
    obtain ⟨k, o, hk, rfl, rfl, hr⟩ := hrel
    have ho : 0 ≤ o ∧ o ≤ 2147483646 := by rw [hr]; exact nm_bd _
    have HR : Hid (o = nm (nm a * (nm b / 2 ^ k))) := hr
    clear hr
    have hoo := nm_bd (o + o)
    have hooa := nm_bd (nm (o + o) + nm a)
    by_cases hlt : 0 < k
    · have hq : 0 ≤ nm b / 2 ^ (k - 1) := Int.ediv_nonneg hb.1 (Int.le_of_lt (Int.pow_pos (by omega)))
      have HR2 : Hid (o = nm (nm a * (nm b / 2 ^ ((k - 1) + 1)))) := by rw [Nat.sub_add_cancel hlt]; exact HR
      by_cases hbit : (nm b / 2 ^ (k - 1)) % 2 = 1
      · have hb1 : ((nm b / 2 ^ (k - 1)) % 2 == 1) = true := by rw [beq_iff_eq]; exact hbit
        have HB : Hid (nm (nm (o + o) + nm a) = nm (nm a * (nm b / 2 ^ (k - 1)))) := mul_bit1 _ _ _ hbit o HR2.out
        clear hbit
        go_wp2_with (go_at_call 41; refine (rNorm _ _ (by omega) (by omega)).mono ?_; rintro e w' ⟨rfl, rfl⟩)
        go_round
        case rel => exact ⟨k - 1, _, by omega, by go_num, rfl, HB.out⟩
        case measure => simp [intOf]; omega
      · have hb1 : ((nm b / 2 ^ (k - 1)) % 2 == 1) = false := by rw [beq_eq_false_iff_ne]; exact hbit
        have HB : Hid (nm (o + o) = nm (nm a * (nm b / 2 ^ (k - 1)))) := mul_bit0 _ _ _ (by omega) o HR2.out
        clear hbit
        go_wp2_with (go_at_call 41; refine (rNorm _ _ (by omega) (by omega)).mono ?_; rintro e w' ⟨rfl, rfl⟩)
        go_round
        case rel => exact ⟨k - 1, _, by omega, by go_num, rfl, HB.out⟩
        case measure => simp [intOf]; omega
    · have HM : Hid (k = 0) := by unfold Hid; omega
      go_wp2
      go_ret
      have h := HR.out
      rw [HM.out, Int.pow_zero, Int.ediv_one, ← HE.out] at h
      rw [h]
      exact ⟨rfl, rfl⟩
theorem rPow (a n : Int) (w : World) (h0 : 0 ≤ a) (h1 : a ≤ 18446744073709551615) (g0 : 0 ≤ n) (g1 : n ≤ 18446744073709551615) :
    Calls Try.prog 49 #[.int .u64 a, .int .u64 n] w fun e w' => e = .returned (.int .u64 (pw a n.toNat)) ∧ w' = w := by
  obtain ⟨N, rfl⟩ := Int.eq_ofNat_of_zero_le g0
  rw [Int.toNat_natCast]
  go_enter Try.func49, Try.ntmps49
  go_wp2
  go_loop [5, 6] (fun out i => ∃ (k : Nat) (o : Int), k ≤ 64 ∧ i = .int .i64 ((k : Int) - 1) ∧ out = .int .u64 o ∧ o = pw a (N / 2 ^ k)) (fun _ i => (intOf i + 1).toNat)
  case atStart =>
    refine ⟨64, 1, by omega, rfl, rfl, ?_⟩
    have : N / 2 ^ 64 = 0 := by omega
    rw [this, pw_zero]
  case round =>
    obtain ⟨k, o, hk, rfl, rfl, hr⟩ := hrel
    have ho : 0 ≤ o ∧ o ≤ 2147483646 := by rw [hr]; exact pw_bd _ _
    have HR : Hid (o = pw a (N / 2 ^ k)) := hr
    clear hr
    have hoo := nm_bd (o * o)
    have hooa := nm_bd (nm (o * o) * a)
    by_cases hlt : 0 < k
    · have hq : 0 ≤ (N : Int) / 2 ^ (k - 1) := Int.ediv_nonneg g0 (Int.le_of_lt (Int.pow_pos (by omega)))
      have hcast : ((N : Int) / 2 ^ (k - 1)) % 2 = ((N / 2 ^ (k - 1) % 2 : Nat) : Int) := by simp
      have HR2 : Hid (o = pw a (N / 2 ^ ((k - 1) + 1))) := by rw [Nat.sub_add_cancel hlt]; exact HR
      by_cases hbit : (N / 2 ^ (k - 1)) % 2 = 1
      · have hb1 : (((N : Int) / 2 ^ (k - 1)) % 2 == 1) = true := by rw [beq_iff_eq, hcast, hbit]; rfl
        have HB : Hid (nm (nm (o * o) * a) = pw a (N / 2 ^ (k - 1))) := pow_bit1 _ _ _ hbit o HR2.out
        clear hbit hcast
        go_wp2_with (go_at_call 47; refine (rMul _ _ _ (by omega) (by omega) (by omega) (by omega)).mono ?_; rintro e w' ⟨rfl, rfl⟩)
        go_round
        case rel => exact ⟨k - 1, _, by omega, by go_num, rfl, HB.out⟩
        case measure => simp [intOf]; omega
      · have hb1 : (((N : Int) / 2 ^ (k - 1)) % 2 == 1) = false := by rw [beq_eq_false_iff_ne, hcast]; omega
        have HB : Hid (nm (o * o) = pw a (N / 2 ^ (k - 1))) := pow_bit0 _ _ _ (by omega) o HR2.out
        clear hbit hcast
        go_wp2_with (go_at_call 47; refine (rMul _ _ _ (by omega) (by omega) (by omega) (by omega)).mono ?_; rintro e w' ⟨rfl, rfl⟩)
        go_round
        case rel => exact ⟨k - 1, _, by omega, by go_num, rfl, HB.out⟩
        case measure => simp [intOf]; omega
    · have HM : Hid (k = 0) := by unfold Hid; omega
      go_wp2
      go_ret
      have h := HR.out
      rw [HM.out, Nat.pow_zero, Nat.div_one] at h
      rw [h]
      exact ⟨rfl, rfl⟩
/-- How many numbers there are besides: by the loop. -/
def nd2 (t : Int) : Nat → Int
  | 0 => -1
  | k + 1 => nd2 t k + (t - k + 1)
theorem nd2_bd : ∀ t, t < 5 → ∀ k, k < 6 → k ≤ t + 1 → -1 ≤ nd2 (t : Nat) k ∧ nd2 (t : Nat) k ≤ 100 := by decide

theorem rTwoNeed (t : Nat) (w : World) (ht : t ≤ 4) :
    Calls Try.prog 17 #[.int .i64 t] w fun e w' => e = .returned (.int .i64 ((t + 1) * (t + 2) / 2 - 1 : Nat)) ∧ w' = w := by
  have hcase : t = 0 ∨ t = 1 ∨ t = 2 ∨ t = 3 ∨ t = 4 := by omega
  go_enter Try.func17, Try.ntmps17
  go_wp2
  go_loop [3, 4] (fun v i => ∃ k : Nat, k ≤ t + 1 ∧ i = .int .i64 k ∧ ∃ z : Int, v = .int .i64 z ∧ -1 ≤ z ∧ z ≤ 100 ∧ Hid (z = nd2 t k)) (fun _ i => t + 1 - (intOf i).toNat)
  case atStart => exact ⟨0, Nat.zero_le _, rfl, -1, rfl, by omega, by omega, rfl⟩
  case round =>
    obtain ⟨k, hk, rfl, z, rfl, hz0, hz1, HZ⟩ := hrel
    by_cases hlt : k < t + 1
    · have hzs : z + ((t : Int) - k + 1) = nd2 t (k + 1) := by rw [HZ.out]; rfl
      have hzb : -1 ≤ z + ((t : Int) - k + 1) ∧ z + ((t : Int) - k + 1) ≤ 100 := by rw [hzs]; exact nd2_bd t (by omega) (k + 1) (by omega) (by omega)
      have HZ2 : Hid (z + ((t : Int) - k + 1) = nd2 t (k + 1)) := hzs
      clear hzs
      go_wp2
      go_round
      case rel => exact ⟨k + 1, by omega, by go_num, _, rfl, hzb.1, hzb.2, HZ2⟩
      case measure => simp [intOf]; omega
    · have hkt : k = t + 1 := by omega
      subst hkt
      have HE : Hid (z = ((t + 1) * (t + 2) / 2 - 1 : Nat)) := by
        unfold Hid
        rw [HZ.out]
        rcases hcase with rfl | rfl | rfl | rfl | rfl <;> decide
      go_wp2
      go_ret
      rw [HE.out]
      exact ⟨rfl, rfl⟩
/-- The secret, and what is drawn behind it. -/
def dn (s : Int) (ds : List Int) (z : Int) : Int := if z < 0 then s else ds.getD z.toNat 0
/-- Number A(i, j). -/
def A2 (s : Int) (ds : List Int) (t i j : Nat) : Int := nm (if i ≤ j then dn s ds (nd2 t i + ((j : Int) - i)) else dn s ds (nd2 t j + ((i : Int) - j)))
theorem A2_sym (s : Int) (ds : List Int) (t i j : Nat) : A2 s ds t i j = A2 s ds t j i := by
  unfold A2
  by_cases h : i ≤ j
  · by_cases h2 : j ≤ i
    · obtain rfl : i = j := by omega
      rfl
    · rw [if_pos h, if_neg h2]
  · rw [if_neg h, if_pos (by omega)]
theorem A2_bd (s : Int) (ds : List Int) (t i j : Nat) : 0 ≤ A2 s ds t i j ∧ A2 s ds t i j ≤ 2147483646 := nm_bd _
theorem pos_bd : ∀ t, t < 5 → ∀ j, j ≤ 4 → ∀ i, i ≤ j → j ≤ t → -1 ≤ nd2 (t : Nat) i + ((j : Int) - i) ∧ nd2 (t : Nat) i + ((j : Int) - i) < (((t + 1) * (t + 2) / 2 - 1 : Nat) : Int) := by
  intro t ht j hj i hi hjt
  have h : t = 0 ∨ t = 1 ∨ t = 2 ∨ t = 3 ∨ t = 4 := by omega
  have hj2 : j = 0 ∨ j = 1 ∨ j = 2 ∨ j = 3 ∨ j = 4 := by omega
  have hi2 : i = 0 ∨ i = 1 ∨ i = 2 ∨ i = 3 ∨ i = 4 := by omega
  rcases h with rfl | rfl | rfl | rfl | rfl <;> rcases hj2 with rfl | rfl | rfl | rfl | rfl <;> first | (exfalso; omega) | (rcases hi2 with rfl | rfl | rfl | rfl | rfl <;> first | (exfalso; omega) | decide)

theorem rNumber (s : Int) (a : Option Addr) (n c : Nat) (ds : List Int) (t i j : Nat) (w : World) (h : Rd w a n c ds) (hs0 : 0 ≤ s) (hs1 : s ≤ 18446744073709551615) (ht : t ≤ 4) (hn : n = (t + 1) * (t + 2) / 2 - 1) (hit : i ≤ t) (hjt : j ≤ t) :
    Calls Try.prog 48 #[.int .u64 s, .int .i64 t, .slice a n c, .int .i64 i, .int .i64 j] w fun e w' => e = .returned (.int .u64 (A2 s ds t i j)) ∧ w' = w := by
  have hn20 : n ≤ 14 := by
    rw [hn]
    have hcase : t = 0 ∨ t = 1 ∨ t = 2 ∨ t = 3 ∨ t = 4 := by omega
    rcases hcase with rfl | rfl | rfl | rfl | rfl <;> decide
  by_cases hij : i ≤ j
  · have HAE : Hid (A2 s ds t i j = nm (dn s ds (nd2 t i + ((j : Int) - i)))) := by unfold Hid A2; rw [if_pos hij]
    go_enter Try.func48, Try.ntmps48
    go_wp2
    go_loop [11, 12] (fun v q => ∃ k : Nat, k ≤ i ∧ q = .int .i64 k ∧ ∃ z : Int, v = .int .i64 z ∧ -1 ≤ z ∧ z ≤ 100 ∧ Hid (z = nd2 t k)) (fun _ q => i - (intOf q).toNat)
    case atStart => exact ⟨0, Nat.zero_le _, rfl, -1, rfl, by omega, by omega, rfl⟩
    case round =>
      obtain ⟨k, hk, rfl, z, rfl, hz0, hz1, HZ⟩ := hrel
      by_cases hlt : k < i
      · have hzs : z + ((t : Int) - k + 1) = nd2 t (k + 1) := by rw [HZ.out]; rfl
        have hzb : -1 ≤ z + ((t : Int) - k + 1) ∧ z + ((t : Int) - k + 1) ≤ 100 := by rw [hzs]; exact nd2_bd t (by omega) (k + 1) (by omega) (by omega)
        have HZ2 : Hid (z + ((t : Int) - k + 1) = nd2 t (k + 1)) := hzs
        clear hzs
        go_wp2
        go_round
        case rel => exact ⟨k + 1, by omega, by go_num, _, rfl, hzb.1, hzb.2, HZ2⟩
        case measure => simp [intOf]; omega
      · have hkl : i = k := by omega
        subst hkl
        have hpb := pos_bd t (by omega) j (by omega) i (by omega) (by omega)
        rw [← HZ.out] at hpb
        have hpb1 := hpb.1
        have hpb2 := hpb.2
        by_cases hneg : z + ((j : Int) - i) < 0
        · have HA : Hid (A2 s ds t i j = nm s) := by
            unfold Hid
            rw [HAE.out, ← HZ.out]; unfold dn; rw [if_pos hneg]
          go_wp2_with (go_at_call 41; refine (rNorm _ _ hs0 hs1).mono ?_; rintro e w' ⟨rfl, hw⟩; have hw := hw.symm; subst hw)
          go_ret
          rw [HA.out]
          exact ⟨rfl, rfl⟩
        · obtain ⟨q, hq⟩ : ∃ q : Nat, z + ((j : Int) - i) = q := ⟨(z + ((j : Int) - i)).toNat, by omega⟩
          have hqn : q < n := by rw [hn]; omega
          obtain ⟨b, o, y, rfl, hbb, HY, hy0, hy1, hcy⟩ := h.one hqn
          have HA : Hid (A2 s ds t i j = nm y) := by
            unfold Hid
            rw [HAE.out, ← HZ.out]; unfold dn; rw [if_neg hneg, hq, ← HY.out]; rfl
          have hq0 : (0 : Int) ≤ (q : Int) := by omega
          have hqi : (q : Int) < (n : Int) := by omega
          go_wp2_with (go_at_call 41; refine (rNorm _ _ hy0 hy1).mono ?_; rintro e w' ⟨rfl, hw⟩; have hw := hw.symm; subst hw)
          go_ret
          rw [HA.out]
          exact ⟨rfl, rfl⟩
  · have HAE : Hid (A2 s ds t i j = nm (dn s ds (nd2 t j + ((i : Int) - j)))) := by unfold Hid A2; rw [if_neg hij]
    have hji : (j : Int) < (i : Int) := by omega
    go_enter Try.func48, Try.ntmps48
    go_wp2
    go_loop [11, 12] (fun v q => ∃ k : Nat, k ≤ j ∧ q = .int .i64 k ∧ ∃ z : Int, v = .int .i64 z ∧ -1 ≤ z ∧ z ≤ 100 ∧ Hid (z = nd2 t k)) (fun _ q => j - (intOf q).toNat)
    case atStart => exact ⟨0, Nat.zero_le _, rfl, -1, rfl, by omega, by omega, rfl⟩
    case round =>
      obtain ⟨k, hk, rfl, z, rfl, hz0, hz1, HZ⟩ := hrel
      by_cases hlt : k < j
      · have hzs : z + ((t : Int) - k + 1) = nd2 t (k + 1) := by rw [HZ.out]; rfl
        have hzb : -1 ≤ z + ((t : Int) - k + 1) ∧ z + ((t : Int) - k + 1) ≤ 100 := by rw [hzs]; exact nd2_bd t (by omega) (k + 1) (by omega) (by omega)
        have HZ2 : Hid (z + ((t : Int) - k + 1) = nd2 t (k + 1)) := hzs
        clear hzs
        go_wp2
        go_round
        case rel => exact ⟨k + 1, by omega, by go_num, _, rfl, hzb.1, hzb.2, HZ2⟩
        case measure => simp [intOf]; omega
      · have hkl : j = k := by omega
        subst hkl
        have hpb := pos_bd t (by omega) i (by omega) j (by omega) (by omega)
        rw [← HZ.out] at hpb
        have hpb1 := hpb.1
        have hpb2 := hpb.2
        by_cases hneg : z + ((i : Int) - j) < 0
        · have HA : Hid (A2 s ds t i j = nm s) := by
            unfold Hid
            rw [HAE.out, ← HZ.out]; unfold dn; rw [if_pos hneg]
          go_wp2_with (go_at_call 41; refine (rNorm _ _ hs0 hs1).mono ?_; rintro e w' ⟨rfl, hw⟩; have hw := hw.symm; subst hw)
          go_ret
          rw [HA.out]
          exact ⟨rfl, rfl⟩
        · obtain ⟨q, hq⟩ : ∃ q : Nat, z + ((i : Int) - j) = q := ⟨(z + ((i : Int) - j)).toNat, by omega⟩
          have hqn : q < n := by rw [hn]; omega
          obtain ⟨b, o, y, rfl, hbb, HY, hy0, hy1, hcy⟩ := h.one hqn
          have HA : Hid (A2 s ds t i j = nm y) := by
            unfold Hid
            rw [HAE.out, ← HZ.out]; unfold dn; rw [if_neg hneg, hq, ← HY.out]; rfl
          have hq0 : (0 : Int) ≤ (q : Int) := by omega
          have hqi : (q : Int) < (n : Int) := by omega
          go_wp2_with (go_at_call 41; refine (rNorm _ _ hy0 hy1).mono ?_; rintro e w' ⟨rfl, hw⟩; have hw := hw.symm; subst hw)
          go_ret
          rw [HA.out]
          exact ⟨rfl, rfl⟩
/-- A slice of ints that is read. -/
structure RdI (w : World) (a : Option Addr) (n c : Nat) (xs : List Int) : Prop where
  len : xs.length = n
  cap : n ≤ c
  max : c ≤ maxLen
  bd : ∀ x ∈ xs, -9223372036854775808 ≤ x ∧ x ≤ 9223372036854775807
  nil : a = none → c = 0
  cell : ∀ x, a = some x → ∀ i, i < n → w.cell? (x.add i) = some (.int .i64 (xs.getD i 0))
theorem RdI.one {w : World} {a : Option Addr} {n c : Nat} {xs : List Int} (h : RdI w a n c xs) {k : Nat} (hk : k < n) :
    ∃ b o x, a = some ⟨b, o, none⟩ ∧ b < w.heap.size ∧ Hid (xs.getD k 0 = x) ∧ -9223372036854775808 ≤ x ∧ x ≤ 9223372036854775807 ∧ w.cell? ⟨b, o + k, none⟩ = some (.int .i64 x) := by
  cases ha : a with
  | none => have := h.nil ha; have := h.cap; omega
  | some x =>
    have h0 := h.cell x ha k hk
    have hs : x.spot = none := by
      have := spot_none (h.cell x ha 0 (by omega))
      unfold Addr.add at this
      split at this <;> simp_all
    obtain ⟨b, o, s⟩ := x
    simp only at hs
    subst hs
    rw [Addr.add_lit] at h0
    have hb := h.bd (xs.getD k 0) (getD_mem (by rw [h.len]; exact hk))
    exact ⟨b, o, _, rfl, World.block_lt_of_cell? w _ h0, rfl, hb.1, hb.2, h0⟩
theorem RdI.below {w w' : World} {a : Option Addr} {n c : Nat} {xs : List Int} (h : RdI w a n c xs) (hb : Below w.heap.size w w') : RdI w' a n c xs := by
  refine ⟨h.len, h.cap, h.max, h.bd, h.nil, fun x hx i hi => ?_⟩
  have := h.cell x hx i hi
  rw [hb.cell (World.block_lt_of_cell? w _ this)]
  exact this
theorem RdI.drewN {w : World} {a : Option Addr} {n c : Nat} {xs : List Int} (h : RdI w a n c xs) (q : Nat) : RdI (w.drewN q) a n c xs := ⟨h.len, h.cap, h.max, h.bd, h.nil, h.cell⟩
theorem RdI.take {w : World} {a : Option Addr} {n c : Nat} {xs : List Int} (h : RdI w a n c xs) {k : Nat} (hk : k ≤ n) : RdI w a k c (xs.take k) := by
  refine ⟨by have := h.len; simp; omega, by have := h.cap; omega, h.max, fun x hx => h.bd x (List.mem_of_mem_take hx), h.nil, fun x hx i hi => ?_⟩
  rw [h.cell x hx i (by omega)]
  congr 2
  simp [hi]

/-- The cells of shares. -/
def shc (l : List (Int × Int)) : List Value := l.flatMap fun p => [.int .i64 p.1, .int .u64 p.2]
theorem shc_get : ∀ (l : List (Int × Int)) (i : Nat), i < l.length → (shc l)[i * 2]? = some (.int .i64 (l.getD i (0, 0)).1) ∧ (shc l)[i * 2 + 1]? = some (.int .u64 (l.getD i (0, 0)).2)
  | [], i, h => by simp at h
  | p :: l, 0, _ => ⟨rfl, rfl⟩
  | p :: l, i + 1, h => by
    have := shc_get l i (by simpa using h)
    have e1 : (i + 1) * 2 = i * 2 + 1 + 1 := by omega
    rw [e1]
    exact this

theorem RdS.own {w : World} {base n : Nat} {E : TypeId} {v : Value} {l : List (Int × Int)} (h : w.ownsRow base E 2 v n (shc l)) (hl : l.length = n)
    (hb : ∀ i, i < n → (-9223372036854775808 ≤ (l.getD i (0, 0)).1 ∧ (l.getD i (0, 0)).1 ≤ 9223372036854775807) ∧ 0 ≤ (l.getD i (0, 0)).2 ∧ (l.getD i (0, 0)).2 ≤ 18446744073709551615) : ∃ a c, v = .slice a n c ∧ RdS w a n c l := by
  rcases h.2 with ⟨rfl, rfl⟩ | ⟨g, cap, cur, rfl, hb', hg, h1, h2, hs, ht⟩
  · exact ⟨none, 0, rfl, ⟨hl, Nat.le_refl _, Nat.zero_le _, hb, fun _ => rfl, by simp⟩⟩
  · refine ⟨_, _, rfl, ⟨hl, h1, h2, hb, by simp, fun x hx i hi => ?_⟩⟩
    obtain rfl := Option.some.inj hx
    have := shc_get l i (by omega)
    exact ⟨h.cells (g := g) rfl _ _ this.1, h.cells (g := g) rfl _ _ this.2⟩

theorem own_below2 {w w' : World} {base n : Nat} {E : TypeId} {v : Value} {xs : List Value} (h : w.ownsRow base E 2 v n xs) (hb : Below w.heap.size w w') : w'.ownsRow base E 2 v n xs :=
  h.kept (grown_below hb none) (by cases hv : v.ownBlock <;> simp)

/-- What append has gathered reads as the ints that it gathered. -/
theorem RdI.own {w : World} {base n : Nat} {E : TypeId} {v : Value} {L : List Int} (h : w.ownsRow base E 1 v n (zns L)) (hb : ∀ x ∈ L, -9223372036854775808 ≤ x ∧ x ≤ 9223372036854775807) : ∃ a c, v = .slice a n c ∧ RdI w a n c L := by
  have hl : L.length = n := by have := h.1; rw [zns_len] at this; omega
  rcases h.2 with ⟨rfl, rfl⟩ | ⟨g, cap, cur, rfl, hb', hg, h1, h2, hs, ht⟩
  · exact ⟨none, 0, rfl, ⟨hl, Nat.le_refl _, Nat.zero_le _, hb, fun _ => rfl, by simp⟩⟩
  · refine ⟨_, _, rfl, ⟨hl, h1, h2, hb, by simp, fun x hx i hi => ?_⟩⟩
    obtain rfl := Option.some.inj hx
    rw [Addr.add_lit, Nat.zero_add]
    exact zns_at h hi
/-- Two such lists, apart. -/
structure Two (w : World) (B : Nat) (E : TypeId) (v1 v2 : Value) (l1 l2 : List (Int × Int)) : Prop where
  o1 : w.ownsRow B E 2 v1 l1.length (shc l1)
  o2 : w.ownsRow B E 2 v2 l2.length (shc l2)
  ne : ∀ g, v1.ownBlock = some g → v2.ownBlock ≠ some g
theorem Two.add {w w' : World} {B : Nat} {E : TypeId} {v1 v2 v' : Value} {l1 l2 : List (Int × Int)} {p : Int × Int} (h : Two w B E v1 v2 l1 l2) (ho : w'.ownsRow B E 2 v' (l1.length + 1) (shc (l1 ++ [p]))) (hg : w.grownBy w' v1.ownBlock) (hat : v'.ownBlock = v1.ownBlock ∨ ∃ k, v'.ownBlock = some k ∧ w.heap.size ≤ k) : Two w' B E v' v2 (l1 ++ [p]) l2 := by
  refine ⟨by rw [List.length_append, List.length_singleton]; exact ho, h.o2.kept hg ?_, fun g h1 h2 => ?_⟩
  · cases hv : v1.ownBlock with
    | none => cases hv2 : v2.ownBlock <;> simp
    | some g => exact .inr (h.ne g hv)
  · rcases hat with hat | ⟨k, hk, hle⟩
    · exact h.ne g (by rw [← hat]; exact h1) h2
    · have h3 := (h.o2.lt g h2).2
      rw [hk] at h1
      have := Option.some.inj h1
      omega
theorem Two.below {w w' : World} {B : Nat} {E : TypeId} {v1 v2 : Value} {l1 l2 : List (Int × Int)} (h : Two w B E v1 v2 l1 l2) (hb : Below w.heap.size w w') : Two w' B E v1 v2 l1 l2 := ⟨own_below2 h.o1 hb, own_below2 h.o2 hb, h.ne⟩

/-- Lists of other elements lie elsewhere. -/
theorem own_apart {w : World} {B1 B2 n1 n2 z1 z2 : Nat} {E1 E2 : TypeId} {v1 v2 : Value} {xs ys : List Value} (h1 : w.ownsRow B1 E1 z1 v1 n1 xs) (h2 : w.ownsRow B2 E2 z2 v2 n2 ys) (hE : E1 ≠ E2) : v2.ownBlock = none ∨ v2.ownBlock ≠ v1.ownBlock := by
  rcases h2.2 with ⟨rfl, _⟩ | ⟨g, cap, cur, rfl, _, hg, _⟩
  · exact .inl rfl
  · right
    rcases h1.2 with ⟨rfl, _⟩ | ⟨g', cap', cur', rfl, _, hg', _⟩
    · simp [Value.ownBlock]
    · intro e
      simp [Value.ownBlock] at e
      subst e
      rw [hg] at hg'
      simp only [Option.some.injEq, Obj.cells.injEq] at hg'
      exact hE hg'.2.1.symm
/-- A slice of two-cell elements that the call itself gathers, and one more, with what it leaves alone. -/
theorem wpList_app2 {P : Program} {T E : TypeId} {z : Value} {by_ : Nat} (hT : P.underlying T = some (.slice E)) (info : (P.info? E).map (fun i => (i.zero, i.size, i.bytes)) = some (some z, 2, by_)) (hz : z.cells.size = 2) (hby : by_ ≤ 100)
    (w : World) {ops : Array Oper} {rest : List Oper} {o : Oper} {a : Act} {Q : Exit → Act → World → Prop} (hgd : o.guard = none) (s x : Operand)
    (ho : o.op = .call { callee := .builtin .append, args := #[s, x], argTypes := #[T, T] })
    (base : Nat) (v : Value) (n : Nat) (xs : List Value) (hs : a.eval s = v) (hown : w.ownsRow base E 2 v n xs) (p q : Value) (hp : p.oneCell' = true) (hq : q.oneCell' = true) (hx : a.eval x = .slice (some ⟨w.heap.size, 0, none⟩) 1 1)
    (hn : n ≤ 1000000) (hbase : base ≤ w.heap.size)
    (h : ∀ v' w', w'.ownsRow base E 2 v' (n + 1) (xs ++ [p, q]) → w.grownBy w' v.ownBlock → (v'.ownBlock = v.ownBlock ∨ ∃ k, v'.ownBlock = some k ∧ w.heap.size ≤ k) → wpList P ops Q rest (a.put o.dst v') w') : wpList P ops Q (o :: rest) a (w.alloc (.cells #[p, q] E)) := by
  obtain ⟨i0, hi, hz0, hz1, hz2⟩ := info_parts info
  refine wpList_append_own_at _ hgd s x T ho base E i0 z 2 by_ hT hi hz0 hz1 hz2 hz (by decide) v n _ hs (hown.alloc _) ⟨w.heap.size, 0, none⟩ 1 1 [p, q] hx rfl ?_ ?_ (by unfold maxLen; omega) ?_ (by simp; omega) ?_
  · intro j u hj
    match j, hj with
    | 0, hj => simp at hj; subst hj; rw [Addr.add_lit]; exact cell_alloc0 _ _ _ _
    | 1, hj => simp at hj; subst hj; rw [Addr.add_lit]; exact cell_alloc1 _ _ _ _
  · intro u hu; simp at hu; rcases hu with rfl | rfl <;> assumption
  · have : (n + 1) * by_ ≤ 1000001 * 100 := Nat.mul_le_mul (by omega) hby
    omega
  · intro v' w' hown' hgrow _ hat
    refine h v' w' hown' ⟨hgrow.os, hgrow.tape, hgrow.output, ?_, fun k hk hne => ?_⟩ ?_
    · have := hgrow.size; simp at this; omega
    · rw [hgrow.block k (by simp; omega) hne]; exact Below.heap_alloc _ _ _ hk
    · rcases hat with hat | hat
      · exact .inl hat
      · exact .inr ⟨_, hat, by simp⟩

/-- The cells of rows. -/
def pvc (l : List (Int × Value)) : List Value := l.flatMap fun p => [.int .i64 p.1, p.2]
theorem pvc_snoc (l : List (Int × Value)) (x : Int) (v : Value) : pvc (l ++ [(x, v)]) = pvc l ++ [.int .i64 x, v] := by simp [pvc]
theorem pvc_get : ∀ (l : List (Int × Value)) (i : Nat), i < l.length → (pvc l)[i * 2]? = some (.int .i64 (l.getD i (0, .slice none 0 0)).1) ∧ (pvc l)[i * 2 + 1]? = some (l.getD i (0, .slice none 0 0)).2
  | [], i, h => by simp at h
  | p :: l, 0, _ => ⟨rfl, rfl⟩
  | p :: l, i + 1, h => by
    have := pvc_get l i (by simpa using h)
    have e1 : (i + 1) * 2 = i * 2 + 1 + 1 := by omega
    rw [e1]
    exact this

/-- A list of rows that the call gathers, each row the call's own. -/
structure LsW (w : World) (B : Nat) (v : Value) (L : List (Int × Value)) (l : List (Int × List Int)) : Prop where
  own : w.ownsRow B 83 2 v l.length (pvc L)
  len : L.length = l.length
  at_ : ∀ i, i < l.length → (L.getD i (0, .slice none 0 0)).1 = ta l i
  row : ∀ i, i < l.length → w.ownsRow B 28 1 (L.getD i (0, .slice none 0 0)).2 (tc l i).length ((tc l i).map (Value.int .u64))
  inj : ∀ i j, i < j → j < l.length → (L.getD i (0, .slice none 0 0)).2.ownBlock = none ∨ (L.getD i (0, .slice none 0 0)).2.ownBlock ≠ (L.getD j (0, .slice none 0 0)).2.ownBlock
theorem lsw_nil (w : World) (B : Nat) : LsW w B (.slice none 0 0) [] [] := ⟨World.ownsRow_nil _ _ _ _, rfl, fun i hi => by simp at hi, fun i hi => by simp at hi, fun i j _ hj => by simp at hj⟩
theorem LsW.below {w w' : World} {B : Nat} {v : Value} {L : List (Int × Value)} {l : List (Int × List Int)} (h : LsW w B v L l) (hb : Below w.heap.size w w') : LsW w' B v L l :=
  ⟨own_below2 h.own hb, h.len, h.at_, fun i hi => own_below (h.row i hi) hb, h.inj⟩
/-- Rows, when another list of numbers grows. -/
theorem LsW.grown {w w' : World} {B : Nat} {v : Value} {L : List (Int × Value)} {l : List (Int × List Int)} {r : Option Nat} (h : LsW w B v L l) (hg : w.grownBy w' r) (h1 : v.ownBlock = none ∨ v.ownBlock ≠ r) (h2 : ∀ i, i < l.length → (L.getD i (0, .slice none 0 0)).2.ownBlock = none ∨ (L.getD i (0, .slice none 0 0)).2.ownBlock ≠ r) : LsW w' B v L l :=
  ⟨h.own.kept hg h1, h.len, h.at_, fun i hi => (h.row i hi).kept hg (h2 i hi), h.inj⟩
/-- One row more. -/
theorem LsW.add {w w' : World} {B : Nat} {v v' u : Value} {L : List (Int × Value)} {l : List (Int × List Int)} {x : Int} {row : List Int} (h : LsW w B v L l) (hr : w.ownsRow B 28 1 u row.length (row.map (Value.int .u64)))
    (hnew : ∀ i, i < l.length → (L.getD i (0, .slice none 0 0)).2.ownBlock = none ∨ (L.getD i (0, .slice none 0 0)).2.ownBlock ≠ u.ownBlock)
    (ho : w'.ownsRow B 83 2 v' (l.length + 1) (pvc L ++ [.int .i64 x, u])) (hg : w.grownBy w' v.ownBlock) : LsW w' B v' (L ++ [(x, u)]) (l ++ [(x, row)]) := by
  have hl := h.len
  have gl : ∀ i, i < l.length → (l ++ [(x, row)]).getD i (0, []) = l.getD i (0, []) := fun i hi => by simp [List.getElem?_append_left hi]
  have gL : ∀ i, i < l.length → (L ++ [(x, u)]).getD i (0, .slice none 0 0) = L.getD i (0, .slice none 0 0) := fun i hi => by simp [List.getElem?_append_left (show i < L.length by omega)]
  have gl' : (l ++ [(x, row)]).getD l.length (0, []) = (x, row) := by simp
  have gL' : (L ++ [(x, u)]).getD l.length (0, .slice none 0 0) = (x, u) := by rw [← hl]; simp
  have hE : (83 : TypeId) ≠ 28 := by decide
  refine ⟨by rw [pvc_snoc]; simpa using ho, by simp [hl], fun i hi => ?_, fun i hi => ?_, fun i j hij hj => ?_⟩
  · have hi2 : i < l.length + 1 := by simpa using hi
    unfold ta
    by_cases e : i = l.length
    · subst e; rw [gl', gL']
    · rw [gl i (by omega), gL i (by omega)]; exact h.at_ i (by omega)
  · have hi2 : i < l.length + 1 := by simpa using hi
    unfold tc
    by_cases e : i = l.length
    · subst e; rw [gl', gL']; exact hr.kept hg (own_apart h.own hr hE)
    · rw [gl i (by omega), gL i (by omega)]; exact (h.row i (by omega)).kept hg (own_apart h.own (h.row i (by omega)) hE)
  · have hj2 : j < l.length + 1 := by simpa using hj
    by_cases e : j = l.length
    · subst e; rw [gL', gL i hij]; exact hnew i hij
    · rw [gL i (by omega), gL j (by omega)]; exact h.inj i j hij (by omega)
/-- What is made later lies elsewhere. -/
theorem LsW.new {w w' : World} {B : Nat} {v u : Value} {L : List (Int × Value)} {l : List (Int × List Int)} {E : TypeId} {n z B2 : Nat} {xs : List Value} (h : LsW w B v L l) (hB : w.heap.size ≤ B2) (hu : w'.ownsRow B2 E z u n xs) : ∀ i, i < l.length → (L.getD i (0, .slice none 0 0)).2.ownBlock = none ∨ (L.getD i (0, .slice none 0 0)).2.ownBlock ≠ u.ownBlock := fun i hi => by
  cases hv : (L.getD i (0, .slice none 0 0)).2.ownBlock with
  | none => exact .inl rfl
  | some g =>
    right
    intro e
    have h1 := ((h.row i hi).lt g hv).2
    have h2 := (hu.lt g e.symm).1
    omega
/-- It reads as its rows. -/
theorem LsW.rdW {w : World} {B : Nat} {v : Value} {L : List (Int × Value)} {l : List (Int × List Int)} {n : Nat} (h : LsW w B v L l) (hn : l.length = n) (hb : ∀ i, i < n → -9223372036854775808 ≤ ta l i ∧ ta l i ≤ 9223372036854775807) (hc : ∀ i, i < n → ∀ x ∈ tc l i, 0 ≤ x ∧ x ≤ 18446744073709551615) : ∃ a c, v = .slice a n c ∧ RdW w a n c l := by
  subst hn
  rcases h.own.2 with ⟨rfl, e0⟩ | ⟨g, cap, cur, rfl, hb', hg, h1, h2, hs, ht⟩
  · exact ⟨none, 0, by rw [e0], rfl, by omega, Nat.zero_le _, fun _ => rfl, hb, by simp⟩
  · refine ⟨_, _, rfl, rfl, h1, h2, by simp, hb, fun x hx i hi => ?_⟩
    obtain rfl := Option.some.inj hx
    have hl := h.len
    have hp := pvc_get L i (by omega)
    have e0 := h.own.cells (g := g) rfl _ _ hp.1
    have e1 := h.own.cells (g := g) rfl _ _ hp.2
    obtain ⟨ai, ci, ev, hr, _⟩ := Rd.own (h.row i hi) (hc i hi)
    rw [h.at_ i hi] at e0
    rw [ev] at e1
    exact ⟨e0, ai, ci, e1, hr⟩
theorem infoRow : (Try.prog.info? 83).map (fun i => (i.zero, i.size, i.bytes)) = some (some (.agg #[.int .i64 0, .slice none 0 0]), 2, 32) := by kernel_rfl

/-- A row that is being filled: its box. -/
def Box (w : World) (g : Nat) (x : Int) (v : Value) : Prop := w.heap[g]? = some (.cells #[.int .i64 x, v] 83 (0, 0))
theorem Box.lt {w : World} {g : Nat} {x : Int} {v : Value} (h : Box w g x v) : g < w.heap.size := (Array.getElem?_eq_some_iff.1 h).1
theorem Box.cells {w : World} {g : Nat} {x : Int} {v : Value} (h : Box w g x v) : w.cell? ⟨g, 0, none⟩ = some (.int .i64 x) ∧ w.cell? ⟨g, 1, none⟩ = some v := by
  unfold Box at h
  rw [cell_of_row w g 0 _ _ (0, 0) h, cell_of_row w g 1 _ _ (0, 0) h]
  exact ⟨rfl, rfl⟩
theorem Box.frozen {w : World} {g : Nat} {x : Int} {v : Value} (h : Box w g x v) (i : Nat) : w.frozen? ⟨g, i, none⟩ = false := frozen_of_row w g i _ _ h
theorem Box.set {w : World} {g : Nat} {x : Int} {v : Value} (h : Box w g x v) (u : Value) : Box (w.setCell ⟨g, 1, none⟩ u) g x u := by
  have := heap_setCell_same w g 1 _ _ u h
  unfold Box
  rw [this]
  rfl
theorem Box.kept {w w' : World} {g : Nat} {x : Int} {v : Value} {r : Option Nat} (h : Box w g x v) (hg : w.grownBy w' r) (hr : r ≠ some g) : Box w' g x v := by
  unfold Box; rw [hg.block g h.lt (fun e => hr e.symm)]; exact h
/-- A row of other elements lies elsewhere. -/
theorem Box.apart {w : World} {g n z B : Nat} {x : Int} {v u : Value} {E : TypeId} {xs : List Value} (h : Box w g x v) (ho : w.ownsRow B E z u n xs) (hE : E ≠ 83) : u.ownBlock ≠ some g := by
  rcases ho.2 with ⟨rfl, _⟩ | ⟨g', cap, cur, rfl, _, hg, _⟩
  · simp [Value.ownBlock]
  · intro e
    simp [Value.ownBlock] at e
    subst e
    unfold Box at h
    rw [hg] at h
    simp only [Option.some.injEq, Obj.cells.injEq] at h
    exact hE h.2.1
theorem Box.new (w : World) (x : Int) (v : Value) : Box (w.alloc (.cells #[.int .i64 x, v] 83)) w.heap.size x v := heap_alloc_new w _
theorem infoR28 : (Try.prog.info? 28).map (fun i => (i.zero, i.size, i.bytes)) = some (some (.int .u64 0), 1, 8) := by kernel_rfl

theorem evstep (xs : List Int) (x : Int) {k : Nat} {y q z : Int} (h : k < xs.length) (hy : y = nm (ev (xs.take k) x)) (hq : q = pw x k) (hz : xs.getD k 0 = z) : nm (y + nm (z * q)) = nm (ev (xs.take (k + 1)) x) := by
  rw [ev_take xs x h, hz, hy, hq, nm_addl, nm_addr]
  exact nm_add_congr rfl (by unfold pw; rw [nm_mulr])
theorem own_base {w : World} {B B' n : Nat} {E : TypeId} {v : Value} {xs : List Value} (h : w.ownsRow B E 1 v n xs) (hB : B' ≤ B) : w.ownsRow B' E 1 v n xs := by
  rcases h.2 with h' | ⟨g, cap, cur, e1, e2, e3⟩
  · exact ⟨h.1, Or.inl h'⟩
  · exact ⟨h.1, Or.inr ⟨g, cap, cur, e1, by omega, e3⟩⟩
/-- Column j of F: a polynomial in x. -/
def colA (s : Int) (ds : List Int) (t j : Nat) : List Int := (List.range (t + 1)).map fun i => A2 s ds t i j
theorem colA_len (s : Int) (ds : List Int) (t j : Nat) : (colA s ds t j).length = t + 1 := by simp [colA]
theorem colA_getD (s : Int) (ds : List Int) (t j : Nat) {i : Nat} (h : i ≤ t) : (colA s ds t j).getD i 0 = A2 s ds t i j := by simp [colA, show i < t + 1 by omega]
/-- The first k numbers of the row of the party x. -/
def rowK (s : Int) (ds : List Int) (t : Nat) (x : Int) (k : Nat) : List Int := (List.range k).map fun j => nm (ev (colA s ds t j) x)
theorem rowK_len (s : Int) (ds : List Int) (t : Nat) (x : Int) (k : Nat) : (rowK s ds t x k).length = k := by simp [rowK]
theorem rowK_snoc (s : Int) (ds : List Int) (t : Nat) (x : Int) (k : Nat) : rowK s ds t x k ++ [nm (ev (colA s ds t k) x)] = rowK s ds t x (k + 1) := by simp [rowK, List.range_succ]
theorem rowK_bd (s : Int) (ds : List Int) (t : Nat) (x : Int) (k : Nat) : ∀ z ∈ rowK s ds t x k, 0 ≤ z ∧ z ≤ 2147483646 := by
  intro z hz
  obtain ⟨i, _, rfl⟩ := List.mem_map.1 hz
  exact nm_bd _
/-- The rows of the first k parties. -/
def dealA (s : Int) (ds : List Int) (t k : Nat) : List (Int × List Int) := (List.range k).map fun r : Nat => ((r : Int) + 1, rowK s ds t ((r : Int) + 1) (t + 1))
theorem dealA_len (s : Int) (ds : List Int) (t k : Nat) : (dealA s ds t k).length = k := by simp [dealA]
theorem dealA_snoc (s : Int) (ds : List Int) (t k : Nat) : dealA s ds t k ++ [((k : Int) + 1, rowK s ds t ((k : Int) + 1) (t + 1))] = dealA s ds t (k + 1) := by simp [dealA, List.range_succ]
theorem dealA_getD (s : Int) (ds : List Int) (t : Nat) {k r : Nat} (h : r < k) : (dealA s ds t k).getD r (0, []) = ((r : Int) + 1, rowK s ds t ((r : Int) + 1) (t + 1)) := by simp [dealA, h]

theorem rTwoDeal (s : Int) (a : Option Addr) (n c : Nat) (ds : List Int) (t m : Nat) (w : World) (h : Rd w a n c ds) (hs0 : 0 ≤ s) (hs1 : s ≤ 18446744073709551615) (ht : t ≤ 4) (hn : n = (t + 1) * (t + 2) / 2 - 1) (hm : m ≤ 9) :
    Calls Try.prog 19 #[.int .u64 s, .int .i64 t, .slice a n c, .int .i64 m] w fun e w' => ∃ v L, e = .returned v ∧ LsW w' w.heap.size v L (dealA s ds t m) ∧ Below w.heap.size w w' := by
  have HNn : Hid (n = (t + 1) * (t + 2) / 2 - 1) := hn
  clear hn
  go_enter Try.func19, Try.ntmps19
  go_wp2
  go_loopw [9, 10] (fun v i wr => ∃ (k : Nat) (L : List (Int × Value)), k ≤ m ∧ i = .int .i64 ((k : Int) + 1) ∧ LsW wr w.heap.size v L (dealA s ds t k) ∧ Below w.heap.size w wr) (fun _ i _ => m + 1 - (intOf i).toNat)
  case atStart => exact ⟨0, [], Nat.zero_le _, rfl, lsw_nil _ _, Below.refl _ _⟩
  case round =>
    obtain ⟨k, L, hk, rfl, hL, hbel⟩ := hrel
    obtain ⟨wo, hwo⟩ : ∃ wo, wo = wr := ⟨_, rfl⟩
    subst hwo
    have hs1' := hbel.size
    by_cases hlt : k < m
    · have hkd : (k : Int) + 1 ≤ (m : Int) := by omega
      have hbA : Below wo.heap.size wo (wo.alloc (.cells #[.int .i64 ((k : Int) + 1), .slice none 0 0] 83)) := (Below.refl _ _).alloc (Nat.le_refl _) _
      have hbox := Box.new wo ((k : Int) + 1) (.slice none 0 0)
      go_wp2
      generalize wo.alloc (.cells #[.int .i64 ((k : Int) + 1), .slice none 0 0] 83) = wA at *
      go_loopw [12] (fun i wr => ∃ (j : Nat) (u : Value), j ≤ t + 1 ∧ i = .int .i64 j ∧ Box wr wo.heap.size ((k : Int) + 1) u ∧ wr.ownsRow wo.heap.size 28 1 u j ((rowK s ds t ((k : Int) + 1) j).map (Value.int .u64)) ∧ Below wo.heap.size wo wr) (fun i _ => t + 1 - (intOf i).toNat)
      case atStart => exact ⟨0, _, Nat.zero_le _, rfl, hbox, World.ownsRow_nil _ _ _ _, hbA⟩
      case round =>
        clear hbox hbA
        obtain ⟨j, u, hj, rfl, hbox, hown, hb2⟩ := hrel
        have hs2 := hb2.size
        have hbw := hbel.trans (hb2.mono hs1')
        by_cases hjt : j < t + 1
        · have hjd : j ≤ t := by omega
          have hrd := h.below hbw
          obtain ⟨C, HC⟩ : ∃ C, Hid (colA s ds t j = C) := ⟨_, rfl⟩
          have HCl : Hid (C.length = t + 1) := by unfold Hid; rw [← HC.out]; exact colA_len _ _ _ _
          go_wp2
          go_loop [13, 14] (fun v q => ∃ (i : Nat) (y : Int), i ≤ t + 1 ∧ q = .int .i64 i ∧ v = .int .u64 y ∧ 0 ≤ y ∧ y ≤ 2147483646 ∧ Hid (y = nm (ev (C.take i) ((k : Int) + 1)))) (fun _ q => t + 1 - (intOf q).toNat)
          case atStart => exact ⟨0, 0, Nat.zero_le _, rfl, rfl, by omega, by omega, rfl⟩
          case round =>
            obtain ⟨i, y, hi, rfl, rfl, hy0, hy1, HY⟩ := hrel
            by_cases hit : i < t + 1
            · have hA := A2_bd s ds t i j
              have hpw := pw_bd ((k : Int) + 1) i
              have hmul := nm_bd (A2 s ds t i j * pw ((k : Int) + 1) i)
              have hzz : C.getD i 0 = A2 s ds t i j := by rw [← HC.out]; exact colA_getD s ds t j (by omega)
              have hci : i < C.length := by rw [HCl.out]; exact hit
              have hy2 := evstep C ((k : Int) + 1) (y := y) (q := pw ((k : Int) + 1) i) (z := A2 s ds t i j) hci HY.out rfl hzz
              have HY2 : Hid (nm (y + nm (A2 s ds t i j * pw ((k : Int) + 1) i)) = nm (ev (C.take (i + 1)) ((k : Int) + 1))) := hy2
              clear hzz hci hy2
              go_wp2_with (first | (go_at_call 48; refine (rNumber s _ _ _ ds t i j _ hrd hs0 hs1 ht HNn.out (by omega) (by omega)).mono ?_; rintro e w' ⟨rfl, hw⟩; have hw := hw.symm; subst hw) | (go_at_call 49; refine (rPow _ _ _ (by omega) (by omega) (by omega) (by omega)).mono ?_; rintro e w' ⟨rfl, hw⟩; have hw := hw.symm; subst hw) | (go_at_call 47; refine (rMul _ _ _ (by omega) (by omega) (by omega) (by omega)).mono ?_; rintro e w' ⟨rfl, hw⟩; have hw := hw.symm; subst hw) | (go_at_call 46; refine (rAdd _ _ _ (by omega) (by omega) (by omega) (by omega)).mono ?_; rintro e w' ⟨rfl, hw⟩; have hw := hw.symm; subst hw))
              go_round
              case rel => exact ⟨i + 1, _, by omega, by go_num, rfl, (nm_bd _).1, (nm_bd _).2, HY2⟩
              case measure => simp [intOf]; omega
            · have hit2 : i = t + 1 := by omega
              subst hit2
              have HV : Hid (y = nm (ev (colA s ds t j) ((k : Int) + 1))) := by
                unfold Hid
                rw [HC.out]
                have := HY.out
                rwa [List.take_of_length_le (by rw [HCl.out]; exact Nat.le_refl _)] at this
              have HRK : Hid ((rowK s ds t ((k : Int) + 1) j).map (Value.int .u64) ++ [.int .u64 y] = (rowK s ds t ((k : Int) + 1) (j + 1)).map (Value.int .u64)) := by
                unfold Hid
                rw [← rowK_snoc, List.map_append, HV.out]; rfl
              obtain ⟨d0, d1⟩ := hbox.cells
              have hap := hbox.apart hown (by decide)
              obtain ⟨ua, uc, rfl, huc⟩ := own_slice hown
              have HAP : Hid (_ ≠ _) := hap
              have Hbox : Hid (Box wr wo.heap.size ((k : Int) + 1) (.slice ua j uc)) := hbox
              clear hap hbox
              go_wp2_with (at_builtin; refine wpList_appV Try.underlying23 infoR28 rfl (by omega) _ rfl _ _ rfl wo.heap.size _ _ _ rfl hown (.int .u64 y) rfl rfl (by omega) hs2 ?_; intro v7 w7 hown7 hgr7 _; rw [HRK.out] at hown7; obtain ⟨a7, c7, rfl, _⟩ := own_slice hown7; have hbox7 := Hbox.out.kept hgr7 HAP.out; have hb7 := hb2.grown hgr7 hs2 (fun q hq => (hown.lt q hq).1); obtain ⟨e0, e1⟩ := hbox7.cells; have ef := hbox7.frozen 1; have Hbox8 : Hid (Box (w7.setCell ⟨wo.heap.size, 1, none⟩ (.slice a7 (j + 1) c7)) wo.heap.size ((k : Int) + 1) (.slice a7 (j + 1) c7)) := hbox7.set _; have Hown8 : Hid ((w7.setCell ⟨wo.heap.size, 1, none⟩ (.slice a7 (j + 1) c7)).ownsRow wo.heap.size 28 1 (.slice a7 (j + 1) c7) (j + 1) ((rowK s ds t ((k : Int) + 1) (j + 1)).map (Value.int .u64))) := hown7.kept (grown_set w7 wo.heap.size 1 _) (.inr (hbox7.apart hown7 (by decide))); have Hb8 : Hid (Below wo.heap.size wo (w7.setCell ⟨wo.heap.size, 1, none⟩ (.slice a7 (j + 1) c7))) := hb7.setCell (p := ⟨wo.heap.size, 1, none⟩) (Nat.le_refl _) (.slice a7 (j + 1) c7); clear hgr7 hown hown7 hbox7 hb7)
              go_roundw
              case rel => exact ⟨j + 1, _, by omega, by go_num, Hbox8.out, Hown8.out, Hb8.out⟩
              case measure => simp [intOf]; omega
        · have hjt2 : j = t + 1 := by omega
          subst hjt2
          obtain ⟨d0, d1⟩ := hbox.cells
          have hL2 := hL.below hb2
          have hdl := dealA_len s ds t k
          have hrl := rowK_len s ds t ((k : Int) + 1) (t + 1)
          have hown1 := own_base hown hs1'
          have hown2 : wr.ownsRow w.heap.size 28 1 u (rowK s ds t ((k : Int) + 1) (t + 1)).length ((rowK s ds t ((k : Int) + 1) (t + 1)).map (Value.int .u64)) := by rw [hrl]; exact hown1
          obtain ⟨ua, uc, rfl, huc⟩ := own_slice hown
          have hnew := hL.new (Nat.le_refl _) hown
          have hownL := hL2.own
          rw [hdl] at hownL
          have HADD : Hid (∀ v' w', w'.ownsRow w.heap.size 83 2 v' (k + 1) (pvc L ++ [.int .i64 ((k : Int) + 1), .slice ua (t + 1) uc]) → wr.grownBy w' u9.ownBlock → LsW w' w.heap.size v' (L ++ [((k : Int) + 1, .slice ua (t + 1) uc)]) (dealA s ds t (k + 1))) := by
            intro v' w' g1 g2
            rw [← dealA_snoc]
            exact hL2.add hown2 hnew (by rw [hdl]; exact g1) g2
          have hsw := hbw.size
          clear hown hown1 hown2 hbox hL2 hdl hrl hnew
          go_wp2_with (at_builtin; refine wpList_app2 Try.underlying36 infoRow rfl (by omega) _ rfl _ _ rfl w.heap.size _ _ _ rfl hownL (.int .i64 ((k : Int) + 1)) (.slice ua (t + 1) uc) rfl rfl rfl (by omega) hsw ?_; intro v7 w7 hown7 hgr7 _; have hL7 := HADD.out v7 w7 hown7 hgr7; have hb7 := hbw.grown hgr7 hsw (fun q hq => (hownL.lt q hq).1); clear hgr7 hown7)
          go_roundw
          case rel => exact ⟨k + 1, _, by omega, by go_num, hL7, hb7⟩
          case measure => simp [intOf]; omega
    · have hkm : k = m := by omega
      subst hkm
      go_wp2
      go_ret
      exact ⟨_, L, rfl, hL, hbel⟩
theorem fNorm (a : Int) (w : World) (h0 : 0 ≤ a) (h1 : a ≤ 18446744073709551615) :
    Calls Try.prog 73 #[.int .u64 a] w fun e w' => e = .returned (.int .u64 (nm a)) ∧ w' = w := by
  go_enter Try.func73, Try.ntmps73
  go_wp2
  go_ret
  exact ⟨rfl, rfl⟩

theorem fAdd (a b : Int) (w : World) (h0 : 0 ≤ a) (h1 : a ≤ 18446744073709551615) (g0 : 0 ≤ b) (g1 : b ≤ 18446744073709551615) :
    Calls Try.prog 58 #[.int .u64 a, .int .u64 b] w fun e w' => e = .returned (.int .u64 (nm (a + b))) ∧ w' = w := by
  have ha := nm_bd a
  have hb := nm_bd b
  have HN : Hid (nm (a + b) = nm (nm a + nm b)) := by rw [nm_addl, nm_addr]; exact rfl
  go_enter Try.func58, Try.ntmps58
  go_wp2_with (go_at_call 73; refine (fNorm _ _ (by omega) (by omega)).mono ?_; rintro e w' ⟨rfl, rfl⟩)
  go_ret
  rw [HN.out]
  exact ⟨rfl, rfl⟩

theorem mul_bd {x y : Int} (hx : 0 ≤ x ∧ x ≤ 2147483646) (hy : 0 ≤ y ∧ y ≤ 2147483646) : 0 ≤ x * y ∧ x * y ≤ 4611686009837453316 :=
  ⟨Int.mul_nonneg hx.1 hy.1, by have := Int.mul_le_mul hx.2 hy.2 hy.1 (by omega : (0 : Int) ≤ 2147483646); omega⟩

theorem fMul (a b : Int) (w : World) (h0 : 0 ≤ a) (h1 : a ≤ 18446744073709551615) (g0 : 0 ≤ b) (g1 : b ≤ 18446744073709551615) :
    Calls Try.prog 61 #[.int .u64 a, .int .u64 b] w fun e w' => e = .returned (.int .u64 (nm (a * b))) ∧ w' = w := by
  have ha := nm_bd a
  have hb := nm_bd b
  have hm := mul_bd ha hb
  have HN : Hid (nm (a * b) = nm (nm a * nm b)) := by rw [nm_mull, nm_mulr]; exact rfl
  go_enter Try.func61, Try.ntmps61
  go_wp2_with (go_at_call 73; refine (fNorm _ _ (by omega) (by omega)).mono ?_; rintro e w' ⟨rfl, rfl⟩)
  go_ret
  rw [HN.out]
  exact ⟨rfl, rfl⟩
/-- The first k numbers of L are those of nz xs, the rest 0. -/
theorem info28 : (Try.prog.info? 28).map (fun i => (i.zero, i.size, i.bytes)) = some (some (.int .u64 0), 1, 8) := by kernel_rfl
end
end Go.Proofs.Ytljlioglpaogdab
