/- croftref.In, croftref.Ats. · croftref.Norm, Add, Mul: the same rests, by other roads. -/
import Derived.Test.YtnofegdlainjaadToOwnC
import Derived.Test.YtnofegdlainjaadProg
import Derived.Test.YtnofegdlainjaadToMath
import Derived.WalkKit
import Derived.WalkSpells
import Derived.WalkLawsBesides
namespace Go.Proofs.Ytnofegdlainjaad
open Go.RowKit Crm

set_option maxRecDepth 100000 in
theorem rInY (n lo hi : Int) (w : World) (h1 : lo ≤ n) (h2 : n ≤ hi) :
    Calls Try.prog 45 #[.int .i64 n, .int .i64 lo, .int .i64 hi] w fun e w' => e = .returned (.bool true) ∧ w' = w := by
  go_enter Try.func45, Try.ntmps45
  go_wp2
  go_ret
  exact ⟨rfl, rfl⟩
set_option maxRecDepth 100000 in
theorem rInN (n lo hi : Int) (w : World) (h : n < lo ∨ hi < n) :
    Calls Try.prog 45 #[.int .i64 n, .int .i64 lo, .int .i64 hi] w fun e w' => e = .returned (.bool false) ∧ w' = w := by
  by_cases h1 : n < lo
  · clear h
    go_enter Try.func45, Try.ntmps45
    go_wp2
    go_ret
    exact ⟨rfl, rfl⟩
  · have h2 : hi < n := by omega
    have hd : decide (n ≤ hi) = false := by simp; omega
    clear h
    go_enter Try.func45, Try.ntmps45
    go_wp2
    go_ret
    exact ⟨rfl, rfl⟩

set_option maxHeartbeats 1000000 in
set_option maxRecDepth 100000 in
theorem rAts (a : Option Addr) (n c : Nat) (l : List (Int × Int)) (w : World) (h : RdS w a n c l) (hn : n ≤ 1000) :
    Calls Try.prog 17 #[.slice a n c, .int .i64 2147483646] w fun e w' => Tells (okk l n) w e w' := by
  have hlen := h.len
  have hcap := h.cap
  have hmax := h.max
  unfold maxLen at hmax
  go_enter Try.func17, Try.ntmps17
  go_wp2
  go_loopw [5] (fun i wr => ∃ k : Nat, k ≤ n ∧ i = .int .i64 k ∧ Hid (okk l k) ∧ Below w.heap.size w wr) (fun i _ => n - (intOf i).toNat)
  case atStart => exact ⟨0, Nat.zero_le _, rfl, okk_zero l, Below.refl _ _⟩
  case round =>
    obtain ⟨k, hk, rfl, HK, hbel⟩ := hrel
    by_cases hlt : k < n
    · have hR := h.below hbel
      obtain ⟨b, o, x, y, rfl, hbb, HX, HY, hx0, hx1, hy0, hy1, hcx, hcy⟩ := hR.one hlt
      by_cases hx2 : x < 1 ∨ 2147483646 < x
      · have HN : Hid (¬ okk l n) := fun hk => by have := (hk k hlt).1; rw [HX.out] at this; omega
        have HX2 : Hid (x < 1 ∨ 2147483646 < x) := hx2
        clear hx2
        go_wp2_with (go_at_call 45; refine (rInN _ _ _ _ HX2.out).mono ?_; rintro e w' ⟨rfl, rfl⟩)
        go_ret
        exact .no HN.out hbel
      · go_wp2_with (go_at_call 45; refine (rInY _ _ _ _ (by omega) (by omega)).mono ?_; rintro e w' ⟨rfl, rfl⟩)
        go_loopw [6] (fun i wr => ∃ m : Nat, m ≤ k ∧ i = .int .i64 m ∧ Hid (∀ j, j < m → (l.getD j (0, 0)).1 ≠ x) ∧ Below w.heap.size w wr) (fun i _ => k - (intOf i).toNat)
        case atStart => exact ⟨0, Nat.zero_le _, rfl, fun j hj => by omega, hbel⟩
        case round =>
          obtain ⟨m, hm, rfl, HM, hbm⟩ := hrel
          by_cases hmk : m < k
          · have hR2 := h.below hbm
            obtain ⟨b', o', x', y', e', hbb', HX', HY', hx0', hx1', hy0', hy1', hcx', hcy'⟩ := hR2.one (show m < n by omega)
            simp only [Option.some.injEq, Addr.mk.injEq, and_true] at e'
            obtain ⟨rfl, rfl⟩ := e'
            obtain ⟨b'', o'', x'', y'', e'', _, HX'', _, _, _, _, _, hcx'', _⟩ := hR2.one hlt
            simp only [Option.some.injEq, Addr.mk.injEq, and_true] at e''
            obtain ⟨rfl, rfl⟩ := e''
            have e3 : x'' = x := HX''.out.symm.trans HX.out
            subst e3
            by_cases hxx : x' = x''
            · have HN : Hid (¬ okk l n) := fun hk => (hk k hlt).2 m hmk (by rw [HX'.out, HX.out]; exact hxx)
              have hxb : (x' == x'') = true := by rw [beq_iff_eq]; exact hxx
              clear hxx
              go_wp2
              go_region
              all_goals go_wp2
              all_goals
                go_ret
                exact .no HN.out (by first | exact hbm.drew | exact hbm.drew.drew)
            · have hxb : (x' == x'') = false := by rw [beq_eq_false_iff_ne]; exact hxx
              have HM2 : Hid (∀ j, j < m + 1 → (l.getD j (0, 0)).1 ≠ x'') := fun j hj => by
                by_cases e : j = m
                · rw [e, HX'.out]; exact hxx
                · exact HM.out j (by omega)
              clear hxx
              go_wp2
              go_region
              all_goals go_wp2
              all_goals
                go_roundw
                case rel => exact ⟨m + 1, by omega, by go_num, HM2, by first | exact hbm.drew | exact hbm.drew.drew⟩
                case measure => simp [intOf]; omega
          · have hmk' : m = k := by omega
            subst hmk'
            have HK2 : Hid (okk l (m + 1)) := okk_succ HK.out HX.out (by omega) (by omega) HM.out
            go_wp2
            go_roundw
            case rel => exact ⟨m + 1, by omega, by go_num, HK2, hbm⟩
            case measure => simp [intOf]; omega
    · have hkn : k = n := by omega
      subst hkn
      go_wp2
      go_ret
      exact .yes HK.out hbel
end Go.Proofs.Ytnofegdlainjaad

namespace Go.Proofs.Ytnofegdlainjaad
open Go.RowKit Crm

set_option maxRecDepth 100000 in
theorem rNorm (a : Int) (w : World) (h0 : 0 ≤ a) (h1 : a ≤ 18446744073709551615) :
    Calls Try.prog 51 #[.int .u64 a] w fun e w' => e = .returned (.int .u64 (nm a)) ∧ w' = w := by
  have HN : Hid (nm a = a - a / 2147483647 * 2147483647) := by unfold nm Hid; omega
  go_enter Try.func51, Try.ntmps51
  go_wp2
  go_ret
  rw [HN.out]
  exact ⟨rfl, rfl⟩

set_option maxRecDepth 100000 in
theorem rAdd (a b : Int) (w : World) (h0 : 0 ≤ a) (h1 : a ≤ 18446744073709551615) (g0 : 0 ≤ b) (g1 : b ≤ 18446744073709551615) :
    Calls Try.prog 49 #[.int .u64 a, .int .u64 b] w fun e w' => e = .returned (.int .u64 (nm (a + b))) ∧ w' = w := by
  have ha := nm_bd a
  have hb := nm_bd b
  have HN : Hid (nm (a + b) = nm (nm a + nm b)) := by rw [nm_addl, nm_addr]; exact rfl
  go_enter Try.func49, Try.ntmps49
  go_wp2_with (go_at_call 51; refine (rNorm _ _ (by omega) (by omega)).mono ?_; rintro e w' ⟨rfl, rfl⟩)
  go_ret
  rw [HN.out]
  exact ⟨rfl, rfl⟩

theorem pred_pow (b : Int) {k : Nat} (hk : 0 < k) (x : Int) (h : x = b / 2 ^ k) : x = b / 2 ^ ((k - 1) + 1) := by
  rw [h, Nat.sub_add_cancel hk]

set_option maxRecDepth 100000 in
theorem rMul (a b : Int) (w : World) (h0 : 0 ≤ a) (h1 : a ≤ 18446744073709551615) (g0 : 0 ≤ b) (g1 : b ≤ 18446744073709551615) :
    Calls Try.prog 50 #[.int .u64 a, .int .u64 b] w fun e w' => e = .returned (.int .u64 (nm (a * b))) ∧ w' = w := by
  have ha := nm_bd a
  have hb := nm_bd b
  have HE : Hid (nm (a * b) = nm (nm a * nm b)) := by rw [nm_mull, nm_mulr]; exact rfl
  go_enter Try.func50, Try.ntmps50
  go_wp2_with (go_at_call 51; refine (rNorm _ _ (by omega) (by omega)).mono ?_; rintro e w' ⟨rfl, rfl⟩)
  go_loop [5, 6] (fun out i => ∃ (k : Nat) (o : Int), k ≤ 31 ∧ i = .int .i64 ((k : Int) - 1) ∧ out = .int .u64 o ∧ o = nm (nm a * (nm b / 2 ^ k))) (fun _ i => (intOf i + 1).toNat)
  case atStart =>
    refine ⟨31, 0, by omega, rfl, rfl, ?_⟩
    have : nm b / 2 ^ 31 = 0 := by omega
    rw [this, Int.mul_zero]; rfl
  case round =>
    obtain ⟨k, o, hk, rfl, rfl, hr⟩ := hrel
    have ho : 0 ≤ o ∧ o ≤ 2147483646 := by rw [hr]; exact nm_bd _
    have HR : Hid (o = nm (nm a * (nm b / 2 ^ k))) := hr
    clear hr
    have hoo := nm_bd (o + o)
    have hooa := nm_bd (nm (o + o) + nm a)
    by_cases hlt : 0 < k
    · have hq : 0 ≤ nm b / 2 ^ (k - 1) := Int.ediv_nonneg hb.1 (Int.le_of_lt (Int.pow_pos (by omega)))
      have HR2 : Hid (o = nm (nm a * (nm b / 2 ^ ((k - 1) + 1)))) := by rw [Nat.sub_add_cancel hlt]; exact HR
      by_cases hbit : (nm b / 2 ^ (k - 1)) % 2 = 1
      · have hb1 : ((nm b / 2 ^ (k - 1)) % 2 == 1) = true := by rw [beq_iff_eq]; exact hbit
        have HB : Hid (nm (nm (o + o) + nm a) = nm (nm a * (nm b / 2 ^ (k - 1)))) := mul_bit1 _ _ _ hbit o HR2.out
        clear hbit
        go_wp2_with (go_at_call 51; refine (rNorm _ _ (by omega) (by omega)).mono ?_; rintro e w' ⟨rfl, rfl⟩)
        go_round
        case rel => exact ⟨k - 1, _, by omega, by go_num, rfl, HB.out⟩
        case measure => simp [intOf]; omega
      · have hb1 : ((nm b / 2 ^ (k - 1)) % 2 == 1) = false := by rw [beq_eq_false_iff_ne]; exact hbit
        have HB : Hid (nm (o + o) = nm (nm a * (nm b / 2 ^ (k - 1)))) := mul_bit0 _ _ _ (by omega) o HR2.out
        clear hbit
        go_wp2_with (go_at_call 51; refine (rNorm _ _ (by omega) (by omega)).mono ?_; rintro e w' ⟨rfl, rfl⟩)
        go_round
        case rel => exact ⟨k - 1, _, by omega, by go_num, rfl, HB.out⟩
        case measure => simp [intOf]; omega
    · have HM : Hid (k = 0) := by unfold Hid; omega
      go_wp2
      go_ret
      have h := HR.out
      rw [HM.out, Int.pow_zero, Int.ediv_one, ← HE.out] at h
      rw [h]
      exact ⟨rfl, rfl⟩
end Go.Proofs.Ytnofegdlainjaad
