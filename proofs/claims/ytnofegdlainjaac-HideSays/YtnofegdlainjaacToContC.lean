/- Package hide: its contracts (HidS: Shift; HidV: Twine). · slices.Index and Contains of ints that came in. -/
import Derived.Test.YtnofegdlainjaacToHidS
import Derived.Test.YtnofegdlainjaacToHidV
import Derived.Test.YtnofegdlainjaacToIntsC
namespace Go.Proofs.Ytnofegdlainjaac
end Go.Proofs.Ytnofegdlainjaac

namespace Go.Proofs.Ytnofegdlainjaac
open Go.RowKit Crm

set_option maxRecDepth 100000 in
theorem iIndexF (a : Option Addr) (n c : Nat) (ts : List Int) (x : Int) (w : World) (h : RdI w a n c ts) (hno : ∀ j, j < n → ts.getD j 0 ≠ x) :
    Calls Try.prog 31 #[.slice a n c, .int .i64 x] w fun e w' => e = .returned (.int .i64 (-1)) ∧ w' = w := by
  have hcap := h.cap
  have hmax := h.max
  unfold maxLen at hmax
  have HNO : Hid (∀ j, j < n → ts.getD j 0 ≠ x) := hno
  clear hno
  go_enter Try.func31, Try.ntmps31
  go_wp2
  go_loop [8] (fun i => ∃ k : Nat, k ≤ n ∧ i = .int .i64 k) (fun i => n - (intOf i).toNat)
  case atStart => exact ⟨0, Nat.zero_le _, rfl⟩
  case round =>
    obtain ⟨k, hk, rfl⟩ := hrel
    by_cases hlt : k < n
    · obtain ⟨b, o, y, rfl, hbb, HY, hy0, hy1, hcy⟩ := h.one hlt
      have hxb : (x == y) = false := by rw [beq_eq_false_iff_ne]; exact fun e => HNO.out k hlt (by rw [HY.out, e])
      go_wp2
      go_round
      case rel => exact ⟨k + 1, by omega, by go_num⟩
      case measure => simp [intOf]; omega
    · go_wp2
      go_ret
      exact ⟨rfl, rfl⟩
set_option maxRecDepth 100000 in
theorem iIndexT (a : Option Addr) (n c : Nat) (ts : List Int) (x : Int) (w : World) (h : RdI w a n c ts) {j0 : Nat} (hj : j0 < n) (hx : ts.getD j0 0 = x) :
    Calls Try.prog 31 #[.slice a n c, .int .i64 x] w fun e w' => (∃ r : Nat, r ≤ n ∧ e = .returned (.int .i64 r)) ∧ w' = w := by
  have hcap := h.cap
  have hmax := h.max
  unfold maxLen at hmax
  have HX : Hid (ts.getD j0 0 = x) := hx
  clear hx
  go_enter Try.func31, Try.ntmps31
  go_wp2
  go_loop [8] (fun i => ∃ k : Nat, k ≤ j0 ∧ i = .int .i64 k) (fun i => n - (intOf i).toNat)
  case atStart => exact ⟨0, Nat.zero_le _, rfl⟩
  case round =>
    obtain ⟨k, hk, rfl⟩ := hrel
    obtain ⟨b, o, y, rfl, hbb, HY, hy0, hy1, hcy⟩ := h.one (show k < n by omega)
    by_cases hxy : x = y
    · have hxb : (x == y) = true := by rw [beq_iff_eq]; exact hxy
      clear hxy
      go_wp2
      go_ret
      exact ⟨⟨k, by omega, rfl⟩, rfl⟩
    · have hxb : (x == y) = false := by rw [beq_eq_false_iff_ne]; exact hxy
      have hkj : k < j0 := by
        rcases Nat.lt_or_ge k j0 with h' | h'
        · exact h'
        · exfalso
          obtain rfl : k = j0 := by omega
          exact hxy (by rw [← HX.out, HY.out])
      clear hxy
      go_wp2
      go_round
      case rel => exact ⟨k + 1, by omega, by go_num⟩
      case measure => simp [intOf]; omega
set_option maxRecDepth 100000 in
theorem iContF (a : Option Addr) (n c : Nat) (ts : List Int) (x : Int) (w : World) (h : RdI w a n c ts) (hno : ∀ j, j < n → ts.getD j 0 ≠ x) :
    Calls Try.prog 29 #[.slice a n c, .int .i64 x] w fun e w' => e = .returned (.bool false) ∧ w' = w := by
  have HNO : Hid (∀ j, j < n → ts.getD j 0 ≠ x) := hno
  clear hno
  go_enter Try.func29, Try.ntmps29
  go_wp2_with (go_at_call 31; refine (iIndexF _ _ _ _ _ _ h HNO.out).mono ?_; rintro e w3 ⟨rfl, hw⟩; have hw := hw.symm; subst hw)
  go_ret
  exact ⟨rfl, rfl⟩
set_option maxRecDepth 100000 in
theorem iContT (a : Option Addr) (n c : Nat) (ts : List Int) (x : Int) (w : World) (h : RdI w a n c ts) {j0 : Nat} (hj : j0 < n) (hx : ts.getD j0 0 = x) :
    Calls Try.prog 29 #[.slice a n c, .int .i64 x] w fun e w' => e = .returned (.bool true) ∧ w' = w := by
  have hcap := h.cap
  have hmax := h.max
  unfold maxLen at hmax
  have HX : Hid (ts.getD j0 0 = x) := hx
  clear hx
  go_enter Try.func29, Try.ntmps29
  go_wp2_with (go_at_call 31; refine (iIndexT _ _ _ _ _ _ h hj HX.out).mono ?_; rintro e w3 ⟨⟨r, hr, rfl⟩, hw⟩; have hw := hw.symm; subst hw)
  go_ret
  exact ⟨rfl, rfl⟩
end Go.Proofs.Ytnofegdlainjaac
