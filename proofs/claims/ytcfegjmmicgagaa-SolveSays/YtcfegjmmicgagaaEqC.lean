/- croftref.In, croftref.Equations. -/
import Derived.Test.YtcfegjmmicgagaaChkC
namespace Go.Proofs.Ytcfegjmmicgagaa
open Go.RowKit Crm

theorem qInY (n lo hi : Int) (w : World) (h1 : lo ≤ n) (h2 : n ≤ hi) :
    Calls Try.prog 46 #[.int .i64 n, .int .i64 lo, .int .i64 hi] w fun e w' => e = .returned (.bool true) ∧ w' = w := by
  have hd : decide (lo ≤ n) = true := decide_eq_true h1
  have hd2 : decide (n ≤ hi) = true := decide_eq_true h2
  go_enter Try.func46, Try.ntmps46
  go_wp2
  go_ret
  exact ⟨rfl, rfl⟩
theorem qInN (n lo hi : Int) (w : World) (h : n < lo ∨ hi < n) :
    Calls Try.prog 46 #[.int .i64 n, .int .i64 lo, .int .i64 hi] w fun e w' => e = .returned (.bool false) ∧ w' = w := by
  by_cases h1 : n < lo
  · have hd : decide (lo ≤ n) = false := decide_eq_false (by omega)
    clear h
    go_enter Try.func46, Try.ntmps46
    go_wp2
    go_ret
    exact ⟨rfl, rfl⟩
  · have h2 : hi < n := by omega
    have hd0 : decide (lo ≤ n) = true := decide_eq_true (by omega)
    have hd : decide (n ≤ hi) = false := decide_eq_false (by omega)
    clear h
    go_enter Try.func46, Try.ntmps46
    go_wp2
    go_ret
    exact ⟨rfl, rfl⟩

set_option maxHeartbeats 400000 in
theorem rEqs (a : Option Addr) (n c : Nat) (rs : List (List Int)) (v : Int) (w : World) (h : RdR w a n c rs) (hv0 : -9223372036854775808 ≤ v) (hv1 : v ≤ 9223372036854775807) :
    Calls Try.prog 32 #[.slice a n c, .int .i64 v] w fun e w' => e = .returned (.int .i64 (chk rs n v)) ∧ w' = w := by
  have hcap := h.cap
  have hmax := h.max
  unfold maxLen at hmax
  by_cases h12 : v < 1 ∨ 20 < v
  · rw [chk_arg h12]
    go_enter Try.func32, Try.ntmps32
    go_wp2_with (go_at_call 46; refine (qInN _ _ _ _ h12).mono ?_; rintro e w' ⟨rfl, hw⟩; have hw := hw.symm; subst hw)
    go_ret
    exact ⟨rfl, rfl⟩
  · have h1 : 1 ≤ v := by omega
    have h2 : v ≤ 20 := by omega
    by_cases h3 : 20 < n
    · rw [chk_large h12 h3]
      have h4 : (20 : Int) < (n : Int) := by omega
      go_enter Try.func32, Try.ntmps32
      go_wp2_with (go_at_call 46; refine (qInY _ _ _ _ h1 h2).mono ?_; rintro e w' ⟨rfl, hw⟩; have hw := hw.symm; subst hw)
      go_ret
      exact ⟨rfl, rfl⟩
    · go_enter Try.func32, Try.ntmps32
      go_wp2_with (go_at_call 46; refine (qInY _ _ _ _ h1 h2).mono ?_; rintro e w' ⟨rfl, hw⟩; have hw := hw.symm; subst hw)
      go_loopw [5] (fun i wr => ∃ k : Nat, k ≤ n ∧ i = .int .i64 k ∧ Hid (∀ i, i < k → ((rs.getD i []).length : Int) = v + 1) ∧ wr = w) (fun i _ => n - (intOf i).toNat)
      case atStart => exact ⟨0, Nat.zero_le _, rfl, fun i hi => by omega, rfl⟩
      case round =>
        obtain ⟨k, hk, rfl, HK, hw⟩ := hrel
        have hw := hw.symm
        subst hw
        by_cases hlt : k < n
        · obtain ⟨b, o, ai, ni, ci, row, rfl, hbb, HRow, hcr, hrow⟩ := h.one hlt
          have HL : Hid (((rs.getD k []).length : Int) = ni) := by rw [HRow.out, hrow.len]; rfl
          by_cases he : (ni : Int) = v + 1
          · have HK2 : Hid (∀ i, i < k + 1 → ((rs.getD i []).length : Int) = v + 1) := fun i hi => by
              by_cases e : i = k
              · rw [e, HL.out]; exact he
              · exact HK.out i (by omega)
            have hb : ((ni : Int) == v + 1) = true := by rw [beq_iff_eq]; exact he
            clear he
            go_wp2
            go_roundw
            case rel => exact ⟨k + 1, by omega, by go_num, HK2, by trivial⟩
            case measure => simp [intOf]; omega
          · have hb : ((ni : Int) == v + 1) = false := by rw [beq_eq_false_iff_ne]; exact he
            have HC : Hid (chk rs n v = 5) := chk_form h12 h3 hlt (by rw [HL.out]; exact he)
            clear he
            go_wp2
            go_ret
            rw [HC.out]
            exact ⟨rfl, rfl⟩
        · have hkn : k = n := by omega
          subst hkn
          have HC : Hid (chk rs k v = 0) := chk_ok h12 h3 HK.out
          go_wp2
          go_ret
          rw [HC.out]
          exact ⟨rfl, rfl⟩
end Go.Proofs.Ytcfegjmmicgagaa
