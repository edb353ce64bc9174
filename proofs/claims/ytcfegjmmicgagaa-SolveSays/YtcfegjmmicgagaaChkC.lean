/- solve.Check. -/
import Derived.Test.YtcfegjmmicgagaaProg
import Derived.Test.YtcfegjmmicgagaaRows2
namespace Go.Proofs.Ytcfegjmmicgagaa
open Go.RowKit Crm

/-- What is wrong with n rows as equations for v variables. -/
def chk (rs : List (List Int)) (n : Nat) (v : Int) : Int := if v < 1 ∨ 20 < v then 1 else if 20 < n then 2 else if ∀ i, i < n → ((rs.getD i []).length : Int) = v + 1 then 0 else 5
theorem chk_arg {rs : List (List Int)} {n : Nat} {v : Int} (h : v < 1 ∨ 20 < v) : chk rs n v = 1 := if_pos h
theorem chk_large {rs : List (List Int)} {n : Nat} {v : Int} (h : ¬ (v < 1 ∨ 20 < v)) (h2 : 20 < n) : chk rs n v = 2 := by unfold chk; rw [if_neg h, if_pos h2]
theorem chk_form {rs : List (List Int)} {n : Nat} {v : Int} (h : ¬ (v < 1 ∨ 20 < v)) (h2 : ¬ 20 < n) {k : Nat} (hk : k < n) (h3 : ¬ ((rs.getD k []).length : Int) = v + 1) : chk rs n v = 5 := by
  unfold chk; rw [if_neg h, if_neg h2, if_neg fun hh => h3 (hh k hk)]
theorem chk_ok {rs : List (List Int)} {n : Nat} {v : Int} (h : ¬ (v < 1 ∨ 20 < v)) (h2 : ¬ 20 < n) (h3 : ∀ i, i < n → ((rs.getD i []).length : Int) = v + 1) : chk rs n v = 0 := by
  unfold chk; rw [if_neg h, if_neg h2, if_pos h3]
theorem chk_of {rs : List (List Int)} {n : Nat} {v : Int} (h : chk rs n v = 0) : ∃ k : Nat, v = k ∧ 1 ≤ k ∧ k ≤ 20 ∧ n ≤ 20 ∧ ∀ i, i < n → (rs.getD i []).length = k + 1 := by
  unfold chk at h
  by_cases h1 : v < 1 ∨ 20 < v
  · rw [if_pos h1] at h; omega
  · by_cases h2 : 20 < n
    · rw [if_neg h1, if_pos h2] at h; omega
    · by_cases h3 : ∀ i, i < n → ((rs.getD i []).length : Int) = v + 1
      · exact ⟨v.toNat, by omega, by omega, by omega, by omega, fun i hi => by have := h3 i hi; omega⟩
      · rw [if_neg h1, if_neg h2, if_neg h3] at h; omega
theorem chk_bd (rs : List (List Int)) (n : Nat) (v : Int) : 0 ≤ chk rs n v ∧ chk rs n v ≤ 5 := by
  unfold chk; split
  · omega
  · split
    · omega
    · split <;> omega

set_option maxHeartbeats 400000 in
theorem cCheck (a : Option Addr) (n c : Nat) (rs : List (List Int)) (v : Int) (w : World) (h : RdR w a n c rs) (hv0 : -9223372036854775808 ≤ v) (hv1 : v ≤ 9223372036854775807) :
    Calls Try.prog 35 #[.slice a n c, .int .i64 v] w fun e w' => e = .returned (.int .i64 (chk rs n v)) ∧ w' = w := by
  have hcap := h.cap
  have hmax := h.max
  unfold maxLen at hmax
  by_cases h1 : v < 1
  · have hd : decide (v < 1) = true := decide_eq_true h1
    rw [chk_arg (.inl h1)]
    go_enter Try.func35, Try.ntmps35
    go_wp2
    go_ret
    exact ⟨rfl, rfl⟩
  · have hd : decide (v < 1) = false := decide_eq_false h1
    by_cases h2 : 20 < v
    · have hd2 : decide (20 < v) = true := decide_eq_true h2
      rw [chk_arg (.inr h2)]
      go_enter Try.func35, Try.ntmps35
      go_wp2
      go_ret
      exact ⟨rfl, rfl⟩
    · have hd2 : decide (20 < v) = false := decide_eq_false h2
      have h12 : ¬ (v < 1 ∨ 20 < v) := by omega
      by_cases h3 : 20 < n
      · rw [chk_large h12 h3]
        have h4 : (20 : Int) < (n : Int) := by omega
        go_enter Try.func35, Try.ntmps35
        go_wp2
        go_ret
        exact ⟨rfl, rfl⟩
      · go_enter Try.func35, Try.ntmps35
        go_wp2
        go_loopw [18] (fun i wr => ∃ k : Nat, k ≤ n ∧ i = .int .i64 k ∧ Hid (∀ i, i < k → ((rs.getD i []).length : Int) = v + 1) ∧ wr = w) (fun i _ => n - (intOf i).toNat)
        case atStart => exact ⟨0, Nat.zero_le _, rfl, fun i hi => by omega, rfl⟩
        case round =>
          obtain ⟨k, hk, rfl, HK, hw⟩ := hrel
          have hw := hw.symm
          subst hw
          by_cases hlt : k < n
          · obtain ⟨b, o, ai, ni, ci, row, rfl, hbb, HRow, hcr, hrow⟩ := h.one hlt
            have HL : Hid (((rs.getD k []).length : Int) = ni) := by rw [HRow.out, hrow.len]; rfl
            by_cases he : (ni : Int) = v + 1
            · have HK2 : Hid (∀ i, i < k + 1 → ((rs.getD i []).length : Int) = v + 1) := fun i hi => by
                by_cases e : i = k
                · rw [e, HL.out]; exact he
                · exact HK.out i (by omega)
              have hb : ((ni : Int) == v + 1) = true := by rw [beq_iff_eq]; exact he
              clear he
              go_wp2
              go_roundw
              case rel => exact ⟨k + 1, by omega, by go_num, HK2, by trivial⟩
              case measure => simp [intOf]; omega
            · have hb : ((ni : Int) == v + 1) = false := by rw [beq_eq_false_iff_ne]; exact he
              have HC : Hid (chk rs n v = 5) := chk_form h12 h3 hlt (by rw [HL.out]; exact he)
              clear he
              go_wp2
              go_ret
              rw [HC.out]
              exact ⟨rfl, rfl⟩
          · have hkn : k = n := by omega
            subst hkn
            have HC : Hid (chk rs k v = 0) := chk_ok h12 h3 HK.out
            go_wp2
            go_ret
            rw [HC.out]
            exact ⟨rfl, rfl⟩
end Go.Proofs.Ytcfegjmmicgagaa
