/- slices.Index and Contains of ints that came in; croftref.Parties, croftref.Weights. -/
import Derived.Test.YtenbmdibbnlljaaShamirM
import Derived.Test.YtenbmdibbnlljaaLagC
import Derived.Test.YtenbmdibbnlljaaIntsC
namespace Go.Proofs.Ytenbmdibbnlljaa
open Go.RowKit Crm

theorem iIndexF (a : Option Addr) (n c : Nat) (ts : List Int) (x : Int) (w : World) (h : RdI w a n c ts) (hno : ∀ j, j < n → ts.getD j 0 ≠ x) :
    Calls Try.prog 59 #[.slice a n c, .int .i64 x] w fun e w' => e = .returned (.int .i64 (-1)) ∧ w' = w := by
  have hcap := h.cap
  have hmax := h.max
  unfold maxLen at hmax
  have HNO : Hid (∀ j, j < n → ts.getD j 0 ≠ x) := hno
  clear hno
  go_enter Try.func59, Try.ntmps59
  go_wp2
  go_loop [8] (fun i => ∃ k : Nat, k ≤ n ∧ i = .int .i64 k) (fun i => n - (intOf i).toNat)
  case atStart => exact ⟨0, Nat.zero_le _, rfl⟩
  case round =>
    obtain ⟨k, hk, rfl⟩ := hrel
    by_cases hlt : k < n
    · obtain ⟨b, o, y, rfl, hbb, HY, hy0, hy1, hcy⟩ := h.one hlt
      have hxb : (x == y) = false := by rw [beq_eq_false_iff_ne]; exact fun e => HNO.out k hlt (by rw [HY.out, e])
      go_wp2
      go_round
      case rel => exact ⟨k + 1, by omega, by go_num⟩
      case measure => simp [intOf]; omega
    · go_wp2
      go_ret
      exact ⟨rfl, rfl⟩
theorem iIndexT (a : Option Addr) (n c : Nat) (ts : List Int) (x : Int) (w : World) (h : RdI w a n c ts) {j0 : Nat} (hj : j0 < n) (hx : ts.getD j0 0 = x) :
    Calls Try.prog 59 #[.slice a n c, .int .i64 x] w fun e w' => (∃ r : Nat, r ≤ n ∧ e = .returned (.int .i64 r)) ∧ w' = w := by
  have hcap := h.cap
  have hmax := h.max
  unfold maxLen at hmax
  have HX : Hid (ts.getD j0 0 = x) := hx
  clear hx
  go_enter Try.func59, Try.ntmps59
  go_wp2
  go_loop [8] (fun i => ∃ k : Nat, k ≤ j0 ∧ i = .int .i64 k) (fun i => n - (intOf i).toNat)
  case atStart => exact ⟨0, Nat.zero_le _, rfl⟩
  case round =>
    obtain ⟨k, hk, rfl⟩ := hrel
    obtain ⟨b, o, y, rfl, hbb, HY, hy0, hy1, hcy⟩ := h.one (show k < n by omega)
    by_cases hxy : x = y
    · have hxb : (x == y) = true := by rw [beq_iff_eq]; exact hxy
      clear hxy
      go_wp2
      go_ret
      exact ⟨⟨k, by omega, rfl⟩, rfl⟩
    · have hxb : (x == y) = false := by rw [beq_eq_false_iff_ne]; exact hxy
      have hkj : k < j0 := by
        rcases Nat.lt_or_ge k j0 with h' | h'
        · exact h'
        · exfalso
          obtain rfl : k = j0 := by omega
          exact hxy (by rw [← HX.out, HY.out])
      clear hxy
      go_wp2
      go_round
      case rel => exact ⟨k + 1, by omega, by go_num⟩
      case measure => simp [intOf]; omega
theorem iContF (a : Option Addr) (n c : Nat) (ts : List Int) (x : Int) (w : World) (h : RdI w a n c ts) (hno : ∀ j, j < n → ts.getD j 0 ≠ x) :
    Calls Try.prog 39 #[.slice a n c, .int .i64 x] w fun e w' => e = .returned (.bool false) ∧ w' = w := by
  have HNO : Hid (∀ j, j < n → ts.getD j 0 ≠ x) := hno
  clear hno
  go_enter Try.func39, Try.ntmps39
  go_wp2_with (go_at_call 59; refine (iIndexF _ _ _ _ _ _ h HNO.out).mono ?_; rintro e w3 ⟨rfl, hw⟩; have hw := hw.symm; subst hw)
  go_ret
  exact ⟨rfl, rfl⟩
theorem iContT (a : Option Addr) (n c : Nat) (ts : List Int) (x : Int) (w : World) (h : RdI w a n c ts) {j0 : Nat} (hj : j0 < n) (hx : ts.getD j0 0 = x) :
    Calls Try.prog 39 #[.slice a n c, .int .i64 x] w fun e w' => e = .returned (.bool true) ∧ w' = w := by
  have hcap := h.cap
  have hmax := h.max
  unfold maxLen at hmax
  have HX : Hid (ts.getD j0 0 = x) := hx
  clear hx
  go_enter Try.func39, Try.ntmps39
  go_wp2_with (go_at_call 59; refine (iIndexT _ _ _ _ _ _ h hj HX.out).mono ?_; rintro e w3 ⟨⟨r, hr, rfl⟩, hw⟩; have hw := hw.symm; subst hw)
  go_ret
  exact ⟨rfl, rfl⟩

set_option maxRecDepth 100000 in
set_option maxHeartbeats 1000000 in
theorem rParties (a : Option Addr) (n c : Nat) (ts : List Int) (w : World) (h : RdI w a n c ts) :
    Calls Try.prog 45 #[.slice a n c] w fun e w' => Tells (0 < n ∧ dis (fi ts) n) w e w' := by
  have hcap := h.cap
  have hmax := h.max
  have hlen := h.len
  unfold maxLen at hmax
  go_enter Try.func45, Try.ntmps45
  go_wp2
  go_loopw [3] (fun i wr => ∃ k : Nat, k ≤ n ∧ i = .int .i64 k ∧ Hid (dis (fi ts) k) ∧ Below w.heap.size w wr) (fun i _ => n - (intOf i).toNat)
  case atStart => exact ⟨0, Nat.zero_le _, rfl, dis_zero _, Below.refl _ _⟩
  case round =>
    obtain ⟨k, hk, rfl, HK, hbel⟩ := hrel
    by_cases hlt : k < n
    · have hI := h.below hbel
      have hT := hI.take (k := k) (by omega)
      have HG : Hid (∀ j, j < k → (ts.take k).getD j 0 = ts.getD j 0) := fun j hj => by simp [hj]
      obtain ⟨b, o, x, rfl, hbb, HX, hx0, hx1, hcx⟩ := hI.one hlt
      by_cases hx : x < 1 ∨ 9 < x
      · have HN : Hid (¬ (0 < n ∧ dis (fi ts) n)) := fun hh => by have := (hh.2 k hlt).1; unfold fi at this; rw [HX.out] at this; omega
        have HX2 : Hid (x < 1 ∨ 9 < x) := hx
        clear hx
        go_wp2
        go_quiet ((go_at_call 56; exact Calls.quiet_of_same (rInN _ _ _ _ HX2.out)))
        all_goals
          go_wp2
          go_ret
          exact .no HN.out (drewN_below hbel _)
      · by_cases hj : ∃ j, j < k ∧ ts.getD j 0 = x
        · obtain ⟨j, hj, he⟩ := hj
          have HN : Hid (¬ (0 < n ∧ dis (fi ts) n)) := fun hh => (hh.2 k hlt).2 j hj (by unfold fi; rw [he, HX.out])
          have HE : Hid ((ts.take k).getD j 0 = x) := by unfold Hid; rw [HG.out j hj]; exact he
          clear he
          have hTd := fun q => RdI.drewN hT q
          go_wp2
          go_quiet ((first | (go_at_call 56; exact Calls.quiet_of_same (rInY _ _ _ _ (by omega) (by omega))) | (go_at_call 39; exact Calls.quiet_of_same (iContT _ _ _ _ _ _ (hTd _) hj HE.out))))
          all_goals
            go_wp2
            go_ret
            exact .no HN.out (drewN_below hbel _)
        · have HNO : Hid (∀ j, j < k → ts.getD j 0 ≠ x) := fun j hj' e => hj ⟨j, hj', e⟩
          have HNO2 : Hid (∀ j, j < k → (ts.take k).getD j 0 ≠ x) := fun j hj' => by rw [HG.out j hj']; exact HNO.out j hj'
          have HK2 : Hid (dis (fi ts) (k + 1)) := dis_succ HK.out HX.out (by omega) (by omega) HNO.out
          have hTd := fun q => RdI.drewN hT q
          clear hj
          go_wp2
          go_quiet ((first | (go_at_call 56; exact Calls.quiet_of_same (rInY _ _ _ _ (by omega) (by omega))) | (go_at_call 39; exact Calls.quiet_of_same (iContF _ _ _ _ _ _ (hTd _) HNO2.out))))
          all_goals
            go_wp2
            go_roundw
            case rel => exact ⟨k + 1, by omega, by go_num, HK2, drewN_below hbel _⟩
            case measure => simp [intOf]; omega
    · have hkn : k = n := by omega
      subst hkn
      by_cases hk0 : 0 < k
      · have HY : Hid (0 < k ∧ dis (fi ts) k) := ⟨hk0, HK.out⟩
        have hkb : decide ((0 : Int) < k) = true := by simp; omega
        go_wp2
        go_ret
        exact .yes HY.out hbel
      · obtain rfl : k = 0 := by omega
        have HY : Hid (¬ (0 < 0 ∧ dis (fi ts) 0)) := fun hh => by have := hh.1; omega
        go_wp2
        go_ret
        exact .no HY.out hbel
end Go.Proofs.Ytenbmdibbnlljaa
