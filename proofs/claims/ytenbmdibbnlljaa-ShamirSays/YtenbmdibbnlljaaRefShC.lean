/- croftref.Ats at 9, Shares, Fit, Open. -/
import Derived.Test.YtenbmdibbnlljaaShamirM
import Derived.Test.YtenbmdibbnlljaaLagC
import Derived.Test.YtenbmdibbnlljaaSortC
namespace Go.Proofs.Ytenbmdibbnlljaa
open Go.RowKit Crm

set_option maxRecDepth 100000 in
set_option maxHeartbeats 1000000 in
theorem rAts9 (a : Option Addr) (n c : Nat) (l : List (Int × Int)) (w : World) (h : RdS w a n c l) :
    Calls Try.prog 31 #[.slice a n c, .int .i64 9] w fun e w' => Tells (dis (fa l) n) w e w' := by
  have hlen := h.len
  have hcap := h.cap
  have hmax := h.max
  unfold maxLen at hmax
  go_enter Try.func31, Try.ntmps31
  go_wp2
  go_loopw [5] (fun i wr => ∃ k : Nat, k ≤ n ∧ i = .int .i64 k ∧ Hid (dis (fa l) k) ∧ Below w.heap.size w wr) (fun i _ => n - (intOf i).toNat)
  case atStart => exact ⟨0, Nat.zero_le _, rfl, dis_zero _, Below.refl _ _⟩
  case round =>
    obtain ⟨k, hk, rfl, HK, hbel⟩ := hrel
    by_cases hlt : k < n
    · have hR := h.below hbel
      obtain ⟨b, o, x, y, rfl, hbb, HX, HY, hx0, hx1, hy0, hy1, hcx, hcy⟩ := hR.one hlt
      by_cases hx2 : x < 1 ∨ 9 < x
      · have HN : Hid (¬ dis (fa l) n) := fun hk => by have := (hk k hlt).1; unfold fa at this; rw [HX.out] at this; omega
        have HX2 : Hid (x < 1 ∨ 9 < x) := hx2
        clear hx2
        go_wp2_with (go_at_call 56; refine (rInN _ _ _ _ HX2.out).mono ?_; rintro e w' ⟨rfl, rfl⟩)
        go_ret
        exact .no HN.out hbel
      · go_wp2_with (go_at_call 56; refine (rInY _ _ _ _ (by omega) (by omega)).mono ?_; rintro e w' ⟨rfl, rfl⟩)
        go_loopw [6] (fun i wr => ∃ m : Nat, m ≤ k ∧ i = .int .i64 m ∧ Hid (∀ j, j < m → (l.getD j (0, 0)).1 ≠ x) ∧ Below w.heap.size w wr) (fun i _ => k - (intOf i).toNat)
        case atStart => exact ⟨0, Nat.zero_le _, rfl, fun j hj => by omega, hbel⟩
        case round =>
          obtain ⟨m, hm, rfl, HM, hbm⟩ := hrel
          by_cases hmk : m < k
          · have hR2 := h.below hbm
            obtain ⟨b', o', x', y', e', hbb', HX', HY', hx0', hx1', hy0', hy1', hcx', hcy'⟩ := hR2.one (show m < n by omega)
            simp only [Option.some.injEq, Addr.mk.injEq, and_true] at e'
            obtain ⟨rfl, rfl⟩ := e'
            obtain ⟨b'', o'', x'', y'', e'', _, HX'', _, _, _, _, _, hcx'', _⟩ := hR2.one hlt
            simp only [Option.some.injEq, Addr.mk.injEq, and_true] at e''
            obtain ⟨rfl, rfl⟩ := e''
            have e3 : x'' = x := HX''.out.symm.trans HX.out
            subst e3
            by_cases hxx : x' = x''
            · have HN : Hid (¬ dis (fa l) n) := fun hk => (hk k hlt).2 m hmk (by unfold fa; rw [HX'.out, HX.out]; exact hxx)
              have hxb : (x' == x'') = true := by rw [beq_iff_eq]; exact hxx
              clear hxx
              go_wp2
              go_region
              all_goals go_wp2
              all_goals
                go_ret
                exact .no HN.out (by first | exact hbm.drew | exact hbm.drew.drew)
            · have hxb : (x' == x'') = false := by rw [beq_eq_false_iff_ne]; exact hxx
              have HM2 : Hid (∀ j, j < m + 1 → (l.getD j (0, 0)).1 ≠ x'') := fun j hj => by
                by_cases e : j = m
                · rw [e, HX'.out]; exact hxx
                · exact HM.out j (by omega)
              clear hxx
              go_wp2
              go_region
              all_goals go_wp2
              all_goals
                go_roundw
                case rel => exact ⟨m + 1, by omega, by go_num, HM2, by first | exact hbm.drew | exact hbm.drew.drew⟩
                case measure => simp [intOf]; omega
          · have hmk' : m = k := by omega
            subst hmk'
            have HK2 : Hid (dis (fa l) (m + 1)) := dis_succ HK.out HX.out (by omega) (by omega) HM.out
            go_wp2
            go_roundw
            case rel => exact ⟨m + 1, by omega, by go_num, HK2, hbm⟩
            case measure => simp [intOf]; omega
    · have hkn : k = n := by omega
      subst hkn
      go_wp2
      go_ret
      exact .yes HK.out hbel

set_option maxRecDepth 100000 in
theorem rShares (a : Option Addr) (n c : Nat) (l : List (Int × Int)) (t : Int) (w : World) (h : RdS w a n c l) :
    Calls Try.prog 48 #[.int .i64 t, .slice a n c] w fun e w' => ∃ r, e = .returned (.int .i64 r) ∧ She l n t r ∧ Below w.heap.size w w' := by
  have hcap := h.cap
  have hmax := h.max
  unfold maxLen at hmax
  go_enter Try.func48, Try.ntmps48
  by_cases ht : t < 0 ∨ 4 < t
  · have HT : Hid (t < 0 ∨ 4 < t) := ht
    clear ht
    go_wp2_with (go_at_call 56; refine (rInN _ _ _ _ HT.out).mono ?_; rintro e w' ⟨rfl, hw⟩; have hw := hw.symm; subst hw)
    go_ret
    exact ⟨1, rfl, Or.inl ⟨HT.out, rfl⟩, Below.refl _ _⟩
  · go_wp2_with fail
    refine (rInY _ _ _ _ (by omega) (by omega)).mono ?_
    rintro e w' ⟨rfl, hw⟩
    have hw := hw.symm
    subst hw
    go_wp2_with fail
    refine (rAts9 _ _ _ _ _ h).mono ?_
    rintro e w1 ⟨r, rfl, hr, hb1⟩
    have HR : Hid (r = true ↔ dis (fa l) n) := hr
    clear hr
    cases r with
    | false =>
      have HN : Hid (She l n t 5) := Or.inr (Or.inl ⟨⟨by omega, by omega⟩, fun hd => (by have := HR.out.2 hd; cases this), rfl⟩)
      go_wp2
      go_ret
      exact ⟨5, rfl, HN.out, hb1⟩
    | true =>
      by_cases hnt : (n : Int) ≤ t
      · have HN : Hid (She l n t 4) := Or.inr (Or.inr (Or.inl ⟨⟨by omega, by omega⟩, HR.out.1 rfl, hnt, rfl⟩))
        go_wp2
        go_ret
        exact ⟨4, rfl, HN.out, hb1⟩
      · have HN : Hid (She l n t 0) := Or.inr (Or.inr (Or.inr ⟨⟨by omega, by omega⟩, HR.out.1 rfl, by omega, rfl⟩))
        go_wp2
        go_ret
        exact ⟨0, rfl, HN.out, hb1⟩
end Go.Proofs.Ytenbmdibbnlljaa
