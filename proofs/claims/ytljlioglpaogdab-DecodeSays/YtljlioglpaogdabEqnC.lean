/- decode.equation. -/
import Derived.Test.YtljlioglpaogdabToPadC
import Derived.Test.YtljlioglpaogdabToBwM
import Derived.Test.YtljlioglpaogdabToJoinC
import Derived.Deep.AppendLies
import Derived.Deep.RegionHeld3
import Derived.Deep.RegionLaw
namespace Go.Proofs.Ytljlioglpaogdab
set_option linter.unusedVariables false
set_option maxRecDepth 100000
set_option maxHeartbeats 8000000
section
open Crm Go.RowKit
theorem cEquation (x y : Int) (c e : Nat) (w : World) (hx1 : 1 ≤ x) (hx9 : x ≤ 9) (hy0 : 0 ≤ y) (hy1 : y ≤ 18446744073709551615) (hc : c ≤ 100) (hec : e < c) :
    Calls Try.prog 68 #[.agg #[.int .i64 x, .int .u64 y], .int .i64 c, .int .i64 e] w fun en w' => ∃ a cp, en = .returned (.slice a (c + e + 1) cp) ∧ Rd w' a (c + e + 1) cp (eqn x y c e (c + e + 1)) ∧ (∀ q, a = some q → w.heap.size ≤ q.block) ∧ Below w.heap.size w w' := by
  obtain ⟨i0, hi, hz0, hz1, hz2⟩ := info_parts info28
  have hcA0 := cell_alloc0 w (.int .i64 x) (.int .u64 y) 73
  have hcA1 := cell_alloc1 w (.int .i64 x) (.int .u64 y) 73
  have hbA : Below w.heap.size w (w.alloc (.cells #[.int .i64 x, .int .u64 y] 73)) := (Below.refl _ _).alloc (Nat.le_refl _) _
  have HsA : Hid ((w.alloc (.cells #[.int .i64 x, .int .u64 y] 73)).heap.size = w.heap.size + 1) := by simp [Hid]
  go_enter Try.func68, Try.ntmps68
  go_wp2_with (at_make; generalize w.alloc (.cells #[.int .i64 x, .int .u64 y] 73) = wA at *; refine wpList_make_own _ rfl _ _ 23 rfl wA.heap.size 28 i0 (.int .u64 0) 1 Try.underlying23 hi hz0 hz1 .i64 .i64 _ (c + e + 1) rfl rfl (by omega) (by rw [hz2]; omega) (by unfold maxLen; omega) (Nat.le_refl _) ?_; intro w1 hown hgrow)
  have hb1 : Below wA.heap.size wA w1 := (Below.refl _ _).grown hgrow (Nat.le_refl _) (by simp)
  clear hgrow
  go_loopw [8, 20] (fun v i wr => ∃ k : Nat, k ≤ c ∧ i = .int .i64 k ∧ wr.ownsRow wA.heap.size 28 1 v k ((eqn x y c e k).map (Value.int .u64)) ∧ Below wA.heap.size wA wr) (fun _ i _ => c - (intOf i).toNat)
  case atStart => exact ⟨0, Nat.zero_le _, rfl, hown, hb1⟩
  case round =>
    clear hown hb1
    obtain ⟨k, hk, rfl, hown, hbel⟩ := hrel
    have hs1 := hbel.size
    by_cases hlt : k < c
    · have hp := pw_bd x k
      have HV : Hid (pw x k = eqc x y c e k) := eqc_first x y e hlt
      go_wp2_with (first | (go_at_call 84; refine (fPow _ _ _ (by omega) (by omega) (by omega) (by omega)).mono ?_; rintro en w' ⟨rfl, hw⟩; have hw := hw.symm; subst hw) | (at_builtin; refine wpList_app1 Try.underlying23 info28 _ rfl _ _ rfl wA.heap.size _ _ _ rfl hown _ rfl (by omega) (by omega) ?_; intro v' w3 hown3 hbel3; rw [eqn_snoc x y c e k HV.out] at hown3; have hbel4 := hbel.trans hbel3; clear hown hbel hbel3))
      go_roundw
      case rel => exact ⟨k + 1, by omega, by go_num, hown3, hbel4⟩
      case measure => simp [intOf]; omega
    · have hkc : k = c := by omega
      subst hkc
      obtain ⟨wo, hwo⟩ : ∃ wo, wo = wr := ⟨_, rfl⟩
      subst hwo
      go_wp2
      go_loopw [8, 32] (fun v i wr => ∃ j : Nat, j ≤ e ∧ i = .int .i64 j ∧ wr.ownsRow wA.heap.size 28 1 v (k + j) ((eqn x y k e (k + j)).map (Value.int .u64)) ∧ Below wA.heap.size wA wr) (fun _ i _ => e - (intOf i).toNat)
      case atStart => exact ⟨0, Nat.zero_le _, rfl, hown, hbel⟩
      case round =>
        clear hown hbel
        obtain ⟨j, hj, rfl, hown, hbel⟩ := hrel
        have hs2 := hbel.size
        by_cases hlt : j < e
        · obtain ⟨a', c', rfl, hr, _⟩ := Rd.own hown (bd_u64 (eqn_bd x y k e (k + j)))
          obtain ⟨b, o, z, rfl, hbb, HZ, hz0', hz1', hcz⟩ := hr.one (show j < k + j by omega)
          have HZ2 : Hid (z = pw x j) := by
            have := HZ.out
            rw [eqn_getD x y k e (by omega), ← eqc_first x y e (by omega)] at this
            exact this.symm
          have hcy : wr.cell? ⟨w.heap.size, 1, none⟩ = some (.int .u64 y) := by rw [hbel.cell (by have := HsA.out; simp only; omega)]; exact hcA1
          have hm := nm_bd (y * z)
          have HV : Hid (nm (-nm (y * z)) = eqc x y k e (k + j)) := by rw [HZ2.out, ← Int.zero_sub]; exact eqc_second x y k hlt
          have hj0 : (0 : Int) ≤ (j : Int) := by omega
          have hjk : (j : Int) < (k : Int) + (j : Int) := by omega
          have hown2 : wr.drew.ownsRow wA.heap.size 28 1 (.slice (some ⟨b, o, none⟩) (k + j) c') (k + j) ((eqn x y k e (k + j)).map (Value.int .u64)) := hown
          have hbel2 := hbel.drew
          clear HZ hr
          go_wp2
          go_region_law (first | (refine step_app1 Try.underlying23 info28 wr.drew rfl _ _ rfl wA.heap.size _ _ _ rfl hown2 (nm (-nm (y * z))) rfl rfl (by omega) (by exact hs2) ?_; intro v' w3 hown3 hbel3; rw [eqn_snoc x y k e (k + j) HV.out] at hown3; have hbel4 := hbel2.trans hbel3) | (go_simp; go_at_call 61; refine (fMul _ _ _ (by omega) (by omega) (by omega) (by omega)).mono ?_; rintro en w' ⟨rfl, rfl⟩) | (go_simp; go_at_call 59; refine (fSub _ _ _ (by omega) (by omega) (by omega) (by omega)).mono ?_; rintro en w' ⟨rfl, rfl⟩))
          all_goals
            clear hown hbel hown2 hbel2 hbel3
            go_wp2
            go_roundw
            case rel => exact ⟨j + 1, by omega, by go_num, hown3, hbel4⟩
            case measure => simp [intOf]; omega
        · have hje : j = e := by omega
          subst hje
          obtain ⟨a', c', rfl, hr, _⟩ := Rd.own hown (bd_u64 (eqn_bd x y k j (k + j)))
          obtain ⟨b, o, z, rfl, hbb, HZ, hz0', hz1', hcz⟩ := hr.one (show j < k + j by omega)
          have HZ2 : Hid (z = pw x j) := by
            have := HZ.out
            rw [eqn_getD x y k j (by omega), ← eqc_first x y j (by omega)] at this
            exact this.symm
          have hcy : wr.cell? ⟨w.heap.size, 1, none⟩ = some (.int .u64 y) := by rw [hbel.cell (by have := HsA.out; simp only; omega)]; exact hcA1
          have hm := nm_bd (y * z)
          have HV : Hid (nm (y * z) = eqc x y k j (k + j)) := by rw [HZ2.out]; exact eqc_last x y k j
          have hj0 : (0 : Int) ≤ (j : Int) := by omega
          have hjk : (j : Int) < (k : Int) + (j : Int) := by omega
          have hown2 : wr.drew.ownsRow wA.heap.size 28 1 (.slice (some ⟨b, o, none⟩) (k + j) c') (k + j) ((eqn x y k j (k + j)).map (Value.int .u64)) := hown
          have hbel2 := hbel.drew
          clear HZ hr
          go_wp2
          go_region_law (first | (refine step_app1 Try.underlying23 info28 wr.drew rfl _ _ rfl wA.heap.size _ _ _ rfl hown2 (nm (y * z)) rfl rfl (by omega) (by exact hs2) ?_; intro v' w3 hown3 hbel3; rw [eqn_snoc x y k j (k + j) HV.out] at hown3; have hbel4 := hbel2.trans hbel3; obtain ⟨a3, c3, rfl, hr3, hf3⟩ := Rd.own hown3 (bd_u64 (eqn_bd x y k j (k + j + 1)))) | (go_simp; go_at_call 61; refine (fMul _ _ _ (by omega) (by omega) (by omega) (by omega)).mono ?_; rintro en w' ⟨rfl, rfl⟩))
          all_goals
            clear hown hbel hown2 hbel2 hbel3
            go_wp2
            go_ret
            exact ⟨a3, c3, rfl, hr3, fun q hq => by have := hf3 q hq; have := HsA.out; omega, hbA.trans (hbel4.mono hbA.size)⟩
end
end Go.Proofs.Ytljlioglpaogdab
