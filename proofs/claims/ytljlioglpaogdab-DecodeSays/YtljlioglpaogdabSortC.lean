/- slices.Sort of a few ints: INSERTION. -/
import Derived.Test.YtljlioglpaogdabToRows2
import Derived.Test.YtljlioglpaogdabSortM
import Derived.Test.YtljlioglpaogdabProg
import Derived.Deep.QuietTactic
import Derived.BigQuiet
import Derived.BigRegion
namespace Go.Proofs.Ytljlioglpaogdab
set_option linter.unusedVariables false
set_option maxRecDepth 100000
set_option maxHeartbeats 8000000
section
open Crm Go.RowKit
theorem grown_drewN {a b : World} {r : Option Nat} (h : a.grownBy b r) (q : Nat) : a.grownBy (b.drewN q) r := ⟨h.os, h.tape, h.output, h.size, h.block⟩
theorem zLess (x y : Int) (w : World) :
    Calls Try.prog 111 #[.int .i64 x, .int .i64 y] w fun e w' => e = .returned (.bool (decide (x < y))) ∧ w' = w := by
  have hx : (x != x) = false := by simp
  go_enter Try.func111, Try.ntmps111
  by_cases h : x < y
  · go_wp2
    go_ret
    exact ⟨by simp [h], rfl⟩
  · go_wp2
    go_ret
    exact ⟨by simp [h], rfl⟩

theorem zLen64 (x : Nat) (w : World) (hx : x ≤ 12) :
    Calls Try.prog 115 #[.int .u64 x] w fun e w' => (∃ r, e = .returned (.int .i64 r)) ∧ w' = w := by
  match x, hx with
  | 0, _ => go_enter Try.func115, Try.ntmps115; go_wp2; go_ret; exact ⟨⟨_, rfl⟩, rfl⟩
  | 1, _ => go_enter Try.func115, Try.ntmps115; go_wp2; go_ret; exact ⟨⟨_, rfl⟩, rfl⟩
  | 2, _ => go_enter Try.func115, Try.ntmps115; go_wp2; go_ret; exact ⟨⟨_, rfl⟩, rfl⟩
  | 3, _ => go_enter Try.func115, Try.ntmps115; go_wp2; go_ret; exact ⟨⟨_, rfl⟩, rfl⟩
  | 4, _ => go_enter Try.func115, Try.ntmps115; go_wp2; go_ret; exact ⟨⟨_, rfl⟩, rfl⟩
  | 5, _ => go_enter Try.func115, Try.ntmps115; go_wp2; go_ret; exact ⟨⟨_, rfl⟩, rfl⟩
  | 6, _ => go_enter Try.func115, Try.ntmps115; go_wp2; go_ret; exact ⟨⟨_, rfl⟩, rfl⟩
  | 7, _ => go_enter Try.func115, Try.ntmps115; go_wp2; go_ret; exact ⟨⟨_, rfl⟩, rfl⟩
  | 8, _ => go_enter Try.func115, Try.ntmps115; go_wp2; go_ret; exact ⟨⟨_, rfl⟩, rfl⟩
  | 9, _ => go_enter Try.func115, Try.ntmps115; go_wp2; go_ret; exact ⟨⟨_, rfl⟩, rfl⟩
  | 10, _ => go_enter Try.func115, Try.ntmps115; go_wp2; go_ret; exact ⟨⟨_, rfl⟩, rfl⟩
  | 11, _ => go_enter Try.func115, Try.ntmps115; go_wp2; go_ret; exact ⟨⟨_, rfl⟩, rfl⟩
  | 12, _ => go_enter Try.func115, Try.ntmps115; go_wp2; go_ret; exact ⟨⟨_, rfl⟩, rfl⟩

theorem zLen (x : Nat) (w : World) (hx : x ≤ 12) :
    Calls Try.prog 92 #[.int .u64 x] w fun e w' => (∃ r, e = .returned (.int .i64 r)) ∧ w' = w := by
  go_enter Try.func92, Try.ntmps92
  go_wp2_with (go_at_call 115; refine (zLen64 _ _ hx).mono ?_; rintro e w3 ⟨⟨r, rfl⟩, hw⟩; have hw := hw.symm; subst hw)
  go_ret
  exact ⟨⟨_, rfl⟩, rfl⟩

theorem zIns (g n c base : Nat) (L : List Int) (w : World) (h : w.ownsRow base 3 1 (.slice (some ⟨g, 0, none⟩) n c) n (zns L)) (hn : n ≤ 12) :
    Calls Try.prog 105 #[.slice (some ⟨g, 0, none⟩) n c, .int .i64 0, .int .i64 n] w fun e w' => e = .returned (.tuple #[]) ∧ ∃ L', OuI L L' n ∧ w'.ownsRow base 3 1 (.slice (some ⟨g, 0, none⟩) n c) n (zns L') ∧ w.grownBy w' (some g) := by
  have hlL : L.length = n := by have := h.1; rw [zns_len] at this; omega
  have hcap : n ≤ c ∧ c ≤ maxLen := by
    rcases h.2 with ⟨e, _⟩ | ⟨_, _, _, e, _, _, h1, h2, _⟩
    · simp at e
    · simp only [Value.slice.injEq, true_and] at e
      obtain ⟨_, rfl⟩ := e
      exact ⟨h1, h2⟩
  unfold maxLen at hcap
  go_enter Try.func105, Try.ntmps105
  go_wp2
  go_loopw [6] (fun i wr => ∃ (k : Nat) (L' : List Int), 1 ≤ k ∧ k ≤ n + 1 ∧ i = .int .i64 k ∧ Hid (OuI L L' k) ∧ wr.ownsRow base 3 1 (.slice (some ⟨g, 0, none⟩) n c) n (zns L') ∧ w.grownBy wr (some g)) (fun i _ => n + 1 - (intOf i).toNat)
  case atStart => exact ⟨1, L, Nat.le_refl _, by omega, rfl, ⟨List.Perm.refl _, fun p q h1 h2 => by omega⟩, h, grown_below (Below.refl _ _) _⟩
  case round =>
    obtain ⟨k, L1, hk1, hkn, rfl, HO, hown, hgr⟩ := hrel
    by_cases hlt : k < n
    · have HI0 : Hid (InI L L1 k k) := in_start HO.out
      go_wp2
      obtain ⟨wo, hwo⟩ : ∃ wo, wo = wr := ⟨_, rfl⟩
      subst hwo
      go_loopw [7] (fun i wr => ∃ (j : Nat) (L' : List Int), j ≤ k ∧ i = .int .i64 j ∧ Hid (InI L L' k j) ∧ wr.ownsRow base 3 1 (.slice (some ⟨g, 0, none⟩) n c) n (zns L') ∧ w.grownBy wr (some g)) (fun i _ => (intOf i).toNat)
      case atStart => exact ⟨k, L1, Nat.le_refl _, rfl, HI0, hown, hgr⟩
      case round =>
        clear HI0 HO hown hgr
        obtain ⟨j, L2, hj, rfl, HI, hown, hgr⟩ := hrel
        have hl2 : L2.length = n := by have := hown.1; rw [zns_len] at this; omega
        cases j with
        | zero =>
          have HO2 : Hid (OuI L L2 (k + 1)) := in_end0 HI.out
          go_wp2
          go_quiet (fail)
          all_goals
            go_wp2
            go_roundw
            case rel => exact ⟨k + 1, L2, by omega, by omega, by go_num, HO2, hown, grown_drewN hgr _⟩
            case measure => simp [intOf]; omega
        | succ m =>
          obtain ⟨x, HX⟩ : ∃ x, Hid (L2.getD (m + 1) 0 = x) := ⟨_, rfl⟩
          obtain ⟨y, HY⟩ : ∃ y, Hid (L2.getD m 0 = y) := ⟨_, rfl⟩
          have hcx := zns_at hown (show m + 1 < n by omega)
          have hcy := zns_at hown (show m < n by omega)
          rw [HX.out] at hcx
          rw [HY.out] at hcy
          by_cases hxy : x < y
          · have hdec : decide (x < y) = true := by simp [hxy]
            have HI2 : Hid (InI L (swp L2 m) k m) := in_step HI.out (by omega) (by omega) (by rw [HX.out, HY.out]; exact hxy)
            clear hxy
            go_wp2
            go_quiet ((go_at_call 111; exact Calls.quiet_of_same (zLess _ _ _)))
            have hcx2 : (wr.drewN nq).cell? ⟨g, m + 1, none⟩ = some (.int .i64 x) := hcx
            have hcy2 : (wr.drewN nq).cell? ⟨g, m, none⟩ = some (.int .i64 y) := hcy
            have hown2 : (wr.drewN nq).ownsRow base 3 1 (.slice (some ⟨g, 0, none⟩) n c) n (zns L2) := hown
            have hgr2 := grown_drewN hgr nq
            generalize wr.drewN nq = wd at *
            have hf1 := own_frozen hown2 (m + 1)
            have hf2 := own_frozen hown2 m
            have hown3 := own_set (own_set hown2 (m + 1) (.int .i64 y)) m (.int .i64 x)
            have hgr3 := grown_trans hgr2 (grown_trans (grown_set wd g (m + 1) (.int .i64 y)) (grown_set _ g m (.int .i64 x)))
            have HE : Hid ((L2.set (m + 1) y).set m x = swp L2 m) := by unfold Hid swp; rw [HX.out, HY.out]
            rw [zns_set, zns_set, HE.out] at hown3
            go_wp2
            go_region
            all_goals
              go_wp2
              go_roundw
              case rel => exact ⟨m, _, by omega, by go_num, HI2, hown3, by first | exact hgr3 | exact grown_drew hgr3⟩
              case measure => simp [intOf]
          · have hdec : decide (x < y) = false := by simp; omega
            have HO2 : Hid (OuI L L2 (k + 1)) := in_end HI.out (by omega) (by rw [HX.out, HY.out]; omega)
            clear hxy
            go_wp2
            go_quiet ((go_at_call 111; exact Calls.quiet_of_same (zLess _ _ _)))
            all_goals
              go_wp2
              go_roundw
              case rel => exact ⟨k + 1, L2, by omega, by omega, by go_num, HO2, hown, grown_drewN hgr _⟩
              case measure => simp [intOf]; omega
    · have HO2 : Hid (OuI L L1 n) := ⟨HO.out.perm, fun p q h1 h2 => HO.out.srt p q h1 (by omega)⟩
      go_wp2
      exact bodyPost_end (v := .tuple #[]) (by simp [results, Try.results105, go_sem]) rfl ⟨rfl, L1, HO2.out, hown, hgr⟩

/-- What Sort leaves: the same ints, in order. -/
def Sorted_ (base n : Nat) (v : Value) (L : List Int) (w : World) (e : Ending) (w' : World) : Prop :=
  e = .returned (.tuple #[]) ∧ ∃ L', OuI L L' n ∧ w'.ownsRow base 3 1 v n (zns L') ∧ w.grownBy w' v.ownBlock

theorem zPdq (g n c base : Nat) (L : List Int) (r : Int) (w : World) (h : w.ownsRow base 3 1 (.slice (some ⟨g, 0, none⟩) n c) n (zns L)) (hn : n ≤ 12) :
    Calls Try.prog 91 #[.slice (some ⟨g, 0, none⟩) n c, .int .i64 0, .int .i64 n, .int .i64 r] w fun e w' => Sorted_ base n (.slice (some ⟨g, 0, none⟩) n c) L w e w' := by
  go_enter Try.func91, Try.ntmps91
  go_wp2
  go_loopw [1, 2] (fun a b wr => a = .int .i64 0 ∧ b = .int .i64 n ∧ wr = w) (fun _ _ _ => 0)
  case atStart => exact ⟨rfl, rfl, rfl⟩
  case round =>
    obtain ⟨rfl, rfl, hw⟩ := hrel
    subst hw
    go_wp2_with fail
    refine (zIns _ _ _ _ _ _ h hn).mono ?_
    rintro e w1 ⟨rfl, L', hO, hown, hgr⟩
    go_wp2
    exact bodyPost_ret (v := .tuple #[]) (by simp [results, Try.results91, go_sem]) rfl ⟨rfl, L', hO, hown, hgr⟩

theorem zSort (g n c base : Nat) (L : List Int) (w : World) (h : w.ownsRow base 3 1 (.slice (some ⟨g, 0, none⟩) n c) n (zns L)) (hn : n ≤ 12) :
    Calls Try.prog 74 #[.slice (some ⟨g, 0, none⟩) n c] w fun e w' => Sorted_ base n (.slice (some ⟨g, 0, none⟩) n c) L w e w' := by
  go_enter Try.func74, Try.ntmps74
  go_wp2_with fail
  refine (zLen _ _ hn).mono ?_
  rintro e w3 ⟨⟨r, rfl⟩, hw⟩
  have hw := hw.symm
  subst hw
  go_wp2_with fail
  refine (zPdq _ _ _ _ _ _ _ h hn).mono ?_
  rintro e w1 ⟨rfl, L', hO, hown, hgr⟩
  go_wp2
  exact bodyPost_end (v := .tuple #[]) (by simp [results, Try.results74, go_sem]) rfl ⟨rfl, L', hO, hown, hgr⟩

theorem zIns0 (a : Option Addr) (c : Nat) (w : World) :
    Calls Try.prog 105 #[.slice a 0 c, .int .i64 0, .int .i64 0] w fun e w' => e = .returned (.tuple #[]) ∧ w' = w := by
  go_enter Try.func105, Try.ntmps105
  go_wp2
  go_loopw [6] (fun i wr => i = .int .i64 1 ∧ wr = w) (fun _ _ => 0)
  case atStart => exact ⟨rfl, rfl⟩
  case round =>
    obtain ⟨rfl, hw⟩ := hrel
    subst hw
    go_wp2
    exact bodyPost_end (v := .tuple #[]) (by simp [results, Try.results105, go_sem]) rfl ⟨rfl, rfl⟩
theorem zPdq0 (a : Option Addr) (c : Nat) (r : Int) (w : World) :
    Calls Try.prog 91 #[.slice a 0 c, .int .i64 0, .int .i64 0, .int .i64 r] w fun e w' => e = .returned (.tuple #[]) ∧ w' = w := by
  go_enter Try.func91, Try.ntmps91
  go_wp2
  go_loopw [1, 2] (fun x b wr => x = .int .i64 0 ∧ b = .int .i64 0 ∧ wr = w) (fun _ _ _ => 0)
  case atStart => exact ⟨rfl, rfl, rfl⟩
  case round =>
    obtain ⟨rfl, rfl, hw⟩ := hrel
    subst hw
    go_wp2_with fail
    refine (zIns0 _ _ _).mono ?_
    rintro e w1 ⟨rfl, hw⟩
    have hw := hw.symm
    subst hw
    go_wp2
    exact bodyPost_ret (v := .tuple #[]) (by simp [results, Try.results91, go_sem]) rfl ⟨rfl, rfl⟩
theorem zSort0 (a : Option Addr) (c : Nat) (w : World) :
    Calls Try.prog 74 #[.slice a 0 c] w fun e w' => e = .returned (.tuple #[]) ∧ w' = w := by
  go_enter Try.func74, Try.ntmps74
  go_wp2_with fail
  refine (zLen 0 _ (by omega)).mono ?_
  rintro e w3 ⟨⟨r, rfl⟩, hw⟩
  have hw := hw.symm
  subst hw
  go_wp2_with fail
  refine (zPdq0 _ _ _ _).mono ?_
  rintro e w1 ⟨rfl, hw⟩
  have hw := hw.symm
  subst hw
  go_wp2
  exact bodyPost_end (v := .tuple #[]) (by simp [results, Try.results74, go_sem]) rfl ⟨rfl, rfl⟩

/-- Sort of what a call has gathered, nil too. -/
theorem zSorts (v : Value) (n base : Nat) (L : List Int) (w : World) (h : w.ownsRow base 3 1 v n (zns L)) (hn : n ≤ 12) :
    Calls Try.prog 74 #[v] w fun e w' => Sorted_ base n v L w e w' := by
  rcases h.2 with ⟨rfl, rfl⟩ | ⟨g, cap, cur, rfl, _⟩
  · refine (zSort0 _ _ _).mono ?_
    rintro e w' ⟨rfl, rfl⟩
    exact ⟨rfl, L, ⟨List.Perm.refl _, fun p q _ hq => by omega⟩, h, grown_below (Below.refl _ _) _⟩
  · exact zSort _ _ _ _ _ _ h hn
end
end Go.Proofs.Ytljlioglpaogdab
