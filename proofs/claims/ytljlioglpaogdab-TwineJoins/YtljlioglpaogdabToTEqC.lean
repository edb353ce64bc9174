/- slices.Sort of a few ints: INSERTION. · croftref.Pairs; slices.Equal of pairs of ints. · slices.Equal of pairs of ints. -/
import Derived.Test.YtljlioglpaogdabToBadM
import Derived.Test.YtljlioglpaogdabSortM
import Derived.Test.YtljlioglpaogdabProg
import Derived.Deep.QuietTactic
import Derived.BigQuiet
import Derived.BigRegion
import Derived.Test.YtljlioglpaogdabToTPairM
import Derived.Test.YtljlioglpaogdabToRefPolyC
import Derived.Test.YtljlioglpaogdabToRefProdC
import Derived.ChangeKeysEq
namespace Go.Proofs.Ytljlioglpaogdab
set_option linter.unusedVariables false
set_option maxRecDepth 100000
set_option maxHeartbeats 8000000
section
open Crm Go.RowKit
theorem grown_drewN {a b : World} {r : Option Nat} (h : a.grownBy b r) (q : Nat) : a.grownBy (b.drewN q) r := ⟨h.os, h.tape, h.output, h.size, h.block⟩
theorem zLess (x y : Int) (w : World) :
    Calls Try.prog 111 #[.int .i64 x, .int .i64 y] w fun e w' => e = .returned (.bool (decide (x < y))) ∧ w' = w := by
  have hx : (x != x) = false := by simp
  go_enter Try.func111, Try.ntmps111
  by_cases h : x < y
  · go_wp2
    go_ret
    exact ⟨by simp [h], rfl⟩
  · go_wp2
    go_ret
    exact ⟨by simp [h], rfl⟩

theorem zLen64 (x : Nat) (w : World) (hx : x ≤ 12) :
    Calls Try.prog 115 #[.int .u64 x] w fun e w' => (∃ r, e = .returned (.int .i64 r)) ∧ w' = w := by
  match x, hx with
  | 0, _ => go_enter Try.func115, Try.ntmps115; go_wp2; go_ret; exact ⟨⟨_, rfl⟩, rfl⟩
  | 1, _ => go_enter Try.func115, Try.ntmps115; go_wp2; go_ret; exact ⟨⟨_, rfl⟩, rfl⟩
  | 2, _ => go_enter Try.func115, Try.ntmps115; go_wp2; go_ret; exact ⟨⟨_, rfl⟩, rfl⟩
  | 3, _ => go_enter Try.func115, Try.ntmps115; go_wp2; go_ret; exact ⟨⟨_, rfl⟩, rfl⟩
  | 4, _ => go_enter Try.func115, Try.ntmps115; go_wp2; go_ret; exact ⟨⟨_, rfl⟩, rfl⟩
  | 5, _ => go_enter Try.func115, Try.ntmps115; go_wp2; go_ret; exact ⟨⟨_, rfl⟩, rfl⟩
  | 6, _ => go_enter Try.func115, Try.ntmps115; go_wp2; go_ret; exact ⟨⟨_, rfl⟩, rfl⟩
  | 7, _ => go_enter Try.func115, Try.ntmps115; go_wp2; go_ret; exact ⟨⟨_, rfl⟩, rfl⟩
  | 8, _ => go_enter Try.func115, Try.ntmps115; go_wp2; go_ret; exact ⟨⟨_, rfl⟩, rfl⟩
  | 9, _ => go_enter Try.func115, Try.ntmps115; go_wp2; go_ret; exact ⟨⟨_, rfl⟩, rfl⟩
  | 10, _ => go_enter Try.func115, Try.ntmps115; go_wp2; go_ret; exact ⟨⟨_, rfl⟩, rfl⟩
  | 11, _ => go_enter Try.func115, Try.ntmps115; go_wp2; go_ret; exact ⟨⟨_, rfl⟩, rfl⟩
  | 12, _ => go_enter Try.func115, Try.ntmps115; go_wp2; go_ret; exact ⟨⟨_, rfl⟩, rfl⟩

theorem zLen (x : Nat) (w : World) (hx : x ≤ 12) :
    Calls Try.prog 92 #[.int .u64 x] w fun e w' => (∃ r, e = .returned (.int .i64 r)) ∧ w' = w := by
  go_enter Try.func92, Try.ntmps92
  go_wp2_with (go_at_call 115; refine (zLen64 _ _ hx).mono ?_; rintro e w3 ⟨⟨r, rfl⟩, hw⟩; have hw := hw.symm; subst hw)
  go_ret
  exact ⟨⟨_, rfl⟩, rfl⟩

theorem zIns (g n c base : Nat) (L : List Int) (w : World) (h : w.ownsRow base 3 1 (.slice (some ⟨g, 0, none⟩) n c) n (zns L)) (hn : n ≤ 12) :
    Calls Try.prog 105 #[.slice (some ⟨g, 0, none⟩) n c, .int .i64 0, .int .i64 n] w fun e w' => e = .returned (.tuple #[]) ∧ ∃ L', OuI L L' n ∧ w'.ownsRow base 3 1 (.slice (some ⟨g, 0, none⟩) n c) n (zns L') ∧ w.grownBy w' (some g) := by
  have hlL : L.length = n := by have := h.1; rw [zns_len] at this; omega
  have hcap : n ≤ c ∧ c ≤ maxLen := by
    rcases h.2 with ⟨e, _⟩ | ⟨_, _, _, e, _, _, h1, h2, _⟩
    · simp at e
    · simp only [Value.slice.injEq, true_and] at e
      obtain ⟨_, rfl⟩ := e
      exact ⟨h1, h2⟩
  unfold maxLen at hcap
  go_enter Try.func105, Try.ntmps105
  go_wp2
  go_loopw [6] (fun i wr => ∃ (k : Nat) (L' : List Int), 1 ≤ k ∧ k ≤ n + 1 ∧ i = .int .i64 k ∧ Hid (OuI L L' k) ∧ wr.ownsRow base 3 1 (.slice (some ⟨g, 0, none⟩) n c) n (zns L') ∧ w.grownBy wr (some g)) (fun i _ => n + 1 - (intOf i).toNat)
  case atStart => exact ⟨1, L, Nat.le_refl _, by omega, rfl, ⟨List.Perm.refl _, fun p q h1 h2 => by omega⟩, h, grown_below (Below.refl _ _) _⟩
  case round =>
    obtain ⟨k, L1, hk1, hkn, rfl, HO, hown, hgr⟩ := hrel
    by_cases hlt : k < n
    · have HI0 : Hid (InI L L1 k k) := in_start HO.out
      go_wp2
      obtain ⟨wo, hwo⟩ : ∃ wo, wo = wr := ⟨_, rfl⟩
      subst hwo
      go_loopw [7] (fun i wr => ∃ (j : Nat) (L' : List Int), j ≤ k ∧ i = .int .i64 j ∧ Hid (InI L L' k j) ∧ wr.ownsRow base 3 1 (.slice (some ⟨g, 0, none⟩) n c) n (zns L') ∧ w.grownBy wr (some g)) (fun i _ => (intOf i).toNat)
      case atStart => exact ⟨k, L1, Nat.le_refl _, rfl, HI0, hown, hgr⟩
      case round =>
        clear HI0 HO hown hgr
        obtain ⟨j, L2, hj, rfl, HI, hown, hgr⟩ := hrel
        have hl2 : L2.length = n := by have := hown.1; rw [zns_len] at this; omega
        cases j with
        | zero =>
          have HO2 : Hid (OuI L L2 (k + 1)) := in_end0 HI.out
          go_wp2
          go_quiet (fail)
          all_goals
            go_wp2
            go_roundw
            case rel => exact ⟨k + 1, L2, by omega, by omega, by go_num, HO2, hown, grown_drewN hgr _⟩
            case measure => simp [intOf]; omega
        | succ m =>
          obtain ⟨x, HX⟩ : ∃ x, Hid (L2.getD (m + 1) 0 = x) := ⟨_, rfl⟩
          obtain ⟨y, HY⟩ : ∃ y, Hid (L2.getD m 0 = y) := ⟨_, rfl⟩
          have hcx := zns_at hown (show m + 1 < n by omega)
          have hcy := zns_at hown (show m < n by omega)
          rw [HX.out] at hcx
          rw [HY.out] at hcy
          by_cases hxy : x < y
          · have hdec : decide (x < y) = true := by simp [hxy]
            have HI2 : Hid (InI L (swp L2 m) k m) := in_step HI.out (by omega) (by omega) (by rw [HX.out, HY.out]; exact hxy)
            clear hxy
            go_wp2
            go_quiet ((go_at_call 111; exact Calls.quiet_of_same (zLess _ _ _)))
            have hcx2 : (wr.drewN nq).cell? ⟨g, m + 1, none⟩ = some (.int .i64 x) := hcx
            have hcy2 : (wr.drewN nq).cell? ⟨g, m, none⟩ = some (.int .i64 y) := hcy
            have hown2 : (wr.drewN nq).ownsRow base 3 1 (.slice (some ⟨g, 0, none⟩) n c) n (zns L2) := hown
            have hgr2 := grown_drewN hgr nq
            generalize wr.drewN nq = wd at *
            have hf1 := own_frozen hown2 (m + 1)
            have hf2 := own_frozen hown2 m
            have hown3 := own_set (own_set hown2 (m + 1) (.int .i64 y)) m (.int .i64 x)
            have hgr3 := grown_trans hgr2 (grown_trans (grown_set wd g (m + 1) (.int .i64 y)) (grown_set _ g m (.int .i64 x)))
            have HE : Hid ((L2.set (m + 1) y).set m x = swp L2 m) := by unfold Hid swp; rw [HX.out, HY.out]
            rw [zns_set, zns_set, HE.out] at hown3
            go_wp2
            go_region
            all_goals
              go_wp2
              go_roundw
              case rel => exact ⟨m, _, by omega, by go_num, HI2, hown3, by first | exact hgr3 | exact grown_drew hgr3⟩
              case measure => simp [intOf]
          · have hdec : decide (x < y) = false := by simp; omega
            have HO2 : Hid (OuI L L2 (k + 1)) := in_end HI.out (by omega) (by rw [HX.out, HY.out]; omega)
            clear hxy
            go_wp2
            go_quiet ((go_at_call 111; exact Calls.quiet_of_same (zLess _ _ _)))
            all_goals
              go_wp2
              go_roundw
              case rel => exact ⟨k + 1, L2, by omega, by omega, by go_num, HO2, hown, grown_drewN hgr _⟩
              case measure => simp [intOf]; omega
    · have HO2 : Hid (OuI L L1 n) := ⟨HO.out.perm, fun p q h1 h2 => HO.out.srt p q h1 (by omega)⟩
      go_wp2
      exact bodyPost_end (v := .tuple #[]) (by simp [results, Try.results105, go_sem]) rfl ⟨rfl, L1, HO2.out, hown, hgr⟩

/-- What Sort leaves: the same ints, in order. -/
def Sorted_ (base n : Nat) (v : Value) (L : List Int) (w : World) (e : Ending) (w' : World) : Prop :=
  e = .returned (.tuple #[]) ∧ ∃ L', OuI L L' n ∧ w'.ownsRow base 3 1 v n (zns L') ∧ w.grownBy w' v.ownBlock

theorem zPdq (g n c base : Nat) (L : List Int) (r : Int) (w : World) (h : w.ownsRow base 3 1 (.slice (some ⟨g, 0, none⟩) n c) n (zns L)) (hn : n ≤ 12) :
    Calls Try.prog 91 #[.slice (some ⟨g, 0, none⟩) n c, .int .i64 0, .int .i64 n, .int .i64 r] w fun e w' => Sorted_ base n (.slice (some ⟨g, 0, none⟩) n c) L w e w' := by
  go_enter Try.func91, Try.ntmps91
  go_wp2
  go_loopw [1, 2] (fun a b wr => a = .int .i64 0 ∧ b = .int .i64 n ∧ wr = w) (fun _ _ _ => 0)
  case atStart => exact ⟨rfl, rfl, rfl⟩
  case round =>
    obtain ⟨rfl, rfl, hw⟩ := hrel
    subst hw
    go_wp2_with fail
    refine (zIns _ _ _ _ _ _ h hn).mono ?_
    rintro e w1 ⟨rfl, L', hO, hown, hgr⟩
    go_wp2
    exact bodyPost_ret (v := .tuple #[]) (by simp [results, Try.results91, go_sem]) rfl ⟨rfl, L', hO, hown, hgr⟩

theorem zSort (g n c base : Nat) (L : List Int) (w : World) (h : w.ownsRow base 3 1 (.slice (some ⟨g, 0, none⟩) n c) n (zns L)) (hn : n ≤ 12) :
    Calls Try.prog 74 #[.slice (some ⟨g, 0, none⟩) n c] w fun e w' => Sorted_ base n (.slice (some ⟨g, 0, none⟩) n c) L w e w' := by
  go_enter Try.func74, Try.ntmps74
  go_wp2_with fail
  refine (zLen _ _ hn).mono ?_
  rintro e w3 ⟨⟨r, rfl⟩, hw⟩
  have hw := hw.symm
  subst hw
  go_wp2_with fail
  refine (zPdq _ _ _ _ _ _ _ h hn).mono ?_
  rintro e w1 ⟨rfl, L', hO, hown, hgr⟩
  go_wp2
  exact bodyPost_end (v := .tuple #[]) (by simp [results, Try.results74, go_sem]) rfl ⟨rfl, L', hO, hown, hgr⟩

theorem zIns0 (a : Option Addr) (c : Nat) (w : World) :
    Calls Try.prog 105 #[.slice a 0 c, .int .i64 0, .int .i64 0] w fun e w' => e = .returned (.tuple #[]) ∧ w' = w := by
  go_enter Try.func105, Try.ntmps105
  go_wp2
  go_loopw [6] (fun i wr => i = .int .i64 1 ∧ wr = w) (fun _ _ => 0)
  case atStart => exact ⟨rfl, rfl⟩
  case round =>
    obtain ⟨rfl, hw⟩ := hrel
    subst hw
    go_wp2
    exact bodyPost_end (v := .tuple #[]) (by simp [results, Try.results105, go_sem]) rfl ⟨rfl, rfl⟩
theorem zPdq0 (a : Option Addr) (c : Nat) (r : Int) (w : World) :
    Calls Try.prog 91 #[.slice a 0 c, .int .i64 0, .int .i64 0, .int .i64 r] w fun e w' => e = .returned (.tuple #[]) ∧ w' = w := by
  go_enter Try.func91, Try.ntmps91
  go_wp2
  go_loopw [1, 2] (fun x b wr => x = .int .i64 0 ∧ b = .int .i64 0 ∧ wr = w) (fun _ _ _ => 0)
  case atStart => exact ⟨rfl, rfl, rfl⟩
  case round =>
    obtain ⟨rfl, rfl, hw⟩ := hrel
    subst hw
    go_wp2_with fail
    refine (zIns0 _ _ _).mono ?_
    rintro e w1 ⟨rfl, hw⟩
    have hw := hw.symm
    subst hw
    go_wp2
    exact bodyPost_ret (v := .tuple #[]) (by simp [results, Try.results91, go_sem]) rfl ⟨rfl, rfl⟩
theorem zSort0 (a : Option Addr) (c : Nat) (w : World) :
    Calls Try.prog 74 #[.slice a 0 c] w fun e w' => e = .returned (.tuple #[]) ∧ w' = w := by
  go_enter Try.func74, Try.ntmps74
  go_wp2_with fail
  refine (zLen 0 _ (by omega)).mono ?_
  rintro e w3 ⟨⟨r, rfl⟩, hw⟩
  have hw := hw.symm
  subst hw
  go_wp2_with fail
  refine (zPdq0 _ _ _ _).mono ?_
  rintro e w1 ⟨rfl, hw⟩
  have hw := hw.symm
  subst hw
  go_wp2
  exact bodyPost_end (v := .tuple #[]) (by simp [results, Try.results74, go_sem]) rfl ⟨rfl, rfl⟩

/-- Sort of what a call has gathered, nil too. -/
theorem zSorts (v : Value) (n base : Nat) (L : List Int) (w : World) (h : w.ownsRow base 3 1 v n (zns L)) (hn : n ≤ 12) :
    Calls Try.prog 74 #[v] w fun e w' => Sorted_ base n v L w e w' := by
  rcases h.2 with ⟨rfl, rfl⟩ | ⟨g, cap, cur, rfl, _⟩
  · refine (zSort0 _ _ _).mono ?_
    rintro e w' ⟨rfl, rfl⟩
    exact ⟨rfl, L, ⟨List.Perm.refl _, fun p q _ hq => by omega⟩, h, grown_below (Below.refl _ _) _⟩
  · exact zSort _ _ _ _ _ _ h hn
/-- The cells of pairs. -/
def ppc (l : List (Int × Int)) : List Value := l.flatMap fun p => [.int .i64 p.1, .int .i64 p.2]
theorem ppc_snoc (l : List (Int × Int)) (p q : Int) : ppc l ++ [.int .i64 p, .int .i64 q] = ppc (l ++ [(p, q)]) := by simp [ppc]
theorem ppc_get : ∀ (l : List (Int × Int)) (i : Nat), i < l.length → (ppc l)[i * 2]? = some (.int .i64 (l.getD i (0, 0)).1) ∧ (ppc l)[i * 2 + 1]? = some (.int .i64 (l.getD i (0, 0)).2)
  | [], i, h => by simp at h
  | p :: l, 0, _ => ⟨rfl, rfl⟩
  | p :: l, i + 1, h => by
    have := ppc_get l i (by simpa using h)
    have e1 : (i + 1) * 2 = i * 2 + 1 + 1 := by omega
    rw [e1]
    exact this
theorem infoPair : (Try.prog.info? 51).map (fun i => (i.zero, i.size, i.bytes)) = some (some (.agg #[.int .i64 0, .int .i64 0]), 2, 16) := by kernel_rfl
theorem wrap_small {i : Nat} (h : i ≤ 100) : IntKind.u64.wrap (i : Int) = (i : Int) := by
  unfold IntKind.wrap
  simp [IntKind.signed, IntKind.bits]
  omega

theorem rPairs (a : Option Addr) (n c : Nat) (l : List (Int × List Int)) (w : World) (h : RdW w a n c l) (hk : Rwk l n) :
    Calls Try.prog 25 #[.slice a n c] w fun e w' => ∃ v L, e = .returned v ∧ w'.ownsRow w.heap.size 51 2 v L.length (ppc L) ∧ L.length ≤ 1000 ∧ Prs l n L ∧ Below w.heap.size w w' := by
  have HK : Hid (Rwk l n) := hk
  clear hk
  go_enter Try.func25, Try.ntmps25
  go_wp2
  go_loopw [3, 4] (fun v q wr => ∃ (i : Nat) (L : List (Int × Int)), 1 ≤ i ∧ i ≤ 10 ∧ q = .int .i64 i ∧ wr.ownsRow w.heap.size 51 2 v L.length (ppc L) ∧ L.length ≤ 10 * i ∧ Hid (Prj l n i ((i : Int) + 1) L) ∧ Below w.heap.size w wr) (fun _ q _ => 10 - (intOf q).toNat)
  case atStart => exact ⟨1, [], by omega, by omega, rfl, World.ownsRow_nil _ _ _ _, by simp, prj_start HK.out.dis, Below.refl _ _⟩
  case round =>
    obtain ⟨i, L, hi1, hi10, rfl, hown, hLl, HP, hbel⟩ := hrel
    by_cases hi : i ≤ 9
    · have hid : (i : Int) ≤ 9 := by omega
      go_wp2
      go_loopw [3, 5] (fun v q wr => ∃ (j : Nat) (L : List (Int × Int)), i < j ∧ j ≤ 10 ∧ q = .int .i64 j ∧ wr.ownsRow w.heap.size 51 2 v L.length (ppc L) ∧ L.length ≤ 10 * i + j ∧ Hid (Prj l n i j L) ∧ Below w.heap.size w wr) (fun _ q _ => 10 - (intOf q).toNat)
      case atStart => exact ⟨i + 1, L, by omega, by omega, by go_num, hown, by omega, HP, hbel⟩
      case round =>
        clear hown hLl HP hbel L
        obtain ⟨j, L, hij, hj10, rfl, hown, hLl, HP, hbel⟩ := hrel
        have hs1 := hbel.size
        by_cases hj : j ≤ 9
        · have hjd : (j : Int) ≤ 9 := by omega
          have HWi : Hid (IntKind.u64.wrap (i : Int) = (i : Int)) := wrap_small (by omega)
          have HWj : Hid (IntKind.u64.wrap (j : Int) = (j : Int)) := wrap_small (by omega)
          go_wp2_with fail
          refine (rRowOf _ _ _ _ _ _ (h.below hbel)).mono ?_
          rintro e w1 ⟨⟨r, ai, ni, ci, hr, her, rfl, hrd1⟩ | ⟨hno, rfl⟩, hb1⟩
          · have HER : Hid (ta l r = (i : Int)) := her
            have hbw1 := hbel.trans (hb1.mono hs1)
            have hown1 := own_below2 hown hb1
            have hbA : Below w1.heap.size w1 (w1.alloc (.cells #[.int .i64 i, .slice ai ni ci] 83)) := (Below.refl _ _).alloc (Nat.le_refl _) _
            have hbx := Box.new w1 i (.slice ai ni ci)
            have hownA := own_below2 hown1 hbA
            have hrdA := hrd1.below hbA
            have hbwA := hbw1.trans (hbA.mono hbw1.size)
            clear her hown hown1 hrd1 hbel hbw1 hb1 hbA
            go_wp2_with fail
            generalize w1.alloc (.cells #[.int .i64 i, .slice ai ni ci] 83) = wA at *
            refine (rRowOf _ _ _ _ _ _ (h.below hbwA)).mono ?_
            rintro e w2 ⟨⟨s, aj, nj, cj, hs, hes, rfl, hrd2⟩ | ⟨hno, rfl⟩, hb2⟩
            · have HES : Hid (ta l s = (j : Int)) := hes
              have hbB : Below w2.heap.size w2 (w2.alloc (.cells #[.int .i64 j, .slice aj nj cj] 83)) := (Below.refl _ _).alloc (Nat.le_refl _) _
              have hby := Box.new w2 j (.slice aj nj cj)
              have hbx2 : Box w2 w1.heap.size i (.slice ai ni ci) := by unfold Box; rw [hb2.block _ hbx.lt]; exact hbx
              have hbx3 : Box (w2.alloc (.cells #[.int .i64 j, .slice aj nj cj] 83)) w1.heap.size i (.slice ai ni ci) := by unfold Box; rw [hbB.block _ hbx2.lt]; exact hbx2
              have hownB := own_below2 (own_below2 hownA hb2) hbB
              have hrdB1 := (hrdA.below hb2).below hbB
              have hrdB2 := hrd2.below hbB
              have hbw2 := hbwA.trans (hb2.mono hbwA.size)
              have hbwB := hbw2.trans (hbB.mono hbw2.size)
              clear hes hownA hrd2 hrdA hbwA hb2 hbB hbw2 hbx hbx2
              go_wp2_with fail
              generalize w2.alloc (.cells #[.int .i64 j, .slice aj nj cj] 83) = wB at *
              obtain ⟨dx0, dx1⟩ := hbx3.cells
              obtain ⟨dy0, dy1⟩ := hby.cells
              have hni := HK.out r hr
              have hnj := HK.out s hs
              have hni2 : ni ≤ 5 := by have := hrdB1.len; omega
              have hnj2 : nj ≤ 5 := by have := hrdB2.len; omega
              clear hni hnj hbx3 hby
              by_cases hev : nm (ev (tc l r) (j : Int)) = nm (ev (tc l s) (i : Int))
              · have hmb : (nm (ev (tc l r) (j : Int)) != nm (ev (tc l s) (i : Int))) = false := by rw [hev]; simp
                have HP2 : Hid (Prj l n i ((j : Int) + 1) L) := prj_skip HP.out (dif_no HK.out.dis hr hs HER.out HES.out hev)
                clear hev
                go_quiet ((go_at_call 56; (first | rw [HWj.out] | skip); (first | rw [HWi.out] | skip); (first | exact Calls.quiet_of_same (rEval _ _ _ _ _ _ (hrdB1.drewN _) (by omega) (by omega) (by omega)) | exact Calls.quiet_of_same (rEval _ _ _ _ _ _ (hrdB2.drewN _) (by omega) (by omega) (by omega)))))
                all_goals
                  go_wp2
                  go_roundw
                  case rel => exact ⟨j + 1, L, by omega, by omega, by go_num, hownB, by omega, by push_cast; exact HP2, drewN_below hbwB _⟩
                  case measure => simp [intOf]; omega
              · have hmb : (nm (ev (tc l r) (j : Int)) != nm (ev (tc l s) (i : Int))) = true := by rw [bne_iff_ne]; exact hev
                have HP2 : Hid (Prj l n i ((j : Int) + 1) (L ++ [((i : Int), (j : Int))])) := prj_add HP.out (by omega) (dif_yes hr hs HER.out HES.out hev)
                have HLl : Hid ((L ++ [((i : Int), (j : Int))]).length = L.length + 1) := by unfold Hid; simp
                have hsB := hbwB.size
                clear hev
                go_quiet ((go_at_call 56; (first | rw [HWj.out] | skip); (first | rw [HWi.out] | skip); (first | exact Calls.quiet_of_same (rEval _ _ _ _ _ _ (hrdB1.drewN _) (by omega) (by omega) (by omega)) | exact Calls.quiet_of_same (rEval _ _ _ _ _ _ (hrdB2.drewN _) (by omega) (by omega) (by omega)))))
                have hownD : (wB.drewN nq).ownsRow w.heap.size 51 2 u3 L.length (ppc L) := hownB
                have hbwD := drewN_below hbwB nq
                have hsD : w.heap.size ≤ (wB.drewN nq).heap.size := hsB
                generalize wB.drewN nq = wD at *
                obtain ⟨NL, HNL⟩ : ∃ NL, Hid (L.length = NL) := ⟨_, rfl⟩
                rw [HNL.out] at hownD hLl HLl
                clear hownB hbwB hsB hrdB1 hrdB2 dx0 dx1 dy0 dy1
                go_wp2_with (at_builtin; refine wpList_app2 Try.underlying44 infoPair rfl (by omega) _ rfl _ _ rfl w.heap.size _ _ _ rfl hownD (.int .i64 i) (.int .i64 j) rfl rfl rfl (by omega) hsD ?_; intro v7 w7 hown7 hgr7 _; rw [ppc_snoc] at hown7; have hb7 := hbwD.grown hgr7 hsD (fun q hq => (hownD.lt q hq).1); clear hgr7 hownD hbwD)
                go_roundw
                case rel => exact ⟨j + 1, _, by omega, by omega, by go_num, by rw [HLl.out]; exact hown7, by rw [HLl.out]; omega, by push_cast; exact HP2, hb7⟩
                case measure => simp [intOf]; omega
            · have HP2 : Hid (Prj l n i ((j : Int) + 1) L) := prj_skip HP.out (dif_none2 hno)
              have hbB : Below w2.heap.size w2 (w2.alloc (.cells #[.int .i64 0, .slice none 0 0] 83)) := (Below.refl _ _).alloc (Nat.le_refl _) _
              have hownB := own_below2 (own_below2 hownA hb2) hbB
              have hbw2 := hbwA.trans (hb2.mono hbwA.size)
              have hbwB := hbw2.trans (hbB.mono hbw2.size)
              clear hownA hrdA hbwA hb2 hbB hbw2 hbx hno
              go_wp2_with fail
              generalize w2.alloc (.cells #[.int .i64 0, .slice none 0 0] 83) = wB at *
              go_quiet (fail)
              all_goals
                go_wp2
                go_roundw
                case rel => exact ⟨j + 1, L, by omega, by omega, by go_num, hownB, by omega, by push_cast; exact HP2, drewN_below hbwB _⟩
                case measure => simp [intOf]; omega
          · have HP2 : Hid (Prj l n i ((j : Int) + 1) L) := prj_skip HP.out (dif_none1 hno)
            have hbw1 := hbel.trans (hb1.mono hs1)
            have hown1 := own_below2 hown hb1
            have hbA : Below w1.heap.size w1 (w1.alloc (.cells #[.int .i64 0, .slice none 0 0] 83)) := (Below.refl _ _).alloc (Nat.le_refl _) _
            have hownA := own_below2 hown1 hbA
            have hbwA := hbw1.trans (hbA.mono hbw1.size)
            clear hown hown1 hbel hbw1 hb1 hbA hno
            go_wp2_with fail
            generalize w1.alloc (.cells #[.int .i64 0, .slice none 0 0] 83) = wA at *
            refine (rRowOf _ _ _ _ _ _ (h.below hbwA)).mono ?_
            rintro e w2 ⟨⟨s, aj, nj, cj, hs, hes, rfl, hrd2⟩ | ⟨hno, rfl⟩, hb2⟩
            · have hbB : Below w2.heap.size w2 (w2.alloc (.cells #[.int .i64 j, .slice aj nj cj] 83)) := (Below.refl _ _).alloc (Nat.le_refl _) _
              have hownB := own_below2 (own_below2 hownA hb2) hbB
              have hbw2 := hbwA.trans (hb2.mono hbwA.size)
              have hbwB := hbw2.trans (hbB.mono hbw2.size)
              clear hownA hbwA hb2 hbB hbw2 hes hrd2
              go_wp2_with fail
              generalize w2.alloc (.cells #[.int .i64 j, .slice aj nj cj] 83) = wB at *
              go_quiet (fail)
              all_goals
                go_wp2
                go_roundw
                case rel => exact ⟨j + 1, L, by omega, by omega, by go_num, hownB, by omega, by push_cast; exact HP2, drewN_below hbwB _⟩
                case measure => simp [intOf]; omega
            · have hbB : Below w2.heap.size w2 (w2.alloc (.cells #[.int .i64 0, .slice none 0 0] 83)) := (Below.refl _ _).alloc (Nat.le_refl _) _
              have hownB := own_below2 (own_below2 hownA hb2) hbB
              have hbw2 := hbwA.trans (hb2.mono hbwA.size)
              have hbwB := hbw2.trans (hbB.mono hbw2.size)
              clear hownA hbwA hb2 hbB hbw2 hno
              go_wp2_with fail
              generalize w2.alloc (.cells #[.int .i64 0, .slice none 0 0] 83) = wB at *
              go_quiet (fail)
              all_goals
                go_wp2
                go_roundw
                case rel => exact ⟨j + 1, L, by omega, by omega, by go_num, hownB, by omega, by push_cast; exact HP2, drewN_below hbwB _⟩
                case measure => simp [intOf]; omega
        · have hj2 : j = 10 := by omega
          subst hj2
          have HP2 : Hid (Prj l n ((i : Int) + 1) ((i : Int) + 2) L) := prj_next HK.out.dis HP.out
          go_wp2
          go_roundw
          case rel => exact ⟨i + 1, L, by omega, by omega, by go_num, hown, by omega, by have := HP2.out; push_cast; rw [show (i : Int) + 1 + 1 = (i : Int) + 2 by omega]; exact this, hbel⟩
          case measure => simp [intOf]; omega
    · have hi2 : i = 10 := by omega
      subst hi2
      have HE : Hid (Prs l n L) := prj_end HK.out.dis HP.out
      go_wp2
      go_ret
      exact ⟨_, L, rfl, hown, by omega, HE.out, hbel⟩
/-- A slice of pairs of ints that is read. -/
structure RdP (w : World) (a : Option Addr) (n c : Nat) (l : List (Int × Int)) : Prop where
  len : l.length = n
  cap : n ≤ c
  max : c ≤ maxLen
  nil : a = none → c = 0
  cell : ∀ x, a = some x → ∀ i, i < n → w.cell? (x.add (i * 2)) = some (.int .i64 (l.getD i (0, 0)).1) ∧ w.cell? (x.add (i * 2 + 1)) = some (.int .i64 (l.getD i (0, 0)).2)
theorem RdP.one {w : World} {a : Option Addr} {n c : Nat} {l : List (Int × Int)} (h : RdP w a n c l) {k : Nat} (hk : k < n) :
    ∃ b o x y, a = some ⟨b, o, none⟩ ∧ b < w.heap.size ∧ Hid (l.getD k (0, 0) = (x, y)) ∧ w.cell? ⟨b, o + k * 2, none⟩ = some (.int .i64 x) ∧ w.cell? ⟨b, o + k * 2 + 1, none⟩ = some (.int .i64 y) := by
  cases ha : a with
  | none => have := h.nil ha; have := h.cap; omega
  | some x =>
    have h0 := (h.cell x ha 0 (by omega)).1
    have hs : x.spot = none := by
      have := spot_none h0
      unfold Addr.add at this
      split at this <;> simp_all
    obtain ⟨b, o, s⟩ := x
    simp only at hs
    subst hs
    have hb := World.block_lt_of_cell? w _ h0
    rw [Addr.add_lit] at hb
    have := h.cell _ ha k hk
    rw [Addr.add_lit, Addr.add_lit, ← Nat.add_assoc] at this
    exact ⟨b, o, _, _, rfl, hb, rfl, this.1, this.2⟩
theorem RdP.below {w w' : World} {a : Option Addr} {n c : Nat} {l : List (Int × Int)} (h : RdP w a n c l) (hb : Below w.heap.size w w') : RdP w' a n c l := by
  refine ⟨h.len, h.cap, h.max, h.nil, fun x hx i hi => ?_⟩
  have := h.cell x hx i hi
  rw [hb.cell (World.block_lt_of_cell? w _ this.1), hb.cell (World.block_lt_of_cell? w _ this.2)]
  exact this
theorem RdP.own {w : World} {base n : Nat} {E : TypeId} {v : Value} {l : List (Int × Int)} (h : w.ownsRow base E 2 v n (ppc l)) (hl : l.length = n) : ∃ a c, v = .slice a n c ∧ RdP w a n c l := by
  rcases h.2 with ⟨rfl, rfl⟩ | ⟨g, cap, cur, rfl, hb', hg, h1, h2, hs, ht⟩
  · exact ⟨none, 0, rfl, ⟨hl, Nat.le_refl _, Nat.zero_le _, fun _ => rfl, by simp⟩⟩
  · refine ⟨_, _, rfl, ⟨hl, h1, h2, by simp, fun x hx i hi => ?_⟩⟩
    obtain rfl := Option.some.inj hx
    have := ppc_get l i (by omega)
    exact ⟨h.cells (g := g) rfl _ _ this.1, h.cells (g := g) rfl _ _ this.2⟩

theorem cells_int : Try.prog.cellsOf 3 = 1 := by kernel_rfl
/-- Two pairs that are the same are equal. -/
theorem eq_pair (x y : Int) (W : World) : (Op.equalIn 10000 51 (.agg #[.int .i64 x, .int .i64 y]) (.agg #[.int .i64 x, .int .i64 y])).run Try.prog W = .ok true W := by
  obtain ⟨i0, hi, _, hz1, _⟩ := info_parts (P := Try.prog) (e := 3) (z := .int .i64 0) (size := 1) (bytes := 8) (by kernel_rfl)
  have hc : ∀ (v : Value) (d : Nat), (∃ z, v = .int .i64 z) → (Op.equalIn (d + 1) 3 v v).run Try.prog W = .ok true W := by
    rintro v d ⟨z, rfl⟩
    simp [Op.equalIn, run_underlying Try.underlying3]
  have hp : ∀ (xs : Array Value) (o : Nat) (v : Value), xs[o]? = some v → (part 3 xs o).run Try.prog W = .ok v W := fun xs o v hv => run_part_plain W (by kernel_rfl) hv
  rw [show (10000 : Nat) = 9999 + 1 from rfl, run_equalIn_array W 9999 _ _ Try.underlying51 hi, cells_int]
  show (Op.eqItems 9999 3 1 _ _ [0, 1]).run Try.prog W = _
  have p0 := hp #[.int .i64 x, .int .i64 y] (0 * 1) (.int .i64 x) rfl
  have p1 := hp #[.int .i64 x, .int .i64 y] (1 * 1) (.int .i64 y) rfl
  have e0 : (Op.equalIn 9999 3 (.int .i64 x) (.int .i64 x)).run Try.prog W = .ok true W := hc _ 9998 ⟨x, rfl⟩
  have e1 : (Op.equalIn 9999 3 (.int .i64 y) (.int .i64 y)).run Try.prog W = .ok true W := hc _ 9998 ⟨y, rfl⟩
  simp only [Op.eqItems, Sem.run_bind, p0, p1, e0, e1, Result.andThen_ok, Bool.not_true, Bool.false_eq_true, if_false]
  rfl

theorem pSame (a : Option Addr) (n c : Nat) (b : Option Addr) (m d : Nat) (l : List (Int × Int)) (w : World) (h : RdP w a n c l) (g : RdP w b m d l) :
    Calls Try.prog 24 #[.slice a n c, .slice b m d] w fun e w' => e = .returned (.bool true) ∧ Below w.heap.size w w' := by
  obtain rfl : n = m := h.len.symm.trans g.len
  have hcap := h.cap
  have hmax := h.max
  unfold maxLen at hmax
  go_enter Try.func24, Try.ntmps24
  go_wp2
  go_loopw [13] (fun i wr => ∃ k : Nat, k ≤ n ∧ i = .int .i64 k ∧ Below w.heap.size w wr) (fun i _ => n - (intOf i).toNat)
  case atStart => exact ⟨0, Nat.zero_le _, rfl, Below.refl _ _⟩
  case round =>
    obtain ⟨k, hk, rfl, hbel⟩ := hrel
    by_cases hlt : k < n
    · obtain ⟨b1, o1, x, y, rfl, hbb, HX, hcx, hcy⟩ := (h.below hbel).one hlt
      obtain ⟨b2, o2, x2, y2, rfl, hbb2, HX2, hcx2, hcy2⟩ := (g.below hbel).one hlt
      have e := HX.out.symm.trans HX2.out
      simp only [Prod.mk.injEq] at e
      obtain ⟨rfl, rfl⟩ := e
      have heq := eq_pair x y
      go_wp2
      go_region
      all_goals go_wp2
      all_goals
        go_roundw
        case rel => exact ⟨k + 1, by omega, by go_num, by first | exact hbel.drew | exact hbel.drew.drew⟩
        case measure => simp [intOf]; omega
    · have hkn : k = n := by omega
      subst hkn
      go_wp2
      go_ret
      exact ⟨rfl, hbel⟩
end
end Go.Proofs.Ytljlioglpaogdab
