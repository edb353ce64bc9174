/- slices.Sort of a few ints: INSERTION. · croftref.Fit, croftref.Open. · solve.takeTimes. -/
import Derived.Test.YtnofegdlainjaagDoorProg
import Derived.Test.YtnofegdlainjaagDoorToIntsC
import Derived.Test.YtnofegdlainjaagDoorToSortM
import Derived.Deep.QuietTactic
import Derived.BigQuiet
import Derived.BigRegion
import Derived.Test.YtnofegdlainjaagDoorToFieldC
import Derived.Test.YtnofegdlainjaagDoorToLagC
import Derived.Test.YtnofegdlainjaagDoorToShares
import Derived.Test.YtnofegdlainjaagDoorToPolyM
import Derived.Deep.RegionWith
namespace Go.Proofs.YtnofegdlainjaagDoor
open Go.RowKit Crm

theorem grown_drewN {a b : World} {r : Option Nat} (h : a.grownBy b r) (q : Nat) : a.grownBy (b.drewN q) r := ⟨h.os, h.tape, h.output, h.size, h.block⟩
set_option maxRecDepth 100000 in
theorem zLess (x y : Int) (w : World) :
    Calls Tryd.prog 120 #[.int .i64 x, .int .i64 y] w fun e w' => e = .returned (.bool (decide (x < y))) ∧ w' = w := by
  have hx : (x != x) = false := by simp
  go_enter Tryd.func120, Tryd.ntmps120
  by_cases h : x < y
  · go_wp2
    go_ret
    exact ⟨by simp [h], rfl⟩
  · go_wp2
    go_ret
    exact ⟨by simp [h], rfl⟩

set_option maxRecDepth 100000 in
set_option maxHeartbeats 1000000 in
theorem zLen64 (x : Nat) (w : World) (hx : x ≤ 12) :
    Calls Tryd.prog 124 #[.int .u64 x] w fun e w' => (∃ r, e = .returned (.int .i64 r)) ∧ w' = w := by
  match x, hx with
  | 0, _ => go_enter Tryd.func124, Tryd.ntmps124; go_wp2; go_ret; exact ⟨⟨_, rfl⟩, rfl⟩
  | 1, _ => go_enter Tryd.func124, Tryd.ntmps124; go_wp2; go_ret; exact ⟨⟨_, rfl⟩, rfl⟩
  | 2, _ => go_enter Tryd.func124, Tryd.ntmps124; go_wp2; go_ret; exact ⟨⟨_, rfl⟩, rfl⟩
  | 3, _ => go_enter Tryd.func124, Tryd.ntmps124; go_wp2; go_ret; exact ⟨⟨_, rfl⟩, rfl⟩
  | 4, _ => go_enter Tryd.func124, Tryd.ntmps124; go_wp2; go_ret; exact ⟨⟨_, rfl⟩, rfl⟩
  | 5, _ => go_enter Tryd.func124, Tryd.ntmps124; go_wp2; go_ret; exact ⟨⟨_, rfl⟩, rfl⟩
  | 6, _ => go_enter Tryd.func124, Tryd.ntmps124; go_wp2; go_ret; exact ⟨⟨_, rfl⟩, rfl⟩
  | 7, _ => go_enter Tryd.func124, Tryd.ntmps124; go_wp2; go_ret; exact ⟨⟨_, rfl⟩, rfl⟩
  | 8, _ => go_enter Tryd.func124, Tryd.ntmps124; go_wp2; go_ret; exact ⟨⟨_, rfl⟩, rfl⟩
  | 9, _ => go_enter Tryd.func124, Tryd.ntmps124; go_wp2; go_ret; exact ⟨⟨_, rfl⟩, rfl⟩
  | 10, _ => go_enter Tryd.func124, Tryd.ntmps124; go_wp2; go_ret; exact ⟨⟨_, rfl⟩, rfl⟩
  | 11, _ => go_enter Tryd.func124, Tryd.ntmps124; go_wp2; go_ret; exact ⟨⟨_, rfl⟩, rfl⟩
  | 12, _ => go_enter Tryd.func124, Tryd.ntmps124; go_wp2; go_ret; exact ⟨⟨_, rfl⟩, rfl⟩

set_option maxRecDepth 100000 in
theorem zLen (x : Nat) (w : World) (hx : x ≤ 12) :
    Calls Tryd.prog 111 #[.int .u64 x] w fun e w' => (∃ r, e = .returned (.int .i64 r)) ∧ w' = w := by
  go_enter Tryd.func111, Tryd.ntmps111
  go_wp2_with (go_at_call 124; refine (zLen64 _ _ hx).mono ?_; rintro e w3 ⟨⟨r, rfl⟩, hw⟩; have hw := hw.symm; subst hw)
  go_ret
  exact ⟨⟨_, rfl⟩, rfl⟩

set_option maxRecDepth 100000 in
set_option maxHeartbeats 1000000 in
theorem zIns (g n c base : Nat) (L : List Int) (w : World) (h : w.ownsRow base 3 1 (.slice (some ⟨g, 0, none⟩) n c) n (zns L)) (hn : n ≤ 12) :
    Calls Tryd.prog 114 #[.slice (some ⟨g, 0, none⟩) n c, .int .i64 0, .int .i64 n] w fun e w' => e = .returned (.tuple #[]) ∧ ∃ L', OuI L L' n ∧ w'.ownsRow base 3 1 (.slice (some ⟨g, 0, none⟩) n c) n (zns L') ∧ w.grownBy w' (some g) := by
  have hlL : L.length = n := by have := h.1; rw [zns_len] at this; omega
  have hcap : n ≤ c ∧ c ≤ maxLen := by
    rcases h.2 with ⟨e, _⟩ | ⟨_, _, _, e, _, _, h1, h2, _⟩
    · simp at e
    · simp only [Value.slice.injEq, true_and] at e
      obtain ⟨_, rfl⟩ := e
      exact ⟨h1, h2⟩
  unfold maxLen at hcap
  go_enter Tryd.func114, Tryd.ntmps114
  go_wp2
  go_loopw [6] (fun i wr => ∃ (k : Nat) (L' : List Int), 1 ≤ k ∧ k ≤ n + 1 ∧ i = .int .i64 k ∧ Hid (OuI L L' k) ∧ wr.ownsRow base 3 1 (.slice (some ⟨g, 0, none⟩) n c) n (zns L') ∧ w.grownBy wr (some g)) (fun i _ => n + 1 - (intOf i).toNat)
  case atStart => exact ⟨1, L, Nat.le_refl _, by omega, rfl, ⟨List.Perm.refl _, fun p q h1 h2 => by omega⟩, h, grown_below (Below.refl _ _) _⟩
  case round =>
    obtain ⟨k, L1, hk1, hkn, rfl, HO, hown, hgr⟩ := hrel
    by_cases hlt : k < n
    · have HI0 : Hid (InI L L1 k k) := in_start HO.out
      go_wp2
      obtain ⟨wo, hwo⟩ : ∃ wo, wo = wr := ⟨_, rfl⟩
      subst hwo
      go_loopw [7] (fun i wr => ∃ (j : Nat) (L' : List Int), j ≤ k ∧ i = .int .i64 j ∧ Hid (InI L L' k j) ∧ wr.ownsRow base 3 1 (.slice (some ⟨g, 0, none⟩) n c) n (zns L') ∧ w.grownBy wr (some g)) (fun i _ => (intOf i).toNat)
      case atStart => exact ⟨k, L1, Nat.le_refl _, rfl, HI0, hown, hgr⟩
      case round =>
        clear HI0 HO hown hgr
        obtain ⟨j, L2, hj, rfl, HI, hown, hgr⟩ := hrel
        have hl2 : L2.length = n := by have := hown.1; rw [zns_len] at this; omega
        cases j with
        | zero =>
          have HO2 : Hid (OuI L L2 (k + 1)) := in_end0 HI.out
          go_wp2
          go_quiet (fail)
          all_goals
            go_wp2
            go_roundw
            case rel => exact ⟨k + 1, L2, by omega, by omega, by go_num, HO2, hown, grown_drewN hgr _⟩
            case measure => simp [intOf]; omega
        | succ m =>
          obtain ⟨x, HX⟩ : ∃ x, Hid (L2.getD (m + 1) 0 = x) := ⟨_, rfl⟩
          obtain ⟨y, HY⟩ : ∃ y, Hid (L2.getD m 0 = y) := ⟨_, rfl⟩
          have hcx := zns_at hown (show m + 1 < n by omega)
          have hcy := zns_at hown (show m < n by omega)
          rw [HX.out] at hcx
          rw [HY.out] at hcy
          by_cases hxy : x < y
          · have hdec : decide (x < y) = true := by simp [hxy]
            have HI2 : Hid (InI L (swp L2 m) k m) := in_step HI.out (by omega) (by omega) (by rw [HX.out, HY.out]; exact hxy)
            clear hxy
            go_wp2
            go_quiet ((go_at_call 120; exact Calls.quiet_of_same (zLess _ _ _)))
            have hcx2 : (wr.drewN nq).cell? ⟨g, m + 1, none⟩ = some (.int .i64 x) := hcx
            have hcy2 : (wr.drewN nq).cell? ⟨g, m, none⟩ = some (.int .i64 y) := hcy
            have hown2 : (wr.drewN nq).ownsRow base 3 1 (.slice (some ⟨g, 0, none⟩) n c) n (zns L2) := hown
            have hgr2 := grown_drewN hgr nq
            generalize wr.drewN nq = wd at *
            have hf1 := own_frozen hown2 (m + 1)
            have hf2 := own_frozen hown2 m
            have hown3 := own_set (own_set hown2 (m + 1) (.int .i64 y)) m (.int .i64 x)
            have hgr3 := grown_trans hgr2 (grown_trans (grown_set wd g (m + 1) (.int .i64 y)) (grown_set _ g m (.int .i64 x)))
            have HE : Hid ((L2.set (m + 1) y).set m x = swp L2 m) := by unfold Hid swp; rw [HX.out, HY.out]
            rw [zns_set, zns_set, HE.out] at hown3
            go_wp2
            go_region
            all_goals
              go_wp2
              go_roundw
              case rel => exact ⟨m, _, by omega, by go_num, HI2, hown3, by first | exact hgr3 | exact grown_drew hgr3⟩
              case measure => simp [intOf]
          · have hdec : decide (x < y) = false := by simp; omega
            have HO2 : Hid (OuI L L2 (k + 1)) := in_end HI.out (by omega) (by rw [HX.out, HY.out]; omega)
            clear hxy
            go_wp2
            go_quiet ((go_at_call 120; exact Calls.quiet_of_same (zLess _ _ _)))
            all_goals
              go_wp2
              go_roundw
              case rel => exact ⟨k + 1, L2, by omega, by omega, by go_num, HO2, hown, grown_drewN hgr _⟩
              case measure => simp [intOf]; omega
    · have HO2 : Hid (OuI L L1 n) := ⟨HO.out.perm, fun p q h1 h2 => HO.out.srt p q h1 (by omega)⟩
      go_wp2
      exact bodyPost_end (v := .tuple #[]) (by simp [results, Tryd.results114, go_sem]) rfl ⟨rfl, L1, HO2.out, hown, hgr⟩

/-- What Sort leaves: the same ints, in order. -/
def Sorted_ (base n : Nat) (v : Value) (L : List Int) (w : World) (e : Ending) (w' : World) : Prop :=
  e = .returned (.tuple #[]) ∧ ∃ L', OuI L L' n ∧ w'.ownsRow base 3 1 v n (zns L') ∧ w.grownBy w' v.ownBlock

set_option maxRecDepth 100000 in
theorem zPdq (g n c base : Nat) (L : List Int) (r : Int) (w : World) (h : w.ownsRow base 3 1 (.slice (some ⟨g, 0, none⟩) n c) n (zns L)) (hn : n ≤ 12) :
    Calls Tryd.prog 110 #[.slice (some ⟨g, 0, none⟩) n c, .int .i64 0, .int .i64 n, .int .i64 r] w fun e w' => Sorted_ base n (.slice (some ⟨g, 0, none⟩) n c) L w e w' := by
  go_enter Tryd.func110, Tryd.ntmps110
  go_wp2
  go_loopw [1, 2] (fun a b wr => a = .int .i64 0 ∧ b = .int .i64 n ∧ wr = w) (fun _ _ _ => 0)
  case atStart => exact ⟨rfl, rfl, rfl⟩
  case round =>
    obtain ⟨rfl, rfl, hw⟩ := hrel
    subst hw
    go_wp2_with fail
    refine (zIns _ _ _ _ _ _ h hn).mono ?_
    rintro e w1 ⟨rfl, L', hO, hown, hgr⟩
    go_wp2
    exact bodyPost_ret (v := .tuple #[]) (by simp [results, Tryd.results110, go_sem]) rfl ⟨rfl, L', hO, hown, hgr⟩

set_option maxRecDepth 100000 in
theorem zSort (g n c base : Nat) (L : List Int) (w : World) (h : w.ownsRow base 3 1 (.slice (some ⟨g, 0, none⟩) n c) n (zns L)) (hn : n ≤ 12) :
    Calls Tryd.prog 103 #[.slice (some ⟨g, 0, none⟩) n c] w fun e w' => Sorted_ base n (.slice (some ⟨g, 0, none⟩) n c) L w e w' := by
  go_enter Tryd.func103, Tryd.ntmps103
  go_wp2_with fail
  refine (zLen _ _ hn).mono ?_
  rintro e w3 ⟨⟨r, rfl⟩, hw⟩
  have hw := hw.symm
  subst hw
  go_wp2_with fail
  refine (zPdq _ _ _ _ _ _ _ h hn).mono ?_
  rintro e w1 ⟨rfl, L', hO, hown, hgr⟩
  go_wp2
  exact bodyPost_end (v := .tuple #[]) (by simp [results, Tryd.results103, go_sem]) rfl ⟨rfl, L', hO, hown, hgr⟩

set_option maxRecDepth 100000 in
theorem zIns0 (a : Option Addr) (c : Nat) (w : World) :
    Calls Tryd.prog 114 #[.slice a 0 c, .int .i64 0, .int .i64 0] w fun e w' => e = .returned (.tuple #[]) ∧ w' = w := by
  go_enter Tryd.func114, Tryd.ntmps114
  go_wp2
  go_loopw [6] (fun i wr => i = .int .i64 1 ∧ wr = w) (fun _ _ => 0)
  case atStart => exact ⟨rfl, rfl⟩
  case round =>
    obtain ⟨rfl, hw⟩ := hrel
    subst hw
    go_wp2
    exact bodyPost_end (v := .tuple #[]) (by simp [results, Tryd.results114, go_sem]) rfl ⟨rfl, rfl⟩
set_option maxRecDepth 100000 in
theorem zPdq0 (a : Option Addr) (c : Nat) (r : Int) (w : World) :
    Calls Tryd.prog 110 #[.slice a 0 c, .int .i64 0, .int .i64 0, .int .i64 r] w fun e w' => e = .returned (.tuple #[]) ∧ w' = w := by
  go_enter Tryd.func110, Tryd.ntmps110
  go_wp2
  go_loopw [1, 2] (fun x b wr => x = .int .i64 0 ∧ b = .int .i64 0 ∧ wr = w) (fun _ _ _ => 0)
  case atStart => exact ⟨rfl, rfl, rfl⟩
  case round =>
    obtain ⟨rfl, rfl, hw⟩ := hrel
    subst hw
    go_wp2_with fail
    refine (zIns0 _ _ _).mono ?_
    rintro e w1 ⟨rfl, hw⟩
    have hw := hw.symm
    subst hw
    go_wp2
    exact bodyPost_ret (v := .tuple #[]) (by simp [results, Tryd.results110, go_sem]) rfl ⟨rfl, rfl⟩
set_option maxRecDepth 100000 in
theorem zSort0 (a : Option Addr) (c : Nat) (w : World) :
    Calls Tryd.prog 103 #[.slice a 0 c] w fun e w' => e = .returned (.tuple #[]) ∧ w' = w := by
  go_enter Tryd.func103, Tryd.ntmps103
  go_wp2_with fail
  refine (zLen 0 _ (by omega)).mono ?_
  rintro e w3 ⟨⟨r, rfl⟩, hw⟩
  have hw := hw.symm
  subst hw
  go_wp2_with fail
  refine (zPdq0 _ _ _ _).mono ?_
  rintro e w1 ⟨rfl, hw⟩
  have hw := hw.symm
  subst hw
  go_wp2
  exact bodyPost_end (v := .tuple #[]) (by simp [results, Tryd.results103, go_sem]) rfl ⟨rfl, rfl⟩

/-- Sort of what a call has gathered, nil too. -/
theorem zSorts (v : Value) (n base : Nat) (L : List Int) (w : World) (h : w.ownsRow base 3 1 v n (zns L)) (hn : n ≤ 12) :
    Calls Tryd.prog 103 #[v] w fun e w' => Sorted_ base n v L w e w' := by
  rcases h.2 with ⟨rfl, rfl⟩ | ⟨g, cap, cur, rfl, _⟩
  · refine (zSort0 _ _ _).mono ?_
    rintro e w' ⟨rfl, rfl⟩
    exact ⟨rfl, L, ⟨List.Perm.refl _, fun p q _ hq => by omega⟩, h, grown_below (Below.refl _ _) _⟩
  · exact zSort _ _ _ _ _ _ h hn
end Go.Proofs.YtnofegdlainjaagDoor

namespace Go.Proofs.YtnofegdlainjaagDoor
open Go.RowKit Crm

theorem RdS.take {w : World} {a : Option Addr} {n c : Nat} {l : List (Int × Int)} (h : RdS w a n c l) {k : Nat} (hk : k ≤ n) : RdS w a k c (l.take k) := by
  have e : ∀ i, i < k → (l.take k).getD i (0, 0) = l.getD i (0, 0) := fun i hi => by simp [hi]
  refine ⟨by have := h.len; simp; omega, by have := h.cap; omega, h.max, fun i hi => ?_, h.nil, fun x hx i hi => ?_⟩
  · rw [e i hi]; exact h.bd i (by omega)
  · rw [e i hi]; exact h.cell x hx i (by omega)

/-- What Fit gives. -/
def FitsO (l : List (Int × Int)) (n m : Nat) (w : World) (e : Ending) (w' : World) : Prop :=
  ∃ (p : List Int) (ap : Option Addr) (cp : Nat) (B : List Int) (ab : Option Addr) (cb : Nat), e = .returned (.tuple #[.slice ap p.length cp, .slice ab (bdl l p n).length cb]) ∧ w'.ownsRow w.heap.size 34 1 (.slice ap p.length cp) p.length (p.map (Value.int .u64)) ∧ p.length ≤ m ∧ Hs l m p ∧ Nml p ∧
    w'.ownsRow w.heap.size 3 1 (.slice ab (bdl l p n).length cb) (bdl l p n).length (zns B) ∧ OuI (bdl l p n) B (bdl l p n).length ∧ Below w.heap.size w w'

/-- What Fit gives, to be read. -/
def Fits (l : List (Int × Int)) (n m : Nat) (w : World) (e : Ending) (w' : World) : Prop :=
  ∃ (p : List Int) (ap : Option Addr) (cp : Nat) (B : List Int) (ab : Option Addr) (cb : Nat), e = .returned (.tuple #[.slice ap p.length cp, .slice ab (bdl l p n).length cb]) ∧ Rd w' ap p.length cp p ∧ p.length ≤ m ∧ Hs l m p ∧ Nml p ∧
    w'.ownsRow w.heap.size 3 1 (.slice ab (bdl l p n).length cb) (bdl l p n).length (zns B) ∧ OuI (bdl l p n) B (bdl l p n).length ∧ Below w.heap.size w w'
end Go.Proofs.YtnofegdlainjaagDoor

namespace Go.Proofs.YtnofegdlainjaagDoor
open Go.RowKit Crm

/-- L, from which t times D has been taken at the first k places. -/
structure Tk (L D : List Int) (t : Int) (k : Nat) (A : List Int) : Prop where
  len : A.length = L.length
  bd : ∀ x ∈ A, 0 ≤ x ∧ x ≤ 2147483646
  at_ : ∀ j, j < L.length → A.getD j 0 = if j < k then nm (L.getD j 0 - t * D.getD j 0) else L.getD j 0

theorem set_bd {A : List Int} {k : Nat} {v : Int} (h : ∀ x ∈ A, 0 ≤ x ∧ x ≤ 2147483646) (hv : 0 ≤ v ∧ v ≤ 2147483646) : ∀ x ∈ A.set k v, 0 ≤ x ∧ x ≤ 2147483646 := fun x hx => by
  rcases List.mem_or_eq_of_mem_set hx with h1 | h1
  · exact h x h1
  · rw [h1]; exact hv
theorem tk_start (L D : List Int) (t : Int) (h : ∀ x ∈ L, 0 ≤ x ∧ x ≤ 2147483646) : Tk L D t 0 L := ⟨rfl, h, fun j _ => by rw [if_neg (by omega)]⟩
theorem tk_step {L D A : List Int} {t : Int} {k : Nat} (h : Tk L D t k A) (hk : k < L.length) {v : Int} (hv : v = nm (L.getD k 0 - t * D.getD k 0)) : Tk L D t (k + 1) (A.set k v) := by
  refine ⟨by rw [List.length_set]; exact h.len, set_bd h.bd (by rw [hv]; exact nm_bd _), fun j hj => ?_⟩
  rw [getD_set]
  by_cases e : j = k
  · subst e
    rw [if_pos ⟨rfl, by rw [h.len]; exact hk⟩, if_pos (by omega), hv]
  · rw [if_neg (by omega), h.at_ j hj]
    by_cases e2 : j < k
    · rw [if_pos e2, if_pos (by omega)]
    · rw [if_neg e2, if_neg (by omega)]

set_option maxHeartbeats 400000 in
set_option maxRecDepth 100000 in
theorem cTake (g n : Nat) (L : List Int) (ab : Option Addr) (cb : Nat) (D : List Int) (t : Int) (w : World)
    (hL : Blk w g L) (hLb : ∀ x ∈ L, 0 ≤ x ∧ x ≤ 2147483646) (hD : Rd w ab n cb D) (hne : ∀ x, ab = some x → x.block ≠ g) (hln : L.length = n) (hn : n ≤ 1000000) (ht0 : 0 ≤ t) (ht1 : t ≤ 18446744073709551615) :
    Calls Tryd.prog 113 #[.slice (some ⟨g, 0, none⟩) n n, .slice ab n cb, .int .u64 t] w fun e w' => ∃ A, e = .returned (.tuple #[]) ∧ Tk L D t n A ∧ Blk w' g A ∧ w.grownBy w' (some g) := by
  have hlen := hD.len
  go_enter Tryd.func113, Tryd.ntmps113
  go_wp2
  go_loopw [10] (fun i wr => ∃ (k : Nat) (A : List Int), k ≤ n ∧ i = .int .i64 k ∧ Hid (Tk L D t k A) ∧ Blk wr g A ∧ w.grownBy wr (some g)) (fun i _ => n - (intOf i).toNat)
  case atStart => exact ⟨0, L, Nat.zero_le _, rfl, tk_start L D t hLb, hL, World.grownBy.refl _ _⟩
  case round =>
    obtain ⟨k, A, hk, rfl, HT, hblk, hgr⟩ := hrel
    have hlA : A.length = n := by rw [HT.out.len]; exact hln
    by_cases hlt : k < n
    · have hDr : Rd wr ab n cb D := hD.grown hgr (fun x hx => by simpa using hne x hx)
      obtain ⟨b, ob, x, rfl, hb, HX, hx0, hx1, hc⟩ := hDr.one hlt
      have hbg : b ≠ g := hne _ rfl
      have hcell := hblk.cell (i := k) (by omega)
      have hfz := hblk.frozen k
      obtain ⟨y, hy⟩ : ∃ y, y = A.getD k 0 := ⟨_, rfl⟩
      have HY : Hid (y = L.getD k 0) := by rw [hy, HT.out.at_ _ (by omega), if_neg (by omega)]; exact rfl
      have hyb : 0 ≤ y ∧ y ≤ 2147483646 := by rw [hy]; exact getD_bd' HT.out.bd _
      rw [← hy] at hcell
      clear hy
      have hm := nm_bd (t * x)
      have hk0 : (0 : Int) ≤ (k : Int) := by omega
      have hkn : (k : Int) < (n : Int) := by omega
      have HT2 : Hid (Tk L D t (k + 1) (A.set k (nm (y - nm (t * x))))) := tk_step HT.out (by omega) (by rw [nm_subr, HY.out, HX.out])
      have Hblk' : Hid (Blk (wr.setCell ⟨g, k, none⟩ (.int .u64 (nm (y - nm (t * x))))) g (A.set k (nm (y - nm (t * x))))) := hblk.set k _
      have Hgr' : Hid (w.grownBy (wr.setCell ⟨g, k, none⟩ (.int .u64 (nm (y - nm (t * x))))) (some g)) := grown_trans hgr (grown_set _ _ _ _)
      clear hblk hgr hDr hD hL HT
      go_wp2
      go_region_with (first | (go_at_call 47; refine (fMul _ _ _ (by omega) (by omega) (by omega) (by omega)).mono ?_; rintro e w' ⟨rfl, rfl⟩) | (go_at_call 53; refine (fSub _ _ _ (by omega) (by omega) (by omega) (by omega)).mono ?_; rintro e w' ⟨rfl, rfl⟩))
      all_goals
        go_wp2
        go_roundw
        case rel => exact ⟨k + 1, _, by omega, by go_num, HT2, Hblk'.out, grown_drew Hgr'.out⟩
        case measure => simp [intOf]; omega
    · have hkl : k = n := by omega
      subst hkl
      go_wp2
      exact bodyPost_end (v := .tuple #[]) (by simp [results, Tryd.results113, go_sem]) rfl ⟨A, rfl, HT.out, hblk, hgr⟩
end Go.Proofs.YtnofegdlainjaagDoor
