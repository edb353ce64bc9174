/- poly.value, slices.Equal. · croftref.Wire. · slices.Sort of a few ints: INSERTION. · slices.Equal of ints. -/
import Derived.Test.YtljlioglpaogdagDoorToPlaceT
import Derived.Test.YtljlioglpaogdagDoorToGaussM
import Derived.Test.YtljlioglpaogdagDoorToSubC
import Derived.Deep.QuietTactic
import Derived.BigQuiet
import Derived.Test.YtljlioglpaogdagDoorToCircM
import Derived.Test.YtljlioglpaogdagDoorProg
import Derived.BigRegion
namespace Go.Proofs.YtljlioglpaogdagDoor
set_option linter.unusedVariables false
set_option maxRecDepth 100000
set_option maxHeartbeats 8000000
section
open Crm Go.RowKit
theorem drewN_below {B : Nat} {a w : World} (h : Below B a w) (n : Nat) : Below B a (w.drewN n) := by
  induction n with
  | zero => exact h
  | succ n ih => exact ih.drew

theorem horner (xs : List Int) (x : Int) {m : Nat} {y z : Int} (h : m < xs.length) (hy : y = nm (ev (xs.drop (m + 1)) x)) (hz : xs.getD m 0 = z) : nm (nm (y * x) + z) = nm (ev (xs.drop m) x) := by
  rw [ev_drop xs x h, hy, hz, nm_addl]
  have : ∀ E : Int, nm (nm E * x + z) = nm (z + x * E) := fun E => by
    rw [Int.add_comm, ← nm_addr, nm_mull, nm_addr, Int.mul_comm x]
  exact this _

theorem cValueQ (a : Option Addr) (n c : Nat) (xs : List Int) (x : Int) (w : World) (h : Rd w a n c xs) (hx0 : 0 ≤ x) (hx1 : x ≤ 18446744073709551615) :
    Calls Tryd.prog 84 #[.slice a n c, .int .u64 x] w fun e w' => e = .returned (.int .u64 (nm (ev xs x))) ∧ ∃ q, w' = w.drewN q := by
  have hm := h.max
  have hcap := h.cap
  have hlen := h.len
  unfold maxLen at hm
  go_enter Tryd.func84, Tryd.ntmps84
  go_wp2
  go_loopw [5, 6] (fun s i wr => ∃ (k : Nat) (y : Int) (q : Nat), k ≤ n ∧ i = .int .i64 ((k : Int) - 1) ∧ s = .int .u64 y ∧ 0 ≤ y ∧ y ≤ 2147483646 ∧ Hid (y = nm (ev (xs.drop k) x)) ∧ wr = w.drewN q) (fun _ i _ => (intOf i + 1).toNat)
  case atStart => exact ⟨n, 0, 0, Nat.le_refl _, rfl, rfl, by omega, by omega, by rw [List.drop_of_length_le (by omega)]; exact rfl, rfl⟩
  case round =>
    obtain ⟨k, y, q, hk, rfl, rfl, hy0, hy1, HY, hwr⟩ := hrel
    have hbel : Below w.heap.size w wr := by rw [hwr]; exact drewN_below (Below.refl _ _) q
    have HW : Hid (wr = w.drewN q) := hwr
    clear hwr
    cases k with
    | zero =>
      go_wp2
      go_ret
      rw [← List.drop_zero (l := xs), ← HY.out]
      exact ⟨rfl, q, HW.out⟩
    | succ m =>
      obtain ⟨b, o, z, rfl, hb, HZ, hz0, hz1, hc⟩ := (h.below hbel).one (show m < n by omega)
      have hmul := nm_bd (y * x)
      have hk0 : (0 : Int) ≤ (m : Int) := by omega
      have hkn : (m : Int) < (n : Int) := by omega
      go_wp2
      go_quiet ((first | (go_at_call 49; exact Calls.quiet_of_same (fMul _ _ _ (by omega) (by omega) (by omega) (by omega))) | (go_at_call 45; exact Calls.quiet_of_same (fAdd _ _ _ (by omega) (by omega) (by omega) (by omega)))))
      all_goals
        go_wp2
        go_roundw
        case rel => exact ⟨m, _, _, by omega, by go_num, rfl, (nm_bd _).1, (nm_bd _).2, horner xs x (by omega) HY.out HZ.out, by rw [HW.out, World.drewN_drewN]⟩
        case measure => simp [intOf]

theorem cValue (a : Option Addr) (n c : Nat) (xs : List Int) (x : Int) (w : World) (h : Rd w a n c xs) (hx0 : 0 ≤ x) (hx1 : x ≤ 18446744073709551615) :
    Calls Tryd.prog 84 #[.slice a n c, .int .u64 x] w fun e w' => e = .returned (.int .u64 (nm (ev xs x))) ∧ Below w.heap.size w w' := by
  refine (cValueQ _ _ _ _ _ _ h hx0 hx1).mono ?_
  rintro e w' ⟨he, q, rfl⟩
  exact ⟨he, drewN_below (Below.refl _ _) q⟩

theorem take_eq {xs ys : List Int} {k : Nat} (h1 : k < xs.length) (h2 : k < ys.length) (h : xs.take k = ys.take k) (e : xs.getD k 0 = ys.getD k 0) : xs.take (k + 1) = ys.take (k + 1) := by
  rw [List.take_succ_eq_append_getElem h1, List.take_succ_eq_append_getElem h2, h]
  congr 2
  simpa [List.getElem?_eq_getElem h1, List.getElem?_eq_getElem h2] using e

theorem cEqual (a : Option Addr) (n c : Nat) (xs : List Int) (b : Option Addr) (m d : Nat) (ys : List Int) (w : World) (h : Rd w a n c xs) (g : Rd w b m d ys) :
    Calls Tryd.prog 20 #[.slice a n c, .slice b m d] w fun e w' => e = .returned (.bool (xs == ys)) ∧ Below w.heap.size w w' := by
  have hm := h.max
  have hcap := h.cap
  have hlen := h.len
  have gm := g.max
  have gcap := g.cap
  have glen := g.len
  unfold maxLen at hm gm
  by_cases hnm : n = m
  · subst hnm
    go_enter Tryd.func20, Tryd.ntmps20
    go_wp2
    go_loopw [13] (fun i wr => ∃ k : Nat, k ≤ n ∧ i = .int .i64 k ∧ Hid (xs.take k = ys.take k) ∧ Below w.heap.size w wr) (fun i _ => n - (intOf i).toNat)
    case atStart => exact ⟨0, Nat.zero_le _, rfl, rfl, Below.refl _ _⟩
    case round =>
      obtain ⟨k, hk, rfl, HT, hbel⟩ := hrel
      by_cases hlt : k < n
      · obtain ⟨b1, o1, x, rfl, hb1, HX, hx0, hx1, hc1⟩ := (h.below hbel).one hlt
        obtain ⟨b2, o2, y, rfl, hb2, HY, hy0, hy1, hc2⟩ := (g.below hbel).one hlt
        by_cases hxy : x = y
        · subst hxy
          go_wp2
          go_region
          all_goals go_wp2
          all_goals
            go_roundw
            case rel => exact ⟨k + 1, by omega, by go_num, take_eq (by omega) (by omega) HT.out (HX.out.trans HY.out.symm), by first | exact hbel.drew | exact hbel.drew.drew⟩
            case measure => simp [intOf]; omega
        · have hxb : (x != y) = true := by rw [bne_iff_ne]; exact hxy
          go_wp2
          have HE : Hid ((xs == ys) = false) := by
            refine beq_eq_false_iff_ne.2 fun e => hxy ?_
            rw [← HX.out, ← HY.out, e]
          go_region
          all_goals go_wp2
          all_goals
            go_ret
            rw [HE.out]
            exact ⟨rfl, by first | exact hbel.drew | exact hbel.drew.drew⟩
      · have HE : Hid ((xs == ys) = true) := by
          refine beq_iff_eq.2 ?_
          have := HT.out
          rwa [List.take_of_length_le (by omega), List.take_of_length_le (by omega)] at this
        go_wp2
        go_ret
        rw [HE.out]
        exact ⟨rfl, hbel⟩
  · have hb : ((n : Int) != (m : Int)) = true := by rw [bne_iff_ne]; omega
    go_enter Tryd.func20, Tryd.ntmps20
    have HE : Hid ((xs == ys) = false) := beq_eq_false_iff_ne.2 fun e => hnm (by rw [← hlen, ← glen, e])
    go_wp2
    go_ret
    rw [HE.out]
    exact ⟨rfl, Below.refl _ _⟩

theorem nil_rd (w : World) : Rd w none 0 0 [] := ⟨rfl, Nat.le_refl _, Nat.zero_le _, by simp, fun _ => rfl, by simp⟩

/-- Two slices that read the same are equal. -/
theorem cSame (a : Option Addr) (n c : Nat) (xs : List Int) (b : Option Addr) (m d : Nat) (w : World) (h : Rd w a n c xs) (g : Rd w b m d xs) :
    Calls Tryd.prog 20 #[.slice a n c, .slice b m d] w fun e w' => e = .returned (.bool true) ∧ Below w.heap.size w w' := by
  refine (cEqual _ _ _ _ _ _ _ _ _ h g).mono ?_
  rintro e w' ⟨rfl, hb⟩
  exact ⟨by rw [beq_self_eq_true], hb⟩
/-- Slices of which the lengths are read. -/
structure RdL (w : World) (g k : Nat) (ns : List Nat) : Prop where
  len : ns.length = k
  lt : g < w.heap.size
  cell : ∀ i, i < k → ∃ ai ci, w.cell? ⟨g, i, none⟩ = some (.slice ai (ns.getD i 0) ci)
theorem rdL_one (w : World) (a : Option Addr) (n c : Nat) (E : TypeId) : RdL (w.alloc (.cells #[.slice a n c] E)) w.heap.size 1 [n] := by
  refine ⟨rfl, by simp, fun i hi => ?_⟩
  obtain rfl : i = 0 := by omega
  exact ⟨a, c, by rw [cell_of_row _ _ 0 _ E (0, 0) (heap_alloc_new w _)]; rfl⟩
theorem rdL_two (w : World) (a : Option Addr) (n c : Nat) (b : Option Addr) (m d : Nat) (E : TypeId) : RdL (w.alloc (.cells #[.slice a n c, .slice b m d] E)) w.heap.size 2 [n, m] := by
  refine ⟨rfl, by simp, fun i hi => ?_⟩
  match i, hi with
  | 0, _ => exact ⟨a, c, by rw [cell_of_row _ _ 0 _ E (0, 0) (heap_alloc_new w _)]; rfl⟩
  | 1, _ => exact ⟨b, d, by rw [cell_of_row _ _ 1 _ E (0, 0) (heap_alloc_new w _)]; rfl⟩
theorem RdL.below {w w' : World} {g k : Nat} {ns : List Nat} (h : RdL w g k ns) (hb : Below w.heap.size w w') : RdL w' g k ns := by
  refine ⟨h.len, Nat.lt_of_lt_of_le h.lt hb.size, fun i hi => ?_⟩
  obtain ⟨a, c, e⟩ := h.cell i hi
  exact ⟨a, c, by rw [hb.cell (World.block_lt_of_cell? w _ e)]; exact e⟩
/-- Lists of 1 to 9 numbers, all as long. -/
def Wk (ns : List Nat) (k : Nat) : Prop := (1 ≤ ns.getD 0 0 ∧ ns.getD 0 0 ≤ 9) ∧ ∀ i, i < k → ns.getD i 0 = ns.getD 0 0
theorem grown_drewN {a b : World} {r : Option Nat} (h : a.grownBy b r) (q : Nat) : a.grownBy (b.drewN q) r := ⟨h.os, h.tape, h.output, h.size, h.block⟩
theorem zLess (x y : Int) (w : World) :
    Calls Tryd.prog 130 #[.int .i64 x, .int .i64 y] w fun e w' => e = .returned (.bool (decide (x < y))) ∧ w' = w := by
  have hx : (x != x) = false := by simp
  go_enter Tryd.func130, Tryd.ntmps130
  by_cases h : x < y
  · go_wp2
    go_ret
    exact ⟨by simp [h], rfl⟩
  · go_wp2
    go_ret
    exact ⟨by simp [h], rfl⟩

theorem zLen64 (x : Nat) (w : World) (hx : x ≤ 12) :
    Calls Tryd.prog 134 #[.int .u64 x] w fun e w' => (∃ r, e = .returned (.int .i64 r)) ∧ w' = w := by
  match x, hx with
  | 0, _ => go_enter Tryd.func134, Tryd.ntmps134; go_wp2; go_ret; exact ⟨⟨_, rfl⟩, rfl⟩
  | 1, _ => go_enter Tryd.func134, Tryd.ntmps134; go_wp2; go_ret; exact ⟨⟨_, rfl⟩, rfl⟩
  | 2, _ => go_enter Tryd.func134, Tryd.ntmps134; go_wp2; go_ret; exact ⟨⟨_, rfl⟩, rfl⟩
  | 3, _ => go_enter Tryd.func134, Tryd.ntmps134; go_wp2; go_ret; exact ⟨⟨_, rfl⟩, rfl⟩
  | 4, _ => go_enter Tryd.func134, Tryd.ntmps134; go_wp2; go_ret; exact ⟨⟨_, rfl⟩, rfl⟩
  | 5, _ => go_enter Tryd.func134, Tryd.ntmps134; go_wp2; go_ret; exact ⟨⟨_, rfl⟩, rfl⟩
  | 6, _ => go_enter Tryd.func134, Tryd.ntmps134; go_wp2; go_ret; exact ⟨⟨_, rfl⟩, rfl⟩
  | 7, _ => go_enter Tryd.func134, Tryd.ntmps134; go_wp2; go_ret; exact ⟨⟨_, rfl⟩, rfl⟩
  | 8, _ => go_enter Tryd.func134, Tryd.ntmps134; go_wp2; go_ret; exact ⟨⟨_, rfl⟩, rfl⟩
  | 9, _ => go_enter Tryd.func134, Tryd.ntmps134; go_wp2; go_ret; exact ⟨⟨_, rfl⟩, rfl⟩
  | 10, _ => go_enter Tryd.func134, Tryd.ntmps134; go_wp2; go_ret; exact ⟨⟨_, rfl⟩, rfl⟩
  | 11, _ => go_enter Tryd.func134, Tryd.ntmps134; go_wp2; go_ret; exact ⟨⟨_, rfl⟩, rfl⟩
  | 12, _ => go_enter Tryd.func134, Tryd.ntmps134; go_wp2; go_ret; exact ⟨⟨_, rfl⟩, rfl⟩

theorem zLen (x : Nat) (w : World) (hx : x ≤ 12) :
    Calls Tryd.prog 121 #[.int .u64 x] w fun e w' => (∃ r, e = .returned (.int .i64 r)) ∧ w' = w := by
  go_enter Tryd.func121, Tryd.ntmps121
  go_wp2_with (go_at_call 134; refine (zLen64 _ _ hx).mono ?_; rintro e w3 ⟨⟨r, rfl⟩, hw⟩; have hw := hw.symm; subst hw)
  go_ret
  exact ⟨⟨_, rfl⟩, rfl⟩

theorem zIns (g n c base : Nat) (L : List Int) (w : World) (h : w.ownsRow base 3 1 (.slice (some ⟨g, 0, none⟩) n c) n (zns L)) (hn : n ≤ 12) :
    Calls Tryd.prog 124 #[.slice (some ⟨g, 0, none⟩) n c, .int .i64 0, .int .i64 n] w fun e w' => e = .returned (.tuple #[]) ∧ ∃ L', OuI L L' n ∧ w'.ownsRow base 3 1 (.slice (some ⟨g, 0, none⟩) n c) n (zns L') ∧ w.grownBy w' (some g) := by
  have hlL : L.length = n := by have := h.1; rw [zns_len] at this; omega
  have hcap : n ≤ c ∧ c ≤ maxLen := by
    rcases h.2 with ⟨e, _⟩ | ⟨_, _, _, e, _, _, h1, h2, _⟩
    · simp at e
    · simp only [Value.slice.injEq, true_and] at e
      obtain ⟨_, rfl⟩ := e
      exact ⟨h1, h2⟩
  unfold maxLen at hcap
  go_enter Tryd.func124, Tryd.ntmps124
  go_wp2
  go_loopw [6] (fun i wr => ∃ (k : Nat) (L' : List Int), 1 ≤ k ∧ k ≤ n + 1 ∧ i = .int .i64 k ∧ Hid (OuI L L' k) ∧ wr.ownsRow base 3 1 (.slice (some ⟨g, 0, none⟩) n c) n (zns L') ∧ w.grownBy wr (some g)) (fun i _ => n + 1 - (intOf i).toNat)
  case atStart => exact ⟨1, L, Nat.le_refl _, by omega, rfl, ⟨List.Perm.refl _, fun p q h1 h2 => by omega⟩, h, grown_below (Below.refl _ _) _⟩
  case round =>
    obtain ⟨k, L1, hk1, hkn, rfl, HO, hown, hgr⟩ := hrel
    by_cases hlt : k < n
    · have HI0 : Hid (InI L L1 k k) := in_start HO.out
      go_wp2
      obtain ⟨wo, hwo⟩ : ∃ wo, wo = wr := ⟨_, rfl⟩
      subst hwo
      go_loopw [7] (fun i wr => ∃ (j : Nat) (L' : List Int), j ≤ k ∧ i = .int .i64 j ∧ Hid (InI L L' k j) ∧ wr.ownsRow base 3 1 (.slice (some ⟨g, 0, none⟩) n c) n (zns L') ∧ w.grownBy wr (some g)) (fun i _ => (intOf i).toNat)
      case atStart => exact ⟨k, L1, Nat.le_refl _, rfl, HI0, hown, hgr⟩
      case round =>
        clear HI0 HO hown hgr
        obtain ⟨j, L2, hj, rfl, HI, hown, hgr⟩ := hrel
        have hl2 : L2.length = n := by have := hown.1; rw [zns_len] at this; omega
        cases j with
        | zero =>
          have HO2 : Hid (OuI L L2 (k + 1)) := in_end0 HI.out
          go_wp2
          go_quiet (fail)
          all_goals
            go_wp2
            go_roundw
            case rel => exact ⟨k + 1, L2, by omega, by omega, by go_num, HO2, hown, grown_drewN hgr _⟩
            case measure => simp [intOf]; omega
        | succ m =>
          obtain ⟨x, HX⟩ : ∃ x, Hid (L2.getD (m + 1) 0 = x) := ⟨_, rfl⟩
          obtain ⟨y, HY⟩ : ∃ y, Hid (L2.getD m 0 = y) := ⟨_, rfl⟩
          have hcx := zns_at hown (show m + 1 < n by omega)
          have hcy := zns_at hown (show m < n by omega)
          rw [HX.out] at hcx
          rw [HY.out] at hcy
          by_cases hxy : x < y
          · have hdec : decide (x < y) = true := by simp [hxy]
            have HI2 : Hid (InI L (swp L2 m) k m) := in_step HI.out (by omega) (by omega) (by rw [HX.out, HY.out]; exact hxy)
            clear hxy
            go_wp2
            go_quiet ((go_at_call 130; exact Calls.quiet_of_same (zLess _ _ _)))
            have hcx2 : (wr.drewN nq).cell? ⟨g, m + 1, none⟩ = some (.int .i64 x) := hcx
            have hcy2 : (wr.drewN nq).cell? ⟨g, m, none⟩ = some (.int .i64 y) := hcy
            have hown2 : (wr.drewN nq).ownsRow base 3 1 (.slice (some ⟨g, 0, none⟩) n c) n (zns L2) := hown
            have hgr2 := grown_drewN hgr nq
            generalize wr.drewN nq = wd at *
            have hf1 := own_frozen hown2 (m + 1)
            have hf2 := own_frozen hown2 m
            have hown3 := own_set (own_set hown2 (m + 1) (.int .i64 y)) m (.int .i64 x)
            have hgr3 := grown_trans hgr2 (grown_trans (grown_set wd g (m + 1) (.int .i64 y)) (grown_set _ g m (.int .i64 x)))
            have HE : Hid ((L2.set (m + 1) y).set m x = swp L2 m) := by unfold Hid swp; rw [HX.out, HY.out]
            rw [zns_set, zns_set, HE.out] at hown3
            go_wp2
            go_region
            all_goals
              go_wp2
              go_roundw
              case rel => exact ⟨m, _, by omega, by go_num, HI2, hown3, by first | exact hgr3 | exact grown_drew hgr3⟩
              case measure => simp [intOf]
          · have hdec : decide (x < y) = false := by simp; omega
            have HO2 : Hid (OuI L L2 (k + 1)) := in_end HI.out (by omega) (by rw [HX.out, HY.out]; omega)
            clear hxy
            go_wp2
            go_quiet ((go_at_call 130; exact Calls.quiet_of_same (zLess _ _ _)))
            all_goals
              go_wp2
              go_roundw
              case rel => exact ⟨k + 1, L2, by omega, by omega, by go_num, HO2, hown, grown_drewN hgr _⟩
              case measure => simp [intOf]; omega
    · have HO2 : Hid (OuI L L1 n) := ⟨HO.out.perm, fun p q h1 h2 => HO.out.srt p q h1 (by omega)⟩
      go_wp2
      exact bodyPost_end (v := .tuple #[]) (by simp [results, Tryd.results124, go_sem]) rfl ⟨rfl, L1, HO2.out, hown, hgr⟩

/-- What Sort leaves: the same ints, in order. -/
def Sorted_ (base n : Nat) (v : Value) (L : List Int) (w : World) (e : Ending) (w' : World) : Prop :=
  e = .returned (.tuple #[]) ∧ ∃ L', OuI L L' n ∧ w'.ownsRow base 3 1 v n (zns L') ∧ w.grownBy w' v.ownBlock

theorem zPdq (g n c base : Nat) (L : List Int) (r : Int) (w : World) (h : w.ownsRow base 3 1 (.slice (some ⟨g, 0, none⟩) n c) n (zns L)) (hn : n ≤ 12) :
    Calls Tryd.prog 120 #[.slice (some ⟨g, 0, none⟩) n c, .int .i64 0, .int .i64 n, .int .i64 r] w fun e w' => Sorted_ base n (.slice (some ⟨g, 0, none⟩) n c) L w e w' := by
  go_enter Tryd.func120, Tryd.ntmps120
  go_wp2
  go_loopw [1, 2] (fun a b wr => a = .int .i64 0 ∧ b = .int .i64 n ∧ wr = w) (fun _ _ _ => 0)
  case atStart => exact ⟨rfl, rfl, rfl⟩
  case round =>
    obtain ⟨rfl, rfl, hw⟩ := hrel
    subst hw
    go_wp2_with fail
    refine (zIns _ _ _ _ _ _ h hn).mono ?_
    rintro e w1 ⟨rfl, L', hO, hown, hgr⟩
    go_wp2
    exact bodyPost_ret (v := .tuple #[]) (by simp [results, Tryd.results120, go_sem]) rfl ⟨rfl, L', hO, hown, hgr⟩

theorem zSort (g n c base : Nat) (L : List Int) (w : World) (h : w.ownsRow base 3 1 (.slice (some ⟨g, 0, none⟩) n c) n (zns L)) (hn : n ≤ 12) :
    Calls Tryd.prog 113 #[.slice (some ⟨g, 0, none⟩) n c] w fun e w' => Sorted_ base n (.slice (some ⟨g, 0, none⟩) n c) L w e w' := by
  go_enter Tryd.func113, Tryd.ntmps113
  go_wp2_with fail
  refine (zLen _ _ hn).mono ?_
  rintro e w3 ⟨⟨r, rfl⟩, hw⟩
  have hw := hw.symm
  subst hw
  go_wp2_with fail
  refine (zPdq _ _ _ _ _ _ _ h hn).mono ?_
  rintro e w1 ⟨rfl, L', hO, hown, hgr⟩
  go_wp2
  exact bodyPost_end (v := .tuple #[]) (by simp [results, Tryd.results113, go_sem]) rfl ⟨rfl, L', hO, hown, hgr⟩

theorem zIns0 (a : Option Addr) (c : Nat) (w : World) :
    Calls Tryd.prog 124 #[.slice a 0 c, .int .i64 0, .int .i64 0] w fun e w' => e = .returned (.tuple #[]) ∧ w' = w := by
  go_enter Tryd.func124, Tryd.ntmps124
  go_wp2
  go_loopw [6] (fun i wr => i = .int .i64 1 ∧ wr = w) (fun _ _ => 0)
  case atStart => exact ⟨rfl, rfl⟩
  case round =>
    obtain ⟨rfl, hw⟩ := hrel
    subst hw
    go_wp2
    exact bodyPost_end (v := .tuple #[]) (by simp [results, Tryd.results124, go_sem]) rfl ⟨rfl, rfl⟩
theorem zPdq0 (a : Option Addr) (c : Nat) (r : Int) (w : World) :
    Calls Tryd.prog 120 #[.slice a 0 c, .int .i64 0, .int .i64 0, .int .i64 r] w fun e w' => e = .returned (.tuple #[]) ∧ w' = w := by
  go_enter Tryd.func120, Tryd.ntmps120
  go_wp2
  go_loopw [1, 2] (fun x b wr => x = .int .i64 0 ∧ b = .int .i64 0 ∧ wr = w) (fun _ _ _ => 0)
  case atStart => exact ⟨rfl, rfl, rfl⟩
  case round =>
    obtain ⟨rfl, rfl, hw⟩ := hrel
    subst hw
    go_wp2_with fail
    refine (zIns0 _ _ _).mono ?_
    rintro e w1 ⟨rfl, hw⟩
    have hw := hw.symm
    subst hw
    go_wp2
    exact bodyPost_ret (v := .tuple #[]) (by simp [results, Tryd.results120, go_sem]) rfl ⟨rfl, rfl⟩
theorem zSort0 (a : Option Addr) (c : Nat) (w : World) :
    Calls Tryd.prog 113 #[.slice a 0 c] w fun e w' => e = .returned (.tuple #[]) ∧ w' = w := by
  go_enter Tryd.func113, Tryd.ntmps113
  go_wp2_with fail
  refine (zLen 0 _ (by omega)).mono ?_
  rintro e w3 ⟨⟨r, rfl⟩, hw⟩
  have hw := hw.symm
  subst hw
  go_wp2_with fail
  refine (zPdq0 _ _ _ _).mono ?_
  rintro e w1 ⟨rfl, hw⟩
  have hw := hw.symm
  subst hw
  go_wp2
  exact bodyPost_end (v := .tuple #[]) (by simp [results, Tryd.results113, go_sem]) rfl ⟨rfl, rfl⟩

/-- Sort of what a call has gathered, nil too. -/
theorem zSorts (v : Value) (n base : Nat) (L : List Int) (w : World) (h : w.ownsRow base 3 1 v n (zns L)) (hn : n ≤ 12) :
    Calls Tryd.prog 113 #[v] w fun e w' => Sorted_ base n v L w e w' := by
  rcases h.2 with ⟨rfl, rfl⟩ | ⟨g, cap, cur, rfl, _⟩
  · refine (zSort0 _ _ _).mono ?_
    rintro e w' ⟨rfl, rfl⟩
    exact ⟨rfl, L, ⟨List.Perm.refl _, fun p q _ hq => by omega⟩, h, grown_below (Below.refl _ _) _⟩
  · exact zSort _ _ _ _ _ _ h hn
theorem zEqual (a : Option Addr) (n c : Nat) (xs : List Int) (b : Option Addr) (m d : Nat) (ys : List Int) (w : World) (h : RdI w a n c xs) (g : RdI w b m d ys) :
    Calls Tryd.prog 39 #[.slice a n c, .slice b m d] w fun e w' => e = .returned (.bool (xs == ys)) ∧ Below w.heap.size w w' := by
  have hm := h.max
  have hcap := h.cap
  have hlen := h.len
  have gm := g.max
  have gcap := g.cap
  have glen := g.len
  unfold maxLen at hm gm
  by_cases hnm : n = m
  · subst hnm
    go_enter Tryd.func39, Tryd.ntmps39
    go_wp2
    go_loopw [13] (fun i wr => ∃ k : Nat, k ≤ n ∧ i = .int .i64 k ∧ Hid (xs.take k = ys.take k) ∧ Below w.heap.size w wr) (fun i _ => n - (intOf i).toNat)
    case atStart => exact ⟨0, Nat.zero_le _, rfl, rfl, Below.refl _ _⟩
    case round =>
      obtain ⟨k, hk, rfl, HT, hbel⟩ := hrel
      by_cases hlt : k < n
      · obtain ⟨b1, o1, x, rfl, hb1, HX, hx0, hx1, hc1⟩ := (h.below hbel).one hlt
        obtain ⟨b2, o2, y, rfl, hb2, HY, hy0, hy1, hc2⟩ := (g.below hbel).one hlt
        by_cases hxy : x = y
        · subst hxy
          go_wp2
          go_region
          all_goals go_wp2
          all_goals
            go_roundw
            case rel => exact ⟨k + 1, by omega, by go_num, take_eq (by omega) (by omega) HT.out (HX.out.trans HY.out.symm), by first | exact hbel.drew | exact hbel.drew.drew⟩
            case measure => simp [intOf]; omega
        · have hxb : (x != y) = true := by rw [bne_iff_ne]; exact hxy
          go_wp2
          have HE : Hid ((xs == ys) = false) := by
            refine beq_eq_false_iff_ne.2 fun e => hxy ?_
            rw [← HX.out, ← HY.out, e]
          go_region
          all_goals go_wp2
          all_goals
            go_ret
            rw [HE.out]
            exact ⟨rfl, by first | exact hbel.drew | exact hbel.drew.drew⟩
      · have HE : Hid ((xs == ys) = true) := by
          refine beq_iff_eq.2 ?_
          have := HT.out
          rwa [List.take_of_length_le (by omega), List.take_of_length_le (by omega)] at this
        go_wp2
        go_ret
        rw [HE.out]
        exact ⟨rfl, hbel⟩
  · have hb : ((n : Int) != (m : Int)) = true := by rw [bne_iff_ne]; omega
    go_enter Tryd.func39, Tryd.ntmps39
    have HE : Hid ((xs == ys) = false) := beq_eq_false_iff_ne.2 fun e => hnm (by rw [← hlen, ← glen, e])
    go_wp2
    go_ret
    rw [HE.out]
    exact ⟨rfl, Below.refl _ _⟩

/-- Two slices that read the same are equal. -/
theorem zSame (a : Option Addr) (n c : Nat) (xs : List Int) (b : Option Addr) (m d : Nat) (w : World) (h : RdI w a n c xs) (g : RdI w b m d xs) :
    Calls Tryd.prog 39 #[.slice a n c, .slice b m d] w fun e w' => e = .returned (.bool true) ∧ Below w.heap.size w w' := by
  refine (zEqual _ _ _ _ _ _ _ _ _ h g).mono ?_
  rintro e w' ⟨rfl, hb⟩
  exact ⟨by rw [beq_self_eq_true], hb⟩
end
end Go.Proofs.YtljlioglpaogdagDoor
