/- (*shamir.parties).join, shamir.Check. · shamir.Check. · shamir.weight, shamir.Weights. · croftref.Times. · croftref.Played: what each party has seen so far, and the wires' numbers: memory. · croftref.Played: what its switch over a gate leaves; the switch, taken out of the translation. · croftref.Played: how much is seen; a wire more: plain facts. · What the calls of package engine answer. · The parties of package engine: their block, and what they have gathered. -/
import Derived.Test.YtljlioglpaogdahDoorToRNumC
import Derived.Test.YtljlioglpaogdahDoorToWhoseC
import Derived.Test.YtljlioglpaogdahDoorToThroughC
import Derived.Test.YtljlioglpaogdahDoorMath
import Derived.Test.YtljlioglpaogdahDoorPolyM
import Derived.Test.YtljlioglpaogdahDoorSlice
import Derived.Test.YtljlioglpaogdahDoorToGRightC
import Derived.BigQuiet
import Derived.Test.YtljlioglpaogdahDoorProg
import Derived.WalkKit
import Derived.WalkSpells
import Derived.WalkLawsBesides
import Derived.Deep.QuietTactic
import Derived.Test.YtljlioglpaogdahDoorToNumbC
import Derived.Deep.LoopGhost
import Derived.Deep.CutBlock
import Derived.Deep.CutRange
import Derived.Deep.AppendLies
import Derived.Deep.RegionLaw
import Derived.Deep.RegionHeld3
import Derived.Test.YtljlioglpaogdahDoorToGatesR
namespace Go.Proofs.YtljlioglpaogdahDoor
set_option linter.unusedVariables false
set_option maxRecDepth 100000
set_option maxHeartbeats 8000000
section
open Crm Go.RowKit
/-- Row g holds the marks M. -/
def BlkB (w : World) (g : Nat) (M : List Bool) : Prop := w.heap[g]? = some (.cells (M.map Value.bool).toArray 134 (0, 0))
theorem BlkB.lt {w : World} {g : Nat} {M : List Bool} (h : BlkB w g M) : g < w.heap.size := (Array.getElem?_eq_some_iff.1 h).1
theorem BlkB.cell {w : World} {g : Nat} {M : List Bool} (h : BlkB w g M) {i : Nat} (hi : i < M.length) : w.cell? ⟨g, i, none⟩ = some (.bool (M.getD i false)) := by
  rw [cell_of_row w g i _ _ (0, 0) h]
  simp [List.getElem?_eq_getElem hi]
theorem BlkB.frozen {w : World} {g : Nat} {M : List Bool} (h : BlkB w g M) (i : Nat) : w.frozen? ⟨g, i, none⟩ = false := frozen_of_row w g i _ _ h
theorem BlkB.set {w : World} {g : Nat} {M : List Bool} (h : BlkB w g M) (i : Nat) (v : Bool) : BlkB (w.setCell ⟨g, i, none⟩ (.bool v)) g (M.set i v) := by
  have := heap_setCell_same w g i _ _ (.bool v) h
  unfold BlkB
  rw [this]
  simp [List.map_set]
theorem BlkB.below {w w' : World} {B g : Nat} {M : List Bool} (h : BlkB w g M) (hb : Below B w w') (hg : g < B) : BlkB w' g M := by
  unfold BlkB; rw [hb.block g hg]; exact h

theorem cJoinO (g : Nat) (x : Int) (w : World) (h : x < 1 ∨ 9 < x) :
    Calls Tryd.prog 79 #[.pointer (some ⟨g, 0, none⟩), .int .i64 x] w fun e w' => e = .returned (.bool false) ∧ w' = w := by
  by_cases h1 : x < 1
  · clear h
    go_enter Tryd.func79, Tryd.ntmps79
    go_wp2
    go_ret
    exact ⟨rfl, rfl⟩
  · have h2 : 9 < x := by omega
    clear h
    go_enter Tryd.func79, Tryd.ntmps79
    go_wp2
    go_ret
    exact ⟨rfl, rfl⟩
theorem cJoinN (g k : Nat) (M : List Bool) (w : World) (h : BlkB w g M) (hM : M.length = 10) (h1 : 1 ≤ k) (h9 : k ≤ 9) (hk : M.getD k false = true) :
    Calls Tryd.prog 79 #[.pointer (some ⟨g, 0, none⟩), .int .i64 k] w fun e w' => e = .returned (.bool false) ∧ w' = w := by
  have hc := h.cell (i := k) (by omega)
  rw [hk] at hc
  have hlt := h.lt
  go_enter Tryd.func79, Tryd.ntmps79
  go_wp2
  go_ret
  exact ⟨rfl, rfl⟩
theorem cJoinY (g k : Nat) (M : List Bool) (w : World) (h : BlkB w g M) (hM : M.length = 10) (h1 : 1 ≤ k) (h9 : k ≤ 9) (hk : M.getD k false = false) :
    Calls Tryd.prog 79 #[.pointer (some ⟨g, 0, none⟩), .int .i64 k] w fun e w' => e = .returned (.bool true) ∧ w' = w.setCell ⟨g, k, none⟩ (.bool true) := by
  have hc := h.cell (i := k) (by omega)
  rw [hk] at hc
  have hlt := h.lt
  have hfz := h.frozen k
  go_enter Tryd.func79, Tryd.ntmps79
  go_wp2
  go_ret
  exact ⟨rfl, rfl⟩
/-- M marks who has come. -/
structure Mk (f : Nat → Int) (k : Nat) (M : List Bool) : Prop where
  len : M.length = 10
  mark : ∀ p : Nat, 1 ≤ p → p ≤ 9 → (M.getD p false = true ↔ ∃ j, j < k ∧ f j = (p : Int))
  dis : dis f k
theorem mk_start (f : Nat → Int) : Mk f 0 (List.replicate 10 false) := by
  refine ⟨rfl, fun p _ h9 => ?_, dis_zero f⟩
  have : (List.replicate 10 false).getD p false = false := by
    rw [List.getD_eq_getElem?_getD, List.getElem?_replicate]; split <;> rfl
  rw [this]
  constructor
  · intro h; cases h
  · rintro ⟨j, hj, _⟩; omega
theorem mk_step {f : Nat → Int} {k : Nat} {M : List Bool} {p : Nat} (h : Mk f k M) (hp : f k = (p : Int)) (h1 : 1 ≤ p) (h9 : p ≤ 9) (hm : M.getD p false = false) : Mk f (k + 1) (M.set p true) := by
  have hno : ∀ j, j < k → f j ≠ (p : Int) := fun j hj e => by
    have := (h.mark p h1 h9).2 ⟨j, hj, e⟩
    rw [hm] at this; cases this
  refine ⟨by rw [List.length_set]; exact h.len, fun q q1 q9 => ?_, dis_succ h.dis hp (by omega) (by omega) hno⟩
  have hl := h.len
  by_cases e : q = p
  · subst e
    have : (M.set q true).getD q false = true := by simp [show q < M.length by omega]
    rw [this]
    exact ⟨fun _ => ⟨k, by omega, hp⟩, fun _ => rfl⟩
  · have : (M.set p true).getD q false = M.getD q false := by
      simp [show ¬ p = q from fun e' => e e'.symm]
    rw [this, h.mark q q1 q9]
    constructor
    · rintro ⟨j, hj, e⟩; exact ⟨j, by omega, e⟩
    · rintro ⟨j, hj, e'⟩
      by_cases ej : j = k
      · subst ej; rw [hp] at e'; omega
      · exact ⟨j, by omega, e'⟩
theorem mk_twice {f : Nat → Int} {k n : Nat} {M : List Bool} {p : Nat} (h : Mk f k M) (hk : k < n) (hp : f k = (p : Int)) (h1 : 1 ≤ p) (h9 : p ≤ 9) (hm : M.getD p false = true) : ¬ Go.Proofs.YtljlioglpaogdahDoor.dis f n := fun hd => by
  obtain ⟨j, hj, e⟩ := (h.mark p h1 h9).1 hm
  exact (hd k hk).2 j hj (by rw [e, hp])
theorem mk_out {f : Nat → Int} {k n : Nat} {x : Int} (hk : k < n) (hx : f k = x) (h : x < 1 ∨ 9 < x) : ¬ Go.Proofs.YtljlioglpaogdahDoor.dis f n := fun hd => by
  have := (hd k hk).1
  omega

theorem cCheckA (a : Option Addr) (n c : Nat) (t : Int) (w : World) (h : t < 0 ∨ 4 < t) :
    Calls Tryd.prog 60 #[.int .i64 t, .slice a n c] w fun e w' => e = .returned (.int .i64 1) ∧ w' = w := by
  by_cases h1 : t < 0
  · clear h
    go_enter Tryd.func60, Tryd.ntmps60
    go_wp2
    go_ret
    exact ⟨rfl, rfl⟩
  · have h2 : 4 < t := by omega
    clear h
    go_enter Tryd.func60, Tryd.ntmps60
    go_wp2
    go_ret
    exact ⟨rfl, rfl⟩

theorem cCheckB (a : Option Addr) (n c : Nat) (l : List (Int × Int)) (t : Int) (w : World) (h : RdS w a n c l) (ht0 : 0 ≤ t) (ht4 : t ≤ 4) :
    Calls Tryd.prog 60 #[.int .i64 t, .slice a n c] w fun e w' => ∃ r, e = .returned (.int .i64 r) ∧ She l n t r ∧ Below w.heap.size w w' := by
  have hcap := h.cap
  have hmax := h.max
  unfold maxLen at hmax
  go_enter Tryd.func60, Tryd.ntmps60
  go_wp2
  go_loopw [16] (fun i wr => ∃ (k : Nat) (M : List Bool), k ≤ n ∧ i = .int .i64 k ∧ Hid (Mk (fa l) k M) ∧ BlkB wr w.heap.size M ∧ Below w.heap.size w wr) (fun i _ => n - (intOf i).toNat)
  case atStart => exact ⟨0, _, Nat.zero_le _, rfl, mk_start _, heap_alloc_new w _, (Below.refl _ _).alloc (Nat.le_refl _) _⟩
  case round =>
    obtain ⟨k, M, hk, rfl, HM, hB, hbel⟩ := hrel
    have hs1 := hbel.size
    have hlM := HM.out.len
    by_cases hlt : k < n
    · obtain ⟨b, o, x, y, rfl, hbb, HX, HY, hx0, hx1, hy0, hy1, hcx, hcy⟩ := (h.below hbel).one hlt
      have hcA0 := cell_alloc0 wr (.int .i64 x) (.int .u64 y) 91
      have hB2 : BlkB (wr.alloc (.cells #[.int .i64 x, .int .u64 y] 91)) w.heap.size M := hB.below ((Below.refl _ _).alloc (Nat.le_refl _) _) hB.lt
      have hbel2 := hbel.alloc hs1 (.cells #[.int .i64 x, .int .u64 y] 91)
      go_wp2_with fail
      generalize wr.alloc (.cells #[.int .i64 x, .int .u64 y] 91) = W at *
      clear hcx hcy hB hbel
      by_cases hx : x < 1 ∨ 9 < x
      · have HN : Hid (She l n t 5) := Or.inr (Or.inl ⟨⟨ht0, ht4⟩, mk_out hlt HX.out hx, rfl⟩)
        refine (cJoinO _ _ _ hx).mono ?_
        rintro e w' ⟨rfl, hw⟩
        have hw := hw.symm
        subst hw
        clear hx
        go_wp2
        go_ret
        exact ⟨5, rfl, HN.out, hbel2⟩
      · obtain ⟨p, rfl⟩ : ∃ p : Nat, x = p := ⟨x.toNat, by omega⟩
        cases hm : M.getD p false with
        | true =>
          have HN : Hid (She l n t 5) := Or.inr (Or.inl ⟨⟨ht0, ht4⟩, mk_twice HM.out hlt HX.out (by omega) (by omega) hm, rfl⟩)
          refine (cJoinN _ _ _ _ hB2 hlM (by omega) (by omega) hm).mono ?_
          rintro e w' ⟨rfl, hw⟩
          have hw := hw.symm
          subst hw
          clear hm
          go_wp2
          go_ret
          exact ⟨5, rfl, HN.out, hbel2⟩
        | false =>
          have HM2 : Hid (Mk (fa l) (k + 1) (M.set p true)) := mk_step HM.out HX.out (by omega) (by omega) hm
          refine (cJoinY _ _ _ _ hB2 hlM (by omega) (by omega) hm).mono ?_
          rintro e w' ⟨rfl, rfl⟩
          have hB3 := hB2.set p true
          have hbel3 := below_grown hbel2 (grown_set W w.heap.size p (.bool true)) (Nat.le_refl _)
          generalize W.setCell ⟨w.heap.size, p, none⟩ (.bool true) = W3 at *
          clear hm
          go_wp2
          go_roundw
          case rel => exact ⟨k + 1, _, by omega, by go_num, HM2, hB3, hbel3⟩
          case measure => simp [intOf]; omega
    · have hkn : k = n := by omega
      subst hkn
      by_cases hkt : (k : Int) ≤ t
      · have HN : Hid (She l k t 4) := Or.inr (Or.inr (Or.inl ⟨⟨ht0, ht4⟩, HM.out.dis, hkt, rfl⟩))
        go_wp2
        go_ret
        exact ⟨4, rfl, HN.out, hbel⟩
      · have HN : Hid (She l k t 0) := Or.inr (Or.inr (Or.inr ⟨⟨ht0, ht4⟩, HM.out.dis, by omega, rfl⟩))
        go_wp2
        go_ret
        exact ⟨0, rfl, HN.out, hbel⟩

theorem cCheckS (a : Option Addr) (n c : Nat) (l : List (Int × Int)) (t : Int) (w : World) (h : RdS w a n c l) :
    Calls Tryd.prog 60 #[.int .i64 t, .slice a n c] w fun e w' => ∃ r, e = .returned (.int .i64 r) ∧ She l n t r ∧ Below w.heap.size w w' := by
  by_cases ht : t < 0 ∨ 4 < t
  · refine (cCheckA _ _ _ _ _ ht).mono ?_
    rintro e w' ⟨rfl, rfl⟩
    exact ⟨1, rfl, Or.inl ⟨ht, rfl⟩, Below.refl _ _⟩
  · exact cCheckB _ _ _ _ _ _ h (by omega) (by omega)
theorem neq_bool {x y : Int} (h : x ≠ y) : (x != y) = true := by rw [bne_iff_ne]; exact h

theorem cWeight (a : Option Addr) (n c : Nat) (ts : List Int) (i : Nat) (w : World) (h : RdI w a n c ts) (hd : dis (fi ts) n) (hi : i < n) :
    Calls Tryd.prog 101 #[.int .i64 (ts.getD i 0), .slice a n c] w fun e w' => e = .returned (.int .u64 (wt ts n i)) ∧ w' = w := by
  have HD : Hid (dis (fi ts) n) := hd
  have hn9 := dis_nine hd
  obtain ⟨T, HT⟩ : ∃ T, Hid (ts.getD i 0 = T) := ⟨_, rfl⟩
  have hT1 := (hd i hi).1
  unfold fi at hT1
  rw [HT.out] at hT1 ⊢
  have hT2 := hT1.2
  have hT1 := hT1.1
  clear hd
  go_enter Tryd.func101, Tryd.ntmps101
  go_wp2
  go_loop [5, 6, 13] (fun u v q => ∃ (k : Nat) (A B : Int), k ≤ n ∧ q = .int .i64 k ∧ u = .int .u64 A ∧ v = .int .u64 B ∧ 0 ≤ A ∧ A ≤ 2147483646 ∧ 0 ≤ B ∧ B ≤ 2147483646 ∧ Hid (A = nm (pr ts T 0 k)) ∧ Hid (B = nm (pr ts T T k))) (fun _ _ q => n - (intOf q).toNat)
  case atStart => exact ⟨0, 1, 1, Nat.zero_le _, rfl, rfl, rfl, by omega, by omega, by omega, by omega, by rw [pr]; rfl, by rw [pr]; rfl⟩
  case round =>
    obtain ⟨k, A, B, hk, rfl, rfl, rfl, hA0, hA1, hB0, hB1, HA, HB⟩ := hrel
    by_cases hlt : k < n
    · obtain ⟨b, o, x, rfl, hbb, HX, hx0, hx1, hcx⟩ := h.one hlt
      have hx := (HD.out k hlt).1
      unfold fi at hx
      rw [HX.out] at hx
      have hx9 := hx.2
      have hx1 := hx.1
      clear hx
      by_cases hxT : x = T
      · have hb : (x != T) = false := by rw [hxT]; simp
        have HA2 : Hid (A = nm (pr ts T 0 (k + 1))) := by unfold Hid; rw [pr_skip (by rw [HX.out]; exact hxT)]; exact HA.out
        have HB2 : Hid (B = nm (pr ts T T (k + 1))) := by unfold Hid; rw [pr_skip (by rw [HX.out]; exact hxT)]; exact HB.out
        clear hxT
        go_wp2
        go_round
        case rel => exact ⟨k + 1, A, B, by omega, by go_num, rfl, rfl, hA0, hA1, hB0, hB1, HA2, HB2⟩
        case measure => simp [intOf]; omega
      · have hb : (x != T) = true := neq_bool hxT
        have HA2 : Hid (nm (A * x) = nm (pr ts T 0 (k + 1))) := by
          unfold Hid; rw [pr_take (by rw [HX.out]; exact hxT), HX.out, HA.out, nm_mull, Int.sub_zero]
        have HB2 : Hid (nm (B * nm (x - T)) = nm (pr ts T T (k + 1))) := by
          unfold Hid; rw [pr_take (by rw [HX.out]; exact hxT), HX.out, HB.out, nm_mull, nm_mulr]
        have n1 := nm_bd (A * x)
        have n2 := nm_bd (x - T)
        have n3 := nm_bd (B * nm (x - T))
        clear hxT
        go_wp2_with (first | (go_at_call 59; refine (fMul _ _ _ (by omega) (by omega) (by omega) (by omega)).mono ?_; rintro e w3 ⟨rfl, hw⟩; have hw := hw.symm; subst hw) | (go_at_call 56; refine (fSub _ _ _ (by omega) (by omega) (by omega) (by omega)).mono ?_; rintro e w3 ⟨rfl, hw⟩; have hw := hw.symm; subst hw))
        go_round
        case rel => exact ⟨k + 1, _, _, by omega, by go_num, rfl, rfl, n1.1, n1.2, n3.1, n3.2, HA2, HB2⟩
        case measure => simp [intOf]; omega
    · have hkn : k = n := by omega
      subst hkn
      have HW : Hid (nm (A * iv B) = wt ts k i) := by unfold Hid wt; rw [HT.out, HA.out, HB.out]
      have HNZ : Hid (nm B ≠ 0) := by
        unfold Hid; rw [HB.out, nm_nm, ← HT.out]; exact pr_own HD.out hi k (Nat.le_refl _)
      have hib := iv_bd B
      have hnb := nm_bd (A * iv B)
      go_wp2_with (first | (go_at_call 82; refine (fInv1 _ _ (by omega) (by omega) HNZ.out).mono ?_; rintro e w3 ⟨rfl, hw⟩; have hw := hw.symm; subst hw) | (go_at_call 59; refine (fMul _ _ _ (by omega) (by omega) (by omega) (by omega)).mono ?_; rintro e w3 ⟨rfl, hw⟩; have hw := hw.symm; subst hw))
      go_ret
      rw [HW.out]
      exact ⟨rfl, rfl⟩

/-- What Weights answers: a list of weights, or ErrForm. -/
def Wts (ts : List Int) (n : Nat) (w : World) (e : Ending) (w' : World) : Prop :=
  ((¬ dis (fi ts) n ∧ e = .returned (.tuple #[.slice none 0 0, .int .i64 5])) ∨ (dis (fi ts) n ∧ ∃ g, e = .returned (.tuple #[.slice (some ⟨g, 0, none⟩) n n, .int .i64 0]) ∧ Rd w' (some ⟨g, 0, none⟩) n n ((List.range n).map (wt ts n)) ∧ w.heap.size ≤ g)) ∧ Below w.heap.size w w'

theorem cWeights1 (a : Option Addr) (n c : Nat) (ts : List Int) (w : World) (h : RdI w a n c ts) (hn0 : 0 < n) :
    Calls Tryd.prog 96 #[.slice a n c] w fun e w' => Wts ts n w e w' := by
  obtain ⟨i0, hi, hz0, hz1, hz2⟩ := info_parts info42
  have hcap := h.cap
  have hmax := h.max
  unfold maxLen at hmax
  have hnb : ((n : Int) == 0) = false := by rw [beq_eq_false_iff_ne]; omega
  go_enter Tryd.func96, Tryd.ntmps96
  go_wp2
  go_loopw [15] (fun i wr => ∃ (k : Nat) (M : List Bool), k ≤ n ∧ i = .int .i64 k ∧ Hid (Mk (fi ts) k M) ∧ BlkB wr w.heap.size M ∧ Below w.heap.size w wr) (fun i _ => n - (intOf i).toNat)
  case atStart => exact ⟨0, _, Nat.zero_le _, rfl, mk_start _, heap_alloc_new w _, (Below.refl _ _).alloc (Nat.le_refl _) _⟩
  case round =>
    obtain ⟨k, M, hk, rfl, HM, hB2, hbel2⟩ := hrel
    have hs1 := hbel2.size
    have hlM := HM.out.len
    by_cases hlt : k < n
    · obtain ⟨b, o, x, rfl, hbb, HX, hx0, hx1, hcx⟩ := (h.below hbel2).one hlt
      go_wp2_with fail
      clear hcx
      by_cases hx : x < 1 ∨ 9 < x
      · have HN : Hid (¬ dis (fi ts) n) := mk_out hlt HX.out hx
        refine (cJoinO _ _ _ hx).mono ?_
        rintro e w' ⟨rfl, hw⟩
        have hw := hw.symm
        subst hw
        clear hx
        go_wp2
        go_ret2
        exact ⟨Or.inl ⟨HN.out, rfl⟩, hbel2⟩
      · obtain ⟨p, rfl⟩ : ∃ p : Nat, x = p := ⟨x.toNat, by omega⟩
        cases hm : M.getD p false with
        | true =>
          have HN : Hid (¬ dis (fi ts) n) := mk_twice HM.out hlt HX.out (by omega) (by omega) hm
          refine (cJoinN _ _ _ _ hB2 hlM (by omega) (by omega) hm).mono ?_
          rintro e w' ⟨rfl, hw⟩
          have hw := hw.symm
          subst hw
          clear hm
          go_wp2
          go_ret2
          exact ⟨Or.inl ⟨HN.out, rfl⟩, hbel2⟩
        | false =>
          have HM2 : Hid (Mk (fi ts) (k + 1) (M.set p true)) := mk_step HM.out HX.out (by omega) (by omega) hm
          refine (cJoinY _ _ _ _ hB2 hlM (by omega) (by omega) hm).mono ?_
          rintro e w' ⟨rfl, rfl⟩
          have hB3 := hB2.set p true
          have hbel3 := below_grown hbel2 (grown_set wr w.heap.size p (.bool true)) (Nat.le_refl _)
          generalize wr.setCell ⟨w.heap.size, p, none⟩ (.bool true) = W3 at *
          clear hm
          go_wp2
          go_roundw
          case rel => exact ⟨k + 1, _, by omega, by go_num, HM2, hB3, hbel3⟩
          case measure => simp [intOf]; omega
    · have hkn : k = n := by omega
      subst hkn
      have HD : Hid (dis (fi ts) k) := HM.out.dis
      have hk9 := dis_nine HD.out
      obtain ⟨wo, hwo⟩ : ∃ wo, wo = wr := ⟨_, rfl⟩
      subst hwo
      clear hB2 hlM HM
      go_wp2_with (at_make; refine wpList_make_full _ rfl _ _ 26 rfl wo.heap.size 42 i0 (.int .u64 0) 1 Tryd.underlying26 hi hz0 hz1 .i64 .i64 _ _ k rfl rfl (by omega) (by omega) (by rw [hz2]; omega) (by unfold maxLen; omega) (Nat.le_refl _) ?_; intro w2 hown hgrow)
      have hB2 : Blk w2 wo.heap.size (fil (wt ts k) k 0) := by rw [← fil_zero]; exact Blk.made hown
      have hb2 : Below wo.heap.size wo w2 := (Below.refl _ _).grown hgrow (Nat.le_refl _) (by simp)
      have hb12 : Below w.heap.size w w2 := hbel2.trans (hb2.mono hs1)
      clear hown hgrow hb2
      go_loopw [28] (fun i wr => ∃ j : Nat, j ≤ k ∧ i = .int .i64 j ∧ Blk wr wo.heap.size (fil (wt ts k) k j) ∧ Below w.heap.size w wr) (fun i _ => k - (intOf i).toNat)
      case atStart => exact ⟨0, Nat.zero_le _, rfl, hB2, hb12⟩
      case round =>
        clear hB2 hb12
        obtain ⟨j, hj, rfl, hblk, hbel⟩ := hrel
        by_cases hlt2 : j < k
        · have hI := h.below hbel
          obtain ⟨b, o, x, rfl, hbb, HX, hx0, hx1, hcx⟩ := hI.one hlt2
          have hcell := hblk.cell (i := j) (by rw [fil_len]; exact hlt2)
          have hfz := hblk.frozen j
          have hlt3 := hblk.lt
          have hblk4 := hblk.set j (wt ts k j)
          rw [fil_set rfl] at hblk4
          have Hb5 : Hid (Below w.heap.size w (wr.setCell ⟨wo.heap.size, j, none⟩ (.int .u64 (wt ts k j)))) := hbel.setCell hs1 _
          have hcw := cWeight _ _ _ _ j wr hI HD.out hlt2
          rw [HX.out] at hcw
          clear hbel hblk
          go_wp2_with (go_at_call 101; refine hcw.mono ?_; rintro e w3 ⟨rfl, hw⟩; have hw := hw.symm; subst hw; clear hcw)
          go_roundw
          case rel => exact ⟨j + 1, by omega, by go_num, hblk4, Hb5.out⟩
          case measure => simp [intOf]; omega
        · have hjk : j = k := by omega
          subst hjk
          have hr : Rd wr (some ⟨wo.heap.size, 0, none⟩) j j ((List.range j).map (wt ts j)) := by
            rw [fil_full] at hblk
            exact Blk.whole hblk j (by simp) (by unfold maxLen; omega) (bd_u64 (by rw [← fil_full]; exact fil_bd (wt_bd ts j) j j))
          go_wp2
          go_ret2
          exact ⟨Or.inr ⟨HD.out, _, rfl, hr, hs1⟩, hbel⟩
theorem wrap_i64 {x : Int} (h0 : -1000000 ≤ x) (h1 : x ≤ 1000000) : IntKind.i64.wrap x = x := by
  unfold IntKind.wrap
  simp [IntKind.signed, IntKind.bits]
  omega
/-- Rows that lie elsewhere. -/
def Far (L : List Value) (n lo hi : Nat) : Prop := ∀ p, p < n → ∀ gg, (L.getD p (.slice none 0 0)).ownBlock = some gg → gg < lo ∨ hi ≤ gg
/-- append of a list that is read to a slice that the call itself gathers, a step of a region that draws; where it lies. -/
theorem step_appM {P : Program} {T E : TypeId} (hT : P.underlying T = some (.slice E)) (info : (P.info? E).map (fun i => (i.zero, i.size, i.bytes)) = some (some (.int .u64 0), 1, 8))
    (w : World) {ops : Array Oper} {o : Oper} {a : Act} {K : Act → World → Prop} {Q : Exit → Act → World → Prop} {F : Prop} (hgd : o.guard = none) (s x : Operand)
    (ho : o.op = .call { callee := .builtin .append, args := #[s, x], argTypes := #[T, T] })
    (base : Nat) (v : Value) (n : Nat) (xs : List Int) (hs : a.eval s = v) (hown : w.ownsRow base E 1 v n (xs.map (Value.int .u64))) (b o2 m c : Nat) (ys : List Int) (hr : Rd w (some ⟨b, o2, none⟩) m c ys) (hx : a.eval x = .slice (some ⟨b, o2, none⟩) m c)
    (hm : 0 < m) (hn : n + m ≤ 1000000) (hbase : base ≤ w.heap.size)
    (h : ∀ g cap w', w'.ownsRow base E 1 (.slice (some ⟨g, 0, none⟩) (n + m) cap) (n + m) ((xs ++ ys).map (Value.int .u64)) → w.grownBy w' v.ownBlock → ((Value.slice (some ⟨g, 0, none⟩) (n + m) cap).ownBlock = v.ownBlock ∨ ∃ k, (Value.slice (some ⟨g, 0, none⟩) (n + m) cap).ownBlock = some k ∧ w.heap.size ≤ k) → K (a.put o.dst (.slice (some ⟨g, 0, none⟩) (n + m) cap)) w') :
    if Region.wanted o (yielded ops a.tmps) = true then Oper.wp P o a w K Q else F := by
  obtain ⟨i0, hi, hz0, hz1, hz2⟩ := info_parts info
  have hyl := hr.len
  refine step_append_lies _ hgd s x T ho base E i0 (.int .u64 0) 1 8 hT hi hz0 hz1 hz2 rfl (by decide) v n _ hs hown ⟨b, o2, none⟩ m c (ys.map (Value.int .u64)) hx (by simp [hyl]) ?_ ?_ hm (by unfold maxLen; omega) (by omega) hbase _ rfl ?_
  · intro j u hj
    have hjm : j < m := by
      have := (List.getElem?_eq_some_iff.1 hj).1
      simp at this
      omega
    rw [hr.cell _ rfl j hjm]
    rw [List.getElem?_map, List.getElem?_eq_getElem (by omega)] at hj
    simp only [Option.map_some, Option.some.injEq] at hj
    rw [← hj, List.getD_eq_getElem?_getD, List.getElem?_eq_getElem (by omega)]
    rfl
  · intro u hu
    obtain ⟨z, _, rfl⟩ := List.mem_map.1 hu
    rfl
  · intro g cap w' hown' hgrow h4 _
    refine h g cap w' (by rw [List.map_append]; exact hown') hgrow ?_
    rcases h4 with e | e
    · exact .inl (by rw [e]; rfl)
    · exact .inr ⟨g, rfl, by omega⟩
/-- What is gathered: what each party has seen, and the wires; what was made between lo and hi lies apart from what is seen. -/
structure Sen (w wr : World) (gs n : Nat) (Ls : List Value) (S : List (List Int)) (vW : Value) (LW : List Value) (W : List (List Int)) (lo hi : Nat) : Prop where
  seen : LsV wr w.heap.size (.slice (some ⟨gs, 0, none⟩) n n) Ls S
  len : S.length = n
  wires : LsV wr w.heap.size vW LW W
  apt : Apt Ls LW
  out : vW.ownBlock ≠ some gs
  far : Far Ls n lo hi
  gl : gs < lo
  hi : hi ≤ wr.heap.size
  bel : Below w.heap.size w wr
theorem Sen.drew {w wr : World} {gs n : Nat} {Ls : List Value} {S : List (List Int)} {vW : Value} {LW : List Value} {W : List (List Int)} {lo hi : Nat} (h : Sen w wr gs n Ls S vW LW W lo hi) : Sen w wr.drew gs n Ls S vW LW W lo hi :=
  ⟨h.seen.drew, h.len, h.wires.drew, h.apt, h.out, h.far, h.gl, h.hi, h.bel.drew⟩
theorem Sen.below {w wr w' : World} {gs n : Nat} {Ls : List Value} {S : List (List Int)} {vW : Value} {LW : List Value} {W : List (List Int)} {lo hi : Nat} (h : Sen w wr gs n Ls S vW LW W lo hi) (hb : Below wr.heap.size wr w') : Sen w w' gs n Ls S vW LW W lo hi :=
  ⟨h.seen.below hb, h.len, h.wires.below hb, h.apt, h.out, h.far, h.gl, Nat.le_trans h.hi hb.size, h.bel.trans (hb.mono h.bel.size)⟩
/-- A row of the call's that was made between lo and hi stays while what is seen grows. -/
def Btw (lo hi : Nat) (v : Value) : Prop := ∀ b, v.ownBlock = some b → lo ≤ b ∧ b < hi
/-- What party j has seen grows. -/
theorem Sen.put {w wr w7 : World} {gs n j : Nat} {Ls : List Value} {S : List (List Int)} {vW v7 : Value} {LW : List Value} {W : List (List Int)} {lo hi : Nat} {row : List Int} (h : Sen w wr gs n Ls S vW LW W lo hi) (hj : j < n)
    (ho : w7.ownsRow w.heap.size 42 1 v7 row.length (row.map (Value.int .u64))) (hg : wr.grownBy w7 (Ls.getD j (.slice none 0 0)).ownBlock) (hat : v7.ownBlock = (Ls.getD j (.slice none 0 0)).ownBlock ∨ ∃ k, v7.ownBlock = some k ∧ wr.heap.size ≤ k) :
    Sen w (w7.setCell ⟨gs, j, none⟩ v7) gs n (Ls.set j v7) (S.set j row) vW LW W lo hi := by
  have hrow := h.seen.row j (by rw [h.len]; exact hj)
  have hE : (42 : TypeId) ≠ 26 := by decide
  have hg2 : w7.grownBy (w7.setCell ⟨gs, j, none⟩ v7) (some gs) := grown_set _ _ _ _
  have hgs := (h.seen.cell h.len hj).2.2
  have hLl : j < Ls.length := by rw [h.seen.len, h.len]; exact hj
  have hWb := h.wires.blk
  have hW7 : LsV w7 w.heap.size vW LW W := h.wires.grown hg (own_apart hrow h.wires.own hE) (fun i _ => h.apt.symm i j)
  have hW8 : LsV (w7.setCell ⟨gs, j, none⟩ v7) w.heap.size vW LW W := by
    refine hW7.grown hg2 (.inr h.out) (fun i hi => ?_)
    have ho7 := h.seen.own.kept hg (own_apart hrow h.seen.own hE)
    exact own_apart ho7 (hW7.row i hi) (by decide)
  refine ⟨h.seen.upd h.len hj ho hg hat, by rw [List.length_set]; exact h.len, hW8, h.apt.set hLl (H := wr.heap.size) (fun i k hk => (hWb i k hk).2) hat, h.out, fun p hp gg hgg => ?_, h.gl, ?_, ?_⟩
  · rw [getD_setV _ _ _ _ _ hLl] at hgg
    split at hgg
    · rcases hat with e | ⟨k, e, hk⟩
      · rw [e] at hgg
        exact h.far j hj gg hgg
      · rw [e] at hgg
        obtain rfl := Option.some.inj hgg
        right
        exact Nat.le_trans h.hi hk
    · exact h.far p hp gg hgg
  · exact Nat.le_trans h.hi (Nat.le_trans hg.size hg2.size)
  · have hb7 : Below w.heap.size w w7 := h.bel.grown hg h.bel.size (fun q hq => (hrow.lt q hq).1)
    exact hb7.setCell (p := ⟨gs, j, none⟩) (h.seen.own.lt gs rfl).1 _
theorem Sen.keep {w wr w7 : World} {gs n j : Nat} {Ls : List Value} {S : List (List Int)} {vW v7 : Value} {LW : List Value} {W : List (List Int)} {lo hi B2 k z : Nat} {E : TypeId} {v : Value} {xs : List Value} (h : Sen w wr gs n Ls S vW LW W lo hi) (hj : j < n)
    (hx : wr.ownsRow B2 E z v k xs) (hv : Btw lo hi v) (hg : wr.grownBy w7 (Ls.getD j (.slice none 0 0)).ownBlock) : (w7.setCell ⟨gs, j, none⟩ v7).ownsRow B2 E z v k xs := by
  have h1 : v.ownBlock = none ∨ v.ownBlock ≠ (Ls.getD j (.slice none 0 0)).ownBlock := by
    cases hb : v.ownBlock with
    | none => exact .inl rfl
    | some b =>
      right
      intro e
      have h2 := hv b hb
      have h3 := h.far j hj b e.symm
      omega
  refine (hx.kept hg h1).kept (grown_set _ _ _ _) ?_
  cases hb : v.ownBlock with
  | none => exact .inl rfl
  | some b =>
    right
    intro e
    have h2 := hv b hb
    have h3 := h.gl
    have := Option.some.inj e
    omega
/-- Rows of which the first q are longer. -/
def sgx (S : Nat → List Int) (X : Nat → List Int) (n q : Nat) : List (List Int) := (List.range n).map fun p => if p < q then S p ++ X p else S p
theorem sgx_len (S X : Nat → List Int) (n q : Nat) : (sgx S X n q).length = n := by simp [sgx]
theorem sgx_zero (S X : Nat → List Int) (n : Nat) : sgx S X n 0 = (List.range n).map S := by simp [sgx]
theorem sgx_full (S X : Nat → List Int) (n : Nat) : sgx S X n n = (List.range n).map fun p => S p ++ X p := by
  unfold sgx
  refine List.map_congr_left fun p hp => ?_
  rw [if_pos (List.mem_range.1 hp)]
theorem sgx_getD (S X : Nat → List Int) {n q : Nat} (h : q < n) : (sgx S X n q).getD q [] = S q := by simp [sgx, h]
theorem sgx_set (S X : Nat → List Int) (n q : Nat) : (sgx S X n q).set q (S q ++ X q) = sgx S X n (q + 1) := by
  apply List.ext_getElem?
  intro p
  rw [List.getElem?_set]
  by_cases hp : p < n
  · by_cases e : q = p
    · subst e; simp [sgx, hp]
    · have : (p < q + 1) = (p < q) := by apply propext; omega
      simp [sgx, hp, e, this]
  · by_cases e : q = p
    · subst e; simp [sgx, hp]
    · simp [sgx, hp, e]
/-- What each party has seen of the first i gates. -/
def sgl (G : List Gt) (n t : Nat) (ins ds : List Int) (i : Nat) : List (List Int) := (List.range n).map fun j => sng G n t ins ds i j
theorem sgl_len (G : List Gt) (n t : Nat) (ins ds : List Int) (i : Nat) : (sgl G n t ins ds i).length = n := by simp [sgl]
/-- What the switch leaves: the gate's numbers, and what is seen of it. -/
def Psw (G : List Gt) (n t : Nat) (ins ds : List Int) (w : World) (gs i : Nat) (vW : Value) (LW : List Value) (u : Value) (w' : World) : Prop :=
  ∃ (Ls : List Value) (lo hi : Nat), Sen w w' gs n Ls (sgl G n t ins ds (i + 1)) vW LW (ewr G n t ins ds i) lo hi ∧ w'.ownsRow w.heap.size 42 1 u n ((ew G n t ins ds i).map (Value.int .u64)) ∧ Btw lo hi u ∧ ∀ p b, (LW.getD p (.slice none 0 0)).ownBlock = some b → b < lo
/-- What a call has made lies apart. -/
theorem Sen.fresh {w wr w' : World} {gs n : Nat} {Ls : List Value} {S : List (List Int)} {vW : Value} {LW : List Value} {W : List (List Int)} {lo hi : Nat} (h : Sen w wr gs n Ls S vW LW W lo hi) (hn : 0 < n) (hb : Below wr.heap.size wr w') : Sen w w' gs n Ls S vW LW W wr.heap.size w'.heap.size :=
  ⟨h.seen.below hb, h.len, h.wires.below hb, h.apt, h.out, fun p hp gg hgg => .inl ((h.seen.row p (by rw [h.len]; exact hp)).lt gg hgg).2, (h.seen.cell h.len hn).2.2, Nat.le_refl _, h.bel.trans (hb.mono h.bel.size)⟩
theorem sgl_same {G : List Gt} {n t : Nat} {ins ds : List Int} {i : Nat} (h1 : (gt G i).k ≠ 1) (h5 : (gt G i).k ≠ 5) : sgl G n t ins ds (i + 1) = sgl G n t ins ds i := by
  unfold sgl
  refine List.map_congr_left fun j _ => ?_
  rw [sng_succ]
  unfold esn
  rw [if_neg h1, if_neg h5, List.append_nil]
theorem sgl_next (G : List Gt) (n t : Nat) (ins ds : List Int) (i : Nat) : sgx (sng G n t ins ds i) (esn G n t ins ds i) n n = sgl G n t ins ds (i + 1) := by
  rw [sgx_full]
  unfold sgl
  refine List.map_congr_left fun j _ => ?_
  rw [sng_succ]
theorem sgl_first (G : List Gt) (n t : Nat) (ins ds : List Int) (i : Nat) : sgl G n t ins ds i = sgx (sng G n t ins ds i) (esn G n t ins ds i) n 0 := by rw [sgx_zero]; rfl
/-- A gate of which nothing is seen. -/
theorem Psw.quiet {G : List Gt} {n t : Nat} {ins ds : List Int} {w wr w' : World} {gs i lo hi : Nat} {Ls : List Value} {vW u : Value} {LW : List Value} (h : Sen w wr gs n Ls (sgl G n t ins ds i) vW LW (ewr G n t ins ds i) lo hi) (hn : 0 < n) (hb : Below wr.heap.size wr w') (h1 : (gt G i).k ≠ 1) (h5 : (gt G i).k ≠ 5)
    (ho : w'.ownsRow wr.heap.size 42 1 u n ((ew G n t ins ds i).map (Value.int .u64))) : Psw G n t ins ds w gs i vW LW u w' := by
  have hS := h.fresh hn hb
  rw [← sgl_same h1 h5] at hS
  exact ⟨Ls, _, _, hS, own_baseV ho h.bel.size, fun b hb => ho.lt b hb, fun p b hb => (h.wires.blk p b hb).2⟩
/-- A wire's numbers, as they are read. -/
theorem Sen.wire {G : List Gt} {n t : Nat} {ins ds : List Int} {w wr : World} {gs i lo hi p cW : Nat} {aW : Option Addr} {Ls : List Value} {S : List (List Int)} {LW : List Value} (h : Sen w wr gs n Ls S (.slice aW i cW) LW (ewr G n t ins ds i) lo hi) (hp : p < i) :
    ∃ gW a c, aW = some ⟨gW, 0, none⟩ ∧ gW < wr.heap.size ∧ wr.cell? ⟨gW, p, none⟩ = some (.slice a n c) ∧ Rd wr a n c (ew G n t ins ds p) := by
  have ho := h.wires.own
  rw [ewr_len] at ho
  obtain ⟨gW, u, rfl, _, _, _, _⟩ := own_at ho hp
  obtain ⟨e1, _, e3⟩ := h.wires.cell (ewr_len G n t ins ds i) hp
  obtain ⟨a, c, e4, hr⟩ := h.wires.one (ewr_len G n t ins ds i) hp (by rw [ewr_getD G n t ins ds hp]; exact bd_u64 (ew_bd _ _ _ _ _ _))
  rw [ewr_getD G n t ins ds hp, ew_len] at e4 hr
  exact ⟨gW, a, c, rfl, e3, by rw [e1, e4], hr⟩
theorem dwn_mono (G : List Gt) (n t : Nat) {i j : Nat} (h : i ≤ j) : dwn G n t i ≤ dwn G n t j := by
  induction j with
  | zero => obtain rfl : i = 0 := by omega
            exact Nat.le_refl _
  | succ j ih =>
    by_cases e : i = j + 1
    · rw [e]; exact Nat.le_refl _
    · have := ih (by omega)
      rw [dwn]
      omega
theorem esn_le (G : List Gt) (n t : Nat) (ins ds : List Int) (i j : Nat) (hn : n ≤ 9) : (esn G n t ins ds i j).length ≤ 9 := by
  unfold esn
  split
  · simp
  · split
    · rw [tmR_len]; exact hn
    · simp
theorem sng_bound (G : List Gt) (n t : Nat) (ins ds : List Int) (i j : Nat) (hn : n ≤ 9) : (sng G n t ins ds i j).length ≤ 9 * i := by
  induction i with
  | zero => simp [sng]
  | succ i ih =>
    have := esn_le G n t ins ds i j hn
    rw [sng_succ, List.length_append]
    omega

/-- The gate's numbers are laid beside the wires. -/
theorem Psw.next {G : List Gt} {n t : Nat} {ins ds : List Int} {w wc w2 : World} {gs i : Nat} {vW v2 u : Value} {LW : List Value} (h : Psw G n t ins ds w gs i vW LW u wc) (hn : 0 < n) (ho : w2.ownsRow w.heap.size 26 1 v2 (i + 1) (LW ++ [u])) (hg : wc.grownBy w2 vW.ownBlock)
    (hat : v2.ownBlock = vW.ownBlock ∨ ∃ k, v2.ownBlock = some k ∧ wc.heap.size ≤ k) : ∃ Ls, Sen w w2 gs n Ls (sgl G n t ins ds (i + 1)) v2 (LW ++ [u]) (ewr G n t ins ds (i + 1)) (gs + 1) (gs + 1) := by
  obtain ⟨Ls, lo, hi, hS, hu, hb, hlw⟩ := h
  have hE : (26 : TypeId) ≠ 42 := by decide
  have hgs := (hS.seen.cell hS.len hn).2.2
  have hel := ewr_len G n t ins ds i
  have hne : ∀ p, (LW.getD p (.slice none 0 0)).ownBlock = none ∨ (LW.getD p (.slice none 0 0)).ownBlock ≠ u.ownBlock := fun p => by
    cases e : (LW.getD p (.slice none 0 0)).ownBlock with
    | none => exact .inl rfl
    | some b =>
      right
      intro e'
      have h1 := hlw p b e
      have h2 := hb b e'.symm
      omega
  have hnu : ∀ p, u.ownBlock = none ∨ u.ownBlock ≠ (Ls.getD p (.slice none 0 0)).ownBlock := fun p => by
    cases e : u.ownBlock with
    | none => exact .inl rfl
    | some b =>
      right
      intro e'
      have h2 := hb b e
      by_cases hp : p < n
      · have h3 := hS.far p hp b e'.symm
        omega
      · have hl := hS.seen.len
        rw [hS.len] at hl
        rw [List.getD_eq_getElem?_getD, List.getElem?_eq_none (by omega)] at e'
        simp [Value.ownBlock] at e'
  refine ⟨Ls, hS.seen.grown hg (.inr (fun e => hS.out e.symm)) (fun p hp => own_apart hS.wires.own (hS.seen.row p hp) hE), hS.len, ?_, (hS.apt.symm.add hnu).symm, ?_, fun p _ gg _ => by omega, by omega, Nat.le_trans hgs hg.size, hS.bel.grown hg hS.bel.size (fun q hq => (hS.wires.own.lt q hq).1)⟩
  · rw [ewr_succ]
    exact hS.wires.add (by rw [ew_len]; exact hu) (fun p _ => hne p) (by rw [hel]; exact ho) hg
  · rcases hat with e | ⟨k, e, hk⟩
    · rw [e]; exact hS.out
    · rw [e]
      intro e'
      have := Option.some.inj e'
      omega
theorem sno_bound (G : List Gt) (O : List Int) (n t : Nat) (ins ds : List Int) (N q j : Nat) (hn : n ≤ 9) : (sno G O n t ins ds N q j).length ≤ 9 * N + 9 * q := by
  induction q with
  | zero => have := sng_bound G n t ins ds N j hn; simp [sno]; omega
  | succ q ih => rw [sno_succ, List.length_append, ew_len]; omega
theorem snl_next (G : List Gt) (O : List Int) (n t : Nat) (ins ds : List Int) (N q : Nat) : sgx (sno G O n t ins ds N q) (fun _ => ew G n t ins ds (O.getD q 0).toNat) n n = snl G O n t ins ds N (q + 1) := by
  rw [sgx_full]
  unfold snl
  refine List.map_congr_left fun j _ => ?_
  rw [sno_succ]
theorem snl_first (G : List Gt) (O : List Int) (n t : Nat) (ins ds : List Int) (N q : Nat) : snl G O n t ins ds N q = sgx (sno G O n t ins ds N q) (fun _ => ew G n t ins ds (O.getD q 0).toNat) n 0 := by rw [sgx_zero]; rfl
theorem snl_zero (G : List Gt) (O : List Int) (n t : Nat) (ins ds : List Int) (N : Nat) : sgl G n t ins ds N = snl G O n t ins ds N 0 := by
  unfold sgl snl
  refine List.map_congr_left fun j _ => ?_
  simp [sno]
/-- What Need answers. -/
def Enn (G : List Gt) (O : List Int) (N m : Nat) (n t : Int) (w : World) (e : Ending) (w' : World) : Prop :=
  ((∃ r, r ≠ 0 ∧ Nde G O N m n t r ∧ e = .returned (.tuple #[.int .i64 0, .int .i64 r])) ∨
   (Nde G O N m n t 0 ∧ e = .returned (.tuple #[.int .i64 (dwn G n.toNat t.toNat N : Int), .int .i64 0]))) ∧ Below w.heap.size w w'
/-- What Run answers. -/
def Enr (G : List Gt) (O ins ds : List Int) (N m : Nat) (n t : Int) (q d : Nat) (w : World) (e : Ending) (w' : World) : Prop :=
  ((∃ r, r ≠ 0 ∧ Ere G O N m n t q d r ∧ e = .returned (.tuple #[.slice none 0 0, .slice none 0 0, .int .i64 r])) ∨
   (Ere G O N m n t q d 0 ∧ ∃ a c b k, e = .returned (.tuple #[.slice a m c, .slice b n.toNat k, .int .i64 0]) ∧ Rd w' a m c (otl G O ins m) ∧ RdR w' b n.toNat k (snl G O n.toNat t.toNat ins ds N m))) ∧ Below w.heap.size w w'
theorem Ere.ok {G : List Gt} {O : List Int} {N m : Nat} {n t : Int} {q d : Nat} (h : Ere G O N m n t q d 0) : Nde G O N m n t 0 ∧ q = ci G N ∧ d = dwn G n.toNat t.toNat N := by
  rcases h with ⟨h1, _⟩ | ⟨h1, ⟨_, h2⟩ | ⟨h2, ⟨_, h3⟩ | ⟨h3, _⟩⟩⟩
  · exact absurd rfl h1
  · omega
  · omega
  · exact ⟨h1, h2, h3⟩
/-- What was seen is read. -/
theorem snl_rd {w : World} {B : Nat} {u : Value} {L : List Value} {G : List Gt} {O : List Int} {n t : Nat} {ins ds : List Int} {N m : Nat} (h : LsV w B u L (snl G O n t ins ds N m)) : ∃ a c, u = .slice a n c ∧ RdR w a n c (snl G O n t ins ds N m) :=
  h.rdR (snl_len _ _ _ _ _ _ _ _) fun i hi x hx => by
    rw [snl_getD _ _ _ _ _ _ _ _ hi] at hx
    have := sno_bd _ _ _ _ _ _ _ _ hi x hx
    omega
/-- The parties' block. -/
def PBox (w : World) (g n t : Nat) (vi vd vW vS : Value) : Prop := w.heap[g]? = some (.cells #[.int .i64 (n : Int), .int .i64 (t : Int), vi, vd, vW, vS] 66 (0, 0))
theorem PBox.lt {w : World} {g n t : Nat} {vi vd vW vS : Value} (h : PBox w g n t vi vd vW vS) : g < w.heap.size := (Array.getElem?_eq_some_iff.1 h).1
theorem PBox.cells {w : World} {g n t : Nat} {vi vd vW vS : Value} (h : PBox w g n t vi vd vW vS) : w.cell? ⟨g, 0, none⟩ = some (.int .i64 (n : Int)) ∧ w.cell? ⟨g, 1, none⟩ = some (.int .i64 (t : Int)) ∧ w.cell? ⟨g, 2, none⟩ = some vi ∧ w.cell? ⟨g, 3, none⟩ = some vd ∧ w.cell? ⟨g, 4, none⟩ = some vW ∧ w.cell? ⟨g, 5, none⟩ = some vS := by
  unfold PBox at h
  rw [cell_of_row w g 0 _ _ (0, 0) h, cell_of_row w g 1 _ _ (0, 0) h, cell_of_row w g 2 _ _ (0, 0) h, cell_of_row w g 3 _ _ (0, 0) h, cell_of_row w g 4 _ _ (0, 0) h, cell_of_row w g 5 _ _ (0, 0) h]
  exact ⟨rfl, rfl, rfl, rfl, rfl, rfl⟩
theorem PBox.below {w w' : World} {B g n t : Nat} {vi vd vW vS : Value} (h : PBox w g n t vi vd vW vS) (hb : Below B w w') (hg : g < B) : PBox w' g n t vi vd vW vS := by
  unfold PBox; rw [hb.block g hg]; exact h
theorem PBox.grown {w w' : World} {g n t : Nat} {r : Option Nat} {vi vd vW vS : Value} (h : PBox w g n t vi vd vW vS) (hg : w.grownBy w' r) (hr : some g ≠ r) : PBox w' g n t vi vd vW vS := by
  unfold PBox; rw [hg.block g h.lt hr]; exact h
theorem PBox.drew {w : World} {g n t : Nat} {vi vd vW vS : Value} (h : PBox w g n t vi vd vW vS) : PBox w.drew g n t vi vd vW vS := h
theorem PBox.frozen {w : World} {g n t : Nat} {vi vd vW vS : Value} (h : PBox w g n t vi vd vW vS) (i : Nat) : w.frozen? ⟨g, i, none⟩ = false := frozen_of_row w g i _ _ h
theorem PBox.set2 {w : World} {g n t : Nat} {vi vd vW vS : Value} (h : PBox w g n t vi vd vW vS) (v : Value) : PBox (w.setCell ⟨g, 2, none⟩ v) g n t v vd vW vS := by
  have := heap_setCell_same w g 2 _ _ v h
  unfold PBox; rw [this]; rfl
theorem PBox.set3 {w : World} {g n t : Nat} {vi vd vW vS : Value} (h : PBox w g n t vi vd vW vS) (v : Value) : PBox (w.setCell ⟨g, 3, none⟩ v) g n t vi v vW vS := by
  have := heap_setCell_same w g 3 _ _ v h
  unfold PBox; rw [this]; rfl
theorem PBox.set4 {w : World} {g n t : Nat} {vi vd vW vS : Value} (h : PBox w g n t vi vd vW vS) (v : Value) : PBox (w.setCell ⟨g, 4, none⟩ v) g n t vi vd v vS := by
  have := heap_setCell_same w g 4 _ _ v h
  unfold PBox; rw [this]; rfl
/-- A list lies elsewhere. -/
theorem PBox.off {w : World} {g n t : Nat} {vi vd vW vS v : Value} {B z k : Nat} {E : TypeId} {xs : List Value} (h : PBox w g n t vi vd vW vS) (ho : w.ownsRow B E z v k xs) (hE : E ≠ 66) : v.ownBlock = none ∨ v.ownBlock ≠ some g := by
  rcases ho.2 with ⟨rfl, _⟩ | ⟨g', cap, cur, rfl, _, hg, _⟩
  · exact .inl rfl
  · right
    intro e
    simp only [Value.ownBlock, Option.some.injEq] at e
    subst e
    unfold PBox at h
    rw [hg] at h
    simp only [Option.some.injEq, Obj.cells.injEq] at h
    exact hE h.2.1
theorem PBox.off' {w : World} {g n t : Nat} {vi vd vW vS v : Value} {B z k : Nat} {E : TypeId} {xs : List Value} (h : PBox w g n t vi vd vW vS) (ho : w.ownsRow B E z v k xs) (hE : E ≠ 66) : some g ≠ v.ownBlock := by
  rcases h.off ho hE with e | e
  · rw [e]; simp
  · exact fun e' => e e'.symm
theorem eUP : (42 : TypeId) ≠ 66 := by decide
theorem eVP : (26 : TypeId) ≠ 66 := by decide
/-- The parties' state. -/
structure PSt (w wr : World) (gp gs n t : Nat) (vi vd : Value) (Ls : List Value) (S : List (List Int)) (vW : Value) (LW : List Value) (W : List (List Int)) (lo hi : Nat) : Prop where
  sen : Sen w wr gs n Ls S vW LW W lo hi
  box : PBox wr gp n t vi vd vW (.slice (some ⟨gs, 0, none⟩) n n)
  low : w.heap.size ≤ gp
theorem PSt.drew {w wr : World} {gp gs n t : Nat} {vi vd : Value} {Ls : List Value} {S : List (List Int)} {vW : Value} {LW : List Value} {W : List (List Int)} {lo hi : Nat} (h : PSt w wr gp gs n t vi vd Ls S vW LW W lo hi) : PSt w wr.drew gp gs n t vi vd Ls S vW LW W lo hi :=
  ⟨h.sen.drew, h.box, h.low⟩
theorem PSt.below {w wr w' : World} {gp gs n t : Nat} {vi vd : Value} {Ls : List Value} {S : List (List Int)} {vW : Value} {LW : List Value} {W : List (List Int)} {lo hi : Nat} (h : PSt w wr gp gs n t vi vd Ls S vW LW W lo hi) (hb : Below wr.heap.size wr w') : PSt w w' gp gs n t vi vd Ls S vW LW W lo hi :=
  ⟨h.sen.below hb, h.box.below hb h.box.lt, h.low⟩
theorem PSt.fresh {w wr w' : World} {gp gs n t : Nat} {vi vd : Value} {Ls : List Value} {S : List (List Int)} {vW : Value} {LW : List Value} {W : List (List Int)} {lo hi : Nat} (h : PSt w wr gp gs n t vi vd Ls S vW LW W lo hi) (hn : 0 < n) (hb : Below wr.heap.size wr w') : PSt w w' gp gs n t vi vd Ls S vW LW W wr.heap.size w'.heap.size :=
  ⟨h.sen.fresh hn hb, h.box.below hb h.box.lt, h.low⟩
/-- What the parties' block holds has turned. -/
theorem PSt.turn {w wr w' : World} {gp gs n t : Nat} {vi vd vi' vd' : Value} {Ls : List Value} {S : List (List Int)} {vW : Value} {LW : List Value} {W : List (List Int)} {lo hi : Nat} (h : PSt w wr gp gs n t vi vd Ls S vW LW W lo hi) (hg : wr.grownBy w' (some gp)) (hb : PBox w' gp n t vi' vd' vW (.slice (some ⟨gs, 0, none⟩) n n)) : PSt w w' gp gs n t vi' vd' Ls S vW LW W lo hi := by
  have hs := h.sen
  refine ⟨⟨hs.seen.grown hg (h.box.off hs.seen.own eVP) (fun i hi => h.box.off (hs.seen.row i hi) eUP), hs.len, hs.wires.grown hg (h.box.off hs.wires.own eVP) (fun i hi => h.box.off (hs.wires.row i hi) eUP), hs.apt, hs.out, hs.far, hs.gl, Nat.le_trans hs.hi hg.size, hs.bel.grown hg hs.bel.size (fun q hq => ?_)⟩, hb, h.low⟩
  obtain rfl := Option.some.inj hq
  exact h.low
/-- What party j has seen grows. -/
theorem PSt.put {w wr w7 : World} {gp gs n t j : Nat} {vi vd : Value} {Ls : List Value} {S : List (List Int)} {vW v7 : Value} {LW : List Value} {W : List (List Int)} {lo hi : Nat} {row : List Int} (h : PSt w wr gp gs n t vi vd Ls S vW LW W lo hi) (hj : j < n)
    (ho : w7.ownsRow w.heap.size 42 1 v7 row.length (row.map (Value.int .u64))) (hg : wr.grownBy w7 (Ls.getD j (.slice none 0 0)).ownBlock) (hat : v7.ownBlock = (Ls.getD j (.slice none 0 0)).ownBlock ∨ ∃ k, v7.ownBlock = some k ∧ wr.heap.size ≤ k) :
    PSt w (w7.setCell ⟨gs, j, none⟩ v7) gp gs n t vi vd (Ls.set j v7) (S.set j row) vW LW W lo hi := by
  have hrow := h.sen.seen.row j (by rw [h.sen.len]; exact hj)
  have hb7 := h.box.grown hg (h.box.off' hrow eUP)
  exact ⟨h.sen.put hj ho hg hat, hb7.grown (grown_set w7 gs j v7) (h.box.off' h.sen.seen.own eVP), h.low⟩
/-- What see leaves: party j's list has grown by xs. -/
def Seen (w wr : World) (gs j : Nat) (u : Value) (row xs : List Int) (w' : World) : Prop :=
  ∃ w7 v7, w' = w7.setCell ⟨gs, j, none⟩ v7 ∧ w7.ownsRow w.heap.size 42 1 v7 (row ++ xs).length ((row ++ xs).map (Value.int .u64)) ∧ wr.grownBy w7 u.ownBlock ∧ (v7.ownBlock = u.ownBlock ∨ ∃ k, v7.ownBlock = some k ∧ wr.heap.size ≤ k)
theorem PSt.seen {w wr w' : World} {gp gs n t j : Nat} {vi vd : Value} {Ls : List Value} {S X : Nat → List Int} {vW : Value} {LW : List Value} {W : List (List Int)} {lo hi : Nat} (h : PSt w wr gp gs n t vi vd Ls (sgx S X n j) vW LW W lo hi) (hj : j < n) (hs : Seen w wr gs j (Ls.getD j (.slice none 0 0)) (S j) (X j) w') :
    (∃ Ls', PSt w w' gp gs n t vi vd Ls' (sgx S X n (j + 1)) vW LW W lo hi) ∧ ∀ (B2 z k : Nat) (E : TypeId) (v : Value) (xs : List Value), wr.ownsRow B2 E z v k xs → Btw lo hi v → w'.ownsRow B2 E z v k xs := by
  obtain ⟨w7, v7, rfl, ho, hg, hat⟩ := hs
  have hp := h.put hj ho hg hat
  rw [sgx_set] at hp
  exact ⟨⟨_, hp⟩, fun B2 z k E v xs hx hv => h.sen.keep hj hx hv hg⟩
/-- Two spans at once. -/
theorem PSt.seen2 {w wr w' : World} {gp gs n t j : Nat} {vi vd : Value} {Ls : List Value} {S X : Nat → List Int} {vW : Value} {LW : List Value} {W : List (List Int)} {lo hi lo2 hi2 : Nat} (h : PSt w wr gp gs n t vi vd Ls (sgx S X n j) vW LW W lo hi) (h2 : PSt w wr gp gs n t vi vd Ls (sgx S X n j) vW LW W lo2 hi2) (hj : j < n) (hs : Seen w wr gs j (Ls.getD j (.slice none 0 0)) (S j) (X j) w') :
    (∃ Ls', PSt w w' gp gs n t vi vd Ls' (sgx S X n (j + 1)) vW LW W lo hi ∧ PSt w w' gp gs n t vi vd Ls' (sgx S X n (j + 1)) vW LW W lo2 hi2) ∧ (∀ (B2 z k : Nat) (E : TypeId) (v : Value) (xs : List Value), wr.ownsRow B2 E z v k xs → Btw lo hi v → w'.ownsRow B2 E z v k xs) ∧ (∀ (B2 z k : Nat) (E : TypeId) (v : Value) (xs : List Value), wr.ownsRow B2 E z v k xs → Btw lo2 hi2 v → w'.ownsRow B2 E z v k xs) := by
  obtain ⟨w7, v7, rfl, ho, hg, hat⟩ := hs
  have hp := h.put hj ho hg hat
  have hp2 := h2.put hj ho hg hat
  rw [sgx_set] at hp hp2
  exact ⟨⟨_, hp, hp2⟩, fun B2 z k E v xs hx hv => h.sen.keep hj hx hv hg, fun B2 z k E v xs hx hv => h2.sen.keep hj hx hv hg⟩
/-- What is left of the inputs and of the draws. -/
def Lft (w : World) (xs : List Int) (q k : Nat) (v : Value) : Prop := ∃ a c, v = .slice a (q - k) c ∧ Rd w a (q - k) c (xs.drop k)
end
end Go.Proofs.YtljlioglpaogdahDoor
