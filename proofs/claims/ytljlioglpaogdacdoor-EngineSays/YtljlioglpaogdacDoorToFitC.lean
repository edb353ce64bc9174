/- shamir.weight, shamir.Weights. · croftref.Weights. · shamir.Open. · croftref.Fit, croftref.Open. -/
import Derived.Test.YtljlioglpaogdacDoorToCkDef
import Derived.Test.YtljlioglpaogdacDoorToShortC
import Derived.Test.YtljlioglpaogdacDoorToEnD
import Derived.Test.YtljlioglpaogdacDoorToTRows
import Derived.Test.YtljlioglpaogdacDoorToSortM
import Derived.Test.YtljlioglpaogdacDoorToShpM
import Derived.Test.YtljlioglpaogdacDoorProg
import Derived.Deep.QuietTactic
import Derived.BigQuiet
import Derived.BigRegion
namespace Go.Proofs.YtljlioglpaogdacDoor
set_option linter.unusedVariables false
set_option maxRecDepth 100000
set_option maxHeartbeats 8000000
section
open Crm Go.RowKit
theorem neq_bool {x y : Int} (h : x ≠ y) : (x != y) = true := by rw [bne_iff_ne]; exact h

theorem cWeight (a : Option Addr) (n c : Nat) (ts : List Int) (i : Nat) (w : World) (h : RdI w a n c ts) (hd : dis (fi ts) n) (hi : i < n) :
    Calls Tryd.prog 109 #[.int .i64 (ts.getD i 0), .slice a n c] w fun e w' => e = .returned (.int .u64 (wt ts n i)) ∧ w' = w := by
  have HD : Hid (dis (fi ts) n) := hd
  have hn9 := dis_nine hd
  obtain ⟨T, HT⟩ : ∃ T, Hid (ts.getD i 0 = T) := ⟨_, rfl⟩
  have hT1 := (hd i hi).1
  unfold fi at hT1
  rw [HT.out] at hT1 ⊢
  have hT2 := hT1.2
  have hT1 := hT1.1
  clear hd
  go_enter Tryd.func109, Tryd.ntmps109
  go_wp2
  go_loop [5, 6, 13] (fun u v q => ∃ (k : Nat) (A B : Int), k ≤ n ∧ q = .int .i64 k ∧ u = .int .u64 A ∧ v = .int .u64 B ∧ 0 ≤ A ∧ A ≤ 2147483646 ∧ 0 ≤ B ∧ B ≤ 2147483646 ∧ Hid (A = nm (pr ts T 0 k)) ∧ Hid (B = nm (pr ts T T k))) (fun _ _ q => n - (intOf q).toNat)
  case atStart => exact ⟨0, 1, 1, Nat.zero_le _, rfl, rfl, rfl, by omega, by omega, by omega, by omega, by rw [pr]; rfl, by rw [pr]; rfl⟩
  case round =>
    obtain ⟨k, A, B, hk, rfl, rfl, rfl, hA0, hA1, hB0, hB1, HA, HB⟩ := hrel
    by_cases hlt : k < n
    · obtain ⟨b, o, x, rfl, hbb, HX, hx0, hx1, hcx⟩ := h.one hlt
      have hx := (HD.out k hlt).1
      unfold fi at hx
      rw [HX.out] at hx
      have hx9 := hx.2
      have hx1 := hx.1
      clear hx
      by_cases hxT : x = T
      · have hb : (x != T) = false := by rw [hxT]; simp
        have HA2 : Hid (A = nm (pr ts T 0 (k + 1))) := by unfold Hid; rw [pr_skip (by rw [HX.out]; exact hxT)]; exact HA.out
        have HB2 : Hid (B = nm (pr ts T T (k + 1))) := by unfold Hid; rw [pr_skip (by rw [HX.out]; exact hxT)]; exact HB.out
        clear hxT
        go_wp2
        go_round
        case rel => exact ⟨k + 1, A, B, by omega, by go_num, rfl, rfl, hA0, hA1, hB0, hB1, HA2, HB2⟩
        case measure => simp [intOf]; omega
      · have hb : (x != T) = true := neq_bool hxT
        have HA2 : Hid (nm (A * x) = nm (pr ts T 0 (k + 1))) := by
          unfold Hid; rw [pr_take (by rw [HX.out]; exact hxT), HX.out, HA.out, nm_mull, Int.sub_zero]
        have HB2 : Hid (nm (B * nm (x - T)) = nm (pr ts T T (k + 1))) := by
          unfold Hid; rw [pr_take (by rw [HX.out]; exact hxT), HX.out, HB.out, nm_mull, nm_mulr]
        have n1 := nm_bd (A * x)
        have n2 := nm_bd (x - T)
        have n3 := nm_bd (B * nm (x - T))
        clear hxT
        go_wp2_with (first | (go_at_call 74; refine (fMul _ _ _ (by omega) (by omega) (by omega) (by omega)).mono ?_; rintro e w3 ⟨rfl, hw⟩; have hw := hw.symm; subst hw) | (go_at_call 71; refine (fSub _ _ _ (by omega) (by omega) (by omega) (by omega)).mono ?_; rintro e w3 ⟨rfl, hw⟩; have hw := hw.symm; subst hw))
        go_round
        case rel => exact ⟨k + 1, _, _, by omega, by go_num, rfl, rfl, n1.1, n1.2, n3.1, n3.2, HA2, HB2⟩
        case measure => simp [intOf]; omega
    · have hkn : k = n := by omega
      subst hkn
      have HW : Hid (nm (A * iv B) = wt ts k i) := by unfold Hid wt; rw [HT.out, HA.out, HB.out]
      have HNZ : Hid (nm B ≠ 0) := by
        unfold Hid; rw [HB.out, nm_nm, ← HT.out]; exact pr_own HD.out hi k (Nat.le_refl _)
      have hib := iv_bd B
      have hnb := nm_bd (A * iv B)
      go_wp2_with (first | (go_at_call 96; refine (fInv1 _ _ (by omega) (by omega) HNZ.out).mono ?_; rintro e w3 ⟨rfl, hw⟩; have hw := hw.symm; subst hw) | (go_at_call 74; refine (fMul _ _ _ (by omega) (by omega) (by omega) (by omega)).mono ?_; rintro e w3 ⟨rfl, hw⟩; have hw := hw.symm; subst hw))
      go_ret
      rw [HW.out]
      exact ⟨rfl, rfl⟩

/-- What Weights answers: a list of weights, or ErrForm. -/
def Wts (ts : List Int) (n : Nat) (w : World) (e : Ending) (w' : World) : Prop :=
  ((¬ dis (fi ts) n ∧ e = .returned (.tuple #[.slice none 0 0, .int .i64 5])) ∨ (dis (fi ts) n ∧ ∃ g, e = .returned (.tuple #[.slice (some ⟨g, 0, none⟩) n n, .int .i64 0]) ∧ Rd w' (some ⟨g, 0, none⟩) n n ((List.range n).map (wt ts n)) ∧ w.heap.size ≤ g)) ∧ Below w.heap.size w w'

theorem cWeights1 (a : Option Addr) (n c : Nat) (ts : List Int) (w : World) (h : RdI w a n c ts) (hn0 : 0 < n) :
    Calls Tryd.prog 106 #[.slice a n c] w fun e w' => Wts ts n w e w' := by
  obtain ⟨i0, hi, hz0, hz1, hz2⟩ := info_parts info43
  have hcap := h.cap
  have hmax := h.max
  unfold maxLen at hmax
  have hnb : ((n : Int) == 0) = false := by rw [beq_eq_false_iff_ne]; omega
  go_enter Tryd.func106, Tryd.ntmps106
  go_wp2
  go_loopw [15] (fun i wr => ∃ (k : Nat) (M : List Bool), k ≤ n ∧ i = .int .i64 k ∧ Hid (Mk (fi ts) k M) ∧ BlkB wr w.heap.size M ∧ Below w.heap.size w wr) (fun i _ => n - (intOf i).toNat)
  case atStart => exact ⟨0, _, Nat.zero_le _, rfl, mk_start _, heap_alloc_new w _, (Below.refl _ _).alloc (Nat.le_refl _) _⟩
  case round =>
    obtain ⟨k, M, hk, rfl, HM, hB2, hbel2⟩ := hrel
    have hs1 := hbel2.size
    have hlM := HM.out.len
    by_cases hlt : k < n
    · obtain ⟨b, o, x, rfl, hbb, HX, hx0, hx1, hcx⟩ := (h.below hbel2).one hlt
      go_wp2_with fail
      clear hcx
      by_cases hx : x < 1 ∨ 9 < x
      · have HN : Hid (¬ dis (fi ts) n) := mk_out hlt HX.out hx
        refine (cJoinO _ _ _ hx).mono ?_
        rintro e w' ⟨rfl, hw⟩
        have hw := hw.symm
        subst hw
        clear hx
        go_wp2
        go_ret2
        exact ⟨Or.inl ⟨HN.out, rfl⟩, hbel2⟩
      · obtain ⟨p, rfl⟩ : ∃ p : Nat, x = p := ⟨x.toNat, by omega⟩
        cases hm : M.getD p false with
        | true =>
          have HN : Hid (¬ dis (fi ts) n) := mk_twice HM.out hlt HX.out (by omega) (by omega) hm
          refine (cJoinN _ _ _ _ hB2 hlM (by omega) (by omega) hm).mono ?_
          rintro e w' ⟨rfl, hw⟩
          have hw := hw.symm
          subst hw
          clear hm
          go_wp2
          go_ret2
          exact ⟨Or.inl ⟨HN.out, rfl⟩, hbel2⟩
        | false =>
          have HM2 : Hid (Mk (fi ts) (k + 1) (M.set p true)) := mk_step HM.out HX.out (by omega) (by omega) hm
          refine (cJoinY _ _ _ _ hB2 hlM (by omega) (by omega) hm).mono ?_
          rintro e w' ⟨rfl, rfl⟩
          have hB3 := hB2.set p true
          have hbel3 := below_grown hbel2 (grown_set wr w.heap.size p (.bool true)) (Nat.le_refl _)
          generalize wr.setCell ⟨w.heap.size, p, none⟩ (.bool true) = W3 at *
          clear hm
          go_wp2
          go_roundw
          case rel => exact ⟨k + 1, _, by omega, by go_num, HM2, hB3, hbel3⟩
          case measure => simp [intOf]; omega
    · have hkn : k = n := by omega
      subst hkn
      have HD : Hid (dis (fi ts) k) := HM.out.dis
      have hk9 := dis_nine HD.out
      obtain ⟨wo, hwo⟩ : ∃ wo, wo = wr := ⟨_, rfl⟩
      subst hwo
      clear hB2 hlM HM
      go_wp2_with (at_make; refine wpList_make_full _ rfl _ _ 31 rfl wo.heap.size 43 i0 (.int .u64 0) 1 Tryd.underlying31 hi hz0 hz1 .i64 .i64 _ _ k rfl rfl (by omega) (by omega) (by rw [hz2]; omega) (by unfold maxLen; omega) (Nat.le_refl _) ?_; intro w2 hown hgrow)
      have hB2 : Blk w2 wo.heap.size (fil (wt ts k) k 0) := by rw [← fil_zero]; exact Blk.made hown
      have hb2 : Below wo.heap.size wo w2 := (Below.refl _ _).grown hgrow (Nat.le_refl _) (by simp)
      have hb12 : Below w.heap.size w w2 := hbel2.trans (hb2.mono hs1)
      clear hown hgrow hb2
      go_loopw [28] (fun i wr => ∃ j : Nat, j ≤ k ∧ i = .int .i64 j ∧ Blk wr wo.heap.size (fil (wt ts k) k j) ∧ Below w.heap.size w wr) (fun i _ => k - (intOf i).toNat)
      case atStart => exact ⟨0, Nat.zero_le _, rfl, hB2, hb12⟩
      case round =>
        clear hB2 hb12
        obtain ⟨j, hj, rfl, hblk, hbel⟩ := hrel
        by_cases hlt2 : j < k
        · have hI := h.below hbel
          obtain ⟨b, o, x, rfl, hbb, HX, hx0, hx1, hcx⟩ := hI.one hlt2
          have hcell := hblk.cell (i := j) (by rw [fil_len]; exact hlt2)
          have hfz := hblk.frozen j
          have hlt3 := hblk.lt
          have hblk4 := hblk.set j (wt ts k j)
          rw [fil_set rfl] at hblk4
          have Hb5 : Hid (Below w.heap.size w (wr.setCell ⟨wo.heap.size, j, none⟩ (.int .u64 (wt ts k j)))) := hbel.setCell hs1 _
          have hcw := cWeight _ _ _ _ j wr hI HD.out hlt2
          rw [HX.out] at hcw
          clear hbel hblk
          go_wp2_with (go_at_call 109; refine hcw.mono ?_; rintro e w3 ⟨rfl, hw⟩; have hw := hw.symm; subst hw; clear hcw)
          go_roundw
          case rel => exact ⟨j + 1, by omega, by go_num, hblk4, Hb5.out⟩
          case measure => simp [intOf]; omega
        · have hjk : j = k := by omega
          subst hjk
          have hr : Rd wr (some ⟨wo.heap.size, 0, none⟩) j j ((List.range j).map (wt ts j)) := by
            rw [fil_full] at hblk
            exact Blk.whole hblk j (by simp) (by unfold maxLen; omega) (bd_u64 (by rw [← fil_full]; exact fil_bd (wt_bd ts j) j j))
          go_wp2
          go_ret2
          exact ⟨Or.inr ⟨HD.out, _, rfl, hr, hs1⟩, hbel⟩
/-- The shares of which party i's number is 1, the others' 0. -/
def swl (ts : List Int) (i m : Nat) : List (Int × Int) := (List.range m).map fun j => (ts.getD j 0, if j = i then 1 else 0)
theorem swl_len (ts : List Int) (i m : Nat) : (swl ts i m).length = m := by simp [swl]
theorem swl_snoc (ts : List Int) (i m : Nat) {x y : Int} (hx : ts.getD m 0 = x) (hy : y = if m = i then 1 else 0) : swl ts i m ++ [(x, y)] = swl ts i (m + 1) := by
  unfold swl
  rw [List.range_succ, List.map_append, hy, ← hx]
  rfl
theorem swl_getD (ts : List Int) (i : Nat) {m j : Nat} (h : j < m) : (swl ts i m).getD j (0, 0) = (ts.getD j 0, if j = i then 1 else 0) := by simp [swl, h]
theorem swl_ok {ts : List Int} {n : Nat} (i : Nat) (hd : dis (fi ts) n) : okk (swl ts i n) n := by
  intro j hj
  rw [swl_getD ts i hj]
  have h1 := (hd j hj).1
  unfold fi at h1
  refine ⟨⟨h1.1, by simp only; omega⟩, fun q hq => ?_⟩
  rw [swl_getD ts i (show q < n by omega)]
  exact (hd j hj).2 q hq
theorem swl_wt {ts : List Int} {n i : Nat} {p : List Int} (hd : dis (fi ts) n) (hi : i < n) (h : LoI (swl ts i n) n n p) : nm (ev p 0) = wt ts n i := by
  refine Wgt.one hd ⟨p, h.le, fun j hj => ?_, rfl⟩ (wt_wgt hd hi)
  have := h.val j hj
  rw [if_pos hj, swl_getD ts i hj] at this
  rw [this]
  split <;> rfl
def wtl (ts : List Int) (n k : Nat) : List Int := (List.range k).map (wt ts n)
theorem wtl_snoc (ts : List Int) (n k : Nat) : wtl ts n k ++ [wt ts n k] = wtl ts n (k + 1) := by simp [wtl, List.range_succ]
theorem wtl_bd (ts : List Int) (n k : Nat) : ∀ x ∈ wtl ts n k, 0 ≤ x ∧ x ≤ 2147483646 := by
  intro x hx
  obtain ⟨i, _, rfl⟩ := List.mem_map.1 hx
  exact wt_bd ts n i

theorem rWeights (a : Option Addr) (n c : Nat) (ts : List Int) (w : World) (h : RdI w a n c ts) (hd : dis (fi ts) n) :
    Calls Tryd.prog 48 #[.slice a n c] w fun e w' => ∃ a' c', e = .returned (.slice a' n c') ∧ Rd w' a' n c' (wtl ts n n) ∧ Below w.heap.size w w' := by
  have HD : Hid (dis (fi ts) n) := hd
  have hn9 := dis_nine hd
  clear hd
  have hcap := h.cap
  have hmax := h.max
  unfold maxLen at hmax
  go_enter Tryd.func48, Tryd.ntmps48
  go_wp2
  go_loopw [3, 4] (fun v i wr => ∃ k : Nat, k ≤ n ∧ i = .int .i64 k ∧ wr.ownsRow w.heap.size 43 1 v k ((wtl ts n k).map (Value.int .u64)) ∧ Below w.heap.size w wr) (fun _ i _ => n - (intOf i).toNat)
  case atStart => exact ⟨0, Nat.zero_le _, rfl, World.ownsRow_nil _ _ _ _, Below.refl _ _⟩
  case round =>
    obtain ⟨k, hk, rfl, hown, hbel⟩ := hrel
    obtain ⟨wo, hwo⟩ : ∃ wo, wo = wr := ⟨_, rfl⟩
    subst hwo
    have hs1 := hbel.size
    by_cases hlt : k < n
    · go_wp2
      go_loopw [5, 6] (fun v i wr => ∃ m : Nat, m ≤ n ∧ i = .int .i64 m ∧ wr.ownsRow wo.heap.size 98 2 v m (shc (swl ts k m)) ∧ Below wo.heap.size wo wr) (fun _ i _ => n - (intOf i).toNat)
      case atStart => exact ⟨0, Nat.zero_le _, rfl, World.ownsRow_nil _ _ _ _, Below.refl _ _⟩
      case round =>
        obtain ⟨m, hm, rfl, hownS, hbm⟩ := hrel
        have hbw := hbel.trans (hbm.mono hs1)
        have hs2 := hbm.size
        by_cases hmn : m < n
        · obtain ⟨b, o, x, rfl, hbb, HX, hx0, hx1, hcx⟩ := (h.below hbw).one hmn
          by_cases hmk : m = k
          · have hmb : ((m : Int) == (k : Int)) = true := by rw [beq_iff_eq]; omega
            have HS : Hid (swl ts k m ++ [(x, 1)] = swl ts k (m + 1)) := swl_snoc ts k m HX.out (by rw [if_pos hmk])
            clear hmk
            go_wp2_with (at_builtin; refine wpList_appS Tryd.underlying96 infoSh _ rfl _ _ rfl wo.heap.size _ _ _ rfl hownS _ _ rfl (by omega) (by omega) ?_; intro v' w7 hown7 hbel7; rw [HS.out] at hown7; have hbel8 := hbm.trans hbel7; clear hbel7)
            go_roundw
            case rel => exact ⟨m + 1, by omega, by go_num, hown7, hbel8⟩
            case measure => simp [intOf]; omega
          · have hmb : ((m : Int) == (k : Int)) = false := by rw [beq_eq_false_iff_ne]; omega
            have HS : Hid (swl ts k m ++ [(x, 0)] = swl ts k (m + 1)) := swl_snoc ts k m HX.out (by rw [if_neg hmk])
            clear hmk
            go_wp2_with (at_builtin; refine wpList_appS Tryd.underlying96 infoSh _ rfl _ _ rfl wo.heap.size _ _ _ rfl hownS _ _ rfl (by omega) (by omega) ?_; intro v' w7 hown7 hbel7; rw [HS.out] at hown7; have hbel8 := hbm.trans hbel7; clear hbel7)
            go_roundw
            case rel => exact ⟨m + 1, by omega, by go_num, hown7, hbel8⟩
            case measure => simp [intOf]; omega
        · have hmn' : m = n := by omega
          subst hmn'
          have hlk := swl_len ts k m
          have hbd : ∀ i, i < m → (-9223372036854775808 ≤ ((swl ts k m).getD i (0, 0)).1 ∧ ((swl ts k m).getD i (0, 0)).1 ≤ 9223372036854775807) ∧ 0 ≤ ((swl ts k m).getD i (0, 0)).2 ∧ ((swl ts k m).getD i (0, 0)).2 ≤ 18446744073709551615 := fun i hi => by
            rw [swl_getD ts k hi]
            have h1 := (HD.out i hi).1
            unfold fi at h1
            refine ⟨⟨by simp only; omega, by simp only; omega⟩, ?_⟩
            simp only
            split <;> omega
          obtain ⟨al, cl, rfl, hl⟩ := RdS.own hownS hlk hbd
          have HOK : Hid (okk (swl ts k m) m) := swl_ok k HD.out
          have hown2 := own_below hown hbm
          clear hbd hownS hown
          go_wp2_with fail
          refine (rThrough _ _ _ _ _ hl (by omega) HOK.out).mono ?_
          rintro e w5 ⟨p, ap, cp, rfl, hrp, hLo, hb5⟩
          have HV : Hid (nm (ev p 0) = wt ts m k) := swl_wt HD.out hlt hLo
          have hpl := hLo.le
          obtain ⟨N, hN⟩ : ∃ N, N = p.length := ⟨_, rfl⟩
          rw [← hN] at hrp hpl ⊢
          have hown5 := own_below hown2 hb5
          have hbw5 := hbw.trans (hb5.mono hbw.size)
          have hs5 := hbw5.size
          clear hN hLo hown2 hl hb5 hbw hbm
          go_wp2_with fail
          refine (rEval _ _ _ _ _ _ hrp (by omega) (by omega) (by omega)).mono ?_
          rintro e w6 ⟨rfl, hw⟩
          have hw := hw.symm
          subst hw
          rw [HV.out]
          go_wp2_with (at_builtin; refine wpList_app1 Tryd.underlying31 info43 _ rfl _ _ rfl w.heap.size _ _ _ rfl hown5 _ rfl (by omega) (by omega) ?_; intro v' w7 hown7 hbel7; rw [wtl_snoc] at hown7; have hbel8 := hbw5.trans hbel7)
          go_roundw
          case rel => exact ⟨k + 1, by omega, by go_num, hown7, hbel8⟩
          case measure => simp [intOf]; omega
    · have hkn : k = n := by omega
      subst hkn
      obtain ⟨a', c', rfl, hr', _⟩ := Rd.own hown (bd_u64 (wtl_bd _ _ _))
      go_wp2
      go_ret
      exact ⟨_, _, rfl, hr', hbel⟩
theorem cOpenS (a : Option Addr) (n c : Nat) (l : List (Int × Int)) (t : Int) (w : World) (h : RdS w a n c l) :
    Calls Tryd.prog 58 #[.int .i64 t, .slice a n c] w fun e w' => ∃ x r, e = .returned (.tuple #[.int .u64 x, .int .i64 r]) ∧ Opn l n t x r ∧ Below w.heap.size w w' := by
  go_enter Tryd.func58, Tryd.ntmps58
  go_wp2_with fail
  refine (cCheckS _ _ _ _ _ _ h).mono ?_
  rintro e w1 ⟨r, rfl, hS, hb1⟩
  by_cases hr : r = 0
  · subst hr
    have HS : Hid (She l n t 0) := hS
    obtain ⟨t0, t4, hd, htn, hn9⟩ := hS.ok
    have HD : Hid (okk l n) := dis_okk hd
    clear hd hS
    go_wp2_with fail
    refine (cThroughOK _ _ _ _ _ (h.below hb1) (by omega) HD.out).mono ?_
    rintro e w2 ⟨S, g, rfl, hls, hbs, hvs, hr2, hb2⟩
    have HO : Hid (_ ∧ _) := opn_newton HS.out hls hbs hvs
    have hb12 := hb1.trans (hb2.mono hb1.size)
    have htl := tl_le S n
    obtain ⟨T, hT⟩ : ∃ T, T = tl S n := ⟨_, rfl⟩
    rw [← hT] at hr2 HO htl ⊢
    clear hls hbs hvs hb1 hb2 hT
    by_cases hlt : (T : Int) ≤ t + 1
    · have HN : Hid (Opn l n t (nm (ev (trm S) 0)) 0) := HO.out.1 hlt
      clear HO
      go_wp2_with fail
      refine (cEvalOK _ _ _ _ _ _ hr2 (by omega) (by omega) (by omega)).mono ?_
      rintro e w3 ⟨rfl, hb3⟩
      have hb13 := hb12.trans (hb3.mono hb12.size)
      clear hb3 hr2
      go_wp2
      go_ret2
      exact ⟨_, _, rfl, HN.out, hb13⟩
    · have HN : Hid (Opn l n t 0 6) := HO.out.2 (by omega)
      clear HO
      go_wp2
      go_ret2
      exact ⟨_, _, rfl, HN.out, hb12⟩
  · have hrb : (r != 0) = true := by rw [bne_iff_ne]; exact hr
    have HS : Hid (Opn l n t 0 r) := Or.inl ⟨hS, hr, rfl⟩
    clear hr hS
    go_wp2
    go_ret2
    exact ⟨_, _, rfl, HS.out, hb1⟩
theorem RdS.take {w : World} {a : Option Addr} {n c : Nat} {l : List (Int × Int)} (h : RdS w a n c l) {k : Nat} (hk : k ≤ n) : RdS w a k c (l.take k) := by
  have e : ∀ i, i < k → (l.take k).getD i (0, 0) = l.getD i (0, 0) := fun i hi => by simp [hi]
  refine ⟨by have := h.len; simp; omega, by have := h.cap; omega, h.max, fun i hi => ?_, h.nil, fun x hx i hi => ?_⟩
  · rw [e i hi]; exact h.bd i (by omega)
  · rw [e i hi]; exact h.cell x hx i (by omega)
end
end Go.Proofs.YtljlioglpaogdacDoor
