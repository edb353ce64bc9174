/- shamir.weight, shamir.Weights. · gate.weigh. · Two lists of rows, all rows of both the call's own, no two of them one. -/
import Derived.Test.YtgmelcdgnjcojagDoorToCheckC
import Derived.Test.YtgmelcdgnjcojagDoorToOpenG
import Derived.Test.YtgmelcdgnjcojagDoorToEnR
import Derived.Test.YtgmelcdgnjcojagDoorToGateC
import Derived.Test.YtgmelcdgnjcojagDoorToRestC
import Derived.Test.YtgmelcdgnjcojagDoorToWireC
namespace Go.Proofs.YtgmelcdgnjcojagDoor
open Go.RowKit Crm

theorem neq_bool {x y : Int} (h : x ≠ y) : (x != y) = true := by rw [bne_iff_ne]; exact h

set_option maxRecDepth 100000 in
set_option maxHeartbeats 1000000 in
theorem cWeight (a : Option Addr) (n c : Nat) (ts : List Int) (i : Nat) (w : World) (h : RdI w a n c ts) (hd : dis (fi ts) n) (hi : i < n) :
    Calls Tryd.prog 106 #[.int .i64 (ts.getD i 0), .slice a n c] w fun e w' => e = .returned (.int .u64 (wt ts n i)) ∧ w' = w := by
  have HD : Hid (dis (fi ts) n) := hd
  have hn9 := dis_nine hd
  obtain ⟨T, HT⟩ : ∃ T, Hid (ts.getD i 0 = T) := ⟨_, rfl⟩
  have hT1 := (hd i hi).1
  unfold fi at hT1
  rw [HT.out] at hT1 ⊢
  have hT2 := hT1.2
  have hT1 := hT1.1
  clear hd
  go_enter Tryd.func106, Tryd.ntmps106
  go_wp2
  go_loop [5, 6, 13] (fun u v q => ∃ (k : Nat) (A B : Int), k ≤ n ∧ q = .int .i64 k ∧ u = .int .u64 A ∧ v = .int .u64 B ∧ 0 ≤ A ∧ A ≤ 2147483646 ∧ 0 ≤ B ∧ B ≤ 2147483646 ∧ Hid (A = nm (pr ts T 0 k)) ∧ Hid (B = nm (pr ts T T k))) (fun _ _ q => n - (intOf q).toNat)
  case atStart => exact ⟨0, 1, 1, Nat.zero_le _, rfl, rfl, rfl, by omega, by omega, by omega, by omega, by rw [pr]; rfl, by rw [pr]; rfl⟩
  case round =>
    obtain ⟨k, A, B, hk, rfl, rfl, rfl, hA0, hA1, hB0, hB1, HA, HB⟩ := hrel
    by_cases hlt : k < n
    · obtain ⟨b, o, x, rfl, hbb, HX, hx0, hx1, hcx⟩ := h.one hlt
      have hx := (HD.out k hlt).1
      unfold fi at hx
      rw [HX.out] at hx
      have hx9 := hx.2
      have hx1 := hx.1
      clear hx
      by_cases hxT : x = T
      · have hb : (x != T) = false := by rw [hxT]; simp
        have HA2 : Hid (A = nm (pr ts T 0 (k + 1))) := by unfold Hid; rw [pr_skip (by rw [HX.out]; exact hxT)]; exact HA.out
        have HB2 : Hid (B = nm (pr ts T T (k + 1))) := by unfold Hid; rw [pr_skip (by rw [HX.out]; exact hxT)]; exact HB.out
        clear hxT
        go_wp2
        go_round
        case rel => exact ⟨k + 1, A, B, by omega, by go_num, rfl, rfl, hA0, hA1, hB0, hB1, HA2, HB2⟩
        case measure => simp [intOf]; omega
      · have hb : (x != T) = true := neq_bool hxT
        have HA2 : Hid (nm (A * x) = nm (pr ts T 0 (k + 1))) := by
          unfold Hid; rw [pr_take (by rw [HX.out]; exact hxT), HX.out, HA.out, nm_mull, Int.sub_zero]
        have HB2 : Hid (nm (B * nm (x - T)) = nm (pr ts T T (k + 1))) := by
          unfold Hid; rw [pr_take (by rw [HX.out]; exact hxT), HX.out, HB.out, nm_mull, nm_mulr]
        have n1 := nm_bd (A * x)
        have n2 := nm_bd (x - T)
        have n3 := nm_bd (B * nm (x - T))
        clear hxT
        go_wp2_with (first | (go_at_call 49; refine (fMul _ _ _ (by omega) (by omega) (by omega) (by omega)).mono ?_; rintro e w3 ⟨rfl, hw⟩; have hw := hw.symm; subst hw) | (go_at_call 59; refine (fSub _ _ _ (by omega) (by omega) (by omega) (by omega)).mono ?_; rintro e w3 ⟨rfl, hw⟩; have hw := hw.symm; subst hw))
        go_round
        case rel => exact ⟨k + 1, _, _, by omega, by go_num, rfl, rfl, n1.1, n1.2, n3.1, n3.2, HA2, HB2⟩
        case measure => simp [intOf]; omega
    · have hkn : k = n := by omega
      subst hkn
      have HW : Hid (nm (A * iv B) = wt ts k i) := by unfold Hid wt; rw [HT.out, HA.out, HB.out]
      have HNZ : Hid (nm B ≠ 0) := by
        unfold Hid; rw [HB.out, nm_nm, ← HT.out]; exact pr_own HD.out hi k (Nat.le_refl _)
      have hib := iv_bd B
      have hnb := nm_bd (A * iv B)
      go_wp2_with (first | (go_at_call 87; refine (fInv1 _ _ (by omega) (by omega) HNZ.out).mono ?_; rintro e w3 ⟨rfl, hw⟩; have hw := hw.symm; subst hw) | (go_at_call 49; refine (fMul _ _ _ (by omega) (by omega) (by omega) (by omega)).mono ?_; rintro e w3 ⟨rfl, hw⟩; have hw := hw.symm; subst hw))
      go_ret
      rw [HW.out]
      exact ⟨rfl, rfl⟩

set_option maxRecDepth 100000 in
theorem cWeights0 (a : Option Addr) (c : Nat) (w : World) :
    Calls Tryd.prog 86 #[.slice a 0 c] w fun e w' => e = .returned (.tuple #[.slice none 0 0, .int .i64 5]) ∧ w' = w := by
  go_enter Tryd.func86, Tryd.ntmps86
  go_wp2
  go_ret2
  exact ⟨rfl, rfl⟩

/-- What Weights answers: a list of weights, or ErrForm. -/
def Wts (ts : List Int) (n : Nat) (w : World) (e : Ending) (w' : World) : Prop :=
  ((¬ dis (fi ts) n ∧ e = .returned (.tuple #[.slice none 0 0, .int .i64 5])) ∨ (dis (fi ts) n ∧ ∃ g, e = .returned (.tuple #[.slice (some ⟨g, 0, none⟩) n n, .int .i64 0]) ∧ Rd w' (some ⟨g, 0, none⟩) n n ((List.range n).map (wt ts n)) ∧ w.heap.size ≤ g)) ∧ Below w.heap.size w w'

set_option maxRecDepth 100000 in
set_option maxHeartbeats 1000000 in
theorem cWeights1 (a : Option Addr) (n c : Nat) (ts : List Int) (w : World) (h : RdI w a n c ts) (hn0 : 0 < n) :
    Calls Tryd.prog 86 #[.slice a n c] w fun e w' => Wts ts n w e w' := by
  obtain ⟨i0, hi, hz0, hz1, hz2⟩ := info_parts info34
  have hcap := h.cap
  have hmax := h.max
  unfold maxLen at hmax
  have hnb : ((n : Int) == 0) = false := by rw [beq_eq_false_iff_ne]; omega
  go_enter Tryd.func86, Tryd.ntmps86
  go_wp2
  go_loopw [15] (fun i wr => ∃ (k : Nat) (M : List Bool), k ≤ n ∧ i = .int .i64 k ∧ Hid (Mk (fi ts) k M) ∧ BlkB wr w.heap.size M ∧ Below w.heap.size w wr) (fun i _ => n - (intOf i).toNat)
  case atStart => exact ⟨0, _, Nat.zero_le _, rfl, mk_start _, heap_alloc_new w _, (Below.refl _ _).alloc (Nat.le_refl _) _⟩
  case round =>
    obtain ⟨k, M, hk, rfl, HM, hB2, hbel2⟩ := hrel
    have hs1 := hbel2.size
    have hlM := HM.out.len
    by_cases hlt : k < n
    · obtain ⟨b, o, x, rfl, hbb, HX, hx0, hx1, hcx⟩ := (h.below hbel2).one hlt
      go_wp2_with fail
      clear hcx
      by_cases hx : x < 1 ∨ 9 < x
      · have HN : Hid (¬ dis (fi ts) n) := mk_out hlt HX.out hx
        refine (cJoinO _ _ _ hx).mono ?_
        rintro e w' ⟨rfl, hw⟩
        have hw := hw.symm
        subst hw
        clear hx
        go_wp2
        go_ret2
        exact ⟨Or.inl ⟨HN.out, rfl⟩, hbel2⟩
      · obtain ⟨p, rfl⟩ : ∃ p : Nat, x = p := ⟨x.toNat, by omega⟩
        cases hm : M.getD p false with
        | true =>
          have HN : Hid (¬ dis (fi ts) n) := mk_twice HM.out hlt HX.out (by omega) (by omega) hm
          refine (cJoinN _ _ _ _ hB2 hlM (by omega) (by omega) hm).mono ?_
          rintro e w' ⟨rfl, hw⟩
          have hw := hw.symm
          subst hw
          clear hm
          go_wp2
          go_ret2
          exact ⟨Or.inl ⟨HN.out, rfl⟩, hbel2⟩
        | false =>
          have HM2 : Hid (Mk (fi ts) (k + 1) (M.set p true)) := mk_step HM.out HX.out (by omega) (by omega) hm
          refine (cJoinY _ _ _ _ hB2 hlM (by omega) (by omega) hm).mono ?_
          rintro e w' ⟨rfl, rfl⟩
          have hB3 := hB2.set p true
          have hbel3 := below_grown hbel2 (grown_set wr w.heap.size p (.bool true)) (Nat.le_refl _)
          generalize wr.setCell ⟨w.heap.size, p, none⟩ (.bool true) = W3 at *
          clear hm
          go_wp2
          go_roundw
          case rel => exact ⟨k + 1, _, by omega, by go_num, HM2, hB3, hbel3⟩
          case measure => simp [intOf]; omega
    · have hkn : k = n := by omega
      subst hkn
      have HD : Hid (dis (fi ts) k) := HM.out.dis
      have hk9 := dis_nine HD.out
      obtain ⟨wo, hwo⟩ : ∃ wo, wo = wr := ⟨_, rfl⟩
      subst hwo
      clear hB2 hlM HM
      go_wp2_with (at_make; refine wpList_make_full _ rfl _ _ 22 rfl wo.heap.size 34 i0 (.int .u64 0) 1 Tryd.underlying22 hi hz0 hz1 .i64 .i64 _ _ k rfl rfl (by omega) (by omega) (by rw [hz2]; omega) (by unfold maxLen; omega) (Nat.le_refl _) ?_; intro w2 hown hgrow)
      have hB2 : Blk w2 wo.heap.size (fil (wt ts k) k 0) := by rw [← fil_zero]; exact Blk.made hown
      have hb2 : Below wo.heap.size wo w2 := (Below.refl _ _).grown hgrow (Nat.le_refl _) (by simp)
      have hb12 : Below w.heap.size w w2 := hbel2.trans (hb2.mono hs1)
      clear hown hgrow hb2
      go_loopw [28] (fun i wr => ∃ j : Nat, j ≤ k ∧ i = .int .i64 j ∧ Blk wr wo.heap.size (fil (wt ts k) k j) ∧ Below w.heap.size w wr) (fun i _ => k - (intOf i).toNat)
      case atStart => exact ⟨0, Nat.zero_le _, rfl, hB2, hb12⟩
      case round =>
        clear hB2 hb12
        obtain ⟨j, hj, rfl, hblk, hbel⟩ := hrel
        by_cases hlt2 : j < k
        · have hI := h.below hbel
          obtain ⟨b, o, x, rfl, hbb, HX, hx0, hx1, hcx⟩ := hI.one hlt2
          have hcell := hblk.cell (i := j) (by rw [fil_len]; exact hlt2)
          have hfz := hblk.frozen j
          have hlt3 := hblk.lt
          have hblk4 := hblk.set j (wt ts k j)
          rw [fil_set rfl] at hblk4
          have Hb5 : Hid (Below w.heap.size w (wr.setCell ⟨wo.heap.size, j, none⟩ (.int .u64 (wt ts k j)))) := hbel.setCell hs1 _
          have hcw := cWeight _ _ _ _ j wr hI HD.out hlt2
          rw [HX.out] at hcw
          clear hbel hblk
          go_wp2_with (go_at_call 106; refine hcw.mono ?_; rintro e w3 ⟨rfl, hw⟩; have hw := hw.symm; subst hw; clear hcw)
          go_roundw
          case rel => exact ⟨j + 1, by omega, by go_num, hblk4, Hb5.out⟩
          case measure => simp [intOf]; omega
        · have hjk : j = k := by omega
          subst hjk
          have hr : Rd wr (some ⟨wo.heap.size, 0, none⟩) j j ((List.range j).map (wt ts j)) := by
            rw [fil_full] at hblk
            exact Blk.whole hblk j (by simp) (by unfold maxLen; omega) (bd_u64 (by rw [← fil_full]; exact fil_bd (wt_bd ts j) j j))
          go_wp2
          go_ret2
          exact ⟨Or.inr ⟨HD.out, _, rfl, hr, hs1⟩, hbel⟩
end Go.Proofs.YtgmelcdgnjcojagDoor

namespace Go.Proofs.YtgmelcdgnjcojagDoor
open Go.RowKit Crm

theorem infoZg : (Tryd.prog.info? 3).map (fun i => (i.zero, i.size, i.bytes)) = some (some (.int .i64 0), 1, 8) := by kernel_rfl
theorem own_madeZ {w : World} {B n : Nat} {v : Value} (h : w.ownsRow B 3 1 v n (madeCells (Value.int .i64 0).cells (n * 1)).toList) : w.ownsRow B 3 1 v n (zns (List.replicate n 0)) := by
  have e : (Value.int .i64 0).cells = #[Value.int .i64 0] := rfl
  rw [e, Nat.mul_one, toList_madeCells_one] at h
  unfold zns
  rw [List.map_replicate]
  exact h
/-- One party's number, when the first p are put together. -/
def wgs (rows : List (List Int)) (n j p : Nat) : Int := nm (sm (fun i => wt (pty n) n i * (rows.getD j []).getD i 0) p)
theorem wgs_bd (rows : List (List Int)) (n j p : Nat) : 0 ≤ wgs rows n j p ∧ wgs rows n j p ≤ 2147483646 := nm_bd _
theorem wgs_zero (rows : List (List Int)) (n j : Nat) : wgs rows n j 0 = 0 := rfl
theorem wgs_succ (rows : List (List Int)) (n j p : Nat) : nm (wgs rows n j p + nm ((rows.getD j []).getD p 0 * wt (pty n) n p)) = wgs rows n j (p + 1) := by
  unfold wgs
  rw [sm, nm_addl, nm_addr, Int.mul_comm]
theorem fil_put0 (F : Nat → Int) {n j : Nat} : (fil F n j).set j 0 = fil F n j := by
  refine list_ext (by simp) fun t ht => ?_
  have htn : t < n := by simpa [fil] using ht
  rw [getD_set, fil_len]
  by_cases e : j = t
  · subst e; rw [if_pos ⟨rfl, htn⟩]; simp [fil, htn]
  · rw [if_neg (fun h => e h.1)]
theorem fil_ptyG (n : Nat) : fil (fun i : Nat => (i : Int) + 1) n n = pty n := by rw [fil_full]; rfl

set_option maxRecDepth 100000 in
set_option maxHeartbeats 4000000 in
theorem cWeigh (a : Option Addr) (n c : Nat) (rows : List (List Int)) (w : World) (h : RdR w a n c rows) (hn1 : 1 ≤ n) (hn9 : n ≤ 9) (hrl : ∀ j, j < n → (rows.getD j []).length = n) :
    Calls Tryd.prog 56 #[.slice a n c] w fun e w' => ∃ u, e = .returned u ∧ w'.ownsRow w.heap.size 34 1 u n (((List.range n).map fun j => wgs rows n j n).map (Value.int .u64)) ∧ Below w.heap.size w w' := by
  obtain ⟨i0, hi, hz0, hz1, hz2⟩ := info_parts infoZg
  obtain ⟨j0, hj, hy0, hy1, hy2⟩ := info_parts info34
  have HRL : Hid (∀ j, j < n → (rows.getD j []).length = n) := hrl
  clear hrl
  have hcap := h.cap
  go_enter Tryd.func56, Tryd.ntmps56
  go_wp2_with (at_make; refine wpList_make_full _ rfl _ _ 24 rfl w.heap.size 3 i0 (.int .i64 0) 1 Tryd.underlying24 hi hz0 hz1 .i64 .i64 _ _ n rfl rfl (by omega) (by omega) (by rw [hz2]; omega) (by unfold maxLen; omega) (Nat.le_refl _) ?_; intro w1 hown hgrow)
  have hb1 : Below w.heap.size w w1 := (Below.refl _ _).grown hgrow (Nat.le_refl _) (by simp)
  have ho1 := own_madeZ hown
  rw [fil_zero (fun i : Nat => (i : Int) + 1) n] at ho1
  clear hown hgrow
  go_loopw [17] (fun q wr => ∃ i : Nat, i ≤ n ∧ q = .int .i64 i ∧ wr.ownsRow w.heap.size 3 1 (.slice (some ⟨w.heap.size, 0, none⟩) n n) n (zns (fil (fun i : Nat => (i : Int) + 1) n i)) ∧ Below w.heap.size w wr) (fun q _ => n - (intOf q).toNat)
  case atStart => exact ⟨0, Nat.zero_le _, rfl, ho1, hb1⟩
  case round =>
    clear ho1 hb1
    obtain ⟨i, hi', rfl, hown, hbel⟩ := hrel
    by_cases hlt : i < n
    · obtain ⟨gu, yy, e1, hgu0, hgu1, _, hcu⟩ := own_at hown hlt
      simp only [Option.some.injEq, Addr.mk.injEq, and_true] at e1
      subst e1
      have hfu := own_frozen hown i
      have ho2 := own_set hown i (.int .i64 ((i : Int) + 1))
      rw [zns_set, fil_set rfl] at ho2
      have HO : Hid (World.ownsRow _ _ _ _ _ _ _) := ho2
      have HB : Hid (Below w.heap.size w (wr.setCell ⟨w.heap.size, i, none⟩ (.int .i64 ((i : Int) + 1)))) := hbel.setCell (Nat.le_refl _) _
      clear hown hbel ho2
      go_wp2
      go_roundw
      case rel => exact ⟨i + 1, by omega, by go_num, HO.out, HB.out⟩
      case measure => simp [intOf]; omega
    · have hin : i = n := by omega
      subst hin
      rw [fil_ptyG] at hown
      obtain ⟨wo, hwo⟩ : ∃ wo, wo = wr := ⟨_, rfl⟩
      subst hwo
      obtain ⟨aw, cw, ev, hri⟩ := RdI.own hown (fun x hx => by
        obtain ⟨q, hq, rfl⟩ := List.mem_map.1 hx
        have := List.mem_range.1 hq
        omega)
      simp only [Value.slice.injEq] at ev
      obtain ⟨rfl, _, rfl⟩ := ev
      clear hown
      go_wp2_with fail
      refine (cWeights1 _ _ _ _ _ hri (by omega)).mono ?_
      rintro e w2 ⟨⟨hno, _⟩ | ⟨_, g2, rfl, hr2, hg2⟩, hb2⟩
      · exact absurd (pty_dis hn9) hno
      have hbw2 := hbel.trans (hb2.mono hbel.size)
      have hs2 := hbw2.size
      clear hbel hb2 hri
      go_wp2_with (at_make; refine wpList_make_full _ rfl _ _ 22 rfl w2.heap.size 34 j0 (.int .u64 0) 1 Tryd.underlying22 hj hy0 hy1 .i64 .i64 _ _ i rfl rfl (by omega) (by omega) (by rw [hy2]; omega) (by unfold maxLen; omega) (Nat.le_refl _) ?_; intro w3 hown hgrow)
      have hb3 : Below w2.heap.size w2 w3 := (Below.refl _ _).grown hgrow (Nat.le_refl _) (by simp)
      have hB3 : Blk w3 w2.heap.size (fil (fun j => wgs rows i j i) i 0) := by rw [← fil_zero]; exact Blk.made hown
      clear hown hgrow
      go_loopw [36] (fun q wr => ∃ j : Nat, j ≤ i ∧ q = .int .i64 j ∧ Blk wr w2.heap.size (fil (fun j => wgs rows i j i) i j) ∧ Below w2.heap.size w2 wr) (fun q _ => i - (intOf q).toNat)
      case atStart => exact ⟨0, Nat.zero_le _, rfl, hB3, hb3⟩
      case round =>
        clear hB3 hb3
        obtain ⟨j, hj', rfl, hblk, hbel⟩ := hrel
        obtain ⟨w4, hw4⟩ : ∃ w4, w4 = wr := ⟨_, rfl⟩
        subst hw4
        by_cases hji : j < i
        · obtain ⟨bR, oR, ai, ni, ci, row, rfl, hbR, HRow, hcR0, hrR⟩ := h.one hji
          obtain rfl : ni = i := by rw [← hrR.len, ← HRow.out]; exact HRL.out j hji
          have hcR : w4.cell? ⟨bR, oR + j, none⟩ = some (.slice ai ni ci) := by rw [(hbw2.trans (hbel.mono hs2)).cell (p := ⟨bR, oR + j, none⟩) hbR]; exact hcR0
          have hbR4 : bR < w4.heap.size := Nat.lt_of_lt_of_le hbR (hbw2.trans (hbel.mono hs2)).size
          rw [← fil_put0, ← wgs_zero rows ni j] at hblk
          clear hcR0
          go_wp2
          go_loopw [43] (fun q wr => ∃ p : Nat, p ≤ ni ∧ q = .int .i64 p ∧ Blk wr w2.heap.size ((fil (fun j => wgs rows ni j ni) ni j).set j (wgs rows ni j p)) ∧ Below w2.heap.size w2 wr) (fun q _ => ni - (intOf q).toNat)
          case atStart => exact ⟨0, Nat.zero_le _, rfl, hblk, hbel⟩
          case round =>
            clear hblk hbel hcR
            obtain ⟨p, hp', rfl, hblk, hbel⟩ := hrel
            by_cases hpi : p < ni
            · obtain ⟨b1, o1, x, rfl, hb1, HX, hx0, hx1, hcx⟩ := (hrR.below (hbw2.trans (hbel.mono hs2))).one hpi
              obtain ⟨b2, o2, y, e2, hb2, HY, hy0, hy1, hcy⟩ := (hr2.below hbel).one hpi
              simp only [Option.some.injEq, Addr.mk.injEq, and_true] at e2
              obtain ⟨rfl, rfl⟩ := e2
              rw [Nat.zero_add] at hcy
              obtain ⟨S, HS⟩ : ∃ S, Hid (wgs rows ni j p = S) := ⟨_, rfl⟩
              have hSb := wgs_bd rows ni j p
              rw [HS.out] at hblk hSb
              have hcell := hblk.cell (i := j) (by rw [List.length_set, fil_len]; exact hji)
              rw [getD_set, fil_len, if_pos ⟨rfl, hji⟩] at hcell
              have hfz := hblk.frozen j
              have hlt3 := hblk.lt
              have hS0 := hSb.1
              have hS1 := hSb.2
              have hm := nm_bd (x * y)
              have HSn : Hid (nm (S + nm (x * y)) = wgs rows ni j (p + 1)) := by
                unfold Hid
                rw [← wgs_succ, HS.out, HRow.out, HX.out, ← HY.out]
                simp [hpi]
              have hblk4 := hblk.set j (nm (S + nm (x * y)))
              rw [List.set_set, HSn.out] at hblk4
              have Hbl : Hid (Blk (wr.setCell ⟨w2.heap.size, j, none⟩ (.int .u64 (nm (S + nm (x * y))))) w2.heap.size ((fil (fun j => wgs rows ni j ni) ni j).set j (wgs rows ni j (p + 1)))) := by unfold Hid; rw [HSn.out]; exact hblk4
              have Hb5 : Hid (Below w2.heap.size w2 (wr.setCell ⟨w2.heap.size, j, none⟩ (.int .u64 (nm (S + nm (x * y)))))) := hbel.setCell (Nat.le_refl _) _
              have hk0 : (0 : Int) ≤ (j : Int) := by omega
              have hkn : (j : Int) < (ni : Int) := by omega
              have hp0 : (0 : Int) ≤ (p : Int) := by omega
              have hpn : (p : Int) < (ni : Int) := by omega
              clear hbel hblk hblk4 hSb
              go_wp2
              go_region_with (first | (go_at_call 49; refine (fMul _ _ _ (by omega) (by omega) (by omega) (by omega)).mono ?_; rintro e w' ⟨rfl, rfl⟩) | (go_at_call 45; refine (fAdd _ _ _ (by omega) (by omega) (by omega) (by omega)).mono ?_; rintro e w' ⟨rfl, rfl⟩))
              all_goals
                go_wp2
                go_roundw
                case rel => exact ⟨p + 1, by omega, by go_num, Hbl.out, Hb5.out.drew⟩
                case measure => simp [intOf]; omega
            · have hpi2 : p = ni := by omega
              subst hpi2
              rw [fil_set rfl] at hblk
              go_wp2
              go_roundw
              case rel => exact ⟨j + 1, by omega, by go_num, hblk, hbel⟩
              case measure => simp [intOf]; omega
        · have hji2 : j = i := by omega
          subst hji2
          rw [fil_full] at hblk
          have ho := hblk.mine (B := w.heap.size) (by simp) hs2 (show j ≤ 1000 by omega)
          go_wp2
          go_ret
          exact ⟨_, rfl, ho, hbw2.trans (hbel.mono hs2)⟩
end Go.Proofs.YtgmelcdgnjcojagDoor

namespace Go.Proofs.YtgmelcdgnjcojagDoor
open Go.RowKit Crm

/-- The blocks of A are none of B's. -/
def Apt (A B : List Value) : Prop := ∀ i j, (A.getD i (.slice none 0 0)).ownBlock = none ∨ (A.getD i (.slice none 0 0)).ownBlock ≠ (B.getD j (.slice none 0 0)).ownBlock
theorem Apt.symm {A B : List Value} (h : Apt A B) : Apt B A := fun i j => by
  rcases h j i with e | e
  · by_cases hb : (B.getD i (.slice none 0 0)).ownBlock = none
    · exact .inl hb
    · exact .inr (by rw [e]; exact hb)
  · exact .inr (fun e' => e e'.symm)
theorem apt_nil (B : List Value) : Apt [] B := fun _ _ => .inl rfl
theorem apt_rep (n : Nat) (B : List Value) : Apt (List.replicate n (.slice none 0 0)) B := fun _ _ => .inl (by
  rw [List.getD_eq_getElem?_getD, List.getElem?_replicate]
  split <;> rfl)
/-- A row of A is laid anew: where it lay, or where nothing lay. -/
theorem Apt.set {A B : List Value} {q H : Nat} {u : Value} (h : Apt A B) (hq : q < A.length) (hB : ∀ j k, (B.getD j (.slice none 0 0)).ownBlock = some k → k < H) (hu : u.ownBlock = (A.getD q (.slice none 0 0)).ownBlock ∨ ∃ k, u.ownBlock = some k ∧ H ≤ k) : Apt (A.set q u) B := fun i j => by
  rw [getD_setV _ _ _ _ _ hq]
  by_cases e : i = q
  · rw [if_pos e]
    rcases hu with hu | ⟨k, hu, hk⟩
    · rw [hu]; exact h q j
    · right
      rw [hu]
      intro e'
      have := hB j k e'.symm
      omega
  · rw [if_neg e]; exact h i j
/-- One row more in A. -/
theorem Apt.add {A B : List Value} {u : Value} (h : Apt A B) (hu : ∀ j, u.ownBlock = none ∨ u.ownBlock ≠ (B.getD j (.slice none 0 0)).ownBlock) : Apt (A ++ [u]) B := fun i j => by
  rw [List.getD_eq_getElem?_getD]
  rcases Nat.lt_trichotomy i A.length with e | e | e
  · rw [List.getElem?_append_left e, ← List.getD_eq_getElem?_getD]; exact h i j
  · rw [List.getElem?_append_right (by omega), e, Nat.sub_self]; exact hu j
  · rw [List.getElem?_eq_none (by simp; omega)]; exact .inl rfl
/-- Rows that are there lie below. -/
theorem LsV.blk {w : World} {B : Nat} {v : Value} {L : List Value} {rows : List (List Int)} (h : LsV w B v L rows) : ∀ j k, (L.getD j (.slice none 0 0)).ownBlock = some k → B ≤ k ∧ k < w.heap.size := fun j k hk => by
  rcases Nat.lt_or_ge j rows.length with hj | hj
  · exact (h.row j hj).lt k hk
  · rw [List.getD_eq_getElem?_getD, List.getElem?_eq_none (by rw [h.len]; exact hj)] at hk
    simp [Value.ownBlock] at hk
/-- One row more: the outer list grows. -/
theorem LsV.add {w w' : World} {B : Nat} {v v' u : Value} {L : List Value} {rows : List (List Int)} {row : List Int} (h : LsV w B v L rows) (hr : w.ownsRow B 34 1 u row.length (row.map (Value.int .u64)))
    (hnew : ∀ i, i < rows.length → (L.getD i (.slice none 0 0)).ownBlock = none ∨ (L.getD i (.slice none 0 0)).ownBlock ≠ u.ownBlock)
    (ho : w'.ownsRow B 22 1 v' (rows.length + 1) (L ++ [u])) (hg : w.grownBy w' v.ownBlock) : LsV w' B v' (L ++ [u]) (rows ++ [row]) := by
  have hl := h.len
  have gl : ∀ i, i < rows.length → (rows ++ [row]).getD i [] = rows.getD i [] := fun i hi => by simp [List.getElem?_append_left hi]
  have gL : ∀ i, i < rows.length → (L ++ [u]).getD i (.slice none 0 0) = L.getD i (.slice none 0 0) := fun i hi => by simp [List.getElem?_append_left (show i < L.length by omega)]
  have gl' : (rows ++ [row]).getD rows.length [] = row := by simp
  have gL' : (L ++ [u]).getD rows.length (.slice none 0 0) = u := by rw [← hl]; simp
  have hE : (22 : TypeId) ≠ 34 := by decide
  refine ⟨by simpa using ho, by simp [hl], fun i hi => ?_, fun i j hij hj => ?_⟩
  · have hi2 : i < rows.length + 1 := by simpa using hi
    by_cases e : i = rows.length
    · subst e; rw [gl', gL']; exact hr.kept hg (own_apart h.own hr hE)
    · rw [gl i (by omega), gL i (by omega)]; exact (h.row i (by omega)).kept hg (own_apart h.own (h.row i (by omega)) hE)
  · have hj2 : j < rows.length + 1 := by simpa using hj
    by_cases e : j = rows.length
    · subst e; rw [gL', gL i hij]; exact hnew i hij
    · rw [gL i (by omega), gL j (by omega)]; exact h.inj i j hij (by omega)
/-- A list of rows stays while one row of the other grows. -/
theorem LsV.beside {w w' : World} {B : Nat} {v : Value} {L M : List Value} {rows : List (List Int)} {q : Nat} {E : TypeId} {k : Nat} {xs : List Value} {B2 : Nat} (h : LsV w B v L rows) (ha : Apt L M) (hr : w.ownsRow B2 E 1 (M.getD q (.slice none 0 0)) k xs) (hE : E = 34) (hg : w.grownBy w' (M.getD q (.slice none 0 0)).ownBlock) : LsV w' B v L rows := by
  subst hE
  exact h.grown hg (own_apart hr h.own (by decide)) (fun i _ => ha i q)
end Go.Proofs.YtgmelcdgnjcojagDoor
