/- poly.Norm, poly.Mul, poly.Eval. · poly.divide, poly.Div. · poly.Div. · The walk of croftlaw.PolyDivides. -/
import Derived.Test.YtljlioglpaogdaaAddC
import Derived.Test.YtljlioglpaogdaaToSumC
import Derived.Test.YtljlioglpaogdaaToRefProdC
import Derived.Test.YtljlioglpaogdaaToPolyM2
import Derived.Deep.RegionWith
namespace Go.Proofs.Ytljlioglpaogdaa
set_option linter.unusedVariables false
set_option maxRecDepth 100000
set_option maxHeartbeats 8000000
section
open Crm Go.RowKit
/-- What normal has made reads as the normal polynomial. -/
theorem Blk.nrm {w : World} {g n : Nat} {xs : List Int} (h : Blk w g (nz xs)) (hl : xs.length = n) (hn : n ≤ 1000000) : Rd w (some ⟨g, 0, none⟩) (tl (nz xs) n) n (Crm.nrm xs) := by
  have ht := tl_le (nz xs) n
  have := h.rd 0 (tl (nz xs) n) n ht (by unfold maxLen; omega) (by rw [nz_len]; omega) (nz_bd xs)
  rw [List.drop_zero] at this
  have e : Crm.nrm xs = (nz xs).take (tl (nz xs) n) := by unfold Crm.nrm trm; rw [nz_len, hl]
  rw [e]
  exact this
theorem tl_take (A : List Int) : ∀ n m, n ≤ m → tl (A.take m) n = tl A n
  | 0, _, _ => rfl
  | n + 1, m, h => by rw [tl, tl, take_getD, if_pos (show n < m by omega), tl_take A n m (by omega)]

theorem cDivide (g n c : Nat) (L : List Int) (b : Option Addr) (m d : Nat) (D : List Int) (w : World) (hL : Blk w g L) (hLb : ∀ x ∈ L, 0 ≤ x ∧ x ≤ 2147483646) (hn : n ≤ L.length) (hc : n ≤ c) (hcc : c ≤ 1000) (hD : Rd w b m d D)
    (hne : ∀ x, b = some x → x.block ≠ g) (hm0 : 0 < m) (hm : m ≤ 1000) (hd : nm (D.getD (m - 1) 0) ≠ 0) (hlast : 0 < n → L.getD (n - 1) 0 ≠ 0) :
    Calls Try.prog 52 #[.slice (some ⟨g, 0, none⟩) n c, .slice b m d] w fun e w' => ∃ Q A, e = .returned (.tuple #[.slice (some ⟨w.heap.size, 0, none⟩) (n - (m - 1)) (n - (m - 1)), .slice (some ⟨g, 0, none⟩) (tl A n) c]) ∧
      DivI L D Q A n m (n - (m - 1)) 0 ∧ Blk w' w.heap.size Q ∧ Blk w' g A ∧ w.grownBy w' (some g) := by
  obtain ⟨i0, hi, hz0, hz1, hz2⟩ := info_parts info22
  have hlen := hD.len
  have hgl := hL.lt
  obtain ⟨q, HQ⟩ : ∃ q, Hid (n - (m - 1) = q) := ⟨_, rfl⟩
  have hq1 : q ≤ 1000 := by have := HQ.out; omega
  rw [HQ.out]
  obtain ⟨l, hl⟩ : ∃ l, m = l + 1 := ⟨m - 1, by omega⟩
  subst hl
  have hql : q = n - l := by have := HQ.out; omega
  have HQL : Hid (q = n - l) := hql
  have hql2 : (q : Int) = max ((n : Int) - (l : Int)) 0 := by omega
  clear hql
  obtain ⟨b1, o1, y, rfl, hbb, HY, hy0, hy1, hcy⟩ := hD.one (show l < l + 1 by omega)
  rw [show l + 1 - 1 = l by omega] at hd
  rw [HY.out] at hd
  have hbg : b1 ≠ g := hne _ rfl
  go_enter Try.func52, Try.ntmps52
  go_wp2_with (first | (go_at_call 9; refine (fInv1 _ _ hy0 hy1 hd).mono ?_; rintro e w' ⟨rfl, hw⟩; have hw := hw.symm; subst hw) | (at_make; refine wpList_make_full _ rfl _ _ 29 rfl w.heap.size 22 i0 (.int .u64 0) 1 Try.underlying29 hi hz0 hz1 .i64 .i64 _ _ q rfl rfl (by omega) (by omega) (by rw [hz2]; omega) (by unfold maxLen; omega) (Nat.le_refl _) ?_; intro w1 hown hgrow))
  all_goals
    have hb1 : Blk w1 w.heap.size (List.replicate q 0) := Blk.made hown
    have hbel1 : Below w.heap.size w w1 := (Below.refl _ _).grown hgrow (Nat.le_refl _) (by simp)
    have hb2 : Blk w1 g L := hL.below hbel1 hgl
    clear hown hgrow
    go_loopw [10] (fun i wr => ∃ (k : Nat) (Q A : List Int), k ≤ q ∧ i = .int .i64 ((k : Int) - 1) ∧ Hid (DivI L D Q A n (l + 1) q k) ∧ Blk wr w.heap.size Q ∧ Blk wr g A ∧ w.grownBy wr (some g)) (fun i _ => (intOf i + 1).toNat)
    case atStart => exact ⟨q, _, _, Nat.le_refl _, by go_num, div_start hLb (by have := HQL.out; omega), hb1, hb2, grown_below hbel1 _⟩
    case round =>
      obtain ⟨k, Q, A, hk, rfl, HI, hbq, hba, hgr⟩ := hrel
      have hlA : A.length = L.length := HI.out.la
      have hlQ : Q.length = q := HI.out.lq
      cases k with
      | zero =>
        have hr : Rd wr (some ⟨g, 0, none⟩) n c (A.take n) := hba.rd 0 n c hc (by unfold maxLen; omega) (by omega) (bd_u64 HI.out.ba)
        go_wp2_with (first | (go_at_call 55; refine (cTrim _ _ _ _ _ hr).mono ?_; rintro e w' ⟨rfl, hw⟩; have hw := hw.symm; subst hw) | fail)
        go_ret2
        refine ⟨Q, A, ?_, HI.out, hbq, hba, hgr⟩
        rw [← tl_take A n n (Nat.le_refl _)]
        rfl
      | succ k =>
        first
        | (exfalso; have := HQL.out; omega)
        | (skip
           have hkn : k + l < n := by have := HQL.out; omega
           have hcx := hba.cell (i := k + l) (by omega)
           obtain ⟨x, hx⟩ : ∃ x, A.getD (k + l) 0 = x := ⟨_, rfl⟩
           have hxb : 0 ≤ x ∧ x ≤ 2147483646 := by rw [← hx]; exact getD_bd' HI.out.ba _
           rw [hx] at hcx
           have HX : Hid (A.getD (k + l) 0 = x) := hx
           clear hx
           have hivb := iv_bd y
           obtain ⟨v, hv⟩ : ∃ v, v = nm (x * iv y) := ⟨_, rfl⟩
           have hvb : 0 ≤ v ∧ v ≤ 2147483646 := by rw [hv]; exact nm_bd _
           have hcq := hbq.cell (i := k) (by omega)
           have hfq := hbq.frozen k
           have hfa := hba.frozen
           have hI2 : Hid (DivI L D (Q.set k v) (addAt A k D (nm (-v)) (l + 1)) n (l + 1) q k) := by
             rw [← Int.zero_sub v]
             exact div_step HI.out (by omega) (by have := HQL.out; omega) (by omega) hlen hn (by rw [show l + 1 - 1 = l by omega, HY.out]; exact hd) (hlast (by omega)) HX.out (by rw [hv, show l + 1 - 1 = l by omega, HY.out])
           have hne2 : w.heap.size ≠ g := by omega
           have hgs : wr.grownBy (wr.setCell ⟨w.heap.size, k, none⟩ (.int .u64 v)) (some w.heap.size) := grown_set _ _ _ _
           have hq2 := hbq.set k v
           have ha2 := hba.grown hgs (by simpa using hne2.symm)
           have hD2 := (hD.grown hgr (fun x hx => by obtain rfl := Option.some.inj hx; simpa using hbg)).grown hgs (fun x hx => by obtain rfl := Option.some.inj hx; simp; omega)
           have hgr2 : w.grownBy (wr.setCell ⟨w.heap.size, k, none⟩ (.int .u64 v)) (some g) := by
             refine ⟨hgr.os, hgr.tape, hgr.output, by simpa using hgr.size, fun j hj hjr => ?_⟩
             rw [heap_setCell_other _ _ _ _ (show j ≠ w.heap.size by omega)]
             exact hgr.block j hj hjr
           have HV : Hid (v = nm (x * iv y)) := hv
           have hck : ¬ c = k := by omega
           have HI' : Hid (∀ x ∈ A, 0 ≤ x ∧ x ≤ 2147483646) := HI.out.ba
           clear hv
           have hcv : (wr.setCell ⟨w.heap.size, k, none⟩ (.int .u64 v)).cell? ⟨w.heap.size, k, none⟩ = some (.int .u64 v) := by
             rw [hq2.cell (by rw [List.length_set]; omega), getD_set, if_pos (by omega)]
           have hsubb := nm_bd (-v)
           have hk0 : (0 : Int) ≤ (k : Int) := by omega
           have hkq : (k : Int) < (q : Int) := by omega
           have hkc : (k : Int) ≤ (n : Int) := by omega
           have hkc2 : (n : Int) ≤ (c : Int) := by omega
           go_wp2_with (first | (go_at_call 17; refine (fMul _ _ _ (by omega) (by omega) (by omega) (by omega)).mono ?_; rintro e w' ⟨he, hw⟩; have hw := hw.symm; subst hw; rw [← HV.out] at he; subst he) | fail)
           generalize hws : wr.setCell ⟨w.heap.size, k, none⟩ (.int .u64 v) = ws at *
           clear hws hbq hba hgr hcx hcq hfq hfa HI hb1 hb2 hbel1 hD hL
           go_region_with (first | (go_at_call 15; refine (fSub _ _ _ (by omega) (by omega) (by omega) (by omega)).mono ?_; rintro e w' ⟨rfl, rfl⟩) | (go_at_call 54; refine (cAddTimes _ _ _ _ _ _ _ _ _ _ _ (by exact ha2) (bd_u64 HI'.out) hD2.drew (by exact hne) (by omega) (by omega) (by omega) (by omega) (by omega)).mono ?_; rintro e w3 ⟨rfl, hb3, hg3⟩))
           all_goals
             have hq3 := (show Blk ws.drew _ _ from hq2).grown hg3 (by simpa using hne2)
             have hg4 := grown_trans (grown_drew hgr2) hg3
             clear hg3 hq2 ha2 hD2 hgr2
             go_wp2
             go_roundw
             case rel => exact ⟨k, _, _, by omega, by go_num, hI2, hq3, hb3, hg4⟩
             case measure => simp [intOf])
theorem tl_small {xs : List Int} {n p : Nat} (h : ∀ t, p ≤ t → t < n → xs.getD t 0 = 0) : tl xs n ≤ p := by
  rcases Nat.lt_or_ge p (tl xs n) with hlt | hge
  · have h1 := tl_top xs n (by omega)
    have h2 := tl_le xs n
    exact absurd (h (tl xs n - 1) (by omega) (by omega)) h1
  · exact hge

/-- What is left of a division when it is done. -/
theorem div_done {X D Q A : List Int} {n N M : Nat} (hX : X.length = n) (hN : N = tl (nz X) n) (hM : 0 < M) (hD : D.length = M) (h : DivI (nz X) D Q A N M (N - (M - 1)) 0) :
    Nml Q ∧ Nml (A.take (tl A N)) ∧ (A.take (tl A N)).length = tl A N ∧ tl A N < M ∧ ∀ t, nm (pc Q D t Q.length + (A.take (tl A N)).getD t 0) = nm (X.getD t 0) := by
  have hNn : N ≤ n := by rw [hN]; exact tl_le _ _
  have hla : A.length = n := by rw [h.la, nz_len, hX]
  have htl := tl_le A N
  have hlen : (A.take (tl A N)).length = tl A N := by simp; omega
  have hsm : tl A N ≤ M - 1 := tl_small fun t h1 h2 => h.hi t (by omega) h2
  refine ⟨⟨h.bq, fun hq => ?_⟩, ⟨fun x hx => h.ba x (List.mem_of_mem_take hx), fun hr => ?_⟩, hlen, by omega, fun t => ?_⟩
  · rw [h.lq] at hq ⊢; exact h.top hq
  · rw [hlen] at hr ⊢; rw [take_getD, if_pos (by omega)]; exact tl_top A N hr
  · rw [h.lq, ← nz_getD]
    have hr : (A.take (tl A N)).getD t 0 = if t < N then A.getD t 0 else 0 := by
      rw [take_getD]
      by_cases h1 : t < tl A N
      · rw [if_pos h1, if_pos (by omega)]
      · rw [if_neg h1]
        by_cases h2 : t < N
        · rw [if_pos h2, tl_above A N t (by omega) h2]
        · rw [if_neg h2]
    rw [hr]
    have hb := getD_bd' (nz_bd' X) t
    by_cases h2 : t < N
    · rw [if_pos h2, Int.add_comm, h.eq t h2, nm_small hb.1 hb.2]
    · rw [if_neg h2, Int.add_zero]
      have e1 : pc Q D t (N - (M - 1)) = 0 := by
        by_cases h3 : M ≤ N + 1
        · exact pc_far Q D t _ (by omega)
        · rw [show N - (M - 1) = 0 by omega]; rfl
      rw [e1]
      by_cases h3 : t < n
      · rw [tl_above (nz X) n t (by omega) h3]; rfl
      · rw [getD_big (show (nz X).length ≤ t by rw [nz_len]; omega)]; rfl

theorem cDivL (a : Option Addr) (n c : Nat) (b : Option Addr) (m d : Nat) (w : World) (hn : n ≤ 9223372036854775807) (hm : m ≤ 9223372036854775807) (h : 40 < n ∨ 40 < m) :
    Calls Try.prog 28 #[.slice a n c, .slice b m d] w fun e w' => e = .returned (.tuple #[.slice none 0 0, .slice none 0 0, .int .i64 2]) ∧ w' = w := by
  by_cases h1 : 40 < n
  · clear h
    go_enter Try.func28, Try.ntmps28
    go_wp2
    go_ret3
    exact ⟨rfl, rfl⟩
  · have h2 : 40 < m := by omega
    clear h
    go_enter Try.func28, Try.ntmps28
    go_wp2
    go_ret3
    exact ⟨rfl, rfl⟩

theorem cDivZ (a : Option Addr) (n c : Nat) (b : Option Addr) (m d : Nat) (ys : List Int) (w : World) (g : Rd w b m d ys) (hn : n ≤ 40) (hm : m ≤ 40) (hy : tl (nz ys) m = 0) :
    Calls Try.prog 28 #[.slice a n c, .slice b m d] w fun e w' => e = .returned (.tuple #[.slice none 0 0, .slice none 0 0, .int .i64 4]) ∧ Below w.heap.size w w' := by
  have HM : Hid (tl (nz ys) m = 0) := hy
  clear hy
  go_enter Try.func28, Try.ntmps28
  go_wp2_with fail
  refine (cNormal _ _ _ _ _ g (by omega)).mono ?_
  rintro e w1 ⟨rfl, hr1, hb1⟩
  rw [HM.out]
  go_wp2
  go_ret3
  exact ⟨rfl, hb1⟩

theorem cDivOK (a : Option Addr) (n c : Nat) (xs : List Int) (b : Option Addr) (m d : Nat) (ys : List Int) (w : World) (h : Rd w a n c xs) (g : Rd w b m d ys) (hn : n ≤ 40) (hm : m ≤ 40) (hy : 0 < tl (nz ys) m) :
    Calls Try.prog 28 #[.slice a n c, .slice b m d] w fun e w' => ∃ Q R aq ar cq cr, e = .returned (.tuple #[.slice aq Q.length cq, .slice ar R.length cr, .int .i64 0]) ∧ Rd w' aq Q.length cq Q ∧ Rd w' ar R.length cr R ∧ Nml Q ∧ Nml R ∧
      R.length < (nrm ys).length ∧ Q.length ≤ 40 ∧ (∀ t, nm (pc Q (nrm ys) t Q.length + R.getD t 0) = nm (xs.getD t 0)) ∧ Below w.heap.size w w' := by
  have hn1 := tl_le (nz xs) n
  have hm1 := tl_le (nz ys) m
  have hlx := h.len
  have hly := g.len
  have hlny : (nrm ys).length = tl (nz ys) m := by rw [nrm_len, hly]
  have HT : Hid (0 < tl (nz xs) n → (nz xs).getD (tl (nz xs) n - 1) 0 ≠ 0) := tl_top (nz xs) n
  obtain ⟨N, HN⟩ : ∃ N, Hid (tl (nz xs) n = N) := ⟨_, rfl⟩
  obtain ⟨M, HM⟩ : ∃ M, Hid (tl (nz ys) m = M) := ⟨_, rfl⟩
  rw [HN.out] at hn1 HT
  rw [HM.out] at hm1 hy hlny
  have HD : Hid (nm ((nrm ys).getD (M - 1) 0) ≠ 0) := by
    have h1 := (nrm_Nml ys).top (by omega)
    have h2 := getD_bd' (nrm_Nml ys).bd (M - 1)
    unfold Hid
    rw [nm_small h2.1 h2.2, ← hlny]
    exact h1
  have hMb : ((M : Int) == 0) = false := by rw [beq_eq_false_iff_ne]; omega
  go_enter Try.func28, Try.ntmps28
  go_wp2_with fail
  refine (cNormal _ _ _ _ _ g (by omega)).mono ?_
  rintro e w1 ⟨rfl, hr1, hb1⟩
  rw [HM.out]
  go_wp2_with fail
  refine (cNormal _ _ _ _ _ (h.below hb1) (by omega)).mono ?_
  rintro e w2 ⟨rfl, hr2, hb2⟩
  rw [HN.out]
  have hb12 : Below w.heap.size w w2 := hb1.trans (hb2.mono hb1.size)
  have hsz := hb1.size
  have hlt := hr1.lt
  have r1 := (hr1.below hb2 hr1.lt).nrm hly (by omega)
  rw [HM.out] at r1
  go_wp2_with fail
  refine (cDivide _ _ _ _ _ _ _ _ _ hr2 (nz_bd' xs) (by rw [nz_len]; omega) (by omega) (by omega) r1 (fun x hx => by obtain rfl := Option.some.inj hx; simp only; omega) (by omega) (by omega) HD.out HT.out).mono ?_
  rintro e w3 ⟨Q, A, rfl, hI, hq, ha, hg⟩
  obtain ⟨d1, d2, d3, d4, d5⟩ := div_done hlx HN.out.symm hy hlny hI
  have hlq : Q.length = N - (M - 1) := hI.lq
  have hbel3 := below_grown hb12 hg hsz
  have R1 : Rd w3 (some ⟨w2.heap.size, 0, none⟩) Q.length Q.length Q := by
    have := hq.rd 0 Q.length Q.length (Nat.le_refl _) (by unfold maxLen; omega) (by omega) (bd_u64 d1.bd)
    rwa [List.drop_zero, List.take_of_length_le (by omega)] at this
  have R2 : Rd w3 (some ⟨w1.heap.size, 0, none⟩) (A.take (tl A N)).length n (A.take (tl A N)) := by
    have hla : A.length = n := by rw [hI.la, nz_len, hlx]
    have ht := tl_le A N
    have := ha.rd 0 (tl A N) n (by omega) (by unfold maxLen; omega) (by omega) (bd_u64 hI.ba)
    rw [List.drop_zero] at this
    rw [d3]
    exact this
  have H : Hid (Nml Q ∧ Nml (A.take (tl A N)) ∧ (A.take (tl A N)).length < (nrm ys).length ∧ Q.length ≤ 40 ∧ (∀ t, nm (pc Q (nrm ys) t Q.length + (A.take (tl A N)).getD t 0) = nm (xs.getD t 0))) :=
    ⟨d1, d2, by omega, by omega, d5⟩
  rw [← hlq]
  obtain ⟨T, hT⟩ : ∃ T, T = tl A N := ⟨_, rfl⟩
  obtain ⟨R, hR⟩ : ∃ R, R = A.take (tl A N) := ⟨_, rfl⟩
  rw [← hR] at R2 H d3
  rw [← hT] at d3 ⊢
  rw [← d3]
  clear hT hR
  clear d1 d2 d3 d4 d5 hI hq ha hg hr1 hr2 hb1 hb2 r1 hlq
  go_wp2
  go_ret3
  obtain ⟨k1, k2, k3, k4, k5⟩ := H.out
  exact ⟨Q, R, _, _, _, _, rfl, R1, R2, k1, k2, k3, k4, k5, hbel3⟩
theorem div_law {Q D R X P : List Int} (h : ∀ t, nm (pc Q D t Q.length + R.getD t 0) = nm (X.getD t 0)) (hP : ∀ t, P.getD t 0 = nm (pc Q D t Q.length)) : nrm (sml P R) = nrm X := by
  refine nrm_ext fun t => ?_
  rw [sml_getD, nm_nm, hP, nm_addl, h]

theorem polyDividesW (a0 : Option Addr) (len0 cap0 : Nat) (X : List Int) (a1 : Option Addr) (len1 cap1 : Nat) (Y : List Int) (w : World) (h : Rd w a0 len0 cap0 X) (g : Rd w a1 len1 cap1 Y) :
    Calls Try.prog 5 #[.slice a0 len0 cap0, .slice a1 len1 cap1] w fun e w' => e = .returned (.bool true) ∧ Below w.heap.size w w' := by
  have hm0 : len0 ≤ 9223372036854775807 := by have := h.cap; have := h.max; unfold maxLen at this; omega
  have hm1 : len1 ≤ 9223372036854775807 := by have := g.cap; have := g.max; unfold maxLen at this; omega
  by_cases hn : 40 < len0
  · go_enter Try.func5, Try.ntmps5
    go_wp2_with (go_at_call 28; refine (cDivL _ _ _ _ _ _ _ hm0 hm1 (.inl hn)).mono ?_; rintro e w' ⟨rfl, rfl⟩)
    go_ret
    exact ⟨rfl, Below.refl _ _⟩
  · by_cases hm : 40 < len1
    · go_enter Try.func5, Try.ntmps5
      go_wp2_with (go_at_call 28; refine (cDivL _ _ _ _ _ _ _ hm0 hm1 (.inr hm)).mono ?_; rintro e w' ⟨rfl, rfl⟩)
      go_ret
      exact ⟨rfl, Below.refl _ _⟩
    · by_cases hz : tl (nz Y) len1 = 0
      · have HZ : Hid (tl (nz Y) len1 = 0) := hz
        clear hz
        go_enter Try.func5, Try.ntmps5
        go_wp2_with fail
        refine (cDivZ _ _ _ _ _ _ _ _ g (by omega) (by omega) HZ.out).mono ?_
        rintro e v1 ⟨rfl, hv1⟩
        go_wp2_with fail
        refine (rNormal _ _ _ _ _ (g.below hv1) (by omega)).mono ?_
        rintro e v2 ⟨b2, c2, rfl, hr2, hv2, _⟩
        rw [HZ.out]
        have hw2 := hv1.trans (hv2.mono hv1.size)
        clear hr2 hv2 hv1
        go_wp2
        go_ret
        exact ⟨rfl, hw2⟩
      · have hM0 : 0 < tl (nz Y) len1 := by omega
        clear hz
        have hM1 := tl_le (nz Y) len1
        have hlx := h.len
        have hly := g.len
        have hlny : (nrm Y).length = tl (nz Y) len1 := by rw [nrm_len, hly]
        obtain ⟨M, HM⟩ : ∃ M, Hid (tl (nz Y) len1 = M) := ⟨_, rfl⟩
        rw [HM.out] at hM1 hlny
        have hM2 : 0 < M := by rw [← HM.out]; exact hM0
        have hMb : ((M : Int) == 0) = false := by rw [beq_eq_false_iff_ne]; omega
        have HM0 : Hid (0 < tl (nz Y) len1) := hM0
        clear hM0
        go_enter Try.func5, Try.ntmps5
        go_wp2_with fail
        refine (cDivOK _ _ _ _ _ _ _ _ _ h g (by omega) (by omega) HM0.out).mono ?_
        rintro e v1 ⟨Q, R, aq, ar, cq, cr, rfl, hq1, hr1, nQ, nR, hRl, hQl, hid, hv1⟩
        have HQ : Hid (Nml Q) := nQ
        have HR : Hid (Nml R) := nR
        have HI : Hid (∀ t, nm (pc Q (nrm Y) t Q.length + R.getD t 0) = nm (X.getD t 0)) := hid
        clear nQ nR hid
        obtain ⟨q, hq⟩ : ∃ q, q = Q.length := ⟨_, rfl⟩
        obtain ⟨r, hr⟩ : ∃ r, r = R.length := ⟨_, rfl⟩
        rw [← hq] at hq1 hQl ⊢
        rw [← hr] at hr1 hRl ⊢
        have Hq : Hid (q = Q.length) := hq
        have Hr : Hid (r = R.length) := hr
        clear hq hr
        rw [hlny] at hRl
        go_wp2_with fail
        refine (rNormal _ _ _ _ _ (g.below hv1) (by omega)).mono ?_
        rintro e v2 ⟨b2, c2, rfl, hn2, hv2, _⟩
        rw [HM.out] at hn2 ⊢
        have hw2 := hv1.trans (hv2.mono hv1.size)
        have hq2 := hq1.below hv2
        have hr2 := hr1.below hv2
        clear hq1 hr1 hv2 hv1
        go_wp2_with fail
        refine (rNormal _ _ _ _ _ hq2 (by omega)).mono ?_
        rintro e v3 ⟨b3, c3, rfl, hm3, hv3, _⟩
        rw [nrm_id HQ.out] at hm3
        have hw3 := hw2.trans (hv3.mono hw2.size)
        have hq3 := hq2.below hv3
        have hr3 := hr2.below hv3
        have hn3 := hn2.below hv3
        clear hq2 hr2 hn2 hv3 hw2
        go_wp2_with fail
        refine (cSame _ _ _ _ _ _ _ _ hq3 hm3).mono ?_
        rintro e v4 ⟨rfl, hv4⟩
        have hw4 := hw3.trans (hv4.mono hw3.size)
        have hq4 := hq3.below hv4
        have hr4 := hr3.below hv4
        have hn4 := hn3.below hv4
        clear hq3 hr3 hn3 hv4 hw3 hm3
        go_wp2_with fail
        refine (rNormal _ _ _ _ _ hr4 (by omega)).mono ?_
        rintro e v5 ⟨b5, c5, rfl, hm5, hv5, _⟩
        rw [nrm_id HR.out] at hm5
        have hw5 := hw4.trans (hv5.mono hw4.size)
        have hq5 := hq4.below hv5
        have hr5 := hr4.below hv5
        have hn5 := hn4.below hv5
        clear hq4 hr4 hn4 hv5 hw4
        go_wp2_with fail
        refine (cSame _ _ _ _ _ _ _ _ hr5 hm5).mono ?_
        rintro e v6 ⟨rfl, hv6⟩
        have hw6 := hw5.trans (hv6.mono hw5.size)
        have hq6 := hq5.below hv6
        have hr6 := hr5.below hv6
        have hn6 := hn5.below hv6
        clear hq5 hr5 hn5 hv6 hw5 hm5
        by_cases hq0 : q = 0
        · have HE : Hid (nrm (sml [] R) = nrm X) := div_law (Q := Q) (D := nrm Y) HI.out fun t => by
            rw [← Hq.out, hq0]; rfl
          have HZ : Hid (tl (nz Q) q = 0) := by unfold Hid; rw [hq0]; rfl
          clear hq0
          go_wp2_with fail
          refine (rProduct0 _ _ _ _ _ _ _ _ _ hq6 hn6 (by omega) (by omega) (.inl HZ.out)).mono ?_
          rintro e v7 ⟨rfl, hv7⟩
          have hw7 := hw6.trans (hv7.mono hw6.size)
          have hr7 := hr6.below hv7
          clear hq6 hr6 hn6 hv7 hw6
          go_wp2_with fail
          refine (rSum _ _ _ _ _ _ _ _ _ (nil_rd _) hr7 (by omega) (by omega)).mono ?_
          rintro e v8 ⟨b8, c8, rfl, hs8, hv8, _⟩
          have hw8 := hw7.trans (hv8.mono hw7.size)
          rw [HE.out] at hs8 ⊢
          clear hr7 hv8 hw7
          go_wp2_with fail
          refine (rNormal _ _ _ _ _ (h.below hw8) (by omega)).mono ?_
          rintro e v9 ⟨b9, c9, rfl, hm9, hv9, _⟩
          have hw9 := hw8.trans (hv9.mono hw8.size)
          have hs9 := hs8.below hv9
          clear hs8 hv9 hw8
          go_wp2_with fail
          refine (cSame _ _ _ _ _ _ _ _ hs9 hm9).mono ?_
          rintro e v10 ⟨rfl, hv10⟩
          have hw10 := hw9.trans (hv10.mono hw9.size)
          clear hs9 hm9 hv10 hw9
          go_wp2
          go_ret
          exact ⟨rfl, hw10⟩
        · have hcv : cvl (nrm Q) (nrm (nrm Y)) = cvl Q (nrm Y) := by rw [nrm_id HQ.out, nrm_id (nrm_Nml Y)]
          have HC : Hid (cvl (nrm Q) (nrm (nrm Y)) = cvl Q (nrm Y)) := hcv
          have HE : Hid (nrm (sml (cvl Q (nrm Y)) R) = nrm X) := div_law (Q := Q) (D := nrm Y) HI.out fun t => cvl_getD _ _ _
          have HZ1 : Hid (tl (nz Q) q = q) := by unfold Hid; rw [Hq.out, tl_nrm HQ.out]
          have HZ2 : Hid (tl (nz (nrm Y)) M = M) := by unfold Hid; rw [← hlny, tl_nrm (nrm_Nml Y)]
          clear hcv
          go_wp2_with fail
          refine (rProduct1 _ _ _ _ _ _ _ _ _ hq6 hn6 (by omega) (by omega) (by rw [HZ1.out]; omega) (by rw [HZ2.out]; omega)).mono ?_
          rintro e v7 ⟨b7, c7, rfl, hp7, hv7, _⟩
          rw [HZ1.out, HZ2.out] at hp7 ⊢
          rw [HC.out] at hp7
          have hw7 := hw6.trans (hv7.mono hw6.size)
          have hr7 := hr6.below hv7
          clear hq6 hr6 hn6 hv7 hw6
          go_wp2_with fail
          refine (rSum _ _ _ _ _ _ _ _ _ hp7 hr7 (by omega) (by omega)).mono ?_
          rintro e v8 ⟨b8, c8, rfl, hs8, hv8, _⟩
          have hw8 := hw7.trans (hv8.mono hw7.size)
          rw [HE.out] at hs8 ⊢
          clear hr7 hv8 hw7 hp7
          go_wp2_with fail
          refine (rNormal _ _ _ _ _ (h.below hw8) (by omega)).mono ?_
          rintro e v9 ⟨b9, c9, rfl, hm9, hv9, _⟩
          have hw9 := hw8.trans (hv9.mono hw8.size)
          have hs9 := hs8.below hv9
          clear hs8 hv9 hw8
          go_wp2_with fail
          refine (cSame _ _ _ _ _ _ _ _ hs9 hm9).mono ?_
          rintro e v10 ⟨rfl, hv10⟩
          have hw10 := hw9.trans (hv10.mono hw9.size)
          clear hs9 hm9 hv10 hw9
          go_wp2
          go_ret
          exact ⟨rfl, hw10⟩
end
end Go.Proofs.Ytljlioglpaogdaa
