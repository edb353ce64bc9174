/- poly.Norm, poly.Mul, poly.Eval. · poly.divide, poly.Div. · poly.Div. · Faces of poly by their values: what a product tells, what a division leaves. · The walk of croftkeep.PolyRest. -/
import Derived.Test.YtljlioglpaogdadToProdC
import Derived.Test.YtljlioglpaogdadValC
import Derived.Test.YtljlioglpaogdadToPolyM3
import Derived.Deep.RegionWith
import Derived.Test.YtljlioglpaogdadToShortC
namespace Go.Proofs.Ytljlioglpaogdad
set_option linter.unusedVariables false
set_option maxRecDepth 100000
set_option maxHeartbeats 8000000
section
open Crm Go.RowKit
/-- What normal has made reads as the normal polynomial. -/
theorem Blk.nrm {w : World} {g n : Nat} {xs : List Int} (h : Blk w g (nz xs)) (hl : xs.length = n) (hn : n ≤ 1000000) : Rd w (some ⟨g, 0, none⟩) (tl (nz xs) n) n (Crm.nrm xs) := by
  have ht := tl_le (nz xs) n
  have := h.rd 0 (tl (nz xs) n) n ht (by unfold maxLen; omega) (by rw [nz_len]; omega) (nz_bd xs)
  rw [List.drop_zero] at this
  have e : Crm.nrm xs = (nz xs).take (tl (nz xs) n) := by unfold Crm.nrm trm; rw [nz_len, hl]
  rw [e]
  exact this

theorem cEvalOK (a : Option Addr) (n c : Nat) (xs : List Int) (x : Int) (w : World) (h : Rd w a n c xs) (hn : n ≤ 40) (hx0 : 0 ≤ x) (hx1 : x ≤ 18446744073709551615) :
    Calls Try.prog 13 #[.slice a n c, .int .u64 x] w fun e w' => e = .returned (.tuple #[.int .u64 (nm (ev xs x)), .int .i64 0]) ∧ Below w.heap.size w w' := by
  go_enter Try.func13, Try.ntmps13
  go_wp2_with (go_at_call 39; refine (cValue _ _ _ _ _ _ h hx0 hx1).mono ?_; rintro e w1 ⟨rfl, hbel⟩)
  go_ret2
  exact ⟨rfl, hbel⟩

theorem cMul0 (a : Option Addr) (n c : Nat) (xs : List Int) (b : Option Addr) (m d : Nat) (ys : List Int) (w : World) (h : Rd w a n c xs) (g : Rd w b m d ys) (hn : n ≤ 40) (hm : m ≤ 40) (hxy : tl (nz xs) n = 0 ∨ tl (nz ys) m = 0) :
    Calls Try.prog 14 #[.slice a n c, .slice b m d] w fun e w' => e = .returned (.tuple #[.slice none 0 0, .int .i64 0]) ∧ Below w.heap.size w w' := by
  have hn1 := tl_le (nz xs) n
  have hm1 := tl_le (nz ys) m
  obtain ⟨N, HN⟩ : ∃ N, Hid (tl (nz xs) n = N) := ⟨_, rfl⟩
  obtain ⟨M, HM⟩ : ∃ M, Hid (tl (nz ys) m = M) := ⟨_, rfl⟩
  rw [HN.out] at hxy hn1
  rw [HM.out] at hxy hm1
  go_enter Try.func14, Try.ntmps14
  go_wp2_with fail
  refine (cNormal _ _ _ _ _ h (by omega)).mono ?_
  rintro e w1 ⟨rfl, hr1, hb1⟩
  rw [HN.out]
  go_wp2_with fail
  refine (cNormal _ _ _ _ _ (g.below hb1) (by omega)).mono ?_
  rintro e w2 ⟨rfl, hr2, hb2⟩
  rw [HM.out]
  have hb12 : Below w.heap.size w w2 := hb1.trans (hb2.mono hb1.size)
  clear hr1 hb1 hb2 h g hr2
  by_cases hN : N = 0
  · have hNb : ((N : Int) == 0) = true := by rw [beq_iff_eq]; omega
    clear hxy hN
    go_wp2
    go_ret2
    exact ⟨rfl, hb12⟩
  · have hNb : ((N : Int) == 0) = false := by rw [beq_eq_false_iff_ne]; omega
    have hMb : ((M : Int) == 0) = true := by rw [beq_iff_eq]; omega
    clear hxy hN
    go_wp2
    go_ret2
    exact ⟨rfl, hb12⟩

theorem cMulOK (a : Option Addr) (n c : Nat) (xs : List Int) (b : Option Addr) (m d : Nat) (ys : List Int) (w : World) (h : Rd w a n c xs) (g : Rd w b m d ys) (hn : n ≤ 40) (hm : m ≤ 40) (hx : 0 < tl (nz xs) n) (hy : 0 < tl (nz ys) m) (hxy : tl (nz xs) n + tl (nz ys) m ≤ 41) :
    Calls Try.prog 14 #[.slice a n c, .slice b m d] w fun e w' => ∃ a', e = .returned (.tuple #[.slice a' (tl (nz xs) n + tl (nz ys) m - 1) (tl (nz xs) n + tl (nz ys) m - 1), .int .i64 0]) ∧ Rd w' a' (tl (nz xs) n + tl (nz ys) m - 1) (tl (nz xs) n + tl (nz ys) m - 1) (cvl (nrm xs) (nrm ys)) ∧ Below w.heap.size w w' := by
  have hn1 := tl_le (nz xs) n
  have hm1 := tl_le (nz ys) m
  have hlx := h.len
  have hly := g.len
  obtain ⟨N, HN⟩ : ∃ N, Hid (tl (nz xs) n = N) := ⟨_, rfl⟩
  obtain ⟨M, HM⟩ : ∃ M, Hid (tl (nz ys) m = M) := ⟨_, rfl⟩
  rw [HN.out] at hxy hn1 hx
  rw [HM.out] at hxy hm1 hy
  rw [HN.out, HM.out]
  have hNb : ((N : Int) == 0) = false := by rw [beq_eq_false_iff_ne]; omega
  have hMb : ((M : Int) == 0) = false := by rw [beq_eq_false_iff_ne]; omega
  go_enter Try.func14, Try.ntmps14
  go_wp2_with fail
  refine (cNormal _ _ _ _ _ h (by omega)).mono ?_
  rintro e w1 ⟨rfl, hr1, hb1⟩
  rw [HN.out]
  go_wp2_with fail
  refine (cNormal _ _ _ _ _ (g.below hb1) (by omega)).mono ?_
  rintro e w2 ⟨rfl, hr2, hb2⟩
  rw [HM.out]
  have hb12 : Below w.heap.size w w2 := hb1.trans (hb2.mono hb1.size)
  have hsz := hb12.size
  have r1 := (hr1.below hb2 hr1.lt).nrm hlx (by omega)
  have r2 := hr2.nrm hly (by omega)
  rw [HN.out] at r1
  rw [HM.out] at r2
  clear hr1 hb1 hb2 h g hr2
  go_wp2_with (go_at_call 40; refine (cProduct _ _ _ _ _ _ _ _ _ r1 r2 (by omega) (by omega) (by omega) (by omega)).mono ?_; rintro e w3 ⟨rfl, hb3, hbel3⟩)
  go_ret2
  refine ⟨_, rfl, ?_, hb12.trans (hbel3.mono hsz)⟩
  have hlen : (cvl (nrm xs) (nrm ys)).length = N + M - 1 := by
    unfold cvl
    rw [List.length_map, List.length_range, r1.len, r2.len]
  have := hb3.rd 0 (N + M - 1) (N + M - 1) (Nat.le_refl _) (by unfold maxLen; omega) (by omega) (pc_bd _ _ _ _)
  rwa [List.drop_zero, List.take_of_length_le (by omega)] at this
theorem tl_take (A : List Int) : ∀ n m, n ≤ m → tl (A.take m) n = tl A n
  | 0, _, _ => rfl
  | n + 1, m, h => by rw [tl, tl, take_getD, if_pos (show n < m by omega), tl_take A n m (by omega)]

theorem cDivide (g n c : Nat) (L : List Int) (b : Option Addr) (m d : Nat) (D : List Int) (w : World) (hL : Blk w g L) (hLb : ∀ x ∈ L, 0 ≤ x ∧ x ≤ 2147483646) (hn : n ≤ L.length) (hc : n ≤ c) (hcc : c ≤ 1000) (hD : Rd w b m d D)
    (hne : ∀ x, b = some x → x.block ≠ g) (hm0 : 0 < m) (hm : m ≤ 1000) (hd : nm (D.getD (m - 1) 0) ≠ 0) (hlast : 0 < n → L.getD (n - 1) 0 ≠ 0) :
    Calls Try.prog 38 #[.slice (some ⟨g, 0, none⟩) n c, .slice b m d] w fun e w' => ∃ Q A, e = .returned (.tuple #[.slice (some ⟨w.heap.size, 0, none⟩) (n - (m - 1)) (n - (m - 1)), .slice (some ⟨g, 0, none⟩) (tl A n) c]) ∧
      DivI L D Q A n m (n - (m - 1)) 0 ∧ Blk w' w.heap.size Q ∧ Blk w' g A ∧ w.grownBy w' (some g) := by
  obtain ⟨i0, hi, hz0, hz1, hz2⟩ := info_parts info23
  have hlen := hD.len
  have hgl := hL.lt
  obtain ⟨q, HQ⟩ : ∃ q, Hid (n - (m - 1) = q) := ⟨_, rfl⟩
  have hq1 : q ≤ 1000 := by have := HQ.out; omega
  rw [HQ.out]
  obtain ⟨l, hl⟩ : ∃ l, m = l + 1 := ⟨m - 1, by omega⟩
  subst hl
  have hql : q = n - l := by have := HQ.out; omega
  have HQL : Hid (q = n - l) := hql
  have hql2 : (q : Int) = max ((n : Int) - (l : Int)) 0 := by omega
  clear hql
  obtain ⟨b1, o1, y, rfl, hbb, HY, hy0, hy1, hcy⟩ := hD.one (show l < l + 1 by omega)
  rw [show l + 1 - 1 = l by omega] at hd
  rw [HY.out] at hd
  have hbg : b1 ≠ g := hne _ rfl
  go_enter Try.func38, Try.ntmps38
  go_wp2_with (first | (go_at_call 42; refine (fInv1 _ _ hy0 hy1 hd).mono ?_; rintro e w' ⟨rfl, hw⟩; have hw := hw.symm; subst hw) | (at_make; refine wpList_make_full _ rfl _ _ 22 rfl w.heap.size 23 i0 (.int .u64 0) 1 Try.underlying22 hi hz0 hz1 .i64 .i64 _ _ q rfl rfl (by omega) (by omega) (by rw [hz2]; omega) (by unfold maxLen; omega) (Nat.le_refl _) ?_; intro w1 hown hgrow))
  all_goals
    have hb1 : Blk w1 w.heap.size (List.replicate q 0) := Blk.made hown
    have hbel1 : Below w.heap.size w w1 := (Below.refl _ _).grown hgrow (Nat.le_refl _) (by simp)
    have hb2 : Blk w1 g L := hL.below hbel1 hgl
    clear hown hgrow
    go_loopw [10] (fun i wr => ∃ (k : Nat) (Q A : List Int), k ≤ q ∧ i = .int .i64 ((k : Int) - 1) ∧ Hid (DivI L D Q A n (l + 1) q k) ∧ Blk wr w.heap.size Q ∧ Blk wr g A ∧ w.grownBy wr (some g)) (fun i _ => (intOf i + 1).toNat)
    case atStart => exact ⟨q, _, _, Nat.le_refl _, by go_num, div_start hLb (by have := HQL.out; omega), hb1, hb2, grown_below hbel1 _⟩
    case round =>
      obtain ⟨k, Q, A, hk, rfl, HI, hbq, hba, hgr⟩ := hrel
      have hlA : A.length = L.length := HI.out.la
      have hlQ : Q.length = q := HI.out.lq
      cases k with
      | zero =>
        have hr : Rd wr (some ⟨g, 0, none⟩) n c (A.take n) := hba.rd 0 n c hc (by unfold maxLen; omega) (by omega) (bd_u64 HI.out.ba)
        go_wp2_with (first | (go_at_call 44; refine (cTrim _ _ _ _ _ hr).mono ?_; rintro e w' ⟨rfl, hw⟩; have hw := hw.symm; subst hw) | fail)
        go_ret2
        refine ⟨Q, A, ?_, HI.out, hbq, hba, hgr⟩
        rw [← tl_take A n n (Nat.le_refl _)]
        rfl
      | succ k =>
        first
        | (exfalso; have := HQL.out; omega)
        | (skip
           have hkn : k + l < n := by have := HQL.out; omega
           have hcx := hba.cell (i := k + l) (by omega)
           obtain ⟨x, hx⟩ : ∃ x, A.getD (k + l) 0 = x := ⟨_, rfl⟩
           have hxb : 0 ≤ x ∧ x ≤ 2147483646 := by rw [← hx]; exact getD_bd' HI.out.ba _
           rw [hx] at hcx
           have HX : Hid (A.getD (k + l) 0 = x) := hx
           clear hx
           have hivb := iv_bd y
           obtain ⟨v, hv⟩ : ∃ v, v = nm (x * iv y) := ⟨_, rfl⟩
           have hvb : 0 ≤ v ∧ v ≤ 2147483646 := by rw [hv]; exact nm_bd _
           have hcq := hbq.cell (i := k) (by omega)
           have hfq := hbq.frozen k
           have hfa := hba.frozen
           have hI2 : Hid (DivI L D (Q.set k v) (addAt A k D (nm (-v)) (l + 1)) n (l + 1) q k) := by
             rw [← Int.zero_sub v]
             exact div_step HI.out (by omega) (by have := HQL.out; omega) (by omega) hlen hn (by rw [show l + 1 - 1 = l by omega, HY.out]; exact hd) (hlast (by omega)) HX.out (by rw [hv, show l + 1 - 1 = l by omega, HY.out])
           have hne2 : w.heap.size ≠ g := by omega
           have hgs : wr.grownBy (wr.setCell ⟨w.heap.size, k, none⟩ (.int .u64 v)) (some w.heap.size) := grown_set _ _ _ _
           have hq2 := hbq.set k v
           have ha2 := hba.grown hgs (by simpa using hne2.symm)
           have hD2 := (hD.grown hgr (fun x hx => by obtain rfl := Option.some.inj hx; simpa using hbg)).grown hgs (fun x hx => by obtain rfl := Option.some.inj hx; simp; omega)
           have hgr2 : w.grownBy (wr.setCell ⟨w.heap.size, k, none⟩ (.int .u64 v)) (some g) := by
             refine ⟨hgr.os, hgr.tape, hgr.output, by simpa using hgr.size, fun j hj hjr => ?_⟩
             rw [heap_setCell_other _ _ _ _ (show j ≠ w.heap.size by omega)]
             exact hgr.block j hj hjr
           have HV : Hid (v = nm (x * iv y)) := hv
           have hck : ¬ c = k := by omega
           have HI' : Hid (∀ x ∈ A, 0 ≤ x ∧ x ≤ 2147483646) := HI.out.ba
           clear hv
           have hcv : (wr.setCell ⟨w.heap.size, k, none⟩ (.int .u64 v)).cell? ⟨w.heap.size, k, none⟩ = some (.int .u64 v) := by
             rw [hq2.cell (by rw [List.length_set]; omega), getD_set, if_pos (by omega)]
           have hsubb := nm_bd (-v)
           have hk0 : (0 : Int) ≤ (k : Int) := by omega
           have hkq : (k : Int) < (q : Int) := by omega
           have hkc : (k : Int) ≤ (n : Int) := by omega
           have hkc2 : (n : Int) ≤ (c : Int) := by omega
           go_wp2_with (first | (go_at_call 15; refine (fMul _ _ _ (by omega) (by omega) (by omega) (by omega)).mono ?_; rintro e w' ⟨he, hw⟩; have hw := hw.symm; subst hw; rw [← HV.out] at he; subst he) | fail)
           generalize hws : wr.setCell ⟨w.heap.size, k, none⟩ (.int .u64 v) = ws at *
           clear hws hbq hba hgr hcx hcq hfq hfa HI hb1 hb2 hbel1 hD hL
           go_region_with (first | (go_at_call 12; refine (fSub _ _ _ (by omega) (by omega) (by omega) (by omega)).mono ?_; rintro e w' ⟨rfl, rfl⟩) | (go_at_call 43; refine (cAddTimes _ _ _ _ _ _ _ _ _ _ _ (by exact ha2) (bd_u64 HI'.out) hD2.drew (by exact hne) (by omega) (by omega) (by omega) (by omega) (by omega)).mono ?_; rintro e w3 ⟨rfl, hb3, hg3⟩))
           all_goals
             have hq3 := (show Blk ws.drew _ _ from hq2).grown hg3 (by simpa using hne2)
             have hg4 := grown_trans (grown_drew hgr2) hg3
             clear hg3 hq2 ha2 hD2 hgr2
             go_wp2
             go_roundw
             case rel => exact ⟨k, _, _, by omega, by go_num, hI2, hq3, hb3, hg4⟩
             case measure => simp [intOf])
theorem tl_small {xs : List Int} {n p : Nat} (h : ∀ t, p ≤ t → t < n → xs.getD t 0 = 0) : tl xs n ≤ p := by
  rcases Nat.lt_or_ge p (tl xs n) with hlt | hge
  · have h1 := tl_top xs n (by omega)
    have h2 := tl_le xs n
    exact absurd (h (tl xs n - 1) (by omega) (by omega)) h1
  · exact hge

/-- What is left of a division when it is done. -/
theorem div_done {X D Q A : List Int} {n N M : Nat} (hX : X.length = n) (hN : N = tl (nz X) n) (hM : 0 < M) (hD : D.length = M) (h : DivI (nz X) D Q A N M (N - (M - 1)) 0) :
    Nml Q ∧ Nml (A.take (tl A N)) ∧ (A.take (tl A N)).length = tl A N ∧ tl A N < M ∧ ∀ t, nm (pc Q D t Q.length + (A.take (tl A N)).getD t 0) = nm (X.getD t 0) := by
  have hNn : N ≤ n := by rw [hN]; exact tl_le _ _
  have hla : A.length = n := by rw [h.la, nz_len, hX]
  have htl := tl_le A N
  have hlen : (A.take (tl A N)).length = tl A N := by simp; omega
  have hsm : tl A N ≤ M - 1 := tl_small fun t h1 h2 => h.hi t (by omega) h2
  refine ⟨⟨h.bq, fun hq => ?_⟩, ⟨fun x hx => h.ba x (List.mem_of_mem_take hx), fun hr => ?_⟩, hlen, by omega, fun t => ?_⟩
  · rw [h.lq] at hq ⊢; exact h.top hq
  · rw [hlen] at hr ⊢; rw [take_getD, if_pos (by omega)]; exact tl_top A N hr
  · rw [h.lq, ← nz_getD]
    have hr : (A.take (tl A N)).getD t 0 = if t < N then A.getD t 0 else 0 := by
      rw [take_getD]
      by_cases h1 : t < tl A N
      · rw [if_pos h1, if_pos (by omega)]
      · rw [if_neg h1]
        by_cases h2 : t < N
        · rw [if_pos h2, tl_above A N t (by omega) h2]
        · rw [if_neg h2]
    rw [hr]
    have hb := getD_bd' (nz_bd' X) t
    by_cases h2 : t < N
    · rw [if_pos h2, Int.add_comm, h.eq t h2, nm_small hb.1 hb.2]
    · rw [if_neg h2, Int.add_zero]
      have e1 : pc Q D t (N - (M - 1)) = 0 := by
        by_cases h3 : M ≤ N + 1
        · exact pc_far Q D t _ (by omega)
        · rw [show N - (M - 1) = 0 by omega]; rfl
      rw [e1]
      by_cases h3 : t < n
      · rw [tl_above (nz X) n t (by omega) h3]; rfl
      · rw [getD_big (show (nz X).length ≤ t by rw [nz_len]; omega)]; rfl

theorem cDivOK (a : Option Addr) (n c : Nat) (xs : List Int) (b : Option Addr) (m d : Nat) (ys : List Int) (w : World) (h : Rd w a n c xs) (g : Rd w b m d ys) (hn : n ≤ 40) (hm : m ≤ 40) (hy : 0 < tl (nz ys) m) :
    Calls Try.prog 9 #[.slice a n c, .slice b m d] w fun e w' => ∃ Q R aq ar cq cr, e = .returned (.tuple #[.slice aq Q.length cq, .slice ar R.length cr, .int .i64 0]) ∧ Rd w' aq Q.length cq Q ∧ Rd w' ar R.length cr R ∧ Nml Q ∧ Nml R ∧
      R.length < (nrm ys).length ∧ Q.length ≤ 40 ∧ (∀ t, nm (pc Q (nrm ys) t Q.length + R.getD t 0) = nm (xs.getD t 0)) ∧ Below w.heap.size w w' := by
  have hn1 := tl_le (nz xs) n
  have hm1 := tl_le (nz ys) m
  have hlx := h.len
  have hly := g.len
  have hlny : (nrm ys).length = tl (nz ys) m := by rw [nrm_len, hly]
  have HT : Hid (0 < tl (nz xs) n → (nz xs).getD (tl (nz xs) n - 1) 0 ≠ 0) := tl_top (nz xs) n
  obtain ⟨N, HN⟩ : ∃ N, Hid (tl (nz xs) n = N) := ⟨_, rfl⟩
  obtain ⟨M, HM⟩ : ∃ M, Hid (tl (nz ys) m = M) := ⟨_, rfl⟩
  rw [HN.out] at hn1 HT
  rw [HM.out] at hm1 hy hlny
  have HD : Hid (nm ((nrm ys).getD (M - 1) 0) ≠ 0) := by
    have h1 := (nrm_Nml ys).top (by omega)
    have h2 := getD_bd' (nrm_Nml ys).bd (M - 1)
    unfold Hid
    rw [nm_small h2.1 h2.2, ← hlny]
    exact h1
  have hMb : ((M : Int) == 0) = false := by rw [beq_eq_false_iff_ne]; omega
  go_enter Try.func9, Try.ntmps9
  go_wp2_with fail
  refine (cNormal _ _ _ _ _ g (by omega)).mono ?_
  rintro e w1 ⟨rfl, hr1, hb1⟩
  rw [HM.out]
  go_wp2_with fail
  refine (cNormal _ _ _ _ _ (h.below hb1) (by omega)).mono ?_
  rintro e w2 ⟨rfl, hr2, hb2⟩
  rw [HN.out]
  have hb12 : Below w.heap.size w w2 := hb1.trans (hb2.mono hb1.size)
  have hsz := hb1.size
  have hlt := hr1.lt
  have r1 := (hr1.below hb2 hr1.lt).nrm hly (by omega)
  rw [HM.out] at r1
  go_wp2_with fail
  refine (cDivide _ _ _ _ _ _ _ _ _ hr2 (nz_bd' xs) (by rw [nz_len]; omega) (by omega) (by omega) r1 (fun x hx => by obtain rfl := Option.some.inj hx; simp only; omega) (by omega) (by omega) HD.out HT.out).mono ?_
  rintro e w3 ⟨Q, A, rfl, hI, hq, ha, hg⟩
  obtain ⟨d1, d2, d3, d4, d5⟩ := div_done hlx HN.out.symm hy hlny hI
  have hlq : Q.length = N - (M - 1) := hI.lq
  have hbel3 := below_grown hb12 hg hsz
  have R1 : Rd w3 (some ⟨w2.heap.size, 0, none⟩) Q.length Q.length Q := by
    have := hq.rd 0 Q.length Q.length (Nat.le_refl _) (by unfold maxLen; omega) (by omega) (bd_u64 d1.bd)
    rwa [List.drop_zero, List.take_of_length_le (by omega)] at this
  have R2 : Rd w3 (some ⟨w1.heap.size, 0, none⟩) (A.take (tl A N)).length n (A.take (tl A N)) := by
    have hla : A.length = n := by rw [hI.la, nz_len, hlx]
    have ht := tl_le A N
    have := ha.rd 0 (tl A N) n (by omega) (by unfold maxLen; omega) (by omega) (bd_u64 hI.ba)
    rw [List.drop_zero] at this
    rw [d3]
    exact this
  have H : Hid (Nml Q ∧ Nml (A.take (tl A N)) ∧ (A.take (tl A N)).length < (nrm ys).length ∧ Q.length ≤ 40 ∧ (∀ t, nm (pc Q (nrm ys) t Q.length + (A.take (tl A N)).getD t 0) = nm (xs.getD t 0))) :=
    ⟨d1, d2, by omega, by omega, d5⟩
  rw [← hlq]
  obtain ⟨T, hT⟩ : ∃ T, T = tl A N := ⟨_, rfl⟩
  obtain ⟨R, hR⟩ : ∃ R, R = A.take (tl A N) := ⟨_, rfl⟩
  rw [← hR] at R2 H d3
  rw [← hT] at d3 ⊢
  rw [← d3]
  clear hT hR
  clear d1 d2 d3 d4 d5 hI hq ha hg hr1 hr2 hb1 hb2 r1 hlq
  go_wp2
  go_ret3
  obtain ⟨k1, k2, k3, k4, k5⟩ := H.out
  exact ⟨Q, R, _, _, _, _, rfl, R1, R2, k1, k2, k3, k4, k5, hbel3⟩
theorem nrm_nil0 {xs : List Int} {n : Nat} (hl : xs.length = n) (h : tl (nz xs) n = 0) (x : Int) : nm (ev xs x) = 0 := by
  have h1 : (nrm xs).length = 0 := by rw [nrm_len, hl, h]
  rw [← nrm_ev, List.eq_nil_of_length_eq_zero h1]
  rfl

/-- The product of two that are short enough. -/
theorem cMulAll (a : Option Addr) (n c : Nat) (xs : List Int) (b : Option Addr) (m d : Nat) (ys : List Int) (w : World) (h : Rd w a n c xs) (g : Rd w b m d ys) (hn : n ≤ 40) (hm : m ≤ 40) (hnm : n + m ≤ 41) :
    Calls Try.prog 14 #[.slice a n c, .slice b m d] w fun e w' => ∃ p a' c', e = .returned (.tuple #[.slice a' p.length c', .int .i64 0]) ∧ Rd w' a' p.length c' p ∧ p.length ≤ 40 ∧ (∀ x, nm (ev p x) = nm (ev xs x * ev ys x)) ∧ Below w.heap.size w w' := by
  have hn1 := tl_le (nz xs) n
  have hm1 := tl_le (nz ys) m
  by_cases hz : tl (nz xs) n = 0 ∨ tl (nz ys) m = 0
  · refine (cMul0 _ _ _ _ _ _ _ _ _ h g hn hm hz).mono ?_
    rintro e w' ⟨rfl, hb⟩
    refine ⟨[], none, 0, rfl, nil_rd _, Nat.zero_le _, fun x => ?_, hb⟩
    rcases hz with hz | hz
    · rw [nm_mul_congr (c := 0) (nrm_nil0 h.len hz x) rfl, Int.zero_mul]; rfl
    · rw [nm_mul_congr (d := 0) rfl (nrm_nil0 g.len hz x), Int.mul_zero]; rfl
  · refine (cMulOK _ _ _ _ _ _ _ _ _ h g hn hm (by omega) (by omega) (by omega)).mono ?_
    rintro e w' ⟨a', rfl, hr, hb⟩
    have hl := hr.len
    refine ⟨cvl (nrm xs) (nrm ys), a', _, by rw [hl], by rw [hl]; exact hr, by rw [hl]; omega, fun x => ?_, hb⟩
    rw [cvl_ev]
    exact nm_mul_congr (nrm_ev _ _) (nrm_ev _ _)

/-- BEZOUT's ground: what the quotient, the divisor and the rest tell is what the dividend tells. -/
theorem div_ev {Q D R X : List Int} (h : ∀ t, nm (pc Q D t Q.length + R.getD t 0) = nm (X.getD t 0)) (c : Int) : nm (ev Q c * ev D c + ev R c) = nm (ev X c) := by
  have h1 := ev_congr (adl 1 (cvl Q D) R) X c fun t => by
    rw [adl_getD, Int.one_mul, cvl_getD, nm_addl, h]
  rw [← h1, adl_ev, Int.one_mul]
  exact (nm_add_congr (cvl_ev c Q D) rfl).symm

def pts40 : List Int := (List.range 40).map fun i : Nat => (i : Int)
theorem pts40_pair : pts40.Pairwise (fun a b => nm (a - b) ≠ 0) := by
  unfold pts40
  rw [List.pairwise_map]
  refine List.Pairwise.imp_of_mem ?_ (List.nodup_range (n := 40))
  intro a b ha hb hab
  have h1 := List.mem_range.1 ha
  have h2 := List.mem_range.1 hb
  unfold nm
  omega
/-- x x - 1 is (x + 1) (x - 1). -/
theorem div_known {Q R : List Int} (nQ : Nml Q) (nR : Nml R) (hR : R.length < 2) (hQ : Q.length ≤ 40) (h : ∀ t, nm (pc Q [1, 1] t Q.length + R.getD t 0) = nm ([2147483646, 0, 1].getD t 0)) : R = [] ∧ Q = [2147483646, 1] := by
  have hev := div_ev h
  have hD : ∀ c, ev [1, 1] c = 1 + c := fun c => by simp [ev]
  have hX : ∀ c, ev [2147483646, 0, 1] c = 2147483646 + c * c := fun c => by simp [ev]
  have hR0 : R = [] := by
    match R, hR, nR, hev with
    | [], _, _, _ => rfl
    | [r], _, nR, hev =>
      have h1 := hev 2147483646
      rw [hD, hX] at h1
      have h2 : nm (ev Q 2147483646 * (1 + 2147483646)) = nm 0 := by
        rw [nm_mul_congr (c := ev Q 2147483646) (d := 0) rfl (by decide), Int.mul_zero]
      rw [nm_add_congr (c := 0) (d := r) h2 (by rw [ev, ev, Int.mul_zero, Int.add_zero]), Int.zero_add] at h1
      have h3 := nR.bd r (List.mem_cons_self ..)
      rw [nm_small h3.1 h3.2] at h1
      exact absurd h1 (nR.top (by simp))
  subst hR0
  refine ⟨rfl, ?_⟩
  have hs := same_poly (p := Q) (q := [2147483646, 1]) pts40_pair (fun c hc => by
    have h1 := hev c
    rw [hD, hX, ev, Int.add_zero] at h1
    obtain ⟨i, hi, rfl⟩ := List.mem_map.1 hc
    have hi := List.mem_range.1 hi
    have h2 : nm (1 + (i : Int)) ≠ 0 := by unfold nm; omega
    refine nm_cancel (a := 1 + (i : Int)) ?_ h2
    rw [Int.mul_comm, h1]
    have h3 : ev [2147483646, 1] (i : Int) = 2147483646 + i := by simp [ev]
    rw [h3, Int.add_mul, Int.one_mul, Int.mul_add]
    unfold nm
    omega) (by simp [pts40]; omega) (by simp [pts40])
  rw [nrm_id nQ] at hs
  rw [hs]
  decide
/-- The rest by (x - c) is the value at c. -/
theorem rest_val {Q R X : List Int} {c : Int} (nR : Nml R) (hR : R.length < 2) (h : ∀ t, nm (pc Q [nm (-c), 1] t Q.length + R.getD t 0) = nm (X.getD t 0)) : R.getD 0 0 = nm (ev X c) := by
  have h1 := div_ev h c
  have h2 : nm (ev [nm (-c), 1] c) = nm 0 := by
    have e : ev [nm (-c), 1] c = nm (-c) + c := by simp [ev]
    rw [e, nm_addl]
    congr 1; omega
  rw [nm_add_congr (c := 0) (d := ev R c) (by rw [nm_mul_congr (c := ev Q c) (d := 0) rfl h2, Int.mul_zero]) rfl, Int.zero_add] at h1
  rw [← h1]
  match R, hR, nR with
  | [], _, _ => rfl
  | [r], _, nR =>
    have h3 := nR.bd r (List.mem_cons_self ..)
    have e : ev [r] c = r := by simp [ev]
    rw [e, nm_small h3.1 h3.2]
    rfl
theorem Nml.lin {x : Int} (h : 0 ≤ x ∧ x ≤ 2147483646) : Nml [x, 1] :=
  ⟨fun u hu => by
    simp only [List.mem_cons, List.not_mem_nil, or_false] at hu
    rcases hu with rfl | rfl <;> omega, fun _ => (show (1 : Int) ≠ 0 by decide)⟩

theorem polyRestW (a0 : Option Addr) (len0 cap0 : Nat) (X0 : List Int) (a1 : Option Addr) (len1 cap1 : Nat) (Y0 : List Int) (x : Int) (w : World) (h0 : Rd w a0 len0 cap0 X0) (g0 : Rd w a1 len1 cap1 Y0) (hx0 : 0 ≤ x) (hx1 : x ≤ 18446744073709551615) :
    Calls Try.prog 3 #[.slice a0 len0 cap0, .slice a1 len1 cap1, .int .u64 x] w fun e w' => e = .returned (.bool true) ∧ Below w.heap.size w w' := by
  have hc0 := h0.cap
  have hc1 := g0.cap
  have hm0 : cap0 ≤ 9223372036854775807 := by have := h0.max; unfold maxLen at this; omega
  have hm1 : cap1 ≤ 9223372036854775807 := by have := g0.max; unfold maxLen at this; omega
  have h := h0.take (k := min 18 len0) (by omega)
  have g := g0.take (k := min 18 len1) (by omega)
  obtain ⟨n, hn⟩ : ∃ n, n = min 18 len0 := ⟨_, rfl⟩
  obtain ⟨m, hm⟩ : ∃ m, m = min 18 len1 := ⟨_, rfl⟩
  rw [← hn] at h
  rw [← hm] at g
  have Hn : Hid (n = min 18 len0) := hn
  have Hm : Hid (m = min 18 len1) := hm
  have hn18 : n ≤ 18 := by omega
  have hm18 : m ≤ 18 := by omega
  generalize X0.take n = X at h
  generalize Y0.take m = Y at g
  clear hn hm h0 g0
  have hD0 : 0 < tl (nz [1, 1]) 2 := by decide
  have hnX := nm_bd (-x)
  have HD : Hid (nrm [nm (-x), 1] = [nm (-x), 1]) := nrm_id (Nml.lin hnX)
  have HDt : Hid (0 < tl (nz [nm (-x), 1]) 2) := by
    have := tl_nrm (Nml.lin hnX)
    show 0 < tl (nz [nm (-x), 1]) [nm (-x), 1].length
    rw [this]; exact Nat.succ_pos _
  have hv0 := nm_bd (ev X x)
  have hy0 := nm_bd (ev Y x)
  go_enter Try.func3, Try.ntmps3
  go_wp2_with fail
  have hb1 := below_one w (.cells #[.int .u64 2147483646, .int .u64 0, .int .u64 1] 23)
  have r1 := rd_of3 w (x := 2147483646) (y := 0) (z := 1) (by omega) (by omega) (by omega)
  have hs1 : (w.alloc (.cells #[.int .u64 2147483646, .int .u64 0, .int .u64 1] 23)).heap.size = w.heap.size + 1 := by simp
  generalize w.alloc (.cells #[.int .u64 2147483646, .int .u64 0, .int .u64 1] 23) = v1 at *
  have hb2 := below_one v1 (.cells #[.int .u64 1, .int .u64 1] 23)
  have r2 := rd_of2 v1 (x := 1) (y := 1) (by omega) (by omega)
  rw [hs1] at r2
  generalize v1.alloc (.cells #[.int .u64 1, .int .u64 1] 23) = v2 at *
  have hw2 := hb1.trans (hb2.mono hb1.size)
  refine (cDivOK _ _ _ _ _ _ _ _ _ (r1.below hb2) r2 (by omega) (by omega) hD0).mono ?_
  rintro e v3 ⟨Q, R, aq, ar, cq, cr, rfl, hq3, hr3, nQ, nR, hRl, hQl, hid, hb3⟩
  obtain ⟨rfl, rfl⟩ := div_known nQ nR hRl hQl hid
  have hw3 := hw2.trans (hb3.mono hw2.size)
  clear hid nQ nR hRl hQl hr3 hb3 hw2 hb2 hb1 hs1 r1 r2 hD0
  have hb4 := below_one v3 (.cells #[.int .u64 2147483646, .int .u64 1] 23)
  have r4 := rd_of2 v3 (x := 2147483646) (y := 1) (by omega) (by omega)
  go_wp2_with fail
  generalize v3.alloc (.cells #[.int .u64 2147483646, .int .u64 1] 23) = v4 at *
  have hw4 := hw3.trans (hb4.mono hw3.size)
  refine (cSame _ _ _ _ _ _ _ _ (hq3.below hb4) r4).mono ?_
  rintro e v5 ⟨rfl, hb5⟩
  have hw5 := hw4.trans (hb5.mono hw4.size)
  clear hq3 hb4 r4 hb5 hw4 hw3
  go_wp2_with (first | (go_at_call 11; refine (kShort _ _ _ 18 _ (by omega) (by omega)).mono ?_; rintro e w' ⟨rfl, hw⟩; have hw := hw.symm; subst hw) | fail)
  rw [← Hn.out, ← Hm.out]
  have hb6 := below_one v5 (.cells #[.int .u64 (nm (-x)), .int .u64 1] 23)
  have r6 := rd_of2 v5 (x := nm (-x)) (y := 1) (by omega) (by omega)
  go_wp2_with (first | (go_at_call 12; refine (fSub _ _ _ (by omega) (by omega) (by omega) (by omega)).mono ?_; rintro e w' ⟨rfl, hw⟩; have hw := hw.symm; subst hw) | fail)
  generalize v5.alloc (.cells #[.int .u64 (nm (-x)), .int .u64 1] 23) = v6 at *
  have hw6 := hw5.trans (hb6.mono hw5.size)
  refine (cDivOK _ _ _ _ _ _ _ _ _ (h.below hw6) r6 (by omega) (by omega) HDt.out).mono ?_
  rintro e v7 ⟨Q, R, aq, ar, cq, cr, rfl, hq7, hr7, nQ, nR, hRl, hQl, hid, hb7⟩
  rw [HD.out] at hid hRl
  have HV : Hid (R.getD 0 0 = nm (ev X x)) := rest_val nR hRl hid
  have hw7 := hw6.trans (hb7.mono hw6.size)
  obtain ⟨q, hq⟩ : ∃ q, q = Q.length := ⟨_, rfl⟩
  obtain ⟨r, hr⟩ : ∃ r, r = R.length := ⟨_, rfl⟩
  rw [← hq, ← hr]
  rw [← hr] at hr7
  have hRl2 : r < 2 := by rw [hr]; exact hRl
  have hQl2 : q ≤ 40 := by rw [hq]; exact hQl
  clear hq hr hid nQ nR hRl hQl hb7 hw6 hb6 r6 hw5 hq7
  go_wp2_with fail
  refine (cEvalOK _ _ _ _ _ _ (h.below hw7) (by omega) hx0 hx1).mono ?_
  rintro e v8 ⟨rfl, hb8⟩
  have hw8 := hw7.trans (hb8.mono hw7.size)
  have hr8 := hr7.below hb8
  clear hr7 hb8 hw7
  by_cases hr0 : r = 0
  · have hvz : (nm (ev X x) != 0) = false := by
      have := HV.out
      rw [getD_big (by rw [hr8.len]; omega)] at this
      rw [← this]; rfl
    have hrb : ((r : Int) == 1) = false := by rw [beq_eq_false_iff_ne]; omega
    have hrc : ((r : Int) == 0) = true := by rw [beq_iff_eq]; omega
    clear hr0
    go_wp2_with fail
    refine (cEvalOK _ _ _ _ _ _ (g.below hw8) (by omega) hx0 hx1).mono ?_
    rintro e v9 ⟨rfl, hb9⟩
    have hw9 := hw8.trans (hb9.mono hw8.size)
    clear hb9 hw8 hr8
    go_wp2_with fail
    refine (cMulAll _ _ _ _ _ _ _ _ _ (h.below hw9) (g.below hw9) (by omega) (by omega) (by omega)).mono ?_
    rintro e v10 ⟨p, ap, cp, rfl, hp10, hpl, hpv, hb10⟩
    have HPV : Hid (nm (ev p x) = nm (nm (ev X x) * nm (ev Y x))) := by rw [nm_mull, nm_mulr]; exact hpv x
    have hw10 := hw9.trans (hb10.mono hw9.size)
    obtain ⟨pl, hpl2⟩ : ∃ pl, pl = p.length := ⟨_, rfl⟩
    rw [← hpl2] at hp10 hpl ⊢
    clear hpl2 hpv hb10 hw9
    go_wp2_with fail
    refine (cEvalOK _ _ _ _ _ _ hp10 (by omega) hx0 hx1).mono ?_
    rintro e v11 ⟨rfl, hb11⟩
    rw [HPV.out]
    have hw11 := hw10.trans (hb11.mono hw10.size)
    clear hb11 hw10 hp10
    go_wp2_with (go_at_call 15; refine (fMul _ _ _ (by omega) (by omega) (by omega) (by omega)).mono ?_; rintro e w' ⟨rfl, hw⟩; have hw := hw.symm; subst hw)
    go_ret
    exact ⟨rfl, hw11⟩
  · have hr1 : r = 1 := by omega
    subst hr1
    obtain ⟨b9, o9, z, rfl, _, HZ, hz0, hz1, hcz⟩ := hr8.one (show 0 < 1 by omega)
    rw [Nat.add_zero] at hcz
    have hvz : (z != nm (ev X x)) = false := by
      rw [← HZ.out, HV.out, bne_self_eq_false]
    go_wp2_with fail
    refine (cEvalOK _ _ _ _ _ _ (g.below hw8) (by omega) hx0 hx1).mono ?_
    rintro e v9 ⟨rfl, hb9⟩
    have hw9 := hw8.trans (hb9.mono hw8.size)
    clear hb9 hw8 hr8
    go_wp2_with fail
    refine (cMulAll _ _ _ _ _ _ _ _ _ (h.below hw9) (g.below hw9) (by omega) (by omega) (by omega)).mono ?_
    rintro e v10 ⟨p, ap, cp, rfl, hp10, hpl, hpv, hb10⟩
    have HPV : Hid (nm (ev p x) = nm (nm (ev X x) * nm (ev Y x))) := by rw [nm_mull, nm_mulr]; exact hpv x
    have hw10 := hw9.trans (hb10.mono hw9.size)
    obtain ⟨pl, hpl2⟩ : ∃ pl, pl = p.length := ⟨_, rfl⟩
    rw [← hpl2] at hp10 hpl ⊢
    clear hpl2 hpv hb10 hw9
    go_wp2_with fail
    refine (cEvalOK _ _ _ _ _ _ hp10 (by omega) hx0 hx1).mono ?_
    rintro e v11 ⟨rfl, hb11⟩
    rw [HPV.out]
    have hw11 := hw10.trans (hb11.mono hw10.size)
    clear hb11 hw10 hp10
    go_wp2_with (go_at_call 15; refine (fMul _ _ _ (by omega) (by omega) (by omega) (by omega)).mono ?_; rintro e w' ⟨rfl, hw⟩; have hw := hw.symm; subst hw)
    go_ret
    exact ⟨rfl, hw11⟩
end
end Go.Proofs.Ytljlioglpaogdad
