/- poly.divide, poly.Div. -/
import Derived.Test.YtihiolnagcelkadFaceC
import Derived.Test.YtihiolnagcelkadPolyM2
import Derived.Deep.RegionWith
namespace Go.Proofs.Ytihiolnagcelkad
open Go.RowKit Crm

theorem tl_take (A : List Int) : ∀ n m, n ≤ m → tl (A.take m) n = tl A n
  | 0, _, _ => rfl
  | n + 1, m, h => by rw [tl, tl, take_getD, if_pos (show n < m by omega), tl_take A n m (by omega)]

set_option maxHeartbeats 1000000 in
theorem cDivide (g n c : Nat) (L : List Int) (b : Option Addr) (m d : Nat) (D : List Int) (w : World) (hL : Blk w g L) (hLb : ∀ x ∈ L, 0 ≤ x ∧ x ≤ 2147483646) (hn : n ≤ L.length) (hc : n ≤ c) (hcc : c ≤ 1000) (hD : Rd w b m d D)
    (hne : ∀ x, b = some x → x.block ≠ g) (hm0 : 0 < m) (hm : m ≤ 1000) (hd : nm (D.getD (m - 1) 0) ≠ 0) (hlast : 0 < n → L.getD (n - 1) 0 ≠ 0) :
    Calls Try.prog 16 #[.slice (some ⟨g, 0, none⟩) n c, .slice b m d] w fun e w' => ∃ Q A, e = .returned (.tuple #[.slice (some ⟨w.heap.size, 0, none⟩) (n - (m - 1)) (n - (m - 1)), .slice (some ⟨g, 0, none⟩) (tl A n) c]) ∧
      DivI L D Q A n m (n - (m - 1)) 0 ∧ Blk w' w.heap.size Q ∧ Blk w' g A ∧ w.grownBy w' (some g) := by
  obtain ⟨i0, hi, hz0, hz1, hz2⟩ := info_parts info23
  have hlen := hD.len
  have hgl := hL.lt
  obtain ⟨q, HQ⟩ : ∃ q, Hid (n - (m - 1) = q) := ⟨_, rfl⟩
  have hq1 : q ≤ 1000 := by have := HQ.out; omega
  rw [HQ.out]
  obtain ⟨l, hl⟩ : ∃ l, m = l + 1 := ⟨m - 1, by omega⟩
  subst hl
  have hql : q = n - l := by have := HQ.out; omega
  have HQL : Hid (q = n - l) := hql
  have hql2 : (q : Int) = max ((n : Int) - (l : Int)) 0 := by omega
  clear hql
  obtain ⟨b1, o1, y, rfl, hbb, HY, hy0, hy1, hcy⟩ := hD.one (show l < l + 1 by omega)
  rw [show l + 1 - 1 = l by omega] at hd
  rw [HY.out] at hd
  have hbg : b1 ≠ g := hne _ rfl
  go_enter Try.func16, Try.ntmps16
  go_wp2_with (first | (go_at_call 21; refine (fInv1 _ _ hy0 hy1 hd).mono ?_; rintro e w' ⟨rfl, hw⟩; have hw := hw.symm; subst hw) | (at_make; refine wpList_make_full _ rfl _ _ 22 rfl w.heap.size 23 i0 (.int .u64 0) 1 Try.underlying22 hi hz0 hz1 .i64 .i64 _ _ q rfl rfl (by omega) (by omega) (by rw [hz2]; omega) (by unfold maxLen; omega) (Nat.le_refl _) ?_; intro w1 hown hgrow))
  all_goals
    have hb1 : Blk w1 w.heap.size (List.replicate q 0) := Blk.made hown
    have hbel1 : Below w.heap.size w w1 := (Below.refl _ _).grown hgrow (Nat.le_refl _) (by simp)
    have hb2 : Blk w1 g L := hL.below hbel1 hgl
    clear hown hgrow
    go_loopw [10] (fun i wr => ∃ (k : Nat) (Q A : List Int), k ≤ q ∧ i = .int .i64 ((k : Int) - 1) ∧ Hid (DivI L D Q A n (l + 1) q k) ∧ Blk wr w.heap.size Q ∧ Blk wr g A ∧ w.grownBy wr (some g)) (fun i _ => (intOf i + 1).toNat)
    case atStart => exact ⟨q, _, _, Nat.le_refl _, by go_num, div_start hLb (by have := HQL.out; omega), hb1, hb2, grown_below hbel1 _⟩
    case round =>
      obtain ⟨k, Q, A, hk, rfl, HI, hbq, hba, hgr⟩ := hrel
      have hlA : A.length = L.length := HI.out.la
      have hlQ : Q.length = q := HI.out.lq
      cases k with
      | zero =>
        have hr : Rd wr (some ⟨g, 0, none⟩) n c (A.take n) := hba.rd 0 n c hc (by unfold maxLen; omega) (by omega) (bd_u64 HI.out.ba)
        go_wp2_with (first | (go_at_call 23; refine (cTrim _ _ _ _ _ hr).mono ?_; rintro e w' ⟨rfl, hw⟩; have hw := hw.symm; subst hw) | fail)
        go_ret2
        refine ⟨Q, A, ?_, HI.out, hbq, hba, hgr⟩
        rw [← tl_take A n n (Nat.le_refl _)]
        rfl
      | succ k =>
        first
        | (exfalso; have := HQL.out; omega)
        | (skip
           have hkn : k + l < n := by have := HQL.out; omega
           have hcx := hba.cell (i := k + l) (by omega)
           obtain ⟨x, hx⟩ : ∃ x, A.getD (k + l) 0 = x := ⟨_, rfl⟩
           have hxb : 0 ≤ x ∧ x ≤ 2147483646 := by rw [← hx]; exact getD_bd' HI.out.ba _
           rw [hx] at hcx
           have HX : Hid (A.getD (k + l) 0 = x) := hx
           clear hx
           have hivb := iv_bd y
           obtain ⟨v, hv⟩ : ∃ v, v = nm (x * iv y) := ⟨_, rfl⟩
           have hvb : 0 ≤ v ∧ v ≤ 2147483646 := by rw [hv]; exact nm_bd _
           have hcq := hbq.cell (i := k) (by omega)
           have hfq := hbq.frozen k
           have hfa := hba.frozen
           have hI2 : Hid (DivI L D (Q.set k v) (addAt A k D (nm (-v)) (l + 1)) n (l + 1) q k) := by
             rw [← Int.zero_sub v]
             exact div_step HI.out (by omega) (by have := HQL.out; omega) (by omega) hlen hn (by rw [show l + 1 - 1 = l by omega, HY.out]; exact hd) (hlast (by omega)) HX.out (by rw [hv, show l + 1 - 1 = l by omega, HY.out])
           have hne2 : w.heap.size ≠ g := by omega
           have hgs : wr.grownBy (wr.setCell ⟨w.heap.size, k, none⟩ (.int .u64 v)) (some w.heap.size) := grown_set _ _ _ _
           have hq2 := hbq.set k v
           have ha2 := hba.grown hgs (by simpa using hne2.symm)
           have hD2 := (hD.grown hgr (fun x hx => by obtain rfl := Option.some.inj hx; simpa using hbg)).grown hgs (fun x hx => by obtain rfl := Option.some.inj hx; simp; omega)
           have hgr2 : w.grownBy (wr.setCell ⟨w.heap.size, k, none⟩ (.int .u64 v)) (some g) := by
             refine ⟨hgr.os, hgr.tape, hgr.output, by simpa using hgr.size, fun j hj hjr => ?_⟩
             rw [heap_setCell_other _ _ _ _ (show j ≠ w.heap.size by omega)]
             exact hgr.block j hj hjr
           have HV : Hid (v = nm (x * iv y)) := hv
           have hck : ¬ c = k := by omega
           have HI' : Hid (∀ x ∈ A, 0 ≤ x ∧ x ≤ 2147483646) := HI.out.ba
           clear hv
           have hcv : (wr.setCell ⟨w.heap.size, k, none⟩ (.int .u64 v)).cell? ⟨w.heap.size, k, none⟩ = some (.int .u64 v) := by
             rw [hq2.cell (by rw [List.length_set]; omega), getD_set, if_pos (by omega)]
           have hsubb := nm_bd (-v)
           have hk0 : (0 : Int) ≤ (k : Int) := by omega
           have hkq : (k : Int) < (q : Int) := by omega
           have hkc : (k : Int) ≤ (n : Int) := by omega
           have hkc2 : (n : Int) ≤ (c : Int) := by omega
           go_wp2_with (first | (go_at_call 11; refine (fMul _ _ _ (by omega) (by omega) (by omega) (by omega)).mono ?_; rintro e w' ⟨he, hw⟩; have hw := hw.symm; subst hw; rw [← HV.out] at he; subst he) | fail)
           generalize hws : wr.setCell ⟨w.heap.size, k, none⟩ (.int .u64 v) = ws at *
           clear hws hbq hba hgr hcx hcq hfq hfa HI hb1 hb2 hbel1 hD hL
           go_region_with (first | (go_at_call 8; refine (fSub _ _ _ (by omega) (by omega) (by omega) (by omega)).mono ?_; rintro e w' ⟨rfl, rfl⟩) | (go_at_call 22; refine (cAddTimes _ _ _ _ _ _ _ _ _ _ _ (by exact ha2) (bd_u64 HI'.out) hD2.drew (by exact hne) (by omega) (by omega) (by omega) (by omega) (by omega)).mono ?_; rintro e w3 ⟨rfl, hb3, hg3⟩))
           all_goals
             have hq3 := (show Blk ws.drew _ _ from hq2).grown hg3 (by simpa using hne2)
             have hg4 := grown_trans (grown_drew hgr2) hg3
             clear hg3 hq2 ha2 hD2 hgr2
             go_wp2
             go_roundw
             case rel => exact ⟨k, _, _, by omega, by go_num, hI2, hq3, hb3, hg4⟩
             case measure => simp [intOf])
end Go.Proofs.Ytihiolnagcelkad
