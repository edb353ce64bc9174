/- solve.Rank, solve.Solve. · poly.divide, poly.Div. · poly.Div. -/
import Derived.Test.YtoifklkdfgfbdagDoorToChkC
import Derived.Test.YtoifklkdfgfbdagDoorToRestC
import Derived.Test.YtoifklkdfgfbdagDoorToDealC
import Derived.Test.YtoifklkdfgfbdagDoorToShares
import Derived.Deep.RegionWith
namespace Go.Proofs.YtoifklkdfgfbdagDoor
open Go.RowKit Crm

/-- L: the columns that are no sums of columns ahead, going up. -/
structure Lds (M : Nat → Nat → Int) (r v : Nat) (L : List Nat) : Prop where
  up : L.Pairwise (· < ·)
  lt : ∀ j ∈ L, j < v
  lead : ∀ j, j < v → (j ∈ L ↔ ¬ dep M r j)
theorem lds_one {M : Nat → Nat → Int} {r v : Nat} {L K : List Nat} (h : Lds M r v L) (k : Lds M r v K) : L = K :=
  up_ext h.up k.up fun x => ⟨fun hx => (k.lead x (h.lt x hx)).2 ((h.lead x (h.lt x hx)).1 hx), fun hx => (h.lead x (k.lt x hx)).2 ((k.lead x (k.lt x hx)).1 hx)⟩
theorem rr_lds {M A : Nat → Nat → Int} {r w c : Nat} {L : List Nat} (h : RrI M A r w c L) : Lds M r c L := ⟨h.up, h.lt, h.lead⟩
theorem rest_start {rs : List (List Int)} {M : Nat → List Int} {n W : Nat} (h : ∀ i j, i < n → j < W → (M i).getD j 0 = nm (mat rs i j)) : RrI (mat rs) (mt M) n W 0 [] :=
  rr_start fun i j hi hj => by show nm ((M i).getD j 0) = _; rw [h i j hi hj]; exact nm_nm _

set_option maxRecDepth 100000 in
theorem cSolve0 (a : Option Addr) (n c : Nat) (rs : List (List Int)) (v : Int) (w : World) (h : RdR w a n c rs) (hv0 : -9223372036854775808 ≤ v) (hv1 : v ≤ 9223372036854775807) (hc : chk rs n v ≠ 0) :
    Calls Tryd.prog 84 #[.slice a n c, .int .i64 v] w fun e w' => e = .returned (.tuple #[.slice none 0 0, .int .i64 (chk rs n v)]) ∧ w' = w := by
  obtain ⟨z, hz⟩ : ∃ z, chk rs n v = z := ⟨_, rfl⟩
  have hbd := chk_bd rs n v
  have HZ : Hid (chk rs n v = z) := hz
  rw [hz] at hc hbd ⊢
  clear hz
  have hb : (z == 0) = false := by rw [beq_eq_false_iff_ne]; exact hc
  go_enter Tryd.func84, Tryd.ntmps84
  go_wp2_with (go_at_call 90; refine (cCheck _ _ _ rs _ _ h hv0 hv1).mono ?_; rintro e w' ⟨rfl, hw⟩; have hw := hw.symm; subst hw; rw [HZ.out])
  go_ret2
  exact ⟨rfl, rfl⟩

/-- What Solve answers at equations that are well formed. -/
def Solved (M : Nat → Nat → Int) (n k : Nat) (w : World) (e : Ending) (w' : World) : Prop :=
  ((¬ dep M n k ∧ e = .returned (.tuple #[.slice none 0 0, .int .i64 4])) ∨ (∃ g V, dep M n k ∧ e = .returned (.tuple #[.slice (some ⟨g, 0, none⟩) k k, .int .i64 0]) ∧ Sol M n k V ∧ Blk w' g V ∧ w.heap.size ≤ g)) ∧ Below w.heap.size w w'

set_option maxHeartbeats 1000000 in
set_option maxRecDepth 100000 in
theorem cSolve1 (a : Option Addr) (n c k : Nat) (rs : List (List Int)) (w : World) (h : RdR w a n c rs) (hc : chk rs n k = 0) :
    Calls Tryd.prog 84 #[.slice a n c, .int .i64 k] w fun e w' => Solved (mat rs) n k w e w' := by
  obtain ⟨i0, hi, hz0, hz1, hz2⟩ := info_parts infoU
  obtain ⟨k', hk, hk1, hk2, hn, hwid⟩ := chk_of hc
  have hk' : k' = k := by omega
  subst hk'
  have HC : Hid (chk rs n k' = 0) := hc
  clear hc hk
  go_enter Tryd.func84, Tryd.ntmps84
  go_wp2_with fail
  refine (cCheck _ _ _ rs _ _ h (by omega) (by omega)).mono ?_
  rintro e w' ⟨rfl, hw'⟩
  have hw' := hw'.symm
  subst hw'
  rw [HC.out]
  go_wp2_with fail
  refine (cRests _ _ _ (k' + 1) rs _ h hwid (by omega) (by omega)).mono ?_
  rintro e w1 ⟨G, M, rfl, hM, hMv, hb1⟩
  go_wp2_with fail
  refine (cReduce n k' _ _ _ G M (mat rs) _ hM (rest_start hMv) (by omega) (by omega)).mono ?_
  rintro e w2 ⟨u, L, G2, N, rfl, hown, hN, hR, hf⟩
  obtain ⟨q, HQ⟩ : ∃ q, Hid (L.length = q) := ⟨_, rfl⟩
  rw [HQ.out] at hown
  have hqn : q ≤ n := by rw [← HQ.out]; exact hR.kr
  obtain ⟨au, cu, rfl, hcu⟩ := own_slice hown
  have hb2 : Below w.heap.size w w2 := hb1.trans (hf.below (by have := hb1.size; omega))
  have HR : Hid (RrI (mat rs) (mt N) n (k' + 1) k' L) := hR
  obtain ⟨hi2, Hhi⟩ : ∃ x, Hid (w1.heap.size = x) := ⟨_, rfl⟩
  rw [Hhi.out] at hN hown
  have hlw := hb2.size
  clear hR hf hM hMv hb1 h
  -- the rows behind those of the columns that lead
  go_wp2
  all_goals
    go_loopw [30] (fun i wr => ∃ m : Nat, m ≤ n - q ∧ i = .int .i64 m ∧ Hid (∀ i, q ≤ i → i < q + m → (N i).getD k' 0 = 0) ∧ wr = w2) (fun i _ => (n - q) - (intOf i).toNat)
    case atStart => exact ⟨0, Nat.zero_le _, rfl, fun i h1 h2 => by omega, rfl⟩
    case round =>
      obtain ⟨m, hm, rfl, HZ, hw'⟩ := hrel
      have hw' := hw'.symm
      subst hw'
      by_cases hlt : m < n - q
      · first
        | (exfalso; omega)
        | (skip
           have hnq : ¬ n = q := by omega
           have hqm : q + m < n := by omega
           have hcl := hN.cell hqm
           have hcn := hN.num hqm (show k' < k' + 1 by omega)
           have hnb := hN.nbd hqm k'
           obtain ⟨x, HX⟩ : ∃ x, Hid ((N (q + m)).getD k' 0 = x) := ⟨_, rfl⟩
           rw [HX.out] at hcn hnb
           by_cases hx : x = 0
           · have HZ2 : Hid (∀ i, q ≤ i → i < q + (m + 1) → (N i).getD k' 0 = 0) := fun i h1 h2 => by
               by_cases e : i = q + m
               · rw [e, HX.out, hx]
               · exact HZ.out i h1 (by omega)
             subst hx
             go_wp2
             go_roundw
             case rel => exact ⟨m + 1, by omega, by go_num, HZ2, by trivial⟩
             case measure => simp [intOf]; omega
           · have hxb : (x == 0) = false := by rw [beq_eq_false_iff_ne]; exact hx
             have HD : Hid (¬ dep (mat rs) n k') := fun hd => by
               have h1 := (rr_dep HR.out (by omega)).2 hd (q + m) (by rw [HQ.out]; omega) hqm
               have h2 : nm ((N (q + m)).getD k' 0) = 0 := h1
               rw [HX.out, nm_small (by omega) (by omega)] at h2
               exact hx h2
             clear hx
             go_wp2
             go_ret2
             exact ⟨.inl ⟨HD.out, rfl⟩, hb2⟩)
      · have hmn : m = n - q := by omega
        have HZ2 : Hid (∀ i, L.length ≤ i → i < n → nm (mt N i k') = 0) := fun i h1 h2 => by
          rw [HQ.out] at h1
          show nm ((N i).getD k' 0) = 0
          rw [HZ.out i h1 (by omega)]; rfl
        have HD : Hid (dep (mat rs) n k') := (rr_dep HR.out (by omega)).1 HZ2.out
        obtain ⟨wo, hwo⟩ : ∃ wo, wo = w2 := ⟨_, rfl⟩
        subst hwo
        clear HZ
        have hmm : ¬ ((m : Int) < ((n - q : Nat) : Int)) := by omega
        go_wp2_with (at_make; refine wpList_make_full _ rfl _ _ 22 rfl wo.heap.size 34 i0 (.int .u64 0) 1 Tryd.underlying22 hi hz0 hz1 .i64 .i64 _ _ k' rfl rfl (by omega) (by omega) (by rw [hz2]; omega) (by unfold maxLen; omega) (Nat.le_refl _) ?_; intro w3 hown3 hgrow)
        have hb3 : Blk w3 wo.heap.size (List.replicate k' 0) := Blk.made hown3
        have hbel3 : Below wo.heap.size wo w3 := (Below.refl _ _).grown hgrow (Nat.le_refl _) (by simp)
        have hbw3 := hb2.trans (hbel3.mono hlw)
        have hN3 := hN.below (hbel3.mono hN.hw)
        have hs2 := hN.hw
        clear hown3 hgrow hN hb2
        go_loopw [44] (fun i wr => ∃ (m : Nat) (V : List Int), m ≤ q ∧ i = .int .i64 m ∧ V.length = k' ∧ Hid (∀ x ∈ V, 0 ≤ x ∧ x ≤ 2147483646) ∧ Hid (∀ j, j < k' → V.getD j 0 = tell (mt N) L k' m j) ∧ Blk wr wo.heap.size V ∧ w3.grownBy wr (some wo.heap.size)) (fun i _ => q - (intOf i).toNat)
        case atStart => exact ⟨0, _, Nat.zero_le _, rfl, by simp, fun x hx => by rw [List.eq_of_mem_replicate hx]; omega, fun j hj => by simp [tell, sm, hj], hb3, World.grownBy.refl _ _⟩
        case round =>
          obtain ⟨t, V, ht, rfl, hlV, HB, HV, hV, hg⟩ := hrel
          by_cases htq : t < q
          · obtain ⟨gu, rfl, hgu1, hgu2, hcu0⟩ := ins_at hown htq
            have htn : t < n := by omega
            have hLt : L.getD t 0 < k' := HR.out.lt _ (getN_mem (by rw [HQ.out]; exact htq))
            obtain ⟨col, HCol⟩ : ∃ col, Hid (L.getD t 0 = col) := ⟨_, rfl⟩
            rw [HCol.out] at hcu0 hLt
            have hcu1 : wr.cell? ⟨gu, t, none⟩ = some (.int .i64 (col : Int)) := hg.cell (by rw [hbel3.cell hgu2]; exact hcu0) (by simp; omega)
            have hN4 := hN3.cell htn
            have hc1 : wr.cell? ⟨w.heap.size, t, none⟩ = some (.slice (some ⟨G2 t, 0, none⟩) (k' + 1) (k' + 1)) := hg.cell hN4 (by simp; have := hN3.gb; omega)
            have hN5 := hN3.num htn (show k' < k' + 1 by omega)
            have hc2 : wr.cell? ⟨G2 t, k', none⟩ = some (.int .u64 ((N t).getD k' 0)) := hg.cell hN5 (by simp; have := hN3.rng t htn; omega)
            have hxb := hN3.nbd htn k'
            obtain ⟨x, HX⟩ : ∃ x, Hid ((N t).getD k' 0 = x) := ⟨_, rfl⟩
            rw [HX.out] at hc2 hxb
            have hcV := hV.cell (i := col) (by omega)
            have hfV := hV.frozen col
            have hV2 := hV.set col x
            have hg2 := grown_trans hg (grown_set wr wo.heap.size col (.int .u64 x))
            have HB2 : Hid (∀ y ∈ V.set col x, 0 ≤ y ∧ y ≤ 2147483646) := set_bd HB.out hxb
            have HV2 : Hid (∀ j, j < k' → (V.set col x).getD j 0 = tell (mt N) L k' (t + 1) j) := fun j hj => by
              rw [tell_succ HR.out.up (by rw [HQ.out]; exact htq), getD_set, HCol.out]
              by_cases e : col = j
              · rw [if_pos ⟨e, by omega⟩, if_pos e, ← HX.out]; rfl
              · rw [if_neg (fun hh => e hh.1), if_neg e]; exact HV.out j hj
            have hlV2 : (V.set col x).length = k' := by rw [List.length_set]; exact hlV
            clear HB HV hV hg hN4 hN5 hcu0 hN3 hown
            go_wp2
            go_roundw
            case rel => exact ⟨t + 1, _, by omega, by go_num, hlV2, HB2, HV2, hV2, hg2⟩
            case measure => simp [intOf]; omega
          · have htq2 : t = q := by omega
            subst htq2
            have HS : Hid (Sol (mat rs) n k' V) := rr_sol HR.out HZ2.out hlV HB.out (by rw [HQ.out]; exact HV.out)
            go_wp2
            go_ret2
            exact ⟨.inr ⟨_, V, HD.out, rfl, HS.out, hV, hlw⟩, below_grown hbw3 hg hlw⟩
end Go.Proofs.YtoifklkdfgfbdagDoor

namespace Go.Proofs.YtoifklkdfgfbdagDoor
open Go.RowKit Crm

theorem tl_take (A : List Int) : ∀ n m, n ≤ m → tl (A.take m) n = tl A n
  | 0, _, _ => rfl
  | n + 1, m, h => by rw [tl, tl, take_getD, if_pos (show n < m by omega), tl_take A n m (by omega)]

set_option maxHeartbeats 1000000 in
set_option maxRecDepth 100000 in
theorem cDivide (g n c : Nat) (L : List Int) (b : Option Addr) (m d : Nat) (D : List Int) (w : World) (hL : Blk w g L) (hLb : ∀ x ∈ L, 0 ≤ x ∧ x ≤ 2147483646) (hn : n ≤ L.length) (hc : n ≤ c) (hcc : c ≤ 1000) (hD : Rd w b m d D)
    (hne : ∀ x, b = some x → x.block ≠ g) (hm0 : 0 < m) (hm : m ≤ 1000) (hd : nm (D.getD (m - 1) 0) ≠ 0) (hlast : 0 < n → L.getD (n - 1) 0 ≠ 0) :
    Calls Tryd.prog 93 #[.slice (some ⟨g, 0, none⟩) n c, .slice b m d] w fun e w' => ∃ Q A, e = .returned (.tuple #[.slice (some ⟨w.heap.size, 0, none⟩) (n - (m - 1)) (n - (m - 1)), .slice (some ⟨g, 0, none⟩) (tl A n) c]) ∧
      DivI L D Q A n m (n - (m - 1)) 0 ∧ Blk w' w.heap.size Q ∧ Blk w' g A ∧ w.grownBy w' (some g) := by
  obtain ⟨i0, hi, hz0, hz1, hz2⟩ := info_parts info34
  have hlen := hD.len
  have hgl := hL.lt
  obtain ⟨q, HQ⟩ : ∃ q, Hid (n - (m - 1) = q) := ⟨_, rfl⟩
  have hq1 : q ≤ 1000 := by have := HQ.out; omega
  rw [HQ.out]
  obtain ⟨l, hl⟩ : ∃ l, m = l + 1 := ⟨m - 1, by omega⟩
  subst hl
  have hql : q = n - l := by have := HQ.out; omega
  have HQL : Hid (q = n - l) := hql
  have hql2 : (q : Int) = max ((n : Int) - (l : Int)) 0 := by omega
  clear hql
  obtain ⟨b1, o1, y, rfl, hbb, HY, hy0, hy1, hcy⟩ := hD.one (show l < l + 1 by omega)
  rw [show l + 1 - 1 = l by omega] at hd
  rw [HY.out] at hd
  have hbg : b1 ≠ g := hne _ rfl
  go_enter Tryd.func93, Tryd.ntmps93
  go_wp2_with (first | (go_at_call 76; refine (fInv1 _ _ hy0 hy1 hd).mono ?_; rintro e w' ⟨rfl, hw⟩; have hw := hw.symm; subst hw) | (at_make; refine wpList_make_full _ rfl _ _ 22 rfl w.heap.size 34 i0 (.int .u64 0) 1 Tryd.underlying22 hi hz0 hz1 .i64 .i64 _ _ q rfl rfl (by omega) (by omega) (by rw [hz2]; omega) (by unfold maxLen; omega) (Nat.le_refl _) ?_; intro w1 hown hgrow))
  all_goals
    have hb1 : Blk w1 w.heap.size (List.replicate q 0) := Blk.made hown
    have hbel1 : Below w.heap.size w w1 := (Below.refl _ _).grown hgrow (Nat.le_refl _) (by simp)
    have hb2 : Blk w1 g L := hL.below hbel1 hgl
    clear hown hgrow
    go_loopw [10] (fun i wr => ∃ (k : Nat) (Q A : List Int), k ≤ q ∧ i = .int .i64 ((k : Int) - 1) ∧ Hid (DivI L D Q A n (l + 1) q k) ∧ Blk wr w.heap.size Q ∧ Blk wr g A ∧ w.grownBy wr (some g)) (fun i _ => (intOf i + 1).toNat)
    case atStart => exact ⟨q, _, _, Nat.le_refl _, by go_num, div_start hLb (by have := HQL.out; omega), hb1, hb2, grown_below hbel1 _⟩
    case round =>
      obtain ⟨k, Q, A, hk, rfl, HI, hbq, hba, hgr⟩ := hrel
      have hlA : A.length = L.length := HI.out.la
      have hlQ : Q.length = q := HI.out.lq
      cases k with
      | zero =>
        have hr : Rd wr (some ⟨g, 0, none⟩) n c (A.take n) := hba.rd 0 n c hc (by unfold maxLen; omega) (by omega) (bd_u64 HI.out.ba)
        go_wp2_with (first | (go_at_call 61; refine (cTrim _ _ _ _ _ hr).mono ?_; rintro e w' ⟨rfl, hw⟩; have hw := hw.symm; subst hw) | fail)
        go_ret2
        refine ⟨Q, A, ?_, HI.out, hbq, hba, hgr⟩
        rw [← tl_take A n n (Nat.le_refl _)]
        rfl
      | succ k =>
        first
        | (exfalso; have := HQL.out; omega)
        | (skip
           have hkn : k + l < n := by have := HQL.out; omega
           have hcx := hba.cell (i := k + l) (by omega)
           obtain ⟨x, hx⟩ : ∃ x, A.getD (k + l) 0 = x := ⟨_, rfl⟩
           have hxb : 0 ≤ x ∧ x ≤ 2147483646 := by rw [← hx]; exact getD_bd' HI.out.ba _
           rw [hx] at hcx
           have HX : Hid (A.getD (k + l) 0 = x) := hx
           clear hx
           have hivb := iv_bd y
           obtain ⟨v, hv⟩ : ∃ v, v = nm (x * iv y) := ⟨_, rfl⟩
           have hvb : 0 ≤ v ∧ v ≤ 2147483646 := by rw [hv]; exact nm_bd _
           have hcq := hbq.cell (i := k) (by omega)
           have hfq := hbq.frozen k
           have hfa := hba.frozen
           have hI2 : Hid (DivI L D (Q.set k v) (addAt A k D (nm (-v)) (l + 1)) n (l + 1) q k) := by
             rw [← Int.zero_sub v]
             exact div_step HI.out (by omega) (by have := HQL.out; omega) (by omega) hlen hn (by rw [show l + 1 - 1 = l by omega, HY.out]; exact hd) (hlast (by omega)) HX.out (by rw [hv, show l + 1 - 1 = l by omega, HY.out])
           have hne2 : w.heap.size ≠ g := by omega
           have hgs : wr.grownBy (wr.setCell ⟨w.heap.size, k, none⟩ (.int .u64 v)) (some w.heap.size) := grown_set _ _ _ _
           have hq2 := hbq.set k v
           have ha2 := hba.grown hgs (by simpa using hne2.symm)
           have hD2 := (hD.grown hgr (fun x hx => by obtain rfl := Option.some.inj hx; simpa using hbg)).grown hgs (fun x hx => by obtain rfl := Option.some.inj hx; simp; omega)
           have hgr2 : w.grownBy (wr.setCell ⟨w.heap.size, k, none⟩ (.int .u64 v)) (some g) := by
             refine ⟨hgr.os, hgr.tape, hgr.output, by simpa using hgr.size, fun j hj hjr => ?_⟩
             rw [heap_setCell_other _ _ _ _ (show j ≠ w.heap.size by omega)]
             exact hgr.block j hj hjr
           have HV : Hid (v = nm (x * iv y)) := hv
           have hck : ¬ c = k := by omega
           have HI' : Hid (∀ x ∈ A, 0 ≤ x ∧ x ≤ 2147483646) := HI.out.ba
           clear hv
           have hcv : (wr.setCell ⟨w.heap.size, k, none⟩ (.int .u64 v)).cell? ⟨w.heap.size, k, none⟩ = some (.int .u64 v) := by
             rw [hq2.cell (by rw [List.length_set]; omega), getD_set, if_pos (by omega)]
           have hsubb := nm_bd (-v)
           have hk0 : (0 : Int) ≤ (k : Int) := by omega
           have hkq : (k : Int) < (q : Int) := by omega
           have hkc : (k : Int) ≤ (n : Int) := by omega
           have hkc2 : (n : Int) ≤ (c : Int) := by omega
           go_wp2_with (first | (go_at_call 42; refine (fMul _ _ _ (by omega) (by omega) (by omega) (by omega)).mono ?_; rintro e w' ⟨he, hw⟩; have hw := hw.symm; subst hw; rw [← HV.out] at he; subst he) | fail)
           generalize hws : wr.setCell ⟨w.heap.size, k, none⟩ (.int .u64 v) = ws at *
           clear hws hbq hba hgr hcx hcq hfq hfa HI hb1 hb2 hbel1 hD hL
           go_region_with (first | (go_at_call 70; refine (fSub _ _ _ (by omega) (by omega) (by omega) (by omega)).mono ?_; rintro e w' ⟨rfl, rfl⟩) | (go_at_call 77; refine (cAddTimes _ _ _ _ _ _ _ _ _ _ _ (by exact ha2) (bd_u64 HI'.out) hD2.drew (by exact hne) (by omega) (by omega) (by omega) (by omega) (by omega)).mono ?_; rintro e w3 ⟨rfl, hb3, hg3⟩))
           all_goals
             have hq3 := (show Blk ws.drew _ _ from hq2).grown hg3 (by simpa using hne2)
             have hg4 := grown_trans (grown_drew hgr2) hg3
             clear hg3 hq2 ha2 hD2 hgr2
             go_wp2
             go_roundw
             case rel => exact ⟨k, _, _, by omega, by go_num, hI2, hq3, hb3, hg4⟩
             case measure => simp [intOf])
end Go.Proofs.YtoifklkdfgfbdagDoor

namespace Go.Proofs.YtoifklkdfgfbdagDoor
open Go.RowKit Crm

theorem tl_small {xs : List Int} {n p : Nat} (h : ∀ t, p ≤ t → t < n → xs.getD t 0 = 0) : tl xs n ≤ p := by
  rcases Nat.lt_or_ge p (tl xs n) with hlt | hge
  · have h1 := tl_top xs n (by omega)
    have h2 := tl_le xs n
    exact absurd (h (tl xs n - 1) (by omega) (by omega)) h1
  · exact hge

/-- What is left of a division when it is done. -/
theorem div_done {X D Q A : List Int} {n N M : Nat} (hX : X.length = n) (hN : N = tl (nz X) n) (hM : 0 < M) (hD : D.length = M) (h : DivI (nz X) D Q A N M (N - (M - 1)) 0) :
    Nml Q ∧ Nml (A.take (tl A N)) ∧ (A.take (tl A N)).length = tl A N ∧ tl A N < M ∧ ∀ t, nm (pc Q D t Q.length + (A.take (tl A N)).getD t 0) = nm (X.getD t 0) := by
  have hNn : N ≤ n := by rw [hN]; exact tl_le _ _
  have hla : A.length = n := by rw [h.la, nz_len, hX]
  have htl := tl_le A N
  have hlen : (A.take (tl A N)).length = tl A N := by simp; omega
  have hsm : tl A N ≤ M - 1 := tl_small fun t h1 h2 => h.hi t (by omega) h2
  refine ⟨⟨h.bq, fun hq => ?_⟩, ⟨fun x hx => h.ba x (List.mem_of_mem_take hx), fun hr => ?_⟩, hlen, by omega, fun t => ?_⟩
  · rw [h.lq] at hq ⊢; exact h.top hq
  · rw [hlen] at hr ⊢; rw [take_getD, if_pos (by omega)]; exact tl_top A N hr
  · rw [h.lq, ← nz_getD]
    have hr : (A.take (tl A N)).getD t 0 = if t < N then A.getD t 0 else 0 := by
      rw [take_getD]
      by_cases h1 : t < tl A N
      · rw [if_pos h1, if_pos (by omega)]
      · rw [if_neg h1]
        by_cases h2 : t < N
        · rw [if_pos h2, tl_above A N t (by omega) h2]
        · rw [if_neg h2]
    rw [hr]
    have hb := getD_bd' (nz_bd' X) t
    by_cases h2 : t < N
    · rw [if_pos h2, Int.add_comm, h.eq t h2, nm_small hb.1 hb.2]
    · rw [if_neg h2, Int.add_zero]
      have e1 : pc Q D t (N - (M - 1)) = 0 := by
        by_cases h3 : M ≤ N + 1
        · exact pc_far Q D t _ (by omega)
        · rw [show N - (M - 1) = 0 by omega]; rfl
      rw [e1]
      by_cases h3 : t < n
      · rw [tl_above (nz X) n t (by omega) h3]; rfl
      · rw [getD_big (show (nz X).length ≤ t by rw [nz_len]; omega)]; rfl

set_option maxRecDepth 100000 in
theorem cDivL (a : Option Addr) (n c : Nat) (b : Option Addr) (m d : Nat) (w : World) (hn : n ≤ 9223372036854775807) (hm : m ≤ 9223372036854775807) (h : 40 < n ∨ 40 < m) :
    Calls Tryd.prog 85 #[.slice a n c, .slice b m d] w fun e w' => e = .returned (.tuple #[.slice none 0 0, .slice none 0 0, .int .i64 2]) ∧ w' = w := by
  by_cases h1 : 40 < n
  · clear h
    go_enter Tryd.func85, Tryd.ntmps85
    go_wp2
    go_ret3
    exact ⟨rfl, rfl⟩
  · have h2 : 40 < m := by omega
    clear h
    go_enter Tryd.func85, Tryd.ntmps85
    go_wp2
    go_ret3
    exact ⟨rfl, rfl⟩

set_option maxHeartbeats 400000 in
set_option maxRecDepth 100000 in
theorem cDivZ (a : Option Addr) (n c : Nat) (b : Option Addr) (m d : Nat) (ys : List Int) (w : World) (g : Rd w b m d ys) (hn : n ≤ 40) (hm : m ≤ 40) (hy : tl (nz ys) m = 0) :
    Calls Tryd.prog 85 #[.slice a n c, .slice b m d] w fun e w' => e = .returned (.tuple #[.slice none 0 0, .slice none 0 0, .int .i64 4]) ∧ Below w.heap.size w w' := by
  have HM : Hid (tl (nz ys) m = 0) := hy
  clear hy
  go_enter Tryd.func85, Tryd.ntmps85
  go_wp2_with fail
  refine (cNormal _ _ _ _ _ g (by omega)).mono ?_
  rintro e w1 ⟨rfl, hr1, hb1⟩
  rw [HM.out]
  go_wp2
  go_ret3
  exact ⟨rfl, hb1⟩

set_option maxHeartbeats 1000000 in
set_option maxRecDepth 100000 in
theorem cDivOK (a : Option Addr) (n c : Nat) (xs : List Int) (b : Option Addr) (m d : Nat) (ys : List Int) (w : World) (h : Rd w a n c xs) (g : Rd w b m d ys) (hn : n ≤ 40) (hm : m ≤ 40) (hy : 0 < tl (nz ys) m) :
    Calls Tryd.prog 85 #[.slice a n c, .slice b m d] w fun e w' => ∃ Q R aq ar cq cr, e = .returned (.tuple #[.slice aq Q.length cq, .slice ar R.length cr, .int .i64 0]) ∧ Rd w' aq Q.length cq Q ∧ Rd w' ar R.length cr R ∧ Nml Q ∧ Nml R ∧
      R.length < (nrm ys).length ∧ Q.length ≤ 40 ∧ (∀ t, nm (pc Q (nrm ys) t Q.length + R.getD t 0) = nm (xs.getD t 0)) ∧ Below w.heap.size w w' := by
  have hn1 := tl_le (nz xs) n
  have hm1 := tl_le (nz ys) m
  have hlx := h.len
  have hly := g.len
  have hlny : (nrm ys).length = tl (nz ys) m := by rw [nrm_len, hly]
  have HT : Hid (0 < tl (nz xs) n → (nz xs).getD (tl (nz xs) n - 1) 0 ≠ 0) := tl_top (nz xs) n
  obtain ⟨N, HN⟩ : ∃ N, Hid (tl (nz xs) n = N) := ⟨_, rfl⟩
  obtain ⟨M, HM⟩ : ∃ M, Hid (tl (nz ys) m = M) := ⟨_, rfl⟩
  rw [HN.out] at hn1 HT
  rw [HM.out] at hm1 hy hlny
  have HD : Hid (nm ((nrm ys).getD (M - 1) 0) ≠ 0) := by
    have h1 := (nrm_Nml ys).top (by omega)
    have h2 := getD_bd' (nrm_Nml ys).bd (M - 1)
    unfold Hid
    rw [nm_small h2.1 h2.2, ← hlny]
    exact h1
  have hMb : ((M : Int) == 0) = false := by rw [beq_eq_false_iff_ne]; omega
  go_enter Tryd.func85, Tryd.ntmps85
  go_wp2_with fail
  refine (cNormal _ _ _ _ _ g (by omega)).mono ?_
  rintro e w1 ⟨rfl, hr1, hb1⟩
  rw [HM.out]
  go_wp2_with fail
  refine (cNormal _ _ _ _ _ (h.below hb1) (by omega)).mono ?_
  rintro e w2 ⟨rfl, hr2, hb2⟩
  rw [HN.out]
  have hb12 : Below w.heap.size w w2 := hb1.trans (hb2.mono hb1.size)
  have hsz := hb1.size
  have hlt := hr1.lt
  have r1 := (hr1.below hb2 hr1.lt).nrm hly (by omega)
  rw [HM.out] at r1
  go_wp2_with fail
  refine (cDivide _ _ _ _ _ _ _ _ _ hr2 (nz_bd' xs) (by rw [nz_len]; omega) (by omega) (by omega) r1 (fun x hx => by obtain rfl := Option.some.inj hx; simp only; omega) (by omega) (by omega) HD.out HT.out).mono ?_
  rintro e w3 ⟨Q, A, rfl, hI, hq, ha, hg⟩
  obtain ⟨d1, d2, d3, d4, d5⟩ := div_done hlx HN.out.symm hy hlny hI
  have hlq : Q.length = N - (M - 1) := hI.lq
  have hbel3 := below_grown hb12 hg hsz
  have R1 : Rd w3 (some ⟨w2.heap.size, 0, none⟩) Q.length Q.length Q := by
    have := hq.rd 0 Q.length Q.length (Nat.le_refl _) (by unfold maxLen; omega) (by omega) (bd_u64 d1.bd)
    rwa [List.drop_zero, List.take_of_length_le (by omega)] at this
  have R2 : Rd w3 (some ⟨w1.heap.size, 0, none⟩) (A.take (tl A N)).length n (A.take (tl A N)) := by
    have hla : A.length = n := by rw [hI.la, nz_len, hlx]
    have ht := tl_le A N
    have := ha.rd 0 (tl A N) n (by omega) (by unfold maxLen; omega) (by omega) (bd_u64 hI.ba)
    rw [List.drop_zero] at this
    rw [d3]
    exact this
  have H : Hid (Nml Q ∧ Nml (A.take (tl A N)) ∧ (A.take (tl A N)).length < (nrm ys).length ∧ Q.length ≤ 40 ∧ (∀ t, nm (pc Q (nrm ys) t Q.length + (A.take (tl A N)).getD t 0) = nm (xs.getD t 0))) :=
    ⟨d1, d2, by omega, by omega, d5⟩
  rw [← hlq]
  obtain ⟨T, hT⟩ : ∃ T, T = tl A N := ⟨_, rfl⟩
  obtain ⟨R, hR⟩ : ∃ R, R = A.take (tl A N) := ⟨_, rfl⟩
  rw [← hR] at R2 H d3
  rw [← hT] at d3 ⊢
  rw [← d3]
  clear hT hR
  clear d1 d2 d3 d4 d5 hI hq ha hg hr1 hr2 hb1 hb2 r1 hlq
  go_wp2
  go_ret3
  obtain ⟨k1, k2, k3, k4, k5⟩ := H.out
  exact ⟨Q, R, _, _, _, _, rfl, R1, R2, k1, k2, k3, k4, k5, hbel3⟩
end Go.Proofs.YtoifklkdfgfbdagDoor
