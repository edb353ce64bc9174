/- croftref.Mixed. · (*croftref.Store).sums. · croftref.NewStore; (*croftref.Store).Gen, Drop, Open. · croftref.NewStore; (*croftref.Store).Drop, Open. · (*croftref.Store).Combine, Multiply. · Two stores side by side: the program's and the document's, and a block that neither touches. · (*croftref.Store).Refresh. -/
import Derived.Test.YtljlioglpaogdacToDealtC
import Derived.Test.YtljlioglpaogdacToShortC
import Derived.Test.YtljlioglpaogdacStepC
import Derived.Test.YtljlioglpaogdacToKyM
import Derived.Test.YtljlioglpaogdacToRows2
import Derived.Test.YtljlioglpaogdacToOpenC
import Derived.Test.YtljlioglpaogdacToKeyV
import Derived.Test.YtljlioglpaogdacToLsV2
import Derived.Deep.RegionWith
import Derived.Test.YtljlioglpaogdacToFitC
namespace Go.Proofs.Ytljlioglpaogdac
set_option linter.unusedVariables false
set_option maxRecDepth 100000
set_option maxHeartbeats 8000000
section
open Crm Go.RowKit
theorem rMixed (a : Option Addr) (n c : Nat) (xs : List Int) (b : Option Addr) (d : Nat) (ys : List Int) (p q r : Int) (w : World) (h : Rd w a n c xs) (g : Rd w b n d ys) (hn : n ≤ 1000) (p0 : 0 ≤ p) (p1 : p ≤ 18446744073709551615) (q0 : 0 ≤ q) (q1 : q ≤ 18446744073709551615) (r0 : 0 ≤ r) (r1 : r ≤ 18446744073709551615) :
    Calls Try.prog 51 #[.slice a n c, .slice b n d, .int .u64 p, .int .u64 q, .int .u64 r] w fun e w' => ∃ v, e = .returned v ∧ w'.ownsRow w.heap.size 23 1 v n ((mxl xs ys p q r n).map (Value.int .u64)) ∧ Below w.heap.size w w' := by
  go_enter Try.func51, Try.ntmps51
  go_wp2
  go_loopw [11, 12] (fun v i wr => ∃ k : Nat, k ≤ n ∧ i = .int .i64 k ∧ wr.ownsRow w.heap.size 23 1 v k ((mxl xs ys p q r k).map (Value.int .u64)) ∧ Below w.heap.size w wr) (fun _ i _ => n - (intOf i).toNat)
  case atStart => exact ⟨0, Nat.zero_le _, rfl, World.ownsRow_nil _ _ _ _, Below.refl _ _⟩
  case round =>
    obtain ⟨k, hk, rfl, hown, hbel⟩ := hrel
    have hs1 := hbel.size
    by_cases hlt : k < n
    · obtain ⟨b1, o1, x, rfl, hb1, HX, hx0, hx1, hcx⟩ := (h.below hbel).one hlt
      obtain ⟨b2, o2, y, rfl, hb2, HY, hy0, hy1, hcy⟩ := (g.below hbel).one hlt
      have m1 := nm_bd (p * x)
      have m2 := nm_bd (q * y)
      have m3 := nm_bd (nm (p * x) + nm (q * y))
      have HV : Hid (mxl xs ys p q r k ++ [nm (nm (nm (p * x) + nm (q * y)) + r)] = mxl xs ys p q r (k + 1)) := by
        unfold Hid
        rw [mxl_one, ← HX.out, ← HY.out]
        exact mxl_snoc xs ys p q r k
      have hk0 : (0 : Int) ≤ (k : Int) := by omega
      have hkn : (k : Int) < (n : Int) := by omega
      have hown2 : wr.drew.ownsRow w.heap.size 23 1 u11 k ((mxl xs ys p q r k).map (Value.int .u64)) := hown
      have hbel2 := hbel.drew
      go_wp2
      go_region_law (first | (refine step_app1 Try.underlying24 info23 wr.drew rfl _ _ rfl w.heap.size _ _ _ rfl hown2 (nm (nm (nm (p * x) + nm (q * y)) + r)) rfl rfl (by omega) (by exact hs1) ?_; intro v' w3 hown3 hbel3; rw [HV.out] at hown3; have hbel4 := hbel2.trans hbel3) | (go_simp; go_at_call 9; refine (rMul _ _ _ (by omega) (by omega) (by omega) (by omega)).mono ?_; rintro en w' ⟨rfl, rfl⟩) | (go_simp; go_at_call 6; refine (rAdd _ _ _ (by omega) (by omega) (by omega) (by omega)).mono ?_; rintro en w' ⟨rfl, rfl⟩))
      all_goals
        clear hown hbel hown2 hbel2 hbel3
        go_wp2
        go_roundw
        case rel => exact ⟨k + 1, by omega, by go_num, hown3, hbel4⟩
        case measure => simp [intOf]; omega
    · have hkn : k = n := by omega
      subst hkn
      go_wp2
      go_ret
      exact ⟨_, rfl, hown, hbel⟩
/-- How many draws the first i parties take. -/
def kat (t : Nat) (sec : Bool) (i : Nat) : Nat := if sec then i * (t + 1) else i * t
theorem kat_le {t i n : Nat} {sec : Bool} (h : i ≤ n) : kat t sec i ≤ kat t sec n := by
  unfold kat
  split <;> exact Nat.mul_le_mul_right _ h
theorem kat_succ (t : Nat) (sec : Bool) (i : Nat) : kat t sec (i + 1) = kat t sec i + (if sec then 1 else 0) + t := by
  unfold kat
  cases sec <;> simp [Nat.add_mul] <;> omega
theorem kat_max {t n : Nat} (sec : Bool) (ht : t ≤ 4) (hn : n ≤ 9) : kat t sec n ≤ 45 := by
  unfold kat
  split
  · exact Nat.mul_le_mul hn (show t + 1 ≤ 5 by omega)
  · exact Nat.le_trans (Nat.mul_le_mul hn ht) (by omega)
theorem kdr_true (t : Nat) (ds : List Int) (i : Nat) : kdr t true ds i = ds.getD (kat t true i) 0 :: (ds.drop (kat t true i + 1)).take t := rfl
theorem kdr_fals (t : Nat) (ds : List Int) (i : Nat) : kdr t false ds i = 0 :: (ds.drop (kat t false i)).take t := rfl
theorem infoU1 : (Try.prog.info? 23).map (·.size) = some 1 := by kernel_rfl

theorem rSums (p : Nat) (G : Nat → Prop) (s : Kt) (a : Option Addr) (m c : Nat) (ds : List Int) (sec : Bool) (w : World) (h : Stx 55 w p G s) (r : Rd w a m c ds) (hm : m = kat s.t sec s.n) :
    Calls Try.prog 49 #[.pointer (some ⟨p, 0, none⟩), .slice a m c, .bool sec] w fun e w' => ∃ v, e = .returned v ∧ w'.ownsRow w.heap.size 23 1 v s.n ((ksm s.n s.t sec ds s.n).map (Value.int .u64)) ∧ Below w.heap.size w w' := by
  obtain ⟨i0, hi, hz0, hz1, hz2⟩ := info_parts info23
  have hw := h.wf
  have ht4 := hw.t4
  have hn9 := hw.n9
  have hnt := hw.nt
  have hcap := r.cap
  have hmax := r.max
  unfold maxLen at hmax
  have HM : Hid (m = kat s.t sec s.n) := hm
  have hm45 : m ≤ 45 := by rw [hm]; exact kat_max sec ht4 hn9
  clear hm
  obtain ⟨n, HN⟩ : ∃ n, Hid (s.n = n) := ⟨_, rfl⟩
  obtain ⟨t, HT⟩ : ∃ t, Hid (s.t = t) := ⟨_, rfl⟩
  rw [HN.out] at hn9 hnt HM ⊢
  rw [HT.out] at ht4 hnt HM ⊢
  have hc0 : ∀ w', Below w.heap.size w w' → w'.cell? ⟨p, 0, none⟩ = some (.int .i64 (n : Int)) ∧ w'.cell? ⟨p, 1, none⟩ = some (.int .i64 (t : Int)) ∧ p < w'.heap.size := fun w' hb => by
    obtain ⟨⟨b, V, hS, _⟩, _⟩ := h.same hb
    have := hS.four
    rw [HN.out, HT.out] at this
    exact ⟨this.1, this.2.1, hS.lt⟩
  have HC : Hid (∀ w', Below w.heap.size w w' → w'.cell? ⟨p, 0, none⟩ = some (.int .i64 (n : Int)) ∧ w'.cell? ⟨p, 1, none⟩ = some (.int .i64 (t : Int)) ∧ p < w'.heap.size) := hc0
  clear hc0 h hw
  obtain ⟨c0, c1, hpl⟩ := HC.out w (Below.refl _ _)
  go_enter Try.func49, Try.ntmps49
  go_wp2_with (at_make; refine wpList_make_full _ rfl _ _ 24 rfl w.heap.size 23 i0 (.int .u64 0) 1 Try.underlying24 hi hz0 hz1 .i64 .i64 _ _ n rfl rfl rfl rfl (by rw [hz2]; omega) (by unfold maxLen; omega) (Nat.le_refl _) ?_; intro w2 hown hgrow)
  have ho2 : w2.ownsRow w.heap.size 23 1 (.slice (some ⟨w.heap.size, 0, none⟩) n n) n ((ksm n t sec ds 0).map (Value.int .u64)) := (Blk.made hown).own (by simp) (Nat.le_refl _) (by omega)
  have hb2 : Below w.heap.size w w2 := (Below.refl _ _).grown hgrow (Nat.le_refl _) (by simp)
  clear hown hgrow
  go_loopw [7, 8, 9] (fun v q j wr => ∃ i A : Nat, i ≤ n ∧ j = .int .i64 i ∧ q = .int .i64 A ∧ Hid (kat t sec i = A) ∧ A ≤ 45 ∧ wr.ownsRow w.heap.size 23 1 v n ((ksm n t sec ds i).map (Value.int .u64)) ∧ Below w.heap.size w wr) (fun _ _ j _ => n - (intOf j).toNat)
  case atStart => exact ⟨0, 0, Nat.zero_le _, rfl, rfl, by unfold Hid kat; split <;> simp, by omega, ho2, hb2⟩
  case round =>
    clear ho2 hb2 c0 c1 hpl
    obtain ⟨i, A, hin, rfl, rfl, HA, hA45, hown, hbel⟩ := hrel
    obtain ⟨c0, c1, hpl⟩ := HC.out wr hbel
    have hs1 := hbel.size
    by_cases hlt : i < n
    · have hlti : (i : Int) < (n : Int) := by omega
      have hAm : kat t sec (i + 1) ≤ m := by rw [HM.out]; exact kat_le (by omega)
      have HNX := kat_succ t sec i
      rw [HNX, HA.out] at hAm
      have rr := r.below hbel
      have HD2 : Hid (mxl (ksm n t sec ds i) (dl (kdr t sec ds i) n) 1 1 0 n = ksm n t sec ds (i + 1)) := rfl
      obtain ⟨u, c', rfl, hru, _⟩ := Rd.own hown (bd_u64 (ksm_ksh n t sec ds i).bd)
      cases sec with
      | true =>
        simp only [if_true] at hAm HNX
        obtain ⟨bb, o, x, rfl, hbb, HX, hx0, hx1, hcx⟩ := rr.one (show A < m by omega)
        have HKD : Hid (kdr t true ds i = x :: (ds.drop (A + 1)).take t) := by unfold Hid; rw [kdr_true, HA.out, HX.out]
        have hrs := rr.sub (lo := A + 1) (k := t) (by omega)
        obtain ⟨sa, HSA⟩ : ∃ sa, Hid (subA (some ⟨bb, o, none⟩) c (A + 1) = sa) := ⟨_, rfl⟩
        have hsl : ∀ W, (Instr.sliceAt 24 (.slice (some ⟨bb, o, none⟩) m c) (some (.int .i64 ((A : Int) + 1))) (some (.int .i64 ((A : Int) + 1 + (t : Int)))) none).run Try.prog W = .ok (.slice sa t (c - (A + 1))) W := fun W => by
          rw [← HSA.out]
          exact run_sub Try.underlying24 infoU1 _ m c (A + 1) t (by push_cast; rfl) (by push_cast; rfl) (by omega) W
        rw [HSA.out] at hrs
        have hw1 : IntKind.i64.wrap ((A : Int) + 1 + (t : Int)) = (A : Int) + 1 + (t : Int) := by rw [IntKind.wrap_i64]; omega
        have HNXT : Hid (kat t true (i + 1) = A + 1 + t) := by unfold Hid; rw [HNX, HA.out]
        have hAi : (A : Int) < (m : Int) := by omega
        have hA0 : (0 : Int) ≤ (A : Int) := by omega
        have HRS : Hid (∀ w', Below wr.heap.size wr w' → Rd w' sa t (c - (A + 1)) ((ds.drop (A + 1)).take t)) := fun w' hb => hrs.below hb
        clear rr hrs
        go_wp2
        go_region_with (go_at_call 64; refine (rDealt x _ _ _ ((ds.drop (A + 1)).take t) n _ (HRS.out _ (Below.refl _ _).drew) hx0 hx1 ht4 hn9).mono ?_; rintro e w3 ⟨a3, c3, rfl, hr3, hb3⟩; rw [← HKD.out] at hr3)
        all_goals
          have hb4 : Below wr.heap.size wr w3 := ((Below.refl _ _).drew).trans (hb3.mono (Nat.le_refl _))
          have hru3 := hru.below hb4
          have hbel3 := hbel.trans (hb4.mono hs1)
          obtain ⟨d0, d1, hpl3⟩ := HC.out w3 hbel3
          clear hb3 hb4 hown
          go_wp2_with fail
          refine (rMixed _ _ _ _ _ _ _ _ _ _ _ hru3 hr3 (by omega) (by omega) (by omega) (by omega) (by omega) (by omega) (by omega)).mono ?_
          rintro e w5 ⟨v5, rfl, ho5, hb5⟩
          rw [HD2.out] at ho5
          have ho6 := own_baseV ho5 hbel3.size
          have hbel5 := hbel3.trans (hb5.mono hbel3.size)
          clear ho5 hb5 d0 d1 hpl3
          go_wp2
          go_roundw
          case rel => exact ⟨i + 1, A + 1 + t, by omega, by go_num, by go_num, HNXT, by omega, ho6, hbel5⟩
          case measure => simp [intOf]; omega
      | false =>
        simp only [Bool.false_eq_true, if_false, Nat.add_zero] at hAm HNX
        have HKD : Hid (kdr t false ds i = 0 :: (ds.drop A).take t) := by unfold Hid; rw [kdr_fals, HA.out]
        have hrs := rr.sub (lo := A) (k := t) (by omega)
        obtain ⟨sa, HSA⟩ : ∃ sa, Hid (subA a c A = sa) := ⟨_, rfl⟩
        have hsl : ∀ W, (Instr.sliceAt 24 (.slice a m c) (some (.int .i64 (A : Int))) (some (.int .i64 ((A : Int) + (t : Int)))) none).run Try.prog W = .ok (.slice sa t (c - A)) W := fun W => by
          rw [← HSA.out]
          exact run_sub Try.underlying24 infoU1 _ m c A t rfl rfl (by omega) W
        rw [HSA.out] at hrs
        have hw1 : IntKind.i64.wrap ((A : Int) + (t : Int)) = (A : Int) + (t : Int) := by rw [IntKind.wrap_i64]; omega
        have HNXT : Hid (kat t false (i + 1) = A + t) := by unfold Hid; rw [HNX, HA.out]
        have HRS : Hid (∀ w', Below wr.heap.size wr w' → Rd w' sa t (c - A) ((ds.drop A).take t)) := fun w' hb => hrs.below hb
        clear rr hrs
        go_wp2
        go_region_with (go_at_call 64; refine (rDealt 0 _ _ _ ((ds.drop A).take t) n _ (HRS.out _ (Below.refl _ _).drew) (by omega) (by omega) ht4 hn9).mono ?_; rintro e w3 ⟨a3, c3, rfl, hr3, hb3⟩; rw [← HKD.out] at hr3)
        all_goals
          have hb4 : Below wr.heap.size wr w3 := ((Below.refl _ _).drew).trans (hb3.mono (Nat.le_refl _))
          have hru3 := hru.below hb4
          have hbel3 := hbel.trans (hb4.mono hs1)
          obtain ⟨d0, d1, hpl3⟩ := HC.out w3 hbel3
          clear hb3 hb4 hown
          go_wp2_with fail
          refine (rMixed _ _ _ _ _ _ _ _ _ _ _ hru3 hr3 (by omega) (by omega) (by omega) (by omega) (by omega) (by omega) (by omega)).mono ?_
          rintro e w5 ⟨v5, rfl, ho5, hb5⟩
          rw [HD2.out] at ho5
          have ho6 := own_baseV ho5 hbel3.size
          have hbel5 := hbel3.trans (hb5.mono hbel3.size)
          clear ho5 hb5 d0 d1 hpl3
          go_wp2
          go_roundw
          case rel => exact ⟨i + 1, A + t, by omega, by go_num, by go_num, HNXT, by omega, ho6, hbel5⟩
          case measure => simp [intOf]; omega
    · obtain rfl : i = n := by omega
      have hnn : ¬ ((i : Int) < (i : Int)) := by omega
      go_wp2
      go_ret
      exact ⟨_, rfl, hown, hbel⟩
theorem hsl_one (s : Kt) (x : Int) : hsl s [x] 1 = (s.f x).isSome := by simp [hsl]
theorem hsl_two (s : Kt) (x y : Int) : hsl s [x, y] 2 = ((s.f x).isSome && (s.f y).isSome) := by simp [hsl]

theorem rGen (p : Nat) (G : Nat → Prop) (s : Kt) (a : Option Addr) (m c : Nat) (ds : List Int) (w : World) (h : Stx 55 w p G s) (r : Rd w a m c ds) (hlast : s.last ≤ 1000000) :
    Calls Try.prog 19 #[.pointer (some ⟨p, 0, none⟩), .slice a m c] w (Kde 55 p G (kgen s ds) w) := by
  have hw := h.wf
  have ht4 := hw.t4
  have hn9 := hw.n9
  have hnt := hw.nt
  have hcap := r.cap
  have hmax := r.max
  have hlen := r.len
  unfold maxLen at hmax
  have HH : Hid (Stx 55 w p G s) := h
  obtain ⟨⟨b, V, hS, _⟩, hGl⟩ := h
  obtain ⟨c0, c1, c2, c3⟩ := hS.four
  have hpl := hS.lt
  clear hS hw
  obtain ⟨n, HN⟩ : ∃ n, Hid (s.n = n) := ⟨_, rfl⟩
  obtain ⟨t, HT⟩ : ∃ t, Hid (s.t = t) := ⟨_, rfl⟩
  rw [HN.out] at c0 hn9 hnt
  rw [HT.out] at c1 ht4 hnt
  obtain ⟨T1, HT1⟩ : ∃ T1, Hid (t + 1 = T1) := ⟨_, rfl⟩
  have hT1 : (t : Int) + 1 = (T1 : Int) := by rw [← HT1.out]; omega
  obtain ⟨M, HM⟩ : ∃ M, Hid (n * T1 = M) := ⟨_, rfl⟩
  have hMI : (n : Int) * (T1 : Int) = (M : Int) := by rw [← HM.out]; push_cast; rfl
  have hM45 : M ≤ 45 := by rw [← HM.out]; exact Nat.mul_le_mul hn9 (show T1 ≤ 5 by rw [← HT1.out]; omega)
  have hw1 : IntKind.i64.wrap ((T1 : Int)) = (T1 : Int) := by rw [IntKind.wrap_i64]; rw [← hT1]; omega
  have hw2 : IntKind.i64.wrap ((M : Int)) = (M : Int) := by rw [IntKind.wrap_i64]; omega
  have HMK : Hid (s.n * (s.t + 1) = M) := by unfold Hid; rw [HN.out, HT.out, HT1.out, HM.out]
  by_cases hm : m = M
  · subst hm
    have HG : Hid (kgen s ds = kadd s (ksm s.n s.t true ds s.n)) := if_pos (by rw [hlen, HMK.out])
    have HK : Hid (m = kat s.t true s.n) := HMK.out.symm
    have hmm : ((m : Int) != (m : Int)) = false := by simp
    go_enter Try.func19, Try.ntmps19
    go_wp2
    go_quiet (fail)
    have hb1 : Below w.heap.size w (w.drewN nq) := drewN_below (Below.refl _ _) nq
    generalize w.drewN nq = w1 at *
    have h1 := HH.out.same hb1
    clear c0 c1 c2 c3 hpl
    go_wp2_with fail
    refine (rSums p G s a m c ds true _ h1 (r.below hb1) HK.out).mono ?_
    rintro e w2 ⟨v, rfl, ho2, hb2⟩
    obtain ⟨a2, c2, rfl, hr2, hx2⟩ := Rd.own ho2 (bd_u64 (ksm_bd _ _ _ _ _))
    have hG2 := gnx_new (G := G) hr2 (by rw [HN.out]; omega) hx2
    have h2 := h1.below hb2
    clear ho2 hx2
    go_wp2_with fail
    refine (rKeep p _ s a2 c2 _ _ h2 hr2 (ksm_bd _ _ _ _ _) hG2 hlast).mono ?_
    intro e w3 hK
    have HR : Hid (Kde 55 p G (kgen s ds) w e w3) := by unfold Hid; rw [HG.out]; exact (hK.behind hb2 h1.2).after hb1 hGl
    obtain ⟨rfl, _, _⟩ := hK
    clear h2 hr2 hG2
    rw [← HG.out]
    go_wp2
    go_ret2
    rw [HG.out]
    exact HG.out ▸ HR.out
  · have HG : Hid (kgen s ds = (0, 1, s)) := if_neg (by rw [hlen, HMK.out]; exact hm)
    have hmm : ((m : Int) != (M : Int)) = true := by rw [bne_iff_ne]; omega
    clear hm
    go_enter Try.func19, Try.ntmps19
    go_wp2
    go_quiet (fail)
    have hb1 : Below w.heap.size w (w.drewN nq) := drewN_below (Below.refl _ _) nq
    generalize w.drewN nq = w1 at *
    go_wp2
    go_ret2
    rw [HG.out]
    exact ⟨rfl, HH.out.below hb1, Tch.of_below hb1⟩
theorem sto_new (w : World) {n t : Nat} (ht : t ≤ 4) (hn : n ≤ 9) (h : 2 * t + 1 ≤ n) (TY : TypeId) {A : World} (hA : A = (w.alloc (.map #[] 0)).alloc (.cells #[.int .i64 n, .int .i64 t, .int .i64 0, .map (some w.heap.size)] TY)) :
    Stx TY A (w.heap.size + 1) (fun i => w.heap.size ≤ i ∧ i < w.heap.size + 2) (k0 n t) ∧ Below w.heap.size w A := by
  subst hA
  have h1 := MapI.made w
  have e1 : (w.alloc (.map #[] 0)).heap.size = w.heap.size + 1 := by simp
  have hb : Below (w.alloc (.map #[] 0)).heap.size (w.alloc (.map #[] 0)) ((w.alloc (.map #[] 0)).alloc (.cells #[.int .i64 n, .int .i64 t, .int .i64 0, .map (some w.heap.size)] TY)) := (Below.refl _ _).alloc (Nat.le_refl _) _
  have h2 := heap_alloc_new (w.alloc (.map #[] 0)) (.cells #[.int .i64 n, .int .i64 t, .int .i64 0, .map (some w.heap.size)] TY)
  rw [e1] at h2
  refine ⟨⟨⟨w.heap.size, fun _ => none, ⟨h2, h1.below hb h1.lt, fun i => .inl ⟨rfl, rfl⟩, k0_wf ht hn h⟩, fun i hi => ?_⟩, fun i hi => by simp; omega⟩, ((Below.refl _ _).alloc (Nat.le_refl _) _).alloc (by simp) _⟩
  rcases hi with rfl | rfl | ⟨_, _, _, _, e, _⟩
  · omega
  · omega
  · cases e

theorem rNewStore (n t : Nat) (w : World) (ht : t ≤ 4) (hn : n ≤ 9) (h : 2 * t + 1 ≤ n) :
    Calls Try.prog 17 #[.int .i64 n, .int .i64 t] w fun e w' => ∃ p G, e = .returned (.pointer (some ⟨p, 0, none⟩)) ∧ Stx 55 w' p G (k0 n t) ∧ (∀ i, G i → w.heap.size ≤ i) ∧ Below w.heap.size w w' := by
  have hmm := @run_makeMap Try.prog
  obtain ⟨hX, hB⟩ := sto_new w ht hn h 55 rfl
  have HX : Hid (Stx _ _ _ _ _) := hX
  have HB : Hid (Below _ _ _) := hB
  clear hX hB
  go_enter Try.func17, Try.ntmps17
  go_wp2
  go_ret
  exact ⟨_, _, rfl, HX.out, fun i hi => hi.1, HB.out⟩

theorem rDrop (p : Nat) (G : Nat → Prop) (s : Kt) (x : Int) (w : World) (h : Stx 55 w p G s) (hx0 : -9223372036854775808 ≤ x) (hx1 : x ≤ 9223372036854775807) :
    Calls Try.prog 28 #[.pointer (some ⟨p, 0, none⟩), .int .i64 x] w (Kte 55 p G (kdrp s x) w) := by
  have hI := rdI_of1 w (x := x) ⟨hx0, hx1⟩
  have hb0 : Below w.heap.size w (w.alloc (.cells #[.int .i64 x] 3)) := (Below.refl _ _).alloc (Nat.le_refl _) _
  have hGl := h.2
  have h0 := h.same hb0
  go_enter Try.func28, Try.ntmps28
  go_wp2_with fail
  generalize w.alloc (.cells #[.int .i64 x] 3) = w0 at *
  refine (rHas p G s _ _ _ _ _ h0 hI).mono ?_
  rintro e w1 ⟨rfl, hb1⟩
  rw [hsl_one]
  have hbw := hb0.trans (hb1.mono hb0.size)
  have h1 := h.same hbw
  clear h0 hI hb0 hb1
  cases hf : s.f x with
  | none =>
    have HE : Hid (kdrp s x = (4, s)) := by unfold Hid kdrp; rw [hf]
    simp only [Option.isSome_none]
    clear hf
    go_wp2
    go_ret
    rw [HE.out]
    exact ⟨rfl, h.below hbw, Tch.of_below hbw⟩
  | some l =>
    have HE : Hid (kdrp s x = (0, kout s x)) := by unfold Hid kdrp; rw [hf]
    have HF : Hid (s.f x = some l) := hf
    simp only [Option.isSome_some]
    obtain ⟨⟨b, V, hS, hF⟩, hGl1⟩ := h1
    obtain ⟨c0, c1, c2, c3⟩ := hS.four
    have hpl := hS.lt
    have hM := hS.map
    clear hf
    go_wp2_with (at_delete; refine wpList_delK _ rfl _ _ 53 rfl 24 Try.underlying53 b s.cnt V rfl hM x rfl ⟨hx0, hx1⟩ ?_; intro w2 hM2 hgr2)
    have hk : ∀ i, i < w1.heap.size → i ≠ b → w2.heap[i]? = w1.heap[i]? := fun i hi hne => hgr2.block i hi (by simpa using hne)
    have HP := hS.out HF.out hM2 hk
    have HR : Hid (Kte 55 p G (0, kout s x) w1 (.returned (.int .i64 0)) w2) := by
      refine ⟨rfl, ⟨⟨b, _, HP, fun i hi => .inl ?_⟩, Gnx.lt hGl1 hgr2.size⟩, ⟨hgr2.os, hgr2.tape, hgr2.output, hgr2.size, fun i hi hn => hk i hi (fun e => hn (hF _ (.inr (.inl e))))⟩⟩
      rcases hi with rfl | rfl | ⟨hh, a', m, c', e, rfl⟩
      · exact hF _ (.inl rfl)
      · exact hF _ (.inr (.inl rfl))
      · unfold mset at e
        split at e
        · cases e
        · exact hF _ (.inr (.inr ⟨hh, a', m, c', e, rfl⟩))
    clear hM hM2 hgr2 hk HP c0 c1 c2 c3 hpl
    go_wp2
    go_ret
    rw [HE.out]
    exact HR.out.after hbw hGl

theorem rOpenK (p : Nat) (G : Nat → Prop) (s : Kt) (x : Int) (w : World) (h : Stx 55 w p G s) (hx0 : -9223372036854775808 ≤ x) (hx1 : x ≤ 9223372036854775807) :
    Calls Try.prog 30 #[.pointer (some ⟨p, 0, none⟩), .int .i64 x] w fun e w' => ∃ y r, e = .returned (.tuple #[.int .u64 y, .int .i64 r]) ∧ Kop s x y r ∧ Below w.heap.size w w' := by
  have hI := rdI_of1 w (x := x) ⟨hx0, hx1⟩
  have hb0 : Below w.heap.size w (w.alloc (.cells #[.int .i64 x] 3)) := (Below.refl _ _).alloc (Nat.le_refl _) _
  have h0 := h.same hb0
  have hn9 := h.wf.n9
  go_enter Try.func30, Try.ntmps30
  go_wp2_with fail
  generalize w.alloc (.cells #[.int .i64 x] 3) = w0 at *
  refine (rHas p G s _ _ _ _ _ h0 hI).mono ?_
  rintro e w1 ⟨rfl, hb1⟩
  rw [hsl_one]
  have hbw := hb0.trans (hb1.mono hb0.size)
  clear h0 hI hb0 hb1
  cases hf : s.f x with
  | none =>
    have HE : Hid (Kop s x 0 4) := .inl ⟨hf, rfl, rfl⟩
    simp only [Option.isSome_none]
    clear hf
    go_wp2
    go_ret2
    exact ⟨0, 4, rfl, HE.out, hbw⟩
  | some l =>
    have HF : Hid (s.f x = some l) := hf
    simp only [Option.isSome_some]
    clear hf
    obtain ⟨n, HN⟩ : ∃ n, Hid (s.n = n) := ⟨_, rfl⟩
    rw [HN.out] at hn9
    go_wp2
    obtain ⟨hs1⟩ : Nonempty (w.heap.size ≤ w1.heap.size) := ⟨hbw.size⟩
    go_loopw [6, 7] (fun v i wr => ∃ k : Nat, k ≤ n ∧ i = .int .i64 k ∧ wr.ownsRow w1.heap.size 88 2 v k (shc (shl l k)) ∧ Below w1.heap.size w1 wr) (fun _ i _ => n - (intOf i).toNat)
    case atStart => exact ⟨0, Nat.zero_le _, rfl, World.ownsRow_nil _ _ _ _, Below.refl _ _⟩
    case round =>
      obtain ⟨k, hk, rfl, hown, hbel⟩ := hrel
      have hbw2 := hbw.trans (hbel.mono hs1)
      obtain ⟨⟨b, V, hS, _⟩, _⟩ := h.same hbw2
      obtain ⟨c0, c1, c2, c3⟩ := hS.four
      rw [HN.out] at c0
      have hpl := hS.lt
      have hM := hS.map
      have hs2 := hbel.size
      by_cases hlt : k < n
      · obtain ⟨a, c, hV, hr⟩ : ∃ a c, V x = some (.slice a n c) ∧ Rd wr a n c l := by
          rcases hS.val x with e | ⟨l', a, c, e1, e2, e3⟩
          · have := HF.out; rw [e.1] at this; cases this
          · have e4 := HF.out
            rw [e1] at e4
            obtain rfl := Option.some.inj e4
            rw [HN.out] at e2 e3
            exact ⟨a, c, e2, e3⟩
        obtain ⟨bb, o, y, rfl, hbb, HY, hy0, hy1, hcy⟩ := hr.one hlt
        have HV : Hid ((V x).getD (.slice none 0 0) = .slice (some ⟨bb, o, none⟩) n c) := by unfold Hid; rw [hV]; rfl
        have HSn : Hid (shl l k ++ [((k : Int) + 1, y)] = shl l (k + 1)) := shl_snoc l k HY.out
        have hlti : (k : Int) < (n : Int) := by omega
        have hcr := hr.cap
        have hcm := hr.max
        unfold maxLen at hcm
        clear hS hV hr
        go_wp2_with (first | (at_lookup; refine wpList_lookV _ rfl _ _ 53 rfl 24 Try.underlying53 _ (zeroL _) b s.cnt V rfl hM x rfl ⟨hx0, hx1⟩ ?_; rw [HV.out]) | (at_builtin; refine wpList_appS Try.underlying86 infoSh _ rfl _ _ rfl w1.heap.size _ _ _ rfl hown _ _ rfl (by omega) (by omega) ?_; intro v' w7 hown7 hbel7; rw [HSn.out] at hown7; have hbel8 := hbel.trans hbel7; clear hbel7))
        go_roundw
        case rel => exact ⟨k + 1, by omega, by go_num, hown7, hbel8⟩
        case measure => simp [intOf]; omega
      · obtain rfl : k = n := by omega
        have hll := h.wf.key x l HF.out
        obtain ⟨b', d', rfl, hr⟩ := RdS.own hown (shl_len _ _) (fun i hi => by
          have := getD_bd' hll.2.2 i
          rw [shl_getD l hi]
          exact ⟨by simp only; omega, by simp only; omega⟩)
        have hkk : ¬ ((k : Int) < (k : Int)) := by omega
        obtain ⟨t, HT⟩ : ∃ t, Hid (s.t = t) := ⟨_, rfl⟩
        rw [HT.out] at c1
        clear hown hll hM hS
        go_wp2_with fail
        refine (rOpenS _ _ _ _ _ _ hr).mono ?_
        rintro e w5 ⟨y, q, rfl, hO, hb5⟩
        have HO : Hid (Kop s x y q) := .inr ⟨l, HF.out, by rw [HN.out, HT.out]; exact hO⟩
        have hbw5 := hbw2.trans (hb5.mono hbw2.size)
        clear hr hb5 hO
        go_wp2
        go_ret2
        exact ⟨y, q, rfl, HO.out, hbw5⟩
/-- What a handle's look-up tells. -/
theorem Sto.slice {TY : TypeId} {w : World} {p b : Nat} {V : Int → Option Value} {s : Kt} (h : Sto TY w p b V s) {x : Int} {l : List Int} (hf : s.f x = some l) : ∃ a c, V x = some (Value.slice a s.n c) ∧ Rd w a s.n c l := by
  rcases h.val x with e | ⟨l', a, c, e1, e2, e3⟩
  · rw [e.1] at hf; cases hf
  · rw [e1] at hf
    obtain rfl := Option.some.inj hf
    exact ⟨a, c, e2, e3⟩
theorem look_at {w : World} {b q : Nat} {V : Int → Option Value} {x : Int} {v : Value} (h : MapI w b q V) (hv : V x = some v) (hx : i64r x) : (Instr.lookup 53 (.map (some b)) (.int .i64 x) false).run Try.prog w = .ok v w := by
  have := (h.look Try.underlying53 (zeroL _) hx).2
  rw [hv] at this
  exact this

theorem rCombine (p : Nat) (G : Nat → Prop) (s : Kt) (g x u v z : Int) (w : World) (h : Stx 55 w p G s) (hg : i64r g) (hx : i64r x) (hu0 : 0 ≤ u) (hu1 : u ≤ 18446744073709551615) (hv0 : 0 ≤ v) (hv1 : v ≤ 18446744073709551615) (hz0 : 0 ≤ z) (hz1 : z ≤ 18446744073709551615) (hlast : s.last ≤ 1000000) :
    Calls Try.prog 23 #[.pointer (some ⟨p, 0, none⟩), .int .i64 g, .int .i64 x, .int .u64 u, .int .u64 v, .int .u64 z] w (Kde 55 p G (kmix s g x u v z) w) := by
  have hI := rdI_of2 w (x := g) (y := x) hg hx
  have hb0 : Below w.heap.size w (w.alloc (.cells #[.int .i64 g, .int .i64 x] 3)) := (Below.refl _ _).alloc (Nat.le_refl _) _
  have h0 := h.same hb0
  have hn9 := h.wf.n9
  have hnt := h.wf.nt
  have hGl := h.2
  go_enter Try.func23, Try.ntmps23
  go_wp2_with fail
  generalize w.alloc (.cells #[.int .i64 g, .int .i64 x] 3) = w0 at *
  refine (rHas p G s _ _ _ _ _ h0 hI).mono ?_
  rintro e w1 ⟨rfl, hb1⟩
  rw [hsl_two]
  have hbw := hb0.trans (hb1.mono hb0.size)
  clear h0 hI hb0 hb1
  cases hfg : s.f g with
  | none =>
    have HE : Hid (kmix s g x u v z = (0, 4, s)) := by unfold Hid kmix; rw [hfg]
    simp only [Option.isSome_none, Bool.false_and]
    clear hfg
    go_wp2
    go_ret2
    rw [HE.out]
    exact ⟨rfl, h.below hbw, Tch.of_below hbw⟩
  | some l =>
    cases hfx : s.f x with
    | none =>
      have HE : Hid (kmix s g x u v z = (0, 4, s)) := by unfold Hid kmix; rw [hfg, hfx]
      simp only [Option.isSome_none, Bool.and_false]
      clear hfg hfx
      go_wp2
      go_ret2
      rw [HE.out]
      exact ⟨rfl, h.below hbw, Tch.of_below hbw⟩
    | some m =>
      have HE : Hid (kmix s g x u v z = kadd s (mxl l m u v z s.n)) := by unfold Hid kmix; rw [hfg, hfx]
      simp only [Option.isSome_some, Bool.and_self]
      have h1 := h.same hbw
      have H1 : Hid (Stx 55 w1.drew p G s) := h1.same ((Below.refl _ _).drew)
      obtain ⟨⟨b, V, hS, _⟩, _⟩ := h1
      obtain ⟨ag, cg, hVg, hrg⟩ := hS.slice hfg
      obtain ⟨ax, cx, hVx, hrx⟩ := hS.slice hfx
      obtain ⟨c0, c1, c2, c3⟩ := hS.four
      have hpl := hS.lt
      have hlg := look_at (show MapI w1.drew b s.cnt V from hS.map) hVg hg
      have hlx := look_at (show MapI w1.drew b s.cnt V from hS.map) hVx hx
      have hrg1 := hrg.drew
      have hrx1 := hrx.drew
      have hbd : Below w.heap.size w w1.drew := hbw.drew
      have HNP : Hid (0 < s.n) := by unfold Hid; omega
      obtain ⟨n, HN⟩ : ∃ n, Hid (s.n = n) := ⟨_, rfl⟩
      have hn9' : s.n ≤ 1000 := by omega
      clear hS hVg hVx hrg hrx hfg hfx
      go_wp2
      go_region_with (first | (go_at_call 51; refine (rMixed _ _ _ _ _ _ _ _ _ _ _ hrg1 hrx1 hn9' hu0 hu1 hv0 hv1 hz0 hz1).mono ?_; rintro e w3 ⟨v3, rfl, ho3, hb3⟩; obtain ⟨a3, k3, rfl, hr3, hx3⟩ := Rd.own ho3 (bd_u64 (mxl_bd _ _ _ _ _ _)); have hG3 := gnx_new (G := G) hr3 HNP.out hx3; have h3 := H1.out.below hb3) | (go_at_call 48; refine (rKeep p _ s _ _ _ _ h3 hr3 (mxl_bd _ _ _ _ _ _) hG3 hlast).mono ?_; intro e w4 hK; have HR : Hid (Kde 55 p G (kadd s (mxl l m u v z s.n)) w e w4) := ((hK.behind hb3 H1.out.2).after hbd hGl); obtain ⟨rfl, _, _⟩ := hK))
      all_goals
        clear h3 hr3 hG3 ho3 hb3
        go_wp2
        go_ret2
        rw [HE.out]
        exact HR.out
/-- The program's store at pk has state s', the document's at ps has state s; block gc holds o. -/
def Jnt (w0 : World) (pk ps : Nat) (s s' : Kt) (gc : Nat) (o : Obj) (wr : World) : Prop :=
  ∃ Gk Gs : Nat → Prop, Kst wr pk Gk s' ∧ Stx 55 wr ps Gs s ∧ (∀ i, Gk i → ¬ Gs i) ∧ (∀ i, Gk i → w0.heap.size ≤ i) ∧ (∀ i, Gs i → w0.heap.size ≤ i) ∧ (wr.heap[gc]? = some o ∧ ¬ Gk gc ∧ ¬ Gs gc) ∧ Below w0.heap.size w0 wr
/-- .. and no such block. -/
def Jn0 (w0 : World) (pk ps : Nat) (s : Kt) (wr : World) : Prop :=
  ∃ Gk Gs : Nat → Prop, Kst wr pk Gk s ∧ Stx 55 wr ps Gs s ∧ (∀ i, Gk i → ¬ Gs i) ∧ (∀ i, Gk i → w0.heap.size ≤ i) ∧ (∀ i, Gs i → w0.heap.size ≤ i) ∧ Below w0.heap.size w0 wr
theorem Jnt.off {w0 wr : World} {pk ps gc : Nat} {s : Kt} {o : Obj} (h : Jnt w0 pk ps s s gc o wr) : Jn0 w0 pk ps s wr := by
  obtain ⟨Gk, Gs, h1, h2, h3, h4, h5, _, h7⟩ := h
  exact ⟨Gk, Gs, h1, h2, h3, h4, h5, h7⟩
theorem Jn0.bel {w0 wr : World} {pk ps : Nat} {s : Kt} (h : Jn0 w0 pk ps s wr) : Below w0.heap.size w0 wr := by
  obtain ⟨_, _, _, _, _, _, _, h7⟩ := h
  exact h7
theorem Jnt.bel {w0 wr : World} {pk ps gc : Nat} {s s' : Kt} {o : Obj} (h : Jnt w0 pk ps s s' gc o wr) : Below w0.heap.size w0 wr := by
  obtain ⟨_, _, _, _, _, _, _, _, h7⟩ := h
  exact h7
theorem Jnt.box {w0 wr : World} {pk ps gc : Nat} {s s' : Kt} {o : Obj} (h : Jnt w0 pk ps s s' gc o wr) : wr.heap[gc]? = some o := by
  obtain ⟨_, _, _, _, _, _, _, h6, _⟩ := h
  exact h6.1
theorem Jn0.wf {w0 wr : World} {pk ps : Nat} {s : Kt} (h : Jn0 w0 pk ps s wr) : Kwf s := by
  obtain ⟨_, _, h1, _⟩ := h
  exact h1.wf
/-- A block is laid. -/
theorem Jn0.on {w0 wr : World} {pk ps : Nat} {s : Kt} (h : Jn0 w0 pk ps s wr) (o : Obj) : Jnt w0 pk ps s s wr.heap.size o (wr.alloc o) := by
  obtain ⟨Gk, Gs, h1, h2, h3, h4, h5, h7⟩ := h
  have hb : Below wr.heap.size wr (wr.alloc o) := (Below.refl _ _).alloc (Nat.le_refl _) _
  exact ⟨Gk, Gs, h1.same hb, h2.same hb, h3, h4, h5, ⟨heap_alloc_new wr o, fun g => by have := h1.lt _ g; omega, fun g => by have := h2.2 _ g; omega⟩, h7.trans (hb.mono h7.size)⟩
theorem Jn0.same {w0 wr w' : World} {pk ps : Nat} {s : Kt} (h : Jn0 w0 pk ps s wr) (hb : Below wr.heap.size wr w') : Jn0 w0 pk ps s w' := by
  obtain ⟨Gk, Gs, h1, h2, h3, h4, h5, h7⟩ := h
  exact ⟨Gk, Gs, h1.same hb, h2.same hb, h3, h4, h5, h7.trans (hb.mono h7.size)⟩
theorem lt_of_some {w : World} {i : Nat} {o : Obj} (h : w.heap[i]? = some o) : i < w.heap.size := (Array.getElem?_eq_some_iff.1 h).1
theorem Jnt.same {w0 wr w' : World} {pk ps gc : Nat} {s s' : Kt} {o : Obj} (h : Jnt w0 pk ps s s' gc o wr) (hb : Below wr.heap.size wr w') : Jnt w0 pk ps s s' gc o w' := by
  obtain ⟨Gk, Gs, h1, h2, h3, h4, h5, h6, h7⟩ := h
  exact ⟨Gk, Gs, h1.same hb, h2.same hb, h3, h4, h5, ⟨by rw [hb.block gc (lt_of_some h6.1)]; exact h6.1, h6.2⟩, h7.trans (hb.mono h7.size)⟩
/-- The program's store has turned. -/
theorem Jnt.turnK {w0 w w' : World} {pk ps gc : Nat} {s q : Kt} {o : Obj} {Gk Gs : Nat → Prop} (h2 : Stx 55 w ps Gs s) (h3 : ∀ i, Gk i → ¬ Gs i) (h4 : ∀ i, Gk i → w0.heap.size ≤ i) (h5 : ∀ i, Gs i → w0.heap.size ≤ i) (h6 : w.heap[gc]? = some o ∧ ¬ Gk gc ∧ ¬ Gs gc) (h7 : Below w0.heap.size w0 w)
    (hk : Kst w' pk (Gnx Gk w w') q) (ht : Tch w w' Gk) : Jnt w0 pk ps s q gc o w' := by
  have hlt := lt_of_some h6.1
  refine ⟨Gnx Gk w w', Gs, hk, h2.aside ht (fun i g k => h3 i k g), fun i g k => ?_, Gnx.ge h4 h7.size, h5, ⟨by rw [ht.block gc hlt h6.2.1]; exact h6.1, fun g => ?_, h6.2.2⟩, ht.below h7 h4 h7.size⟩
  · rcases g with g | g
    · exact h3 i g k
    · have := h2.2 i k; omega
  · rcases g with g | g
    · exact h6.2.1 g
    · omega
/-- The document's store has turned. -/
theorem Jnt.turnS {w0 w w' : World} {pk ps gc : Nat} {s' q : Kt} {o : Obj} {Gk Gs : Nat → Prop} (h1 : Kst w pk Gk s') (h3 : ∀ i, Gk i → ¬ Gs i) (h4 : ∀ i, Gk i → w0.heap.size ≤ i) (h5 : ∀ i, Gs i → w0.heap.size ≤ i) (h6 : w.heap[gc]? = some o ∧ ¬ Gk gc ∧ ¬ Gs gc) (h7 : Below w0.heap.size w0 w)
    (hk : Stx 55 w' ps (Gnx Gs w w') q) (ht : Tch w w' Gs) : Jnt w0 pk ps q s' gc o w' := by
  have hlt := lt_of_some h6.1
  refine ⟨Gk, Gnx Gs w w', h1.aside ht h3, hk, fun i g k => ?_, h4, Gnx.ge h5 h7.size, ⟨by rw [ht.block gc hlt h6.2.2]; exact h6.1, h6.2.1, fun g => ?_⟩, ht.below h7 h5 h7.size⟩
  · rcases k with k | k
    · exact h3 i g k
    · have := h1.lt i g; omega
  · rcases g with g | g
    · exact h6.2.2 g
    · omega
theorem Jnt.k {w0 w : World} {pk ps gc N : Nat} {s s' : Kt} {o : Obj} {args : Array Value} {r : Int × Int × Kt} (J : Jnt w0 pk ps s s' gc o w) (hc : ∀ G, Kst w pk G s' → Calls Try.prog N args w (Kke pk G r w)) : Calls Try.prog N args w fun e w' => e = .returned (.tuple #[.int .i64 r.1, .int .i64 r.2.1]) ∧ Jnt w0 pk ps s r.2.2 gc o w' := by
  obtain ⟨Gk, Gs, h1, h2, h3, h4, h5, h6, h7⟩ := J
  exact (hc Gk h1).mono fun e w' ⟨e1, e2, e3⟩ => ⟨e1, Jnt.turnK h2 h3 h4 h5 h6 h7 e2 e3⟩
theorem Jnt.kt {w0 w : World} {pk ps gc N : Nat} {s s' : Kt} {o : Obj} {args : Array Value} {r : Int × Kt} (J : Jnt w0 pk ps s s' gc o w) (hc : ∀ G, Kst w pk G s' → Calls Try.prog N args w (Kkt pk G r w)) : Calls Try.prog N args w fun e w' => e = .returned (.int .i64 r.1) ∧ Jnt w0 pk ps s r.2 gc o w' := by
  obtain ⟨Gk, Gs, h1, h2, h3, h4, h5, h6, h7⟩ := J
  exact (hc Gk h1).mono fun e w' ⟨e1, e2, e3⟩ => ⟨e1, Jnt.turnK h2 h3 h4 h5 h6 h7 e2 e3⟩
theorem Jnt.s {w0 w : World} {pk ps gc N : Nat} {s s' : Kt} {o : Obj} {args : Array Value} {r : Int × Int × Kt} (J : Jnt w0 pk ps s s' gc o w) (hc : ∀ G, Stx 55 w ps G s → Calls Try.prog N args w (Kde 55 ps G r w)) : Calls Try.prog N args w fun e w' => e = .returned (.tuple #[.int .i64 r.1, .int .i64 r.2.1]) ∧ Jnt w0 pk ps r.2.2 s' gc o w' := by
  obtain ⟨Gk, Gs, h1, h2, h3, h4, h5, h6, h7⟩ := J
  exact (hc Gs h2).mono fun e w' ⟨e1, e2, e3⟩ => ⟨e1, Jnt.turnS h1 h3 h4 h5 h6 h7 e2 e3⟩
theorem Jnt.st {w0 w : World} {pk ps gc N : Nat} {s s' : Kt} {o : Obj} {args : Array Value} {r : Int × Kt} (J : Jnt w0 pk ps s s' gc o w) (hc : ∀ G, Stx 55 w ps G s → Calls Try.prog N args w (Kte 55 ps G r w)) : Calls Try.prog N args w fun e w' => e = .returned (.int .i64 r.1) ∧ Jnt w0 pk ps r.2 s' gc o w' := by
  obtain ⟨Gk, Gs, h1, h2, h3, h4, h5, h6, h7⟩ := J
  exact (hc Gs h2).mono fun e w' ⟨e1, e2, e3⟩ => ⟨e1, Jnt.turnS h1 h3 h4 h5 h6 h7 e2 e3⟩
/-- A call that only reads. -/
theorem Jn0.kr {w0 w : World} {pk ps N : Nat} {s : Kt} {args : Array Value} {Q : Ending → World → Prop} (J : Jn0 w0 pk ps s w) (hc : ∀ G, Kst w pk G s → Calls Try.prog N args w Q) : Calls Try.prog N args w Q := by
  obtain ⟨Gk, Gs, h1, _⟩ := J
  exact hc Gk h1
theorem Jn0.sr {w0 w : World} {pk ps N : Nat} {s : Kt} {args : Array Value} {Q : Ending → World → Prop} (J : Jn0 w0 pk ps s w) (hc : ∀ G, Stx 55 w ps G s → Calls Try.prog N args w Q) : Calls Try.prog N args w Q := by
  obtain ⟨Gk, Gs, _, h2, _⟩ := J
  exact hc Gs h2
theorem Jn0.sto {w0 w : World} {pk ps : Nat} {s : Kt} (J : Jn0 w0 pk ps s w) : ∃ b V, Sto 55 w ps b V s := by
  obtain ⟨Gk, Gs, _, ⟨⟨b, V, h, _⟩, _⟩, _⟩ := J
  exact ⟨b, V, h⟩
/-- The map alone has turned: a key's numbers. -/
theorem stx_turn {TY : TypeId} {w w' : World} {p b : Nat} {G : Nat → Prop} {V : Int → Option Value} {s : Kt} {a : Option Addr} {c : Nat} {l m : List Int} {k : Int} (h : Sto TY w p b V s) (hF : ∀ i, Ftp p b V i → G i) (hGl : ∀ i, G i → i < w.heap.size) (hm0 : s.f k = some m) (hl : ∀ x ∈ l, 0 ≤ x ∧ x ≤ 2147483646) (r : Rd w a s.n c l) (hG : ∀ x, a = some x → G x.block)
    (hm : MapI w' b (if (V k).isSome then s.cnt else s.cnt + 1) (mset V k (some (.slice a s.n c)))) (hg : w.grownBy w' (some b)) (e : Ending) (he : e = .returned (.int .i64 0)) : Kte TY p G (0, ktrn s k l) w e w' := by
  have hk : ∀ i, i < w.heap.size → i ≠ b → w'.heap[i]? = w.heap[i]? := fun i hi hne => hg.block i hi (by simpa using hne)
  refine ⟨he, ⟨⟨b, _, h.turn hm0 hl r hm hk, fun i hi => .inl ?_⟩, Gnx.lt hGl hg.size⟩, ⟨hg.os, hg.tape, hg.output, hg.size, fun i hi hn => hk i hi (fun e => hn (hF _ (.inr (.inl e))))⟩⟩
  rcases hi with rfl | rfl | ⟨hh, a', m, c', e, rfl⟩
  · exact hF _ (.inl rfl)
  · exact hF _ (.inr (.inl rfl))
  · unfold mset at e
    split at e
    · simp only [Option.some.injEq, Value.slice.injEq] at e
      exact hG a' e.1
    · exact hF _ (.inr (.inr ⟨hh, a', m, c', e, rfl⟩))

theorem rRefresh (p : Nat) (G : Nat → Prop) (s : Kt) (x : Int) (ad : Option Addr) (q cd : Nat) (ds : List Int) (w : World) (h : Stx 55 w p G s) (hx : i64r x) (r : Rd w ad q cd ds) :
    Calls Try.prog 21 #[.pointer (some ⟨p, 0, none⟩), .int .i64 x, .slice ad q cd] w (Kte 55 p G (krfr s x ds) w) := by
  have hI := rdI_of1 w (x := x) hx
  have hb0 : Below w.heap.size w (w.alloc (.cells #[.int .i64 x] 3)) := (Below.refl _ _).alloc (Nat.le_refl _) _
  have h0 := h.same hb0
  have ht4 := h.wf.t4
  have hn9 := h.wf.n9
  have hnt := h.wf.nt
  have hc8 := h.wf.c8
  have hGl := h.2
  have hcap := r.cap
  have hmax := r.max
  have hlen := r.len
  unfold maxLen at hmax
  go_enter Try.func21, Try.ntmps21
  go_wp2_with fail
  generalize w.alloc (.cells #[.int .i64 x] 3) = w0 at *
  refine (rHas p G s _ _ _ _ _ h0 hI).mono ?_
  rintro e w1 ⟨rfl, hb1⟩
  rw [hsl_one]
  have hbw := hb0.trans (hb1.mono hb0.size)
  clear h0 hI hb0 hb1
  cases hf : s.f x with
  | none =>
    have HE : Hid (krfr s x ds = (4, s)) := by unfold Hid krfr; rw [hf]
    simp only [Option.isSome_none]
    clear hf
    go_wp2
    go_ret
    rw [HE.out]
    exact ⟨rfl, h.below hbw, Tch.of_below hbw⟩
  | some l =>
    simp only [Option.isSome_some]
    have h1 := h.same hbw
    have HF : Hid (s.f x = some l) := hf
    obtain ⟨⟨b, V, hS, _⟩, _⟩ := h1
    obtain ⟨c0, c1, c2, c3⟩ := hS.four
    have hpl := hS.lt
    clear hS hf
    obtain ⟨n, HN⟩ : ∃ n, Hid (s.n = n) := ⟨_, rfl⟩
    obtain ⟨t, HT⟩ : ∃ t, Hid (s.t = t) := ⟨_, rfl⟩
    rw [HN.out] at c0 hn9 hnt
    rw [HT.out] at c1 ht4 hnt
    obtain ⟨M, HM⟩ : ∃ M, Hid (n * t = M) := ⟨_, rfl⟩
    have hMI : (n : Int) * (t : Int) = (M : Int) := by rw [← HM.out]; push_cast; rfl
    have hM45 : M ≤ 36 := by rw [← HM.out]; exact Nat.mul_le_mul hn9 ht4
    have hw2 : IntKind.i64.wrap ((M : Int)) = (M : Int) := by rw [IntKind.wrap_i64]; omega
    have HMK : Hid (s.n * s.t = M) := by unfold Hid; rw [HN.out, HT.out, HM.out]
    by_cases hm : q = M
    · subst hm
      have HE : Hid (krfr s x ds = (0, ktrn s x (mxl l (ksm s.n s.t false ds s.n) 1 1 0 s.n))) := by unfold Hid krfr; rw [HF.out]; simp only; rw [if_pos (by rw [hlen, HMK.out])]
      have HK : Hid (q = kat s.t false s.n) := HMK.out.symm
      have hmm : ((q : Int) != (q : Int)) = false := by simp
      go_wp2
      go_quiet (fail)
      have hb2 : Below w1.heap.size w1 (w1.drewN nq) := drewN_below (Below.refl _ _) nq
      generalize w1.drewN nq = w2 at *
      have hbw2 := hbw.trans (hb2.mono hbw.size)
      have h2 := h.same hbw2
      have H2 : Hid (Stx 55 w2.drew p G s) := h2.same ((Below.refl _ _).drew)
      clear c0 c1 c2 c3 hpl hb2
      obtain ⟨⟨b, V, hS, hFt⟩, _⟩ := h2
      have HFt : Hid (∀ i, Ftp p b V i → G i) := hFt
      obtain ⟨ax, cx, hVx, hrx⟩ := hS.slice HF.out
      have HVx : Hid (V x = some (.slice ax s.n cx)) := hVx
      have HS : Hid (∀ w', Below w2.heap.size w2 w' → Sto 55 w' p b V s) := fun w' hb => hS.keep fun i hi => hb.block i (H2.out.2 i (hFt i hi))
      have hrd := (r.below hbw2).drew
      have hbd : Below w.heap.size w w2.drew := hbw2.drew
      have HRX : Hid (∀ w', Below w2.heap.size w2 w' → Rd w' ax s.n cx l) := fun w' hb => hrx.below hb
      have HAL : Hid (∀ w', Below w2.heap.size w2 w' → w'.cell? ⟨p, 3, none⟩ = some (.map (some b)) ∧ p < w'.heap.size ∧ (Instr.lookup 53 (.map (some b)) (.int .i64 x) false).run Try.prog w' = .ok (.slice ax s.n cx) w') := fun w' hb => ⟨(HS.out w' hb).four.2.2.2, (HS.out w' hb).lt, look_at (HS.out w' hb).map HVx.out hx⟩
      have hcur : Below w2.heap.size w2 w2.drew := (Below.refl _ _).drew
      obtain ⟨e3, e4, e5⟩ := HAL.out _ hcur
      obtain ⟨e3', e4', _⟩ := HAL.out _ (Below.refl _ _)
      have HNP : Hid (0 < s.n) := by unfold Hid; rw [HN.out]; omega
      have hn1000 : s.n ≤ 1000 := by rw [HN.out]; omega
      clear hS hVx hrx hFt
      go_wp2
      go_region_with (first | (go_at_call 49; refine (rSums p G s _ _ _ _ false _ H2.out hrd HK.out).mono ?_; rintro e w3 ⟨v3, rfl, ho3, hb3⟩; obtain ⟨a3, k3, rfl, hr3, hx3⟩ := Rd.own ho3 (bd_u64 (ksm_bd _ _ _ _ _)); have hcur := hcur.trans (hb3.mono hcur.size); obtain ⟨e6, e7, e8⟩ := HAL.out _ hcur; have hrx3 := HRX.out _ hcur) | (go_at_call 51; refine (rMixed _ _ _ _ _ _ _ 1 1 0 _ hrx3 hr3 hn1000 (by omega) (by omega) (by omega) (by omega) (by omega) (by omega)).mono ?_; rintro e w5 ⟨v5, rfl, ho5, hb5⟩; obtain ⟨a5, k5, rfl, hr5, hx5⟩ := Rd.own ho5 (bd_u64 (mxl_bd _ _ _ _ _ _)); have hcur5 := hcur.trans (hb5.mono hcur.size); obtain ⟨e9, e10, e11⟩ := HAL.out _ hcur5; obtain ⟨w6, hrun6, hM6, htn6⟩ := (HS.out _ hcur5).map.store (t := 53) Try.underlying53 (by omega) (k := x) hx (.slice a5 s.n k5)))
      all_goals
        have hb35 := hb3.trans (hb5.mono hb3.size)
        have HR : Hid (Kte 55 p G (krfr s x ds) w (.returned (.int .i64 0)) w6) := by
          unfold Hid
          rw [HE.out]
          refine Kte.after hbd (Kte.behind hb35 (stx_turn (HS.out _ hcur5) (fun i hi => .inl (HFt.out i hi)) (Gnx.lt H2.out.2 hb35.size) HF.out (mxl_bd _ _ _ _ _ _) hr5 ?_ hM6 htn6.grown _ rfl) H2.out.2) hGl
          exact gnx_new hr5 HNP.out (fun y hy => Nat.le_trans hb3.size (hx5 y hy))
        clear ho3 ho5 hr3 hr5 hx3 hx5 hM6 htn6
        go_wp2
        go_ret
        exact HR.out
    · have HE : Hid (krfr s x ds = (1, s)) := by unfold Hid krfr; rw [HF.out]; simp only; rw [if_neg (by rw [hlen, HMK.out]; exact hm)]
      have hmm : ((q : Int) != (M : Int)) = true := by rw [bne_iff_ne]; omega
      clear hm
      go_wp2
      go_quiet (fail)
      have hb2 : Below w1.heap.size w1 (w1.drewN nq) := drewN_below (Below.refl _ _) nq
      generalize w1.drewN nq = w2 at *
      have hbw2 := hbw.trans (hb2.mono hbw.size)
      clear c0 c1 c2 c3 hpl hb2
      go_wp2
      go_ret
      rw [HE.out]
      exact ⟨rfl, h.below hbw2, Tch.of_below hbw2⟩
end
end Go.Proofs.Ytljlioglpaogdac
