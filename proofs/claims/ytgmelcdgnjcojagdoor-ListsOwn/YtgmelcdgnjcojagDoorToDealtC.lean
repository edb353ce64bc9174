/- Package keys: Refresh. · shamir.Open. · croftkeep.dealt; shares that are written. -/
import Derived.Test.YtgmelcdgnjcojagDoorToKyM
import Derived.Test.YtgmelcdgnjcojagDoorToRStB
import Derived.Test.YtgmelcdgnjcojagDoorToRStG
import Derived.Deep.RegionHeld3
import Derived.Test.YtgmelcdgnjcojagDoorToCheckC
import Derived.Test.YtgmelcdgnjcojagDoorToRefProdC
import Derived.Test.YtgmelcdgnjcojagDoorToTellsM
import Derived.Test.YtgmelcdgnjcojagDoorToTJoinC
import Derived.Test.YtgmelcdgnjcojagDoorToGateM
namespace Go.Proofs.YtgmelcdgnjcojagDoor
open Go.RowKit Crm

set_option maxRecDepth 100000 in
set_option maxHeartbeats 4000000 in
theorem cRefreshK : KcRefresh := by
  intro p G s x ad q cd ds w h hx r
  have hw := h.wf
  have ht4 := hw.t4
  have hn9 := hw.n9
  have hnt := hw.nt
  have hc8 := hw.c8
  have hcap := r.cap
  have hmax := r.max
  have hlen := r.len
  unfold maxLen at hmax
  have hGl := h.lt
  have HH : Hid (∀ w', Below w.heap.size w w' → Kst w' p G s) := fun w' hb => h.same hb
  obtain ⟨n, HN⟩ : ∃ n, Hid (s.n = n) := ⟨_, rfl⟩
  obtain ⟨t, HT⟩ : ∃ t, Hid (s.t = t) := ⟨_, rfl⟩
  rw [HN.out] at hn9 hnt
  rw [HT.out] at ht4 hnt
  have HC : Hid (∀ w', Below w.heap.size w w' → w'.cell? ⟨p, 0, none⟩ = some (.int .i64 (n : Int)) ∧ w'.cell? ⟨p, 1, none⟩ = some (.int .i64 (t : Int)) ∧ p < w'.heap.size) := fun w' hb => by
    obtain ⟨⟨b, V, hS, _⟩, _⟩ := HH.out w' hb
    have := hS.four
    rw [HN.out, HT.out] at this
    exact ⟨this.1, this.2.1, hS.lt⟩
  obtain ⟨⟨b, V, hS, hF⟩, _⟩ := h
  have HF : Hid (∀ i, Ftp p b V i → G i) := hF
  have HS : Hid (∀ w', Below w.heap.size w w' → Sto 107 w' p b V s) := fun w' hb => hS.keep fun i hi => hb.block i (hGl i (hF i hi))
  obtain ⟨c0, c1, c2, c3⟩ := hS.four
  rw [HN.out] at c0
  rw [HT.out] at c1
  have hpl := hS.lt
  have hM := hS.map
  rcases hS.val x with ⟨fx, vx⟩ | ⟨l, ax, cx, fx, vx, rx⟩
  · have HE : Hid (krfr s x ds = (4, s)) := by unfold Hid krfr; rw [fx]
    have HV : Hid (V x = none) := vx
    clear hS fx vx hF hw
    go_enter Tryd.func46, Tryd.ntmps46
    go_wp2_with (at_lookup; refine wpList_lookK _ rfl _ _ 105 rfl 22 Tryd.underlying105 _ (zeroL _) b s.cnt V rfl hM x rfl hx ?_; rw [HV.out]; simp only [Option.getD_none, Option.isSome_none])
    go_ret
    rw [HE.out]
    exact ⟨rfl, (HH.out w (Below.refl _ _)).below (Below.refl _ _), Tch.refl _ _⟩
  · have HV : Hid (V x = some (.slice ax n cx)) := by unfold Hid; rw [vx, HN.out]
    have HFX : Hid (s.f x = some l) := fx
    have HKL : Hid (l.length = n ∧ ∀ y ∈ l, 0 ≤ y ∧ y ≤ 2147483646) := by
      have := hw.key x l fx
      rw [HN.out] at this
      exact this.2
    have HAX : Hid (∀ y, ax = some y → G y.block) := fun y hy => hF _ (.inr (.inr ⟨x, y, _, _, by rw [← hy]; exact vx, rfl⟩))
    rw [HN.out] at rx
    have hw2 : IntKind.i64.wrap ((n : Int) * (t : Int)) = (n : Int) * (t : Int) := by
      have : (n : Int) * (t : Int) ≤ 36 := by exact_mod_cast Nat.mul_le_mul hn9 ht4
      have : 0 ≤ (n : Int) * (t : Int) := by exact_mod_cast Nat.zero_le (n * t)
      rw [IntKind.wrap_i64]; omega
    clear hw2
    obtain ⟨M, HM⟩ : ∃ M, Hid (n * t = M) := ⟨_, rfl⟩
    have hMI : (n : Int) * (t : Int) = (M : Int) := by rw [← HM.out]; push_cast; rfl
    have hM45 : M ≤ 36 := by rw [← HM.out]; exact Nat.mul_le_mul hn9 ht4
    have hw2 : IntKind.i64.wrap ((M : Int)) = (M : Int) := by rw [IntKind.wrap_i64]; omega
    have HMK : Hid (s.n * s.t = M) := by unfold Hid; rw [HN.out, HT.out, HM.out]
    clear hS fx vx hF hw
    by_cases hm : q = M
    · subst hm
      have HE : Hid (krfr s x ds = (0, ktrn s x (mxl l (ksm s.n s.t false ds s.n) 1 1 0 s.n))) := by unfold Hid krfr; rw [HFX.out]; simp only; rw [if_pos (by rw [hlen, HMK.out])]
      have hmm : ((q : Int) != (q : Int)) = false := by simp
      go_enter Tryd.func46, Tryd.ntmps46
      go_wp2_with (at_lookup; refine wpList_lookK _ rfl _ _ 105 rfl 22 Tryd.underlying105 _ (zeroL _) b s.cnt V rfl hM x rfl hx ?_; rw [HV.out]; simp only [Option.getD_some, Option.isSome_some])
      go_quiet (fail)
      have hb1 : Below w.heap.size w (w.drewN nq) := drewN_below (Below.refl _ _) nq
      have rx1 := rx.drewN nq
      generalize w.drewN nq = w1 at *
      clear c0 c1 c2 c3 hpl hM rx
      obtain ⟨c0, c1, hpl⟩ := HC.out w1 hb1
      go_wp2
      go_loopw [7, 37] (fun v j wr => ∃ (i : Nat) (u : Option Addr) (c' : Nat), i ≤ n ∧ j = .int .i64 i ∧ v = .slice u n c' ∧ Rd wr u n c' (kra n t ds l i) ∧ Hid (∀ y, u = some y → Gnx G w wr y.block) ∧ Below w.heap.size w wr) (fun _ j _ => n - (intOf j).toNat)
      case atStart => exact ⟨0, ax, cx, Nat.zero_le _, rfl, rfl, rx1, fun y hy => .inl (HAX.out y hy), hb1⟩
      case round =>
        clear rx1 hb1 c0 c1 hpl
        obtain ⟨i, u, c', hin, rfl, rfl, hru, HU, hbel⟩ := hrel
        obtain ⟨c0, c1, hpl⟩ := HC.out wr hbel
        have hs1 := hbel.size
        by_cases hlt : i < n
        · have hlti : (i : Int) < (n : Int) := by omega
          obtain ⟨A, HA⟩ : ∃ A, Hid (i * t = A) := ⟨_, rfl⟩
          have hAI : (i : Int) * (t : Int) = (A : Int) := by rw [← HA.out]; push_cast; rfl
          have hBI : ((i : Int) + 1) * (t : Int) = (A : Int) + (t : Int) := by rw [Int.add_mul, hAI, Int.one_mul]
          have hAm : A + t ≤ q := by
            rw [← HA.out, ← HM.out]
            have := Nat.mul_le_mul_right t (show i + 1 ≤ n by omega)
            rw [Nat.add_mul, Nat.one_mul] at this
            exact this
          have hwA : IntKind.i64.wrap (A : Int) = (A : Int) := by rw [IntKind.wrap_i64]; omega
          have hwB : IntKind.i64.wrap ((A : Int) + (t : Int)) = (A : Int) + (t : Int) := by rw [IntKind.wrap_i64]; omega
          have hwi : IntKind.i64.wrap ((i : Int) + 1) = (i : Int) + 1 := by rw [IntKind.wrap_i64]; omega
          have hrs := (r.below hbel).sub (lo := A) (k := t) hAm
          obtain ⟨sa, HSA⟩ : ∃ sa, Hid (subA ad cd A = sa) := ⟨_, rfl⟩
          have hsl : ∀ W, (Instr.sliceAt 22 (.slice ad q cd) (some (.int .i64 (A : Int))) (some (.int .i64 ((A : Int) + (t : Int)))) none).run Tryd.prog W = .ok (.slice sa t (cd - A)) W := fun W => by
            rw [← HSA.out]
            exact run_sub Tryd.underlying22 infoU1 _ q cd A t rfl rfl (by omega) W
          rw [HSA.out] at hrs
          have HKD : Hid (kdr t false ds i = 0 :: (ds.drop A).take t) := by
            unfold Hid
            have e : kat t false i = A := by unfold kat; rw [if_neg (by decide), HA.out]
            rw [kdr_fals, e]
          have HRU : Hid (Rd wr u n c' (kra n t ds l i)) := hru
          have HRT : Hid (Rd wr sa t (cd - A) ((ds.drop A).take t)) := hrs
          have HCW : Hid (∀ w0, Kst w0 p G s → Rd w0 u n c' (kra n t ds l i) → Rd w0 sa t (cd - A) ((ds.drop A).take t) → Calls Tryd.prog 61 #[.pointer (some ⟨p, 0, none⟩), .slice u n c', .int .u64 0, .slice sa t (cd - A)] w0 fun e w' => ∃ v, e = .returned v ∧ w'.ownsRow w0.heap.size 34 1 v n ((kra n t ds l (i + 1)).map (Value.int .u64)) ∧ Below w0.heap.size w0 w') := fun w0 k0 k1 k2 => by
            have e := cWith p G s u c' (kra n t ds l i) 0 sa (cd - A) ((ds.drop A).take t) w0 k0
            rw [HN.out, HT.out, ← HKD.out] at e
            exact e k1 (by omega) (by omega) k2
          have HRB : Hid (∀ y ∈ kra n t ds l (i + 1), 0 ≤ y ∧ y ≤ 2147483646) := kra_bd t ds HKL.out.2 (i + 1)
          have hnp : 0 < n := by omega
          clear hru hrs
          go_wp2_with fail
          go_region_held3 (fun w' => w'.cell? ⟨p, 1, none⟩ = some (.int .i64 (t : Int))) (go_keep) (first | (go_at_call 61; refine (HCW.out _ (HH.out _ hbel.drew) HRU.out.drew HRT.out.drew).mono ?_; rintro e w3 ⟨v3, rfl, ho3, hb3⟩; obtain ⟨a3, k3, rfl, hr3, hx3⟩ := Rd.own ho3 (bd_u64 HRB.out); have hbel3 := hbel.drew.trans (hb3.mono hs1); obtain ⟨e0, e1, e2⟩ := HC.out w3 hbel3))
          all_goals
            have HG3 : Hid (∀ y, a3 = some y → Gnx G w w3 y.block) := gnx_new hr3 hnp (fun y hy => Nat.le_trans hs1 (hx3 y hy))
            clear hb3 ho3 hx3 hbel hsl HRU HRT HCW HU e0 e1 e2
            go_wp2
            go_roundw
            case rel => exact ⟨i + 1, a3, k3, by omega, by go_num, rfl, hr3, HG3, hbel3⟩
            case measure => simp [intOf]; omega
        · obtain rfl : i = n := by omega
          have hnn : ¬ ((i : Int) < (i : Int)) := by omega
          have hM := (HS.out wr hbel).map
          have c3 := (HS.out wr hbel).four.2.2.2
          have HKR : Hid (kra i t ds l i = mxl l (ksm s.n s.t false ds s.n) 1 1 0 s.n) := by unfold Hid; rw [HN.out, HT.out]; exact kra_ksm t ds HKL.out.1 HKL.out.2 i
          have HRU : Hid (Rd wr u i c' (kra i t ds l i)) := hru
          clear hru
          go_wp2_with (at_mapUpdate; refine wpList_putK _ rfl _ _ _ 105 rfl 22 Tryd.underlying105 b s.cnt V rfl hM (by omega) x (.slice u i c') rfl rfl hx ?_; intro w2 hM2 hgr2)
          have HR : Hid (Kkt p G (0, ktrn s x (mxl l (ksm s.n s.t false ds s.n) 1 1 0 s.n)) w (.returned (.int .i64 0)) w2) := by
            have hr5 := HRU.out
            rw [HKR.out, ← HN.out] at hr5
            rw [← HN.out] at hM2
            exact Kte.behind hbel (stx_turn (HS.out wr hbel) (fun i hi => .inl (HF.out i hi)) (Gnx.lt hGl hbel.size) HFX.out (mxl_bd _ _ _ _ _ _) hr5 HU.out hM2 hgr2 _ rfl) hGl
          clear hM hM2 hgr2 c0 c1 c3 hpl HRU
          go_wp2
          go_ret
          rw [HE.out]
          exact HR.out
    · have HE : Hid (krfr s x ds = (1, s)) := by unfold Hid krfr; rw [HFX.out]; simp only; rw [if_neg (by rw [hlen, HMK.out]; exact hm)]
      have hmm : ((q : Int) != (M : Int)) = true := by rw [bne_iff_ne]; omega
      clear hm
      go_enter Tryd.func46, Tryd.ntmps46
      go_wp2_with (at_lookup; refine wpList_lookK _ rfl _ _ 105 rfl 22 Tryd.underlying105 _ (zeroL _) b s.cnt V rfl hM x rfl hx ?_; rw [HV.out]; simp only [Option.getD_some, Option.isSome_some])
      go_quiet (fail)
      have hb1 : Below w.heap.size w (w.drewN nq) := drewN_below (Below.refl _ _) nq
      generalize w.drewN nq = w1 at *
      clear c0 c1 c2 c3 hpl hM rx
      go_wp2
      go_ret
      rw [HE.out]
      exact ⟨rfl, (HH.out w (Below.refl _ _)).below hb1, Tch.of_below hb1⟩
end Go.Proofs.YtgmelcdgnjcojagDoor

namespace Go.Proofs.YtgmelcdgnjcojagDoor
open Go.RowKit Crm

set_option maxRecDepth 100000 in
set_option maxHeartbeats 1000000 in
theorem cOpenS (a : Option Addr) (n c : Nat) (l : List (Int × Int)) (t : Int) (w : World) (h : RdS w a n c l) :
    Calls Tryd.prog 42 #[.int .i64 t, .slice a n c] w fun e w' => ∃ x r, e = .returned (.tuple #[.int .u64 x, .int .i64 r]) ∧ Opn l n t x r ∧ Below w.heap.size w w' := by
  go_enter Tryd.func42, Tryd.ntmps42
  go_wp2_with fail
  refine (cCheckS _ _ _ _ _ _ h).mono ?_
  rintro e w1 ⟨r, rfl, hS, hb1⟩
  by_cases hr : r = 0
  · subst hr
    have HS : Hid (She l n t 0) := hS
    obtain ⟨t0, t4, hd, htn, hn9⟩ := hS.ok
    have HD : Hid (okk l n) := dis_okk hd
    clear hd hS
    go_wp2_with fail
    refine (cThroughOK _ _ _ _ _ (h.below hb1) (by omega) HD.out).mono ?_
    rintro e w2 ⟨S, g, rfl, hls, hbs, hvs, hr2, hb2⟩
    have HO : Hid (_ ∧ _) := opn_newton HS.out hls hbs hvs
    have hb12 := hb1.trans (hb2.mono hb1.size)
    have htl := tl_le S n
    obtain ⟨T, hT⟩ : ∃ T, T = tl S n := ⟨_, rfl⟩
    rw [← hT] at hr2 HO htl ⊢
    clear hls hbs hvs hb1 hb2 hT
    by_cases hlt : (T : Int) ≤ t + 1
    · have HN : Hid (Opn l n t (nm (ev (trm S) 0)) 0) := HO.out.1 hlt
      clear HO
      go_wp2_with fail
      refine (cEvalOK _ _ _ _ _ _ hr2 (by omega) (by omega) (by omega)).mono ?_
      rintro e w3 ⟨rfl, hb3⟩
      have hb13 := hb12.trans (hb3.mono hb12.size)
      clear hb3 hr2
      go_wp2
      go_ret2
      exact ⟨_, _, rfl, HN.out, hb13⟩
    · have HN : Hid (Opn l n t 0 6) := HO.out.2 (by omega)
      clear HO
      go_wp2
      go_ret2
      exact ⟨_, _, rfl, HN.out, hb12⟩
  · have hrb : (r != 0) = true := by rw [bne_iff_ne]; exact hr
    have HS : Hid (Opn l n t 0 r) := Or.inl ⟨hS, hr, rfl⟩
    clear hr hS
    go_wp2
    go_ret2
    exact ⟨_, _, rfl, HS.out, hb1⟩
end Go.Proofs.YtgmelcdgnjcojagDoor

namespace Go.Proofs.YtgmelcdgnjcojagDoor
open Go.RowKit Crm

theorem rdS_known2 (w : World) (E : TypeId) : RdS (w.alloc (.cells #[.int .i64 3, .int .u64 11, .int .i64 1, .int .u64 7] E)) (some ⟨w.heap.size, 0, none⟩) 2 2 [(3, 11), (1, 7)] := by
  refine ⟨rfl, Nat.le_refl _, by unfold maxLen; omega, fun i hi => ?_, by simp, fun x hx i hi => ?_⟩
  · match i, hi with
    | 0, _ => decide
    | 1, _ => decide
  · obtain rfl := Option.some.inj hx
    rw [Addr.add_lit, Addr.add_lit, cell_of_row _ _ _ _ E (0, 0) (heap_alloc_new w _), cell_of_row _ _ _ _ E (0, 0) (heap_alloc_new w _)]
    match i, hi with
    | 0, _ => exact ⟨rfl, rfl⟩
    | 1, _ => exact ⟨rfl, rfl⟩
theorem dis_known : dis (fa [(3, 11), (1, 7)]) 2 := by
  intro i hi
  match i, hi with
  | 0, _ => exact ⟨by decide, fun j hj => by omega⟩
  | 1, _ => exact ⟨by decide, fun j hj => by
      match j, hj with
      | 0, _ => decide⟩
theorem hs_known : Hs [(3, 11), (1, 7)] 2 [5, 2] := by
  intro j hj
  match j, hj with
  | 0, _ => decide
  | 1, _ => decide

set_option maxRecDepth 100000 in
set_option maxHeartbeats 1000000 in
theorem kDealt (w : World) : Calls Tryd.prog 9 #[] w fun e w' => e = .returned (.bool true) ∧ Below w.heap.size w w' := by
  have hb1 := below_one w (.cells #[.int .u64 2] 34)
  have r1 : Rd (w.alloc (.cells #[.int .u64 2] 34)) (some ⟨w.heap.size, 0, none⟩) 1 1 [2] := (Blk.lit1 w 2).whole 1 rfl (by unfold maxLen; omega) (fun u hu => by rw [List.mem_singleton.1 hu]; omega)
  go_enter Tryd.func9, Tryd.ntmps9
  go_wp2_with fail
  generalize w.alloc (.cells #[.int .u64 2] 34) = v1 at *
  refine (cDealOK 5 _ _ _ _ 3 _ r1 (by omega) (by omega) (by omega) (by omega) (by omega)).mono ?_
  rintro e v2 ⟨g, rfl, hr2, _, hb2⟩
  have ed : dl [5, 2] 3 = [7, 9, 11] := by decide
  rw [ed] at hr2
  have hw2 := hb1.trans (hb2.mono hb1.size)
  have hb3 := below_one v2 (.cells #[.int .i64 3, .int .u64 11, .int .i64 1, .int .u64 7] 68)
  have r3 := rdS_known2 v2 68
  clear hb1 hb2 r1 ed
  go_wp2_with fail
  generalize v2.alloc (.cells #[.int .i64 3, .int .u64 11, .int .i64 1, .int .u64 7] 68) = v3 at *
  refine (cOpenS _ _ _ _ _ _ r3).mono ?_
  rintro e v4 ⟨x, r, rfl, hO, hb4⟩
  obtain ⟨rfl, rfl⟩ := any_open (C := [5, 2]) (k := 1) dis_known (by omega) (by omega) (by simp) hs_known hO
  have ex : nm (ev [5, 2] 0) = 5 := by decide
  rw [ex]
  have hr4 := (hr2.below hb3).below hb4
  have hw4 := (hw2.trans (hb3.mono hw2.size)).trans (hb4.mono (hw2.trans (hb3.mono hw2.size)).size)
  clear hO hr2 hb3 r3 hb4 hw2 ex
  have hb5 := below_one v4 (.cells #[.int .u64 7, .int .u64 9, .int .u64 11] 34)
  have r5 := rd_of3 v4 (x := 7) (y := 9) (z := 11) (by omega) (by omega) (by omega)
  go_wp2_with fail
  generalize v4.alloc (.cells #[.int .u64 7, .int .u64 9, .int .u64 11] 34) = v5 at *
  have hw5 := hw4.trans (hb5.mono hw4.size)
  refine (cSame _ _ _ _ _ _ _ _ (hr4.below hb5) r5).mono ?_
  rintro e v6 ⟨rfl, hb6⟩
  have hw6 := hw5.trans (hb6.mono hw5.size)
  clear hb6 hw5 hb5 r5 hr4 hw4
  go_wp2
  go_ret
  exact ⟨rfl, hw6⟩

theorem own_set2 {w : World} {B n c g : Nat} {E : TypeId} {xs : List Value} (h : w.ownsRow B E 2 (.slice (some ⟨g, 0, none⟩) n c) n xs) (i : Nat) (u : Value) : (w.setCell ⟨g, i, none⟩ u).ownsRow B E 2 (.slice (some ⟨g, 0, none⟩) n c) n (xs.set i u) := by
  refine ⟨by rw [List.length_set]; exact h.1, .inr ?_⟩
  rcases h.2 with ⟨e, _⟩ | ⟨g', cap, cur, e, hb, hg, h1, h2, hs, ht⟩
  · simp at e
  · simp only [Value.slice.injEq, Option.some.injEq, Addr.mk.injEq, and_true, true_and] at e
    obtain ⟨rfl, rfl⟩ := e
    refine ⟨g, c, _, rfl, hb, heap_setCell_same w g i _ _ _ hg, h1, h2, by simpa using hs, ?_⟩
    rw [← ht]
    simp [List.take_set]
theorem own_frozen2 {w : World} {B n c g : Nat} {E : TypeId} {xs : List Value} (h : w.ownsRow B E 2 (.slice (some ⟨g, 0, none⟩) n c) n xs) (i : Nat) : w.frozen? ⟨g, i, none⟩ = false := by
  rcases h.2 with ⟨e, _⟩ | ⟨g', cap, cur, e, hb, hg, _⟩
  · simp at e
  · simp only [Value.slice.injEq, Option.some.injEq, Addr.mk.injEq, and_true, true_and] at e
    obtain ⟨rfl, rfl⟩ := e
    exact frozen_of_row w g i _ _ hg
theorem shc_setY : ∀ (l : List (Int × Int)) (q : Nat) (z : Int), (shc l).set (q * 2 + 1) (.int .u64 z) = shc (l.set q ((l.getD q (0, 0)).1, z))
  | [], q, z => by simp [shc]
  | p :: l, 0, z => rfl
  | p :: l, q + 1, z => by
    have := shc_setY l q z
    have e1 : (q + 1) * 2 + 1 = q * 2 + 1 + 1 + 1 := by omega
    rw [e1]
    show _ :: _ :: (shc l).set (q * 2 + 1) (.int .u64 z) = _
    rw [this]
    rfl
/-- Its address, where there is a share. -/
theorem own_at2 {w : World} {base n : Nat} {E : TypeId} {v : Value} {xs : List Value} (h : w.ownsRow base E 2 v n xs) (hn : 0 < n) : ∃ g c, v = .slice (some ⟨g, 0, none⟩) n c ∧ base ≤ g ∧ g < w.heap.size ∧ n ≤ c ∧ c ≤ maxLen := by
  rcases h.2 with ⟨_, rfl⟩ | ⟨g, cap, cur, rfl, hb, hg, h1, h2, _⟩
  · omega
  · exact ⟨g, cap, rfl, hb, (Array.getElem?_eq_some_iff.1 hg).1, h1, h2⟩
theorem sh_cell {w : World} {base n c g : Nat} {E : TypeId} {l : List (Int × Int)} (h : w.ownsRow base E 2 (.slice (some ⟨g, 0, none⟩) n c) n (shc l)) (hl : l.length = n) {k : Nat} (hk : k < n) :
    w.cell? ⟨g, k * 2, none⟩ = some (.int .i64 (l.getD k (0, 0)).1) ∧ w.cell? ⟨g, k * 2 + 1, none⟩ = some (.int .u64 (l.getD k (0, 0)).2) := by
  have h1 := shc_get l k (by omega)
  have a1 := h.cells (g := g) rfl _ _ h1.1
  have a2 := h.cells (g := g) rfl _ _ h1.2
  rw [Addr.add_lit] at a1 a2
  exact ⟨by simpa using a1, by simpa using a2⟩
end Go.Proofs.YtgmelcdgnjcojagDoor
