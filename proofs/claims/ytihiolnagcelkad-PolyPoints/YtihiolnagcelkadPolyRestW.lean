/- croftkeep.short; the walk of croftkeep.PolyRest. -/
import Derived.Test.YtihiolnagcelkadPolyE
namespace Go.Proofs.Ytihiolnagcelkad
open Go.RowKit Crm

theorem Rd.take {w : World} {a : Option Addr} {n c : Nat} {xs : List Int} (h : Rd w a n c xs) {k : Nat} (hk : k ≤ n) : Rd w a k c (xs.take k) := by
  refine ⟨by have := h.len; simp; omega, by have := h.cap; omega, h.max, fun x hx => h.bd x (List.mem_of_mem_take hx), h.nil, fun x hx i hi => ?_⟩
  rw [h.cell x hx i (by omega)]
  congr 2
  simp [hi]

theorem kShort (a : Option Addr) (n c k : Nat) (w : World) (hcap : n ≤ c) (hk : k ≤ 1000) :
    Calls Try.prog 7 #[.slice a n c, .int .i64 k] w fun e w' => e = .returned (.slice a (min k n) c) ∧ w' = w := by
  by_cases h : k ≤ n
  · have e : min k n = k := by omega
    rw [e]
    clear e
    go_enter Try.func7, Try.ntmps7
    go_wp2
    all_goals
      go_ret
      exact ⟨rfl, rfl⟩
  · have e : min k n = n := by omega
    rw [e]
    clear e
    go_enter Try.func7, Try.ntmps7
    go_wp2
    all_goals
      go_ret
      exact ⟨rfl, rfl⟩

theorem Blk.of2 (w : World) (x y : Int) : Blk (w.alloc (.cells #[.int .u64 x, .int .u64 y] 23)) w.heap.size [x, y] := heap_alloc_new w _
theorem Blk.of3 (w : World) (x y z : Int) : Blk (w.alloc (.cells #[.int .u64 x, .int .u64 y, .int .u64 z] 23)) w.heap.size [x, y, z] := heap_alloc_new w _
theorem rd_of2 (w : World) {x y : Int} (hx : 0 ≤ x ∧ x ≤ 18446744073709551615) (hy : 0 ≤ y ∧ y ≤ 18446744073709551615) : Rd (w.alloc (.cells #[.int .u64 x, .int .u64 y] 23)) (some ⟨w.heap.size, 0, none⟩) 2 2 [x, y] :=
  (Blk.of2 w x y).whole 2 rfl (by unfold maxLen; omega) (by
    intro u hu
    simp only [List.mem_cons, List.not_mem_nil, or_false] at hu
    rcases hu with rfl | rfl <;> assumption)
theorem rd_of3 (w : World) {x y z : Int} (hx : 0 ≤ x ∧ x ≤ 18446744073709551615) (hy : 0 ≤ y ∧ y ≤ 18446744073709551615) (hz : 0 ≤ z ∧ z ≤ 18446744073709551615) : Rd (w.alloc (.cells #[.int .u64 x, .int .u64 y, .int .u64 z] 23)) (some ⟨w.heap.size, 0, none⟩) 3 3 [x, y, z] :=
  (Blk.of3 w x y z).whole 3 rfl (by unfold maxLen; omega) (by
    intro u hu
    simp only [List.mem_cons, List.not_mem_nil, or_false] at hu
    rcases hu with rfl | rfl | rfl <;> assumption)
theorem below_one (w : World) (ob : Obj) : Below w.heap.size w (w.alloc ob) := (Below.refl _ _).alloc (Nat.le_refl _) _
theorem Nml.lin {x : Int} (h : 0 ≤ x ∧ x ≤ 2147483646) : Nml [x, 1] :=
  ⟨fun u hu => by
    simp only [List.mem_cons, List.not_mem_nil, or_false] at hu
    rcases hu with rfl | rfl <;> omega, fun _ => (show (1 : Int) ≠ 0 by decide)⟩

set_option maxHeartbeats 1000000 in
theorem polyRestW (a0 : Option Addr) (len0 cap0 : Nat) (X0 : List Int) (a1 : Option Addr) (len1 cap1 : Nat) (Y0 : List Int) (x : Int) (w : World) (h0 : Rd w a0 len0 cap0 X0) (g0 : Rd w a1 len1 cap1 Y0) (hx0 : 0 ≤ x) (hx1 : x ≤ 18446744073709551615) :
    Calls Try.prog 3 #[.slice a0 len0 cap0, .slice a1 len1 cap1, .int .u64 x] w fun e w' => e = .returned (.bool true) ∧ Below w.heap.size w w' := by
  have hc0 := h0.cap
  have hc1 := g0.cap
  have hm0 : cap0 ≤ 9223372036854775807 := by have := h0.max; unfold maxLen at this; omega
  have hm1 : cap1 ≤ 9223372036854775807 := by have := g0.max; unfold maxLen at this; omega
  have h := h0.take (k := min 18 len0) (by omega)
  have g := g0.take (k := min 18 len1) (by omega)
  obtain ⟨n, hn⟩ : ∃ n, n = min 18 len0 := ⟨_, rfl⟩
  obtain ⟨m, hm⟩ : ∃ m, m = min 18 len1 := ⟨_, rfl⟩
  rw [← hn] at h
  rw [← hm] at g
  have Hn : Hid (n = min 18 len0) := hn
  have Hm : Hid (m = min 18 len1) := hm
  have hn18 : n ≤ 18 := by omega
  have hm18 : m ≤ 18 := by omega
  generalize X0.take n = X at h
  generalize Y0.take m = Y at g
  clear hn hm h0 g0
  have hD0 : 0 < tl (nz [1, 1]) 2 := by decide
  have hnX := nm_bd (-x)
  have HD : Hid (nrm [nm (-x), 1] = [nm (-x), 1]) := nrm_id (Nml.lin hnX)
  have HDt : Hid (0 < tl (nz [nm (-x), 1]) 2) := by
    have := tl_nrm (Nml.lin hnX)
    show 0 < tl (nz [nm (-x), 1]) [nm (-x), 1].length
    rw [this]; exact Nat.succ_pos _
  have hv0 := nm_bd (ev X x)
  have hy0 := nm_bd (ev Y x)
  go_enter Try.func3, Try.ntmps3
  go_wp2_with fail
  have hb1 := below_one w (.cells #[.int .u64 2147483646, .int .u64 0, .int .u64 1] 23)
  have r1 := rd_of3 w (x := 2147483646) (y := 0) (z := 1) (by omega) (by omega) (by omega)
  have hs1 : (w.alloc (.cells #[.int .u64 2147483646, .int .u64 0, .int .u64 1] 23)).heap.size = w.heap.size + 1 := by simp
  generalize w.alloc (.cells #[.int .u64 2147483646, .int .u64 0, .int .u64 1] 23) = v1 at *
  have hb2 := below_one v1 (.cells #[.int .u64 1, .int .u64 1] 23)
  have r2 := rd_of2 v1 (x := 1) (y := 1) (by omega) (by omega)
  rw [hs1] at r2
  generalize v1.alloc (.cells #[.int .u64 1, .int .u64 1] 23) = v2 at *
  have hw2 := hb1.trans (hb2.mono hb1.size)
  refine (cDivOK _ _ _ _ _ _ _ _ _ (r1.below hb2) r2 (by omega) (by omega) hD0).mono ?_
  rintro e v3 ⟨Q, R, aq, ar, cq, cr, rfl, hq3, hr3, nQ, nR, hRl, hQl, hid, hb3⟩
  obtain ⟨rfl, rfl⟩ := div_known nQ nR hRl hQl hid
  have hw3 := hw2.trans (hb3.mono hw2.size)
  clear hid nQ nR hRl hQl hr3 hb3 hw2 hb2 hb1 hs1 r1 r2 hD0
  have hb4 := below_one v3 (.cells #[.int .u64 2147483646, .int .u64 1] 23)
  have r4 := rd_of2 v3 (x := 2147483646) (y := 1) (by omega) (by omega)
  go_wp2_with fail
  generalize v3.alloc (.cells #[.int .u64 2147483646, .int .u64 1] 23) = v4 at *
  have hw4 := hw3.trans (hb4.mono hw3.size)
  refine (cSame _ _ _ _ _ _ _ _ (hq3.below hb4) r4).mono ?_
  rintro e v5 ⟨rfl, hb5⟩
  have hw5 := hw4.trans (hb5.mono hw4.size)
  clear hq3 hb4 r4 hb5 hw4 hw3
  go_wp2_with (first | (go_at_call 7; refine (kShort _ _ _ 18 _ (by omega) (by omega)).mono ?_; rintro e w' ⟨rfl, hw⟩; have hw := hw.symm; subst hw) | fail)
  rw [← Hn.out, ← Hm.out]
  have hb6 := below_one v5 (.cells #[.int .u64 (nm (-x)), .int .u64 1] 23)
  have r6 := rd_of2 v5 (x := nm (-x)) (y := 1) (by omega) (by omega)
  go_wp2_with (first | (go_at_call 8; refine (fSub _ _ _ (by omega) (by omega) (by omega) (by omega)).mono ?_; rintro e w' ⟨rfl, hw⟩; have hw := hw.symm; subst hw) | fail)
  generalize v5.alloc (.cells #[.int .u64 (nm (-x)), .int .u64 1] 23) = v6 at *
  have hw6 := hw5.trans (hb6.mono hw5.size)
  refine (cDivOK _ _ _ _ _ _ _ _ _ (h.below hw6) r6 (by omega) (by omega) HDt.out).mono ?_
  rintro e v7 ⟨Q, R, aq, ar, cq, cr, rfl, hq7, hr7, nQ, nR, hRl, hQl, hid, hb7⟩
  rw [HD.out] at hid hRl
  have HV : Hid (R.getD 0 0 = nm (ev X x)) := rest_val nR hRl hid
  have hw7 := hw6.trans (hb7.mono hw6.size)
  obtain ⟨q, hq⟩ : ∃ q, q = Q.length := ⟨_, rfl⟩
  obtain ⟨r, hr⟩ : ∃ r, r = R.length := ⟨_, rfl⟩
  rw [← hq, ← hr]
  rw [← hr] at hr7
  have hRl2 : r < 2 := by rw [hr]; exact hRl
  have hQl2 : q ≤ 40 := by rw [hq]; exact hQl
  clear hq hr hid nQ nR hRl hQl hb7 hw6 hb6 r6 hw5 hq7
  go_wp2_with fail
  refine (cEvalOK _ _ _ _ _ _ (h.below hw7) (by omega) hx0 hx1).mono ?_
  rintro e v8 ⟨rfl, hb8⟩
  have hw8 := hw7.trans (hb8.mono hw7.size)
  have hr8 := hr7.below hb8
  clear hr7 hb8 hw7
  by_cases hr0 : r = 0
  · have hvz : (nm (ev X x) != 0) = false := by
      have := HV.out
      rw [getD_big (by rw [hr8.len]; omega)] at this
      rw [← this]; rfl
    have hrb : ((r : Int) == 1) = false := by rw [beq_eq_false_iff_ne]; omega
    have hrc : ((r : Int) == 0) = true := by rw [beq_iff_eq]; omega
    clear hr0
    go_wp2_with fail
    refine (cEvalOK _ _ _ _ _ _ (g.below hw8) (by omega) hx0 hx1).mono ?_
    rintro e v9 ⟨rfl, hb9⟩
    have hw9 := hw8.trans (hb9.mono hw8.size)
    clear hb9 hw8 hr8
    go_wp2_with fail
    refine (cMulAll _ _ _ _ _ _ _ _ _ (h.below hw9) (g.below hw9) (by omega) (by omega) (by omega)).mono ?_
    rintro e v10 ⟨p, ap, cp, rfl, hp10, hpl, hpv, hb10⟩
    have HPV : Hid (nm (ev p x) = nm (nm (ev X x) * nm (ev Y x))) := by rw [nm_mull, nm_mulr]; exact hpv x
    have hw10 := hw9.trans (hb10.mono hw9.size)
    obtain ⟨pl, hpl2⟩ : ∃ pl, pl = p.length := ⟨_, rfl⟩
    rw [← hpl2] at hp10 hpl ⊢
    clear hpl2 hpv hb10 hw9
    go_wp2_with fail
    refine (cEvalOK _ _ _ _ _ _ hp10 (by omega) hx0 hx1).mono ?_
    rintro e v11 ⟨rfl, hb11⟩
    rw [HPV.out]
    have hw11 := hw10.trans (hb11.mono hw10.size)
    clear hb11 hw10 hp10
    go_wp2_with (go_at_call 11; refine (fMul _ _ _ (by omega) (by omega) (by omega) (by omega)).mono ?_; rintro e w' ⟨rfl, hw⟩; have hw := hw.symm; subst hw)
    go_ret
    exact ⟨rfl, hw11⟩
  · have hr1 : r = 1 := by omega
    subst hr1
    obtain ⟨b9, o9, z, rfl, _, HZ, hz0, hz1, hcz⟩ := hr8.one (show 0 < 1 by omega)
    rw [Nat.add_zero] at hcz
    have hvz : (z != nm (ev X x)) = false := by
      rw [← HZ.out, HV.out, bne_self_eq_false]
    go_wp2_with fail
    refine (cEvalOK _ _ _ _ _ _ (g.below hw8) (by omega) hx0 hx1).mono ?_
    rintro e v9 ⟨rfl, hb9⟩
    have hw9 := hw8.trans (hb9.mono hw8.size)
    clear hb9 hw8 hr8
    go_wp2_with fail
    refine (cMulAll _ _ _ _ _ _ _ _ _ (h.below hw9) (g.below hw9) (by omega) (by omega) (by omega)).mono ?_
    rintro e v10 ⟨p, ap, cp, rfl, hp10, hpl, hpv, hb10⟩
    have HPV : Hid (nm (ev p x) = nm (nm (ev X x) * nm (ev Y x))) := by rw [nm_mull, nm_mulr]; exact hpv x
    have hw10 := hw9.trans (hb10.mono hw9.size)
    obtain ⟨pl, hpl2⟩ : ∃ pl, pl = p.length := ⟨_, rfl⟩
    rw [← hpl2] at hp10 hpl ⊢
    clear hpl2 hpv hb10 hw9
    go_wp2_with fail
    refine (cEvalOK _ _ _ _ _ _ hp10 (by omega) hx0 hx1).mono ?_
    rintro e v11 ⟨rfl, hb11⟩
    rw [HPV.out]
    have hw11 := hw10.trans (hb11.mono hw10.size)
    clear hb11 hw10 hp10
    go_wp2_with (go_at_call 11; refine (fMul _ _ _ (by omega) (by omega) (by omega) (by omega)).mono ?_; rintro e w' ⟨rfl, hw⟩; have hw := hw.symm; subst hw)
    go_ret
    exact ⟨rfl, hw11⟩
end Go.Proofs.Ytihiolnagcelkad
