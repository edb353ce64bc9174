/- poly.Norm, poly.Mul, poly.Eval. · The walk of croftlaw.PolySays. -/
import Derived.Test.YtljlioglpaogdaaToProdC
import Derived.Test.YtljlioglpaogdaaToRefProdC
namespace Go.Proofs.Ytljlioglpaogdaa
set_option linter.unusedVariables false
set_option maxRecDepth 100000
set_option maxHeartbeats 8000000
section
open Crm Go.RowKit
/-- What normal has made reads as the normal polynomial. -/
theorem Blk.nrm {w : World} {g n : Nat} {xs : List Int} (h : Blk w g (nz xs)) (hl : xs.length = n) (hn : n ≤ 1000000) : Rd w (some ⟨g, 0, none⟩) (tl (nz xs) n) n (Crm.nrm xs) := by
  have ht := tl_le (nz xs) n
  have := h.rd 0 (tl (nz xs) n) n ht (by unfold maxLen; omega) (by rw [nz_len]; omega) (nz_bd xs)
  rw [List.drop_zero] at this
  have e : Crm.nrm xs = (nz xs).take (tl (nz xs) n) := by unfold Crm.nrm trm; rw [nz_len, hl]
  rw [e]
  exact this

theorem cNormL (a : Option Addr) (n c : Nat) (w : World) (hm : n ≤ 9223372036854775807) (hn : 40 < n) :
    Calls Try.prog 24 #[.slice a n c] w fun e w' => e = .returned (.tuple #[.slice none 0 0, .int .i64 2]) ∧ w' = w := by
  go_enter Try.func24, Try.ntmps24
  go_wp2
  go_ret2
  exact ⟨rfl, rfl⟩

theorem cNormOK (a : Option Addr) (n c : Nat) (xs : List Int) (w : World) (h : Rd w a n c xs) (hn : n ≤ 40) :
    Calls Try.prog 24 #[.slice a n c] w fun e w' => e = .returned (.tuple #[.slice (some ⟨w.heap.size, 0, none⟩) (tl (nz xs) n) n, .int .i64 0]) ∧ Rd w' (some ⟨w.heap.size, 0, none⟩) (tl (nz xs) n) n (nrm xs) ∧ Below w.heap.size w w' := by
  go_enter Try.func24, Try.ntmps24
  go_wp2_with (go_at_call 49; refine (cNormal _ _ _ _ _ h (by omega)).mono ?_; rintro e w1 ⟨rfl, hb, hbel⟩)
  go_ret2
  exact ⟨rfl, hb.nrm h.len (by omega), hbel⟩

theorem cEvalL (a : Option Addr) (n c : Nat) (x : Int) (w : World) (hm : n ≤ 9223372036854775807) (hn : 40 < n) :
    Calls Try.prog 26 #[.slice a n c, .int .u64 x] w fun e w' => e = .returned (.tuple #[.int .u64 0, .int .i64 2]) ∧ w' = w := by
  go_enter Try.func26, Try.ntmps26
  go_wp2
  go_ret2
  exact ⟨rfl, rfl⟩

theorem cEvalOK (a : Option Addr) (n c : Nat) (xs : List Int) (x : Int) (w : World) (h : Rd w a n c xs) (hn : n ≤ 40) (hx0 : 0 ≤ x) (hx1 : x ≤ 18446744073709551615) :
    Calls Try.prog 26 #[.slice a n c, .int .u64 x] w fun e w' => e = .returned (.tuple #[.int .u64 (nm (ev xs x)), .int .i64 0]) ∧ Below w.heap.size w w' := by
  go_enter Try.func26, Try.ntmps26
  go_wp2_with (go_at_call 51; refine (cValue _ _ _ _ _ _ h hx0 hx1).mono ?_; rintro e w1 ⟨rfl, hbel⟩)
  go_ret2
  exact ⟨rfl, hbel⟩

theorem cMulL (a : Option Addr) (n c : Nat) (b : Option Addr) (m d : Nat) (w : World) (hn : n ≤ 9223372036854775807) (hm : m ≤ 9223372036854775807) (h : 40 < n ∨ 40 < m) :
    Calls Try.prog 25 #[.slice a n c, .slice b m d] w fun e w' => e = .returned (.tuple #[.slice none 0 0, .int .i64 2]) ∧ w' = w := by
  by_cases h1 : 40 < n
  · clear h
    go_enter Try.func25, Try.ntmps25
    go_wp2
    go_ret2
    exact ⟨rfl, rfl⟩
  · have h2 : 40 < m := by omega
    clear h
    go_enter Try.func25, Try.ntmps25
    go_wp2
    go_ret2
    exact ⟨rfl, rfl⟩

theorem cMul0 (a : Option Addr) (n c : Nat) (xs : List Int) (b : Option Addr) (m d : Nat) (ys : List Int) (w : World) (h : Rd w a n c xs) (g : Rd w b m d ys) (hn : n ≤ 40) (hm : m ≤ 40) (hxy : tl (nz xs) n = 0 ∨ tl (nz ys) m = 0) :
    Calls Try.prog 25 #[.slice a n c, .slice b m d] w fun e w' => e = .returned (.tuple #[.slice none 0 0, .int .i64 0]) ∧ Below w.heap.size w w' := by
  have hn1 := tl_le (nz xs) n
  have hm1 := tl_le (nz ys) m
  obtain ⟨N, HN⟩ : ∃ N, Hid (tl (nz xs) n = N) := ⟨_, rfl⟩
  obtain ⟨M, HM⟩ : ∃ M, Hid (tl (nz ys) m = M) := ⟨_, rfl⟩
  rw [HN.out] at hxy hn1
  rw [HM.out] at hxy hm1
  go_enter Try.func25, Try.ntmps25
  go_wp2_with fail
  refine (cNormal _ _ _ _ _ h (by omega)).mono ?_
  rintro e w1 ⟨rfl, hr1, hb1⟩
  rw [HN.out]
  go_wp2_with fail
  refine (cNormal _ _ _ _ _ (g.below hb1) (by omega)).mono ?_
  rintro e w2 ⟨rfl, hr2, hb2⟩
  rw [HM.out]
  have hb12 : Below w.heap.size w w2 := hb1.trans (hb2.mono hb1.size)
  clear hr1 hb1 hb2 h g hr2
  by_cases hN : N = 0
  · have hNb : ((N : Int) == 0) = true := by rw [beq_iff_eq]; omega
    clear hxy hN
    go_wp2
    go_ret2
    exact ⟨rfl, hb12⟩
  · have hNb : ((N : Int) == 0) = false := by rw [beq_eq_false_iff_ne]; omega
    have hMb : ((M : Int) == 0) = true := by rw [beq_iff_eq]; omega
    clear hxy hN
    go_wp2
    go_ret2
    exact ⟨rfl, hb12⟩

theorem cMulB (a : Option Addr) (n c : Nat) (xs : List Int) (b : Option Addr) (m d : Nat) (ys : List Int) (w : World) (h : Rd w a n c xs) (g : Rd w b m d ys) (hn : n ≤ 40) (hm : m ≤ 40) (hx : 0 < tl (nz xs) n) (hy : 0 < tl (nz ys) m) (hxy : 41 < tl (nz xs) n + tl (nz ys) m) :
    Calls Try.prog 25 #[.slice a n c, .slice b m d] w fun e w' => e = .returned (.tuple #[.slice none 0 0, .int .i64 2]) ∧ Below w.heap.size w w' := by
  have hn1 := tl_le (nz xs) n
  have hm1 := tl_le (nz ys) m
  obtain ⟨N, HN⟩ : ∃ N, Hid (tl (nz xs) n = N) := ⟨_, rfl⟩
  obtain ⟨M, HM⟩ : ∃ M, Hid (tl (nz ys) m = M) := ⟨_, rfl⟩
  rw [HN.out] at hxy hn1 hx
  rw [HM.out] at hxy hm1 hy
  have hNb : ((N : Int) == 0) = false := by rw [beq_eq_false_iff_ne]; omega
  have hMb : ((M : Int) == 0) = false := by rw [beq_eq_false_iff_ne]; omega
  go_enter Try.func25, Try.ntmps25
  go_wp2_with fail
  refine (cNormal _ _ _ _ _ h (by omega)).mono ?_
  rintro e w1 ⟨rfl, hr1, hb1⟩
  rw [HN.out]
  go_wp2_with fail
  refine (cNormal _ _ _ _ _ (g.below hb1) (by omega)).mono ?_
  rintro e w2 ⟨rfl, hr2, hb2⟩
  rw [HM.out]
  have hb12 : Below w.heap.size w w2 := hb1.trans (hb2.mono hb1.size)
  clear hr1 hb1 hb2 h g hr2
  go_wp2
  go_ret2
  exact ⟨rfl, hb12⟩

theorem cMulOK (a : Option Addr) (n c : Nat) (xs : List Int) (b : Option Addr) (m d : Nat) (ys : List Int) (w : World) (h : Rd w a n c xs) (g : Rd w b m d ys) (hn : n ≤ 40) (hm : m ≤ 40) (hx : 0 < tl (nz xs) n) (hy : 0 < tl (nz ys) m) (hxy : tl (nz xs) n + tl (nz ys) m ≤ 41) :
    Calls Try.prog 25 #[.slice a n c, .slice b m d] w fun e w' => ∃ a', e = .returned (.tuple #[.slice a' (tl (nz xs) n + tl (nz ys) m - 1) (tl (nz xs) n + tl (nz ys) m - 1), .int .i64 0]) ∧ Rd w' a' (tl (nz xs) n + tl (nz ys) m - 1) (tl (nz xs) n + tl (nz ys) m - 1) (cvl (nrm xs) (nrm ys)) ∧ Below w.heap.size w w' := by
  have hn1 := tl_le (nz xs) n
  have hm1 := tl_le (nz ys) m
  have hlx := h.len
  have hly := g.len
  obtain ⟨N, HN⟩ : ∃ N, Hid (tl (nz xs) n = N) := ⟨_, rfl⟩
  obtain ⟨M, HM⟩ : ∃ M, Hid (tl (nz ys) m = M) := ⟨_, rfl⟩
  rw [HN.out] at hxy hn1 hx
  rw [HM.out] at hxy hm1 hy
  rw [HN.out, HM.out]
  have hNb : ((N : Int) == 0) = false := by rw [beq_eq_false_iff_ne]; omega
  have hMb : ((M : Int) == 0) = false := by rw [beq_eq_false_iff_ne]; omega
  go_enter Try.func25, Try.ntmps25
  go_wp2_with fail
  refine (cNormal _ _ _ _ _ h (by omega)).mono ?_
  rintro e w1 ⟨rfl, hr1, hb1⟩
  rw [HN.out]
  go_wp2_with fail
  refine (cNormal _ _ _ _ _ (g.below hb1) (by omega)).mono ?_
  rintro e w2 ⟨rfl, hr2, hb2⟩
  rw [HM.out]
  have hb12 : Below w.heap.size w w2 := hb1.trans (hb2.mono hb1.size)
  have hsz := hb12.size
  have r1 := (hr1.below hb2 hr1.lt).nrm hlx (by omega)
  have r2 := hr2.nrm hly (by omega)
  rw [HN.out] at r1
  rw [HM.out] at r2
  clear hr1 hb1 hb2 h g hr2
  go_wp2_with (go_at_call 50; refine (cProduct _ _ _ _ _ _ _ _ _ r1 r2 (by omega) (by omega) (by omega) (by omega)).mono ?_; rintro e w3 ⟨rfl, hb3, hbel3⟩)
  go_ret2
  refine ⟨_, rfl, ?_, hb12.trans (hbel3.mono hsz)⟩
  have hlen : (cvl (nrm xs) (nrm ys)).length = N + M - 1 := by
    unfold cvl
    rw [List.length_map, List.length_range, r1.len, r2.len]
  have := hb3.rd 0 (N + M - 1) (N + M - 1) (Nat.le_refl _) (by unfold maxLen; omega) (by omega) (pc_bd _ _ _ _)
  rwa [List.drop_zero, List.take_of_length_le (by omega)] at this
theorem polySaysW (a0 : Option Addr) (len0 cap0 : Nat) (X : List Int) (a1 : Option Addr) (len1 cap1 : Nat) (Y : List Int) (a2 : Int) (w : World) (h : Rd w a0 len0 cap0 X) (g : Rd w a1 len1 cap1 Y) (hx0 : 0 ≤ a2) (hx1 : a2 ≤ 18446744073709551615) :
    Calls Try.prog 4 #[.slice a0 len0 cap0, .slice a1 len1 cap1, .int .u64 a2] w fun e w' => e = .returned (.bool true) ∧ Below w.heap.size w w' := by
  have hm0 : len0 ≤ 9223372036854775807 := by have := h.cap; have := h.max; unfold maxLen at this; omega
  have hm1 : len1 ≤ 9223372036854775807 := by have := g.cap; have := g.max; unfold maxLen at this; omega
  by_cases hn : 40 < len0
  · go_enter Try.func4, Try.ntmps4
    go_wp2_with (first | (go_at_call 24; refine (cNormL _ _ _ _ hm0 hn).mono ?_; rintro e w' ⟨rfl, rfl⟩) | (go_at_call 25; refine (cMulL _ _ _ _ _ _ _ hm0 hm1 (.inl hn)).mono ?_; rintro e w' ⟨rfl, rfl⟩) | (go_at_call 26; refine (cEvalL _ _ _ _ _ hm0 hn).mono ?_; rintro e w' ⟨rfl, rfl⟩) | fail)
    refine (cSame _ _ _ _ _ _ _ _ (nil_rd _) (nil_rd _)).mono ?_
    rintro e v1 ⟨rfl, hv1⟩
    go_wp2_with fail
    refine (cSame _ _ _ _ _ _ _ _ (nil_rd _) (nil_rd _)).mono ?_
    rintro e v2 ⟨rfl, hv2⟩
    have hv := hv1.trans (hv2.mono hv1.size)
    go_wp2
    go_ret
    exact ⟨rfl, hv⟩
  · by_cases hm : 40 < len1
    · go_enter Try.func4, Try.ntmps4
      go_wp2_with fail
      refine (rNormal _ _ _ _ _ h (by omega)).mono ?_
      rintro e v1 ⟨b1, c1, rfl, hr1, hv1, _⟩
      go_wp2_with fail
      refine (rEval _ _ _ _ _ _ (h.below hv1) (by omega) hx0 hx1).mono ?_
      rintro e v1' ⟨rfl, rfl⟩
      go_wp2_with fail
      refine (cNormOK _ _ _ _ _ (h.below hv1) (by omega)).mono ?_
      rintro e v2 ⟨rfl, hr2, hv2⟩
      have hw2 := hv1.trans (hv2.mono hv1.size)
      go_wp2_with fail
      refine (cMulL _ _ _ _ _ _ _ hm0 hm1 (.inr hm)).mono ?_
      rintro e v2' ⟨rfl, rfl⟩
      go_wp2_with fail
      refine (cEvalOK _ _ _ _ _ _ (h.below hw2) (by omega) hx0 hx1).mono ?_
      rintro e v3 ⟨rfl, hv3⟩
      have hw3 := hw2.trans (hv3.mono hw2.size)
      go_wp2_with fail
      refine (cSame _ _ _ _ _ _ _ _ (hr2.below hv3) ((hr1.below hv2).below hv3)).mono ?_
      rintro e v4 ⟨rfl, hv4⟩
      have hw4 := hw3.trans (hv4.mono hw3.size)
      go_wp2_with fail
      refine (cSame _ _ _ _ _ _ _ _ (nil_rd _) (nil_rd _)).mono ?_
      rintro e v5 ⟨rfl, hv5⟩
      have hw5 := hw4.trans (hv5.mono hw4.size)
      clear hr1 hr2 hv1 hv2 hv3 hv4 hv5 hw2 hw3 hw4 h g
      go_wp2
      go_ret
      exact ⟨rfl, hw5⟩
    · by_cases hz : tl (nz X) len0 = 0 ∨ tl (nz Y) len1 = 0
      · go_enter Try.func4, Try.ntmps4
        have HZ : Hid (tl (nz X) len0 = 0 ∨ tl (nz Y) len1 = 0) := hz
        clear hz
        go_wp2_with fail
        refine (rNormal _ _ _ _ _ h (by omega)).mono ?_
        rintro e v1 ⟨b1, c1, rfl, hr1, hv1, _⟩
        go_wp2_with fail
        refine (rEval _ _ _ _ _ _ (h.below hv1) (by omega) hx0 hx1).mono ?_
        rintro e v1' ⟨rfl, rfl⟩
        go_wp2_with fail
        refine (rProduct0 _ _ _ _ _ _ _ _ _ (h.below hv1) (g.below hv1) (by omega) (by omega) HZ.out).mono ?_
        rintro e va ⟨rfl, hva⟩
        have hwa := hv1.trans (hva.mono hv1.size)
        go_wp2_with fail
        refine (cNormOK _ _ _ _ _ (h.below hwa) (by omega)).mono ?_
        rintro e v2 ⟨rfl, hr2, hv2⟩
        have hw2 := hwa.trans (hv2.mono hwa.size)
        go_wp2_with fail
        refine (cMul0 _ _ _ _ _ _ _ _ _ (h.below hw2) (g.below hw2) (by omega) (by omega) HZ.out).mono ?_
        rintro e vb ⟨rfl, hvb⟩
        have hwb := hw2.trans (hvb.mono hw2.size)
        go_wp2_with fail
        refine (cEvalOK _ _ _ _ _ _ (h.below hwb) (by omega) hx0 hx1).mono ?_
        rintro e v3 ⟨rfl, hv3⟩
        have hw3 := hwb.trans (hv3.mono hwb.size)
        go_wp2_with fail
        refine (cSame _ _ _ _ _ _ _ _ ((hr2.below hvb).below hv3) ((((hr1.below hva).below hv2).below hvb).below hv3)).mono ?_
        rintro e v4 ⟨rfl, hv4⟩
        have hw4 := hw3.trans (hv4.mono hw3.size)
        go_wp2_with fail
        refine (cSame _ _ _ _ _ _ _ _ (nil_rd _) (nil_rd _)).mono ?_
        rintro e v5 ⟨rfl, hv5⟩
        have hw5 := hw4.trans (hv5.mono hw4.size)
        clear hr1 hr2 hv1 hv2 hv3 hv4 hv5 hw2 hw3 hw4 h g hva hvb hwa hwb
        go_wp2
        go_ret
        exact ⟨rfl, hw5⟩
      · have hzx : 0 < tl (nz X) len0 := by omega
        have hzy : 0 < tl (nz Y) len1 := by omega
        have hN1 := tl_le (nz X) len0
        have hM1 := tl_le (nz Y) len1
        clear hz
        by_cases hb : 41 < tl (nz X) len0 + tl (nz Y) len1
        · obtain ⟨R, HR⟩ : ∃ R, Hid (tl (nz X) len0 + tl (nz Y) len1 - 1 = R) := ⟨_, rfl⟩
          have hR : 40 < R := by have := HR.out; omega
          have hR2 : R ≤ 80 := by have := HR.out; omega
          go_enter Try.func4, Try.ntmps4
          go_wp2_with fail
          refine (rNormal _ _ _ _ _ h (by omega)).mono ?_
          rintro e v1 ⟨b1, c1, rfl, hr1, hv1, _⟩
          go_wp2_with fail
          refine (rEval _ _ _ _ _ _ (h.below hv1) (by omega) hx0 hx1).mono ?_
          rintro e v1' ⟨rfl, rfl⟩
          go_wp2_with fail
          refine (rProduct1 _ _ _ _ _ _ _ _ _ (h.below hv1) (g.below hv1) (by omega) (by omega) hzx hzy).mono ?_
          rintro e va ⟨bp, cp, rfl, hrp, hva, _⟩
          rw [HR.out] at hrp ⊢
          have hwa := hv1.trans (hva.mono hv1.size)
          go_wp2_with fail
          refine (cNormOK _ _ _ _ _ (h.below hwa) (by omega)).mono ?_
          rintro e v2 ⟨rfl, hr2, hv2⟩
          have hw2 := hwa.trans (hv2.mono hwa.size)
          go_wp2_with fail
          refine (cMulB _ _ _ _ _ _ _ _ _ (h.below hw2) (g.below hw2) (by omega) (by omega) hzx hzy hb).mono ?_
          rintro e vb ⟨rfl, hvb⟩
          have hwb := hw2.trans (hvb.mono hw2.size)
          go_wp2_with fail
          refine (cEvalOK _ _ _ _ _ _ (h.below hwb) (by omega) hx0 hx1).mono ?_
          rintro e v3 ⟨rfl, hv3⟩
          have hw3 := hwb.trans (hv3.mono hwb.size)
          go_wp2_with fail
          refine (cSame _ _ _ _ _ _ _ _ ((hr2.below hvb).below hv3) ((((hr1.below hva).below hv2).below hvb).below hv3)).mono ?_
          rintro e v4 ⟨rfl, hv4⟩
          have hw4 := hw3.trans (hv4.mono hw3.size)
          go_wp2_with fail
          refine (cSame _ _ _ _ _ _ _ _ (nil_rd _) (nil_rd _)).mono ?_
          rintro e v5 ⟨rfl, hv5⟩
          have hw5 := hw4.trans (hv5.mono hw4.size)
          clear hr1 hr2 hv1 hv2 hv3 hv4 hv5 hw2 hw3 hw4 h g hva hvb hwa hwb
          go_wp2
          go_ret
          exact ⟨rfl, hw5⟩
        · obtain ⟨R, HR⟩ : ∃ R, Hid (tl (nz X) len0 + tl (nz Y) len1 - 1 = R) := ⟨_, rfl⟩
          have hR : R ≤ 40 := by have := HR.out; omega
          go_enter Try.func4, Try.ntmps4
          go_wp2_with fail
          refine (rNormal _ _ _ _ _ h (by omega)).mono ?_
          rintro e v1 ⟨b1, c1, rfl, hr1, hv1, _⟩
          go_wp2_with fail
          refine (rEval _ _ _ _ _ _ (h.below hv1) (by omega) hx0 hx1).mono ?_
          rintro e v1' ⟨rfl, rfl⟩
          go_wp2_with fail
          refine (rProduct1 _ _ _ _ _ _ _ _ _ (h.below hv1) (g.below hv1) (by omega) (by omega) hzx hzy).mono ?_
          rintro e va ⟨bp, cp, rfl, hrp, hva, _⟩
          rw [HR.out] at hrp ⊢
          have hwa := hv1.trans (hva.mono hv1.size)
          go_wp2_with fail
          refine (cNormOK _ _ _ _ _ (h.below hwa) (by omega)).mono ?_
          rintro e v2 ⟨rfl, hr2, hv2⟩
          have hw2 := hwa.trans (hv2.mono hwa.size)
          go_wp2_with fail
          refine (cMulOK _ _ _ _ _ _ _ _ _ (h.below hw2) (g.below hw2) (by omega) (by omega) hzx hzy (by omega)).mono ?_
          rintro e vb ⟨am, rfl, hrm, hvb⟩
          rw [HR.out] at hrm ⊢
          have hwb := hw2.trans (hvb.mono hw2.size)
          go_wp2_with fail
          refine (cEvalOK _ _ _ _ _ _ (h.below hwb) (by omega) hx0 hx1).mono ?_
          rintro e v3 ⟨rfl, hv3⟩
          have hw3 := hwb.trans (hv3.mono hwb.size)
          go_wp2_with fail
          refine (cSame _ _ _ _ _ _ _ _ ((hr2.below hvb).below hv3) ((((hr1.below hva).below hv2).below hvb).below hv3)).mono ?_
          rintro e v4 ⟨rfl, hv4⟩
          have hw4 := hw3.trans (hv4.mono hw3.size)
          go_wp2_with fail
          refine (cSame _ _ _ _ _ _ _ _ ((hrm.below hv3).below hv4) ((((hrp.below hv2).below hvb).below hv3).below hv4)).mono ?_
          rintro e v5 ⟨rfl, hv5⟩
          have hw5 := hw4.trans (hv5.mono hw4.size)
          clear hr1 hr2 hv1 hv2 hv3 hv4 hv5 hw2 hw3 hw4 h g hva hvb hwa hwb
          go_wp2
          go_ret
          exact ⟨rfl, hw5⟩
end
end Go.Proofs.Ytljlioglpaogdaa
