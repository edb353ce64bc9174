/- twine.Deal. · The walk of croftlaw.TwineDeals. -/
import Derived.Test.YtljlioglpaogdabToTwApC
import Derived.Test.YtljlioglpaogdabTwFillC
import Derived.Test.YtljlioglpaogdabToTwDlM
import Derived.Deep.WholeRow
import Derived.Test.YtljlioglpaogdabToTrimC
import Derived.Test.YtljlioglpaogdabToRows2
import Derived.Test.YtljlioglpaogdabToPolyM3
import Derived.Test.YtljlioglpaogdabDecodeM
import Derived.Test.YtljlioglpaogdabToJoinC
import Derived.Test.YtljlioglpaogdabToDealC
import Derived.Laws.CopyOwn
import Derived.Deep.QuietTactic
import Derived.BigQuiet
namespace Go.Proofs.Ytljlioglpaogdab
set_option linter.unusedVariables false
set_option maxRecDepth 100000
set_option maxHeartbeats 8000000
section
open Crm Go.RowKit
theorem cTwDeal (s t : Int) (a0 : Option Addr) (m c0 : Nat) (ds : List Int) (n : Int) (w : World) (h : Rd w a0 m c0 ds) (hs0 : 0 ≤ s) (hs1 : s ≤ 18446744073709551615) : Calls Try.prog 15 #[.int .u64 s, .int .i64 t, .slice a0 m c0, .int .i64 n] w fun e w' => Dwl s ds t n m w e w' := by
  obtain ⟨i0, hi, hz0, hz1, hz2⟩ := info_parts infoRow
  have hcap := h.cap
  have hmax := h.max
  unfold maxLen at hmax
  go_enter Try.func15, Try.ntmps15
  go_wp2_with fail
  refine (cTwNeed _ _).mono ?_
  rintro e w1 ⟨⟨hT, rfl⟩ | ⟨k, rfl, hk4, rfl⟩, hb1⟩
  · have HT : Hid (t < 0 ∨ 4 < t) := hT
    clear hT
    go_wp2
    go_ret2
    exact ⟨.inl ⟨fun k hk => by have := hk.1; have := hk.2.1; have := HT.out; omega, rfl⟩, hb1⟩
  · have hn14 := need2_bd hk4
    obtain ⟨N, HN⟩ : ∃ N, Hid (need2 k = N) := ⟨_, rfl⟩
    rw [HN.out] at hn14
    rw [HN.out]
    by_cases hmN : m = N
    · have HMN : Hid (m = N) := hmN
      have hmb : ((m : Int) != (N : Int)) = false := by rw [bne_eq_false_iff_eq]; omega
      have hm14 : m ≤ 14 := by omega
      clear hmN
      by_cases hnk : n ≤ (k : Int)
      · go_wp2
        go_ret2
        exact ⟨.inl ⟨fun j hj => by have h1 := hj.1; have h2 := hj.2.2.2.1; omega, rfl⟩, hb1⟩
      · by_cases hn9 : 9 < n
        · go_wp2
          go_ret2
          exact ⟨.inl ⟨fun j hj => by have h2 := hj.2.2.2.2; omega, rfl⟩, hb1⟩
        · obtain ⟨q, rfl⟩ : ∃ q : Nat, n = q := ⟨n.toNat, by omega⟩
          have hq9 : q ≤ 9 := by omega
          go_wp2_with fail
          refine (cFill _ _ _ _ _ _ _ (h.below hb1) hs0 hs1 hk4 (by rw [HMN.out, HN.out])).mono ?_
          rintro e w2 ⟨⟨C, rfl, hSq⟩, hb2⟩
          have HSq : Hid (Sqr s ds k (k + 1) (k + 1) C) := hSq
          have hbw2 := hb1.trans (hb2.mono hb1.size)
          have hl := hSq.len
          have Hin : Hid ((Try.prog.info? 79).map (·.size) = some (C.map (Value.int .u64)).toArray.size) := by unfold Hid; simp only [List.size_toArray, List.length_map, hl]; exact infoSq
          have Hne : Hid (((List.replicate 25 (0 : Int)).map (Value.int .u64)).toArray.size = (C.map (Value.int .u64)).toArray.size) := by unfold Hid; simp [hl]
          have Hon : Hid ((C.map (Value.int .u64)).toArray.all (·.oneCell') = true) := by
            unfold Hid
            rw [Array.all_eq_true_iff_forall_mem]
            intro v hv
            obtain ⟨x, _, rfl⟩ := List.mem_map.1 (show v ∈ C.map (Value.int .u64) by simpa using hv)
            rfl
          have hQ : BlkQ (w2.alloc (.cells (C.map (Value.int .u64)).toArray 79)) w2.heap.size C := heap_alloc_new w2 _
          have hbA : Below w2.heap.size w2 (w2.alloc (.cells (C.map (Value.int .u64)).toArray 79)) := (Below.refl _ _).alloc (Nat.le_refl _) _
          have hbwA := hbw2.trans (hbA.mono hbw2.size)
          clear hSq hl hb1 hb2 hbw2 hbA
          go_wp2_with (first | (refine wpList_store_row rfl 79 _ _ rfl w2.heap.size (C.map (Value.int .u64)).toArray rfl rfl 79 ((List.replicate 25 (0 : Int)).map (Value.int .u64)).toArray (heap_alloc_new w2 _) Hin.out Hne.out Hon.out ?_; rw [World.setRow_alloc_new]; generalize w2.alloc (.cells (C.map (Value.int .u64)).toArray 79) = w3 at *) | (at_make; refine wpList_make_full _ rfl _ _ 36 rfl w3.heap.size 83 i0 (.agg #[.int .i64 0, .slice none 0 0]) 2 Try.underlying36 hi hz0 hz1 .i64 .i64 _ _ q rfl rfl (by omega) (by omega) (by rw [hz2]; omega) (by unfold maxLen; omega) (Nat.le_refl _) ?_; intro w4 hown hgrow))
          have hb4 : Below w3.heap.size w3 w4 := (Below.refl _ _).grown hgrow (Nat.le_refl _) (by simp)
          have hL4 := lsw_made hown
          rw [dlw_zero s ds k] at hL4
          have hQ4 := hQ.below hb4 hQ.lt
          have hq3 := hQ.lt
          clear hown hgrow hQ
          go_loopw [44] (fun i wr => ∃ (r : Nat) (L : List (Int × Value)), r ≤ q ∧ i = .int .i64 r ∧ LsW wr w3.heap.size (.slice (some ⟨w3.heap.size, 0, none⟩) q q) L (dlw s ds k q r) ∧ BlkQ wr w2.heap.size C ∧ Below w3.heap.size w3 wr) (fun i _ => q - (intOf i).toNat)
          case atStart => exact ⟨0, _, Nat.zero_le _, rfl, hL4, hQ4, hb4⟩
          case round =>
            clear hL4 hQ4 hb4
            obtain ⟨r, L, hr, rfl, hL, hQr, hb5⟩ := hrel
            have hs5 := hb5.size
            have hdl := dlw_len s ds k q r
            by_cases hrq : r < q
            · have HR1 : Hid ((r : Int) + 1 = ((r + 1 : Nat) : Int)) := by unfold Hid; push_cast; rfl
              have HRK : Hid (rowK s ds k ((r + 1 : Nat) : Int) (k + 1) = rowK s ds k ((r : Int) + 1) (k + 1)) := by unfold Hid; rw [HR1.out]
              go_wp2_with fail
              rw [HR1.out]
              refine (cSqRow _ _ _ _ _ (r + 1) _ hQr HSq.out hk4 (by omega)).mono ?_
              rintro e w6 ⟨u, rfl, hown6, hb6⟩
              rw [HRK.out] at hown6
              have hL6 := hL.below hb6
              have hQ6 := hQr.below hb6 hQr.lt
              have hb36 := hb5.trans (hb6.mono hs5)
              have hrl := rowK_len s ds k ((r : Int) + 1) (k + 1)
              have hnew := hL.new (Nat.le_refl _) hown6
              have hown7 : w6.ownsRow w3.heap.size 28 1 (.slice (some ⟨u, 0, none⟩) (k + 1) (k + 1)) (rowK s ds k ((r : Int) + 1) (k + 1)).length ((rowK s ds k ((r : Int) + 1) (k + 1)).map (Value.int .u64)) := by rw [hrl]; exact own_base hown6 hs5
              have HL8 := hL6.put (q := r) (x := (r : Int) + 1) hdl hrq hown7 hnew
              rw [dlw_set] at HL8
              obtain ⟨⟨v0, d0⟩, ⟨v1, d1⟩, f0, f1⟩ := hL6.cells hdl hrq
              have hlt6 : w3.heap.size < w6.heap.size := World.block_lt_of_cell? w6 _ d0
              have HL9 : Hid (LsW _ _ _ _ _) := HL8
              have HQ9 : Hid (BlkQ ((w6.setCell ⟨w3.heap.size, r * 2, none⟩ (.int .i64 ((r : Int) + 1))).setCell ⟨w3.heap.size, r * 2 + 1, none⟩ (.slice (some ⟨u, 0, none⟩) (k + 1) (k + 1))) w2.heap.size C) := (hQ6.other (by omega)).other (by omega)
              have HB9 : Hid (Below w3.heap.size w3 ((w6.setCell ⟨w3.heap.size, r * 2, none⟩ (.int .i64 ((r : Int) + 1))).setCell ⟨w3.heap.size, r * 2 + 1, none⟩ (.slice (some ⟨u, 0, none⟩) (k + 1) (k + 1)))) := (hb36.setCell (p := ⟨w3.heap.size, r * 2, none⟩) (Nat.le_refl _) _).setCell (p := ⟨w3.heap.size, r * 2 + 1, none⟩) (Nat.le_refl _) _
              clear hL HL8 hL6 hnew hown6 hown7 hQr hQ6 hb5 hb6 hb36 hrl hdl
              go_wp2
              go_roundw
              case rel => exact ⟨r + 1, _, by omega, by go_num, HL9.out, HQ9.out, HB9.out⟩
              case measure => simp [intOf]; omega
            · have hrq2 : r = q := by omega
              subst hrq2
              have hbE := hbwA.trans (hb5.mono hbwA.size)
              rw [dlw_full] at hL
              have hLE := hL.base hbwA.size
              go_wp2
              go_ret2
              exact ⟨.inr ⟨k, r, _, L, ⟨rfl, hk4, by rw [HMN.out, HN.out], by omega, by omega⟩, rfl, rfl, hLE⟩, hbE⟩
    · have hmb : ((m : Int) != (N : Int)) = true := by rw [bne_iff_ne]; omega
      have HMN : Hid (m ≠ N) := hmN
      clear hmN
      go_wp2
      go_ret2
      exact ⟨.inl ⟨fun j hj => by
        have h1 := hj.1
        have h2 := hj.2.2.1
        obtain rfl : k = j := by omega
        rw [HN.out] at h2
        exact HMN.out h2, rfl⟩, hb1⟩
theorem twineDealsW (s t : Int) (a0 : Option Addr) (m c0 : Nat) (ds : List Int) (n : Int) (w : World) (hs0 : 0 ≤ s) (hs1 : s ≤ 18446744073709551615) (h : Rd w a0 m c0 ds) :
    Calls Try.prog 4 #[.int .u64 s, .int .i64 t, .slice a0 m c0, .int .i64 n] w fun e w' => e = .returned (.bool true) ∧ Below w.heap.size w w' := by
  have hcap := h.cap
  have hmax := h.max
  unfold maxLen at hmax
  go_enter Try.func4, Try.ntmps4
  go_wp2_with fail
  refine (cTwNeed t w).mono ?_
  rintro e w1 ⟨⟨ht, rfl⟩ | ⟨k, rfl, hk, rfl⟩, hb1⟩
  · have HT : Hid (t < 0 ∨ 4 < t) := ht
    clear ht
    go_wp2_with fail
    refine (cTwDeal s t _ _ _ ds n _ (h.below hb1) hs0 hs1).mono ?_
    rintro e w2 ⟨⟨_, rfl⟩ | ⟨k, q, v2, L2, hD, _⟩, hb2⟩
    · have hw2 := hb1.trans (hb2.mono hb1.size)
      clear hb1 hb2
      go_wp2_with (go_at_call 16; refine (rInN _ _ _ _ HT.out).mono ?_; rintro e w' ⟨rfl, hw⟩; have hw := hw.symm; subst hw)
      go_ret
      exact ⟨rfl, hw2⟩
    · exfalso
      have h1 := hD.1
      have h2 := hD.2.1
      have := HT.out
      omega
  · go_wp2_with fail
    refine (cTwDeal s k _ _ _ ds n _ (h.below hb1) hs0 hs1).mono ?_
    rintro e w2 ⟨hD, hb2⟩
    have hw2 := hb1.trans (hb2.mono hb1.size)
    have hn14 := need2_bd hk
    obtain ⟨N, HN⟩ : ∃ N, Hid (need2 k = N) := ⟨_, rfl⟩
    rw [HN.out] at hn14 ⊢
    have HNe : Hid ((k + 1) * (k + 2) / 2 - 1 = N) := HN.out
    clear hb1 hb2
    rcases hD with ⟨hno, rfl⟩ | ⟨k', q, v2, L2, hD, rfl, rfl, hL2⟩
    · by_cases hmN : m = N
      · have hnn : n < (k : Int) + 1 ∨ 9 < n := by
          refine Decidable.byContradiction fun hh => hno k ⟨rfl, hk, by rw [HN.out]; exact hmN, by omega, by omega⟩
        have HNN : Hid (n < (k : Int) + 1 ∨ 9 < n) := hnn
        clear hno hnn
        subst hmN
        go_wp2_with (first | (go_at_call 16; refine (rInY _ _ _ _ (by omega) (by omega)).mono ?_; rintro e w' ⟨rfl, hw⟩; have hw := hw.symm; subst hw) | (go_at_call 16; refine (rInN _ _ _ _ HNN.out).mono ?_; rintro e w' ⟨rfl, hw⟩; have hw := hw.symm; subst hw) | (go_at_call 17; refine (rTwoNeed k _ hk).mono ?_; rintro e w' ⟨rfl, hw⟩; have hw := hw.symm; subst hw; rw [HNe.out]))
        go_ret
        exact ⟨rfl, hw2⟩
      · have hmb : ((m : Int) != (N : Int)) = true := by rw [bne_iff_ne]; omega
        clear hno
        go_wp2_with (first | (go_at_call 16; refine (rInY _ _ _ _ (by omega) (by omega)).mono ?_; rintro e w' ⟨rfl, hw⟩; have hw := hw.symm; subst hw) | (go_at_call 17; refine (rTwoNeed k _ hk).mono ?_; rintro e w' ⟨rfl, hw⟩; have hw := hw.symm; subst hw; rw [HNe.out]))
        go_ret
        exact ⟨rfl, hw2⟩
    · obtain rfl : k = k' := by have := hD.1; omega
      obtain rfl : m = N := by rw [← HN.out]; exact hD.2.2.1
      have hq1 : (k : Int) + 1 ≤ (q : Int) := hD.2.2.2.1
      have hq9 : (q : Int) ≤ 9 := hD.2.2.2.2
      clear hD
      obtain ⟨a2, c2, rfl, hr2⟩ := deal_rd hL2 (by omega)
      clear hL2
      have hrd := h.below hw2
      have hw2s := hw2.size
      go_wp2_with (first | (go_at_call 16; refine (rInY _ _ _ _ (by omega) (by omega)).mono ?_; rintro e w' ⟨rfl, hw⟩; have hw := hw.symm; subst hw) | (go_at_call 17; refine (rTwoNeed k _ hk).mono ?_; rintro e w' ⟨rfl, hw⟩; have hw := hw.symm; subst hw; rw [HNe.out]) | fail)
      refine (rTwoDeal s _ _ _ ds k q _ hrd hs0 hs1 hk HNe.out.symm (by omega)).mono ?_
      rintro e w3 ⟨v, L, rfl, hL, hb3⟩
      obtain ⟨a3, c3, rfl, hr3⟩ := deal_rd hL (by omega)
      have hw3 := hw2.trans (hb3.mono hw2s)
      have hr2 := hr2.below hb3
      clear hL hb3 hw2 hrd
      go_wp2_with fail
      refine (sSameRows _ _ _ _ _ _ _ _ hr2 hr3).mono ?_
      rintro e w4 ⟨rfl, hb4⟩
      have hw4 := hw3.trans (hb4.mono hw3.size)
      clear hb4 hw3 hr2 hr3
      go_wp2
      go_ret
      exact ⟨rfl, hw4⟩
end
end Go.Proofs.Ytljlioglpaogdab
