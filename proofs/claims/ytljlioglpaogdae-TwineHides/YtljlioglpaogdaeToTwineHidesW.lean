/- twine.Deal. · croftkeep.twined. · The walk of croftkeep.TwineHides. -/
import Derived.Test.YtljlioglpaogdaeToTwByM
import Derived.Test.YtljlioglpaogdaeToTwFillC
import Derived.Test.YtljlioglpaogdaeToTwJoC
import Derived.Deep.WholeRow
import Derived.Test.YtljlioglpaogdaeToCheckC
import Derived.Test.YtljlioglpaogdaeToSomeC
import Derived.Test.YtljlioglpaogdaeCrewC
import Derived.Deep.RegionHeld3
namespace Go.Proofs.Ytljlioglpaogdae
set_option linter.unusedVariables false
set_option maxRecDepth 100000
set_option maxHeartbeats 8000000
section
open Crm Go.RowKit
theorem cTwDeal (s t : Int) (a0 : Option Addr) (m c0 : Nat) (ds : List Int) (n : Int) (w : World) (h : Rd w a0 m c0 ds) (hs0 : 0 ≤ s) (hs1 : s ≤ 18446744073709551615) : Calls Try.prog 22 #[.int .u64 s, .int .i64 t, .slice a0 m c0, .int .i64 n] w fun e w' => Dwl s ds t n m w e w' := by
  obtain ⟨i0, hi, hz0, hz1, hz2⟩ := info_parts infoRow
  have hcap := h.cap
  have hmax := h.max
  unfold maxLen at hmax
  go_enter Try.func22, Try.ntmps22
  go_wp2_with fail
  refine (cTwNeed _ _).mono ?_
  rintro e w1 ⟨⟨hT, rfl⟩ | ⟨k, rfl, hk4, rfl⟩, hb1⟩
  · have HT : Hid (t < 0 ∨ 4 < t) := hT
    clear hT
    go_wp2
    go_ret2
    exact ⟨.inl ⟨fun k hk => by have := hk.1; have := hk.2.1; have := HT.out; omega, rfl⟩, hb1⟩
  · have hn14 := need2_bd hk4
    obtain ⟨N, HN⟩ : ∃ N, Hid (need2 k = N) := ⟨_, rfl⟩
    rw [HN.out] at hn14
    rw [HN.out]
    by_cases hmN : m = N
    · have HMN : Hid (m = N) := hmN
      have hmb : ((m : Int) != (N : Int)) = false := by rw [bne_eq_false_iff_eq]; omega
      have hm14 : m ≤ 14 := by omega
      clear hmN
      by_cases hnk : n ≤ (k : Int)
      · go_wp2
        go_ret2
        exact ⟨.inl ⟨fun j hj => by have h1 := hj.1; have h2 := hj.2.2.2.1; omega, rfl⟩, hb1⟩
      · by_cases hn9 : 9 < n
        · go_wp2
          go_ret2
          exact ⟨.inl ⟨fun j hj => by have h2 := hj.2.2.2.2; omega, rfl⟩, hb1⟩
        · obtain ⟨q, rfl⟩ : ∃ q : Nat, n = q := ⟨n.toNat, by omega⟩
          have hq9 : q ≤ 9 := by omega
          go_wp2_with fail
          refine (cFill _ _ _ _ _ _ _ (h.below hb1) hs0 hs1 hk4 (by rw [HMN.out, HN.out])).mono ?_
          rintro e w2 ⟨⟨C, rfl, hSq⟩, hb2⟩
          have HSq : Hid (Sqr s ds k (k + 1) (k + 1) C) := hSq
          have hbw2 := hb1.trans (hb2.mono hb1.size)
          have hl := hSq.len
          have Hin : Hid ((Try.prog.info? 84).map (·.size) = some (C.map (Value.int .u64)).toArray.size) := by unfold Hid; simp only [List.size_toArray, List.length_map, hl]; exact infoSq
          have Hne : Hid (((List.replicate 25 (0 : Int)).map (Value.int .u64)).toArray.size = (C.map (Value.int .u64)).toArray.size) := by unfold Hid; simp [hl]
          have Hon : Hid ((C.map (Value.int .u64)).toArray.all (·.oneCell') = true) := by
            unfold Hid
            rw [Array.all_eq_true_iff_forall_mem]
            intro v hv
            obtain ⟨x, _, rfl⟩ := List.mem_map.1 (show v ∈ C.map (Value.int .u64) by simpa using hv)
            rfl
          have hQ : BlkQ (w2.alloc (.cells (C.map (Value.int .u64)).toArray 84)) w2.heap.size C := heap_alloc_new w2 _
          have hbA : Below w2.heap.size w2 (w2.alloc (.cells (C.map (Value.int .u64)).toArray 84)) := (Below.refl _ _).alloc (Nat.le_refl _) _
          have hbwA := hbw2.trans (hbA.mono hbw2.size)
          clear hSq hl hb1 hb2 hbw2 hbA
          go_wp2_with (first | (refine wpList_store_row rfl 84 _ _ rfl w2.heap.size (C.map (Value.int .u64)).toArray rfl rfl 84 ((List.replicate 25 (0 : Int)).map (Value.int .u64)).toArray (heap_alloc_new w2 _) Hin.out Hne.out Hon.out ?_; rw [World.setRow_alloc_new]; generalize w2.alloc (.cells (C.map (Value.int .u64)).toArray 84) = w3 at *) | (at_make; refine wpList_make_full _ rfl _ _ 47 rfl w3.heap.size 55 i0 (.agg #[.int .i64 0, .slice none 0 0]) 2 Try.underlying47 hi hz0 hz1 .i64 .i64 _ _ q rfl rfl (by omega) (by omega) (by rw [hz2]; omega) (by unfold maxLen; omega) (Nat.le_refl _) ?_; intro w4 hown hgrow))
          have hb4 : Below w3.heap.size w3 w4 := (Below.refl _ _).grown hgrow (Nat.le_refl _) (by simp)
          have hL4 := lsw_made hown
          rw [dlw_zero s ds k] at hL4
          have hQ4 := hQ.below hb4 hQ.lt
          have hq3 := hQ.lt
          clear hown hgrow hQ
          go_loopw [44] (fun i wr => ∃ (r : Nat) (L : List (Int × Value)), r ≤ q ∧ i = .int .i64 r ∧ LsW wr w3.heap.size (.slice (some ⟨w3.heap.size, 0, none⟩) q q) L (dlw s ds k q r) ∧ BlkQ wr w2.heap.size C ∧ Below w3.heap.size w3 wr) (fun i _ => q - (intOf i).toNat)
          case atStart => exact ⟨0, _, Nat.zero_le _, rfl, hL4, hQ4, hb4⟩
          case round =>
            clear hL4 hQ4 hb4
            obtain ⟨r, L, hr, rfl, hL, hQr, hb5⟩ := hrel
            have hs5 := hb5.size
            have hdl := dlw_len s ds k q r
            by_cases hrq : r < q
            · have HR1 : Hid ((r : Int) + 1 = ((r + 1 : Nat) : Int)) := by unfold Hid; push_cast; rfl
              have HRK : Hid (rowK s ds k ((r + 1 : Nat) : Int) (k + 1) = rowK s ds k ((r : Int) + 1) (k + 1)) := by unfold Hid; rw [HR1.out]
              go_wp2_with fail
              rw [HR1.out]
              refine (cSqRow _ _ _ _ _ (r + 1) _ hQr HSq.out hk4 (by omega)).mono ?_
              rintro e w6 ⟨u, rfl, hown6, hb6⟩
              rw [HRK.out] at hown6
              have hL6 := hL.below hb6
              have hQ6 := hQr.below hb6 hQr.lt
              have hb36 := hb5.trans (hb6.mono hs5)
              have hrl := rowK_len s ds k ((r : Int) + 1) (k + 1)
              have hnew := hL.new (Nat.le_refl _) hown6
              have hown7 : w6.ownsRow w3.heap.size 22 1 (.slice (some ⟨u, 0, none⟩) (k + 1) (k + 1)) (rowK s ds k ((r : Int) + 1) (k + 1)).length ((rowK s ds k ((r : Int) + 1) (k + 1)).map (Value.int .u64)) := by rw [hrl]; exact own_base hown6 hs5
              have HL8 := hL6.put (q := r) (x := (r : Int) + 1) hdl hrq hown7 hnew
              rw [dlw_set] at HL8
              obtain ⟨⟨v0, d0⟩, ⟨v1, d1⟩, f0, f1⟩ := hL6.cells hdl hrq
              have hlt6 : w3.heap.size < w6.heap.size := World.block_lt_of_cell? w6 _ d0
              have HL9 : Hid (LsW _ _ _ _ _) := HL8
              have HQ9 : Hid (BlkQ ((w6.setCell ⟨w3.heap.size, r * 2, none⟩ (.int .i64 ((r : Int) + 1))).setCell ⟨w3.heap.size, r * 2 + 1, none⟩ (.slice (some ⟨u, 0, none⟩) (k + 1) (k + 1))) w2.heap.size C) := (hQ6.other (by omega)).other (by omega)
              have HB9 : Hid (Below w3.heap.size w3 ((w6.setCell ⟨w3.heap.size, r * 2, none⟩ (.int .i64 ((r : Int) + 1))).setCell ⟨w3.heap.size, r * 2 + 1, none⟩ (.slice (some ⟨u, 0, none⟩) (k + 1) (k + 1)))) := (hb36.setCell (p := ⟨w3.heap.size, r * 2, none⟩) (Nat.le_refl _) _).setCell (p := ⟨w3.heap.size, r * 2 + 1, none⟩) (Nat.le_refl _) _
              clear hL HL8 hL6 hnew hown6 hown7 hQr hQ6 hb5 hb6 hb36 hrl hdl
              go_wp2
              go_roundw
              case rel => exact ⟨r + 1, _, by omega, by go_num, HL9.out, HQ9.out, HB9.out⟩
              case measure => simp [intOf]; omega
            · have hrq2 : r = q := by omega
              subst hrq2
              have hbE := hbwA.trans (hb5.mono hbwA.size)
              rw [dlw_full] at hL
              have hLE := hL.base hbwA.size
              go_wp2
              go_ret2
              exact ⟨.inr ⟨k, r, _, L, ⟨rfl, hk4, by rw [HMN.out, HN.out], by omega, by omega⟩, rfl, rfl, hLE⟩, hbE⟩
    · have hmb : ((m : Int) != (N : Int)) = true := by rw [bne_iff_ne]; omega
      have HMN : Hid (m ≠ N) := hmN
      clear hmN
      go_wp2
      go_ret2
      exact ⟨.inl ⟨fun j hj => by
        have h1 := hj.1
        have h2 := hj.2.2.1
        obtain rfl : k = j := by omega
        rw [HN.out] at h2
        exact HMN.out h2, rfl⟩, hb1⟩
theorem kTwined (w : World) : Calls Try.prog 20 #[] w fun e w' => e = .returned (.bool true) ∧ Below w.heap.size w w' := by
  have hb1 := below_one w (.cells #[.int .u64 2, .int .u64 3] 22)
  have r1 := rd_of2 w (x := 2) (y := 3) (by omega) (by omega)
  go_enter Try.func20, Try.ntmps20
  go_wp2_with fail
  generalize w.alloc (.cells #[.int .u64 2, .int .u64 3] 22) = v1 at *
  refine (cTwDeal 5 1 _ _ _ [2, 3] 3 _ r1 (by omega) (by omega)).mono ?_
  rintro e v2 ⟨⟨hno, rfl⟩ | ⟨k, q, v, L, hD, hq, rfl, hL⟩, hb2⟩
  · exact absurd ⟨rfl, by omega, rfl, by omega, by omega⟩ (hno 1)
  · obtain rfl : k = 1 := by have := hD.1; omega
    obtain rfl : q = 3 := by omega
    obtain ⟨a2, c2, rfl, hr2⟩ := deal_rd hL (by omega)
    have hw2 := hb1.trans (hb2.mono hb1.size)
    clear hb1 hb2 hL hD hq r1
    go_wp2_with fail
    refine (cTwJoin _ _ _ _ _ _ hr2).mono ?_
    rintro e v3 ⟨x, r, rfl, hJ, hb3⟩
    obtain ⟨rfl, rfl⟩ := ofd_join (t := 1) (deal_ofd 5 [2, 3] 1 3) (deal_dis 5 [2, 3] 1 (by omega)) (by omega) (by omega) hJ
    have h5 : nm 5 = 5 := by decide
    rw [h5]
    have hr3 := hr2.below hb3
    have hw3 := hw2.trans (hb3.mono hw2.size)
    clear hJ hb3 hr2 hw2 h5
    obtain ⟨b, o, x, ai, ni, ci, row, rfl, hbb, HX, HRow, hx0, hx1, hcx, hcr, hrow⟩ := hr3.one (show 0 < 3 by omega)
    have e7 : row = [7, 5] := by rw [← HRow.out]; decide
    subst e7
    simp only [Nat.zero_mul, Nat.add_zero] at hcx hcr
    have hb4 := below_one v3 (.cells #[.int .u64 7, .int .u64 5] 22)
    have r4 := rd_of2 v3 (x := 7) (y := 5) (by omega) (by omega)
    clear hr3
    go_wp2_with fail
    generalize v3.alloc (.cells #[.int .u64 7, .int .u64 5] 22) = v4 at *
    have hw4 := hw3.trans (hb4.mono hw3.size)
    refine (cSame _ _ _ _ _ _ _ _ (hrow.below hb4) r4).mono ?_
    rintro e v5 ⟨rfl, hb5⟩
    have hw5 := hw4.trans (hb5.mono hw4.size)
    clear hb5 hw4 hb4 r4 hrow hw3
    go_wp2
    go_ret
    exact ⟨rfl, hw5⟩
theorem twineHidesW (s u : Int) (a0 : Option Addr) (n0 c0 : Nat) (xs : List Int) (t n : Int) (a1 : Option Addr) (n1 c1 : Nat) (ps : List Int) (w : World) (hs0 : 0 ≤ s) (hs1 : s ≤ 18446744073709551615) (hu0 : 0 ≤ u) (hu1 : u ≤ 18446744073709551615) (h0 : Rd w a0 n0 c0 xs) (h1 : RdI w a1 n1 c1 ps) :
    Calls Try.prog 6 #[.int .u64 s, .int .u64 u, .slice a0 n0 c0, .int .i64 t, .int .i64 n, .slice a1 n1 c1] w fun e w' => e = .returned (.bool true) ∧ Below w.heap.size w w' := by
  go_enter Try.func6, Try.ntmps6
  go_wp2_with fail
  refine (kTwined _).mono ?_
  rintro e w1 ⟨rfl, hb2⟩
  go_wp2_with fail
  refine (kCrew _ _ _).mono ?_
  rintro e w3 ⟨⟨k, m, rfl, hk, hkm, hm⟩, hw⟩
  have hw := hw.symm
  subst hw
  go_wp2_with fail
  refine (kSome _ _ _ _ k m _ (h1.below hb2) (by omega) hm hk).mono ?_
  rintro e w4 ⟨v4, L, rfl, ho4, hS, hb4'⟩
  obtain ⟨aL, cL, rfl, rL⟩ := RdI.own ho4 (som_bd hS)
  obtain ⟨K, HK⟩ : ∃ K, Hid (L.length = K) := ⟨_, rfl⟩
  rw [HK.out] at rL ⊢
  have hKk : K ≤ k := by rw [← HK.out]; exact hS.1
  have HD : Hid (dis (fi L) K) := by unfold Hid; rw [← HK.out]; exact hS.2.1
  have HLn : Hid (∀ j, j < K → L.getD j 0 ≤ (m : Int)) := by unfold Hid; rw [← HK.out]; exact hS.2.2
  have hb4 := hb2.trans (hb4'.mono hb2.size)
  have hcL := rL.cap
  have hmL := rL.max
  unfold maxLen at hmL
  clear hS ho4 hb2 hb4'
  go_wp2_with fail
  refine (cTwNeed k _).mono ?_
  rintro e w5 ⟨hN, hb5'⟩
  obtain rfl : e = .returned (.tuple #[.int .i64 (need2 k : Nat), .int .i64 0]) := by
    rcases hN with ⟨h', _⟩ | ⟨k', e1, _, e2⟩
    · omega
    · obtain rfl : k = k' := by omega
      exact e2
  clear hN
  have hn14 := need2_bd hk
  obtain ⟨N, HN⟩ : ∃ N, Hid (need2 k = N) := ⟨_, rfl⟩
  rw [HN.out] at hn14 ⊢
  have rL5 := rL.below hb5'
  have hb5 := hb4.trans (hb5'.mono hb4.size)
  clear rL hb4 hb5'
  go_wp2_with fail
  refine (kFilledL _ _ _ _ N _ (h0.below hb5) (by omega)).mono ?_
  rintro e w6 ⟨g6, rfl, r6, hb6'⟩
  generalize padded xs N = P at r6
  have rL6 := rL5.below hb6'
  have hb6 := hb5.trans (hb6'.mono hb5.size)
  clear rL5 hb5 hb6'
  go_wp2_with fail
  refine (cTwDeal s k _ _ _ P m _ r6 hs0 hs1).mono ?_
  rintro e w7 ⟨⟨hno, rfl⟩ | ⟨k', q', v, L7, hDw, hq, rfl, hL7⟩, hb7'⟩
  · exact absurd ⟨rfl, hk, HN.out.symm, by omega, by omega⟩ (hno k)
  obtain rfl : k = k' := by have := hDw.1; omega
  obtain rfl : m = q' := by omega
  obtain ⟨a7, c7, rfl, r7⟩ := deal_rd hL7 (by omega)
  have rL7 := rL6.below hb7'
  have r67 := r6.below hb7'
  have hb7 := hb6.trans (hb7'.mono hb6.size)
  clear hDw hq hL7 rL6 r6 hb6 hb7'
  have HTE : Hid (Hte L K k N 0) := .inr ⟨HD.out, .inr ⟨⟨⟨by omega, by omega⟩, by omega, by rw [Int.toNat_natCast]; exact HN.out.symm⟩, rfl⟩⟩
  go_wp2_with fail
  refine (eTwine _ _ _ _ k s u _ _ _ _ _ rL7 (by omega) (by omega) hs0 hs1 hu0 hu1 r67).mono ?_
  intro e w8 hh
  have hb8' := hh.2
  obtain ⟨a8, c8, rfl, r8⟩ := hh.told HTE.out
  rw [Int.toNat_natCast] at r8
  have rL8 := rL7.below hb8'
  have r78 := r7.below hb8'
  have hb8 := hb7.trans (hb8'.mono hb7.size)
  clear hh rL7 r67 r7 hb7 hb8' HTE
  have HRW : Hid (∀ j, j < K → rowK u (twl L K s u P k N) k (L.getD j 0) (k + 1) = rowK s P k (L.getD j 0) (k + 1)) := fun j hj => by rw [← HN.out]; exact twl_row hk hKk hj (dis_nz HD.out j hj)
  obtain ⟨Q, HQ⟩ : ∃ Q, Hid (twl L K s u P k N = Q) := ⟨_, rfl⟩
  rw [HQ.out] at r8 HRW
  go_wp2_with fail
  refine (cTwDeal u k _ _ _ Q m _ r8 hu0 hu1).mono ?_
  rintro e w9 ⟨⟨hno, rfl⟩ | ⟨k', q', v, L9, hDw, hq, rfl, hL9⟩, hb9'⟩
  · exact absurd ⟨rfl, hk, HN.out.symm, by omega, by omega⟩ (hno k)
  obtain rfl : k = k' := by have := hDw.1; omega
  obtain rfl : m = q' := by omega
  obtain ⟨a9, c9, rfl, r9⟩ := deal_rd hL9 (by omega)
  have rL9 := rL8.below hb9'
  have r79 := r78.below hb9'
  have hb9 := hb8.trans (hb9'.mono hb8.size)
  clear hDw hq hL9 rL8 r78 r8 hb8 hb9'
  go_wp2
  go_loopw [83] (fun i wr => ∃ p : Nat, p ≤ K ∧ i = .int .i64 p ∧ Below w9.heap.size w9 wr) (fun i _ => K - (intOf i).toNat)
  case atStart => exact ⟨0, Nat.zero_le _, rfl, Below.refl _ _⟩
  case round =>
    obtain ⟨p, hp, rfl, hbel⟩ := hrel
    by_cases hpK : p < K
    · obtain ⟨b1, o1, x, rfl, hbb1, HX, hx0, hx1, hcx⟩ := (rL9.below hbel).one hpK
      have hd := (HD.out p hpK).1
      have hdx : fi L p = x := HX.out
      rw [hdx] at hd
      have hdn := HLn.out p hpK
      rw [HX.out] at hdn
      obtain ⟨z, rfl⟩ : ∃ z : Nat, x = (z : Int) + 1 := ⟨(x - 1).toNat, by omega⟩
      have hzm : z < m := by omega
      have hz1 : (z : Int) + 1 - 1 = (z : Int) := by omega
      obtain ⟨b2, o2, x2, ai2, ni2, ci2, row2, rfl, hbb2, _, HR2, _, _, _, hc2, rr2⟩ := (r79.below hbel).one hzm
      obtain ⟨b3, o3, x3, ai3, ni3, ci3, row3, rfl, hbb3, _, HR3, _, _, _, hc3, rr3⟩ := (r9.below hbel).one hzm
      have hrow : row2 = row3 := by
        rw [← HR2.out, ← HR3.out, deal_ofd s P k m z hzm, deal_ofd u Q k m z hzm, deal_ta s P k hzm, deal_ta u Q k hzm]
        have := HRW.out p hpK
        rw [HX.out] at this
        exact this.symm
      subst hrow
      have hz0 : (0 : Int) ≤ (z : Int) := by omega
      have hzmi : (z : Int) < (m : Int) := by omega
      have HALL : Hid (∀ w', Below wr.drew.heap.size wr.drew w' → w'.cell? ⟨b2, o2 + z * 2 + 1, none⟩ = some (.slice ai2 ni2 ci2) ∧ w'.cell? ⟨b3, o3 + z * 2 + 1, none⟩ = some (.slice ai3 ni3 ci3) ∧ b2 < w'.heap.size ∧ b3 < w'.heap.size ∧ Below w9.heap.size w9 w') := fun w' hb => ⟨by rw [hb.cell hbb2]; exact hc2, by rw [hb.cell hbb3]; exact hc3, Nat.lt_of_lt_of_le hbb2 hb.size, Nat.lt_of_lt_of_le hbb3 hb.size, hbel.drew.trans (hb.mono hbel.drew.size)⟩
      have hwz : IntKind.i64.wrap ((z : Int) + 1 - 1) = (z : Int) := by rw [IntKind.wrap_i64]; omega
      have hwz2 : IntKind.i64.wrap (z : Int) = (z : Int) := by rw [IntKind.wrap_i64]; omega
      clear hbel
      go_upto_region 15 with fail
      go_region_held3 (fun w' => w'.cell? ⟨b2, o2 + z * 2 + 1, none⟩ = some (.slice ai2 ni2 ci2) ∧ w'.cell? ⟨b3, o3 + z * 2 + 1, none⟩ = some (.slice ai3 ni3 ci3)) (go_keep) (first | (go_at_call 28; refine (cSame _ _ _ _ _ _ _ _ rr2.drew rr3.drew).mono ?_; rintro e w10 ⟨rfl, hb10⟩; obtain ⟨j2, j3, j4, j5, hbel10⟩ := HALL.out w10 hb10; clear hb10))
      all_goals
        clear HALL hc2 hc3 rr2 rr3 hcx
        go_wp2
        go_roundw
        case rel => exact ⟨p + 1, by omega, by go_num, hbel10⟩
        case measure => simp [intOf]; omega
    · have hnp : ¬ ((p : Int) < (K : Int)) := by omega
      have r9z := r9.below hbel
      have hbz := hb9.trans (hbel.mono hb9.size)
      clear hbel
      go_wp2_with fail
      refine (cTwJoin k _ _ _ _ _ r9z).mono ?_
      rintro e w11 ⟨x, r, rfl, hJ, hb11'⟩
      obtain ⟨rfl, rfl⟩ := ofd_join (deal_ofd u Q k m) (deal_dis u Q k hm) hk (by omega) hJ
      have hb11 := hbz.trans (hb11'.mono hbz.size)
      clear hJ hbz hb11' r9z
      go_wp2_with (go_at_call 16; refine (fNorm u _ hu0 hu1).mono ?_; rintro e w3 ⟨rfl, hw⟩; have hw := hw.symm; subst hw)
      go_ret
      exact ⟨rfl, hb11⟩
end
end Go.Proofs.Ytljlioglpaogdae
