/- The walk of croftkeep.TwineTells. -/
import Derived.Test.YtljlioglpaogdaeToTwinedC
import Derived.Test.YtljlioglpaogdaeToCrewC
import Derived.Test.YtljlioglpaogdaeDealtC
import Derived.Deep.DeepCutAuto
namespace Go.Proofs.Ytljlioglpaogdae
set_option linter.unusedVariables false
set_option maxRecDepth 100000
set_option maxHeartbeats 8000000
section
open Crm Go.RowKit
theorem own_frozen1 {w : World} {B n c g : Nat} {E : TypeId} {xs : List Value} (h : w.ownsRow B E 1 (.slice (some ⟨g, 0, none⟩) n c) n xs) (i : Nat) : w.frozen? ⟨g, i, none⟩ = false := by
  rcases h.2 with ⟨e, _⟩ | ⟨g', cap, cur, e, hb, hg, _⟩
  · simp at e
  · simp only [Value.slice.injEq, Option.some.injEq, Addr.mk.injEq, and_true, true_and] at e
    obtain ⟨rfl, rfl⟩ := e
    exact frozen_of_row w g i _ _ hg
theorem ta_set {l : List (Int × List Int)} {q i : Nat} (p : Int × List Int) (hi : i < l.length) : ta (l.set q p) i = if i = q then p.1 else ta l i := by
  unfold ta
  by_cases e : i = q
  · subst e; simp [hi]
  · simp [e, show ¬ q = i from fun e' => e e'.symm]
theorem tc_set {l : List (Int × List Int)} {q i : Nat} (p : Int × List Int) (hi : i < l.length) : tc (l.set q p) i = if i = q then p.2 else tc l i := by
  unfold tc
  by_cases e : i = q
  · subst e; simp [hi]
  · simp [e, show ¬ q = i from fun e' => e e'.symm]
/-- One number of one row is written. -/
theorem LsW.set {w : World} {B : Nat} {v : Value} {L : List (Int × Value)} {l : List (Int × List Int)} {q g cap : Nat} (h : LsW w B v L l) (hq : q < l.length) (hg : (L.getD q (0, .slice none 0 0)).2 = .slice (some ⟨g, 0, none⟩) (tc l q).length cap) (c : Nat) (z : Int) :
    LsW (w.setCell ⟨g, c, none⟩ (.int .u64 z)) B v L (l.set q (ta l q, (tc l q).set c z)) := by
  have hgr := grown_set w g c (.int .u64 z)
  have hE : (55 : TypeId) ≠ 22 := by decide
  have hrq := h.row q hq
  rw [hg] at hrq
  have hob : (Value.slice (some ⟨g, 0, none⟩) (tc l q).length cap).ownBlock = some g := rfl
  have hlen : (l.set q (ta l q, (tc l q).set c z)).length = l.length := by simp
  refine ⟨?_, by rw [hlen]; exact h.len, fun i hi => ?_, fun i hi => ?_, fun i j hij hj => ?_⟩
  · rw [hlen]
    refine h.own.kept hgr ?_
    rcases own_apart hrq h.own (fun e => hE e.symm) with e | e
    · exact .inl e
    · exact .inr (by rw [hob] at e; exact e)
  · rw [hlen] at hi
    rw [ta_set _ hi, h.at_ i hi]
    split
    · rename_i e; rw [e]
    · rfl
  · rw [hlen] at hi
    rw [tc_set _ hi]
    by_cases e : i = q
    · rw [if_pos e, e, hg]
      simp only
      rw [List.length_set, List.map_set]
      exact own_set hrq c _
    · rw [if_neg e]
      refine (h.row i hi).kept hgr ?_
      rcases Nat.lt_or_ge i q with hlt | hge
      · rcases h.inj i q hlt hq with e1 | e1
        · exact .inl e1
        · exact .inr (by rw [hg, hob] at e1; exact e1)
      · rcases h.inj q i (by omega) hi with e1 | e1
        · rw [hg, hob] at e1; cases e1
        · exact .inr (by rw [hg, hob] at e1; exact fun e2 => e1 e2.symm)
  · rw [hlen] at hj; exact h.inj i j hij hj

theorem bent_of {s : Int} {ds : List Int} {t n q c : Nat} {b z : Int} (hq : q < n) (hz : z = nm ((rowK s ds t ((q : Int) + 1) (t + 1)).getD c 0 + b)) (hc : c ≤ t) :
    Bnt s ds t n q c b ((dealA s ds t n).set q (ta (dealA s ds t n) q, (tc (dealA s ds t n) q).set c z)) := by
  have hl := dealA_len s ds t n
  refine ⟨fun r hr => ?_, fun r hr hne => ?_, ?_⟩
  · rw [ta_set _ (by omega)]
    split
    · rename_i e; rw [e]; exact deal_ta s ds t hq
    · exact deal_ta s ds t hr
  · rw [tc_set _ (by omega), if_neg hne, deal_ofd s ds t n r hr, deal_ta s ds t hr]
  · rw [tc_set _ (by omega), if_pos rfl]
    simp only
    rw [deal_ofd s ds t n q hq, deal_ta s ds t hq, hz, rowK_getD s ds t _ (show c < t + 1 by omega)]

theorem twineTellsW (s : Int) (a0 : Option Addr) (n0 c0 : Nat) (xs : List Int) (t n i j b : Int) (w : World) (hs0 : 0 ≤ s) (hs1 : s ≤ 18446744073709551615) (h0 : Rd w a0 n0 c0 xs) (hb0 : 0 ≤ b) (hbu : b ≤ 18446744073709551615) :
    Calls Try.prog 5 #[.int .u64 s, .slice a0 n0 c0, .int .i64 t, .int .i64 n, .int .i64 i, .int .i64 j, .int .u64 b] w fun e w' => e = .returned (.bool true) ∧ Below w.heap.size w w' := by
  go_enter Try.func5, Try.ntmps5
  go_wp2_with fail
  refine (kTwined _).mono ?_
  rintro e w1 ⟨rfl, hw1⟩
  go_wp2_with fail
  refine (kCrew _ _ _).mono ?_
  rintro e w2 ⟨⟨k, m, rfl, hk, hkm, hm⟩, hw⟩
  have hw := hw.symm
  subst hw
  go_wp2_with fail
  refine (cTwNeed k _).mono ?_
  rintro e w2 ⟨hN, hb2⟩
  obtain rfl : e = .returned (.tuple #[.int .i64 (need2 k : Nat), .int .i64 0]) := by
    rcases hN with ⟨h', _⟩ | ⟨k', e1, _, e2⟩
    · omega
    · obtain rfl : k = k' := by omega
      exact e2
  clear hN
  have hn14 := need2_bd hk
  obtain ⟨N, HN⟩ : ∃ N, Hid (need2 k = N) := ⟨_, rfl⟩
  rw [HN.out] at hn14 ⊢
  have hw2 := hw1.trans (hb2.mono hw1.size)
  clear hw1 hb2
  go_wp2_with fail
  refine (kFilledL _ _ _ _ N _ (h0.below hw2) (by omega)).mono ?_
  rintro e w3 ⟨g3, rfl, hr3, hb3⟩
  generalize padded xs N = P at hr3
  have hw3 := hw2.trans (hb3.mono hw2.size)
  clear hw2 hb3 h0
  go_wp2_with fail
  refine (cTwDeal s k _ _ _ P m _ hr3 hs0 hs1).mono ?_
  rintro e w4 ⟨⟨hno, rfl⟩ | ⟨k', q', v, L, hD, hq', rfl, hL⟩, hb4⟩
  · exact absurd ⟨rfl, hk, HN.out.symm, by omega, by omega⟩ (hno k)
  · obtain rfl : k = k' := by have := hD.1; omega
    obtain rfl : m = q' := by omega
    have hw4 := hw3.trans (hb4.mono hw3.size)
    have hs3 := hw3.size
    have hnb := nm_bd b
    have hdl := dealA_len s P k m
    obtain ⟨gl, cl, rfl, hgl1, hgl2, hclm, hclx⟩ := own_at2 hL.own (by omega)
    rw [hdl] at hclm ⊢
    unfold maxLen at hclx
    clear hD hq' hr3 hb4 hw3
    by_cases hbz : nm b = 0
    · have hbb : (nm b == 0) = true := by rw [beq_iff_eq]; exact hbz
      clear hbz
      go_wp2_with (go_at_call 16; refine (fNorm _ _ (by omega) (by omega)).mono ?_; rintro e w' ⟨rfl, hw⟩; have hw := hw.symm; subst hw)
      go_ret
      exact ⟨rfl, hw4⟩
    · have hbb : (nm b == 0) = false := by rw [beq_eq_false_iff_ne]; exact hbz
      have HBZ : Hid (nm b ≠ 0) := hbz
      clear hbz
      by_cases hmk : m < k + 2
      · have hmk2 : (m : Int) < (k : Int) + 2 := by omega
        go_wp2_with (go_at_call 16; refine (fNorm _ _ (by omega) (by omega)).mono ?_; rintro e w' ⟨rfl, hw⟩; have hw := hw.symm; subst hw)
        go_ret
        exact ⟨rfl, hw4⟩
      · have hmk2 : (k : Int) + 2 ≤ (m : Int) := by omega
        go_wp2_with (first | (go_at_call 16; refine (fNorm _ _ (by omega) (by omega)).mono ?_; rintro e w' ⟨rfl, hw⟩; have hw := hw.symm; subst hw) | fail)
        refine (rRest _ m _ (by omega) (by omega)).mono ?_
        rintro e w5 ⟨⟨q, hq, rfl⟩, hw⟩
        have hw := hw.symm
        subst hw
        obtain ⟨K, HK⟩ : ∃ K, Hid (K = k + 1) := ⟨_, rfl⟩
        have hKI : (k : Int) + 1 = (K : Int) := by have := HK.out; omega
        have hK5 : K ≤ 5 := by have := HK.out; omega
        have hK0 : 0 < K := by have := HK.out; omega
        go_wp2_with fail
        refine (rRest _ K _ (by omega) (by omega)).mono ?_
        rintro e w5 ⟨⟨c, hc, rfl⟩, hw⟩
        have hw := hw.symm
        subst hw
        have hck : c ≤ k := by have := HK.out; omega
        have hqd : q < (dealA s P k m).length := by omega
        have hrow := hL.row q hqd
        have etc : tc (dealA s P k m) q = rowK s P k ((q : Int) + 1) (k + 1) := by rw [deal_ofd s P k m q hq, deal_ta s P k hq]
        have etl : (tc (dealA s P k m) q).length = K := by rw [etc, rowK_len]; exact HK.out.symm
        obtain ⟨aq, cq, eSV, hcq⟩ := own_slice hrow
        rw [eSV] at hrow
        have hrow2 := hrow
        rw [etl] at hrow2
        obtain ⟨g, u, rfl, hg1, hg2, hu, hcu⟩ := own_at hrow2 (k := c) hc
        obtain ⟨y, HY⟩ : ∃ y, Hid ((rowK s P k ((q : Int) + 1) (k + 1)).getD c 0 = y) := ⟨_, rfl⟩
        have hyb : 0 ≤ y ∧ y ≤ 2147483646 := by rw [← HY.out]; exact getD_bd' (rowK_bd _ _ _ _ _) c
        obtain rfl : u = .int .u64 y := by
          rw [etc] at hu
          have hcl : c < (rowK s P k ((q : Int) + 1) (k + 1)).length := by rw [rowK_len]; omega
          rw [List.getElem?_map, getD_some hcl, HY.out] at hu
          simpa using hu.symm
        have hfz := own_frozen1 hrow2 c
        have hpg := pvc_get L q (by have := hL.len; omega)
        have hcl1 := hL.own.cells (g := gl) rfl _ _ hpg.2
        rw [eSV, etl, Addr.add_lit, Nat.zero_add] at hcl1
        have hcl0 := hL.own.cells (g := gl) rfl _ _ hpg.1
        rw [hL.at_ q hqd, deal_ta s P k hq, Addr.add_lit, Nat.zero_add] at hcl0
        obtain ⟨z, HZ⟩ : ∃ z, Hid (nm (y + b) = z) := ⟨_, rfl⟩
        have hzb : 0 ≤ z ∧ z ≤ 2147483646 := by rw [← HZ.out]; exact nm_bd _
        have hLS := hL.set hqd eSV c z
        have HBn : Hid (Bnt s P k m q c b ((dealA s P k m).set q (ta (dealA s P k m) q, (tc (dealA s P k m) q).set c z))) := bent_of hq (by rw [HY.out]; exact HZ.out.symm) hck
        have hqm : (q : Int) < (m : Int) := by omega
        have hcK : (c : Int) < (K : Int) := by omega
        have hgs := grown_drew (grown_set w4 g c (.int .u64 z))
        have Hw7 : Hid (Below w.heap.size w ((w4.setCell ⟨g, c, none⟩ (.int .u64 z)).drew)) := hw4.grown hgs hw4.size (fun q hq => by simp at hq; omega)
        have HL7 : Hid (LsW ((w4.setCell ⟨g, c, none⟩ (.int .u64 z)).drew) w3.heap.size (.slice (some ⟨gl, 0, none⟩) (dealA s P k m).length cl) L ((dealA s P k m).set q (ta (dealA s P k m) q, (tc (dealA s P k m) q).set c z))) := hLS.below ((Below.refl _ _).drew)
        clear hLS hgs hrow hrow2 hpg hL etc etl eSV hu
        go_wp2
        go_region_with (first | (go_at_call 18; refine (fAdd _ _ _ (by omega) (by omega) (by omega) (by omega)).mono ?_; rintro e w' ⟨rfl, rfl⟩; rw [HZ.out]))
        all_goals
          generalize (w4.setCell ⟨g, c, none⟩ (.int .u64 z)).drew = W7 at *
          have hw7 := Hw7.out
          have hL7 := HL7.out
          obtain ⟨l', Hl'⟩ : ∃ l', Hid (l' = (dealA s P k m).set q (ta (dealA s P k m) q, (tc (dealA s P k m) q).set c z)) := ⟨_, rfl⟩
          rw [← Hl'.out] at hL7 HBn
          have hll' : l'.length = m := by rw [Hl'.out, List.length_set]; exact hdl
          rw [hdl] at hL7
          obtain ⟨a7, c7, e7, hr7⟩ := hL7.rdW hll' (fun r hr => by rw [HBn.out.at_ r hr]; omega) (fun r hr => by
            by_cases e : r = q
            · subst e
              rw [HBn.out.own]
              exact bd_u64 (set_bd' (rowK_bd _ _ _ _ _) c (nm_bd _))
            · rw [HBn.out.oth r hr e]; exact bd_u64 (rowK_bd _ _ _ _ _))
          simp only [Value.slice.injEq, true_and] at e7
          obtain ⟨rfl, rfl⟩ := e7
          clear Hw7 HL7 hL7 Hl' hcu hfz hcl0 hcl1 hw4 hdl hgl1 hgl2 hg1 hg2 hll' hqd
          have HRW : Hid (Rwk l' m) := fun r hr => ⟨bnt_dis HBn.out hm r hr, by
            have hlr : (tc l' r).length = k + 1 := by
              by_cases e : r = q
              · rw [e, HBn.out.own, List.length_set, rowK_len]
              · rw [HBn.out.oth r hr e, rowK_len]
            omega⟩
          go_wp2_with fail
          refine (cTwPairs _ _ _ _ _ hr7).mono ?_
          rintro e w8 ⟨hP, hb8⟩
          obtain ⟨ap, kp, cp, Lp, rfl, hrp, hPr⟩ : ∃ ap kp cp Lp, e = .returned (.tuple #[.slice ap kp cp, .int .i64 0]) ∧ RdP w8 ap kp cp Lp ∧ Prs l' m Lp := by
            rcases hP with ⟨hno, _⟩ | ⟨_, ap, kp, cp, Lp, rfl, hrp, hPr⟩
            · exact absurd HRW.out hno
            · exact ⟨ap, kp, cp, Lp, rfl, hrp, hPr⟩
          have hbp := bnt_pairs HBn.out hm hck hq HBZ.out hPr
          have hmany := bnt_many HBn.out hm hck hq HBZ.out hPr
          rw [hrp.len] at hmany
          have HBP : Hid (∀ p ∈ Lp, p.1 = (q : Int) + 1 ∨ p.2 = (q : Int) + 1) := hbp.1
          have hkc := hrp.cap
          have hkx := hrp.max
          unfold maxLen at hkx
          have hw8 := hw7.trans (hb8.mono hw7.size)
          have hr8 := hr7.below hb8
          clear hP hPr hbp hb8 hw7 hr7
          go_wp2_with fail
          refine (cTwJoin _ _ _ _ _ _ hr8).mono ?_
          rintro e w9 ⟨x, r, rfl, hJ, hb9⟩
          obtain rfl := bnt_join HBn.out hm hk hck hq HBZ.out (by omega) hJ
          have hw9 := hw8.trans (hb9.mono hw8.size)
          have hr9 := hr8.below hb9
          have hrp9 := hrp.below hb9
          have hnm1 : ¬ ((kp : Int) < (m : Int) - 1 - (k : Int)) := by omega
          have hnm2 : (m : Int) - 1 - (k : Int) ≤ (kp : Int) := by omega
          clear hJ hb9 hw8 hr8 hrp
          go_wp2
          go_loopw [112] (fun v wr => ∃ d : Nat, d ≤ kp ∧ v = .int .i64 d ∧ Below w9.heap.size w9 wr) (fun v _ => kp - (intOf v).toNat)
          case atStart => exact ⟨0, Nat.zero_le _, rfl, Below.refl _ _⟩
          case round =>
            obtain ⟨d, hd, rfl, hb10⟩ := hrel
            have hs10 := hb10.size
            by_cases hdk : d < kp
            · obtain ⟨bp, op, x1, y1, rfl, hbbp, HXY, hcx1, hcy1⟩ := (hrp9.below hb10).one hdk
              obtain ⟨b2, o2, x2, ai, ni, ci, row, e2, hbb2, HX2, _, _, _, hcx2, _, _⟩ := (hr9.below hb10).one hq
              simp only [Option.some.injEq, Addr.mk.injEq, and_true] at e2
              obtain ⟨rfl, rfl⟩ := e2
              have ex2 : x2 = (q : Int) + 1 := by rw [← HX2.out]; exact HBn.out.at_ q hq
              subst ex2
              rw [Nat.zero_add] at hcx2
              have hcase := HBP.out (x1, y1) (by
                have hdl : d < Lp.length := by rw [hrp9.len]; exact hdk
                have e3 : Lp.getD d (0, 0) = Lp[d] := by simp [List.getElem?_eq_getElem hdl]
                rw [← HXY.out, e3]; exact List.getElem_mem _)
              simp only at hcase
              have hbA : Below wr.heap.size wr (wr.alloc (.cells #[.int .i64 x1, .int .i64 y1] 59)) := (Below.refl _ _).alloc (Nat.le_refl _) _
              have hcA0 := cell_alloc0 wr (.int .i64 x1) (.int .i64 y1) 59
              have hcA1 := cell_alloc1 wr (.int .i64 x1) (.int .i64 y1) 59
              have hcx2A : (wr.alloc (.cells #[.int .i64 x1, .int .i64 y1] 59)).cell? ⟨gl, q * 2, none⟩ = some (.int .i64 ((q : Int) + 1)) := by rw [hbA.cell hbb2]; exact hcx2
              have hb11 := hb10.trans (hbA.mono hs10)
              clear hbA hcx2 HX2 HXY
              by_cases hx1 : x1 = (q : Int) + 1
              · have hxb : (x1 != (q : Int) + 1) = false := by rw [hx1]; simp
                clear hcase hx1
                go_upto_region 20 with fail
                generalize wr.alloc (.cells #[.int .i64 x1, .int .i64 y1] 59) = wA at *
                go_quiet (fail)
                all_goals
                  go_wp2
                  go_roundw
                  case rel => exact ⟨d + 1, by omega, by go_num, drewN_below hb11 _⟩
                  case measure => simp [intOf]; omega
              · have hxb : (x1 != (q : Int) + 1) = true := by rw [bne_iff_ne]; exact hx1
                have hy1 : y1 = (q : Int) + 1 := hcase.resolve_left hx1
                have hyb1 : (y1 != (q : Int) + 1) = false := by rw [hy1]; simp
                clear hcase hx1 hy1
                go_upto_region 20 with fail
                generalize wr.alloc (.cells #[.int .i64 x1, .int .i64 y1] 59) = wA at *
                go_quiet (fail)
                all_goals
                  go_wp2
                  go_roundw
                  case rel => exact ⟨d + 1, by omega, by go_num, drewN_below hb11 _⟩
                  case measure => simp [intOf]; omega
            · have hdk2 : d = kp := by omega
              subst hdk2
              have hw10 := hw9.trans (hb10.mono hw9.size)
              go_wp2
              go_ret
              exact ⟨rfl, hw10⟩
end
end Go.Proofs.Ytljlioglpaogdae
