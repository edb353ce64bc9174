/- The walk of croftkeep.TwineHides. -/
import Derived.Test.YtnofegdlainjaaeToHideC
import Derived.Test.YtnofegdlainjaaeToTwFillC
import Derived.Test.YtnofegdlainjaaeToTwinedC
import Derived.Test.YtnofegdlainjaaeToCrewC
import Derived.Deep.RegionHeld3
namespace Go.Proofs.Ytnofegdlainjaae
open Go.RowKit Crm

set_option maxRecDepth 100000 in
set_option maxHeartbeats 4000000 in
theorem twineHidesW (s u : Int) (a0 : Option Addr) (n0 c0 : Nat) (xs : List Int) (t n : Int) (a1 : Option Addr) (n1 c1 : Nat) (ps : List Int) (w : World) (hs0 : 0 ≤ s) (hs1 : s ≤ 18446744073709551615) (hu0 : 0 ≤ u) (hu1 : u ≤ 18446744073709551615) (h0 : Rd w a0 n0 c0 xs) (h1 : RdI w a1 n1 c1 ps) :
    Calls Try.prog 6 #[.int .u64 s, .int .u64 u, .slice a0 n0 c0, .int .i64 t, .int .i64 n, .slice a1 n1 c1] w fun e w' => e = .returned (.bool true) ∧ Below w.heap.size w w' := by
  go_enter Try.func6, Try.ntmps6
  go_wp2_with fail
  refine (kTwined _).mono ?_
  rintro e w1 ⟨rfl, hb2⟩
  go_wp2_with fail
  refine (kCrew _ _ _).mono ?_
  rintro e w3 ⟨⟨k, m, rfl, hk, hkm, hm⟩, hw⟩
  have hw := hw.symm
  subst hw
  go_wp2_with fail
  refine (kSome _ _ _ _ k m _ (h1.below hb2) (by omega) hm hk).mono ?_
  rintro e w4 ⟨v4, L, rfl, ho4, hS, hb4'⟩
  obtain ⟨aL, cL, rfl, rL⟩ := RdI.own ho4 (som_bd hS)
  obtain ⟨K, HK⟩ : ∃ K, Hid (L.length = K) := ⟨_, rfl⟩
  rw [HK.out] at rL ⊢
  have hKk : K ≤ k := by rw [← HK.out]; exact hS.1
  have HD : Hid (dis (fi L) K) := by unfold Hid; rw [← HK.out]; exact hS.2.1
  have HLn : Hid (∀ j, j < K → L.getD j 0 ≤ (m : Int)) := by unfold Hid; rw [← HK.out]; exact hS.2.2
  have hb4 := hb2.trans (hb4'.mono hb2.size)
  have hcL := rL.cap
  have hmL := rL.max
  unfold maxLen at hmL
  clear hS ho4 hb2 hb4'
  go_wp2_with fail
  refine (cTwNeed k _).mono ?_
  rintro e w5 ⟨hN, hb5'⟩
  obtain rfl : e = .returned (.tuple #[.int .i64 (need2 k : Nat), .int .i64 0]) := by
    rcases hN with ⟨h', _⟩ | ⟨k', e1, _, e2⟩
    · omega
    · obtain rfl : k = k' := by omega
      exact e2
  clear hN
  have hn14 := need2_bd hk
  obtain ⟨N, HN⟩ : ∃ N, Hid (need2 k = N) := ⟨_, rfl⟩
  rw [HN.out] at hn14 ⊢
  have rL5 := rL.below hb5'
  have hb5 := hb4.trans (hb5'.mono hb4.size)
  clear rL hb4 hb5'
  go_wp2_with fail
  refine (kFilledL _ _ _ _ N _ (h0.below hb5) (by omega)).mono ?_
  rintro e w6 ⟨g6, rfl, r6, hb6'⟩
  generalize padded xs N = P at r6
  have rL6 := rL5.below hb6'
  have hb6 := hb5.trans (hb6'.mono hb5.size)
  clear rL5 hb5 hb6'
  go_wp2_with fail
  refine (cTwDeal s k _ _ _ P m _ r6 hs0 hs1).mono ?_
  rintro e w7 ⟨⟨hno, rfl⟩ | ⟨k', q', v, L7, hDw, hq, rfl, hL7⟩, hb7'⟩
  · exact absurd ⟨rfl, hk, HN.out.symm, by omega, by omega⟩ (hno k)
  obtain rfl : k = k' := by have := hDw.1; omega
  obtain rfl : m = q' := by omega
  obtain ⟨a7, c7, rfl, r7⟩ := deal_rd hL7 (by omega)
  have rL7 := rL6.below hb7'
  have r67 := r6.below hb7'
  have hb7 := hb6.trans (hb7'.mono hb6.size)
  clear hDw hq hL7 rL6 r6 hb6 hb7'
  have HTE : Hid (Hte L K k N 0) := .inr ⟨HD.out, .inr ⟨⟨⟨by omega, by omega⟩, by omega, by rw [Int.toNat_natCast]; exact HN.out.symm⟩, rfl⟩⟩
  go_wp2_with fail
  refine (eTwine _ _ _ _ k s u _ _ _ _ _ rL7 (by omega) (by omega) hs0 hs1 hu0 hu1 r67).mono ?_
  intro e w8 hh
  have hb8' := hh.2
  obtain ⟨a8, c8, rfl, r8⟩ := hh.told HTE.out
  rw [Int.toNat_natCast] at r8
  have rL8 := rL7.below hb8'
  have r78 := r7.below hb8'
  have hb8 := hb7.trans (hb8'.mono hb7.size)
  clear hh rL7 r67 r7 hb7 hb8' HTE
  have HRW : Hid (∀ j, j < K → rowK u (twl L K s u P k N) k (L.getD j 0) (k + 1) = rowK s P k (L.getD j 0) (k + 1)) := fun j hj => by rw [← HN.out]; exact twl_row hk hKk hj (dis_nz HD.out j hj)
  obtain ⟨Q, HQ⟩ : ∃ Q, Hid (twl L K s u P k N = Q) := ⟨_, rfl⟩
  rw [HQ.out] at r8 HRW
  go_wp2_with fail
  refine (cTwDeal u k _ _ _ Q m _ r8 hu0 hu1).mono ?_
  rintro e w9 ⟨⟨hno, rfl⟩ | ⟨k', q', v, L9, hDw, hq, rfl, hL9⟩, hb9'⟩
  · exact absurd ⟨rfl, hk, HN.out.symm, by omega, by omega⟩ (hno k)
  obtain rfl : k = k' := by have := hDw.1; omega
  obtain rfl : m = q' := by omega
  obtain ⟨a9, c9, rfl, r9⟩ := deal_rd hL9 (by omega)
  have rL9 := rL8.below hb9'
  have r79 := r78.below hb9'
  have hb9 := hb8.trans (hb9'.mono hb8.size)
  clear hDw hq hL9 rL8 r78 r8 hb8 hb9'
  go_wp2
  go_loopw [83] (fun i wr => ∃ p : Nat, p ≤ K ∧ i = .int .i64 p ∧ Below w9.heap.size w9 wr) (fun i _ => K - (intOf i).toNat)
  case atStart => exact ⟨0, Nat.zero_le _, rfl, Below.refl _ _⟩
  case round =>
    obtain ⟨p, hp, rfl, hbel⟩ := hrel
    by_cases hpK : p < K
    · obtain ⟨b1, o1, x, rfl, hbb1, HX, hx0, hx1, hcx⟩ := (rL9.below hbel).one hpK
      have hd := (HD.out p hpK).1
      have hdx : fi L p = x := HX.out
      rw [hdx] at hd
      have hdn := HLn.out p hpK
      rw [HX.out] at hdn
      obtain ⟨z, rfl⟩ : ∃ z : Nat, x = (z : Int) + 1 := ⟨(x - 1).toNat, by omega⟩
      have hzm : z < m := by omega
      have hz1 : (z : Int) + 1 - 1 = (z : Int) := by omega
      obtain ⟨b2, o2, x2, ai2, ni2, ci2, row2, rfl, hbb2, _, HR2, _, _, _, hc2, rr2⟩ := (r79.below hbel).one hzm
      obtain ⟨b3, o3, x3, ai3, ni3, ci3, row3, rfl, hbb3, _, HR3, _, _, _, hc3, rr3⟩ := (r9.below hbel).one hzm
      have hrow : row2 = row3 := by
        rw [← HR2.out, ← HR3.out, deal_ofd s P k m z hzm, deal_ofd u Q k m z hzm, deal_ta s P k hzm, deal_ta u Q k hzm]
        have := HRW.out p hpK
        rw [HX.out] at this
        exact this.symm
      subst hrow
      have hz0 : (0 : Int) ≤ (z : Int) := by omega
      have hzmi : (z : Int) < (m : Int) := by omega
      have HALL : Hid (∀ w', Below wr.drew.heap.size wr.drew w' → w'.cell? ⟨b2, o2 + z * 2 + 1, none⟩ = some (.slice ai2 ni2 ci2) ∧ w'.cell? ⟨b3, o3 + z * 2 + 1, none⟩ = some (.slice ai3 ni3 ci3) ∧ b2 < w'.heap.size ∧ b3 < w'.heap.size ∧ Below w9.heap.size w9 w') := fun w' hb => ⟨by rw [hb.cell hbb2]; exact hc2, by rw [hb.cell hbb3]; exact hc3, Nat.lt_of_lt_of_le hbb2 hb.size, Nat.lt_of_lt_of_le hbb3 hb.size, hbel.drew.trans (hb.mono hbel.drew.size)⟩
      have hwz : IntKind.i64.wrap ((z : Int) + 1 - 1) = (z : Int) := by rw [IntKind.wrap_i64]; omega
      have hwz2 : IntKind.i64.wrap (z : Int) = (z : Int) := by rw [IntKind.wrap_i64]; omega
      clear hbel
      go_upto_region 15 with fail
      go_region_held3 (fun w' => w'.cell? ⟨b2, o2 + z * 2 + 1, none⟩ = some (.slice ai2 ni2 ci2) ∧ w'.cell? ⟨b3, o3 + z * 2 + 1, none⟩ = some (.slice ai3 ni3 ci3)) (go_keep) (first | (go_at_call 28; refine (cSame _ _ _ _ _ _ _ _ rr2.drew rr3.drew).mono ?_; rintro e w10 ⟨rfl, hb10⟩; obtain ⟨j2, j3, j4, j5, hbel10⟩ := HALL.out w10 hb10; clear hb10))
      all_goals
        clear HALL hc2 hc3 rr2 rr3 hcx
        go_wp2
        go_roundw
        case rel => exact ⟨p + 1, by omega, by go_num, hbel10⟩
        case measure => simp [intOf]; omega
    · have hnp : ¬ ((p : Int) < (K : Int)) := by omega
      have r9z := r9.below hbel
      have hbz := hb9.trans (hbel.mono hb9.size)
      clear hbel
      go_wp2_with fail
      refine (cTwJoin k _ _ _ _ _ r9z).mono ?_
      rintro e w11 ⟨x, r, rfl, hJ, hb11'⟩
      obtain ⟨rfl, rfl⟩ := ofd_join (deal_ofd u Q k m) (deal_dis u Q k hm) hk (by omega) hJ
      have hb11 := hbz.trans (hb11'.mono hbz.size)
      clear hJ hbz hb11' r9z
      go_wp2_with (go_at_call 16; refine (fNorm u _ hu0 hu1).mono ?_; rintro e w3 ⟨rfl, hw⟩; have hw := hw.symm; subst hw)
      go_ret
      exact ⟨rfl, hb11⟩
end Go.Proofs.Ytnofegdlainjaae
