/- The walk of croftkeep.ShamirHides. -/
import Derived.Test.YtljlioglpaogdadToHidS
import Derived.Test.YtljlioglpaogdadToHidQ
import Derived.Test.YtljlioglpaogdadToOpenC
import Derived.Test.YtljlioglpaogdadToSomeC
import Derived.Test.YtljlioglpaogdadToLstC
import Derived.Test.YtljlioglpaogdadToHidM
import Derived.Deep.RegionHeld3
namespace Go.Proofs.Ytljlioglpaogdad
set_option linter.unusedVariables false
set_option maxRecDepth 100000
set_option maxHeartbeats 8000000
section
open Crm Go.RowKit
theorem rdI_lit1 (w : World) {x : Int} (hx : -9223372036854775808 ≤ x ∧ x ≤ 9223372036854775807) : RdI (w.alloc (.cells #[.int .i64 x] 3)) (some ⟨w.heap.size, 0, none⟩) 1 1 [x] := by
  refine ⟨rfl, Nat.le_refl _, by unfold maxLen; omega, fun z hz => by rw [List.mem_singleton.1 hz]; exact hx, by simp, fun y hy i hi => ?_⟩
  obtain rfl := Option.some.inj hy
  obtain rfl : i = 0 := by omega
  rw [Addr.add_lit, cell_of_row _ _ _ _ 3 (0, 0) (heap_alloc_new w _)]
  rfl
theorem hse_known : Hse [2] 1 1 0 := .inr ⟨fun i hi => by
  obtain rfl : i = 0 := by omega
  exact ⟨by decide, fun j hj => by omega⟩, .inr ⟨⟨by decide, by decide⟩, rfl⟩⟩
theorem shf_known : shf [2] 1 5 9 [1] 1 = [2147483646] := by
  have hi : iv 2 = 1073741824 := (iv_unique (a := 2) (x := 1073741824) (by decide) (by decide) (by decide)).symm
  have hb : (bl [2] 1).getD 1 0 = 1073741823 := by
    rw [bl, bl, show ([2] : List Int).getD 0 0 = 2 from rfl, hi]
    decide
  refine list_ext (by rw [shf_len]; rfl) fun i hi => ?_
  obtain rfl : i = 0 := by rw [shf_len] at hi; omega
  rw [shf_getD _ _ _ _ _ (by decide), hb]
  decide
theorem shamirHidesW (s u : Int) (a0 : Option Addr) (n0 c0 : Nat) (xs : List Int) (t n : Int) (a1 : Option Addr) (n1 c1 : Nat) (ps : List Int) (w : World) (hs0 : 0 ≤ s) (hs1 : s ≤ 18446744073709551615) (hu0 : 0 ≤ u) (hu1 : u ≤ 18446744073709551615) (h0 : Rd w a0 n0 c0 xs) (h1 : RdI w a1 n1 c1 ps) :
    Calls Try.prog 8 #[.int .u64 s, .int .u64 u, .slice a0 n0 c0, .int .i64 t, .int .i64 n, .slice a1 n1 c1] w fun e w' => e = .returned (.bool true) ∧ Below w.heap.size w w' := by
  have hbA : Below w.heap.size w (w.alloc (.cells #[.int .i64 2] 3)) := (Below.refl _ _).alloc (Nat.le_refl _) _
  have rA := rdI_lit1 w (x := 2) (by omega)
  have hsA : (w.alloc (.cells #[.int .i64 2] 3)).heap.size = w.heap.size + 1 := by simp
  go_enter Try.func8, Try.ntmps8
  go_wp2_with fail
  generalize w.alloc (.cells #[.int .i64 2] 3) = wA at *
  rw [← hsA]
  have hbB := below_one wA (.cells #[.int .u64 1] 23)
  have rB : Rd (wA.alloc (.cells #[.int .u64 1] 23)) (some ⟨wA.heap.size, 0, none⟩) 1 1 [1] := (Blk.lit1 wA 1).whole 1 rfl (by unfold maxLen; omega) (fun z hz => by rw [List.mem_singleton.1 hz]; omega)
  generalize wA.alloc (.cells #[.int .u64 1] 23) = wB at *
  refine (eShift _ _ _ _ 5 9 _ _ _ _ _ (rA.below hbB) (by omega) (by omega) (by omega) (by omega) rB).mono ?_
  intro e w1 hh
  have hb1' := hh.2
  obtain ⟨a2, c2, rfl, r2⟩ := hh.told hse_known
  rw [shf_known] at r2
  have hb1 := (hbA.trans (hbB.mono hbA.size)).trans (hb1'.mono (hbA.trans (hbB.mono hbA.size)).size)
  clear hh hbA hbB rA rB hsA hb1'
  go_wp2_with fail
  have hbC := below_one w1 (.cells #[.int .u64 2147483646] 23)
  have rC : Rd (w1.alloc (.cells #[.int .u64 2147483646] 23)) (some ⟨w1.heap.size, 0, none⟩) 1 1 [2147483646] := (Blk.lit1 w1 2147483646).whole 1 rfl (by unfold maxLen; omega) (fun z hz => by rw [List.mem_singleton.1 hz]; omega)
  generalize w1.alloc (.cells #[.int .u64 2147483646] 23) = wC at *
  refine (cSame _ _ _ _ _ _ _ _ (r2.below hbC) rC).mono ?_
  rintro e w2 ⟨rfl, hb2'⟩
  have hb2 := (hb1.trans (hbC.mono hb1.size)).trans (hb2'.mono (hb1.trans (hbC.mono hb1.size)).size)
  clear r2 rC hbC hb2' hb1
  go_wp2_with fail
  refine (kCrew _ _ _).mono ?_
  rintro e w3 ⟨⟨k, m, rfl, hk, hkm, hm⟩, hw⟩
  have hw := hw.symm
  subst hw
  go_wp2_with fail
  refine (kSome _ _ _ _ k m _ (h1.below hb2) (by omega) hm hk).mono ?_
  rintro e w4 ⟨v4, L, rfl, ho4, hS, hb4'⟩
  have HS : Hid (Som L k m) := hS
  obtain ⟨aL, cL, rfl, rL⟩ := RdI.own ho4 (som_bd hS)
  obtain ⟨K, HK⟩ : ∃ K, Hid (L.length = K) := ⟨_, rfl⟩
  rw [HK.out] at rL ⊢
  have hKk : K ≤ k := by rw [← HK.out]; exact hS.1
  have HD : Hid (dis (fi L) K) := by unfold Hid; rw [← HK.out]; exact hS.2.1
  have HLn : Hid (∀ j, j < K → L.getD j 0 ≤ (m : Int)) := by unfold Hid; rw [← HK.out]; exact hS.2.2
  have hb4 := hb2.trans (hb4'.mono hb2.size)
  have hcL := rL.cap
  have hmL := rL.max
  unfold maxLen at hmL
  clear hS ho4 hb2 hb4'
  go_wp2_with fail
  refine (kFilled _ _ _ _ k _ (h0.below hb4) hk).mono ?_
  rintro e w5 ⟨g5, rfl, r5, hb5'⟩
  obtain ⟨P, HP⟩ : ∃ P, Hid (padded xs k = P) := ⟨_, rfl⟩
  have HPl : Hid (P.length = k) := by unfold Hid; rw [← HP.out]; exact padded_len xs k
  rw [HP.out] at r5
  have rL5 := rL.below hb5'
  have hb5 := hb4.trans (hb5'.mono hb4.size)
  clear rL hb4 hb5'
  go_wp2_with fail
  refine (cDealOK s _ _ _ _ m _ r5 hs0 hs1 hk (by omega) hm).mono ?_
  rintro e w6 ⟨g6, rfl, r6, _, hb6'⟩
  have rL6 := rL5.below hb6'
  have r56 := r5.below hb6'
  have hb6 := hb5.trans (hb6'.mono hb5.size)
  clear rL5 r5 hb5 hb6'
  have HSE : Hid (Hse L K k 0) := .inr ⟨HD.out, .inr ⟨⟨hk, hKk⟩, rfl⟩⟩
  go_wp2_with fail
  refine (eShift _ _ _ _ s u _ _ _ _ _ rL6 hs0 hs1 hu0 hu1 r56).mono ?_
  intro e w7 hh
  have hb7' := hh.2
  obtain ⟨a7, c7, rfl, r7⟩ := hh.told HSE.out
  have rL7 := rL6.below hb7'
  have r57 := r56.below hb7'
  have r67 := r6.below hb7'
  have hb7 := hb6.trans (hb7'.mono hb6.size)
  clear hh rL6 r56 r6 hb6 hb7'
  go_wp2_with fail
  refine (cDealOK u _ _ _ _ m _ r7 hu0 hu1 hk (by omega) hm).mono ?_
  rintro e w8 ⟨g8, rfl, r8, _, hb8'⟩
  have rL8 := rL7.below hb8'
  have r58 := r57.below hb8'
  have r68 := r67.below hb8'
  have r78 := r7.below hb8'
  have hb8 := hb7.trans (hb8'.mono hb7.size)
  clear rL7 r57 r67 r7 hb7 hb8'
  go_wp2_with fail
  refine (eShift _ _ _ _ u s _ _ _ _ _ rL8 hu0 hu1 hs0 hs1 r78).mono ?_
  intro e w9 hh
  have hb9' := hh.2
  obtain ⟨a9, c9, rfl, r9⟩ := hh.told HSE.out
  have rL9 := rL8.below hb9'
  have r59 := r58.below hb9'
  have r69 := r68.below hb9'
  have r89 := r8.below hb9'
  have hb9 := hb8.trans (hb9'.mono hb8.size)
  have hc9 := r9.cap
  have hm9 := r9.max
  unfold maxLen at hm9
  clear hh rL8 r58 r68 r78 r8 hb8 hb9'
  have HBK : Hid (∀ i, i < k → (shf L K u s (shf L K s u P k) k).getD i 0 = nm (P.getD i 0)) := fun i hi => shf_back L K s u P hi
  have HSM : Hid (∀ j, j < K → nm (ev (u :: shf L K s u P k) (L.getD j 0)) = nm (ev (s :: P) (L.getD j 0))) := fun j hj => shf_same hKk HPl.out hj (dis_nz HD.out j hj)
  obtain ⟨Q, HQ⟩ : ∃ Q, Hid (shf L K s u P k = Q) := ⟨_, rfl⟩
  have HQl : Hid (Q.length = k) := by unfold Hid; rw [← HQ.out]; exact shf_len _ _ _ _ _ _
  rw [HQ.out] at HBK HSM r9 r89
  obtain ⟨Z, HZ⟩ : ∃ Z, Hid (shf L K u s Q k = Z) := ⟨_, rfl⟩
  rw [HZ.out] at HBK r9
  clear HSE HP HZ
  go_wp2
  go_loopw [102] (fun i wr => ∃ j : Nat, j ≤ k ∧ i = .int .i64 j ∧ Below w9.heap.size w9 wr) (fun i _ => k - (intOf i).toNat)
  case atStart => exact ⟨0, Nat.zero_le _, rfl, Below.refl _ _⟩
  case round =>
    obtain ⟨j, hj, rfl, hbel⟩ := hrel
    by_cases hjk : j < k
    · obtain ⟨b1, o1, x, rfl, hbb1, HX, hx0, hx1, hcx⟩ := (r9.below hbel).one hjk
      obtain ⟨b2, o2, y, e2, hbb2, HY, hy0, hy1, hcy⟩ := (r59.below hbel).one hjk
      simp only [Option.some.injEq, Addr.mk.injEq, and_true] at e2
      obtain ⟨rfl, rfl⟩ := e2
      rw [Nat.zero_add] at hcy
      have hxy : x = nm y := by rw [← HX.out, ← HY.out]; exact HBK.out j hjk
      subst hxy
      have hne : (nm y != nm y) = false := by simp
      have hj0 : (0 : Int) ≤ (j : Int) := by omega
      have hjki : (j : Int) < (k : Int) := by omega
      have hbD := hbel.drew
      go_upto_region 16 with fail
      go_region_held3 (fun w' => w'.cell? ⟨b1, o1 + j, none⟩ = some (.int .u64 (nm y)) ∧ w'.cell? ⟨g5, j, none⟩ = some (.int .u64 y)) (go_keep) (first | (go_at_call 23; refine (fNorm y _ hy0 hy1).mono ?_; rintro e w3 ⟨rfl, hw⟩; have hw := hw.symm; subst hw))
      all_goals
        clear hbel
        go_wp2
        go_roundw
        case rel => exact ⟨j + 1, by omega, by go_num, hbD⟩
        case measure => simp [intOf]; omega
    · have hjk2 : j = k := by omega
      have hnj : ¬ ((j : Int) < (k : Int)) := by omega
      clear hjk
      obtain ⟨wo, hwo⟩ : ∃ x, x = wr := ⟨_, rfl⟩
      subst hwo
      go_wp2
      go_loopw [118] (fun i wr => ∃ p : Nat, p ≤ K ∧ i = .int .i64 p ∧ Below w9.heap.size w9 wr) (fun i _ => K - (intOf i).toNat)
      case atStart => exact ⟨0, Nat.zero_le _, rfl, hbel⟩
      case round =>
        clear hbel
        obtain ⟨p, hp, rfl, hbel⟩ := hrel
        by_cases hpK : p < K
        · obtain ⟨b1, o1, x, rfl, hbb1, HX, hx0, hx1, hcx⟩ := (rL9.below hbel).one hpK
          have hd := (HD.out p hpK).1
          have hdx : fi L p = x := HX.out
          rw [hdx] at hd
          have hdn := HLn.out p hpK
          rw [HX.out] at hdn
          obtain ⟨z, rfl⟩ : ∃ z : Nat, x = (z : Int) + 1 := ⟨(x - 1).toNat, by omega⟩
          have hzm : z < m := by omega
          have hz1 : (z : Int) + 1 - 1 = (z : Int) := by omega
          obtain ⟨b2, o2, y, e2, hbb2, HY, hy0, hy1, hcy⟩ := (r69.below hbel).one hzm
          obtain ⟨b3, o3, y3, e3, hbb3, HY3, _, _, hcy3⟩ := (r89.below hbel).one hzm
          simp only [Option.some.injEq, Addr.mk.injEq, and_true] at e2 e3
          obtain ⟨rfl, rfl⟩ := e2
          obtain ⟨rfl, rfl⟩ := e3
          rw [Nat.zero_add] at hcy hcy3
          have hyy : y = y3 := by
            rw [← HY.out, ← HY3.out, dl_getD _ hzm, dl_getD _ hzm]
            have := HSM.out p hpK
            rw [HX.out] at this
            exact this.symm
          subst hyy
          have hne : (y != y) = false := by simp
          have hz0 : (0 : Int) ≤ (z : Int) := by omega
          have hzmi : (z : Int) < (m : Int) := by omega
          have hbD := hbel.drew
          clear hbel
          go_wp2
          go_region
          all_goals
            go_wp2
            go_roundw
            case rel => exact ⟨p + 1, by omega, by go_num, hbD⟩
            case measure => simp [intOf]; omega
        · have hnp : ¬ ((p : Int) < (K : Int)) := by omega
          have r8z := r89.below hbel
          have hbz := hb9.trans (hbel.mono hb9.size)
          clear hbel
          go_wp2_with fail
          refine (kShares _ _ _ _ _ r8z hm).mono ?_
          rintro e w10 ⟨v10, rfl, ho10, hb10'⟩
          obtain ⟨a10, c10, rfl, r10⟩ := RdS.own ho10 (shl_len _ _) (fun i hi => by
            rw [shl_getD _ hi]
            have := getD_bd (bd_u64 (dl_bd (u :: Q) m)) i
            exact ⟨⟨by simp only; omega, by simp only; omega⟩, this⟩)
          have hb10 := hbz.trans (hb10'.mono hbz.size)
          clear ho10 hbz hb10' r8z
          go_wp2_with fail
          refine (cOpenS _ _ _ _ _ _ r10).mono ?_
          rintro e w11 ⟨x, r, rfl, hO, hb11'⟩
          obtain ⟨rfl, rfl⟩ := shl_open hm hk (by omega) (C := u :: Q) (by rw [List.length_cons, HQl.out]; exact Nat.le_refl _) (fun i hi => dl_getD _ hi) hO
          have e0 : nm (ev (u :: Q) 0) = nm u := by rw [ev, Int.zero_mul, Int.add_zero]
          rw [e0]
          have hb11 := hb10.trans (hb11'.mono hb10.size)
          clear hO hb10 hb11' r10 e0
          go_wp2_with (go_at_call 23; refine (fNorm u _ hu0 hu1).mono ?_; rintro e w3 ⟨rfl, hw⟩; have hw := hw.symm; subst hw)
          go_ret
          exact ⟨rfl, hb11⟩
end
end Go.Proofs.Ytljlioglpaogdad
