/- The walk of croftkeep.ShamirAny. -/
import Derived.Test.YtljlioglpaogdadToPickC
import Derived.Test.YtljlioglpaogdadToWeightC
import Derived.Deep.DeepCutAuto
namespace Go.Proofs.Ytljlioglpaogdad
set_option linter.unusedVariables false
set_option maxRecDepth 100000
set_option maxHeartbeats 8000000
section
open Crm Go.RowKit
theorem ats_take {l : List (Int × Int)} {k : Nat} (h : k < l.length) {x : Int} (hx : (l.getD k (0, 0)).1 = x) : (ats l).take k ++ [x] = (ats l).take (k + 1) := by
  have hl := ats_len l
  rw [List.take_succ_eq_append_getElem (by omega)]
  congr 2
  unfold ats
  rw [List.getElem_map, ← hx, List.getD_eq_getElem?_getD, List.getElem?_eq_getElem h]
  rfl
theorem ats_getD {l : List (Int × Int)} {j : Nat} (h : j < l.length) : (ats l).getD j 0 = (l.getD j (0, 0)).1 := by
  simp [ats, List.getElem?_eq_getElem h]

theorem shamirAnyW (s : Int) (a0 : Option Addr) (n0 c0 : Nat) (xs : List Int) (t n : Int) (a4 : Option Addr) (n4 c4 : Nat) (ps : List Int) (kk : Int) (w : World) (hs0 : 0 ≤ s) (hs1 : s ≤ 18446744073709551615) (h0 : Rd w a0 n0 c0 xs) (h4 : RdI w a4 n4 c4 ps) :
    Calls Try.prog 6 #[.int .u64 s, .slice a0 n0 c0, .int .i64 t, .int .i64 n, .slice a4 n4 c4, .int .i64 kk] w fun e w' => e = .returned (.bool true) ∧ Below w.heap.size w w' := by
  go_enter Try.func6, Try.ntmps6
  go_wp2_with fail
  refine (kDealt _).mono ?_
  rintro e w1 ⟨rfl, hw1⟩
  go_wp2_with fail
  refine (kCrew _ _ _).mono ?_
  rintro e w2 ⟨⟨k, m, rfl, hk, hkm, hm⟩, hw⟩
  have hw := hw.symm
  subst hw
  go_wp2_with fail
  refine (kFilled _ _ _ _ k _ (h0.below hw1) hk).mono ?_
  rintro e w3 ⟨g3, rfl, hr3, hb3⟩
  have HPl : Hid ((padded xs k).length = k) := padded_len xs k
  generalize padded xs k = P at hr3 HPl
  have hw3 := hw1.trans (hb3.mono hw1.size)
  clear hw1 hb3 h0
  go_wp2_with fail
  refine (cDealOK s _ _ _ _ m _ hr3 hs0 hs1 hk (by omega) hm).mono ?_
  rintro e w4 ⟨g4, rfl, hr4, _, hb4⟩
  have hw4 := hw3.trans (hb4.mono hw3.size)
  clear hw3 hb4 hr3
  obtain ⟨C, HC⟩ : ∃ C, Hid (s :: P = C) := ⟨_, rfl⟩
  have HCl : Hid (C.length ≤ k + 1) := by unfold Hid; rw [← HC.out]; simp [HPl.out]
  have HC0 : Hid (nm (ev C 0) = nm s) := by unfold Hid; rw [← HC.out, ev, Int.zero_mul, Int.add_zero]
  rw [HC.out] at hr4
  go_wp2_with fail
  refine (kShares _ _ _ _ _ hr4 hm).mono ?_
  rintro e w5 ⟨v, rfl, hown, hb5⟩
  have hw5 := hw4.trans (hb5.mono hw4.size)
  have hll := shl_len (dl C m) m
  have HBD : Hid (∀ p ∈ shl (dl C m) m, (1 ≤ p.1 ∧ p.1 ≤ 9) ∧ 0 ≤ p.2 ∧ p.2 ≤ 2147483646) := fun p hp => by
    obtain ⟨i, hi, rfl⟩ := shl_mem hp
    exact ⟨⟨by simp only; omega, by simp only; omega⟩, dlf_bd C i⟩
  clear hw4 hb5 hr4
  have hmk : (m : Int) - k = ((m - k : Nat) : Int) := by omega
  go_wp2_with fail
  refine (rRest _ (m - k) _ (by omega) (by omega)).mono ?_
  rintro e w6 ⟨⟨q, hq, rfl⟩, hw⟩
  have hw := hw.symm
  subst hw
  clear hmk
  obtain ⟨K, hK⟩ : ∃ K : Nat, K = k + 1 + q := ⟨_, rfl⟩
  have hKI : (k : Int) + 1 + q = (K : Int) := by omega
  have hkK : k < K := by omega
  have hKm : K ≤ m := by omega
  clear hK
  go_wp2_with fail
  refine (kPicked _ m _ _ _ _ _ _ K _ hown hll (by omega) hm hKm HBD.out (h4.below hw5)).mono ?_
  rintro e w7 ⟨out, rem, v7, rfl, hlo, hperm, hown7, hb7⟩
  have hw7 := hw5.trans (hb7.mono hw5.size)
  have HOK : Hid (dis (fa out) K ∧ Hs out K C ∧ (∀ j, j < K → fy out j = nm (ev C (fa out j)) ∧ 0 ≤ fy out j ∧ fy out j ≤ 2147483646)) := picked_ok hm hlo hperm
  have hbd : ∀ j, j < K → (-9223372036854775808 ≤ (out.getD j (0, 0)).1 ∧ (out.getD j (0, 0)).1 ≤ 9223372036854775807) ∧ 0 ≤ (out.getD j (0, 0)).2 ∧ (out.getD j (0, 0)).2 ≤ 18446744073709551615 := fun j hj => by
    have h1 := (HOK.out.1 j hj).1
    have h2 := (HOK.out.2.2 j hj).2
    unfold fa at h1
    unfold fy at h2
    omega
  obtain ⟨a7, c7, rfl, hR7⟩ := RdS.own hown7 hlo hbd
  clear hown hperm hown7 hbd HBD hb7 hw5 hKI hq
  go_wp2_with fail
  refine (cOpenS _ _ _ _ _ _ hR7).mono ?_
  rintro e w8 ⟨x, r, rfl, hO, hb8⟩
  obtain ⟨rfl, rfl⟩ := any_open HOK.out.1 hk hkK HCl.out HOK.out.2.1 hO
  rw [HC0.out]
  have hns := nm_bd s
  have hneb : (nm s != nm s) = false := by simp
  have hw8 := hw7.trans (hb8.mono hw7.size)
  have hR8 := hR7.below hb8
  clear hO hb8 hw7 hR7
  have hlc := hR8.cap
  have hlm := hR8.max
  unfold maxLen at hlm
  go_wp2_with (go_at_call 23; refine (fNorm _ _ (by omega) (by omega)).mono ?_; rintro e w' ⟨rfl, hw⟩; have hw := hw.symm; subst hw)
  have hla := ats_len out
  go_loopw [17, 71] (fun v i wr => ∃ j : Nat, j ≤ K ∧ i = .int .i64 j ∧ wr.ownsRow w8.heap.size 3 1 v j (zns ((ats out).take j)) ∧ Below w8.heap.size w8 wr) (fun _ i _ => K - (intOf i).toNat)
  case atStart => exact ⟨0, Nat.zero_le _, rfl, World.ownsRow_nil _ _ _ _, Below.refl _ _⟩
  case round =>
    obtain ⟨j, hj, rfl, hownA, hbA⟩ := hrel
    have hsA := hbA.size
    by_cases hlt : j < K
    · obtain ⟨b, o, x, y, rfl, hbb, HX, HY, hx0, hx1, hy0, hy1, hcx, hcy⟩ := (hR8.below hbA).one hlt
      have HS : Hid ((ats out).take j ++ [x] = (ats out).take (j + 1)) := ats_take (by omega) HX.out
      have hcA0 := cell_alloc0 wr (.int .i64 x) (.int .u64 y) 38
      have hownB := own_below hownA ((Below.refl wr.heap.size wr).alloc (Nat.le_refl _) (.cells #[.int .i64 x, .int .u64 y] 38))
      have hbB := hbA.alloc hsA (.cells #[.int .i64 x, .int .u64 y] 38)
      have hsB := hbB.size
      go_upto_region 15 with fail
      generalize wr.alloc (.cells #[.int .i64 x, .int .u64 y] 38) = W at *
      clear hcx hcy hownA hbA
      go_wp2_with (at_builtin; refine wpList_appV Try.underlying35 infoZ rfl (by omega) _ rfl _ _ rfl w8.heap.size _ _ _ rfl hownB (.int .i64 x) rfl rfl (by omega) hsB ?_; intro v' w9 hown9 hgr9 _; rw [zns_snoc, HS.out] at hown9; have hbel9 := hbB.grown hgr9 hsB (fun j hj => (hownB.lt j hj).1); clear hgr9 hownB hbB)
      go_roundw
      case rel => exact ⟨j + 1, by omega, by go_num, hown9, hbel9⟩
      case measure => simp [intOf]; omega
    · have hjK : j = K := by omega
      subst hjK
      rw [List.take_of_length_le (by omega)] at hownA
      have HDI : Hid (dis (fi (ats out)) j) := fun i hi => by
        have h1 := HOK.out.1 i hi
        unfold fi
        rw [ats_getD (by omega)]
        refine ⟨h1.1, fun p hp => ?_⟩
        rw [ats_getD (by omega)]
        exact h1.2 p hp
      obtain ⟨aa, ca, rfl, hRA⟩ := RdI.own hownA (fun x hx => by
        obtain ⟨i, hi, rfl⟩ := ats_mem hx
        have h1 := (HOK.out.1 i (by omega)).1
        unfold fa at h1
        omega)
      have hwA := hw8.trans (hbA.mono hw8.size)
      have hRS := hR8.below hbA
      clear hownA hbA hR8 hw8
      obtain ⟨wo, hwo⟩ : ∃ wo, wo = wr := ⟨_, rfl⟩
      subst hwo
      go_wp2_with fail
      refine (cWeights1 _ _ _ _ _ hRA (by omega)).mono ?_
      rintro e w10 ⟨⟨hd, _⟩ | ⟨hd, gw, rfl, hrw, _⟩, hb10⟩
      · exact absurd HDI.out hd
      · have hw10 := hwA.trans (hb10.mono hwA.size)
        have hRS10 := hRS.below hb10
        have HSUM : Hid (nm (sm (fun i => wt (ats out) j i * fy out i) j) = nm s) := by
          unfold Hid
          rw [← HC0.out]
          have hCl := HCl.out
          exact sum_wt HDI.out (by omega) (fy out) (fun i hi => by rw [(HOK.out.2.2 i hi).1, nm_nm, ats_getD (by omega)]; rfl)
        clear hd hb10 hwA hRS hRA
        go_wp2
        go_loopw [21, 88] (fun v i wr => ∃ (p : Nat) (S : Int), p ≤ j ∧ i = .int .i64 p ∧ v = .int .u64 S ∧ 0 ≤ S ∧ S ≤ 2147483646 ∧ Hid (S = nm (sm (fun i => wt (ats out) j i * fy out i) p)) ∧ Below w10.heap.size w10 wr) (fun _ i _ => j - (intOf i).toNat)
        case atStart => exact ⟨0, 0, Nat.zero_le _, rfl, rfl, by omega, by omega, rfl, Below.refl _ _⟩
        case round =>
          obtain ⟨p, S, hp, rfl, rfl, hS0, hS1, HS, hbS⟩ := hrel
          have hsS := hbS.size
          by_cases hlt2 : p < j
          · obtain ⟨b, o, x, y, rfl, hbb, HX, HY, hx0, hx1, hy0, hy1, hcx, hcy⟩ := (hRS10.below hbS).one hlt2
            obtain ⟨b2, o2, u, e2, hb2, HU, hu0, hu1, hcu⟩ := (hrw.below hbS).one hlt2
            simp only [Option.some.injEq, Addr.mk.injEq, and_true] at e2
            obtain ⟨rfl, rfl⟩ := e2
            have HU2 : Hid (u = wt (ats out) j p) := by unfold Hid; rw [← HU.out]; simp [hlt2]
            have HS2 : Hid (nm (S + nm (u * y)) = nm (sm (fun i => wt (ats out) j i * fy out i) (p + 1))) := by
              unfold Hid
              rw [sm, HS.out, nm_addl, nm_addr, HU2.out]
              unfold fy
              rw [HY.out]
            have n1 := nm_bd (u * y)
            have n2 := nm_bd (S + nm (u * y))
            have hcA1 := cell_alloc1 wr (.int .i64 x) (.int .u64 y) 38
            have hcU : (wr.alloc (.cells #[.int .i64 x, .int .u64 y] 38)).cell? ⟨gw, 0 + p, none⟩ = some (.int .u64 u) := by rw [World.cell?_of_block (w := wr) (Below.heap_alloc _ _ _ hb2)]; exact hcu
            have hbB := hbS.alloc hsS (.cells #[.int .i64 x, .int .u64 y] 38)
            have hlW : wr.heap.size < (wr.alloc (.cells #[.int .i64 x, .int .u64 y] 38)).heap.size := by simp
            rw [Nat.zero_add] at hcU
            go_wp2
            generalize wr.alloc (.cells #[.int .i64 x, .int .u64 y] 38) = W at *
            clear hcx hcy hcu hbS
            go_quiet ((first | (go_at_call 15; exact Calls.quiet_of_same (fMul _ _ _ (by omega) (by omega) (by omega) (by omega))) | (go_at_call 20; exact Calls.quiet_of_same (fAdd _ _ _ (by omega) (by omega) (by omega) (by omega)))))
            all_goals
              go_wp2
              go_roundw
              case rel => exact ⟨p + 1, _, by omega, by go_num, rfl, n2.1, n2.2, HS2, drewN_below hbB _⟩
              case measure => simp [intOf]; omega
          · have hpj : p = j := by omega
            subst hpj
            have hSb : (S == nm s) = true := by rw [beq_iff_eq, HS.out, HSUM.out]
            have hwE := hw10.trans (hbS.mono hw10.size)
            go_wp2_with (go_at_call 23; refine (fNorm _ _ (by omega) (by omega)).mono ?_; rintro e w' ⟨rfl, hw⟩; have hw := hw.symm; subst hw)
            go_ret
            exact ⟨rfl, hwE⟩
end
end Go.Proofs.Ytljlioglpaogdad
