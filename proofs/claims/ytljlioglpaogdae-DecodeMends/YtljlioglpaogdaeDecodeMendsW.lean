/- The walk of croftkeep.DecodeMends. -/
import Derived.Test.YtljlioglpaogdaeToMissC
import Derived.Test.YtljlioglpaogdaeToDecC
import Derived.Test.YtljlioglpaogdaeToEqIC
import Derived.Test.YtljlioglpaogdaeToTwoC
import Derived.Test.YtljlioglpaogdaeDealtC
namespace Go.Proofs.Ytljlioglpaogdae
set_option linter.unusedVariables false
set_option maxRecDepth 100000
set_option maxHeartbeats 8000000
section
open Crm Go.RowKit
theorem rdS_known3 (w : World) (E : TypeId) : RdS (w.alloc (.cells #[.int .i64 1, .int .u64 5, .int .i64 2, .int .u64 6, .int .i64 3, .int .u64 5] E)) (some ⟨w.heap.size, 0, none⟩) 3 3 [(1, 5), (2, 6), (3, 5)] := by
  refine ⟨rfl, Nat.le_refl _, by unfold maxLen; omega, fun i hi => ?_, by simp, fun x hx i hi => ?_⟩
  · match i, hi with
    | 0, _ => decide
    | 1, _ => decide
    | 2, _ => decide
  · obtain rfl := Option.some.inj hx
    rw [Addr.add_lit, Addr.add_lit, cell_of_row _ _ _ _ E (0, 0) (heap_alloc_new w _), cell_of_row _ _ _ _ E (0, 0) (heap_alloc_new w _)]
    match i, hi with
    | 0, _ => exact ⟨rfl, rfl⟩
    | 1, _ => exact ⟨rfl, rfl⟩
    | 2, _ => exact ⟨rfl, rfl⟩
theorem rdI_lit (w : World) (E : TypeId) : RdI (w.alloc (.cells #[.int .i64 2] E)) (some ⟨w.heap.size, 0, none⟩) 1 1 [2] := by
  refine ⟨rfl, Nat.le_refl _, by unfold maxLen; omega, fun x hx => by rw [List.mem_singleton.1 hx]; omega, by simp, fun x hx i hi => ?_⟩
  obtain rfl := Option.some.inj hx
  obtain rfl : i = 0 := by omega
  rw [Addr.add_lit, cell_of_row _ _ _ _ E (0, 0) (heap_alloc_new w _)]
  rfl
theorem md_start (C : List Int) (m : Nat) : MdI C m (shl (dl C m) m) [] := by
  refine ⟨shl_len _ _, fun j hj => by rw [shl_getD _ hj], fun j hj => ?_, fun j hj _ => ?_, fun j hj h => by simp at h, List.nodup_nil, fun d hd => by simp at hd⟩
  · rw [shl_getD _ hj, dl_getD C hj]; exact dlf_bd C j
  · rw [shl_getD _ hj, dl_getD C hj]

theorem decodeMendsW (s : Int) (a0 : Option Addr) (n0 c0 : Nat) (xs : List Int) (t n : Int) (a1 : Option Addr) (n1 c1 : Nat) (ps : List Int) (a2 : Option Addr) (n2 c2 : Nat) (ys : List Int) (w : World) (hs0 : 0 ≤ s) (hs1 : s ≤ 18446744073709551615) (h0 : Rd w a0 n0 c0 xs) (h1 : RdI w a1 n1 c1 ps) (h2 : Rd w a2 n2 c2 ys) :
    Calls Try.prog 3 #[.int .u64 s, .slice a0 n0 c0, .int .i64 t, .int .i64 n, .slice a1 n1 c1, .slice a2 n2 c2] w fun e w' => e = .returned (.bool true) ∧ Below w.heap.size w w' := by
  have hc1 := h1.cap
  have hx1 := h1.max
  have hc2 := h2.cap
  have hx2 := h2.max
  unfold maxLen at hx1 hx2
  have hbA := below_one w (.cells #[.int .i64 1, .int .u64 5, .int .i64 2, .int .u64 6, .int .i64 3, .int .u64 5] 29)
  have hrA := rdS_known3 w 29
  go_enter Try.func3, Try.ntmps3
  go_wp2_with fail
  generalize w.alloc (.cells #[.int .i64 1, .int .u64 5, .int .i64 2, .int .u64 6, .int .i64 3, .int .u64 5] 29) = wA at *
  refine (cOpenD _ _ _ _ _ _ hrA).mono ?_
  rintro e wB ⟨x, B, r, aB, kB, cB, rfl, hR, hrB, hbB⟩
  obtain ⟨rfl, rfl, rfl⟩ := known_told hR
  have hwB := hbA.trans (hbB.mono hbA.size)
  clear hbA hbB hrA hR
  have hbC := below_one wB (.cells #[.int .i64 2] 3)
  have hrC := rdI_lit wB 3
  go_wp2_with fail
  generalize wB.alloc (.cells #[.int .i64 2] 3) = wC at *
  refine (zSame _ _ _ _ _ _ _ _ (hrB.below hbC) hrC).mono ?_
  rintro e w1 ⟨rfl, hb1⟩
  have hwC := hwB.trans (hbC.mono hwB.size)
  have hw1 := hwC.trans (hb1.mono hwC.size)
  clear hwB hwC hbC hb1 hrB hrC
  go_wp2_with fail
  refine (kCrew _ _ _).mono ?_
  rintro e w2 ⟨⟨k, m, rfl, hk, hkm, hm⟩, hw⟩
  have hw := hw.symm
  subst hw
  go_wp2_with fail
  refine (kFilled _ _ _ _ k _ (h0.below hw1) hk).mono ?_
  rintro e w3 ⟨g3, rfl, hr3, hb3⟩
  have HPl : Hid ((padded xs k).length = k) := padded_len xs k
  generalize padded xs k = P at hr3 HPl
  have hw3 := hw1.trans (hb3.mono hw1.size)
  clear hw1 hb3 h0
  go_wp2_with fail
  refine (cDealOK s _ _ _ _ m _ hr3 hs0 hs1 hk (by omega) hm).mono ?_
  rintro e w4 ⟨g4, rfl, hr4, _, hb4⟩
  have hw4 := hw3.trans (hb4.mono hw3.size)
  clear hw3 hb4 hr3
  obtain ⟨C, HC⟩ : ∃ C, Hid (s :: P = C) := ⟨_, rfl⟩
  have HCl : Hid (C.length ≤ k + 1) := by unfold Hid; rw [← HC.out]; simp [HPl.out]
  have HC0 : Hid (C.getD 0 0 = s) := by unfold Hid; rw [← HC.out]; rfl
  rw [HC.out] at hr4
  go_wp2_with fail
  refine (kShares _ _ _ _ _ hr4 hm).mono ?_
  rintro e w5 ⟨v, rfl, hown, hb5⟩
  have hw5 := hw4.trans (hb5.mono hw4.size)
  have hs4 := hw4.size
  have hs5 := hb5.size
  obtain ⟨g, c, rfl, hg1, hg2, hcm, hcx⟩ := own_at2 hown (by omega)
  unfold maxLen at hcx
  have hB4 : Below w4.heap.size w4 w5 := hb5
  clear hr4 hb5
  have hd2 : 0 ≤ ((m : Int) - (k : Int) - 1) / 2 := by omega
  have hd3 : ((m : Int) - (k : Int) - 1) / 2 ≤ 4 := by omega
  have HMY : Hid (((m : Int) - (k : Int) - 1) / 2 = mayb m k) := by unfold Hid mayb; omega
  go_wp2
  go_loopw [19, 67] (fun v i wr => ∃ (j : Nat) (L : List (Int × Int)) (D : List Int), j ≤ n1 ∧ i = .int .i64 j ∧ wr.ownsRow w4.heap.size 29 2 (.slice (some ⟨g, 0, none⟩) m c) m (shc L) ∧ wr.ownsRow w4.heap.size 3 1 v D.length (zns D) ∧ Hid (MdI C m L D) ∧ (D.length : Int) ≤ ((m : Int) - (k : Int) - 1) / 2 ∧ Below w4.heap.size w4 wr ∧ Below w.heap.size w wr) (fun _ i _ => n1 - (intOf i).toNat)
  case atStart => exact ⟨0, _, [], Nat.zero_le _, rfl, hown, World.ownsRow_nil _ _ _ _, md_start C m, by simpa using hd2, hB4, hw5⟩
  case round =>
    clear hown hB4 hw5
    obtain ⟨i, L, D, hi, rfl, hol, hob, HMd, hDE, hB5, hbel⟩ := hrel
    have hsr := hB5.size
    obtain ⟨ab, cb, rfl, hcb⟩ := own_slice hob
    obtain ⟨DL, HDL⟩ : ∃ DL, Hid (D.length = DL) := ⟨_, rfl⟩
    rw [HDL.out] at hob hcb hDE ⊢
    by_cases hlt : i < n1
    · obtain ⟨b1, o1, p, rfl, hbb1, HPp, hp0, hp1, hcp⟩ := (h1.below hbel).one hlt
      go_wp2_with fail
      refine (rRest _ m _ (by omega) (by omega)).mono ?_
      rintro e w6 ⟨⟨q, hq, rfl⟩, hw⟩
      have hw := hw.symm
      subst hw
      by_cases hib : i < n2
      · obtain ⟨b2, o2, y, rfl, hbb2, HY, hy0, hy1, hcy⟩ := (h2.below hbel).one hib
        have hny := nm_bd y
        by_cases hyz : nm y = 0
        · have hyb : (nm y != 0) = false := by rw [hyz]; rfl
          clear hyz
          go_wp2_with (go_at_call 16; refine (fNorm _ _ (by omega) (by omega)).mono ?_; rintro e w' ⟨rfl, hw⟩; have hw := hw.symm; subst hw)
          go_roundw
          case rel => exact ⟨i + 1, L, D, by omega, by go_num, hol, by rw [HDL.out]; exact hob, HMd, by rw [HDL.out]; exact hDE, hB5, hbel⟩
          case measure => simp [intOf]; omega
        · have hyb : (nm y != 0) = true := by rw [bne_iff_ne]; exact hyz
          have HYZ : Hid (nm y ≠ 0) := hyz
          clear hyz
          by_cases hDlt : (DL : Int) < ((m : Int) - (k : Int) - 1) / 2
          · have HDb : Hid (∀ x ∈ D, -9223372036854775808 ≤ x ∧ x ≤ 9223372036854775807) := fun x hx => by
              obtain ⟨j, hj, rfl⟩ := HMd.out.rng x hx; omega
            have hrD : RdI wr ab DL cb D := by
              obtain ⟨a', c', e', hr⟩ := RdI.own hob HDb.out
              simp only [Value.slice.injEq, true_and] at e'
              obtain ⟨rfl, rfl⟩ := e'
              exact hr
            by_cases hmem : (q : Int) + 1 ∈ D
            · obtain ⟨j0, hj0, hjx⟩ := List.getElem_of_mem hmem
              have hj1 : j0 < DL := by rw [← HDL.out]; exact hj0
              have HJ : Hid (D.getD j0 0 = (q : Int) + 1) := by unfold Hid; simp [List.getElem?_eq_getElem hj0, hjx]
              clear hmem hjx
              go_wp2_with (first | (go_at_call 16; refine (fNorm _ _ (by omega) (by omega)).mono ?_; rintro e w' ⟨rfl, hw⟩; have hw := hw.symm; subst hw) | (go_at_call 17; refine (iContT _ _ _ _ _ _ hrD hj1 HJ.out).mono ?_; rintro e w' ⟨rfl, hw⟩; have hw := hw.symm; subst hw))
              all_goals
                go_roundw
                case rel => exact ⟨i + 1, L, D, by omega, by go_num, hol, by rw [HDL.out]; exact hob, HMd, by rw [HDL.out]; exact hDE, hB5, hbel⟩
                case measure => simp [intOf]; omega
            · have HNO : Hid (∀ j, j < DL → D.getD j 0 ≠ (q : Int) + 1) := fun j hj e => hmem (by rw [← e]; exact getD_mem (by rw [HDL.out]; exact hj))
              obtain ⟨z, HZ⟩ : ∃ z, Hid (nm ((L.getD q (0, 0)).2 + y) = z) := ⟨_, rfl⟩
              have HMd2 : Hid (MdI C m (L.set q ((q : Int) + 1, z)) (D ++ [(q : Int) + 1])) := md_step HMd.out hq hmem HYZ.out HZ.out.symm
              have hll := HMd.out.len
              have hcq := (sh_cell hol hll hq).2
              have hfq := own_frozen2 hol (q * 2 + 1)
              have hyq := HMd.out.bd q hq
              obtain ⟨yq, HYq⟩ : ∃ yq, Hid ((L.getD q (0, 0)).2 = yq) := ⟨_, rfl⟩
              rw [HYq.out] at hcq hyq HZ
              have hzb : 0 ≤ z ∧ z ≤ 2147483646 := by rw [← HZ.out]; exact nm_bd _
              have Hol7 : Hid (((wr.setCell ⟨g, q * 2 + 1, none⟩ (.int .u64 z)).drew).ownsRow w4.heap.size 29 2 (.slice (some ⟨g, 0, none⟩) m c) m (shc (L.set q ((q : Int) + 1, z)))) := by
                have := own_set2 hol (q * 2 + 1) (.int .u64 z)
                rw [shc_setY, HMd.out.at_ q hq] at this
                exact this
              have hgs := grown_drew (grown_set wr g (q * 2 + 1) (.int .u64 z))
              have Hob7 : Hid (((wr.setCell ⟨g, q * 2 + 1, none⟩ (.int .u64 z)).drew).ownsRow w4.heap.size 3 1 (.slice ab DL cb) DL (zns D)) := hob.kept hgs (own_apart hol hob (by decide))
              have HB7 : Hid (Below w4.heap.size w4 ((wr.setCell ⟨g, q * 2 + 1, none⟩ (.int .u64 z)).drew)) := hB5.grown hgs hsr (fun j hj => by simp at hj; omega)
              have Hbel7 : Hid (Below w.heap.size w ((wr.setCell ⟨g, q * 2 + 1, none⟩ (.int .u64 z)).drew)) := hbel.grown hgs hbel.size (fun j hj => by simp at hj; omega)
              have hqm : (q : Int) < (m : Int) := by omega
              have hq0 : (0 : Int) ≤ (q : Int) := by omega
              have hin : (i : Int) < (n2 : Int) := by omega
              clear hmem hgs hB5 hob hol
              go_wp2_with (first | (go_at_call 16; refine (fNorm _ _ (by omega) (by omega)).mono ?_; rintro e w' ⟨rfl, hw⟩; have hw := hw.symm; subst hw) | (go_at_call 17; refine (iContF _ _ _ _ _ _ hrD HNO.out).mono ?_; rintro e w' ⟨rfl, hw⟩; have hw := hw.symm; subst hw))
              all_goals
                go_region_with (first | (go_at_call 18; refine (fAdd _ _ _ (by omega) (by omega) (by omega) (by omega)).mono ?_; rintro e w' ⟨rfl, rfl⟩; rw [HZ.out]))
                all_goals
                  generalize (wr.setCell ⟨g, q * 2 + 1, none⟩ (.int .u64 z)).drew = W at *
                  have hol7 := Hol7.out
                  have hob7 := Hob7.out
                  have hB7 := HB7.out
                  have hbel7 := Hbel7.out
                  have hs7 := hB7.size
                  have hap := own_apart hob7 hol7 (by decide)
                  have HAP : Hid (_ ∨ _) := hap
                  have HZN : Hid (zns D ++ [.int .i64 ((q : Int) + 1)] = zns (D ++ [(q : Int) + 1])) := zns_snoc D _
                  have HDL2 : Hid ((D ++ [(q : Int) + 1]).length = DL + 1) := by unfold Hid; rw [List.length_append, HDL.out]; rfl
                  clear hap Hol7 Hob7 HB7 Hbel7
                  go_wp2_with (at_builtin; refine wpList_appV Try.underlying24 infoZ rfl (by omega) _ rfl _ _ rfl w4.heap.size _ _ _ rfl hob7 (.int .i64 ((q : Int) + 1)) rfl rfl (by omega) hs7 ?_; intro v8 w8 hob8 hgr8 _; rw [HZN.out] at hob8; have hol8 := hol7.kept hgr8 HAP.out; have hB8 := hB7.grown hgr8 hs7 (fun j hj => (hob7.lt j hj).1); have hbel8 := hbel7.grown hgr8 hbel7.size (fun j hj => Nat.le_trans hs4 (hob7.lt j hj).1); clear hgr8 hob7 hol7 hB7 hbel7)
                  go_roundw
                  case rel => exact ⟨i + 1, _, _, by omega, by go_num, hol8, by rw [HDL2.out]; exact hob8, HMd2, by rw [HDL2.out]; omega, hB8, hbel8⟩
                  case measure => simp [intOf]; omega
          · go_wp2_with (go_at_call 16; refine (fNorm _ _ (by omega) (by omega)).mono ?_; rintro e w' ⟨rfl, hw⟩; have hw := hw.symm; subst hw)
            all_goals
              go_roundw
              case rel => exact ⟨i + 1, L, D, by omega, by go_num, hol, by rw [HDL.out]; exact hob, HMd, by rw [HDL.out]; exact hDE, hB5, hbel⟩
              case measure => simp [intOf]; omega
      · go_wp2
        go_roundw
        case rel => exact ⟨i + 1, L, D, by omega, by go_num, hol, by rw [HDL.out]; exact hob, HMd, by rw [HDL.out]; exact hDE, hB5, hbel⟩
        case measure => simp [intOf]; omega
    · have hin : i = n1 := by omega
      subst hin
      have hDL9 : DL ≤ 12 := by omega
      go_wp2_with fail
      refine (zSorts _ _ _ _ _ hob hDL9).mono ?_
      rintro e w6 ⟨rfl, D', hO, hob6, hgr6⟩
      have HO : Hid (OuI D D' D.length) := by unfold Hid; rw [HDL.out]; exact hO
      have hlt2 := hob.lt
      have hol6 := hol.kept hgr6 (own_apart hob hol (by decide))
      have hbel6 := hbel.grown hgr6 hbel.size (fun j hj => Nat.le_trans hs4 (hlt2 j hj).1)
      have hbdL : ∀ j, j < m → (-9223372036854775808 ≤ (L.getD j (0, 0)).1 ∧ (L.getD j (0, 0)).1 ≤ 9223372036854775807) ∧ 0 ≤ (L.getD j (0, 0)).2 ∧ (L.getD j (0, 0)).2 ≤ 18446744073709551615 := fun j hj => by
        have h3 := HMd.out.at_ j hj
        have h4 := HMd.out.bd j hj
        omega
      obtain ⟨a7, c7, e7, hR7⟩ := RdS.own hol6 HMd.out.len hbdL
      simp only [Value.slice.injEq, true_and] at e7
      obtain ⟨rfl, rfl⟩ := e7
      have HDb : Hid (∀ x ∈ D', -9223372036854775808 ≤ x ∧ x ≤ 9223372036854775807) := fun x hx => by
        obtain ⟨j, hj, rfl⟩ := HMd.out.rng x (hO.perm.mem_iff.1 hx); omega
      obtain ⟨a8, c8, e8, hR8⟩ := RdI.own hob6 HDb.out
      simp only [Value.slice.injEq, true_and] at e8
      obtain ⟨rfl, rfl⟩ := e8
      clear hO hob hob6 hgr6 hlt2 hol hol6 hbel hbdL hB5
      go_wp2_with fail
      refine (cOpenD _ _ _ _ _ _ hR7).mono ?_
      rintro e w8 ⟨x, B, r, a9, k9, c9, rfl, hR, hrB, hb8⟩
      obtain ⟨rfl, rfl, rfl⟩ := mend_told HMd.out hk (by omega) hm HCl.out (by rw [HDL.out, ← HMY.out]; exact hDE) HO.out hR
      rw [HC0.out]
      have hw8 := hbel6.trans (hb8.mono hbel6.size)
      have hR8 := hR8.below hb8
      clear hR hb8 hbel6 hR7
      go_wp2_with (first | (go_at_call 16; refine (fNorm _ _ (by omega) (by omega)).mono ?_; rintro e w' ⟨rfl, hw⟩; have hw := hw.symm; subst hw) | fail)
      refine (zSame _ _ _ _ _ _ _ _ hrB hR8).mono ?_
      rintro e w9 ⟨rfl, hb9⟩
      have hw9 := hw8.trans (hb9.mono hw8.size)
      clear hrB hR8 hb9 hw8
      go_wp2
      go_ret
      exact ⟨rfl, hw9⟩
end
end Go.Proofs.Ytljlioglpaogdae
