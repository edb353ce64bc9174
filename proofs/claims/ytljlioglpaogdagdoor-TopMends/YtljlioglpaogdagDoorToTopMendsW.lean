/- crofttop.said. · The walk of crofttop.TopMends. -/
import Derived.Test.YtljlioglpaogdagDoorEnU
import Derived.Test.YtljlioglpaogdagDoorTopTinyC
import Derived.Test.YtljlioglpaogdagDoorToDealtC
import Derived.Test.YtljlioglpaogdagDoorToTopC
import Derived.Test.YtljlioglpaogdagDoorToDecC
import Derived.Test.YtljlioglpaogdagDoorToEqIC
import Derived.Test.YtljlioglpaogdagDoorToPlaceT
import Derived.Deep.RegionWith
import Derived.Deep.RegionHeld3
namespace Go.Proofs.YtljlioglpaogdagDoor
set_option linter.unusedVariables false
set_option maxRecDepth 100000
set_option maxHeartbeats 8000000
section
open Crm Go.RowKit
theorem lit_rd {w : World} {gb : Nat} {xs : List Int} {n : Nat} {E : TypeId} {z : Nat × Nat} (h : w.heap[gb]? = some (.cells (xs.map (Value.int .u64)).toArray E z)) (hl : xs.length = n) (hn : n ≤ 1000) (hb : ∀ x ∈ xs, 0 ≤ x ∧ x ≤ 18446744073709551615) : Rd w (some ⟨gb, 0, none⟩) n n xs := by
  refine ⟨hl, Nat.le_refl _, by unfold maxLen; omega, hb, by simp, fun x hx i hi => ?_⟩
  obtain rfl := Option.some.inj hx
  rw [Addr.add_lit, Nat.zero_add, cell_of_row w _ _ _ _ z h]
  simp [show i < xs.length by omega]
theorem tnyT_ok : Cke tnyT [3] 4 1 0 := by
  refine .inr ⟨⟨by decide, by decide⟩, .inr ⟨⟨by decide, by decide⟩, .inr ⟨⟨fun i hi => ?_, fun i hi => ?_⟩, rfl⟩⟩⟩
  · have : i = 0 ∨ i = 1 ∨ i = 2 ∨ i = 3 := by omega
    rcases this with rfl | rfl | rfl | rfl <;> (unfold okg; decide)
  · obtain rfl : i = 0 := by omega
    decide
theorem tnyT_run : Ere tnyT [3] 4 1 3 1 2 2 0 := .inr ⟨.inr ⟨tnyT_ok, .inr ⟨⟨by decide, by decide, by decide, by decide⟩, rfl⟩⟩, .inr ⟨by decide, .inr ⟨by decide, rfl⟩⟩⟩
theorem tnyT_out : otl tnyT [3] [5, 6] 1 = [21] := by decide
theorem tnyT_see : (snl tnyT [3] 3 1 [5, 6] [1, 2] 4 1).getD 1 [] = [7, 10, 26, 31, 36] := by decide

theorem tSaid (w : World) (hS : Shp w) :
    Calls Tryd.prog 28 #[] w fun e w' => e = .returned (.bool true) ∧ Below w.heap.size w w' := by
  go_enter Tryd.func28, Tryd.ntmps28
  go_wp2_with fail
  refine (tTiny _).mono ?_
  rintro e w1 ⟨ta, tb, rfl, hg1, ho1, hb1⟩
  go_wp2_with fail
  have hb2 : Below w1.heap.size w1 (w1.alloc (.cells #[.int .u64 5, .int .u64 6] 34)) := (Below.refl _ _).alloc (Nat.le_refl _) _
  have hx : Rd (w1.alloc (.cells #[.int .u64 5, .int .u64 6] 34)) (some ⟨w1.heap.size, 0, none⟩) 2 2 [5, 6] := lit_rd (xs := [5, 6]) (heap_alloc_new w1 _) rfl (by omega) (by decide)
  have hs2 : (w1.alloc (.cells #[.int .u64 5, .int .u64 6] 34)).heap.size = w1.heap.size + 1 := by simp
  generalize w1.alloc (.cells #[.int .u64 5, .int .u64 6] 34) = w2 at *
  rw [← hs2]
  have hb3' : Below w2.heap.size w2 (w2.alloc (.cells #[.int .u64 1, .int .u64 2] 34)) := (Below.refl _ _).alloc (Nat.le_refl _) _
  have hy : Rd (w2.alloc (.cells #[.int .u64 1, .int .u64 2] 34)) (some ⟨w2.heap.size, 0, none⟩) 2 2 [1, 2] := lit_rd (xs := [1, 2]) (heap_alloc_new w2 _) rfl (by omega) (by decide)
  generalize w2.alloc (.cells #[.int .u64 1, .int .u64 2] 34) = w3 at *
  have hb3 := hb2.trans (hb3'.mono hb2.size)
  refine (eRun _ _ _ _ _ _ _ _ 3 1 _ _ _ _ _ _ _ _ _ (hg1.below hb3) (ho1.below hb3) (hx.below hb3') hy (by omega) (by omega) (hS.below (hb1.trans (hb3.mono hb1.size)))).mono ?_
  rintro e w4 ⟨⟨r3, hr3, hE3, _⟩ | ⟨_, a7, c7, b7, k7, rfl, hr7, hr8⟩, hb4'⟩
  · exact absurd (hE3.one tnyT_run) hr3
  rw [tnyT_out] at hr7
  have e3 : (3 : Int).toNat = 3 := rfl
  have e1 : (1 : Int).toNat = 1 := rfl
  rw [e3, e1] at hr8
  rw [e3]
  obtain ⟨b, o, ai, ni, ci, row, rfl, hbl, HR, hc, hrow⟩ := hr8.one (k := 1) (by omega)
  have hrr := HR.out
  rw [tnyT_see] at hrr
  subst hrr
  obtain rfl : 5 = ni := hrow.len
  have hb4 := hb1.trans ((hb3.trans (hb4'.mono hb3.size)).mono hb1.size)
  have hk7 := hr8.cap
  have hm7 := hr8.max
  unfold maxLen at hm7
  clear hr8 hb1 hb2 hb3 hb3' hb4' hg1 ho1 hx hy hs2 HR e3 e1
  go_wp2_with fail
  have hb5' : Below w4.heap.size w4 (w4.alloc (.cells #[.int .u64 21] 34)) := (Below.refl _ _).alloc (Nat.le_refl _) _
  have hx5 : Rd (w4.alloc (.cells #[.int .u64 21] 34)) (some ⟨w4.heap.size, 0, none⟩) 1 1 [21] := lit_rd (xs := [21]) (heap_alloc_new w4 _) rfl (by omega) (by decide)
  generalize w4.alloc (.cells #[.int .u64 21] 34) = w5 at *
  refine (cSame _ _ _ _ _ _ _ _ (hr7.below hb5') hx5).mono ?_
  rintro e w6 ⟨rfl, hb6'⟩
  have hb46 := hb5'.trans (hb6'.mono hb5'.size)
  have hb6 := hb4.trans (hb46.mono hb4.size)
  have hrow6 := hrow.below hb46
  have hc6 : w6.cell? ⟨b, o + 1, none⟩ = some (.slice ai 5 ci) := by rw [hb46.cell hbl]; exact hc
  clear hb4 hb5' hb6' hx5 hr7 hrow hc
  go_wp2_with fail
  have hb7' : Below w6.heap.size w6 (w6.alloc (.cells #[.int .u64 7, .int .u64 10, .int .u64 26, .int .u64 31, .int .u64 36] 34)) := (Below.refl _ _).alloc (Nat.le_refl _) _
  have hx7 : Rd (w6.alloc (.cells #[.int .u64 7, .int .u64 10, .int .u64 26, .int .u64 31, .int .u64 36] 34)) (some ⟨w6.heap.size, 0, none⟩) 5 5 [7, 10, 26, 31, 36] := lit_rd (xs := [7, 10, 26, 31, 36]) (heap_alloc_new w6 _) rfl (by omega) (by decide)
  generalize w6.alloc (.cells #[.int .u64 7, .int .u64 10, .int .u64 26, .int .u64 31, .int .u64 36] 34) = w7 at *
  refine (cSame _ _ _ _ _ _ _ _ (hrow6.below hb7') hx7).mono ?_
  rintro e w8 ⟨rfl, hb8'⟩
  have hb8 := hb6.trans ((hb7'.trans (hb8'.mono hb7'.size)).mono hb6.size)
  clear hb7' hx7 hb8' hb6
  go_wp2
  go_ret
  exact ⟨rfl, hb8⟩
theorem share_box (w : World) (x y : Int) (E : TypeId) : (w.alloc (.cells #[.int .i64 x, .int .u64 y] E)).cell? ⟨w.heap.size, 0, none⟩ = some (.int .i64 x) ∧ (w.alloc (.cells #[.int .i64 x, .int .u64 y] E)).cell? ⟨w.heap.size, 1, none⟩ = some (.int .u64 y) := by
  refine ⟨?_, ?_⟩ <;> (rw [cell_of_row _ _ _ _ E (0, 0) (heap_alloc_new w _)]; rfl)

theorem topMendsW (s : Int) (a0 : Option Addr) (n0 c0 : Nat) (xs : List Int) (t n : Int) (a1 : Option Addr) (n1 c1 : Nat) (ps : List (Int × Int)) (w : World) (hs0 : 0 ≤ s) (hs1 : s ≤ 18446744073709551615) (h0 : Rd w a0 n0 c0 xs) (h1 : RdS w a1 n1 c1 ps) (hS : Shp w) :
    Calls Tryd.prog 6 #[.int .u64 s, .slice a0 n0 c0, .int .i64 t, .int .i64 n, .slice a1 n1 c1] w fun e w' => e = .returned (.bool true) ∧ Below w.heap.size w w' := by
  have hc1 := h1.cap
  have hx1 := h1.max
  unfold maxLen at hx1
  go_enter Tryd.func6, Tryd.ntmps6
  go_wp2_with fail
  refine (tSaid _ hS).mono ?_
  rintro e w1 ⟨rfl, hw1⟩
  go_wp2_with fail
  refine (tCrew _ _ _).mono ?_
  rintro e w2 ⟨⟨k, m, rfl, hk, hkm, hm⟩, hw⟩
  have hw := hw.symm
  subst hw
  go_wp2_with fail
  refine (tFilled _ _ _ _ k _ (h0.below hw1) (by omega)).mono ?_
  rintro e w3 ⟨g3, rfl, hr3, hb3⟩
  have HPl : Hid ((padded xs k).length = k) := padded_len xs k
  generalize padded xs k = P at hr3 HPl
  have hw3 := hw1.trans (hb3.mono hw1.size)
  clear hw1 hb3 h0
  go_wp2_with fail
  refine (cDealOK s _ _ _ _ m _ hr3 hs0 hs1 hk (by omega) hm).mono ?_
  rintro e w4 ⟨g4, rfl, hr4, _, hb4⟩
  have hw4 := hw3.trans (hb4.mono hw3.size)
  clear hw3 hb4 hr3
  obtain ⟨C, HC⟩ : ∃ C, Hid (s :: P = C) := ⟨_, rfl⟩
  have HCl : Hid (C.length ≤ k + 1) := by unfold Hid; rw [← HC.out]; simp [HPl.out]
  have HC0 : Hid (C.getD 0 0 = s) := by unfold Hid; rw [← HC.out]; rfl
  rw [HC.out] at hr4
  have hs4 := hw4.size
  have hd2 : 0 ≤ ((m : Int) - (k : Int) - 1) / 2 := by omega
  have hd3 : ((m : Int) - (k : Int) - 1) / 2 ≤ 4 := by omega
  have HMY : Hid (((m : Int) - (k : Int) - 1) / 2 = mayb m k) := by unfold Hid mayb; omega
  go_wp2
  go_loopw [13, 44] (fun v i wr => ∃ j : Nat, j ≤ m ∧ i = .int .i64 j ∧ wr.ownsRow w4.heap.size 68 2 v j (shc (shl (dl C m) j)) ∧ Below w4.heap.size w4 wr) (fun _ i _ => m - (intOf i).toNat)
  case atStart => exact ⟨0, Nat.zero_le _, rfl, World.ownsRow_nil _ _ _ _, (Below.refl _ _)⟩
  case round =>
    obtain ⟨j, hj, rfl, hown, hbel⟩ := hrel
    have hs5 := hbel.size
    by_cases hlt : j < m
    · obtain ⟨b, o, x, hbo, hbb, HX, hx0, hx1, hcx⟩ := (hr4.below hbel).one hlt
      simp only [Option.some.injEq, Addr.mk.injEq, and_true] at hbo
      obtain ⟨rfl, rfl⟩ := hbo
      rw [Nat.zero_add] at hcx
      have HS : Hid (shl (dl C m) j ++ [((j : Int) + 1, x)] = shl (dl C m) (j + 1)) := shl_snoc (dl C m) j HX.out
      go_wp2_with (at_builtin; refine wpList_appS Tryd.underlying66 infoSh _ rfl _ _ rfl w4.heap.size _ _ _ rfl hown _ _ rfl (by omega) (by omega) ?_; intro v' w7 hown7 hbel7; rw [HS.out] at hown7; have hbel8 := hbel.trans hbel7; clear hbel7)
      go_roundw
      case rel => exact ⟨j + 1, by omega, by go_num, hown7, hbel8⟩
      case measure => simp [intOf]; omega
    · obtain rfl : j = m := by omega
      obtain ⟨g, c, rfl, hg1, hg2, hcm, hcx⟩ := own_at2 hown (by omega)
      unfold maxLen at hcx
      have hw5 := hw4.trans (hbel.mono hw4.size)
      have HM0 : Hid (MdT C j (shl (dl C j) j) 0) := mdt_start C j
      go_wp2
      obtain ⟨MY, HMYN⟩ : ∃ MY : Nat, Hid (((j : Int) - (k : Int) - 1) / 2 = MY) := ⟨(((j : Int) - (k : Int) - 1) / 2).toNat, by unfold Hid; omega⟩
      go_loopw [59] (fun i wr => ∃ (p : Nat) (L : List (Int × Int)), p ≤ n1 ∧ i = .int .i64 p ∧ wr.ownsRow w4.heap.size 68 2 (.slice (some ⟨g, 0, none⟩) j c) j (shc L) ∧ Hid (MdT C j L (min p MY)) ∧ Below w4.heap.size w4 wr) (fun i _ => n1 - (intOf i).toNat)
      case atStart => exact ⟨0, _, Nat.zero_le _, rfl, hown, by rw [Nat.zero_min]; exact HM0, hbel⟩
      case round =>
        clear hown hbel hw5 HM0 hs5 hg2
        obtain ⟨p, L, hp, rfl, hol, HMd, hB⟩ := hrel
        have hbelw := hw4.trans (hB.mono hw4.size)
        have hsr := hB.size
        by_cases hlt : p < n1
        · obtain ⟨b, o, x, y, rfl, hbb, HX, HY, hx0, hx1, hy0, hy1, hcxx, hcy⟩ := (h1.below hbelw).one hlt
          have hbA : Below wr.heap.size wr (wr.alloc (.cells #[.int .i64 x, .int .u64 y] 68)) := (Below.refl _ _).alloc (Nat.le_refl _) _
          obtain ⟨q1, q2⟩ := share_box wr x y 68
          have holA := own_below2 hol hbA
          have hBA := hB.trans (hbA.mono hB.size)
          have hltA : wr.heap.size < (wr.alloc (.cells #[.int .i64 x, .int .u64 y] 68)).heap.size := by simp
          go_upto_region 16 with fail
          generalize wr.alloc (.cells #[.int .i64 x, .int .u64 y] 68) = wA at *
          by_cases hpm : (p : Int) < ((j : Int) - (k : Int) - 1) / 2
          · have hll := HMd.out.len
            have hsA := hBA.size
            have HM2 : Hid (∀ q : Nat, q < j → MdT C j (L.set q ((q : Int) + 1, y)) (min (p + 1) MY)) := fun q hq => by
              have e : min (p + 1) MY = min p MY + 1 := by have := HMYN.out; omega
              rw [e]
              exact HMd.out.step hq ⟨hy0, hy1⟩
            have HM3 := HM2
            have HAT : Hid (∀ q : Nat, q < j → (L.getD q (0, 0)).1 = (q : Int) + 1) := HMd.out.at_
            have HSC : Hid (∀ q : Nat, q < j → wA.cell? ⟨g, q * 2 + 1, none⟩ = some (.int .u64 (L.getD q (0, 0)).2) ∧ wA.frozen? ⟨g, q * 2 + 1, none⟩ = false) := fun q hq => ⟨(sh_cell holA hll hq).2, own_frozen2 holA (q * 2 + 1)⟩
            go_upto_region 17 with fail
            obtain ⟨q, hq, HRQ⟩ := rRestT x j (by omega) (by omega)
            obtain ⟨hcq, hfq⟩ := HSC.out q hq
            have hqm : (q : Int) < (j : Int) := by omega
            have hq0 : (0 : Int) ≤ (q : Int) := by omega
            have hgA : g < wA.heap.size := (holA.lt _ rfl).2
            go_region_law (go_simp; go_at_call 36; refine (HRQ _).mono ?_; rintro e w2 ⟨rfl, hw⟩; have hw := hw.symm; subst hw)
            all_goals
              have hol7 : ((wA.setCell ⟨g, q * 2 + 1, none⟩ (.int .u64 y)).drew).ownsRow w4.heap.size 68 2 (.slice (some ⟨g, 0, none⟩) j c) j (shc (L.set q ((q : Int) + 1, y))) := by
                have := own_set2 holA (q * 2 + 1) (.int .u64 y)
                rw [shc_setY, HAT.out q hq] at this
                exact this
              have hgs := grown_drew (grown_set wA g (q * 2 + 1) (.int .u64 y))
              have hB7 : Below w4.heap.size w4 ((wA.setCell ⟨g, q * 2 + 1, none⟩ (.int .u64 y)).drew) := hBA.grown hgs hsA (fun j hj => by simp at hj; omega)
              have HM4 := HM3.out q hq
              generalize (wA.setCell ⟨g, q * 2 + 1, none⟩ (.int .u64 y)).drew = W at *
              go_wp2
              go_roundw
              case rel => exact ⟨p + 1, _, by omega, by go_num, hol7, HM4, hB7⟩
              case measure => simp [intOf]; omega
          · have HM1 : Hid (MdT C j L (min (p + 1) MY)) := by
              have e : min (p + 1) MY = min p MY := by have := HMYN.out; omega
              unfold Hid; rw [e]; exact HMd.out
            go_wp2
            go_roundw
            case rel => exact ⟨p + 1, L, by omega, by go_num, holA, HM1, hBA⟩
            case measure => simp [intOf]; omega
        · obtain rfl : p = n1 := by omega
          go_wp2
          have hml := HMd.out.len
          go_loopw [18, 84] (fun v i wq => ∃ p : Nat, p ≤ j ∧ i = .int .i64 p ∧ wq.ownsRow w4.heap.size 3 1 v (bdl L C p).length (zns (bdl L C p)) ∧ wq.ownsRow w4.heap.size 68 2 (.slice (some ⟨g, 0, none⟩) j c) j (shc L) ∧ Below w4.heap.size w4 wq) (fun _ i _ => j - (intOf i).toNat)
          case atStart => exact ⟨0, Nat.zero_le _, rfl, World.ownsRow_nil _ _ _ _, hol, hB⟩
          case round =>
            clear hol hB hbelw hsr
            obtain ⟨u, hu, rfl, hob, hol, hB⟩ := hrel
            have hbelw := hw4.trans (hB.mono hw4.size)
            have hsr := hB.size
            obtain ⟨ab, cb, rfl, hcb⟩ := own_slice hob
            have hbl := bdl_le L C u
            obtain ⟨DL, HDL⟩ : ∃ DL, Hid ((bdl L C u).length = DL) := ⟨_, rfl⟩
            rw [HDL.out] at hob hcb hbl ⊢
            by_cases hlu : u < j
            · obtain ⟨b, o, y, hbo, hbb, HY, hy0, hy1, hcy⟩ := (hr4.below hB).one hlu
              simp only [Option.some.injEq, Addr.mk.injEq, and_true] at hbo
              obtain ⟨rfl, rfl⟩ := hbo
              rw [Nat.zero_add] at hcy
              have hcq := (sh_cell hol hml hlu).2
              have hbq := HMd.out.bd u hlu
              have haq := HMd.out.at_ u hlu
              have hyv : y = nm (ev C ((u : Int) + 1)) := by rw [← HY.out, dl_getD C hlu]; rfl
              obtain ⟨Y, HYq⟩ : ∃ Y, Hid ((L.getD u (0, 0)).2 = Y) := ⟨_, rfl⟩
              rw [HYq.out] at hcq hbq
              by_cases hyz : nm Y = y
              · have hyb : (nm Y != y) = false := by rw [hyz]; simp
                have HB2 : Hid (bdl L C (u + 1) = bdl L C u) := bdl_ok (by rw [haq, HYq.out, hyz, hyv])
                clear hyz hyv
                go_wp2_with (go_at_call 37; refine (fNorm _ _ (by omega) (by omega)).mono ?_; rintro e w' ⟨rfl, hw⟩; have hw := hw.symm; subst hw)
                go_roundw
                case rel => exact ⟨u + 1, by omega, by go_num, by rw [HB2.out, HDL.out]; exact hob, hol, hB⟩
                case measure => simp [intOf]; omega
              · have hyb : (nm Y != y) = true := by rw [bne_iff_ne]; exact hyz
                have HB2 : Hid (bdl L C (u + 1) = bdl L C u ++ [(u : Int) + 1]) := by unfold Hid; rw [← haq]; exact bdl_bad (by rw [haq, HYq.out, ← hyv]; exact fun e => hyz e.symm)
                have HAP : Hid (_ ∨ _) := own_apart hob hol (by decide)
                have HZN : Hid (zns (bdl L C u) ++ [.int .i64 ((u : Int) + 1)] = zns (bdl L C (u + 1))) := by unfold Hid; rw [HB2.out]; exact zns_snoc _ _
                have HDL2 : Hid ((bdl L C (u + 1)).length = DL + 1) := by unfold Hid; rw [HB2.out, List.length_append, HDL.out]; rfl
                clear hyz hyv
                go_wp2_with (first | (go_at_call 37; refine (fNorm _ _ (by omega) (by omega)).mono ?_; rintro e w' ⟨rfl, hw⟩; have hw := hw.symm; subst hw) | (at_builtin; refine wpList_appV Tryd.underlying24 infoZ rfl (by omega) _ rfl _ _ rfl w4.heap.size _ _ _ rfl hob (.int .i64 ((u : Int) + 1)) rfl rfl (by omega) hsr ?_; intro v8 w8 hob8 hgr8 _; rw [HZN.out] at hob8; have hol8 := hol.kept hgr8 HAP.out; have hB8 := hB.grown hgr8 hsr (fun j hj => (hob.lt j hj).1); clear hgr8))
                go_roundw
                case rel => exact ⟨u + 1, by omega, by go_num, by rw [HDL2.out]; exact hob8, hol8, hB8⟩
                case measure => simp [intOf]; omega
            · obtain rfl : u = j := by omega
              have hbdL : ∀ i, i < u → (-9223372036854775808 ≤ (L.getD i (0, 0)).1 ∧ (L.getD i (0, 0)).1 ≤ 9223372036854775807) ∧ 0 ≤ (L.getD i (0, 0)).2 ∧ (L.getD i (0, 0)).2 ≤ 18446744073709551615 := fun i hi => by
                have h3 := HMd.out.at_ i hi
                have h4 := HMd.out.bd i hi
                omega
              obtain ⟨a7, c7, e7, hR7⟩ := RdS.own hol HMd.out.len hbdL
              simp only [Value.slice.injEq, true_and] at e7
              obtain ⟨rfl, rfl⟩ := e7
              have HDb : Hid (∀ x ∈ bdl L C u, -9223372036854775808 ≤ x ∧ x ≤ 9223372036854775807) := fun x hx => by
                obtain ⟨i, hi, h3, _⟩ := bdl_iff.1 hx
                have := HMd.out.at_ i hi
                omega
              obtain ⟨a8, c8, e8, hR8⟩ := RdI.own hob HDb.out
              simp only [Value.slice.injEq, true_and] at e8
              obtain ⟨rfl, rfl⟩ := e8
              clear hob hol hbdL
              go_wp2_with fail
              refine (cOpenD _ _ _ _ _ _ hR7).mono ?_
              rintro e w8 ⟨x, B, r, a9, k9, c9, rfl, hR, hrB, hb8⟩
              obtain ⟨rfl, rfl, rfl⟩ := HMd.out.told hk (by omega) hm HCl.out (by have := HMYN.out; have := HMY.out; omega) hR
              rw [HC0.out]
              have hw8 := hbelw.trans (hb8.mono hbelw.size)
              have hR8 := hR8.below hb8
              clear hR hb8 hbelw hR7
              go_wp2_with (first | (go_at_call 37; refine (fNorm _ _ (by omega) (by omega)).mono ?_; rintro e w' ⟨rfl, hw⟩; have hw := hw.symm; subst hw) | fail)
              refine (zSame _ _ _ _ _ _ _ _ hrB hR8).mono ?_
              rintro e w9 ⟨rfl, hb9⟩
              have hw9 := hw8.trans (hb9.mono hw8.size)
              clear hrB hR8 hb9 hw8
              go_wp2
              go_ret
              exact ⟨rfl, hw9⟩
end
end Go.Proofs.YtljlioglpaogdagDoor
