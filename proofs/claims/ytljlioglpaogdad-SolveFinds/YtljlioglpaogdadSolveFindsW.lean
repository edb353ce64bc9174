/- The walk of croftkeep.SolveFinds. -/
import Derived.Test.YtljlioglpaogdadLstC
import Derived.Test.YtljlioglpaogdadToValC
import Derived.Test.YtljlioglpaogdadToSolveC
import Derived.Deep.DeepCutAuto
namespace Go.Proofs.Ytljlioglpaogdad
set_option linter.unusedVariables false
set_option maxRecDepth 100000
set_option maxHeartbeats 8000000
section
open Crm Go.RowKit
/-- The two equations that the law itself brings, as it lays them. -/
theorem ex_rows (w : World) : RdR (((w.alloc (.cells #[.int .u64 1, .int .u64 1, .int .u64 5] 23)).alloc (.cells #[.int .u64 1, .int .u64 2147483646, .int .u64 1] 23)).alloc (.cells #[.slice (some ⟨w.heap.size, 0, none⟩) 3 3, .slice (some ⟨w.heap.size + 1, 0, none⟩) 3 3] 22))
    (some ⟨w.heap.size + 2, 0, none⟩) 2 2 [[1, 1, 5], [1, 2147483646, 1]] := by
  have r1 := (rd_of3 w (x := 1) (y := 1) (z := 5) (by omega) (by omega) (by omega))
  have r2 := rd_of3 (w.alloc (.cells #[.int .u64 1, .int .u64 1, .int .u64 5] 23)) (x := 1) (y := 2147483646) (z := 1) (by omega) (by omega) (by omega)
  have r1' := (r1.below (below_one _ (.cells #[.int .u64 1, .int .u64 2147483646, .int .u64 1] 23))).below (below_one _ (.cells #[.slice (some ⟨w.heap.size, 0, none⟩) 3 3, .slice (some ⟨w.heap.size + 1, 0, none⟩) 3 3] 22))
  have r2' := r2.below (below_one _ (.cells #[.slice (some ⟨w.heap.size, 0, none⟩) 3 3, .slice (some ⟨w.heap.size + 1, 0, none⟩) 3 3] 22))
  have e1 : (w.alloc (.cells #[.int .u64 1, .int .u64 1, .int .u64 5] 23)).heap.size = w.heap.size + 1 := by simp
  rw [e1] at r2'
  refine ⟨rfl, Nat.le_refl _, by unfold maxLen; omega, by simp, fun x hx i hi => ?_⟩
  obtain rfl := Option.some.inj hx
  have e2 : w.heap.size + 2 = ((w.alloc (.cells #[.int .u64 1, .int .u64 1, .int .u64 5] 23)).alloc (.cells #[.int .u64 1, .int .u64 2147483646, .int .u64 1] 23)).heap.size := by simp
  rw [Addr.add_lit, e2, cell_of_row _ _ _ #[.slice (some ⟨w.heap.size, 0, none⟩) 3 3, .slice (some ⟨w.heap.size + 1, 0, none⟩) 3 3] 22 (0, 0) (heap_alloc_new _ _)]
  match i, hi with
  | 0, _ => exact ⟨_, _, rfl, r1'⟩
  | 1, _ => exact ⟨_, _, rfl, r2'⟩

theorem snoc_old {P : List Int} {x : Int} {j k : Nat} (h : P.length = k) (hj : j < k) : (P ++ [x]).getD j 0 = P.getD j 0 := by simp [List.getElem?_append_left (show j < P.length by omega)]
theorem snoc_new {P : List Int} {x : Int} {k : Nat} (h : P.length = k) : (P ++ [x]).getD k 0 = x := by rw [← h]; simp
theorem snoc_ok {BB : List (List Int)} {P Y : List Int} {x : Int} {k m : Nat} (hB : BB.length = m) (hP : P.length = k) (hx : x = nm (sm (fun j => P.getD j 0 * Y.getD j 0) k)) (h : ∀ q, q < m → okrow BB Y k q) : ∀ q, q < m + 1 → okrow (BB ++ [P ++ [x]]) Y k q := fun q hq => by
  by_cases e : q < m
  · exact (okrow_old (by omega)).2 (h q e)
  · rw [show q = BB.length by omega, okrow_new, snoc_new hP, hx, nm_nm]
    exact sm_ncongr fun j hj => by rw [snoc_old hP hj]

theorem solveFindsW (a0 : Option Addr) (n0 c0 : Nat) (rs : List (List Int)) (a1 : Option Addr) (n1 c1 : Nat) (X1 : List Int) (i by_ : Int) (w : World) (h0 : RdR w a0 n0 c0 rs) (h1 : Rd w a1 n1 c1 X1) (hb0 : 0 ≤ by_) (hb1 : by_ ≤ 18446744073709551615) :
    Calls Try.prog 5 #[.slice a0 n0 c0, .slice a1 n1 c1, .int .i64 i, .int .u64 by_] w fun e w' => e = .returned (.bool true) ∧ Below w.heap.size w w' := by
  have hcp0 := h0.cap
  have hcp1 := h1.cap
  have hmx0 : c0 ≤ 9223372036854775807 := by have := h0.max; unfold maxLen at this; omega
  have hmx1 : c1 ≤ 9223372036854775807 := by have := h1.max; unfold maxLen at this; omega
  obtain ⟨i0, hi, hz0, hz1, hz2⟩ := info_parts infoU
  obtain ⟨k, HK⟩ : ∃ k, Hid (k = min 8 n1) := ⟨_, rfl⟩
  have hk8 : k ≤ 8 := by rw [HK.out]; omega
  have hY0 : Rd w a1 k c1 (X1.take k) := h1.take (by rw [HK.out]; omega)
  obtain ⟨Y, HY⟩ : ∃ Y, Hid (X1.take k = Y) := ⟨_, rfl⟩
  rw [HY.out] at hY0
  have hex := ex_rows w
  go_enter Try.func5, Try.ntmps5
  go_wp2_with fail
  refine (cSolve1 _ 2 2 2 [[1, 1, 5], [1, 2147483646, 1]] _ hex rfl).mono ?_
  rintro e w1 ⟨hsol, hb1'⟩
  rcases hsol with ⟨hnd, rfl⟩ | ⟨g, V, hd, rfl, hS, hV, hg⟩
  · exact absurd ex_dep hnd
  have hVe := sol_one (fun f => Iff.rfl) hS ex_sol
  subst hVe
  have hbw1 : Below w.heap.size w w1 := ((((Below.refl _ _).alloc (Nat.le_refl _) _).alloc (by simp) _).alloc (by simp; omega) _).trans (hb1'.mono (by simp; omega))
  have hr1 : Rd w1 (some ⟨g, 0, none⟩) 2 2 [3, 2] := hV.whole 2 rfl (by unfold maxLen; omega) (bd_u64 hS.bd)
  have hr1a := hr1.below (below_one w1 (.cells #[.int .u64 3, .int .u64 2] 23))
  have hr1b := rd_of2 w1 (x := 3) (y := 2) (by omega) (by omega)
  have hba : Below w.heap.size w (w1.alloc (.cells #[.int .u64 3, .int .u64 2] 23)) := hbw1.alloc hbw1.size _
  clear hd hS hV hg hr1 hex hb1'
  go_wp2_with fail
  refine (cSame _ 2 2 [3, 2] _ 2 2 _ hr1a hr1b).mono ?_
  rintro e w2 ⟨rfl, hb2⟩
  have hbw2 : Below w.heap.size w w2 := hba.trans (hb2.mono hba.size)
  clear hr1a hr1b hba hb2 hbw1
  go_wp2_with fail
  refine (kShort a1 n1 c1 8 w2 (by omega) (by omega)).mono ?_
  rintro e w' ⟨rfl, hw'⟩
  have hw' := hw'.symm
  subst hw'
  rw [← HK.out]
  by_cases hk0 : k = 0
  · subst hk0
    go_wp2
    go_ret
    exact ⟨rfl, hbw2⟩
  have hk1 : 0 < k := by omega
  have hkb : ((k : Int) == 0) = false := by rw [beq_eq_false_iff_ne]; omega
  clear hk0
  obtain ⟨nn, hnn⟩ : ∃ nn, nn = min 8 n0 := ⟨_, rfl⟩
  go_upto_region 9 with fail
  go_cut [50, 51, 52] (fun s50 s51 s52 wx => s50 = .slice a0 nn c0 ∧ s51 = .int .i64 nn ∧ s52 = .int .i64 0 ∧ wx = w2)
  case first =>
    go_wp2_with fail
    all_goals
      go_meet
      case rel =>
        first
        | (have e : nn = 8 := by omega
           subst e
           exact ⟨rfl, rfl, rfl, rfl⟩)
        | (have e : nn = n0 := by omega
           subst e
           exact ⟨rfl, rfl, rfl, rfl⟩)
  case rest =>
    obtain ⟨rfl, rfl, rfl, hwc⟩ := hcut
    have hwc := hwc.symm
    subst hwc
    go_wp2
    go_loopw [12, 52] (fun v i wr => ∃ (m : Nat) (bs : List Value) (BB : List (List Int)), m ≤ nn ∧ i = .int .i64 m ∧ Lst wr w.heap.size m (k + 1) v bs BB ∧ Hid (∀ q, q < m → okrow BB Y k q) ∧ Below w.heap.size w wr) (fun _ i _ => nn - (intOf i).toNat)
    case atStart => exact ⟨0, [], [], Nat.zero_le _, rfl, lst_nil _ _ _, fun q hq => by omega, hbw2⟩
    case round =>
      clear hbw2
      obtain ⟨m, bs, BB, hm, rfl, hL, HO, hbel⟩ := hrel
      obtain ⟨wo, hwo⟩ : ∃ wo, wo = wr := ⟨_, rfl⟩
      subst hwo
      have hs0 := hbel.size
      obtain ⟨aL, cL, rfl, hcL⟩ := own_slice hL.own
      by_cases hlt : m < nn
      · obtain ⟨b, o, ai, ni, ci, row, rfl, hbb, HRow, hcr0, hrow⟩ := h0.one (show m < n0 by omega)
        have hcr : wo.cell? ⟨b, o + m, none⟩ = some (.slice ai ni ci) := by rw [hbel.cell hbb]; exact hcr0
        have hrow1 := hrow.below hbel
        obtain ⟨P, HP⟩ : ∃ P, Hid (padded row k = P) := ⟨_, rfl⟩
        have hPl : P.length = k := by rw [← HP.out]; exact padded_len _ _
        have HPb : Hid (∀ x ∈ P, 0 ≤ x ∧ x ≤ 18446744073709551615) := by rw [← HP.out]; exact padded_bd hrow.bd k
        obtain ⟨cs, HCS⟩ : ∃ cs, Hid ((row.take k).map (Value.int .u64) = cs) := ⟨_, rfl⟩
        obtain ⟨cu, HCU⟩ : ∃ cu, Hid ((List.replicate k (0 : Int)).map (Value.int .u64) = cu) := ⟨_, rfl⟩
        have hrl := hrow.len
        have hcl := copy_len (k := k) hrl
        have h1c := one_ints (row.take k)
        have hsrcs := fun w' (hh : Rd w' ai ni ci row) => copy_src hh k
        have hspl : Go.splice cu 0 cs = P.map (Value.int .u64) := by rw [← HCU.out, ← HCS.out, ← HP.out]; exact padded_splice row k
        have HSPL : Hid (Go.splice cu 0 cs = P.map (Value.int .u64)) := hspl
        have hcul : cu.length = k := by rw [← HCU.out]; simp
        rw [HCS.out] at hcl h1c hsrcs
        have hcl2 : cs.length ≤ k := by rw [hcl]; exact Nat.min_le_right _ _
        clear hspl hcr0
        go_wp2_with (first | (at_make; refine wpList_make_full _ rfl _ _ 22 rfl wo.heap.size 23 i0 (.int .u64 0) 1 Try.underlying22 hi hz0 hz1 .i64 .i64 _ _ k rfl rfl (by omega) (by omega) (by rw [hz2]; omega) (by unfold maxLen; omega) (Nat.le_refl _) ?_; intro w3 hown hgrow; have hb3 : Blk w3 wo.heap.size (List.replicate k 0) := Blk.made hown; have hbel3 : Below wo.heap.size wo w3 := (Below.refl _ _).grown hgrow (Nat.le_refl _) (by simp); have hrow3 := hrow1.below hbel3; unfold Blk at hb3; rw [HCU.out] at hb3; clear hown hgrow) | (refine wpList_copy_splice rfl _ _ 22 22 rfl 23 Try.underlying22 (by rw [hi, Option.map_some, hz1]) (some ⟨wo.heap.size, 0, none⟩) ai k k ni ci (by rfl) (by rfl) wo.heap.size 0 cu 23 hb3 cs hcl (fun hp => ⟨rfl, hsrcs w3 hrow3 hp⟩) (by omega) h1c wo.heap.size wo hbel3 (Nat.le_refl _) ?_; intro w4 HC4 hbel4))
        have hb4 : Blk w4 wo.heap.size P := by unfold Blk; rw [← HSPL.out]; exact HC4.out
        have hbw4 : Below w.heap.size w w4 := hbel.trans (hbel4.mono hs0)
        have hs4 : wo.heap.size < w4.heap.size := hb4.lt
        clear HC4 hb3 hbel3 hrow3 hsrcs hcl h1c HCS HCU hcul hcl2 HSPL hrow1 hcr hrow hrl HRow HP
        go_wp2
        go_loopw [16, 63] (fun s j wr => ∃ (q : Nat) (x : Int), q ≤ k ∧ j = .int .i64 q ∧ s = .int .u64 x ∧ 0 ≤ x ∧ x ≤ 2147483646 ∧ Hid (x = nm (sm (fun j => P.getD j 0 * Y.getD j 0) q)) ∧ Below w4.heap.size w4 wr) (fun _ j _ => k - (intOf j).toNat)
        case atStart => exact ⟨0, 0, Nat.zero_le _, rfl, rfl, by omega, by omega, rfl, Below.refl _ _⟩
        case round =>
          obtain ⟨q, x, hq, rfl, rfl, hx0, hx1, HX, hb5⟩ := hrel
          have hbw5 : Below w.heap.size w wr := hbw4.trans (hb5.mono (by omega))
          by_cases hqk : q < k
          · have hcP : wr.cell? ⟨wo.heap.size, q, none⟩ = some (.int .u64 (P.getD q 0)) := by rw [hb5.cell hs4]; exact hb4.cell (by omega)
            have hpb := getD_bd HPb.out q
            obtain ⟨y, HYq⟩ : ∃ y, Hid (P.getD q 0 = y) := ⟨_, rfl⟩
            rw [HYq.out] at hcP hpb
            obtain ⟨b3, o3, z, rfl, hbz, HZ, hzz0, hzz1, hcz⟩ := (hY0.below hbw5).one hqk
            have hyz := nm_bd (y * z)
            have HX2 : Hid (nm (x + nm (y * z)) = nm (sm (fun j => P.getD j 0 * Y.getD j 0) (q + 1))) := by
              rw [nm_addr, HX.out, nm_addl, sm, HYq.out, HZ.out]; rfl
            have hxb2 := nm_bd (x + nm (y * z))
            clear HX
            go_wp2
            go_quiet ((first | (go_at_call 15; exact Calls.quiet_of_same (fMul _ _ _ (by omega) (by omega) (by omega) (by omega))) | (go_at_call 20; exact Calls.quiet_of_same (fAdd _ _ _ (by omega) (by omega) (by omega) (by omega)))))
            go_wp2
            go_roundw
            case rel => exact ⟨q + 1, _, by omega, by go_num, rfl, hxb2.1, hxb2.2, HX2, hdrewN hb5 _⟩
            case measure => simp [intOf]; omega
          · have hqk2 : q = k := by omega
            subst hqk2
            have hown5 : wr.ownsRow wo.heap.size 23 1 (.slice (some ⟨wo.heap.size, 0, none⟩) q q) q (P.map (Value.int .u64)) := (hb4.below hb5 hs4).owns hPl (by unfold maxLen; omega) (Nat.le_refl _)
            have hbo5 : Below wo.heap.size wo wr := hbel4.trans (hb5.mono (by omega))
            have hso5 := hbo5.size
            have HB2 : Hid (∀ y ∈ P ++ [x], 0 ≤ y ∧ y ≤ 18446744073709551615) := fun y hy => by
              rcases List.mem_append.1 hy with h' | h'
              · exact HPb.out y h'
              · rw [List.mem_singleton] at h'; omega
            have hLw := hL.own.lt
            clear hb5 hb4 hbw4 hbel4 HPb
            go_wp2_with (first | (at_builtin; refine wpList_app1 Try.underlying22 infoU wr rfl _ _ rfl wo.heap.size (.slice (some ⟨wo.heap.size, 0, none⟩) q q) q P (by rfl) hown5 x (by rfl) (by omega) (by omega) ?_; intro v6 w6 hown6 hbel6; obtain ⟨a6, c6, hv6, hr6, hbk6⟩ := Rd.own hown6 HB2.out; subst hv6; obtain ⟨g6, u6, ha6, hg6a, hg6b, _, _⟩ := own_at hown6 (show 0 < q + 1 by omega); subst ha6; have hL6 := hL.below (hbo5.trans hbel6); have hbw6 := hbw5.trans (hbel6.mono hs0); have hs6 := hbw6.size) | (at_builtin; refine wpList_appV Try.underlying43 infoV rfl (by decide) w6 rfl _ _ rfl w.heap.size (.slice aL m cL) m bs (by rfl) hL6.own (.slice (some ⟨g6, 0, none⟩) (q + 1) c6) rfl (by rfl) (by omega) (by omega) ?_; intro v7 w7 s7 g7 b7))
            have hne6 : (Value.slice aL m cL).ownBlock ≠ some g6 := fun e => by have := (hLw g6 e).2; omega
            have hL7 := hL6.add hr6 hg6b hne6 s7 g7 b7
            have hbw7 : Below w.heap.size w w7 := hbw6.grown g7 hs6 (fun k hk => (hL6.own.lt k hk).1)
            have HO7 : Hid (∀ j, j < m + 1 → okrow (BB ++ [P ++ [x]]) Y q j) := snoc_ok hL.lb hPl HX.out HO.out
            clear s7 g7 b7 hL6 hbw6 hr6 hown6 hbel6 hown5
            go_wp2
            go_roundw
            case rel => exact ⟨m + 1, _, BB ++ [P ++ [x]], by omega, by go_num, hL7, HO7, hbw7⟩
            case measure => simp [intOf]; omega
      · have hm8 : m ≤ 8 := by omega
        have hnlt : ¬ ((m : Int) < (nn : Int)) := by omega
        obtain ⟨aR, cR, haR, hR⟩ := hL.rdR (by omega)
        simp only [Value.slice.injEq, true_and] at haR
        obtain ⟨rfl, rfl⟩ := haR
        have HCk : Hid (chk BB m k = 0) := chk_ok (by omega) (by omega) (fun j hj => by rw [hL.wid hj]; omega)
        have HDp : Hid (dep (mat BB) m k) := ok_dep HO.out
        clear h0 h1
        go_wp2_with fail
        refine (cSolve1 aL m cL k BB wo hR HCk.out).mono ?_
        rintro e w1 ⟨hsol, hb1'⟩
        rcases hsol with ⟨hnd, rfl⟩ | ⟨g, V, hd, rfl, hS, hV, hg⟩
        · exact absurd HDp.out hnd
        have hV1 : Rd w1 (some ⟨g, 0, none⟩) k k V := hV.whole k hS.len.symm (by unfold maxLen; omega) (bd_u64 hS.bd)
        have HS : Hid (Sol (mat BB) m k V) := hS
        have hR1 := hR.below hb1'
        have hL1 := hL.below hb1'
        have hbw1 := hbel.trans (hb1'.mono hs0)
        clear hd hS hV hg hR hL hbel
        go_wp2_with fail
        refine (cRank1 aL m cL k BB w1 hR1 HCk.out).mono ?_
        rintro e w3 ⟨L, rfl, hLd, hLm, hb3⟩
        obtain ⟨p, HPn⟩ : ∃ p, Hid (L.length = p) := ⟨_, rfl⟩
        rw [HPn.out] at hLm ⊢
        have HLd : Hid (Lds (mat BB) m k L) := hLd
        have hpk : p ≤ k := by rw [← HPn.out]; exact up_len hLd.up hLd.lt
        have hR3 := hR1.below hb3
        have hL3 := hL1.below hb3
        have hV3 := hV1.below hb3
        have hbw3 := hbw1.trans (hb3.mono hbw1.size)
        have hnk : ¬ ((k : Int) < (p : Int)) := by omega
        have hnm : ¬ ((m : Int) < (p : Int)) := by omega
        have HW : Hid (∀ j, j < m → (BB.getD j []).length = k + 1) := fun j hj => hL3.wid hj
        clear hLd hR1 hL1 hV1 hb3 hbw1 hb1'
        go_upto_region 24 with fail
        go_cut [117] (fun s117 wx => s117 = .bool false ∧ Below w3.heap.size w3 wx)
        case first =>
          go_wp2_with fail
          refine (rHolds aL m cL BB (some ⟨g, 0, none⟩) k k V w3 hR3 hV3 HW.out (by omega) (by omega)).mono ?_
          rintro e w4 ⟨r, rfl, hr, hb4⟩
          have hrt : r = true := hr.2 ((okrow_ns BB V k m).2 HS.out.ns)
          subst hrt
          clear hr
          go_wp2
          all_goals
            go_meet
            case rel => exact ⟨by rw [decide_eq_false (by omega)], hb4⟩
        case rest =>
          obtain ⟨rfl, hb4⟩ := hcut
          obtain ⟨w4, hw4⟩ : ∃ w4, w4 = wc := ⟨_, rfl⟩
          subst hw4
          have hL4 := hL3.below hb4
          have hV4 := hV3.below hb4
          have hbw4 := hbw3.trans (hb4.mono hbw3.size)
          clear hR3 hL3 hV3 hbw3 hb4
          go_upto_if 120 with fail
          go_cut [] (fun wx => Below w4.heap.size w4 wx)
          case first =>
            by_cases hpe : p = k
            · subst hpe
              have HE : Hid (V = nz Y) := found hY0.len HO.out HS.out fun j hj => (HLd.out.lead j hj).1 (up_all HLd.out.up HLd.out.lt HPn.out hj)
              go_wp2
              go_loopw [123] (fun j wr => ∃ q : Nat, q ≤ p ∧ j = .int .i64 q ∧ Below w4.heap.size w4 wr) (fun j _ => p - (intOf j).toNat)
              case atStart => exact ⟨0, Nat.zero_le _, rfl, Below.refl _ _⟩
              case round =>
                obtain ⟨q, hq, rfl, hb6⟩ := hrel
                by_cases hqp : q < p
                · obtain ⟨bx, ox, x, ex, hbx, HX, hx0, hx1, hcx⟩ := (hV4.below hb6).one hqp
                  simp only [Option.some.injEq, Addr.mk.injEq, and_true] at ex
                  obtain ⟨rfl, rfl⟩ := ex
                  rw [Nat.zero_add] at hcx
                  obtain ⟨b3, o3, z, rfl, hbz, HZ, hzz0, hzz1, hcz⟩ := (hY0.below (hbw4.trans (hb6.mono hbw4.size))).one hqp
                  have hxe : x = nm z := by rw [← HX.out, HE.out, nz_getD, HZ.out]
                  subst hxe
                  go_wp2
                  go_quiet ((first | (go_at_call 23; exact Calls.quiet_of_same (fNorm _ _ (by omega) (by omega)))))
                  go_wp2
                  go_roundw
                  case rel => exact ⟨q + 1, by omega, by go_num, hdrewN hb6 _⟩
                  case measure => simp [intOf]; omega
                · have hqp2 : q = p := by omega
                  subst hqp2
                  go_wp2
                  go_meet
                  case rel => exact hb6
            · have hpb : ((p : Int) == (k : Int)) = false := by rw [beq_eq_false_iff_ne]; omega
              go_wp2
              go_meet
              case rel => exact Below.refl _ _
          case rest =>
            have hb5 := hcut
            obtain ⟨w5, hw5⟩ : ∃ w5, w5 = wc := ⟨_, rfl⟩
            subst hw5
            have hL5 := hL4.below hb5
            have hV5 := hV4.below hb5
            have hbw5 := hbw4.trans (hb5.mono hbw4.size)
            clear hL4 hV4 hbw4 hb5 hcut HLd HPn hY0
            by_cases hm0 : m = 0
            · subst hm0
              have hp0 : p = 0 := by omega
              subst hp0
              go_wp2
              go_ret
              exact ⟨rfl, hbw5⟩
            have hmb : ((m : Int) == 0) = false := by rw [beq_eq_false_iff_ne]; omega
            have hm1 : 0 < m := by omega
            clear hm0
            go_wp2_with fail
            refine (rRest i m w5 hm1 (by omega)).mono ?_
            rintro e w' ⟨⟨q, hq, rfl⟩, hw'⟩
            have hw' := hw'.symm
            subst hw'
            obtain ⟨gl, u, haL, hgl1, hgl2, hbs, hcl⟩ := own_at hL5.own hq
            subst haL
            obtain ⟨gr, cr, hbs2, hgr, hgrn, hwq, hrd⟩ := hL5.row q hq
            have hue : u = .slice (some ⟨gr, 0, none⟩) (k + 1) cr := Option.some.inj (hbs.symm.trans hbs2)
            subst hue
            obtain ⟨R, HR⟩ : ∃ R, Hid (BB.getD q [] = R) := ⟨_, rfl⟩
            rw [HR.out] at hrd hwq
            have HRb : Hid (∀ x ∈ R, 0 ≤ x ∧ x ≤ 18446744073709551615) := hrd.bd
            clear hbs hbs2
            go_wp2_with fail
            refine (cClone _ (k + 1) cr R w5 hrd (by omega) (by omega)).mono ?_
            rintro e w6 ⟨v6, rfl, hown6, hb6⟩
            obtain ⟨a6, c6, hv6, hr6, _⟩ := Rd.own hown6 HRb.out
            subst hv6
            obtain ⟨g6, u6, ha6, hg6a, hg6b, _, _⟩ := own_at hown6 (show 0 < k + 1 by omega)
            subst ha6
            have hL6 := hL5.below hb6
            have hV6 := hV5.below hb6
            have hbw6 := hbw5.trans (hb6.mono hbw5.size)
            have hs6 := hbw6.size
            clear hL5 hV5 hbw5 hown6 hrd hcl
            go_wp2_with fail
            refine (cCloneL (some ⟨gl, 0, none⟩) m cL w.heap.size bs w6 hL6.own hL6.one1 hm1 (by omega)).mono ?_
            rintro e w7 ⟨v7, rfl, hown7, hb7⟩
            have hL7 := hL6.clone hb7 hown7
            obtain ⟨a7, c7, hv7, _⟩ := own_slice hown7
            subst hv7
            have hs7 := hb7.size
            have hne7 : (Value.slice a7 m c7).ownBlock ≠ some g6 := fun e => by have := (hown7.lt g6 e).1; omega
            have hr7 := hr6.below hb7
            have hbw7 := hbw6.trans (hb7.mono hs6)
            go_wp2_with (at_builtin; refine wpList_appV Try.underlying43 infoV rfl (by decide) w7 rfl _ _ rfl w6.heap.size (.slice a7 m c7) m bs (by rfl) hL7.own (.slice (some ⟨g6, 0, none⟩) (k + 1) c6) rfl (by rfl) (by omega) (by omega) ?_; intro v8 w8 s8 g8 b8)
            have hL8 := hL7.add hr7 (by omega) hne7 s8 g8 b8
            have hb68 : Below w6.heap.size w6 w8 := hb7.grown g8 hs7 (fun k hk => (hown7.lt k hk).1)
            have hbw8 := hbw6.trans (hb68.mono hs6)
            obtain ⟨a8, c8, hv8, hR8⟩ := hL8.rdR (by omega)
            subst hv8
            have HC8 : Hid (chk (BB ++ [R]) (m + 1) k = 0) := chk_ok (by omega) (by omega) (fun j hj => by rw [hL8.wid hj]; omega)
            have hlb : BB.length = m := hL6.lb
            have HNS : Hid (∀ f, NS (mat BB) m (k + 1) f ↔ NS (mat (BB ++ [R])) (m + 1) (k + 1) f) := fun f => by
              have := ns_same (w := k + 1) hlb hq f
              rwa [HR.out] at this
            have HD8 : Hid (dep (mat (BB ++ [R])) (m + 1) k) := (dep_congr HNS.out (by omega)).1 HDp.out
            have hL8b := hL6.below hb68
            have hV8 := hV6.below hb68
            have hr8 := hr6.below hb68
            have hs8 := hb68.size
            clear hL7 hr7 s8 g8 b8 hown7 hb7 hL8 hL6 hV6 hr6 hbw6 hbw7
            refine (cSolve1 a8 (m + 1) c8 k (BB ++ [R]) w8 hR8 HC8.out).mono ?_
            rintro e w9 ⟨hsol, hb9⟩
            rcases hsol with ⟨hnd, rfl⟩ | ⟨gy, V2, hd, rfl, hS2, hV2, hgy⟩
            · exact absurd HD8.out hnd
            have hVV : V2 = V := (sol_one HNS.out HS.out hS2).symm
            subst hVV
            have hVy : Rd w9 (some ⟨gy, 0, none⟩) k k V2 := hV2.whole k hS2.len.symm (by unfold maxLen; omega) (bd_u64 hS2.bd)
            have hVx := hV8.below hb9
            have hL9 := hL8b.below hb9
            have hr9 := hr8.below hb9
            have hbw9 := hbw8.trans (hb9.mono hbw8.size)
            clear hd hS2 hV2 hgy hR8 hL8b hV8 hr8 hbw8
            go_wp2_with fail
            refine (cSame _ k k V2 _ k k w9 hVx hVy).mono ?_
            rintro e w10 ⟨rfl, hb10⟩
            have hL10 := hL9.below hb10
            have hr10 := hr9.below hb10
            have hbw10 := hbw9.trans (hb10.mono hbw9.size)
            have hs10 := hbw10.size
            clear hVx hVy hL9 hr9 hbw9 hb10
            go_wp2_with fail
            refine (cClone _ (k + 1) c6 R w10 hr10 (by omega) (by omega)).mono ?_
            rintro e w11 ⟨v11, rfl, hown11, hb11⟩
            obtain ⟨a11, c11, hv11, _, _⟩ := Rd.own hown11 HRb.out
            subst hv11
            obtain ⟨g11, u11, ha11, hg11a, hg11b, hu11, hc11⟩ := own_at hown11 (show k < k + 1 by omega)
            subst ha11
            have hfz11 := own_frozen hown11 k
            have hRk : u11 = .int .u64 (R.getD k 0) := by
              rw [List.getElem?_map, List.getElem?_eq_getElem (show k < R.length by omega)] at hu11
              rw [List.getD_eq_getElem?_getD, List.getElem?_eq_getElem (show k < R.length by omega)]
              exact (Option.some.inj hu11).symm
            subst hRk
            have hrb := getD_bd HRb.out k
            obtain ⟨x, HX⟩ : ∃ x, Hid (R.getD k 0 = x) := ⟨_, rfl⟩
            rw [HX.out] at hc11 hrb
            obtain ⟨z, HZ⟩ : ∃ z, Hid (nm (x + by_) = z) := ⟨_, rfl⟩
            have hzb : 0 ≤ z ∧ z ≤ 2147483646 := by rw [← HZ.out]; exact nm_bd _
            go_wp2_with (first | (go_at_call 20; refine (fAdd _ _ _ (by omega) (by omega) (by omega) (by omega)).mono ?_; rintro e w' ⟨rfl, hw'⟩; have hw' := hw'.symm; subst hw'; rw [HZ.out]) | fail)
            obtain ⟨w12, hw12⟩ : ∃ w12, w12 = w11.setCell ⟨g11, k, none⟩ (.int .u64 z) := ⟨_, rfl⟩
            rw [← hw12]
            have hown12 : w12.ownsRow w10.heap.size 23 1 (.slice (some ⟨g11, 0, none⟩) (k + 1) c11) (k + 1) ((R.set k z).map (Value.int .u64)) := by rw [hw12, List.map_set]; exact own_set hown11 k _
            have hb12 : Below w10.heap.size w10 w12 := by rw [hw12]; exact hb11.setCell hg11a _
            obtain ⟨a12, c12, hv12, hr12, _⟩ := Rd.own hown12 (fun y hy => by
              rcases List.mem_or_eq_of_mem_set hy with h' | h'
              · exact HRb.out y h'
              · omega)
            simp only [Value.slice.injEq, true_and] at hv12
            obtain ⟨rfl, rfl⟩ := hv12
            have hg12 : g11 < w12.heap.size := by rw [hw12]; simpa using hg11b
            have hL12 := hL10.below hb12
            have hbw12 := hbw10.trans (hb12.mono hs10)
            have hs12 := hbw12.size
            clear hown11 hb11 hc11 hfz11 hL10 hr10 hbw10 hw12 hown12 hu11
            refine (cCloneL (some ⟨gl, 0, none⟩) m cL w.heap.size bs w12 hL12.own hL12.one1 hm1 (by omega)).mono ?_
            rintro e w13 ⟨v13, rfl, hown13, hb13⟩
            have hL13 := hL12.clone hb13 hown13
            obtain ⟨a13, c13, hv13, _⟩ := own_slice hown13
            subst hv13
            have hs13 := hb13.size
            have hne13 : (Value.slice a13 m c13).ownBlock ≠ some g11 := fun e => by have := (hown13.lt g11 e).1; omega
            have hr13 := hr12.below hb13
            go_wp2_with (at_builtin; refine wpList_appV Try.underlying43 infoV rfl (by decide) w13 rfl _ _ rfl w12.heap.size (.slice a13 m c13) m bs (by rfl) hL13.own (.slice (some ⟨g11, 0, none⟩) (k + 1) c11) rfl (by rfl) (by omega) (by omega) ?_; intro v14 w14 s14 g14 b14)
            have hL14 := hL13.add hr13 (by omega) hne13 s14 g14 b14
            have hb14 : Below w12.heap.size w12 w14 := hb13.grown g14 hs13 (fun k hk => (hown13.lt k hk).1)
            have hbw14 := hbw12.trans (hb14.mono hs12)
            obtain ⟨a14, c14, hv14, hR14⟩ := hL14.rdR (by omega)
            subst hv14
            have HC14 : Hid (chk (BB ++ [R.set k z]) (m + 1) k = 0) := chk_ok (by omega) (by omega) (fun j hj => by rw [hL14.wid hj]; omega)
            have HDW : Hid (dep (mat (BB ++ [R.set k z])) (m + 1) k ↔ nm by_ = 0) := dep_wrong hlb hq HO.out (fun j hj => by rw [HR.out, getD_set, if_neg (by omega)]) (by rw [HR.out, getD_set, if_pos ⟨rfl, by omega⟩, HX.out, HZ.out])
            have hnb := nm_bd by_
            clear hL13 hr13 s14 g14 b14 hown13 hb13 hL14 hL12 hr12 hbw12 hb14
            refine (cSolve1 a14 (m + 1) c14 k (BB ++ [R.set k z]) w14 hR14 HC14.out).mono ?_
            rintro e w15 ⟨hsol, hb15⟩
            have hbw15 := hbw14.trans (hb15.mono hbw14.size)
            clear hR14 hbw14 hb15
            rcases hsol with ⟨hnd, rfl⟩ | ⟨gy', V3, hd, rfl, _, _, _⟩
            · have HBN : Hid ((nm by_ != 0) = true) := by rw [Hid, bne_iff_ne]; exact fun e => hnd (HDW.out.2 e)
              clear hnd
              go_wp2_with (first | (go_at_call 23; refine (fNorm _ _ (by omega) (by omega)).mono ?_; rintro e w' ⟨rfl, hw'⟩; have hw' := hw'.symm; subst hw') | fail)
              go_ret
              exact ⟨by show Ending.returned (Value.bool (nm by_ != 0)) = _; rw [HBN.out], hbw15⟩
            · have hby : nm by_ = 0 := HDW.out.1 hd
              have HBY : Hid (nm by_ = 0) := hby
              clear hd hby hnb
              go_wp2_with (first | (go_at_call 23; refine (fNorm _ _ (by omega) (by omega)).mono ?_; rintro e w' ⟨rfl, hw'⟩; have hw' := hw'.symm; subst hw'; rw [HBY.out]) | fail)
              go_ret
              exact ⟨rfl, hbw15⟩
end
end Go.Proofs.Ytljlioglpaogdad
