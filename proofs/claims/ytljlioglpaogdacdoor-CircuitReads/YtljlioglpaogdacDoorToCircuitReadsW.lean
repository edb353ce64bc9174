/- croftref.ReadCircuit. · The walk of croftlaw.CircuitReads. -/
import Derived.Test.YtljlioglpaogdacDoorToBackN
import Derived.Test.YtljlioglpaogdacDoorCircC
import Derived.Test.YtljlioglpaogdacDoorToSwA
import Derived.BigQuiet
import Derived.Deep.RegionWith
import Derived.Deep.DeepCutAuto
import Derived.Deep.CutRange
import Derived.Deep.LoopGhost
import Derived.Deep.CutBlock
import Derived.Test.YtljlioglpaogdacDoorToParseC
import Derived.Test.YtljlioglpaogdacDoorToSameCC
namespace Go.Proofs.YtljlioglpaogdacDoor
set_option linter.unusedVariables false
set_option maxRecDepth 100000
set_option maxHeartbeats 8000000
section
open Crm Go.RowKit
theorem rReadL (s : ByteArray) (w : World) (hs : s.size ≤ 9223372036854775807) (hbig : 2048 < s.size) :
    Calls Tryd.prog 6 #[.string s] w fun e w' => Prd s w e w' := by
  have hZ := CBox.new w none 0 0 none 0 0
  have hb0 : Below w.heap.size w (w.alloc (.cells #[.slice none 0 0, .slice none 0 0] 25)) := (Below.refl _ _).alloc (Nat.le_refl _) _
  have HP : Hid (Par s [] [] 0 2) := .inl ⟨hbig, rfl, rfl, rfl, rfl⟩
  go_enter Tryd.func6, Tryd.ntmps6
  go_upto_region 1 with fail
  generalize w.alloc (.cells #[.slice none 0 0, .slice none 0 0] 25) = w0 at *
  obtain ⟨z0, z1⟩ := hZ.cells
  have f0 := hZ.frozen 0
  have f1 := hZ.frozen 1
  have zl := hZ.lt
  obtain ⟨y0, y1⟩ := two_put (x := .slice none 0 0) (y := .slice none 0 0) z0 z1
  have HBE : Hid (Below w.heap.size w ((w0.setCell ⟨w.heap.size, 0, none⟩ (.slice none 0 0)).setCell ⟨w.heap.size, 1, none⟩ (.slice none 0 0))) := (hb0.setCell (p := ⟨w.heap.size, 0, none⟩) (Nat.le_refl _) _).setCell (p := ⟨w.heap.size, 1, none⟩) (Nat.le_refl _) _
  clear hb0 hZ
  go_wp2
  exact bodyPost_ret (v := .tuple #[.agg #[.slice none 0 0, .slice none 0 0], .int .i64 0, .int .i64 2]) (by simp [results, Tryd.results6, go_sem, y0, y1]) rfl (Prd.err HP.out rfl HBE.out)

theorem rReadS (s : ByteArray) (w : World) (hs : s.size ≤ 2048) (hV : Vb w) :
    Calls Tryd.prog 6 #[.string s] w fun e w' => Prd s w e w' := by
  have hZ0 := CBox.new w none 0 0 none 0 0
  have hb0 : Below w.heap.size w (w.alloc (.cells #[.slice none 0 0, .slice none 0 0] 25)) := (Below.refl _ _).alloc (Nat.le_refl _) _
  go_enter Tryd.func6, Tryd.ntmps6
  go_upto_region 1 with fail
  generalize w.alloc (.cells #[.slice none 0 0, .slice none 0 0] 25) = w0 at *
  go_wp2_with fail
  refine (rPieces s 10 _ (by omega) (by omega) (by omega)).mono ?_
  rintro e w1 ⟨v, rfl, hown, hb1'⟩
  change w1.ownsRow _ _ _ _ (lns s).length (strs (lns s)) at hown
  have hlen := lns_len s
  obtain ⟨N, HN⟩ : ∃ N, Hid (lnn s = N) := ⟨_, rfl⟩
  rw [HN.out] at hlen
  have hN : N ≤ 2048 := by
    have := pcs_len s 10 s.size
    unfold lns at hlen
    omega
  have HLB : Hid (∀ x ∈ lns s, x.size ≤ 2048) := fun x hx => by have := pcs_size s 10 s.size x hx; omega
  have HLL : Hid ((lns s).length = N + 1) := hlen
  rw [hlen] at hown
  clear hlen
  have hb1 := hb0.trans (hb1'.mono hb0.size)
  have hZ1 := hZ0.below hb1' hZ0.lt
  obtain ⟨gl, cl, rfl, hgl, RT⟩ := RdT.own hown (by omega) (fun x hx => by have := HLB.out x hx; omega)
  have hL1 := own_base hown hb0.size
  obtain ⟨b, o, y, e, hbb, HY, hys, hcy⟩ := RT.one (k := N) (by omega)
  simp only [Option.some.injEq, Addr.mk.injEq, and_true] at e
  obtain ⟨rfl, rfl⟩ := e
  rw [Nat.zero_add] at hcy
  have hcl := RT.cap
  have hclm := RT.max
  unfold maxLen at hclm
  obtain ⟨wh, hwh⟩ : ∃ wh : Bool, y.toList.isEmpty = wh := ⟨_, rfl⟩
  obtain ⟨NL, HNL⟩ : ∃ NL, Hid ((wh = true ∧ y = mt ∧ NL = N) ∨ (wh = false ∧ y ≠ mt ∧ NL = N + 1)) := by
    by_cases ey : y = mt
    · exact ⟨N, .inl ⟨by rw [← hwh]; exact emp_yes ey, ey, rfl⟩⟩
    · exact ⟨N + 1, .inr ⟨by rw [← hwh]; exact emp_no ey, ey, rfl⟩⟩
  have hsl : ∀ W, (Instr.sliceAt 51 (.slice (some ⟨gl, 0, none⟩) (N + 1) cl) none (some (.int .i64 (N : Int))) none).run Tryd.prog W = .ok (.slice (some ⟨gl, 0, none⟩) N cl) W := fun W => by
    rw [run_sliceAt_slice W 51 _ _ _ _ Tryd.underlying51, run_slice_h W 51 (some ⟨gl, 0, none⟩) (N + 1) cl (by simp [Program.elem, Tryd.underlying51]) .i64 (N : Int) (by omega) (by omega)]
    cases hi : Tryd.prog.info? 9 with
    | none => have := infoS1t; simp [hi] at this
    | some i => simp [sizeOf, typeInfo, hi, sliced, Result.andThen, Program.elem, Tryd.underlying51, Addr.add]
  clear hown hb0 hb1' hZ0
  go_upto_if 27 with fail
  go_cut [5] (fun s5 wx => s5 = .slice (some ⟨gl, 0, none⟩) NL cl ∧ wx = w1)
  case first =>
    cases wh with
    | true =>
      obtain rfl : NL = N := by rcases HNL.out with ⟨_, _, e⟩ | ⟨e, _⟩; exact e; cases e
      go_wp2
      all_goals
        go_meet
        case rel => exact ⟨rfl, rfl⟩
    | false =>
      obtain rfl : NL = N + 1 := by rcases HNL.out with ⟨e, _⟩ | ⟨_, _, e⟩; cases e; exact e
      go_wp2
      all_goals
        go_meet
        case rel => exact ⟨rfl, rfl⟩
  case rest =>
    obtain ⟨rfl, rfl⟩ := hcut
    have hC1 := Crd.start wc w.heap.size
    have hbA : Below wc.heap.size wc (wc.alloc (.cells #[.slice none 0 0, .slice none 0 0] 25)) := (Below.refl _ _).alloc (Nat.le_refl _) _
    have hL2 := own_below hL1 hbA
    have hZ2 := hZ1.below hbA hZ1.lt
    have hb2 := hb1.trans (hbA.mono hb1.size)
    have hgc : w.heap.size < wc.heap.size := hZ1.lt
    clear hL1 hZ1 hb1 RT hcy hsl hbA
    go_upto_region 8 with fail
    generalize wc.alloc (.cells #[.slice none 0 0, .slice none 0 0] 25) = wA at *
    obtain ⟨gc, HGC⟩ : ∃ gc, Hid (wc.heap.size = gc) := ⟨_, rfl⟩
    rw [HGC.out] at hC1 hgc ⊢
    go_wp2
    go_loopg [8] NL (fun gk q wr => ∃ (i n cg m co : Nat) (ag ao : Option Addr) (G : List Gt) (O : List Int), gk = NL - i ∧ i ≤ N ∧ q = .int .i64 i ∧ Hid (Rds (lns s) i G O) ∧ Crd wr w.heap.size gc ag n cg ao m co G O ∧ wr.ownsRow w.heap.size 9 1 (.slice (some ⟨gl, 0, none⟩) (N + 1) cl) (N + 1) (strs (lns s)) ∧ CBox wr w.heap.size none 0 0 none 0 0 ∧ n ≤ i ∧ m ≤ i ∧ Below w.heap.size w wr)
    case atStart => exact ⟨0, 0, 0, 0, 0, none, none, [], [], rfl, Nat.zero_le _, rfl, ⟨rfl, rfl⟩, hC1, hL2, hZ2, Nat.le_refl _, Nat.le_refl _, hb2⟩
    case round =>
      clear hC1 hL2 hZ2 hb2
      obtain ⟨i, n, cg, m, co, ag, ao, G, O, rfl, hiN, rfl, HR, hC, hL, hZ, hni, hmi, hbel⟩ := hrel
      have HNL2 : Hid (NL ≤ N + 1) := by rcases HNL.out with ⟨_, _, e⟩ | ⟨_, _, e⟩ <;> (unfold Hid; omega)
      by_cases hlt : i < NL
      · obtain ⟨_, _, e, _, RT⟩ := RdT.own hL (by omega) (fun x hx => by have := HLB.out x hx; omega)
        simp only [Value.slice.injEq, Option.some.injEq, Addr.mk.injEq, and_true, true_and] at e
        obtain ⟨rfl, rfl⟩ := e
        obtain ⟨b, o, t, e, hbb, HT, hts, hct⟩ := RT.one (k := i) (by omega)
        simp only [Option.some.injEq, Addr.mk.injEq, and_true] at e
        obtain ⟨rfl, rfl⟩ := e
        rw [Nat.zero_add] at hct
        have ht48 : t.size ≤ 2048 := by
          rw [← HT.out]
          refine HLB.out _ ?_
          unfold tx
          rw [List.getD_eq_getElem?_getD, List.getElem?_eq_getElem (by have := HLL.out; omega)]
          exact List.getElem_mem _
        clear RT
        go_wp2_with fail
        refine (rPieces t 32 _ (by omega) (by omega) (by omega)).mono ?_
        rintro e w2 ⟨v, rfl, hW, hb2⟩
        change w2.ownsRow _ _ _ _ (wds t).length (strs (wds t)) at hW
        have hC2 := hC.below hb2
        have hL2 := own_below hL hb2
        have hZ2 := hZ.below hb2 hZ.lt
        have hbel2 := hbel.trans (hb2.mono hbel.size)
        clear hC hL hZ hbel hb2 hct
        obtain ⟨k, HKl⟩ : ∃ k, Hid ((wds t).length = k + 1) := ⟨(wds t).length - 1, by have := pcs_len t 32 t.size; unfold Hid wds; omega⟩
        have hk48 : k ≤ 2048 := by
          have := pcs_len t 32 t.size
          have h2 := HKl.out
          unfold wds at h2
          omega
        have HAL : Hid ((ags t).length = k) := by unfold Hid ags; rw [List.length_drop, HKl.out]; rfl
        rw [HKl.out] at hW
        obtain ⟨gw, cw, rfl, hgw, RW⟩ := RdT.own hW (by omega) (fun x hx => by have := pcs_size t 32 t.size x hx; omega)
        have RW1 := RW.sub1
        have hcw := RW.cap
        obtain ⟨X, HX⟩ : ∃ X, Hid (subA (some ⟨gw, 0, none⟩) cw 1 = X) := ⟨_, rfl⟩
        rw [HX.out] at RW1
        have hsl : ∀ W, (Instr.sliceAt 51 (.slice (some ⟨gw, 0, none⟩) (k + 1) cw) (some (.int .i64 1)) none none).run Tryd.prog W = .ok (.slice X k (cw - 1)) W := fun W => by
          rw [← HX.out]
          exact run_subl Tryd.underlying51 infoS1t (some ⟨gw, 0, none⟩) (k + 1) cw 1 rfl (by omega) W
        clear hW
        go_wp2_with fail
        refine (rNumbers _ _ _ _ _ RW1 (by omega)).mono ?_
        rintro e w3 ⟨hNm, hb3⟩
        change (¬ okn (ags t) k ∧ _ ∨ okn (ags t) k ∧ ∃ v, _ ∧ w3.ownsRow _ _ _ _ _ (zns (nbl (ags t) k))) at hNm
        obtain ⟨okb, an, kn, cn, rfl, HNm⟩ : ∃ okb an kn cn, e = .returned (.tuple #[.slice an kn cn, .bool okb]) ∧ Hid ((okb = false ∧ ¬ okn (ags t) k ∧ kn = 0) ∨ (okb = true ∧ okn (ags t) k ∧ kn = k ∧ w3.ownsRow w2.heap.size 3 1 (.slice an kn cn) kn (zns (nbl (ags t) k)))) := by
          rcases hNm with ⟨h1, rfl⟩ | ⟨h1, v, rfl, h2⟩
          · exact ⟨false, none, 0, 0, rfl, .inl ⟨rfl, h1, rfl⟩⟩
          · obtain ⟨an, cn, rfl, _⟩ := own_slice h2
            exact ⟨true, an, k, cn, rfl, .inr ⟨rfl, h1, rfl, h2⟩⟩
        clear hNm
        have hC3 := hC2.below hb3
        have hL3 := own_below hL2 hb3
        have hZ3 := hZ2.below hb3 hZ2.lt
        have hbel3 := hbel2.trans (hb3.mono hbel2.size)
        have RW3 := RW.below hb3
        have hkn48 : kn ≤ 2048 := by rcases HNm.out with ⟨_, _, e⟩ | ⟨_, _, e, _⟩ <;> omega
        clear hC2 hL2 hZ2 hbel2 RW1 hsl RW hb3
        obtain ⟨b, o, hd, e, hbb, HHd, hhs, hch⟩ := RW3.one (k := 0) (by omega)
        simp only [Option.some.injEq, Addr.mk.injEq, and_true] at e
        obtain ⟨rfl, rfl⟩ := e
        obtain ⟨r, HI⟩ := ixt_some hd
        have HIx : Hid (Ixt vbs 7 hd r) := HI
        have hrb := HI.bd
        have hV3 := hV.below hbel3
        clear HI
        have hvs : ∀ W, (Instr.sliceAt 56 (.pointer (some ⟨0, 0, none⟩)) none none none).run Tryd.prog W = .ok (.slice (some ⟨0, 0, none⟩) 7 7) W := fun W => by
          rw [run_sliceAt_array_all W 56 ⟨0, 0, none⟩ (by simp [Program.arrayLen, Program.elem, Tryd.underlying56])]
          have hel : Tryd.prog.elem 56 = 9 := by simp [Program.elem, Tryd.underlying56]
          cases hi : Tryd.prog.info? 9 with
          | none => have := infoS1t; simp [hi] at this
          | some i => simp [hel, sizeOf, typeInfo, hi, slicedAt, Program.arrayLen, Tryd.underlying56, Result.andThen, Addr.add]
        obtain ⟨okk, HOK⟩ : ∃ okk, Hid ((okb = false ∧ okk = false) ∨ (okb = true ∧ ((wh = true ∧ okk = true) ∨ (wh = false ∧ okk = decide (i < N))))) := by
          cases okb with
          | false => exact ⟨false, .inl ⟨rfl, rfl⟩⟩
          | true => cases wh with
            | true => exact ⟨true, .inr ⟨rfl, .inl ⟨rfl, rfl⟩⟩⟩
            | false => exact ⟨_, .inr ⟨rfl, .inr ⟨rfl, rfl⟩⟩⟩
        go_wp2_with fail
        go_quiet ((go_at_call 21; exact Calls.quiet_of_same (sIndexV hd r _ HIx.out (hV3.drewN _))))
        all_goals
          go_upto_region 14 with fail
          go_cut [11] from 33 to 165 (fun s11 wx => s11 = .bool okk ∧ Below w3.heap.size w3 wx)
          case first =>
            rcases HOK.out with ⟨rfl, rfl⟩ | ⟨rfl, ⟨rfl, rfl⟩ | ⟨rfl, rfl⟩⟩
            · go_wp2
              all_goals
                go_meet
                case rel => exact ⟨rfl, drewN_below (Below.refl _ _) _⟩
            · go_wp2
              all_goals
                go_meet
                case rel => exact ⟨rfl, drewN_below (Below.refl _ _) _⟩
            · obtain rfl : NL = N + 1 := by rcases HNL.out with ⟨e, _⟩ | ⟨_, _, e⟩; cases e; exact e
              go_wp2
              all_goals
                go_meet
                case rel => exact ⟨rfl, drewN_below (Below.refl _ _) _⟩
          case rest =>
            obtain ⟨rfl, hb4⟩ := hcut
            have hC4 := hC3.below hb4
            have hL4 := own_below hL3 hb4
            have hZ4 := hZ3.below hb4 hZ3.lt
            have hbel4 := hbel3.trans (hb4.mono hbel3.size)
            have hch4 := (RW3.below hb4).one (k := 0) (by omega)
            have hsz4 := hbel4.size
            have hci : wc.cell? ⟨gw, 0, none⟩ = some (.string hd) := by
              obtain ⟨b, o, hd', e, _, H', _, hc'⟩ := hch4
              simp only [Option.some.injEq, Addr.mk.injEq, and_true] at e
              obtain ⟨rfl, rfl⟩ := e
              obtain rfl : hd = hd' := HHd.out.symm.trans H'.out
              simpa using hc'
            have hgwl : gw < wc.heap.size := World.block_lt_of_cell? wc _ hci
            have HN4 : Hid (okb = true → okn (ags t) k ∧ kn = k ∧ wc.ownsRow w2.heap.size 3 1 (.slice an kn cn) kn (zns (nbl (ags t) k))) := fun e => by
              rcases HNm.out with ⟨e', _⟩ | ⟨_, h1, h2, h3⟩
              · rw [e] at e'; cases e'
              · exact ⟨h1, h2, own_below h3 hb4⟩
            have HKN0 : Hid (okb = false → kn = 0) := fun e => by
              rcases HNm.out with ⟨_, _, h1⟩ | ⟨e', _⟩
              · exact h1
              · rw [e] at e'; cases e'
            have HPN : Hid (okk = false ∨ Nok t O → Par s [] [] (i + 1) 3) := fun hh => by
              by_cases hin : i < N
              · refine .inr ⟨hs, .inl ⟨i, G, O, by rw [HN.out]; exact hin, HR.out, ?_, rfl, rfl, rfl, rfl⟩⟩
                rw [HT.out]
                rcases hh with hh | hh
                · rcases HOK.out with ⟨e1, _⟩ | ⟨_, ⟨_, e2⟩ | ⟨_, e2⟩⟩
                  · rcases HNm.out with ⟨_, h1, _⟩ | ⟨e3, _⟩
                    · exact nok_num HAL.out h1
                    · rw [e1] at e3; cases e3
                  · rw [hh] at e2; cases e2
                  · rw [hh] at e2
                    have := of_decide_eq_false e2.symm
                    omega
                · exact hh
              · have hiN2 : i = N := by omega
                refine .inr ⟨hs, .inr ⟨G, O, by rw [HN.out, ← hiN2]; exact HR.out, .inl ⟨?_, rfl, rfl, by rw [HN.out, hiN2], rfl⟩⟩⟩
                rw [HN.out, HY.out]
                rcases HNL.out with ⟨_, _, e⟩ | ⟨_, e, _⟩
                · omega
                · exact e
            have HiN : Hid (okk = true → i + 1 ≤ N) := fun e => by
              rcases HOK.out with ⟨_, e2⟩ | ⟨_, ⟨e1, _⟩ | ⟨_, e2⟩⟩
              · rw [e] at e2; cases e2
              · rcases HNL.out with ⟨_, _, e3⟩ | ⟨e3, _⟩
                · omega
                · rw [e1] at e3; cases e3
              · rw [e] at e2
                have := of_decide_eq_true e2.symm
                omega
            have HOb : Hid (okk = true → okb = true) := fun e => by
              rcases HOK.out with ⟨_, e2⟩ | ⟨e1, _⟩
              · rw [e] at e2; cases e2
              · exact e1
            obtain ⟨d0, d1⟩ := hC4.box.cells
            have hgcl := hC4.box.lt
            have fb1 := hC4.box.frozen 1
            have hbel4' := hbel4
            clear hC3 hL3 hZ3 hbel3 RW3 hb4 hch4 hch HNm
            go_upto_block 2 with fail
            go_cut [11] from 33 to 165 (fun s11 wx => ∃ b, s11 = .bool b ∧ Swt s w gc gl N cl i b wx)
            case first =>
              refine swAll HR HT HAL HHd HIx hrb hC4 hL4 hZ4 hbel4 hsz4 hci hgwl HN4 HKN0 HPN HiN HOb d0 d1 hgcl fb1 hni hmi hN hiN hkn48 hgc hcw 0 trivial ?_
              unfold Hid
              intro b
              intros
              rename_i w' hsw
              dsimp only
              go_wp2
              go_meet
              case rel => exact ⟨b, rfl, hsw⟩
            case rest =>
              obtain ⟨b, rfl, hSw⟩ := hcut
              obtain ⟨w8, hw8⟩ : ∃ w8, w8 = wc := ⟨_, rfl⟩
              subst hw8
              rcases hSw with ⟨rfl, hPe, hZE, hbE⟩ | ⟨rfl, hin, n', cg', m', co', ag', ao', G', O', hRn, hCn, hLn, hZn, hnn, hmn, hbn⟩
              · clear hC4 hL4 hZ4 hbel4 hbel4' hci d0 d1 fb1
                obtain ⟨z0, z1⟩ := (hZE).cells
                have f0 := (hZE).frozen 0
                have f1 := (hZE).frozen 1
                have zl := (hZE).lt
                obtain ⟨y0, y1⟩ := two_put (x := .slice none 0 0) (y := .slice none 0 0) z0 z1
                have HBE : Hid (Below w.heap.size w ((w8.setCell ⟨w.heap.size, 0, none⟩ (.slice none 0 0)).setCell ⟨w.heap.size, 1, none⟩ (.slice none 0 0))) := ((hbE).setCell (p := ⟨w.heap.size, 0, none⟩) (Nat.le_refl _) _).setCell (p := ⟨w.heap.size, 1, none⟩) (Nat.le_refl _) _
                have HPE : Hid (Par s [] [] (i + 1) 3) := hPe
                go_wp2
                exact bodyPost_ret (v := .tuple #[.agg #[.slice none 0 0, .slice none 0 0], .int .i64 ((i : Int) + 1), .int .i64 3]) (by simp [results, Tryd.results6, go_sem, y0, y1]) rfl (Prd.err HPE.out (by omega) HBE.out)
              · have HRn : Hid (Rds (lns s) (i + 1) G' O') := hRn
                clear hC4 hL4 hZ4 hbel4 hbel4' hci d0 d1 fb1 hRn
                go_wp2
                go_roundg (NL - (i + 1))
                case measure => omega
                case rel => exact ⟨i + 1, n', cg', m', co', ag', ao', G', O', rfl, hin, by go_num, HRn, hCn, hLn, hZn, by omega, by omega, hbn⟩
      · have hiNL : i = N ∧ y = mt := by
          rcases HNL.out with ⟨_, e2, e3⟩ | ⟨_, _, e3⟩
          · exact ⟨by omega, e2⟩
          · omega
        obtain ⟨rfl, hym⟩ := hiNL
        obtain ⟨b1, b2⟩ := HR.out.bd
        have hG := RdG.ownA hC.own hC.ln b1
        have hI := RdI.ownA hC.ins b2
        obtain ⟨d0, d1⟩ := hC.box.cells
        have hgcl := hC.box.lt
        go_wp2_with fail
        refine (rCircuit _ _ _ _ _ _ _ _ _ hG hI).mono ?_
        rintro e w5 ⟨r, rfl, hCk, hb5⟩
        have hZ5 := hZ.below hb5 hZ.lt
        have hC5 := hC.below hb5
        have hbel5 := hbel.trans (hb5.mono hbel.size)
        obtain ⟨z0, z1⟩ := hZ5.cells
        have f0 := hZ5.frozen 0
        have f1 := hZ5.frozen 1
        have zl := hZ5.lt
        obtain ⟨rfl, rfl⟩ : n = G.length ∧ m = O.length := ⟨hC.ln.symm, hC.lo.symm⟩
        have hrb := hCk.bd
        as_aux_lemma =>
          clear d0 d1
          obtain ⟨d0, d1⟩ := hC5.box.cells
          have hgcl5 := hC5.box.lt
          by_cases hr : r = 0
          · subst hr
            have HP : Hid (Par s G O 0 0) := .inr ⟨hs, .inr ⟨G, O, by rw [HN.out]; exact HR.out, .inr ⟨by rw [HN.out, HY.out]; exact hym, rfl, hCk, .inr ⟨rfl, rfl, rfl⟩⟩⟩⟩
            obtain ⟨y0, y1⟩ := two_put (x := .slice ag G.length cg) (y := .slice ao O.length co) z0 z1
            have hg1 : w5.grownBy ((w5.setCell ⟨w.heap.size, 0, none⟩ (.slice ag G.length cg)).setCell ⟨w.heap.size, 1, none⟩ (.slice ao O.length co)) (some w.heap.size) := grown_trans (grown_set _ _ _ _) (grown_set _ _ _ _)
            have k1 := box_apart hZ5 hC5.own eGC
            have k2 := box_apart hZ5 hC5.ins eIC
            have HO1 : Hid (World.ownsRow _ _ _ _ _ _ _) := hC5.own.kept hg1 (.inr (fun e => k1 e.symm))
            have HO2 : Hid (World.ownsRow _ _ _ _ _ _ _) := hC5.ins.kept hg1 (.inr (fun e => k2 e.symm))
            have HBE : Hid (Below w.heap.size w ((w5.setCell ⟨w.heap.size, 0, none⟩ (.slice ag G.length cg)).setCell ⟨w.heap.size, 1, none⟩ (.slice ao O.length co))) := (hbel5.setCell (p := ⟨w.heap.size, 0, none⟩) (Nat.le_refl _) _).setCell (p := ⟨w.heap.size, 1, none⟩) (Nat.le_refl _) _
            clear hC hL hZ hbel hG hI hCk hb5 hC5 hZ5 hbel5 hg1 k1 k2
            go_wp2
            exact bodyPost_ret (v := .tuple #[.agg #[.slice ag G.length cg, .slice ao O.length co], .int .i64 0, .int .i64 0]) (by simp [results, Tryd.results6, go_sem, y0, y1]) rfl ⟨ag, cg, ao, co, 0, 0, G, O, rfl, HP.out, HO1.out, HO2.out, HBE.out⟩
          · have HP : Hid (Par s [] [] 0 r) := .inr ⟨hs, .inr ⟨G, O, by rw [HN.out]; exact HR.out, .inr ⟨by rw [HN.out, HY.out]; exact hym, rfl, hCk, .inl ⟨hr, rfl, rfl⟩⟩⟩⟩
            obtain ⟨y0, y1⟩ := two_put (x := .slice none 0 0) (y := .slice none 0 0) z0 z1
            have HBE : Hid (Below w.heap.size w ((w5.setCell ⟨w.heap.size, 0, none⟩ (.slice none 0 0)).setCell ⟨w.heap.size, 1, none⟩ (.slice none 0 0))) := (hbel5.setCell (p := ⟨w.heap.size, 0, none⟩) (Nat.le_refl _) _).setCell (p := ⟨w.heap.size, 1, none⟩) (Nat.le_refl _) _
            have hrb2 : (r != 0) = true := by rw [bne_iff_ne]; exact hr
            clear hC hL hZ hbel hG hI hCk hb5 hC5 hZ5 hbel5 hr
            go_wp2
            exact bodyPost_ret (v := .tuple #[.agg #[.slice none 0 0, .slice none 0 0], .int .i64 0, .int .i64 r]) (by simp [results, Tryd.results6, go_sem, y0, y1]) rfl (Prd.err HP.out rfl HBE.out)

theorem rRead (s : ByteArray) (w : World) (hs : s.size ≤ 9223372036854775807) (hV : Vb w) : Calls Tryd.prog 6 #[.string s] w fun e w' => Prd s w e w' := by
  by_cases h : 2048 < s.size
  · exact rReadL s w hs h
  · exact rReadS s w (by omega) hV
theorem smg_map (G : List Gt) (n : Nat) : SmG (G.map nmg) G n := fun i _ => by
  rw [gt_map]
  exact ⟨rfl, rfl, rfl, nm_nm _⟩

theorem circuitReadsW (s : ByteArray) (w : World) (hs : s.size ≤ maxLen) (hV : Vb w) (hS : Shp w) :
    Calls Tryd.prog 3 #[.string s] w fun e w' => e = .returned (.bool true) ∧ Below w.heap.size w w' := by
  unfold maxLen at hs
  go_enter Tryd.func3, Tryd.ntmps3
  go_wp2_with fail
  refine (cParse s w (by omega) hS).mono ?_
  rintro e w1 ⟨ag, cg, ao, co, at_, r, G, O, rfl, hP, ho, hi, hb1⟩
  have HP : Hid (Par s G O at_ r) := hP
  obtain ⟨b1, b2⟩ := hP.gbd
  have hG1 := RdG.ownA ho (gcs_len4 _) (gbd_nm b1)
  have hI1 := RdI.ownA hi b2
  have hbA : Below w1.heap.size w1 (w1.alloc (.cells #[.slice ag G.length cg, .slice ao O.length co] 25)) := (Below.refl _ _).alloc (Nat.le_refl _) _
  have hcA := CBox.new w1 ag G.length cg ao O.length co
  clear hP ho hi b1 b2
  go_upto_region 2 with fail
  generalize w1.alloc (.cells #[.slice ag G.length cg, .slice ao O.length co] 25) = wA at *
  have hbwA := hb1.trans (hbA.mono hb1.size)
  have hG2 := hG1.below hbA
  have hI2 := hI1.below hbA
  clear hG1 hI1 hbA hb1
  go_wp2_with fail
  refine (rRead s wA (by omega) (hV.below hbwA)).mono ?_
  rintro e w2 ⟨ag', cg', ao', co', at', r', G', O', rfl, hP', ho', hi', hb2⟩
  obtain ⟨rfl, rfl, rfl, rfl⟩ := hP'.one HP.out
  obtain ⟨b1, b2⟩ := hP'.gbd
  have hrb := hP'.bd
  have hG3 := RdG.ownA ho' rfl b1
  have hI3 := RdI.ownA hi' b2
  have hG2' := hG2.below hb2
  have hI2' := hI2.below hb2
  have hcA2 := hcA.below hb2 hcA.lt
  have hbw2 := hbwA.trans (hb2.mono hbwA.size)
  have hbB : Below w2.heap.size w2 (w2.alloc (.cells #[.slice ag' G'.length cg', .slice ao' O'.length co'] 25)) := (Below.refl _ _).alloc (Nat.le_refl _) _
  have hcB := CBox.new w2 ag' G'.length cg' ao' O'.length co'
  clear hP' ho' hi' b1 b2 hG2 hI2 hcA hbwA hb2 HP
  go_upto_region 3 with fail
  generalize w2.alloc (.cells #[.slice ag' G'.length cg', .slice ao' O'.length co'] 25) = wB at *
  have hG4 := hG3.below hbB
  have hI4 := hI3.below hbB
  have hG5 := hG2'.below hbB
  have hI5 := hI2'.below hbB
  have hcA3 := hcA2.below hbB hcA2.lt
  have hbwB := hbw2.trans (hbB.mono hbw2.size)
  obtain ⟨d0, d1⟩ := hcA3.cells
  obtain ⟨k0, k1⟩ := hcB.cells
  have l0 := hcA3.lt
  have l1 := hcB.lt
  clear hG3 hI3 hG2' hI2' hcA2 hbw2 hbB hcA3 hcB
  go_wp2_with fail
  refine (sSameCircuit _ _ _ _ _ _ _ _ _ _ _ _ _ _ _ hG5 hI5 hG4 hI4 (smg_map _ _)).mono ?_
  rintro e w3 ⟨rfl, hb3⟩
  have hbw3 := hbwB.trans (hb3.mono hbwB.size)
  clear hG4 hI4 hG5 hI5 hbwB hb3
  go_wp2
  go_ret
  exact ⟨rfl, hbw3⟩
end
end Go.Proofs.YtljlioglpaogdacDoor
