/- Package circuit: readLine. -/
import Derived.Test.YtljlioglpaogdafGreatDoorRGateC
import Derived.Test.YtljlioglpaogdafGreatDoorToRNumC
import Derived.Test.YtljlioglpaogdafGreatDoorToParN
import Derived.Deep.RegionLaw
namespace Go.Proofs.YtljlioglpaogdafGreatDoor
set_option linter.unusedVariables false
set_option maxRecDepth 100000
set_option maxHeartbeats 8000000
section
open Crm Go.RowKit
theorem infoS1r : (Tryz.prog.info? 9).map (·.size) = some 1 := by kernel_rfl
theorem outB_listR : outB.toList = [111, 117, 116] := by decide +kernel
def Rln (t : ByteArray) (B gc n m : Nat) (ag : Option Addr) (cg : Nat) (ao : Option Addr) (co : Nat) (G : List Gt) (O : List Int) (w : World) (e : Ending) (w' : World) : Prop :=
  ((∃ g a' c', Lng t g ∧ O = [] ∧ e = .returned (.bool true) ∧ Crd w' B gc a' (n + 1) c' ao m co (G ++ [nmg g]) O) ∨
   (∃ x a' c', Lno t x ∧ e = .returned (.bool true) ∧ Crd w' B gc ag n cg a' (m + 1) c' G (O ++ [x])) ∨
   (Nok t O ∧ e = .returned (.bool false))) ∧ Below B w w'
theorem nbl_at {L : List ByteArray} {k i : Nat} (h : i < k) : (nbl L k).getD i 0 = dgn (tx L i) (tx L i).size := by simp [nbl, h]
theorem nbl_bd {L : List ByteArray} {k : Nat} (h : okn L k) : ∀ v ∈ nbl L k, 0 ≤ v ∧ v ≤ 9999999999 := fun v hv => by
  obtain ⟨i, hi, rfl⟩ := List.mem_map.1 hv
  exact okd_bd (h i (List.mem_range.1 hi))
theorem gol_gof {k : Nat} {t : ByteArray} (h1 : 1 ≤ k) (h7 : k < 7) : gol k (nbl (ags t) (arn k)) = nmg (gof k t) := by
  have n0 : nm 0 = 0 := rfl
  rcases arn_of h1 h7 with ⟨rfl, e⟩ | ⟨rfl, e⟩ | ⟨rfl, e⟩ | ⟨h3, e⟩
  · rw [e]
    unfold gol gof nmg
    rw [if_pos rfl, if_pos rfl, nbl_at (by omega)]
    simp only [n0]
    rfl
  · rw [e]
    unfold gol gof nmg
    rw [if_neg (by omega), if_pos rfl, if_neg (by omega), if_pos rfl, nbl_at (by omega)]
    rfl
  · rw [e]
    unfold gol gof nmg
    rw [if_neg (by omega), if_neg (by omega), if_pos rfl, if_neg (by omega), if_neg (by omega), if_pos rfl, nbl_at (by omega), nbl_at (by omega)]
    rfl
  · rw [e]
    unfold gol gof nmg
    rw [if_neg (by omega), if_neg (by omega), if_neg (by omega), if_neg (by omega), if_neg (by omega), if_neg (by omega), nbl_at (by omega), nbl_at (by omega)]
    simp only [n0]
    rfl
theorem lng_of {t : ByteArray} {k : Nat} (h1 : 1 ≤ k) (h7 : k < 7) (hx : shw k = tx (wds t) 0) (hl : (ags t).length = arn k) (ho : okn (ags t) (arn k)) : Lng t (gof k t) := ⟨k, ⟨h1, h7⟩, hx.symm, hl, ho, rfl⟩
theorem nok_gate {t : ByteArray} {O : List Int} {k : Nat} (ho : tx (wds t) 0 ≠ outB) (hl : (ags t).length = k) (h : ∀ j, 1 ≤ j → j < 7 → shw j = tx (wds t) 0 → k ≠ arn j) : Nok t O := by
  rintro (⟨g, ⟨j, hj, e, e2, _⟩, _⟩ | ⟨x, e, _⟩)
  · exact h j hj.1 hj.2 e.symm (by rw [← hl, e2])
  · exact ho e

theorem cReadLine (B gc : Nat) (t : ByteArray) (ag : Option Addr) (n cg : Nat) (ao : Option Addr) (m co : Nat) (G : List Gt) (O : List Int) (w : World) (hC : Crd w B gc ag n cg ao m co G O) (hBg : B ≤ gc) (hS : Shp w) (ht : t.size ≤ 2048) (hn : n ≤ 3000) (hm : m ≤ 3000) (hob : ∀ x ∈ O, 0 ≤ x ∧ x ≤ 9999999999) :
    Calls Tryz.prog 104 #[.pointer (some ⟨gc, 0, none⟩), .string t] w fun e w' => Rln t B gc n m ag cg ao co G O w e w' := by
  have hwl := (pcs_len t 32 t.size)
  obtain ⟨k, hk⟩ : ∃ k, (wds t).length = k + 1 := ⟨(wds t).length - 1, by unfold wds; omega⟩
  have hkb : k ≤ 2048 := by have := hwl.2; unfold wds at hk; omega
  have HAL : Hid ((ags t).length = k) := by unfold Hid ags; rw [List.length_drop, hk]; rfl
  have HW : Hid ((wds t).length = k + 1) := hk
  have hgcl := hC.box.lt
  have hBw : B ≤ w.heap.size := by omega
  have hRT := rdT_alloc w (wds t) (by omega) (fun x hx => by have := pcs_size t 32 t.size x hx; omega)
  have hb1 : Below w.heap.size w (w.alloc (.cells ((wds t).map Value.string).toArray 9)) := (Below.refl _ _).alloc (Nat.le_refl _) _
  have HOB : Hid (∀ x ∈ O, 0 ≤ x ∧ x ≤ 9999999999) := hob
  rw [hk] at hRT
  clear hob hwl
  go_enter Tryz.func104, Tryz.ntmps104
  go_wp2_with fail
  refine (sSplit t w (by omega)).mono ?_
  rintro e w1 ⟨rfl, hw1⟩
  rw [hk]
  rw [← hw1] at hRT hb1
  clear hw1 hk
  have hC1 := hC.below hb1
  have hS1 := hS.below hb1
  have hRT1 := hRT.sub1
  obtain ⟨b0, o0, hd, hab, hbb, HHd, hds, hc0⟩ := hRT.one (k := 0) (by omega)
  simp only [Option.some.injEq, Addr.mk.injEq, and_true] at hab
  obtain ⟨rfl, rfl⟩ := hab
  simp only [Nat.add_zero] at hc0
  obtain ⟨X, HX⟩ : ∃ X, Hid (subA (some ⟨w.heap.size, 0, none⟩) (k + 1) 1 = X) := ⟨_, rfl⟩
  rw [HX.out, Nat.add_sub_cancel] at hRT1
  have hsl : ∀ W, (Instr.sliceAt 23 (.slice (some ⟨w.heap.size, 0, none⟩) (k + 1) (k + 1)) (some (.int .i64 1)) none none).run Tryz.prog W = .ok (.slice X k k) W := fun W => by
    rw [← HX.out]
    exact run_subl Tryz.underlying23 infoS1r (some ⟨w.heap.size, 0, none⟩) (k + 1) (k + 1) 1 rfl (by omega) W
  have hb1B := hb1.mono hBw
  clear hb1 hC hS
  go_wp2_with fail
  refine (cNumbers X k k (ags t) w1 hRT1 (by omega)).mono ?_
  rintro e w2 ⟨hNm, hb2⟩
  have hC2 := hC1.below hb2
  have hS2 := hS1.below hb2
  have hc02 : w2.cell? ⟨w.heap.size, 0, none⟩ = some (.string hd) := by rw [hb2.cell (World.block_lt_of_cell? w1 _ hc0)]; exact hc0
  have hl02 := World.block_lt_of_cell? w2 _ hc02
  have hb2B := hb1B.trans (hb2.mono (Nat.le_trans hBw hb1B.size))
  have hBw2 : B ≤ w2.heap.size := by have := hb2B.size; omega
  clear hC1 hS1 hb2 hc0 hb1B hRT1 hRT hsl hbb
  rcases hNm with ⟨hno, rfl⟩ | ⟨hok, gn, rfl, hgn, hbl⟩
  · have HN : Hid (Nok t O) := nok_num HAL.out hno
    clear hno
    go_wp2
    go_ret
    exact ⟨.inr (.inr ⟨HN.out, rfl⟩), hb2B⟩
  · have HON : Hid (okn (ags t) k) := hok
    have HBl : Hid (Blk w2 gn (nbl (ags t) k)) := hbl
    have hgl := hbl.lt
    clear hok
    by_cases hout : hd = outB
    · have he : (hd.toList == [111, 117, 116]) = true := by rw [← outB_listR]; exact tl_yes hout
      have HHo : Hid (tx (wds t) 0 = outB) := by unfold Hid; rw [HHd.out]; exact hout
      clear hout
      by_cases hk1 : k = 1
      · subst hk1
        obtain ⟨x0, HX0⟩ : ∃ x, Hid (agn t 0 = x) := ⟨_, rfl⟩
        have hcn := hbl.cell (i := 0) (by rw [nbl_len]; omega)
        rw [nbl_at (by omega), show dgn (tx (ags t) 0) (tx (ags t) 0).size = x0 from HX0.out] at hcn
        have hx0 : 0 ≤ x0 ∧ x0 ≤ 9999999999 := by rw [← HX0.out]; exact ag_bd HON.out (by omega)
        have hwr : IntKind.i64.wrap x0 = x0 := by rw [IntKind.wrap_i64]; omega
        have HL : Hid (Lno t x0) := ⟨HHo.out, HAL.out, HON.out, HX0.out.symm⟩
        have hownD : w2.drew.ownsRow B 3 1 (.slice ao m co) m (zns O) := hC2.ins
        have HGf : Hid (zns O ++ [.int .i64 x0] = zns (O ++ [x0])) := zns_snoc O x0
        have HUP : Hid (∀ g7 c7 w7, w7.ownsRow B 3 1 (.slice (some ⟨g7, 0, none⟩) (m + 1) c7) (m + 1) (zns (O ++ [x0])) → w2.drew.grownBy w7 (Value.slice ao m co).ownBlock →
            ((∃ x, w7.cell? ⟨gc, 1, none⟩ = some x) ∧ w7.frozen? ⟨gc, 1, none⟩ = false) ∧ Crd (w7.setCell ⟨gc, 1, none⟩ (.slice (some ⟨g7, 0, none⟩) (m + 1) c7)) B gc ag n cg (some ⟨g7, 0, none⟩) (m + 1) c7 G (O ++ [x0]) ∧ Below B w (w7.setCell ⟨gc, 1, none⟩ (.slice (some ⟨g7, 0, none⟩) (m + 1) c7))) := fun g7 c7 w7 ho hg => by
          have hCd : Crd w2.drew B gc ag n cg ao m co G O := ⟨hC2.box, hC2.ln, hC2.lo, hC2.own, hC2.ins⟩
          have hb7 := hCd.box.grown hg (box_apart hCd.box hCd.ins eIC)
          exact ⟨⟨⟨_, hb7.cells.2⟩, hb7.frozen 1⟩, hCd.out ho hg, ((hb2B.drew).grown hg (by exact hBw2) (fun q hq => (hCd.ins.lt q hq).1)).setCell (p := ⟨gc, 1, none⟩) hBg _⟩
        obtain ⟨d0, d1⟩ := hC2.box.cells
        have hgc2 := hC2.box.lt
        clear hC2 hS2 hb2B hbl HBl
        go_wp2
        go_region_law (refine step_appZ Tryz.underlying71 infoIt rfl (by decide) (by decide) w2.drew rfl _ _ rfl B _ _ _ rfl hownD [.int .i64 x0] rfl (by intro u hu; simp at hu; subst hu; rfl) rfl rfl (by omega) (by exact hBw2) ?_; intro g7 c7 w7 ho7 hgr7 _; rw [HGf.out] at ho7; obtain ⟨⟨⟨xx, dd⟩, ff⟩, hE⟩ := HUP.out g7 c7 w7 ho7 hgr7; have hl7 := World.block_lt_of_cell? w7 _ dd; have HE : Hid (_ ∧ _) := hE; clear ho7 hgr7 hE)
        all_goals
          clear HUP hownD
          go_wp2
          go_ret
          exact ⟨.inr (.inl ⟨x0, _, _, HL.out, rfl, HE.out.1⟩), HE.out.2⟩
      · have HN : Hid (Nok t O) := nok_out HHo.out (by rw [HAL.out]; exact hk1)
        have hkb1 : ((k : Int) != 1) = true := by rw [bne_iff_ne]; omega
        clear hk1 hC2 hS2 hbl HBl
        go_wp2
        go_ret
        exact ⟨.inr (.inr ⟨HN.out, rfl⟩), hb2B⟩
    · have he : (hd.toList == [111, 117, 116]) = false := by rw [← outB_listR]; exact tl_no hout
      have HHo : Hid (tx (wds t) 0 ≠ outB) := by unfold Hid; rw [HHd.out]; exact hout
      clear hout
      go_wp2_with fail
      refine (cReadGate hd gn k (nbl (ags t) k) w2 hbl (nbl_len _ _) (by omega) (nbl_bd HON.out) hS2).mono ?_
      rintro e w3 ⟨hor, hb3⟩
      have hC3 := hC2.below hb3
      have hb3B := hb2B.trans (hb3.mono hBw2)
      have hBw3 : B ≤ w3.heap.size := by have := hb3.size; omega
      clear hC2 hS2 hb3 hbl HBl hb2B hc02 hl02 he
      rcases hor with ⟨q, hq1, hq7, hqx, hqn, rfl⟩ | ⟨hno, rfl⟩
      · obtain ⟨GG, HGG⟩ : ∃ g, Hid (gol q (nbl (ags t) k) = g) := ⟨_, rfl⟩
        have HLg : Hid (Lng t (gof q t)) := by
          refine lng_of hq1 hq7 (hqx.trans HHd.out.symm) (by rw [HAL.out]; exact hqn) ?_
          rw [← hqn]
          exact HON.out
        have HGE : Hid (GG = nmg (gof q t)) := by unfold Hid; rw [← HGG.out, hqn]; exact gol_gof hq1 hq7
        rw [HGG.out]
        obtain ⟨gk, ga, gb, gn'⟩ := GG
        unfold gcell
        simp only
        have hbA : Below w3.heap.size w3 (w3.alloc (.cells #[.int .i64 gk, .int .i64 ga, .int .i64 gb, .int .u64 gn'] 112)) := (Below.refl _ _).alloc (Nat.le_refl _) _
        have hP := Gbx.new w3 gk ga gb gn'
        have hC4 := hC3.below hbA
        have hb4B := hb3B.trans (hbA.mono hBw3)
        clear hqx hqn hq1 hq7 hC3 hb3B
        go_upto_region 11 with fail
        generalize w3.alloc (.cells #[.int .i64 gk, .int .i64 ga, .int .i64 gb, .int .u64 gn'] 112) = w4 at *
        have hBw4 : B ≤ w4.heap.size := by have := hbA.size; omega
        obtain ⟨d0, d1⟩ := hC4.box.cells
        obtain ⟨p0, p1, p2, p3⟩ := hP.cells
        have pl := hP.lt
        have hgc4 := hC4.box.lt
        clear hbA
        by_cases hm0 : m = 0
        · subst hm0
          have HO : Hid (O = []) := List.length_eq_zero_iff.1 hC4.lo
          have hownD : w4.drew.ownsRow B 112 4 (.slice ag n cg) n (gcs G) := hC4.own
          have HGf : Hid (gcs G ++ [.int .i64 gk, .int .i64 ga, .int .i64 gb, .int .u64 gn'] = gcs (G ++ [⟨gk, ga, gb, gn'⟩])) := gcs_snoc G ⟨gk, ga, gb, gn'⟩
          have HUP : Hid (∀ g7 c7 w7, w7.ownsRow B 112 4 (.slice (some ⟨g7, 0, none⟩) (n + 1) c7) (n + 1) (gcs (G ++ [⟨gk, ga, gb, gn'⟩])) → w4.drew.grownBy w7 (Value.slice ag n cg).ownBlock →
              ((∃ x, w7.cell? ⟨gc, 0, none⟩ = some x) ∧ w7.frozen? ⟨gc, 0, none⟩ = false) ∧ Crd (w7.setCell ⟨gc, 0, none⟩ (.slice (some ⟨g7, 0, none⟩) (n + 1) c7)) B gc (some ⟨g7, 0, none⟩) (n + 1) c7 ao 0 co (G ++ [⟨gk, ga, gb, gn'⟩]) O ∧ Below B w (w7.setCell ⟨gc, 0, none⟩ (.slice (some ⟨g7, 0, none⟩) (n + 1) c7))) := fun g7 c7 w7 ho hg => by
            have hCd : Crd w4.drew B gc ag n cg ao 0 co G O := ⟨hC4.box, hC4.ln, hC4.lo, hC4.own, hC4.ins⟩
            have hb7 := hCd.box.grown hg (box_apart hCd.box hCd.own eGC)
            exact ⟨⟨⟨_, hb7.cells.1⟩, hb7.frozen 0⟩, hCd.gate ho hg, ((hb4B.drew).grown hg (by exact hBw4) (fun q hq => (hCd.own.lt q hq).1)).setCell (p := ⟨gc, 0, none⟩) hBg _⟩
          clear hC4 hb4B hP
          go_wp2
          go_region_law (refine step_appZ Tryz.underlying70 infoGt rfl (by decide) (by decide) w4.drew rfl _ _ rfl B _ _ _ rfl hownD [.int .i64 gk, .int .i64 ga, .int .i64 gb, .int .u64 gn'] rfl (by intro u hu; simp at hu; rcases hu with rfl | rfl | rfl | rfl <;> rfl) rfl rfl (by omega) (by exact hBw4) ?_; intro g7 c7 w7 ho7 hgr7 _; rw [HGf.out] at ho7; obtain ⟨⟨⟨xx, dd⟩, ff⟩, hE⟩ := HUP.out g7 c7 w7 ho7 hgr7; have hl7 := World.block_lt_of_cell? w7 _ dd; have HE : Hid (_ ∧ _) := hE; clear ho7 hgr7 hE)
          all_goals
            clear HUP hownD
            go_wp2
            go_ret
            exact ⟨.inl ⟨gof q t, _, _, HLg.out, HO.out, rfl, by rw [← HGE.out]; exact HE.out.1⟩, HE.out.2⟩
        · have HN : Hid (Nok t O) := nok_outs HHo.out (fun e => hm0 (by rw [← hC4.lo, e]; rfl))
          have hmp : (0 : Int) < (m : Int) := by omega
          clear hm0
          go_wp2
          go_ret
          exact ⟨.inr (.inr ⟨HN.out, rfl⟩), hb4B⟩
      · have HN : Hid (Nok t O) := nok_gate HHo.out HAL.out (fun j h1 h7 e => hno j h1 h7 (e.trans HHd.out))
        have hbA : Below w3.heap.size w3 (w3.alloc (.cells #[.int .i64 0, .int .i64 0, .int .i64 0, .int .u64 0] 112)) := (Below.refl _ _).alloc (Nat.le_refl _) _
        have hb4B := hb3B.trans (hbA.mono hBw3)
        unfold gcell
        simp only
        clear hno hC3 hb3B
        go_wp2
        go_ret
        exact ⟨.inr (.inr ⟨HN.out, rfl⟩), hb4B⟩
end
end Go.Proofs.YtljlioglpaogdafGreatDoor
