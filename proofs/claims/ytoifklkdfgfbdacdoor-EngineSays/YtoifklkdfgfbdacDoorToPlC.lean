/- engine.Run. · croftref.Played: the switch, at sums and differences. · croftref.Played: the switch, at multiples and constants. -/
import Derived.Test.YtoifklkdfgfbdacDoorToShpM
import Derived.Test.YtoifklkdfgfbdacDoorToEnN
import Derived.Deep.RegionWith
import Derived.Test.YtoifklkdfgfbdacDoorToEnDef
import Derived.Deep.RegionLaw
import Derived.Deep.DeepCutAuto
namespace Go.Proofs.YtoifklkdfgfbdacDoor
open Go.RowKit Crm

theorem infoVs2 : (Tryd.prog.info? 31).map (fun i => (i.zero, i.size, i.bytes)) = some (some (.slice none 0 0), 1, 24) := by kernel_rfl

set_option maxRecDepth 100000 in
set_option maxHeartbeats 8000000 in
theorem eRun (ag : Option Addr) (N cg : Nat) (G : List Gt) (ao : Option Addr) (m co : Nat) (O : List Int) (n t : Int) (ai : Option Addr) (q ca : Nat) (ins : List Int) (ad : Option Addr) (d cd : Nat) (ds : List Int) (w : World) (h : RdG w ag N cg G) (g : RdI w ao m co O) (ih : Rd w ai q ca ins) (dh : Rd w ad d cd ds) (hn : -9223372036854775808 ≤ n ∧ n ≤ 9223372036854775807) (ht : -9223372036854775808 ≤ t ∧ t ≤ 9223372036854775807) (hS : Shp w) :
    Calls Tryd.prog 13 #[.agg #[.slice ag N cg, .slice ao m co], .int .i64 n, .int .i64 t, .slice ai q ca, .slice ad d cd] w (Enr G O ins ds N m n t q d w) := by
  have hC0 := CBox.new w ag N cg ao m co
  have hb0 : Below w.heap.size w (w.alloc (.cells #[.slice ag N cg, .slice ao m co] 25)) := (Below.refl _ _).alloc (Nat.le_refl _) _
  have hqc := ih.cap
  have hqm := ih.max
  have hdc := dh.cap
  have hdm := dh.max
  unfold maxLen at hqm hdm
  go_enter Tryd.func13, Tryd.ntmps13
  go_wp2_with fail
  generalize w.alloc (.cells #[.slice ag N cg, .slice ao m co] 25) = w0 at *
  refine (eNeed _ _ _ _ _ _ _ _ _ _ _ (h.below hb0) (g.below hb0) hn ht (hS.below hb0)).mono ?_
  rintro e w1 ⟨⟨r, hr, hE, rfl⟩ | ⟨hE, rfl⟩, hb1'⟩
  · have HE : Hid (Ere G O N m n t q d r) := .inl ⟨hr, hE⟩
    have hb1 := hb0.trans (hb1'.mono hb0.size)
    clear hE hb1' hC0 hb0
    go_wp2
    go_ret3
    exact ⟨.inl ⟨r, hr, HE.out, rfl⟩, hb1⟩
  · have hb1 := hb0.trans (hb1'.mono hb0.size)
    have hC1 := hC0.below hb1' hC0.lt
    obtain ⟨d0, d1⟩ := hC1.cells
    clear hC0 hb1' hb0
    obtain ⟨c1, c2⟩ := hE.ok
    have hN := c1.ok.1
    have hm := c1.ok.2.1
    have HG : Hid (okG G N) := c1.ok.2.2.1
    have HO : Hid (okO O N m) := c1.ok.2.2.2
    have HCK : Hid (Cke G O N m 0) := c1
    obtain ⟨o1, o2, o3, _⟩ := c2
    obtain ⟨n, rfl⟩ : ∃ n' : Nat, n = n' := ⟨n.toNat, by omega⟩
    obtain ⟨t, rfl⟩ : ∃ t' : Nat, t = t' := ⟨t.toNat, by omega⟩
    have HE : Hid (Nde G O N m n t 0) := hE
    have HWB : Hid (∀ x ∈ whl G N, -9223372036854775808 ≤ x ∧ x ≤ 9223372036854775807) := whl_bd (fun i hi => (h.bd i hi).2.1) N (Nat.le_refl _)
    have hdl := dwn_le G (n := n) (t := t) (by omega) (by omega) N
    have hcl := ci_le G N
    rw [Int.toNat_natCast, Int.toNat_natCast] at *
    clear hE c1
    go_wp2_with fail
    refine (cInputs _ _ _ _ _ _ _ _ _ (h.below hb1) (g.below hb1) (hS.below hb1)).mono ?_
    rintro e w2 ⟨⟨r, hr, hE, _⟩ | ⟨_, v, rfl, hown⟩, hb2'⟩
    · exact absurd (hE.one HCK.out) hr
    obtain ⟨a6, c6, rfl, hr6⟩ := RdI.own hown HWB.out
    have hb2 := hb1.trans (hb2'.mono hb1.size)
    have hC2 := hC1.below hb2' hC1.lt
    obtain ⟨e0, e1⟩ := hC2.cells
    have hc6 := hr6.cap
    have hm6 := hr6.max
    unfold maxLen at hm6
    obtain ⟨l, HL⟩ : ∃ l, Hid (ci G N = l) := ⟨_, rfl⟩
    obtain ⟨D, HD⟩ : ∃ D, Hid (dwn G n t N = D) := ⟨_, rfl⟩
    rw [HL.out] at hr6 hc6 hcl ⊢
    rw [HD.out] at hdl ⊢
    clear hb1 hC1 hown hb2' d0 d1
    by_cases hq : q = l
    · subst hq
      by_cases hd : d = D
      · subst hd
        obtain ⟨i0, hi0, hz0, hz1, hz2⟩ := info_parts infoVs2
        have hn1 : 1 ≤ n := by omega
        have hn9 : n ≤ 9 := by omega
        have hnt : 2 * t + 1 ≤ n := by omega
        have hl2 := hC2.lt
        go_upto_region 10 with (at_make; refine wpList_make_full _ rfl _ _ 37 rfl w2.heap.size 31 i0 (.slice none 0 0) 1 Tryd.underlying37 hi0 hz0 hz1 .i64 .i64 _ _ n rfl rfl (by omega) (by omega) (by rw [hz2]; omega) (by unfold maxLen; omega) (Nat.le_refl _) ?_; intro w3 hown hgrow)
        have hb3 : Below w2.heap.size w2 w3 := (Below.refl _ _).grown hgrow (Nat.le_refl _) (by simp)
        have hL3 := lsv_made hown
        have z0 : List.replicate n ([] : List Int) = sgl G n t ins ds 0 := by
          apply List.ext_getElem?
          intro i
          by_cases hi : i < n
          · simp [sgl, sng, hi]
          · simp [sgl, hi]
        rw [z0] at hL3
        have hbA : Below w3.heap.size w3 (w3.alloc (.cells #[.int .i64 (n : Int), .int .i64 (t : Int), .slice ai q ca, .slice ad d cd, .slice none 0 0, .slice (some ⟨w2.heap.size, 0, none⟩) n n] 72)) := (Below.refl _ _).alloc (Nat.le_refl _) _
        have hg3 : w2.heap.size < w3.heap.size := (hL3.cell (sgl_len _ _ _ _ _ _) (q := 0) (by omega)).2.2
        have hP4 : PSt w2 (w3.alloc (.cells #[.int .i64 (n : Int), .int .i64 (t : Int), .slice ai q ca, .slice ad d cd, .slice none 0 0, .slice (some ⟨w2.heap.size, 0, none⟩) n n] 72)) w3.heap.size w2.heap.size n t (.slice ai q ca) (.slice ad d cd) (List.replicate n (.slice none 0 0)) (sgl G n t ins ds 0) (.slice none 0 0) [] (ewr G n t ins ds 0) (w2.heap.size + 1) (w2.heap.size + 1) :=
          ⟨⟨hL3.below hbA, sgl_len _ _ _ _ _ _, lsv_nil _ _, apt_rep n [], by simp [Value.ownBlock], fun p _ gg _ => by omega, by omega, Nat.le_trans hg3 hbA.size, hb3.trans (hbA.mono hb3.size)⟩, PBox.new _ _ _ _ _ _ _, hb3.size⟩
        have hV1 : Lft w2 ins q (ci G 0) (.slice ai q ca) := ⟨ai, ca, by rw [ci_zero, Nat.sub_zero], by rw [ci_zero, Nat.sub_zero]; exact ih.below hb2⟩
        have hV2 : Lft w2 ds d (dwn G n t 0) (.slice ad d cd) := ⟨ad, cd, rfl, by show Rd w2 ad d cd ds; exact dh.below hb2⟩
        have hC4 := (hC2.below hb3 hl2).below hbA (Nat.lt_of_lt_of_le hl2 hb3.size)
        generalize w3.alloc (.cells #[.int .i64 (n : Int), .int .i64 (t : Int), .slice ai q ca, .slice ad d cd, .slice none 0 0, .slice (some ⟨w2.heap.size, 0, none⟩) n n] 72) = w4 at *
        obtain ⟨j0, j1⟩ := hC4.cells
        have hl4 := hC4.lt
        have hcap := h.cap
        have gcap := g.cap
        have HH : Hid (RdG w ag N cg G) := h
        have HGG : Hid (RdI w ao m co O) := g
        have HB2 : Hid (Below w.heap.size w w2) := hb2
        clear hown hgrow hL3 z0 hbA hb3 e0 e1 h g ih dh hS hr6
        obtain ⟨gp, HGP⟩ : ∃ gp, Hid (w3.heap.size = gp) := ⟨_, rfl⟩
        rw [HGP.out] at hP4 ⊢
        clear HGP hg3
        go_wp2
        go_loopw [57] (fun v wq => ∃ (i : Nat) (vi vd : Value) (Ls LW : List Value) (lo hi cW : Nat) (aW : Option Addr), i ≤ N ∧ v = .int .i64 i ∧ PSt w2 wq gp w2.heap.size n t vi vd Ls (sgl G n t ins ds i) (.slice aW i cW) LW (ewr G n t ins ds i) lo hi ∧ Hid (Lft w2 ins q (ci G i) vi) ∧ Hid (Lft w2 ds d (dwn G n t i) vd)) (fun v _ => N - (intOf v).toNat)
        case atStart => exact ⟨0, _, _, _, [], _, _, 0, none, Nat.zero_le _, rfl, hP4, hV1, hV2⟩
        case round =>
          clear hP4 hV1 hV2 j0 j1 hl4 hC4
          obtain ⟨i, vi, vd, Ls, LW, lo, hi, cW, aW, hiN, rfl, hP, HV1, HV2⟩ := hrel
          by_cases hlt : i < N
          · obtain ⟨b, o, k, x, y, z, rfl, hbb, HGi, hk, hx, hy, hz, k1, k2, k3, k4⟩ := (HH.out.below (HB2.out.trans (hP.sen.bel.mono HB2.out.size))).one hlt
            have hbA : Below wr.heap.size wr (wr.alloc (.cells #[.int .i64 k, .int .i64 x, .int .i64 y, .int .u64 z] 58)) := (Below.refl _ _).alloc (Nat.le_refl _) _
            obtain ⟨q1, q2, q3, q4⟩ := gate_box wr k x y z 58
            have hltA : wr.heap.size < (wr.alloc (.cells #[.int .i64 k, .int .i64 x, .int .i64 y, .int .u64 z] 58)).heap.size := by simp
            have hPA := hP.below hbA
            have hok := HG.out i hlt
            rw [HGi.out] at hok
            go_upto_region 13 with fail
            generalize wr.alloc (.cells #[.int .i64 k, .int .i64 x, .int .i64 y, .int .u64 z] 58) = W at *
            have hPD := hPA.drew
            obtain ⟨_, _, _, _, f4, _⟩ := hPA.box.cells
            have hlp := hPA.box.lt
            have HR : Hid (∀ u w5, Pgt G n t ins ds q d w2 gp w2.heap.size i (.slice aW i cW) LW u w5 → (∃ a c, u = .slice a n c) ∧ w5.ownsRow w2.heap.size 31 1 (.slice aW i cW) i LW ∧ w5.cell? ⟨gp, 4, none⟩ = some (.slice aW i cW) ∧ gp < w5.heap.size ∧ w2.heap.size ≤ w5.heap.size) := fun u w5 hp => by
              obtain ⟨vi', vd', Ls', lo', hi', hP', _, _, hu, _, _⟩ := hp
              obtain ⟨a', c', e', _⟩ := own_slice hu
              have ho' := hP'.sen.wires.own
              rw [ewr_len] at ho'
              exact ⟨⟨a', c', e'⟩, ho', hP'.box.cells.2.2.2.2.1, hP'.box.lt, hP'.sen.bel.size⟩
            clear hP hPA k1 k2 k3 k4 hbA hbb
            go_region_law (first | (refine step_appVL Tryd.underlying37 infoVs2 rfl (by decide) w5 rfl _ _ rfl w2.heap.size (.slice aW i cW) i LW (by simp [Act.eval]) hwo (.slice ua n uc) rfl (by simp [Act.eval]) rfl (by omega) hs5 ?_; intro g7 cap7 w7 ho7 hgr7 hat7; obtain ⟨⟨xx, dd⟩, ff, hl7, HNX⟩ := Pgt.next HPG.out (by omega) ho7 hgr7 hat7; have HNX2 : Hid _ := HNX; clear HNX ho7 hgr7 hat7) | (go_simp; go_at_call 34; refine (eReckon hPD HV1.out HV2.out HGi hok hz hlt hN.2 HL.out.symm HD.out.symm hnt hn9).mono ?_; rintro en w5 ⟨u, rfl, hPg⟩; have HPG : Hid (Pgt G n t ins ds q d w2 gp w2.heap.size i (.slice aW i cW) LW u w5) := hPg; clear hPg; obtain ⟨⟨ua, uc, rfl⟩, hwo, f5, hl5, hs5⟩ := HR.out u w5 HPG.out))
            all_goals
              obtain ⟨vi', vd', Ls', lo', hi', hP', l1, l2⟩ := HNX2.out
              clear HNX2 HPG hwo f5 hl5 hs5 HR hPD q1 q2 q3 q4 hltA f4 hlp dd ff hl7
              go_wp2
              go_roundw
              case rel => exact ⟨i + 1, vi', vd', Ls', _, lo', hi', cap7, _, by omega, by go_num, hP', l1, l2⟩
              case measure => simp [intOf]; omega
          · have hiN2 : i = N := by omega
            subst hiN2
            obtain ⟨i1, hi1, hy0, hy1, hy2⟩ := info_parts info43
            obtain ⟨wo, hwo⟩ : ∃ x, x = wr := ⟨_, rfl⟩
            subst hwo
            rw [snl_zero G O] at hP
            have hCo := hC2.below hP.sen.bel hl2
            obtain ⟨j0, j1⟩ := hCo.cells
            have hlo := hCo.lt
            obtain ⟨F, HF⟩ : ∃ F : Nat → Int, Hid ((fun j => wi G ins (O.getD j 0).toNat) = F) := ⟨_, rfl⟩
            go_upto_region 16 with (at_make; refine wpList_make_full _ rfl _ _ 31 rfl wo.heap.size 43 i1 (.int .u64 0) 1 Tryd.underlying31 hi1 hy0 hy1 .i64 .i64 _ _ m rfl rfl (by omega) (by omega) (by rw [hy2]; omega) (by unfold maxLen; omega) (Nat.le_refl _) ?_; intro w6 hown hgrow)
            have hb6 : Below wo.heap.size wo w6 := (Below.refl _ _).grown hgrow (Nat.le_refl _) (by simp)
            have hP6 := hP.fresh (by omega) hb6
            have ho6 : w6.ownsRow wo.heap.size 43 1 (.slice (some ⟨wo.heap.size, 0, none⟩) m m) m ((fil F m 0).map (Value.int .u64)) := by
              have e : (Value.int .u64 0).cells = #[Value.int .u64 0] := rfl
              rw [e, Nat.mul_one, toList_madeCells_one] at hown
              rw [← fil_zero, List.map_replicate]
              exact hown
            have HBt : Hid (Btw wo.heap.size w6.heap.size (.slice (some ⟨wo.heap.size, 0, none⟩) m m)) := fun b hb => ho6.lt b hb
            have hgt : wo.heap.size < w6.heap.size := (ho6.lt _ rfl).2
            have HLW : Hid (∀ p b, (LW.getD p (.slice none 0 0)).ownBlock = some b → b < wo.heap.size) := fun p b hb => (hP.sen.wires.blk p b hb).2
            have hwo2 : w2.heap.size ≤ wo.heap.size := hP.sen.bel.size
            obtain ⟨H6, HH6⟩ : ∃ H6, Hid (w6.heap.size = H6) := ⟨_, rfl⟩
            rw [HH6.out] at hP6 HBt hgt
            have hC6 := hCo.below hb6 hlo
            obtain ⟨l0, l1⟩ := hC6.cells
            have hl6 := hC6.lt
            clear hown hgrow hb6 hP hCo j0 j1 hlo HV1 HV2
            go_wp2
            go_loopw [76] (fun v wq => ∃ (j : Nat) (Ls : List Value), j ≤ m ∧ v = .int .i64 j ∧ PSt w2 wq gp w2.heap.size n t vi vd Ls (snl G O n t ins ds i j) (.slice aW i cW) LW (ewr G n t ins ds i) wo.heap.size H6 ∧ wq.ownsRow wo.heap.size 43 1 (.slice (some ⟨wo.heap.size, 0, none⟩) m m) m ((fil F m j).map (Value.int .u64))) (fun v _ => m - (intOf v).toNat)
            case atStart => exact ⟨0, Ls, Nat.zero_le _, rfl, hP6, ho6⟩
            case round =>
              clear hP6 ho6 l0 l1 hl6 hC6
              obtain ⟨j, Ls, hj, rfl, hP, ho⟩ := hrel
              by_cases hjm : j < m
              · obtain ⟨bo, oo, xo, rfl, hbo, HXo, hxo0, hxo1, hco⟩ := (HGG.out.below (HB2.out.trans (hP.sen.bel.mono HB2.out.size))).one hjm
                have hxo := HO.out j hjm
                rw [HXo.out] at hxo
                obtain ⟨po, rfl⟩ : ∃ p : Nat, xo = p := ⟨xo.toNat, by omega⟩
                have hpo : po < i := by omega
                have hpo0 : (0 : Int) ≤ (po : Int) := by omega
                have hpoi : (po : Int) < (i : Int) := by omega
                have hj0 : (0 : Int) ≤ (j : Int) := by omega
                have hjmi : (j : Int) < (m : Int) := by omega
                have HEX : Hid ((fun _ : Nat => ew G n t ins ds (O.getD j 0).toNat) = fun _ => ew G n t ins ds po) := by unfold Hid; rw [HXo.out]; rfl
                have HFj : Hid (wi G ins po = F j) := by unfold Hid; rw [← HF.out]; show _ = wi G ins (O.getD j 0).toNat; rw [HXo.out]; rfl
                rw [snl_first, HEX.out] at hP
                obtain ⟨gW, a3, c3, rfl, hgW, eg, el, r3⟩ := hP.wire hpo
                obtain ⟨_, _, _, _, f4, _⟩ := hP.box.cells
                have hlp := hP.box.lt
                have hsb : ∀ p, (sno G O n t ins ds i j p).length ≤ 5000 := fun p => by have := sno_bound G O n t ins ds i j p hn9; omega
                go_wp2_with fail
                refine (eOpen hP hpo el HG.out hsb hnt hn9).mono ?_
                rintro e w8 ⟨rfl, ⟨Ls', hP8⟩, hK⟩
                have ho8 := hK _ _ _ _ _ _ ho HBt.out
                rw [HFj.out]
                obtain ⟨g8, u8, eg8, _, hl8, _, d8⟩ := own_at ho8 hjm
                simp only [Option.some.injEq, Addr.mk.injEq, and_true] at eg8
                subst eg8
                have f8 := own_frozen ho8 j
                have hP9 := hP8.aside HLW.out ho8 (Nat.le_refl _) hgt hwo2 (grown_set w8 wo.heap.size j (.int .u64 (F j)))
                have ho9 := own_set ho8 j (.int .u64 (F j))
                rw [← List.map_set, fil_set rfl] at ho9
                rw [← HEX.out, snl_next] at hP9
                clear hP hP8 ho ho8 hK hco hbo eg r3 f4 hlp hgW hsb
                go_wp2
                go_roundw
                case rel => exact ⟨j + 1, Ls', by omega, by go_num, hP9, ho9⟩
                case measure => simp [intOf]; omega
              · have hjm2 : j = m := by omega
                subst hjm2
                have HOT : Hid (fil F j j = otl G O ins j) := by unfold Hid; rw [fil_full, ← HF.out]; rfl
                rw [HOT.out] at ho
                obtain ⟨a7, c7, e7, r7, _⟩ := Rd.own ho (bd_u64 (otl_bd G O ins j))
                simp only [Value.slice.injEq, true_and] at e7
                obtain ⟨rfl, rfl⟩ := e7
                obtain ⟨a8, c8, e8, r8⟩ := snl_rd hP.sen.seen
                simp only [Value.slice.injEq, true_and] at e8
                obtain ⟨rfl, rfl⟩ := e8
                have hbw := HB2.out.trans (hP.sen.bel.mono HB2.out.size)
                obtain ⟨_, _, _, _, _, f5⟩ := hP.box.cells
                have hlp := hP.box.lt
                have r8D : RdR wr.drew (some ⟨w2.heap.size, 0, none⟩) n n (snl G O n t ins ds i j) := r8.below ((Below.refl _ _).drew)
                have r7D : Rd wr.drew (some ⟨wo.heap.size, 0, none⟩) j j (otl G O ins j) := r7.drew
                have hbD := hbw.drew
                clear hP ho r7 r8
                go_wp2
                go_region
                all_goals
                  go_wp2
                  go_ret3
                  exact ⟨.inr ⟨.inr ⟨HE.out, .inr ⟨HL.out.symm, .inr ⟨HD.out.symm, rfl⟩⟩⟩, _, _, _, _, rfl, r7D, r8D⟩, hbD⟩
      · go_wp2
        go_ret3
        exact ⟨.inl ⟨1, by decide, .inr ⟨HE.out, .inr ⟨HL.out.symm, .inl ⟨fun e => hd (e.trans HD.out), rfl⟩⟩⟩, rfl⟩, hb2⟩
    · go_wp2
      go_ret3
      exact ⟨.inl ⟨5, by decide, .inr ⟨HE.out, .inl ⟨fun e => hq (e.trans HL.out), rfl⟩⟩, rfl⟩, hb2⟩
end Go.Proofs.YtoifklkdfgfbdacDoor

namespace Go.Proofs.YtoifklkdfgfbdacDoor
open Go.RowKit Crm

set_option linter.unusedVariables false in
set_option maxRecDepth 100000 in
set_option maxHeartbeats 20000000 in
theorem plAdd {G : List Gt} {n t : Nat} {ins ds : List Int} {w W : World} {gs i N q ca d cd cW gb D C : Nat} {Ls LW : List Value} {ai ad aW : Option Addr} {x y z : Int}
    (hS : Sen w W gs n Ls (sgl G n t ins ds i) (.slice aW i cW) LW (ewr G n t ins ds i) (gs + 1) (gs + 1)) (ih : Rd W ai q ca ins) (dh : Rd W ad d cd ds) (q2 : W.cell? ⟨gb, 1, none⟩ = some (.int .i64 x)) (q3 : W.cell? ⟨gb, 2, none⟩ = some (.int .i64 y)) (q4 : W.cell? ⟨gb, 3, none⟩ = some (.int .u64 z)) (hgb : gb < W.heap.size)
    (HGi : Hid (gt G i = ⟨3, x, y, z⟩)) (hz : 0 ≤ z ∧ z ≤ 18446744073709551615) (hn : 2 * t + 1 ≤ n) (hn9 : n ≤ 9) (HD : Hid (dwn G n t i = D)) (HC : Hid (ci G i = C)) (hiN : i < N) (hN : N ≤ 30) (HDN : Hid (dwn G n t N = d)) (HCN : Hid (ci G N = q))
    (hx : 0 ≤ x ∧ x < (i : Int)) (hy : 0 ≤ y ∧ y < (i : Int))
    {K' K1 K2 K3 : Act → World → Prop} {R : Ending → World → Prop} {u0 u5 u6 u7 u8 u9 u10 u11 u16 u19 u20 u21 u22 u23 u24 u25 u26 u27 u28 u29 u30 u31 u32 u33 u34 u35 u36 u37 u38 u39 u41 u42 u43 u44 u45 u46 u47 u48 u49 u50 u51 u52 u53 u54 u55 u56 u57 u58 u59 u60 u61 u62 u63 u64 u65 u66 u67 u68 u69 u70 u71 u72 u73 u74 u75 u76 u77 u78 u79 u80 u81 u82 u83 u84 u85 u86 u87 u88 u89 u90 u91 u92 u93 u94 u95 u96 u97 u98 u99 u100 u101 u102 u103 u104 u105 u106 u107 u108 u109 u110 u111 u112 u113 u114 u115 u116 u117 u118 u119 u120 u121 u122 u123 u124 u125 u126 u127 u128 u129 u130 u131 u132 u133 u134 u135 u136 u137 u138 u139 u140 u141 u142 u143 u144 u145 u146 u147 u148 u149 u150 u151 u152 u153 u154 u155 u156 u157 u158 u159 u160 u161 u162 u163 u164 u165 u166 u167 u168 u169 u170 u171 u172 u173 u174 u175 u176 u177 u178 u179 u180 u181 u182 u183 u184 u185 u186 u187 u188 u189 u190 u191 u192 u193 u194 u195 u196 u197 u198 u199 u200 u201 u202 u203 u204 u205 u206 u207 u208 u209 u210 u211 u212 u213 u214 : Value}
    (hK : Hid (∀ (u : Value) (v19 v20 v21 v22 v41 v42 v43 v44 v45 v46 v47 v48 v49 v50 v51 v52 v53 v54 v55 v56 v57 v58 v59 v60 v61 v62 v63 v64 v65 v66 v67 v68 v69 v70 v71 v72 v73 v74 v75 v76 v77 v78 v79 v80 v81 v82 v83 v84 v85 v86 v87 v88 v89 v90 v91 v92 v93 v94 v95 v96 v97 v98 v99 v100 v101 v102 v103 v104 v105 v106 v107 v108 v109 v110 v111 v112 v113 v114 v115 v116 v117 v118 v119 v120 v121 v122 v123 v124 v125 v126 v127 v128 v129 v130 v131 v132 v133 v134 v135 v136 v137 v138 v139 v140 v141 v142 v143 v144 v145 v146 v147 v148 v149 v150 v151 v152 v153 v154 v155 v156 v157 v158 v159 v160 v161 v162 v163 v164 v165 v166 v167 v168 v169 v170 v171 v172 v173 v174 v175 v176 v177 v178 : Value) (w' : World), Psw G n t ins ds w gs i (.slice aW i cW) LW u w' → K' ⟨#[u0, .int .i64 (n : Int), .int .i64 (t : Int), .slice ai q ca, .slice ad d cd, u5, u6, u7, u8, u9, u10, u11, .slice (some ⟨gs, 0, none⟩) n n, .slice aW i cW, .int .i64 ((D : Int)), .int .i64 ((C : Int)), u16, .pointer (some ⟨gb, 0, none⟩), u, v19, v20, v21, v22, u23, u24, u25, u26, u27, u28, u29, u30, u31, u32, u33, u34, u35, u36, u37, u38, u39, .int .i64 3, v41, v42, v43, v44, v45, v46, v47, v48, v49, v50, v51, v52, v53, v54, v55, v56, v57, v58, v59, v60, v61, v62, v63, v64, v65, v66, v67, v68, v69, v70, v71, v72, v73, v74, v75, v76, v77, v78, v79, v80, v81, v82, v83, v84, v85, v86, v87, v88, v89, v90, v91, v92, v93, v94, v95, v96, v97, v98, v99, v100, v101, v102, v103, v104, v105, v106, v107, v108, v109, v110, v111, v112, v113, v114, v115, v116, v117, v118, v119, v120, v121, v122, v123, v124, v125, v126, v127, v128, v129, v130, v131, v132, v133, v134, v135, v136, v137, v138, v139, v140, v141, v142, v143, v144, v145, v146, v147, v148, v149, v150, v151, v152, v153, v154, v155, v156, v157, v158, v159, v160, v161, v162, v163, v164, v165, v166, v167, v168, v169, v170, v171, v172, v173, v174, v175, v176, v177, v178, u179, u180, u181, u182, u183, u184, u185, u186, u187, u188, u189, u190, u191, u192, u193, u194, u195, u196, u197, u198, u199, u200, u201, u202, u203, u204, u205, u206, u207, u208, u209, u210, u211, u212, u213, u214], []⟩ w')) :
    Code.wp Tryd.prog SWp (Exit.then K' (Exit.inBlock 1 (Exit.then K1 (Exit.then K2 (Exit.inBlock 0 (Exit.then K3 (bodyPost Tryd.prog Tryd.f12 R))))))) ⟨#[u0, .int .i64 (n : Int), .int .i64 (t : Int), .slice ai q ca, .slice ad d cd, u5, u6, u7, u8, u9, u10, u11, .slice (some ⟨gs, 0, none⟩) n n, .slice aW i cW, .int .i64 (D : Int), .int .i64 (C : Int), u16, .pointer (some ⟨gb, 0, none⟩), .slice none 0 0, u19, u20, u21, u22, u23, u24, u25, u26, u27, u28, u29, u30, u31, u32, u33, u34, u35, u36, u37, u38, u39, .int .i64 3, u41, u42, u43, u44, u45, u46, u47, u48, u49, u50, u51, u52, u53, u54, u55, u56, u57, u58, u59, u60, u61, u62, u63, u64, u65, u66, u67, u68, u69, u70, u71, u72, u73, u74, u75, u76, u77, u78, u79, u80, u81, u82, u83, u84, u85, u86, u87, u88, u89, u90, u91, u92, u93, u94, u95, u96, u97, u98, u99, u100, u101, u102, u103, u104, u105, u106, u107, u108, u109, u110, u111, u112, u113, u114, u115, u116, u117, u118, u119, u120, u121, u122, u123, u124, u125, u126, u127, u128, u129, u130, u131, u132, u133, u134, u135, u136, u137, u138, u139, u140, u141, u142, u143, u144, u145, u146, u147, u148, u149, u150, u151, u152, u153, u154, u155, u156, u157, u158, u159, u160, u161, u162, u163, u164, u165, u166, u167, u168, u169, u170, u171, u172, u173, u174, u175, u176, u177, u178, u179, u180, u181, u182, u183, u184, u185, u186, u187, u188, u189, u190, u191, u192, u193, u194, u195, u196, u197, u198, u199, u200, u201, u202, u203, u204, u205, u206, u207, u208, u209, u210, u211, u212, u213, u214], []⟩ W := by
  conv => arg 2; whnf
  obtain ⟨pa, rfl⟩ : ∃ p : Nat, x = p := ⟨x.toNat, by omega⟩
  have hpa : pa < i := by omega
  obtain ⟨pb, rfl⟩ : ∃ p : Nat, y = p := ⟨y.toNat, by omega⟩
  have hpb : pb < i := by omega
  have hnb := hS.bel.size
  obtain ⟨gW, a1, c1, rfl, hgW, e1, r1⟩ := hS.wire hpa
  obtain ⟨gW', a2, c2, e', _, e2, r2⟩ := hS.wire hpb
  simp only [Option.some.injEq, Addr.mk.injEq, and_true] at e'
  subst e'
  have hk1 : (gt G i).k ≠ 1 := by rw [HGi.out]; simp
  have hk5 : (gt G i).k ≠ 5 := by rw [HGi.out]; simp
  have HE : Hid (ew G n t ins ds i = mxl (ew G n t ins ds pa) (ew G n t ins ds pb) 1 1 0 n) := ew_add (by rw [HGi.out]) (by rw [HGi.out]) hpa (by rw [HGi.out]) hpb
  have HF : Hid (∀ v w', w'.ownsRow W.drew.heap.size 43 1 v n ((mxl (ew G n t ins ds pa) (ew G n t ins ds pb) 1 1 0 n).map (Value.int .u64)) → Below W.drew.heap.size W.drew w' → Psw G n t ins ds w gs i (.slice (some ⟨gW, 0, none⟩) i cW) LW v w') := fun v w' ho hb => Psw.quiet hS.drew (by omega) hb hk1 hk5 (by rw [HE.out]; exact ho)
  have hpa0 : (0 : Int) ≤ (pa : Int) := by omega
  have hpai : (pa : Int) < (i : Int) := by omega
  have hpb0 : (0 : Int) ≤ (pb : Int) := by omega
  have hpbi : (pb : Int) < (i : Int) := by omega
  clear hS ih dh hk1 hk5
  go_wp2
  go_region_law (first | (go_simp; go_at_call 31; refine (rMixed _ _ _ _ _ _ _ 1 1 0 _ r1.drew r2.drew (by omega) (by omega) (by omega) (by omega) (by omega) (by omega) (by omega)).mono ?_; rintro en w3 ⟨v, rfl, ho, hb⟩; have HP := HF.out v w3 ho hb; clear ho hb))
  all_goals
    go_wp2
    exact hK.out _ _ _ _ _ _ _ _ _ _ _ _ _ _ _ _ _ _ _ _ _ _ _ _ _ _ _ _ _ _ _ _ _ _ _ _ _ _ _ _ _ _ _ _ _ _ _ _ _ _ _ _ _ _ _ _ _ _ _ _ _ _ _ _ _ _ _ _ _ _ _ _ _ _ _ _ _ _ _ _ _ _ _ _ _ _ _ _ _ _ _ _ _ _ _ _ _ _ _ _ _ _ _ _ _ _ _ _ _ _ _ _ _ _ _ _ _ _ _ _ _ _ _ _ _ _ _ _ _ _ _ _ _ _ _ _ _ _ _ _ _ _ _ _ HP

set_option linter.unusedVariables false in
set_option maxRecDepth 100000 in
set_option maxHeartbeats 20000000 in
theorem plSub {G : List Gt} {n t : Nat} {ins ds : List Int} {w W : World} {gs i N q ca d cd cW gb D C : Nat} {Ls LW : List Value} {ai ad aW : Option Addr} {x y z : Int}
    (hS : Sen w W gs n Ls (sgl G n t ins ds i) (.slice aW i cW) LW (ewr G n t ins ds i) (gs + 1) (gs + 1)) (ih : Rd W ai q ca ins) (dh : Rd W ad d cd ds) (q2 : W.cell? ⟨gb, 1, none⟩ = some (.int .i64 x)) (q3 : W.cell? ⟨gb, 2, none⟩ = some (.int .i64 y)) (q4 : W.cell? ⟨gb, 3, none⟩ = some (.int .u64 z)) (hgb : gb < W.heap.size)
    (HGi : Hid (gt G i = ⟨4, x, y, z⟩)) (hz : 0 ≤ z ∧ z ≤ 18446744073709551615) (hn : 2 * t + 1 ≤ n) (hn9 : n ≤ 9) (HD : Hid (dwn G n t i = D)) (HC : Hid (ci G i = C)) (hiN : i < N) (hN : N ≤ 30) (HDN : Hid (dwn G n t N = d)) (HCN : Hid (ci G N = q))
    (hx : 0 ≤ x ∧ x < (i : Int)) (hy : 0 ≤ y ∧ y < (i : Int))
    {K' K1 K2 K3 : Act → World → Prop} {R : Ending → World → Prop} {u0 u5 u6 u7 u8 u9 u10 u11 u16 u19 u20 u21 u22 u23 u24 u25 u26 u27 u28 u29 u30 u31 u32 u33 u34 u35 u36 u37 u38 u39 u41 u42 u43 u44 u45 u46 u47 u48 u49 u50 u51 u52 u53 u54 u55 u56 u57 u58 u59 u60 u61 u62 u63 u64 u65 u66 u67 u68 u69 u70 u71 u72 u73 u74 u75 u76 u77 u78 u79 u80 u81 u82 u83 u84 u85 u86 u87 u88 u89 u90 u91 u92 u93 u94 u95 u96 u97 u98 u99 u100 u101 u102 u103 u104 u105 u106 u107 u108 u109 u110 u111 u112 u113 u114 u115 u116 u117 u118 u119 u120 u121 u122 u123 u124 u125 u126 u127 u128 u129 u130 u131 u132 u133 u134 u135 u136 u137 u138 u139 u140 u141 u142 u143 u144 u145 u146 u147 u148 u149 u150 u151 u152 u153 u154 u155 u156 u157 u158 u159 u160 u161 u162 u163 u164 u165 u166 u167 u168 u169 u170 u171 u172 u173 u174 u175 u176 u177 u178 u179 u180 u181 u182 u183 u184 u185 u186 u187 u188 u189 u190 u191 u192 u193 u194 u195 u196 u197 u198 u199 u200 u201 u202 u203 u204 u205 u206 u207 u208 u209 u210 u211 u212 u213 u214 : Value}
    (hK : Hid (∀ (u : Value) (v19 v20 v21 v22 v41 v42 v43 v44 v45 v46 v47 v48 v49 v50 v51 v52 v53 v54 v55 v56 v57 v58 v59 v60 v61 v62 v63 v64 v65 v66 v67 v68 v69 v70 v71 v72 v73 v74 v75 v76 v77 v78 v79 v80 v81 v82 v83 v84 v85 v86 v87 v88 v89 v90 v91 v92 v93 v94 v95 v96 v97 v98 v99 v100 v101 v102 v103 v104 v105 v106 v107 v108 v109 v110 v111 v112 v113 v114 v115 v116 v117 v118 v119 v120 v121 v122 v123 v124 v125 v126 v127 v128 v129 v130 v131 v132 v133 v134 v135 v136 v137 v138 v139 v140 v141 v142 v143 v144 v145 v146 v147 v148 v149 v150 v151 v152 v153 v154 v155 v156 v157 v158 v159 v160 v161 v162 v163 v164 v165 v166 v167 v168 v169 v170 v171 v172 v173 v174 v175 v176 v177 v178 : Value) (w' : World), Psw G n t ins ds w gs i (.slice aW i cW) LW u w' → K' ⟨#[u0, .int .i64 (n : Int), .int .i64 (t : Int), .slice ai q ca, .slice ad d cd, u5, u6, u7, u8, u9, u10, u11, .slice (some ⟨gs, 0, none⟩) n n, .slice aW i cW, .int .i64 ((D : Int)), .int .i64 ((C : Int)), u16, .pointer (some ⟨gb, 0, none⟩), u, v19, v20, v21, v22, u23, u24, u25, u26, u27, u28, u29, u30, u31, u32, u33, u34, u35, u36, u37, u38, u39, .int .i64 4, v41, v42, v43, v44, v45, v46, v47, v48, v49, v50, v51, v52, v53, v54, v55, v56, v57, v58, v59, v60, v61, v62, v63, v64, v65, v66, v67, v68, v69, v70, v71, v72, v73, v74, v75, v76, v77, v78, v79, v80, v81, v82, v83, v84, v85, v86, v87, v88, v89, v90, v91, v92, v93, v94, v95, v96, v97, v98, v99, v100, v101, v102, v103, v104, v105, v106, v107, v108, v109, v110, v111, v112, v113, v114, v115, v116, v117, v118, v119, v120, v121, v122, v123, v124, v125, v126, v127, v128, v129, v130, v131, v132, v133, v134, v135, v136, v137, v138, v139, v140, v141, v142, v143, v144, v145, v146, v147, v148, v149, v150, v151, v152, v153, v154, v155, v156, v157, v158, v159, v160, v161, v162, v163, v164, v165, v166, v167, v168, v169, v170, v171, v172, v173, v174, v175, v176, v177, v178, u179, u180, u181, u182, u183, u184, u185, u186, u187, u188, u189, u190, u191, u192, u193, u194, u195, u196, u197, u198, u199, u200, u201, u202, u203, u204, u205, u206, u207, u208, u209, u210, u211, u212, u213, u214], []⟩ w')) :
    Code.wp Tryd.prog SWp (Exit.then K' (Exit.inBlock 1 (Exit.then K1 (Exit.then K2 (Exit.inBlock 0 (Exit.then K3 (bodyPost Tryd.prog Tryd.f12 R))))))) ⟨#[u0, .int .i64 (n : Int), .int .i64 (t : Int), .slice ai q ca, .slice ad d cd, u5, u6, u7, u8, u9, u10, u11, .slice (some ⟨gs, 0, none⟩) n n, .slice aW i cW, .int .i64 (D : Int), .int .i64 (C : Int), u16, .pointer (some ⟨gb, 0, none⟩), .slice none 0 0, u19, u20, u21, u22, u23, u24, u25, u26, u27, u28, u29, u30, u31, u32, u33, u34, u35, u36, u37, u38, u39, .int .i64 4, u41, u42, u43, u44, u45, u46, u47, u48, u49, u50, u51, u52, u53, u54, u55, u56, u57, u58, u59, u60, u61, u62, u63, u64, u65, u66, u67, u68, u69, u70, u71, u72, u73, u74, u75, u76, u77, u78, u79, u80, u81, u82, u83, u84, u85, u86, u87, u88, u89, u90, u91, u92, u93, u94, u95, u96, u97, u98, u99, u100, u101, u102, u103, u104, u105, u106, u107, u108, u109, u110, u111, u112, u113, u114, u115, u116, u117, u118, u119, u120, u121, u122, u123, u124, u125, u126, u127, u128, u129, u130, u131, u132, u133, u134, u135, u136, u137, u138, u139, u140, u141, u142, u143, u144, u145, u146, u147, u148, u149, u150, u151, u152, u153, u154, u155, u156, u157, u158, u159, u160, u161, u162, u163, u164, u165, u166, u167, u168, u169, u170, u171, u172, u173, u174, u175, u176, u177, u178, u179, u180, u181, u182, u183, u184, u185, u186, u187, u188, u189, u190, u191, u192, u193, u194, u195, u196, u197, u198, u199, u200, u201, u202, u203, u204, u205, u206, u207, u208, u209, u210, u211, u212, u213, u214], []⟩ W := by
  conv => arg 2; whnf
  obtain ⟨pa, rfl⟩ : ∃ p : Nat, x = p := ⟨x.toNat, by omega⟩
  have hpa : pa < i := by omega
  obtain ⟨pb, rfl⟩ : ∃ p : Nat, y = p := ⟨y.toNat, by omega⟩
  have hpb : pb < i := by omega
  have hnb := hS.bel.size
  obtain ⟨gW, a1, c1, rfl, hgW, e1, r1⟩ := hS.wire hpa
  obtain ⟨gW', a2, c2, e', _, e2, r2⟩ := hS.wire hpb
  simp only [Option.some.injEq, Addr.mk.injEq, and_true] at e'
  subst e'
  have hk1 : (gt G i).k ≠ 1 := by rw [HGi.out]; simp
  have hk5 : (gt G i).k ≠ 5 := by rw [HGi.out]; simp
  have HE : Hid (ew G n t ins ds i = mxl (ew G n t ins ds pa) (ew G n t ins ds pb) 1 2147483646 0 n) := ew_sub (by rw [HGi.out]) (by rw [HGi.out]) hpa (by rw [HGi.out]) hpb
  have HF : Hid (∀ v w', w'.ownsRow W.drew.heap.size 43 1 v n ((mxl (ew G n t ins ds pa) (ew G n t ins ds pb) 1 2147483646 0 n).map (Value.int .u64)) → Below W.drew.heap.size W.drew w' → Psw G n t ins ds w gs i (.slice (some ⟨gW, 0, none⟩) i cW) LW v w') := fun v w' ho hb => Psw.quiet hS.drew (by omega) hb hk1 hk5 (by rw [HE.out]; exact ho)
  have hpa0 : (0 : Int) ≤ (pa : Int) := by omega
  have hpai : (pa : Int) < (i : Int) := by omega
  have hpb0 : (0 : Int) ≤ (pb : Int) := by omega
  have hpbi : (pb : Int) < (i : Int) := by omega
  clear hS ih dh hk1 hk5
  go_wp2
  go_region_law (first | (go_simp; go_at_call 31; refine (rMixed _ _ _ _ _ _ _ 1 2147483646 0 _ r1.drew r2.drew (by omega) (by omega) (by omega) (by omega) (by omega) (by omega) (by omega)).mono ?_; rintro en w3 ⟨v, rfl, ho, hb⟩; have HP := HF.out v w3 ho hb; clear ho hb))
  all_goals
    go_wp2
    exact hK.out _ _ _ _ _ _ _ _ _ _ _ _ _ _ _ _ _ _ _ _ _ _ _ _ _ _ _ _ _ _ _ _ _ _ _ _ _ _ _ _ _ _ _ _ _ _ _ _ _ _ _ _ _ _ _ _ _ _ _ _ _ _ _ _ _ _ _ _ _ _ _ _ _ _ _ _ _ _ _ _ _ _ _ _ _ _ _ _ _ _ _ _ _ _ _ _ _ _ _ _ _ _ _ _ _ _ _ _ _ _ _ _ _ _ _ _ _ _ _ _ _ _ _ _ _ _ _ _ _ _ _ _ _ _ _ _ _ _ _ _ _ _ _ _ HP
end Go.Proofs.YtoifklkdfgfbdacDoor

namespace Go.Proofs.YtoifklkdfgfbdacDoor
open Go.RowKit Crm

set_option linter.unusedVariables false in
set_option maxRecDepth 100000 in
set_option maxHeartbeats 20000000 in
theorem plScale {G : List Gt} {n t : Nat} {ins ds : List Int} {w W : World} {gs i N q ca d cd cW gb D C : Nat} {Ls LW : List Value} {ai ad aW : Option Addr} {x y z : Int}
    (hS : Sen w W gs n Ls (sgl G n t ins ds i) (.slice aW i cW) LW (ewr G n t ins ds i) (gs + 1) (gs + 1)) (ih : Rd W ai q ca ins) (dh : Rd W ad d cd ds) (q2 : W.cell? ⟨gb, 1, none⟩ = some (.int .i64 x)) (q3 : W.cell? ⟨gb, 2, none⟩ = some (.int .i64 y)) (q4 : W.cell? ⟨gb, 3, none⟩ = some (.int .u64 z)) (hgb : gb < W.heap.size)
    (HGi : Hid (gt G i = ⟨6, x, y, z⟩)) (hz : 0 ≤ z ∧ z ≤ 18446744073709551615) (hn : 2 * t + 1 ≤ n) (hn9 : n ≤ 9) (HD : Hid (dwn G n t i = D)) (HC : Hid (ci G i = C)) (hiN : i < N) (hN : N ≤ 30) (HDN : Hid (dwn G n t N = d)) (HCN : Hid (ci G N = q))
    (hx : 0 ≤ x ∧ x < (i : Int))
    {K' K1 K2 K3 : Act → World → Prop} {R : Ending → World → Prop} {u0 u5 u6 u7 u8 u9 u10 u11 u16 u19 u20 u21 u22 u23 u24 u25 u26 u27 u28 u29 u30 u31 u32 u33 u34 u35 u36 u37 u38 u39 u41 u42 u43 u44 u45 u46 u47 u48 u49 u50 u51 u52 u53 u54 u55 u56 u57 u58 u59 u60 u61 u62 u63 u64 u65 u66 u67 u68 u69 u70 u71 u72 u73 u74 u75 u76 u77 u78 u79 u80 u81 u82 u83 u84 u85 u86 u87 u88 u89 u90 u91 u92 u93 u94 u95 u96 u97 u98 u99 u100 u101 u102 u103 u104 u105 u106 u107 u108 u109 u110 u111 u112 u113 u114 u115 u116 u117 u118 u119 u120 u121 u122 u123 u124 u125 u126 u127 u128 u129 u130 u131 u132 u133 u134 u135 u136 u137 u138 u139 u140 u141 u142 u143 u144 u145 u146 u147 u148 u149 u150 u151 u152 u153 u154 u155 u156 u157 u158 u159 u160 u161 u162 u163 u164 u165 u166 u167 u168 u169 u170 u171 u172 u173 u174 u175 u176 u177 u178 u179 u180 u181 u182 u183 u184 u185 u186 u187 u188 u189 u190 u191 u192 u193 u194 u195 u196 u197 u198 u199 u200 u201 u202 u203 u204 u205 u206 u207 u208 u209 u210 u211 u212 u213 u214 : Value}
    (hK : Hid (∀ (u : Value) (v19 v20 v21 v22 v41 v42 v43 v44 v45 v46 v47 v48 v49 v50 v51 v52 v53 v54 v55 v56 v57 v58 v59 v60 v61 v62 v63 v64 v65 v66 v67 v68 v69 v70 v71 v72 v73 v74 v75 v76 v77 v78 v79 v80 v81 v82 v83 v84 v85 v86 v87 v88 v89 v90 v91 v92 v93 v94 v95 v96 v97 v98 v99 v100 v101 v102 v103 v104 v105 v106 v107 v108 v109 v110 v111 v112 v113 v114 v115 v116 v117 v118 v119 v120 v121 v122 v123 v124 v125 v126 v127 v128 v129 v130 v131 v132 v133 v134 v135 v136 v137 v138 v139 v140 v141 v142 v143 v144 v145 v146 v147 v148 v149 v150 v151 v152 v153 v154 v155 v156 v157 v158 v159 v160 v161 v162 v163 v164 v165 v166 v167 v168 v169 v170 v171 v172 v173 v174 v175 v176 v177 v178 : Value) (w' : World), Psw G n t ins ds w gs i (.slice aW i cW) LW u w' → K' ⟨#[u0, .int .i64 (n : Int), .int .i64 (t : Int), .slice ai q ca, .slice ad d cd, u5, u6, u7, u8, u9, u10, u11, .slice (some ⟨gs, 0, none⟩) n n, .slice aW i cW, .int .i64 ((D : Int)), .int .i64 ((C : Int)), u16, .pointer (some ⟨gb, 0, none⟩), u, v19, v20, v21, v22, u23, u24, u25, u26, u27, u28, u29, u30, u31, u32, u33, u34, u35, u36, u37, u38, u39, .int .i64 6, v41, v42, v43, v44, v45, v46, v47, v48, v49, v50, v51, v52, v53, v54, v55, v56, v57, v58, v59, v60, v61, v62, v63, v64, v65, v66, v67, v68, v69, v70, v71, v72, v73, v74, v75, v76, v77, v78, v79, v80, v81, v82, v83, v84, v85, v86, v87, v88, v89, v90, v91, v92, v93, v94, v95, v96, v97, v98, v99, v100, v101, v102, v103, v104, v105, v106, v107, v108, v109, v110, v111, v112, v113, v114, v115, v116, v117, v118, v119, v120, v121, v122, v123, v124, v125, v126, v127, v128, v129, v130, v131, v132, v133, v134, v135, v136, v137, v138, v139, v140, v141, v142, v143, v144, v145, v146, v147, v148, v149, v150, v151, v152, v153, v154, v155, v156, v157, v158, v159, v160, v161, v162, v163, v164, v165, v166, v167, v168, v169, v170, v171, v172, v173, v174, v175, v176, v177, v178, u179, u180, u181, u182, u183, u184, u185, u186, u187, u188, u189, u190, u191, u192, u193, u194, u195, u196, u197, u198, u199, u200, u201, u202, u203, u204, u205, u206, u207, u208, u209, u210, u211, u212, u213, u214], []⟩ w')) :
    Code.wp Tryd.prog SWp (Exit.then K' (Exit.inBlock 1 (Exit.then K1 (Exit.then K2 (Exit.inBlock 0 (Exit.then K3 (bodyPost Tryd.prog Tryd.f12 R))))))) ⟨#[u0, .int .i64 (n : Int), .int .i64 (t : Int), .slice ai q ca, .slice ad d cd, u5, u6, u7, u8, u9, u10, u11, .slice (some ⟨gs, 0, none⟩) n n, .slice aW i cW, .int .i64 (D : Int), .int .i64 (C : Int), u16, .pointer (some ⟨gb, 0, none⟩), .slice none 0 0, u19, u20, u21, u22, u23, u24, u25, u26, u27, u28, u29, u30, u31, u32, u33, u34, u35, u36, u37, u38, u39, .int .i64 6, u41, u42, u43, u44, u45, u46, u47, u48, u49, u50, u51, u52, u53, u54, u55, u56, u57, u58, u59, u60, u61, u62, u63, u64, u65, u66, u67, u68, u69, u70, u71, u72, u73, u74, u75, u76, u77, u78, u79, u80, u81, u82, u83, u84, u85, u86, u87, u88, u89, u90, u91, u92, u93, u94, u95, u96, u97, u98, u99, u100, u101, u102, u103, u104, u105, u106, u107, u108, u109, u110, u111, u112, u113, u114, u115, u116, u117, u118, u119, u120, u121, u122, u123, u124, u125, u126, u127, u128, u129, u130, u131, u132, u133, u134, u135, u136, u137, u138, u139, u140, u141, u142, u143, u144, u145, u146, u147, u148, u149, u150, u151, u152, u153, u154, u155, u156, u157, u158, u159, u160, u161, u162, u163, u164, u165, u166, u167, u168, u169, u170, u171, u172, u173, u174, u175, u176, u177, u178, u179, u180, u181, u182, u183, u184, u185, u186, u187, u188, u189, u190, u191, u192, u193, u194, u195, u196, u197, u198, u199, u200, u201, u202, u203, u204, u205, u206, u207, u208, u209, u210, u211, u212, u213, u214], []⟩ W := by
  conv => arg 2; whnf
  obtain ⟨pa, rfl⟩ : ∃ p : Nat, x = p := ⟨x.toNat, by omega⟩
  have hpa : pa < i := by omega
  have hnb := hS.bel.size
  obtain ⟨gW, a1, c1, rfl, hgW, e1, r1⟩ := hS.wire hpa
  have r2 := r1
  have hk1 : (gt G i).k ≠ 1 := by rw [HGi.out]; simp
  have hk5 : (gt G i).k ≠ 5 := by rw [HGi.out]; simp
  have HE : Hid (ew G n t ins ds i = mxl (ew G n t ins ds pa) (ew G n t ins ds pa) z 0 0 n) := (by have e := ew_scale (G := G) (n := n) (t := t) (ins := ins) (ds := ds) (i := i) (a := pa) (by rw [HGi.out]) (by rw [HGi.out]) hpa; rw [HGi.out] at e; exact e)
  have HF : Hid (∀ v w', w'.ownsRow W.drew.heap.size 43 1 v n ((mxl (ew G n t ins ds pa) (ew G n t ins ds pa) z 0 0 n).map (Value.int .u64)) → Below W.drew.heap.size W.drew w' → Psw G n t ins ds w gs i (.slice (some ⟨gW, 0, none⟩) i cW) LW v w') := fun v w' ho hb => Psw.quiet hS.drew (by omega) hb hk1 hk5 (by rw [HE.out]; exact ho)
  have hpa0 : (0 : Int) ≤ (pa : Int) := by omega
  have hpai : (pa : Int) < (i : Int) := by omega
  clear hS ih dh hk1 hk5
  go_wp2
  go_region_law (first | (go_simp; go_at_call 31; refine (rMixed _ _ _ _ _ _ _ z 0 0 _ r1.drew r2.drew (by omega) (by omega) (by omega) (by omega) (by omega) (by omega) (by omega)).mono ?_; rintro en w3 ⟨v, rfl, ho, hb⟩; have HP := HF.out v w3 ho hb; clear ho hb))
  all_goals
    go_wp2
    exact hK.out _ _ _ _ _ _ _ _ _ _ _ _ _ _ _ _ _ _ _ _ _ _ _ _ _ _ _ _ _ _ _ _ _ _ _ _ _ _ _ _ _ _ _ _ _ _ _ _ _ _ _ _ _ _ _ _ _ _ _ _ _ _ _ _ _ _ _ _ _ _ _ _ _ _ _ _ _ _ _ _ _ _ _ _ _ _ _ _ _ _ _ _ _ _ _ _ _ _ _ _ _ _ _ _ _ _ _ _ _ _ _ _ _ _ _ _ _ _ _ _ _ _ _ _ _ _ _ _ _ _ _ _ _ _ _ _ _ _ _ _ _ _ _ _ HP

set_option linter.unusedVariables false in
set_option maxRecDepth 100000 in
set_option maxHeartbeats 20000000 in
theorem plConst {G : List Gt} {n t : Nat} {ins ds : List Int} {w W : World} {gs i N q ca d cd cW gb D C : Nat} {Ls LW : List Value} {ai ad aW : Option Addr} {x y z : Int}
    (hS : Sen w W gs n Ls (sgl G n t ins ds i) (.slice aW i cW) LW (ewr G n t ins ds i) (gs + 1) (gs + 1)) (ih : Rd W ai q ca ins) (dh : Rd W ad d cd ds) (q2 : W.cell? ⟨gb, 1, none⟩ = some (.int .i64 x)) (q3 : W.cell? ⟨gb, 2, none⟩ = some (.int .i64 y)) (q4 : W.cell? ⟨gb, 3, none⟩ = some (.int .u64 z)) (hgb : gb < W.heap.size)
    (HGi : Hid (gt G i = ⟨2, x, y, z⟩)) (hz : 0 ≤ z ∧ z ≤ 18446744073709551615) (hn : 2 * t + 1 ≤ n) (hn9 : n ≤ 9) (HD : Hid (dwn G n t i = D)) (HC : Hid (ci G i = C)) (hiN : i < N) (hN : N ≤ 30) (HDN : Hid (dwn G n t N = d)) (HCN : Hid (ci G N = q))
    
    {K' K1 K2 K3 : Act → World → Prop} {R : Ending → World → Prop} {u0 u5 u6 u7 u8 u9 u10 u11 u16 u19 u20 u21 u22 u23 u24 u25 u26 u27 u28 u29 u30 u31 u32 u33 u34 u35 u36 u37 u38 u39 u41 u42 u43 u44 u45 u46 u47 u48 u49 u50 u51 u52 u53 u54 u55 u56 u57 u58 u59 u60 u61 u62 u63 u64 u65 u66 u67 u68 u69 u70 u71 u72 u73 u74 u75 u76 u77 u78 u79 u80 u81 u82 u83 u84 u85 u86 u87 u88 u89 u90 u91 u92 u93 u94 u95 u96 u97 u98 u99 u100 u101 u102 u103 u104 u105 u106 u107 u108 u109 u110 u111 u112 u113 u114 u115 u116 u117 u118 u119 u120 u121 u122 u123 u124 u125 u126 u127 u128 u129 u130 u131 u132 u133 u134 u135 u136 u137 u138 u139 u140 u141 u142 u143 u144 u145 u146 u147 u148 u149 u150 u151 u152 u153 u154 u155 u156 u157 u158 u159 u160 u161 u162 u163 u164 u165 u166 u167 u168 u169 u170 u171 u172 u173 u174 u175 u176 u177 u178 u179 u180 u181 u182 u183 u184 u185 u186 u187 u188 u189 u190 u191 u192 u193 u194 u195 u196 u197 u198 u199 u200 u201 u202 u203 u204 u205 u206 u207 u208 u209 u210 u211 u212 u213 u214 : Value}
    (hK : Hid (∀ (u : Value) (v19 v20 v21 v22 v41 v42 v43 v44 v45 v46 v47 v48 v49 v50 v51 v52 v53 v54 v55 v56 v57 v58 v59 v60 v61 v62 v63 v64 v65 v66 v67 v68 v69 v70 v71 v72 v73 v74 v75 v76 v77 v78 v79 v80 v81 v82 v83 v84 v85 v86 v87 v88 v89 v90 v91 v92 v93 v94 v95 v96 v97 v98 v99 v100 v101 v102 v103 v104 v105 v106 v107 v108 v109 v110 v111 v112 v113 v114 v115 v116 v117 v118 v119 v120 v121 v122 v123 v124 v125 v126 v127 v128 v129 v130 v131 v132 v133 v134 v135 v136 v137 v138 v139 v140 v141 v142 v143 v144 v145 v146 v147 v148 v149 v150 v151 v152 v153 v154 v155 v156 v157 v158 v159 v160 v161 v162 v163 v164 v165 v166 v167 v168 v169 v170 v171 v172 v173 v174 v175 v176 v177 v178 : Value) (w' : World), Psw G n t ins ds w gs i (.slice aW i cW) LW u w' → K' ⟨#[u0, .int .i64 (n : Int), .int .i64 (t : Int), .slice ai q ca, .slice ad d cd, u5, u6, u7, u8, u9, u10, u11, .slice (some ⟨gs, 0, none⟩) n n, .slice aW i cW, .int .i64 ((D : Int)), .int .i64 ((C : Int)), u16, .pointer (some ⟨gb, 0, none⟩), u, v19, v20, v21, v22, u23, u24, u25, u26, u27, u28, u29, u30, u31, u32, u33, u34, u35, u36, u37, u38, u39, .int .i64 2, v41, v42, v43, v44, v45, v46, v47, v48, v49, v50, v51, v52, v53, v54, v55, v56, v57, v58, v59, v60, v61, v62, v63, v64, v65, v66, v67, v68, v69, v70, v71, v72, v73, v74, v75, v76, v77, v78, v79, v80, v81, v82, v83, v84, v85, v86, v87, v88, v89, v90, v91, v92, v93, v94, v95, v96, v97, v98, v99, v100, v101, v102, v103, v104, v105, v106, v107, v108, v109, v110, v111, v112, v113, v114, v115, v116, v117, v118, v119, v120, v121, v122, v123, v124, v125, v126, v127, v128, v129, v130, v131, v132, v133, v134, v135, v136, v137, v138, v139, v140, v141, v142, v143, v144, v145, v146, v147, v148, v149, v150, v151, v152, v153, v154, v155, v156, v157, v158, v159, v160, v161, v162, v163, v164, v165, v166, v167, v168, v169, v170, v171, v172, v173, v174, v175, v176, v177, v178, u179, u180, u181, u182, u183, u184, u185, u186, u187, u188, u189, u190, u191, u192, u193, u194, u195, u196, u197, u198, u199, u200, u201, u202, u203, u204, u205, u206, u207, u208, u209, u210, u211, u212, u213, u214], []⟩ w')) :
    Code.wp Tryd.prog SWp (Exit.then K' (Exit.inBlock 1 (Exit.then K1 (Exit.then K2 (Exit.inBlock 0 (Exit.then K3 (bodyPost Tryd.prog Tryd.f12 R))))))) ⟨#[u0, .int .i64 (n : Int), .int .i64 (t : Int), .slice ai q ca, .slice ad d cd, u5, u6, u7, u8, u9, u10, u11, .slice (some ⟨gs, 0, none⟩) n n, .slice aW i cW, .int .i64 (D : Int), .int .i64 (C : Int), u16, .pointer (some ⟨gb, 0, none⟩), .slice none 0 0, u19, u20, u21, u22, u23, u24, u25, u26, u27, u28, u29, u30, u31, u32, u33, u34, u35, u36, u37, u38, u39, .int .i64 2, u41, u42, u43, u44, u45, u46, u47, u48, u49, u50, u51, u52, u53, u54, u55, u56, u57, u58, u59, u60, u61, u62, u63, u64, u65, u66, u67, u68, u69, u70, u71, u72, u73, u74, u75, u76, u77, u78, u79, u80, u81, u82, u83, u84, u85, u86, u87, u88, u89, u90, u91, u92, u93, u94, u95, u96, u97, u98, u99, u100, u101, u102, u103, u104, u105, u106, u107, u108, u109, u110, u111, u112, u113, u114, u115, u116, u117, u118, u119, u120, u121, u122, u123, u124, u125, u126, u127, u128, u129, u130, u131, u132, u133, u134, u135, u136, u137, u138, u139, u140, u141, u142, u143, u144, u145, u146, u147, u148, u149, u150, u151, u152, u153, u154, u155, u156, u157, u158, u159, u160, u161, u162, u163, u164, u165, u166, u167, u168, u169, u170, u171, u172, u173, u174, u175, u176, u177, u178, u179, u180, u181, u182, u183, u184, u185, u186, u187, u188, u189, u190, u191, u192, u193, u194, u195, u196, u197, u198, u199, u200, u201, u202, u203, u204, u205, u206, u207, u208, u209, u210, u211, u212, u213, u214], []⟩ W := by
  conv => arg 2; whnf
  have hk1 : (gt G i).k ≠ 1 := by rw [HGi.out]; simp
  have hk5 : (gt G i).k ≠ 5 := by rw [HGi.out]; simp
  have HE : Hid (ew G n t ins ds i = List.replicate n (nm z)) := by unfold Hid; rw [ew_const (by rw [HGi.out]), HGi.out]
  have HF : Hid (∀ v w', w'.ownsRow W.heap.size 43 1 v n ((List.replicate n (nm z)).map (Value.int .u64)) → Below W.heap.size W w' → Psw G n t ins ds w gs i (.slice aW i cW) LW v w') := fun v w' ho hb => Psw.quiet hS (by omega) hb hk1 hk5 (by rw [HE.out]; exact ho)
  have hnz := nm_bd z
  clear hS ih dh hk1 hk5 HE
  go_wp2
  go_loopw [18, 20] (fun v s wr => ∃ j : Nat, j ≤ n ∧ s = .int .i64 j ∧ wr.ownsRow W.heap.size 43 1 v j ((List.replicate j (nm z)).map (Value.int .u64)) ∧ Below W.heap.size W wr) (fun _ s _ => n - (intOf s).toNat)
  case atStart => exact ⟨0, Nat.zero_le _, rfl, World.ownsRow_nil _ _ _ _, Below.refl _ _⟩
  case round =>
    obtain ⟨j, hj, rfl, hown, hbel⟩ := hrel
    have hs1 := hbel.size
    have c4 : wr.cell? ⟨gb, 3, none⟩ = some (.int .u64 z) := by rw [hbel.cell (p := ⟨gb, 3, none⟩) hgb]; exact q4
    have hgb2 : gb < wr.heap.size := Nat.lt_of_lt_of_le hgb hs1
    by_cases hjn : j < n
    · have HSN : Hid (List.replicate j (nm z) ++ [nm z] = List.replicate (j + 1) (nm z)) := by unfold Hid; rw [List.replicate_succ']
      go_wp2_with (first | (go_at_call 26; refine (rNorm z _ hz.1 hz.2).mono ?_; rintro e w' ⟨rfl, hw⟩; have hw := hw.symm; subst hw) | (at_builtin; refine wpList_app1 Tryd.underlying31 info43 _ rfl _ _ rfl W.heap.size _ _ _ rfl hown (nm z) rfl (by omega) hs1 ?_; intro v2 w2 hown2 hb2; rw [HSN.out] at hown2; have hbel2 := hbel.trans hb2; clear hown hbel hb2))
      go_roundw
      case rel => exact ⟨j + 1, by omega, by go_num, hown2, hbel2⟩
      case measure => simp [intOf]; omega
    · have hjn2 : j = n := by omega
      subst hjn2
      have HP := HF.out _ _ hown hbel
      clear hown hbel
      go_wp2
      exact hK.out _ _ _ _ _ _ _ _ _ _ _ _ _ _ _ _ _ _ _ _ _ _ _ _ _ _ _ _ _ _ _ _ _ _ _ _ _ _ _ _ _ _ _ _ _ _ _ _ _ _ _ _ _ _ _ _ _ _ _ _ _ _ _ _ _ _ _ _ _ _ _ _ _ _ _ _ _ _ _ _ _ _ _ _ _ _ _ _ _ _ _ _ _ _ _ _ _ _ _ _ _ _ _ _ _ _ _ _ _ _ _ _ _ _ _ _ _ _ _ _ _ _ _ _ _ _ _ _ _ _ _ _ _ _ _ _ _ _ _ _ _ _ _ _ HP
end Go.Proofs.YtoifklkdfgfbdacDoor
