/- The walk of croftlaw.CircuitSays. -/
import Derived.Test.YtljlioglpaogdabDoorToCircuitSaysN
import Derived.Deep.RegionWith
import Derived.Deep.RegionHeld3
namespace Go.Proofs.YtljlioglpaogdabDoor
set_option linter.unusedVariables false
set_option maxRecDepth 100000
set_option maxHeartbeats 8000000
section
open Crm Go.RowKit
theorem circuitSaysY (ag : Option Addr) (n cg : Nat) (G : List Gt) (ao : Option Addr) (m co : Nat) (O : List Int) (ai : Option Addr) (q ca : Nat) (ins : List Int) (w : World) (h : RdG w ag n cg G) (g : RdI w ao m co O) (ih : Rd w ai q ca ins) (hT : Tabs w) (hV : Vb w) (hS : Shp w) (hyes : Cke G O n m 0) :
    Calls Tryd.prog 3 #[.agg #[.slice ag n cg, .slice ao m co], .slice ai q ca] w fun e w' => e = .returned (.bool true) ∧ Below w.heap.size w w' := by
  have hC0 := CBox.new w ag n cg ao m co
  have hb0 : Below w.heap.size w (w.alloc (.cells #[.slice ag n cg, .slice ao m co] 25)) := (Below.refl _ _).alloc (Nat.le_refl _) _
  have HC : Hid (Cke G O n m 0) := hyes
  have hn := hyes.ok.1
  have hm := hyes.ok.2.1
  have HG : Hid (okG G n) := hyes.ok.2.2.1
  have HO : Hid (okO O n m) := hyes.ok.2.2.2
  have hqc := ih.cap
  have hqm := ih.max
  unfold maxLen at hqm
  have hcl := ci_le G n
  have HWB : Hid (∀ x ∈ whl G n, -9223372036854775808 ≤ x ∧ x ≤ 9223372036854775807) := whl_bd (fun i hi => (h.bd i hi).2.1) n (Nat.le_refl _)
  clear hyes
  go_enter Tryd.func3, Tryd.ntmps3
  go_wp2_with fail
  generalize w.alloc (.cells #[.slice ag n cg, .slice ao m co] 25) = w0 at *
  refine (rCircuit _ _ _ _ _ _ _ _ _ (h.below hb0) (g.below hb0)).mono ?_
  rintro e w1 ⟨r, rfl, hC, hb1'⟩
  obtain rfl := hC.one HC.out
  have hb1 := hb0.trans (hb1'.mono hb0.size)
  have hC1 := hC0.below hb1' hC0.lt
  have hl1 := hC1.lt
  obtain ⟨d0, d1⟩ := hC1.cells
  have HALL : Hid (∀ w', Below w1.heap.size w1 w' → w'.cell? ⟨w.heap.size, 0, none⟩ = some (.slice ag n cg) ∧ w'.cell? ⟨w.heap.size, 1, none⟩ = some (.slice ao m co) ∧ w.heap.size < w'.heap.size) := fun w' hb => ⟨(hC1.below hb hl1).cells.1, (hC1.below hb hl1).cells.2, (hC1.below hb hl1).lt⟩
  have HRD : Hid (∀ w', Below w1.heap.size w1 w' → RdG w' ag n cg G ∧ RdI w' ao m co O ∧ Tabs w' ∧ Vb w') := fun w' hb => ⟨(h.below hb1).below hb, (g.below hb1).below hb, (hT.below hb1).below hb, (hV.below hb1).below hb⟩
  have hcur : Below w1.heap.size w1 w1.drew := (Below.refl _ _).drew
  clear hC0 hb1' hC hb0
  go_wp2
  go_region_held3 (fun w' => w'.cell? ⟨w.heap.size, 0, none⟩ = some (.slice ag n cg) ∧ w'.cell? ⟨w.heap.size, 1, none⟩ = some (.slice ao m co)) (go_keep) (first | (go_at_call 5; refine (rText _ _ _ _ _ _ _ _ _ (HRD.out _ hcur).1 (HRD.out _ hcur).2.1 hn.2 hm.2 HG.out HO.out (HRD.out _ hcur).2.2.1 (HRD.out _ hcur).2.2.2).mono ?_; rintro en w2 ⟨rfl, hb⟩; have hcur := hcur.trans (hb.mono hcur.size); obtain ⟨e1, e2, e3⟩ := HALL.out _ hcur; clear hb) | (go_at_call 6; refine (rWhose _ _ _ _ ao m co _ (HRD.out _ hcur).1 (by omega)).mono ?_; rintro en w3 ⟨v, rfl, hown, hb⟩; obtain ⟨a6, c6, rfl, hr6⟩ := RdI.own hown HWB.out; have hcur := hcur.trans (hb.mono hcur.size); obtain ⟨f1, f2, f3⟩ := HALL.out _ hcur; clear hb hown))
  all_goals
    have hbB := hb1.trans (hcur.mono hb1.size)
    have hCB := hC1.below hcur hl1
    have hc6 := hr6.cap
    have hm6 := hr6.max
    unfold maxLen at hm6
    obtain ⟨l, HL⟩ : ∃ l, Hid (ci G n = l) := ⟨_, rfl⟩
    rw [HL.out] at hr6 hc6 hcl ⊢
    obtain ⟨X, HX⟩ : ∃ X, Hid (otx (gtx G n) O m = X) := ⟨_, rfl⟩
    rw [HX.out]
    clear hb1 hC1 hl1 d0 d1 HALL HRD hcur
    by_cases hq : q = l
    · subst hq
      have HQ : Hid (Cre G O n m q 0) := .inr ⟨HC.out, .inr ⟨HL.out.symm, rfl⟩⟩
      go_wp2_with fail
      refine (rOuts _ _ _ _ _ _ _ _ _ _ _ _ _ (h.below hbB) (g.below hbB) (ih.below hbB) hn.1 hn.2 hm.2 HG.out HO.out HL.out.symm).mono ?_
      rintro e w4 ⟨v, rfl, ho4, hb4'⟩
      obtain ⟨aw, cw, rfl, hrw, _⟩ := Rd.own ho4 (bd_u64 (otl_bd G O ins m))
      have hb4 := hbB.trans (hb4'.mono hbB.size)
      have hC4 := hCB.below hb4' hCB.lt
      have hw4 := hr6.below hb4'
      obtain ⟨g0, g1⟩ := hC4.cells
      clear hbB hCB hr6 ho4 hb4' e1 e2 e3 f1 f2 f3
      go_wp2_with fail
      refine (cInputs _ _ _ _ _ _ _ _ _ (h.below hb4) (g.below hb4) (hS.below hb4)).mono ?_
      rintro e w5 ⟨⟨r2, hr2, hE, _⟩ | ⟨_, v5, rfl, ho5⟩, hb5'⟩
      · exact absurd (hE.one HC.out) hr2
      rw [HL.out] at ho5
      obtain ⟨a5, c5, rfl, hr5⟩ := RdI.own ho5 HWB.out
      have hb5 := hb4.trans (hb5'.mono hb4.size)
      have hC5 := hC4.below hb5' hC4.lt
      have hw5 := hw4.below hb5'
      have hv5 := hrw.below hb5'
      obtain ⟨i0, i1⟩ := hC5.cells
      clear hb4 hC4 hw4 ho5 hb5' g0 g1
      go_wp2_with fail
      refine (cRun _ _ _ _ _ _ _ _ _ _ _ _ _ (h.below hb5) (g.below hb5) (ih.below hb5) (hS.below hb5)).mono ?_
      rintro e w6 ⟨⟨r3, hr3, hE, _⟩ | ⟨_, v6, rfl, ho6⟩, hb6'⟩
      · exact absurd (hE.one HQ.out) hr3
      obtain ⟨a7, c7, rfl, hr7, _⟩ := Rd.own ho6 (bd_u64 (otl_bd G O ins m))
      have hv6 := hv5.below hb6'
      clear ho6 hv5
      have hb6 := hb5.trans (hb6'.mono hb5.size)
      have hC6 := hC5.below hb6' hC5.lt
      have hw6 := hw5.below hb6'
      have hr6 := hr5.below hb6'
      obtain ⟨j0, j1⟩ := hC6.cells
      clear hb5 hC5 hw5 hr5 hb6' i0 i1
      go_wp2_with fail
      refine (cPrint _ _ _ _ _ _ _ _ _ (h.below hb6) (g.below hb6) (hT.below hb6) (hS.below hb6)).mono ?_
      rintro e w7 ⟨⟨r4, hr4, hE, _⟩ | ⟨_, rfl⟩, hb7'⟩
      · exact absurd (hE.one HC.out) hr4
      rw [HX.out]
      have hb7 := hb6.trans (hb7'.mono hb6.size)
      have hC7 := hC6.below hb7' hC6.lt
      have hw7 := hw6.below hb7'
      have hr7' := hr6.below hb7'
      have hv7 := hv6.below hb7'
      have hs7 := hr7.below hb7'
      obtain ⟨k0, k1⟩ := hC7.cells
      clear hb6 hC6 hw6 hr6 hb7' j0 j1
      go_wp2_with fail
      refine (cCheckC _ _ _ _ _ _ _ _ _ (h.below hb7) (g.below hb7) (hS.below hb7)).mono ?_
      rintro e w8 ⟨r5, rfl, hE, hb8'⟩
      obtain rfl := hE.one HC.out
      have hb8 := hb7.trans (hb8'.mono hb7.size)
      have hw8 := hw7.below hb8'
      have hr8 := hr7'.below hb8'
      have hv8 := hv7.below hb8'
      have hs8 := hs7.below hb8'
      clear hb7 hC7 hw7 hr7' hb8' hE k0 k1
      go_wp2_with fail
      refine (zSame _ _ _ _ _ _ _ _ hr8 hw8).mono ?_
      rintro e w9 ⟨rfl, hb9'⟩
      have hb9 := hb8.trans (hb9'.mono hb8.size)
      have hv9 := hv8.below hb9'
      have hs9 := hs8.below hb9'
      clear hb8 hw8 hr8 hb9'
      go_wp2_with fail
      refine (cSame _ _ _ _ _ _ _ _ hs9 hv9).mono ?_
      rintro e wA ⟨rfl, hbA'⟩
      have hbA := hb9.trans (hbA'.mono hb9.size)
      clear hb9 hbA'
      go_wp2
      go_ret
      exact ⟨rfl, hbA⟩
    · have HQ : Hid (Cre G O n m q 5) := .inr ⟨HC.out, .inl ⟨fun e => hq (e.trans HL.out), rfl⟩⟩
      have hb4 := hbB
      have hC4 := hCB
      have hw4 := hr6
      obtain ⟨g0, g1⟩ := hC4.cells
      clear hbB hCB hr6 e1 e2 e3 f1 f2 f3
      go_wp2_with fail
      refine (cInputs _ _ _ _ _ _ _ _ _ (h.below hb4) (g.below hb4) (hS.below hb4)).mono ?_
      rintro e w5 ⟨⟨r2, hr2, hE, _⟩ | ⟨_, v5, rfl, ho5⟩, hb5'⟩
      · exact absurd (hE.one HC.out) hr2
      rw [HL.out] at ho5
      obtain ⟨a5, c5, rfl, hr5⟩ := RdI.own ho5 HWB.out
      have hb5 := hb4.trans (hb5'.mono hb4.size)
      have hC5 := hC4.below hb5' hC4.lt
      have hw5 := hw4.below hb5'
      obtain ⟨i0, i1⟩ := hC5.cells
      clear hb4 hC4 hw4 ho5 hb5' g0 g1
      go_wp2_with fail
      refine (cRun _ _ _ _ _ _ _ _ _ _ _ _ _ (h.below hb5) (g.below hb5) (ih.below hb5) (hS.below hb5)).mono ?_
      rintro e w6 ⟨⟨r3, hr3, hE, rfl⟩ | ⟨hE, _⟩, hb6'⟩
      case inr => exact absurd (hE.one HQ.out) (by decide)
      obtain rfl := hE.one HQ.out
      clear hE hr3
      have hb6 := hb5.trans (hb6'.mono hb5.size)
      have hC6 := hC5.below hb6' hC5.lt
      have hw6 := hw5.below hb6'
      have hr6 := hr5.below hb6'
      obtain ⟨j0, j1⟩ := hC6.cells
      clear hb5 hC5 hw5 hr5 hb6' i0 i1
      go_wp2_with fail
      refine (cPrint _ _ _ _ _ _ _ _ _ (h.below hb6) (g.below hb6) (hT.below hb6) (hS.below hb6)).mono ?_
      rintro e w7 ⟨⟨r4, hr4, hE, _⟩ | ⟨_, rfl⟩, hb7'⟩
      · exact absurd (hE.one HC.out) hr4
      rw [HX.out]
      have hb7 := hb6.trans (hb7'.mono hb6.size)
      have hC7 := hC6.below hb7' hC6.lt
      have hw7 := hw6.below hb7'
      have hr7' := hr6.below hb7'
      obtain ⟨k0, k1⟩ := hC7.cells
      clear hb6 hC6 hw6 hr6 hb7' j0 j1
      go_wp2_with fail
      refine (cCheckC _ _ _ _ _ _ _ _ _ (h.below hb7) (g.below hb7) (hS.below hb7)).mono ?_
      rintro e w8 ⟨r5, rfl, hE, hb8'⟩
      obtain rfl := hE.one HC.out
      have hb8 := hb7.trans (hb8'.mono hb7.size)
      have hw8 := hw7.below hb8'
      have hr8 := hr7'.below hb8'
      clear hb7 hC7 hw7 hr7' hb8' hE k0 k1
      go_wp2_with fail
      refine (zSame _ _ _ _ _ _ _ _ hr8 hw8).mono ?_
      rintro e w9 ⟨rfl, hb9'⟩
      have hb9 := hb8.trans (hb9'.mono hb8.size)
      clear hb8 hw8 hr8 hb9'
      go_wp2_with fail
      refine (cSame _ _ _ _ _ _ _ _ (nil_rd w9) (nil_rd w9)).mono ?_
      rintro e wA ⟨rfl, hbA'⟩
      have hbA := hb9.trans (hbA'.mono hb9.size)
      clear hb9 hbA'
      go_wp2
      go_ret
      exact ⟨rfl, hbA⟩

theorem circuitSaysW (ag : Option Addr) (n cg : Nat) (G : List Gt) (ao : Option Addr) (m co : Nat) (O : List Int) (ai : Option Addr) (q ca : Nat) (ins : List Int) (w : World) (h : RdG w ag n cg G) (g : RdI w ao m co O) (ih : Rd w ai q ca ins) (hT : Tabs w) (hV : Vb w) (hS : Shp w) :
    Calls Tryd.prog 3 #[.agg #[.slice ag n cg, .slice ao m co], .slice ai q ca] w fun e w' => e = .returned (.bool true) ∧ Below w.heap.size w w' := by
  by_cases hy : Cke G O n m 0
  · exact circuitSaysY _ _ _ _ _ _ _ _ _ _ _ _ _ h g ih hT hV hS hy
  · exact circuitSaysN _ _ _ _ _ _ _ _ _ _ _ _ _ h g ih hT hS hy
end
end Go.Proofs.YtljlioglpaogdabDoor
