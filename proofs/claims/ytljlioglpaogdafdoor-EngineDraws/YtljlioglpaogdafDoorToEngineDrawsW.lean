/- croftkeep.worked. · The walk of croftkeep.EngineDraws. -/
import Derived.Test.YtljlioglpaogdafDoorToSaidC
import Derived.Test.YtljlioglpaogdafDoorTinyC
import Derived.Test.YtljlioglpaogdafDoorToTopC
import Derived.Test.YtljlioglpaogdafDoorToCktC
import Derived.Test.YtljlioglpaogdafDoorToTopRightM
import Derived.Deep.RegionWith
import Derived.Deep.RegionHeld3
import Derived.BigQuiet
namespace Go.Proofs.YtljlioglpaogdafDoor
set_option linter.unusedVariables false
set_option maxRecDepth 100000
set_option maxHeartbeats 8000000
section
open Crm Go.RowKit
theorem tnyg_ok : Cke tnyG [4] 5 1 0 := by
  refine .inr ⟨⟨by decide, by decide⟩, .inr ⟨⟨by decide, by decide⟩, .inr ⟨⟨fun i hi => ?_, fun i hi => ?_⟩, rfl⟩⟩⟩
  · have : i = 0 ∨ i = 1 ∨ i = 2 ∨ i = 3 ∨ i = 4 := by omega
    rcases this with rfl | rfl | rfl | rfl | rfl <;> (unfold okg; decide)
  · obtain rfl : i = 0 := by omega
    decide
theorem tnyg_run : Ere tnyG [4] 5 1 3 1 2 5 0 := .inr ⟨.inr ⟨tnyg_ok, .inr ⟨⟨by decide, by decide, by decide, by decide⟩, rfl⟩⟩, .inr ⟨by decide, .inr ⟨by decide, rfl⟩⟩⟩
theorem tnyg_out : otl tnyG [4] [3, 4] 1 = [19] := by decide
theorem tnyg_see : ((snl tnyG [4] 3 1 [3, 4] [1, 2, 3, 4, 5] 5 1).getD 0 []).length = 8 ∧ ((snl tnyG [4] 3 1 [3, 4] [1, 2, 3, 4, 5] 5 1).getD 0 []).getD 0 0 = 4 := by
  rw [snl_getD _ _ _ _ _ _ _ _ (by omega)]
  have e0 : esn tnyG 3 1 [3, 4] [1, 2, 3, 4, 5] 0 0 = [4] := by decide
  have e1 : esn tnyG 3 1 [3, 4] [1, 2, 3, 4, 5] 1 0 = [6] := by decide
  have e2 : (esn tnyG 3 1 [3, 4] [1, 2, 3, 4, 5] 2 0).length = 3 := by unfold esn; rw [if_neg (by decide), if_pos (by decide)]; exact tmR_len _ _ _ _ _ _
  have e3 : esn tnyG 3 1 [3, 4] [1, 2, 3, 4, 5] 3 0 = [] := rfl
  have e4 : esn tnyG 3 1 [3, 4] [1, 2, 3, 4, 5] 4 0 = [] := rfl
  have r5 : List.range 5 = [0, 1, 2, 3, 4] := rfl
  have r1 : List.range 1 = [0] := rfl
  unfold sno sng
  rw [r5, r1]
  simp only [List.flatMap_cons, List.flatMap_nil, e0, e1, e3, e4, List.append_nil]
  refine ⟨?_, rfl⟩
  simp only [List.length_append, e2, ew_len]
  rfl

theorem kWorked (w : World) (hS : Shp w) :
    Calls Tryd.prog 17 #[] w fun e w' => e = .returned (.bool true) ∧ Below w.heap.size w w' := by
  go_enter Tryd.func17, Tryd.ntmps17
  go_wp2_with fail
  refine (kTiny _).mono ?_
  rintro e w1 ⟨ta, tb, rfl, hg1, ho1, hb1⟩
  go_wp2_with fail
  have hb2 : Below w1.heap.size w1 (w1.alloc (.cells #[.int .u64 3, .int .u64 4] 37)) := (Below.refl _ _).alloc (Nat.le_refl _) _
  have hx : Rd (w1.alloc (.cells #[.int .u64 3, .int .u64 4] 37)) (some ⟨w1.heap.size, 0, none⟩) 2 2 [3, 4] := lit_rd (xs := [3, 4]) (heap_alloc_new w1 _) rfl (by omega) (by decide)
  have hs2 : (w1.alloc (.cells #[.int .u64 3, .int .u64 4] 37)).heap.size = w1.heap.size + 1 := by simp
  generalize w1.alloc (.cells #[.int .u64 3, .int .u64 4] 37) = w2 at *
  rw [← hs2]
  have hb3' : Below w2.heap.size w2 (w2.alloc (.cells #[.int .u64 1, .int .u64 2, .int .u64 3, .int .u64 4, .int .u64 5] 37)) := (Below.refl _ _).alloc (Nat.le_refl _) _
  have hy : Rd (w2.alloc (.cells #[.int .u64 1, .int .u64 2, .int .u64 3, .int .u64 4, .int .u64 5] 37)) (some ⟨w2.heap.size, 0, none⟩) 5 5 [1, 2, 3, 4, 5] := lit_rd (xs := [1, 2, 3, 4, 5]) (heap_alloc_new w2 _) rfl (by omega) (by decide)
  generalize w2.alloc (.cells #[.int .u64 1, .int .u64 2, .int .u64 3, .int .u64 4, .int .u64 5] 37) = w3 at *
  have hb3 := hb2.trans (hb3'.mono hb2.size)
  refine (eRun _ _ _ _ _ _ _ _ 3 1 _ _ _ _ _ _ _ _ _ (hg1.below hb3) (ho1.below hb3) (hx.below hb3') hy (by omega) (by omega) (hS.below (hb1.trans (hb3.mono hb1.size)))).mono ?_
  rintro e w4 ⟨⟨r3, hr3, hE3, _⟩ | ⟨_, a7, c7, b7, k7, rfl, hr7, hr8⟩, hb4'⟩
  · exact absurd (hE3.one tnyg_run) hr3
  rw [tnyg_out] at hr7
  have e3 : (3 : Int).toNat = 3 := rfl
  have e1 : (1 : Int).toNat = 1 := rfl
  rw [e3, e1] at hr8
  rw [e3]
  obtain ⟨b, o, ai, ni, ci, row, rfl, hbl, HR, hc, hrow⟩ := hr8.one (k := 0) (by omega)
  have hrr := HR.out
  obtain rfl : 8 = ni := by rw [← hrow.len, ← hrr]; exact tnyg_see.1.symm
  have h4 : row.getD 0 0 = 4 := by rw [← hrr]; exact tnyg_see.2
  clear hrr
  have hb4 := hb1.trans ((hb3.trans (hb4'.mono hb3.size)).mono hb1.size)
  have hk7 := hr8.cap
  have hm7 := hr8.max
  unfold maxLen at hm7
  clear hr8 hb1 hb2 hb3 hb3' hb4' hg1 ho1 hx hy hs2 HR e3 e1
  go_wp2_with fail
  have hb5' : Below w4.heap.size w4 (w4.alloc (.cells #[.int .u64 19] 37)) := (Below.refl _ _).alloc (Nat.le_refl _) _
  have hx5 : Rd (w4.alloc (.cells #[.int .u64 19] 37)) (some ⟨w4.heap.size, 0, none⟩) 1 1 [19] := lit_rd (xs := [19]) (heap_alloc_new w4 _) rfl (by omega) (by decide)
  generalize w4.alloc (.cells #[.int .u64 19] 37) = w5 at *
  refine (cSame _ _ _ _ _ _ _ _ (hr7.below hb5') hx5).mono ?_
  rintro e w6 ⟨rfl, hb6'⟩
  have hb46 := hb5'.trans (hb6'.mono hb5'.size)
  have hb6 := hb4.trans (hb46.mono hb4.size)
  have hrow6 := hrow.below hb46
  have hc6 : w6.cell? ⟨b, o + 0, none⟩ = some (.slice ai 8 ci) := by rw [hb46.cell hbl]; exact hc
  clear hb4 hb5' hb6' hx5 hr7 hrow hc
  obtain ⟨b2, o2, x2, rfl, hbl2, HX2, hx2, hcx⟩ := hrow6.one (k := 0) (by omega)
  have hx2e := HX2.out
  rw [h4] at hx2e
  subst hx2e
  have hcap6 := hrow6.cap
  have hmax6 := hrow6.max
  unfold maxLen at hmax6
  rw [Nat.add_zero] at hc6 hcx
  go_wp2
  go_ret
  exact ⟨rfl, hb6⟩
/-- A row of what was seen: as many numbers as each other. -/
theorem seen_row {w : World} {G : List Gt} {O ins ds es : List Int} {n t N m c j : Nat} {b : Option Addr} (h : RdR w b n c (snl G O n t ins ds N m)) (hj : j < n) : ∃ g o a k, b = some ⟨g, o, none⟩ ∧ g < w.heap.size ∧ w.cell? ⟨g, o + j, none⟩ = some (.slice a (sno G O n t ins es N m 0).length k) ∧ Rd w a (sno G O n t ins es N m 0).length k (sno G O n t ins ds N m j) := by
  obtain ⟨g, o, ai, ni, ci, row, e1, e2, HR, e3, e4⟩ := h.one hj
  have hl := e4.len
  rw [← HR.out, snl_getD _ _ _ _ _ _ _ _ hj, sno_len G O n t ins ds es N m j 0] at hl
  rw [← HR.out, snl_getD _ _ _ _ _ _ _ _ hj, ← hl] at e4
  rw [← hl] at e3
  exact ⟨g, o, ai, ci, e1, e2, e3, e4⟩

theorem engineDrawsW (ag : Option Addr) (N cg : Nat) (G : List Gt) (ao : Option Addr) (m co : Nat) (O : List Int) (n t : Int) (ai : Option Addr) (q ca : Nat) (ins : List Int) (ad : Option Addr) (d cd : Nat) (ds : List Int) (af : Option Addr) (f cf : Nat) (es : List Int) (w : World) (h : RdG w ag N cg G) (g : RdI w ao m co O) (hn0 : -9223372036854775808 ≤ n) (hn1 : n ≤ 9223372036854775807) (ht0 : -9223372036854775808 ≤ t) (ht1 : t ≤ 9223372036854775807) (ih : Rd w ai q ca ins) (dh : Rd w ad d cd ds) (fh : Rd w af f cf es) (hS : Shp w) :
    Calls Tryd.prog 5 #[.agg #[.slice ag N cg, .slice ao m co], .int .i64 n, .int .i64 t, .slice ai q ca, .slice ad d cd, .slice af f cf] w fun e w' => e = .returned (.bool true) ∧ Below w.heap.size w w' := by
  have hn : -9223372036854775808 ≤ n ∧ n ≤ 9223372036854775807 := ⟨hn0, hn1⟩
  have ht : -9223372036854775808 ≤ t ∧ t ≤ 9223372036854775807 := ⟨ht0, ht1⟩
  clear hn0 hn1 ht0 ht1
  have hC0 := CBox.new w ag N cg ao m co
  have hb0 : Below w.heap.size w (w.alloc (.cells #[.slice ag N cg, .slice ao m co] 25)) := (Below.refl _ _).alloc (Nat.le_refl _) _
  go_enter Tryd.func5, Tryd.ntmps5
  go_wp2_with fail
  generalize w.alloc (.cells #[.slice ag N cg, .slice ao m co] 25) = w0 at *
  refine (kWorked _ (hS.below hb0)).mono ?_
  rintro e w1 ⟨rfl, hb1'⟩
  have hb1 := hb0.trans (hb1'.mono hb0.size)
  have hC1 := hC0.below hb1' hC0.lt
  obtain ⟨d0, d1⟩ := hC1.cells
  clear hC0 hb1' hb0
  go_wp2_with fail
  refine (eNeed _ _ _ _ _ _ _ _ _ _ _ (h.below hb1) (g.below hb1) hn ht (hS.below hb1)).mono ?_
  rintro e w2 ⟨⟨r, hr, hE, rfl⟩ | ⟨hE, rfl⟩, hb2'⟩
  · have hb2 := hb1.trans (hb2'.mono hb1.size)
    clear hE hb1 hC1 hb2' d0 d1
    go_wp2
    go_ret
    exact ⟨rfl, hb2⟩
  have HE : Hid (Nde G O N m n t 0) := hE
  obtain ⟨c1, n, t, rfl, rfl, o1, o2, o3⟩ := hE.facts
  have HC : Hid (Cke G O N m 0) := c1
  have hN := c1.ok.1
  have HWB : Hid (∀ x ∈ whl G N, -9223372036854775808 ≤ x ∧ x ≤ 9223372036854775807) := whl_bd (fun i hi => (h.bd i hi).2.1) N (Nat.le_refl _)
  have hdl := dwn_le G (n := n) (t := t) (by omega) (by omega) N
  have hcl := ci_le G N
  rw [Int.toNat_natCast, Int.toNat_natCast] at *
  have hb2 := hb1.trans (hb2'.mono hb1.size)
  have hC2 := hC1.below hb2' hC1.lt
  obtain ⟨e0, e1⟩ := hC2.cells
  obtain ⟨D, HD⟩ : ∃ D, Hid (dwn G n t N = D) := ⟨_, rfl⟩
  obtain ⟨l, HL⟩ : ∃ l, Hid (ci G N = l) := ⟨_, rfl⟩
  rw [HD.out] at hdl ⊢
  rw [HL.out] at hcl
  have HQ : Hid (Ere G O N m n t l D 0) := .inr ⟨HE.out, .inr ⟨HL.out.symm, .inr ⟨HD.out.symm, rfl⟩⟩⟩
  have HR : Hid (Cre G O N m l 0) := .inr ⟨HC.out, .inr ⟨HL.out.symm, rfl⟩⟩
  clear hE c1 hb1 hC1 hb2' d0 d1
  go_wp2_with fail
  refine (cInputs _ _ _ _ _ _ _ _ _ (h.below hb2) (g.below hb2) (hS.below hb2)).mono ?_
  rintro e w3 ⟨⟨r2, hr2, hE, _⟩ | ⟨_, v5, rfl, ho5⟩, hb3'⟩
  · exact absurd (hE.one HC.out) hr2
  rw [HL.out] at ho5
  obtain ⟨a5, c5, rfl, hr5⟩ := RdI.own ho5 HWB.out
  have hc5 := hr5.cap
  have hm5 := hr5.max
  unfold maxLen at hm5
  have hb3 := hb2.trans (hb3'.mono hb2.size)
  have hC3 := hC2.below hb3' hC2.lt
  obtain ⟨f0, f1⟩ := hC3.cells
  clear hb2 hC2 hb3' e0 e1 ho5 hr5
  go_wp2_with fail
  refine (kFilled2 _ _ _ _ l _ (ih.below hb3) (by omega)).mono ?_
  rintro e w4 ⟨gx, rfl, hx, hb4'⟩
  have hb4 := hb3.trans (hb4'.mono hb3.size)
  have hC4 := hC3.below hb4' hC3.lt
  obtain ⟨g0, g1⟩ := hC4.cells
  clear hb3 hC3 hb4' f0 f1
  have hl4 := hC4.lt
  have HALL : Hid (∀ w', Below w4.heap.size w4 w' → w'.cell? ⟨w.heap.size, 0, none⟩ = some (.slice ag N cg) ∧ w'.cell? ⟨w.heap.size, 1, none⟩ = some (.slice ao m co) ∧ w.heap.size < w'.heap.size) := fun w' hb => ⟨(hC4.below hb hl4).cells.1, (hC4.below hb hl4).cells.2, (hC4.below hb hl4).lt⟩
  have HRD : Hid (∀ w', Below w4.heap.size w4 w' → RdG w' ag N cg G ∧ RdI w' ao m co O ∧ Rd w' (some ⟨gx, 0, none⟩) l l (padded ins l) ∧ Rd w' ad d cd ds ∧ Rd w' af f cf es ∧ Shp w') := fun w' hb => ⟨(h.below hb4).below hb, (g.below hb4).below hb, hx.below hb, (dh.below hb4).below hb, (fh.below hb4).below hb, (hS.below hb4).below hb⟩
  have hcur : Below w4.heap.size w4 w4.drew := (Below.refl _ _).drew
  obtain ⟨Lc, HLC⟩ : ∃ Lc, Hid ((sno G O n t (padded ins l) [] N m 0).length = Lc) := ⟨_, rfl⟩
  have hLc : Lc ≤ 1000000 := by have := sno_bound G O n t (padded ins l) [] N m 0 o2; rw [HLC.out] at this; have := HC.out.ok.2.1; omega
  have hn1 : 1 ≤ n := by omega
  go_wp2
  go_region_held3 (fun w' => w'.cell? ⟨w.heap.size, 0, none⟩ = some (.slice ag N cg) ∧ w'.cell? ⟨w.heap.size, 1, none⟩ = some (.slice ao m co)) (go_keep) (first | (go_at_call 15; refine (kFilled2 _ _ _ _ D _ (HRD.out _ hcur).2.2.2.1 (by omega)).mono ?_; rintro en w5 ⟨gd, rfl, hd, hb⟩; have hcur := hcur.trans (hb.mono hcur.size); obtain ⟨i0, i1, i2⟩ := HALL.out _ hcur; clear hb) | (go_at_call 19; refine (eRun _ _ _ _ _ _ _ _ n t _ _ _ _ _ _ _ _ _ (HRD.out _ hcur).1 (HRD.out _ hcur).2.1 (HRD.out _ hcur).2.2.1 hd hn ht (HRD.out _ hcur).2.2.2.2.2).mono ?_; rintro en w6 ⟨⟨r3, hr3, hE3, _⟩ | ⟨_, a7, c7, b7, k7, rfl, hr7, hs7⟩, hb⟩; exact absurd (hE3.one HQ.out) hr3; have hcur := hcur.trans (hb.mono hcur.size); obtain ⟨j0, j1, j2⟩ := HALL.out _ hcur; clear hb))
  all_goals
    rw [Int.toNat_natCast, Int.toNat_natCast] at hs7
    have hcurD := hcur.drew
    have hsec : Below w6.heap.size w6 w6.drew := (Below.refl _ _).drew
    clear i0 i1 i2 hd g0 g1
    go_upto_region 9 with fail
    go_region_held3 (fun w' => w'.cell? ⟨w.heap.size, 0, none⟩ = some (.slice ag N cg) ∧ w'.cell? ⟨w.heap.size, 1, none⟩ = some (.slice ao m co)) (go_keep) (first | (go_at_call 15; refine (kFilled2 _ _ _ _ D _ (HRD.out _ hcurD).2.2.2.2.1 (by omega)).mono ?_; rintro en w8 ⟨gd, rfl, hd, hb⟩; have hcurD := hcurD.trans (hb.mono hcurD.size); have hsec := hsec.trans (hb.mono hsec.size); obtain ⟨i0, i1, i2⟩ := HALL.out _ hcurD; clear hb) | (go_at_call 19; refine (eRun _ _ _ _ _ _ _ _ n t _ _ _ _ _ _ _ _ _ (HRD.out _ hcurD).1 (HRD.out _ hcurD).2.1 (HRD.out _ hcurD).2.2.1 hd hn ht (HRD.out _ hcurD).2.2.2.2.2).mono ?_; rintro en w9 ⟨⟨r3, hr3, hE3, _⟩ | ⟨_, a9, c9, b9, k9, rfl, hr9, hs9⟩, hb⟩; exact absurd (hE3.one HQ.out) hr3; have hcurD := hcurD.trans (hb.mono hcurD.size); have hsec := hsec.trans (hb.mono hsec.size); obtain ⟨l0, l1, l2⟩ := HALL.out _ hcurD; clear hb))
    all_goals
      rw [Int.toNat_natCast, Int.toNat_natCast] at hs9
      have hb6 := hb4.trans (hcurD.mono hb4.size)
      have hC6 := hC4.below hcurD hl4
      have hx6 := (HRD.out _ hcurD).2.2.1
      have hr7 := hr7.below hsec
      have hs7 := hs7.below hsec
      clear hb4 hC4 hl4 HALL HRD hcur hcurD hx hd i0 i1 i2 j0 j1 j2 hsec
      go_wp2_with fail
      refine (cRun _ _ _ _ _ _ _ _ _ _ _ _ _ (h.below hb6) (g.below hb6) hx6 (hS.below hb6)).mono ?_
      rintro e w10 ⟨⟨r3, hr3, hE, _⟩ | ⟨_, v6, rfl, ho6⟩, hb7'⟩
      · exact absurd (hE.one HR.out) hr3
      obtain ⟨a8, c8, rfl, hr8, _⟩ := Rd.own ho6 (bd_u64 (otl_bd G O _ m))
      have hb7 := hb6.trans (hb7'.mono hb6.size)
      have hr7 := hr7.below hb7'
      have hr9 := hr9.below hb7'
      have hs7 := hs7.below hb7'
      have hs9 := hs9.below hb7'
      have hk7 := hs7.cap
      have hm7 := hs7.max
      have hk9 := hs9.cap
      have hm9 := hs9.max
      unfold maxLen at hm7 hm9
      clear hb6 hC6 hb7' l0 l1 l2 hx6 ho6
      go_wp2_with fail
      refine (cSame _ _ _ _ _ _ _ _ hr7 hr9).mono ?_
      rintro e w11 ⟨rfl, hb8'⟩
      have hb8 := hb7.trans (hb8'.mono hb7.size)
      have hr7 := hr7.below hb8'
      have hr8 := hr8.below hb8'
      have hs7 := hs7.below hb8'
      have hs9 := hs9.below hb8'
      clear hb7 hb8' hr9
      go_wp2_with fail
      refine (cSame _ _ _ _ _ _ _ _ hr7 hr8).mono ?_
      rintro e w12 ⟨rfl, hb9'⟩
      have hb9 := hb8.trans (hb9'.mono hb8.size)
      have hs7 := hs7.below hb9'
      have hs9 := hs9.below hb9'
      clear hb8 hb9' hr7 hr8
      go_wp2
      have HS7 : Hid (RdR w12 b7 n k7 (snl G O n t (padded ins l) (padded ds D) N m)) := hs7
      have HS9 : Hid (RdR w12 b9 n k9 (snl G O n t (padded ins l) (padded es D) N m)) := hs9
      clear hs7 hs9
      go_loopw [114] (fun v wq => ∃ j : Nat, j ≤ n ∧ v = .int .i64 j ∧ Hid (RdR wq b7 n k7 (snl G O n t (padded ins l) (padded ds D) N m)) ∧ Hid (RdR wq b9 n k9 (snl G O n t (padded ins l) (padded es D) N m)) ∧ Below w.heap.size w wq) (fun v _ => n - (intOf v).toNat)
      case atStart => exact ⟨0, Nat.zero_le _, rfl, HS7, HS9, hb9⟩
      case round =>
        clear HS7 HS9 hb9
        obtain ⟨j, hj, rfl, HS7, HS9, hbel⟩ := hrel
        by_cases hjn : j < n
        · obtain ⟨g7, o7, p7, z7, rfl, hg7, hc7, _⟩ := seen_row (es := []) HS7.out hjn
          obtain ⟨g9, o9, p9, z9, rfl, hg9, hc9, _⟩ := seen_row (es := []) HS9.out hjn
          obtain ⟨g8, o8, p8, z8, e8, hg8, hc8, _⟩ := seen_row (es := []) HS7.out (j := 0) (by omega)
          simp only [Option.some.injEq, Addr.mk.injEq, and_true] at e8
          obtain ⟨rfl, rfl⟩ := e8
          rw [HLC.out] at hc7 hc8 hc9
          rw [Nat.add_zero] at hc8
          have hj0 : (0 : Int) ≤ (j : Int) := by omega
          have hjni : (j : Int) < (n : Int) := by omega
          have hn0 : (0 : Int) < (n : Int) := by omega
          have hbN := hbel.drew
          have HS7D : Hid (RdR wr.drew (some ⟨g7, o7, none⟩) n k7 (snl G O n t (padded ins l) (padded ds D) N m)) := HS7.out.below ((Below.refl _ _).drew)
          have HS9D : Hid (RdR wr.drew (some ⟨g9, o9, none⟩) n k9 (snl G O n t (padded ins l) (padded es D) N m)) := HS9.out.below ((Below.refl _ _).drew)
          clear HS7 HS9 hbel
          go_wp2
          go_region
          all_goals
            go_wp2
            go_roundw
            case rel => exact ⟨j + 1, by omega, by go_num, HS7D, HS9D, hbN⟩
            case measure => simp [intOf]; omega
        · have hjn2 : j = n := by omega
          subst hjn2
          go_wp2
          go_ret
          exact ⟨rfl, hbel⟩
end
end Go.Proofs.YtljlioglpaogdafDoor
