/- crofttop.said. · The walk of crofttop.TopRight. -/
import Derived.Test.YtljlioglpaogdagDoorEnU
import Derived.Test.YtljlioglpaogdagDoorTopTinyC
import Derived.Test.YtljlioglpaogdagDoorToTopC
import Derived.Test.YtljlioglpaogdagDoorToCktC
import Derived.Test.YtljlioglpaogdagDoorToTopRightM
import Derived.Deep.RegionWith
import Derived.Deep.RegionHeld3
namespace Go.Proofs.YtljlioglpaogdagDoor
set_option linter.unusedVariables false
set_option maxRecDepth 100000
set_option maxHeartbeats 8000000
section
open Crm Go.RowKit
theorem lit_rd {w : World} {gb : Nat} {xs : List Int} {n : Nat} {E : TypeId} {z : Nat × Nat} (h : w.heap[gb]? = some (.cells (xs.map (Value.int .u64)).toArray E z)) (hl : xs.length = n) (hn : n ≤ 1000) (hb : ∀ x ∈ xs, 0 ≤ x ∧ x ≤ 18446744073709551615) : Rd w (some ⟨gb, 0, none⟩) n n xs := by
  refine ⟨hl, Nat.le_refl _, by unfold maxLen; omega, hb, by simp, fun x hx i hi => ?_⟩
  obtain rfl := Option.some.inj hx
  rw [Addr.add_lit, Nat.zero_add, cell_of_row w _ _ _ _ z h]
  simp [show i < xs.length by omega]
theorem tnyT_ok : Cke tnyT [3] 4 1 0 := by
  refine .inr ⟨⟨by decide, by decide⟩, .inr ⟨⟨by decide, by decide⟩, .inr ⟨⟨fun i hi => ?_, fun i hi => ?_⟩, rfl⟩⟩⟩
  · have : i = 0 ∨ i = 1 ∨ i = 2 ∨ i = 3 := by omega
    rcases this with rfl | rfl | rfl | rfl <;> (unfold okg; decide)
  · obtain rfl : i = 0 := by omega
    decide
theorem tnyT_run : Ere tnyT [3] 4 1 3 1 2 2 0 := .inr ⟨.inr ⟨tnyT_ok, .inr ⟨⟨by decide, by decide, by decide, by decide⟩, rfl⟩⟩, .inr ⟨by decide, .inr ⟨by decide, rfl⟩⟩⟩
theorem tnyT_out : otl tnyT [3] [5, 6] 1 = [21] := by decide
theorem tnyT_see : (snl tnyT [3] 3 1 [5, 6] [1, 2] 4 1).getD 1 [] = [7, 10, 26, 31, 36] := by decide

theorem tSaid (w : World) (hS : Shp w) :
    Calls Tryd.prog 28 #[] w fun e w' => e = .returned (.bool true) ∧ Below w.heap.size w w' := by
  go_enter Tryd.func28, Tryd.ntmps28
  go_wp2_with fail
  refine (tTiny _).mono ?_
  rintro e w1 ⟨ta, tb, rfl, hg1, ho1, hb1⟩
  go_wp2_with fail
  have hb2 : Below w1.heap.size w1 (w1.alloc (.cells #[.int .u64 5, .int .u64 6] 34)) := (Below.refl _ _).alloc (Nat.le_refl _) _
  have hx : Rd (w1.alloc (.cells #[.int .u64 5, .int .u64 6] 34)) (some ⟨w1.heap.size, 0, none⟩) 2 2 [5, 6] := lit_rd (xs := [5, 6]) (heap_alloc_new w1 _) rfl (by omega) (by decide)
  have hs2 : (w1.alloc (.cells #[.int .u64 5, .int .u64 6] 34)).heap.size = w1.heap.size + 1 := by simp
  generalize w1.alloc (.cells #[.int .u64 5, .int .u64 6] 34) = w2 at *
  rw [← hs2]
  have hb3' : Below w2.heap.size w2 (w2.alloc (.cells #[.int .u64 1, .int .u64 2] 34)) := (Below.refl _ _).alloc (Nat.le_refl _) _
  have hy : Rd (w2.alloc (.cells #[.int .u64 1, .int .u64 2] 34)) (some ⟨w2.heap.size, 0, none⟩) 2 2 [1, 2] := lit_rd (xs := [1, 2]) (heap_alloc_new w2 _) rfl (by omega) (by decide)
  generalize w2.alloc (.cells #[.int .u64 1, .int .u64 2] 34) = w3 at *
  have hb3 := hb2.trans (hb3'.mono hb2.size)
  refine (eRun _ _ _ _ _ _ _ _ 3 1 _ _ _ _ _ _ _ _ _ (hg1.below hb3) (ho1.below hb3) (hx.below hb3') hy (by omega) (by omega) (hS.below (hb1.trans (hb3.mono hb1.size)))).mono ?_
  rintro e w4 ⟨⟨r3, hr3, hE3, _⟩ | ⟨_, a7, c7, b7, k7, rfl, hr7, hr8⟩, hb4'⟩
  · exact absurd (hE3.one tnyT_run) hr3
  rw [tnyT_out] at hr7
  have e3 : (3 : Int).toNat = 3 := rfl
  have e1 : (1 : Int).toNat = 1 := rfl
  rw [e3, e1] at hr8
  rw [e3]
  obtain ⟨b, o, ai, ni, ci, row, rfl, hbl, HR, hc, hrow⟩ := hr8.one (k := 1) (by omega)
  have hrr := HR.out
  rw [tnyT_see] at hrr
  subst hrr
  obtain rfl : 5 = ni := hrow.len
  have hb4 := hb1.trans ((hb3.trans (hb4'.mono hb3.size)).mono hb1.size)
  have hk7 := hr8.cap
  have hm7 := hr8.max
  unfold maxLen at hm7
  clear hr8 hb1 hb2 hb3 hb3' hb4' hg1 ho1 hx hy hs2 HR e3 e1
  go_wp2_with fail
  have hb5' : Below w4.heap.size w4 (w4.alloc (.cells #[.int .u64 21] 34)) := (Below.refl _ _).alloc (Nat.le_refl _) _
  have hx5 : Rd (w4.alloc (.cells #[.int .u64 21] 34)) (some ⟨w4.heap.size, 0, none⟩) 1 1 [21] := lit_rd (xs := [21]) (heap_alloc_new w4 _) rfl (by omega) (by decide)
  generalize w4.alloc (.cells #[.int .u64 21] 34) = w5 at *
  refine (cSame _ _ _ _ _ _ _ _ (hr7.below hb5') hx5).mono ?_
  rintro e w6 ⟨rfl, hb6'⟩
  have hb46 := hb5'.trans (hb6'.mono hb5'.size)
  have hb6 := hb4.trans (hb46.mono hb4.size)
  have hrow6 := hrow.below hb46
  have hc6 : w6.cell? ⟨b, o + 1, none⟩ = some (.slice ai 5 ci) := by rw [hb46.cell hbl]; exact hc
  clear hb4 hb5' hb6' hx5 hr7 hrow hc
  go_wp2_with fail
  have hb7' : Below w6.heap.size w6 (w6.alloc (.cells #[.int .u64 7, .int .u64 10, .int .u64 26, .int .u64 31, .int .u64 36] 34)) := (Below.refl _ _).alloc (Nat.le_refl _) _
  have hx7 : Rd (w6.alloc (.cells #[.int .u64 7, .int .u64 10, .int .u64 26, .int .u64 31, .int .u64 36] 34)) (some ⟨w6.heap.size, 0, none⟩) 5 5 [7, 10, 26, 31, 36] := lit_rd (xs := [7, 10, 26, 31, 36]) (heap_alloc_new w6 _) rfl (by omega) (by decide)
  generalize w6.alloc (.cells #[.int .u64 7, .int .u64 10, .int .u64 26, .int .u64 31, .int .u64 36] 34) = w7 at *
  refine (cSame _ _ _ _ _ _ _ _ (hrow6.below hb7') hx7).mono ?_
  rintro e w8 ⟨rfl, hb8'⟩
  have hb8 := hb6.trans ((hb7'.trans (hb8'.mono hb7'.size)).mono hb6.size)
  clear hb7' hx7 hb8' hb6
  go_wp2
  go_ret
  exact ⟨rfl, hb8⟩
theorem topRightW (ag : Option Addr) (N cg : Nat) (G : List Gt) (ao : Option Addr) (m co : Nat) (O : List Int) (n t : Int) (ai : Option Addr) (q ca : Nat) (ins : List Int) (ad : Option Addr) (d cd : Nat) (ds : List Int) (w : World) (h : RdG w ag N cg G) (g : RdI w ao m co O) (hn0 : -9223372036854775808 ≤ n) (hn1 : n ≤ 9223372036854775807) (ht0 : -9223372036854775808 ≤ t) (ht1 : t ≤ 9223372036854775807) (ih : Rd w ai q ca ins) (dh : Rd w ad d cd ds) (hS : Shp w) :
    Calls Tryd.prog 4 #[.agg #[.slice ag N cg, .slice ao m co], .int .i64 n, .int .i64 t, .slice ai q ca, .slice ad d cd] w fun e w' => e = .returned (.bool true) ∧ Below w.heap.size w w' := by
  have hn : -9223372036854775808 ≤ n ∧ n ≤ 9223372036854775807 := ⟨hn0, hn1⟩
  have ht : -9223372036854775808 ≤ t ∧ t ≤ 9223372036854775807 := ⟨ht0, ht1⟩
  clear hn0 hn1 ht0 ht1
  have hC0 := CBox.new w ag N cg ao m co
  have hb0 : Below w.heap.size w (w.alloc (.cells #[.slice ag N cg, .slice ao m co] 26)) := (Below.refl _ _).alloc (Nat.le_refl _) _
  go_enter Tryd.func4, Tryd.ntmps4
  go_wp2_with fail
  generalize w.alloc (.cells #[.slice ag N cg, .slice ao m co] 26) = w0 at *
  refine (tSaid _ (hS.below hb0)).mono ?_
  rintro e w1 ⟨rfl, hb1'⟩
  have hb1 := hb0.trans (hb1'.mono hb0.size)
  have hC1 := hC0.below hb1' hC0.lt
  obtain ⟨d0, d1⟩ := hC1.cells
  clear hC0 hb1' hb0
  go_wp2_with fail
  refine (eNeed _ _ _ _ _ _ _ _ _ _ _ (h.below hb1) (g.below hb1) hn ht (hS.below hb1)).mono ?_
  rintro e w2 ⟨⟨r, hr, hE, rfl⟩ | ⟨hE, rfl⟩, hb2'⟩
  · have hb2 := hb1.trans (hb2'.mono hb1.size)
    clear hE hb1 hC1 hb2' d0 d1
    go_wp2
    go_ret
    exact ⟨rfl, hb2⟩
  have HE : Hid (Nde G O N m n t 0) := hE
  obtain ⟨c1, n, t, rfl, rfl, o1, o2, o3⟩ := hE.facts
  have HC : Hid (Cke G O N m 0) := c1
  have hN := c1.ok.1
  have HWB : Hid (∀ x ∈ whl G N, -9223372036854775808 ≤ x ∧ x ≤ 9223372036854775807) := whl_bd (fun i hi => (h.bd i hi).2.1) N (Nat.le_refl _)
  have hdl := dwn_le G (n := n) (t := t) (by omega) (by omega) N
  have hcl := ci_le G N
  rw [Int.toNat_natCast, Int.toNat_natCast] at *
  have hb2 := hb1.trans (hb2'.mono hb1.size)
  have hC2 := hC1.below hb2' hC1.lt
  obtain ⟨e0, e1⟩ := hC2.cells
  obtain ⟨D, HD⟩ : ∃ D, Hid (dwn G n t N = D) := ⟨_, rfl⟩
  obtain ⟨l, HL⟩ : ∃ l, Hid (ci G N = l) := ⟨_, rfl⟩
  rw [HD.out] at hdl ⊢
  rw [HL.out] at hcl
  have HQ : Hid (Ere G O N m n t l D 0) := .inr ⟨HE.out, .inr ⟨HL.out.symm, .inr ⟨HD.out.symm, rfl⟩⟩⟩
  have HR : Hid (Cre G O N m l 0) := .inr ⟨HC.out, .inr ⟨HL.out.symm, rfl⟩⟩
  clear hE c1 hb1 hC1 hb2' d0 d1
  go_wp2_with fail
  refine (cInputs _ _ _ _ _ _ _ _ _ (h.below hb2) (g.below hb2) (hS.below hb2)).mono ?_
  rintro e w3 ⟨⟨r2, hr2, hE, _⟩ | ⟨_, v5, rfl, ho5⟩, hb3'⟩
  · exact absurd (hE.one HC.out) hr2
  rw [HL.out] at ho5
  obtain ⟨a5, c5, rfl, hr5⟩ := RdI.own ho5 HWB.out
  have hc5 := hr5.cap
  have hm5 := hr5.max
  unfold maxLen at hm5
  have hb3 := hb2.trans (hb3'.mono hb2.size)
  have hC3 := hC2.below hb3' hC2.lt
  obtain ⟨f0, f1⟩ := hC3.cells
  clear hb2 hC2 hb3' e0 e1 ho5 hr5
  go_wp2_with fail
  refine (tFilled _ _ _ _ l _ (ih.below hb3) (by omega)).mono ?_
  rintro e w4 ⟨gx, rfl, hx, hb4'⟩
  have hb4 := hb3.trans (hb4'.mono hb3.size)
  have hC4 := hC3.below hb4' hC3.lt
  obtain ⟨g0, g1⟩ := hC4.cells
  clear hb3 hC3 hb4' f0 f1
  have hl4 := hC4.lt
  have HALL : Hid (∀ w', Below w4.heap.size w4 w' → w'.cell? ⟨w.heap.size, 0, none⟩ = some (.slice ag N cg) ∧ w'.cell? ⟨w.heap.size, 1, none⟩ = some (.slice ao m co) ∧ w.heap.size < w'.heap.size) := fun w' hb => ⟨(hC4.below hb hl4).cells.1, (hC4.below hb hl4).cells.2, (hC4.below hb hl4).lt⟩
  have HRD : Hid (∀ w', Below w4.heap.size w4 w' → RdG w' ag N cg G ∧ RdI w' ao m co O ∧ Rd w' (some ⟨gx, 0, none⟩) l l (padded ins l) ∧ Rd w' ad d cd ds ∧ Shp w') := fun w' hb => ⟨(h.below hb4).below hb, (g.below hb4).below hb, hx.below hb, (dh.below hb4).below hb, (hS.below hb4).below hb⟩
  have hcur : Below w4.heap.size w4 w4.drew := (Below.refl _ _).drew
  go_wp2
  go_region_held3 (fun w' => w'.cell? ⟨w.heap.size, 0, none⟩ = some (.slice ag N cg) ∧ w'.cell? ⟨w.heap.size, 1, none⟩ = some (.slice ao m co)) (go_keep) (first | (go_at_call 29; refine (tFilled _ _ _ _ D _ (HRD.out _ hcur).2.2.2.1 (by omega)).mono ?_; rintro en w5 ⟨gd, rfl, hd, hb⟩; have hcur := hcur.trans (hb.mono hcur.size); obtain ⟨i0, i1, i2⟩ := HALL.out _ hcur; clear hb) | (go_at_call 27; refine (eRun _ _ _ _ _ _ _ _ n t _ _ _ _ _ _ _ _ _ (HRD.out _ hcur).1 (HRD.out _ hcur).2.1 (HRD.out _ hcur).2.2.1 hd hn ht (HRD.out _ hcur).2.2.2.2).mono ?_; rintro en w6 ⟨⟨r3, hr3, hE3, _⟩ | ⟨_, a7, c7, b7, k7, rfl, hr7, _⟩, hb⟩; exact absurd (hE3.one HQ.out) hr3; have hcur := hcur.trans (hb.mono hcur.size); obtain ⟨j0, j1, j2⟩ := HALL.out _ hcur; clear hb))
  all_goals
    have hb6 := hb4.trans (hcur.mono hb4.size)
    have hC6 := hC4.below hcur hl4
    have hx6 := (HRD.out _ hcur).2.2.1
    clear hb4 hC4 hl4 HALL HRD hcur g0 g1 hx hd i0 i1 i2
    go_wp2_with fail
    refine (cRun _ _ _ _ _ _ _ _ _ _ _ _ _ (h.below hb6) (g.below hb6) hx6 (hS.below hb6)).mono ?_
    rintro e w7 ⟨⟨r3, hr3, hE, _⟩ | ⟨_, v6, rfl, ho6⟩, hb7'⟩
    · exact absurd (hE.one HR.out) hr3
    obtain ⟨a8, c8, rfl, hr8, _⟩ := Rd.own ho6 (bd_u64 (otl_bd G O _ m))
    have hb7 := hb6.trans (hb7'.mono hb6.size)
    have hr77 := hr7.below hb7'
    clear hb6 hC6 hb7' j0 j1 j2 hx6 ho6 hr7
    go_wp2_with fail
    refine (cSame _ _ _ _ _ _ _ _ hr77 hr8).mono ?_
    rintro e w8 ⟨rfl, hb8'⟩
    have hb8 := hb7.trans (hb8'.mono hb7.size)
    clear hb7 hb8'
    go_wp2
    go_ret
    exact ⟨rfl, hb8⟩
end
end Go.Proofs.YtljlioglpaogdagDoor
