/- The walk of croftkeep.EngineDraws. · Package-level variables that start-up lays: any part of their list. · circuit.shapes lie as the text lays them. -/
import Derived.Test.YtoifklkdfgfbdafDoorToTopRightM
import Derived.Test.YtoifklkdfgfbdafDoorToCktC
import Derived.Deep.RegionWith
import Derived.Deep.RegionHeld3
import Derived.BigQuiet
import Derived.Test.YtoifklkdfgfbdafDoorRows
import Derived.ProofKit
import Derived.LaidMore
import Derived.OpenShut
import Derived.Stop.LaidErr
import Derived.Test.YtoifklkdfgfbdafDoorToGRightC
import Derived.Lib.LaidTab
namespace Go.Proofs.YtoifklkdfgfbdafDoor
open Go.RowKit Crm

/-- A row of what was seen: as many numbers as each other. -/
theorem seen_row {w : World} {G : List Gt} {O ins ds es : List Int} {n t N m c j : Nat} {b : Option Addr} (h : RdR w b n c (snl G O n t ins ds N m)) (hj : j < n) : ∃ g o a k, b = some ⟨g, o, none⟩ ∧ g < w.heap.size ∧ w.cell? ⟨g, o + j, none⟩ = some (.slice a (sno G O n t ins es N m 0).length k) ∧ Rd w a (sno G O n t ins es N m 0).length k (sno G O n t ins ds N m j) := by
  obtain ⟨g, o, ai, ni, ci, row, e1, e2, HR, e3, e4⟩ := h.one hj
  have hl := e4.len
  rw [← HR.out, snl_getD _ _ _ _ _ _ _ _ hj, sno_len G O n t ins ds es N m j 0] at hl
  rw [← HR.out, snl_getD _ _ _ _ _ _ _ _ hj, ← hl] at e4
  rw [← hl] at e3
  exact ⟨g, o, ai, ci, e1, e2, e3, e4⟩

set_option maxRecDepth 100000 in
set_option maxHeartbeats 8000000 in
theorem engineDrawsW (ag : Option Addr) (N cg : Nat) (G : List Gt) (ao : Option Addr) (m co : Nat) (O : List Int) (n t : Int) (ai : Option Addr) (q ca : Nat) (ins : List Int) (ad : Option Addr) (d cd : Nat) (ds : List Int) (af : Option Addr) (f cf : Nat) (es : List Int) (w : World) (h : RdG w ag N cg G) (g : RdI w ao m co O) (hn0 : -9223372036854775808 ≤ n) (hn1 : n ≤ 9223372036854775807) (ht0 : -9223372036854775808 ≤ t) (ht1 : t ≤ 9223372036854775807) (ih : Rd w ai q ca ins) (dh : Rd w ad d cd ds) (fh : Rd w af f cf es) (hS : Shp w) :
    Calls Tryd.prog 5 #[.agg #[.slice ag N cg, .slice ao m co], .int .i64 n, .int .i64 t, .slice ai q ca, .slice ad d cd, .slice af f cf] w fun e w' => e = .returned (.bool true) ∧ Below w.heap.size w w' := by
  have hn : -9223372036854775808 ≤ n ∧ n ≤ 9223372036854775807 := ⟨hn0, hn1⟩
  have ht : -9223372036854775808 ≤ t ∧ t ≤ 9223372036854775807 := ⟨ht0, ht1⟩
  clear hn0 hn1 ht0 ht1
  have hC0 := CBox.new w ag N cg ao m co
  have hb0 : Below w.heap.size w (w.alloc (.cells #[.slice ag N cg, .slice ao m co] 25)) := (Below.refl _ _).alloc (Nat.le_refl _) _
  go_enter Tryd.func5, Tryd.ntmps5
  go_wp2_with fail
  generalize w.alloc (.cells #[.slice ag N cg, .slice ao m co] 25) = w0 at *
  refine (kWorked _ (hS.below hb0)).mono ?_
  rintro e w1 ⟨rfl, hb1'⟩
  have hb1 := hb0.trans (hb1'.mono hb0.size)
  have hC1 := hC0.below hb1' hC0.lt
  obtain ⟨d0, d1⟩ := hC1.cells
  clear hC0 hb1' hb0
  go_wp2_with fail
  refine (eNeed _ _ _ _ _ _ _ _ _ _ _ (h.below hb1) (g.below hb1) hn ht (hS.below hb1)).mono ?_
  rintro e w2 ⟨⟨r, hr, hE, rfl⟩ | ⟨hE, rfl⟩, hb2'⟩
  · have hb2 := hb1.trans (hb2'.mono hb1.size)
    clear hE hb1 hC1 hb2' d0 d1
    go_wp2
    go_ret
    exact ⟨rfl, hb2⟩
  have HE : Hid (Nde G O N m n t 0) := hE
  obtain ⟨c1, n, t, rfl, rfl, o1, o2, o3⟩ := hE.facts
  have HC : Hid (Cke G O N m 0) := c1
  have hN := c1.ok.1
  have HWB : Hid (∀ x ∈ whl G N, -9223372036854775808 ≤ x ∧ x ≤ 9223372036854775807) := whl_bd (fun i hi => (h.bd i hi).2.1) N (Nat.le_refl _)
  have hdl := dwn_le G (n := n) (t := t) (by omega) (by omega) N
  have hcl := ci_le G N
  rw [Int.toNat_natCast, Int.toNat_natCast] at *
  have hb2 := hb1.trans (hb2'.mono hb1.size)
  have hC2 := hC1.below hb2' hC1.lt
  obtain ⟨e0, e1⟩ := hC2.cells
  obtain ⟨D, HD⟩ : ∃ D, Hid (dwn G n t N = D) := ⟨_, rfl⟩
  obtain ⟨l, HL⟩ : ∃ l, Hid (ci G N = l) := ⟨_, rfl⟩
  rw [HD.out] at hdl ⊢
  rw [HL.out] at hcl
  have HQ : Hid (Ere G O N m n t l D 0) := .inr ⟨HE.out, .inr ⟨HL.out.symm, .inr ⟨HD.out.symm, rfl⟩⟩⟩
  have HR : Hid (Cre G O N m l 0) := .inr ⟨HC.out, .inr ⟨HL.out.symm, rfl⟩⟩
  clear hE c1 hb1 hC1 hb2' d0 d1
  go_wp2_with fail
  refine (cInputs _ _ _ _ _ _ _ _ _ (h.below hb2) (g.below hb2) (hS.below hb2)).mono ?_
  rintro e w3 ⟨⟨r2, hr2, hE, _⟩ | ⟨_, v5, rfl, ho5⟩, hb3'⟩
  · exact absurd (hE.one HC.out) hr2
  rw [HL.out] at ho5
  obtain ⟨a5, c5, rfl, hr5⟩ := RdI.own ho5 HWB.out
  have hc5 := hr5.cap
  have hm5 := hr5.max
  unfold maxLen at hm5
  have hb3 := hb2.trans (hb3'.mono hb2.size)
  have hC3 := hC2.below hb3' hC2.lt
  obtain ⟨f0, f1⟩ := hC3.cells
  clear hb2 hC2 hb3' e0 e1 ho5 hr5
  go_wp2_with fail
  refine (kFilled2 _ _ _ _ l _ (ih.below hb3) (by omega)).mono ?_
  rintro e w4 ⟨gx, rfl, hx, hb4'⟩
  have hb4 := hb3.trans (hb4'.mono hb3.size)
  have hC4 := hC3.below hb4' hC3.lt
  obtain ⟨g0, g1⟩ := hC4.cells
  clear hb3 hC3 hb4' f0 f1
  have hl4 := hC4.lt
  have HALL : Hid (∀ w', Below w4.heap.size w4 w' → w'.cell? ⟨w.heap.size, 0, none⟩ = some (.slice ag N cg) ∧ w'.cell? ⟨w.heap.size, 1, none⟩ = some (.slice ao m co) ∧ w.heap.size < w'.heap.size) := fun w' hb => ⟨(hC4.below hb hl4).cells.1, (hC4.below hb hl4).cells.2, (hC4.below hb hl4).lt⟩
  have HRD : Hid (∀ w', Below w4.heap.size w4 w' → RdG w' ag N cg G ∧ RdI w' ao m co O ∧ Rd w' (some ⟨gx, 0, none⟩) l l (padded ins l) ∧ Rd w' ad d cd ds ∧ Rd w' af f cf es ∧ Shp w') := fun w' hb => ⟨(h.below hb4).below hb, (g.below hb4).below hb, hx.below hb, (dh.below hb4).below hb, (fh.below hb4).below hb, (hS.below hb4).below hb⟩
  have hcur : Below w4.heap.size w4 w4.drew := (Below.refl _ _).drew
  obtain ⟨Lc, HLC⟩ : ∃ Lc, Hid ((sno G O n t (padded ins l) [] N m 0).length = Lc) := ⟨_, rfl⟩
  have hLc : Lc ≤ 1000000 := by have := sno_bound G O n t (padded ins l) [] N m 0 o2; rw [HLC.out] at this; have := HC.out.ok.2.1; omega
  have hn1 : 1 ≤ n := by omega
  go_wp2
  go_region_held3 (fun w' => w'.cell? ⟨w.heap.size, 0, none⟩ = some (.slice ag N cg) ∧ w'.cell? ⟨w.heap.size, 1, none⟩ = some (.slice ao m co)) (go_keep) (first | (go_at_call 15; refine (kFilled2 _ _ _ _ D _ (HRD.out _ hcur).2.2.2.1 (by omega)).mono ?_; rintro en w5 ⟨gd, rfl, hd, hb⟩; have hcur := hcur.trans (hb.mono hcur.size); obtain ⟨i0, i1, i2⟩ := HALL.out _ hcur; clear hb) | (go_at_call 19; refine (eRun _ _ _ _ _ _ _ _ n t _ _ _ _ _ _ _ _ _ (HRD.out _ hcur).1 (HRD.out _ hcur).2.1 (HRD.out _ hcur).2.2.1 hd hn ht (HRD.out _ hcur).2.2.2.2.2).mono ?_; rintro en w6 ⟨⟨r3, hr3, hE3, _⟩ | ⟨_, a7, c7, b7, k7, rfl, hr7, hs7⟩, hb⟩; exact absurd (hE3.one HQ.out) hr3; have hcur := hcur.trans (hb.mono hcur.size); obtain ⟨j0, j1, j2⟩ := HALL.out _ hcur; clear hb))
  all_goals
    rw [Int.toNat_natCast, Int.toNat_natCast] at hs7
    have hcurD := hcur.drew
    have hsec : Below w6.heap.size w6 w6.drew := (Below.refl _ _).drew
    clear i0 i1 i2 hd g0 g1
    go_upto_region 9 with fail
    go_region_held3 (fun w' => w'.cell? ⟨w.heap.size, 0, none⟩ = some (.slice ag N cg) ∧ w'.cell? ⟨w.heap.size, 1, none⟩ = some (.slice ao m co)) (go_keep) (first | (go_at_call 15; refine (kFilled2 _ _ _ _ D _ (HRD.out _ hcurD).2.2.2.2.1 (by omega)).mono ?_; rintro en w8 ⟨gd, rfl, hd, hb⟩; have hcurD := hcurD.trans (hb.mono hcurD.size); have hsec := hsec.trans (hb.mono hsec.size); obtain ⟨i0, i1, i2⟩ := HALL.out _ hcurD; clear hb) | (go_at_call 19; refine (eRun _ _ _ _ _ _ _ _ n t _ _ _ _ _ _ _ _ _ (HRD.out _ hcurD).1 (HRD.out _ hcurD).2.1 (HRD.out _ hcurD).2.2.1 hd hn ht (HRD.out _ hcurD).2.2.2.2.2).mono ?_; rintro en w9 ⟨⟨r3, hr3, hE3, _⟩ | ⟨_, a9, c9, b9, k9, rfl, hr9, hs9⟩, hb⟩; exact absurd (hE3.one HQ.out) hr3; have hcurD := hcurD.trans (hb.mono hcurD.size); have hsec := hsec.trans (hb.mono hsec.size); obtain ⟨l0, l1, l2⟩ := HALL.out _ hcurD; clear hb))
    all_goals
      rw [Int.toNat_natCast, Int.toNat_natCast] at hs9
      have hb6 := hb4.trans (hcurD.mono hb4.size)
      have hC6 := hC4.below hcurD hl4
      have hx6 := (HRD.out _ hcurD).2.2.1
      have hr7 := hr7.below hsec
      have hs7 := hs7.below hsec
      clear hb4 hC4 hl4 HALL HRD hcur hcurD hx hd i0 i1 i2 j0 j1 j2 hsec
      go_wp2_with fail
      refine (cRun _ _ _ _ _ _ _ _ _ _ _ _ _ (h.below hb6) (g.below hb6) hx6 (hS.below hb6)).mono ?_
      rintro e w10 ⟨⟨r3, hr3, hE, _⟩ | ⟨_, v6, rfl, ho6⟩, hb7'⟩
      · exact absurd (hE.one HR.out) hr3
      obtain ⟨a8, c8, rfl, hr8, _⟩ := Rd.own ho6 (bd_u64 (otl_bd G O _ m))
      have hb7 := hb6.trans (hb7'.mono hb6.size)
      have hr7 := hr7.below hb7'
      have hr9 := hr9.below hb7'
      have hs7 := hs7.below hb7'
      have hs9 := hs9.below hb7'
      have hk7 := hs7.cap
      have hm7 := hs7.max
      have hk9 := hs9.cap
      have hm9 := hs9.max
      unfold maxLen at hm7 hm9
      clear hb6 hC6 hb7' l0 l1 l2 hx6 ho6
      go_wp2_with fail
      refine (cSame _ _ _ _ _ _ _ _ hr7 hr9).mono ?_
      rintro e w11 ⟨rfl, hb8'⟩
      have hb8 := hb7.trans (hb8'.mono hb7.size)
      have hr7 := hr7.below hb8'
      have hr8 := hr8.below hb8'
      have hs7 := hs7.below hb8'
      have hs9 := hs9.below hb8'
      clear hb7 hb8' hr9
      go_wp2_with fail
      refine (cSame _ _ _ _ _ _ _ _ hr7 hr8).mono ?_
      rintro e w12 ⟨rfl, hb9'⟩
      have hb9 := hb8.trans (hb9'.mono hb8.size)
      have hs7 := hs7.below hb9'
      have hs9 := hs9.below hb9'
      clear hb8 hb9' hr7 hr8
      go_wp2
      have HS7 : Hid (RdR w12 b7 n k7 (snl G O n t (padded ins l) (padded ds D) N m)) := hs7
      have HS9 : Hid (RdR w12 b9 n k9 (snl G O n t (padded ins l) (padded es D) N m)) := hs9
      clear hs7 hs9
      go_loopw [114] (fun v wq => ∃ j : Nat, j ≤ n ∧ v = .int .i64 j ∧ Hid (RdR wq b7 n k7 (snl G O n t (padded ins l) (padded ds D) N m)) ∧ Hid (RdR wq b9 n k9 (snl G O n t (padded ins l) (padded es D) N m)) ∧ Below w.heap.size w wq) (fun v _ => n - (intOf v).toNat)
      case atStart => exact ⟨0, Nat.zero_le _, rfl, HS7, HS9, hb9⟩
      case round =>
        clear HS7 HS9 hb9
        obtain ⟨j, hj, rfl, HS7, HS9, hbel⟩ := hrel
        by_cases hjn : j < n
        · obtain ⟨g7, o7, p7, z7, rfl, hg7, hc7, _⟩ := seen_row (es := []) HS7.out hjn
          obtain ⟨g9, o9, p9, z9, rfl, hg9, hc9, _⟩ := seen_row (es := []) HS9.out hjn
          obtain ⟨g8, o8, p8, z8, e8, hg8, hc8, _⟩ := seen_row (es := []) HS7.out (j := 0) (by omega)
          simp only [Option.some.injEq, Addr.mk.injEq, and_true] at e8
          obtain ⟨rfl, rfl⟩ := e8
          rw [HLC.out] at hc7 hc8 hc9
          rw [Nat.add_zero] at hc8
          have hj0 : (0 : Int) ≤ (j : Int) := by omega
          have hjni : (j : Int) < (n : Int) := by omega
          have hn0 : (0 : Int) < (n : Int) := by omega
          have hbN := hbel.drew
          have HS7D : Hid (RdR wr.drew (some ⟨g7, o7, none⟩) n k7 (snl G O n t (padded ins l) (padded ds D) N m)) := HS7.out.below ((Below.refl _ _).drew)
          have HS9D : Hid (RdR wr.drew (some ⟨g9, o9, none⟩) n k9 (snl G O n t (padded ins l) (padded es D) N m)) := HS9.out.below ((Below.refl _ _).drew)
          clear HS7 HS9 hbel
          go_wp2
          go_region
          all_goals
            go_wp2
            go_roundw
            case rel => exact ⟨j + 1, by omega, by go_num, HS7D, HS9D, hbN⟩
            case measure => simp [intOf]; omega
        · have hjn2 : j = n := by omega
          subst hjn2
          go_wp2
          go_ret
          exact ⟨rfl, hbel⟩
end Go.Proofs.YtoifklkdfgfbdafDoor

namespace Go.Proofs.YtoifklkdfgfbdafDoor
open Go.ChangeShapes Go.WideShapes Go.ChangeAt Go.RowKit

/-- A list that is met is met from any place on. -/
theorem laid_drop {P : Program} {W : World} : ∀ {l : List (String × DataW Unit)} (k : Nat), laidMet P l W → laidMet P (l.drop k) W
  | l, 0, h => by simpa using h
  | [], k + 1, h => by simpa using h
  | x :: l, k + 1, h => by rw [List.drop_succ_cons]; exact laid_drop k h.tail
end Go.Proofs.YtoifklkdfgfbdafDoor

namespace Go.Proofs.YtoifklkdfgfbdafDoor
open Go.ChangeShapes Go.WideShapes Go.ChangeAt Go.RowKit Crm

theorem gShp : Tryd.prog.globalNamed "sharecroft/circuit.shapes" = some 0 := by kernel_rfl
theorem tShp : (Tryd.prog.globals[0]?).map (·.type) = some 86 := by kernel_rfl
theorem cellsShp : Tryd.prog.cellsOf 85 = 4 := by kernel_rfl
theorem cellsShs : Tryd.prog.cellsOf 9 = 1 := by kernel_rfl
theorem cellsShb : Tryd.prog.cellsOf 4 = 1 := by kernel_rfl
def shD {H : Type} (i : Nat) : DataW H := .agg [.lit (.string (shw i).data.toList), .lit (.bool (shA i)), .lit (.bool (shB i)), .lit (.bool (shN i))]
theorem shD_all {H : Type} : (Rows.laid_sharecroft_circuit_shapes : DataW H) = .agg ((List.range 7).map shD) := rfl
set_option maxRecDepth 100000 in
/-- A shape that reads as the datum. -/
theorem cells_of_shape {H : Type} {enc : TypeId × Value → H} {w : World} {base : Nat} {sp : Nat → Bool} {held : Bool} {fuel : Nat} {cs : List Value} {p : List MemPlace} {i : Nat}
    (h : DataW.trod enc Tryd.prog w base sp held fuel 85 cs = some (shD i, p)) : cs = [.string (shw i), .bool (shA i), .bool (shB i), .bool (shN i)] := by
  obtain ⟨xs, k, _, hx, hl, hxl, hf⟩ := DataW.trod_struct Tryd.underlying85 h
  rw [cellsShp] at hl
  match xs, hxl, cs, hl with
  | [y0, y1, y2, y3], _, [v0, v1, v2, v3], _ =>
    have g0 : DataW.trod enc Tryd.prog w base sp held k 9 [v0] = some y0 := by simpa [cellsShs] using hf 0 _ rfl
    have g1 : DataW.trod enc Tryd.prog w base sp held k 4 [v1] = some y1 := by simpa [cellsShb] using hf 1 _ rfl
    have g2 : DataW.trod enc Tryd.prog w base sp held k 4 [v2] = some y2 := by simpa [cellsShb] using hf 2 _ rfl
    have g3 : DataW.trod enc Tryd.prog w base sp held k 4 [v3] = some y3 := by simpa [cellsShb] using hf 3 _ rfl
    obtain ⟨s, e0, f0, _⟩ := DataW.trod_string Tryd.underlying9 g0
    obtain ⟨b1, e1, f1⟩ := DataW.trod_bool Tryd.underlying4 g1
    obtain ⟨b2, e2, f2⟩ := DataW.trod_bool Tryd.underlying4 g2
    obtain ⟨b3, e3, f3⟩ := DataW.trod_bool Tryd.underlying4 g3
    subst f0 f1 f2 f3
    have hx1 := congrArg Prod.fst hx
    simp only [shD, List.map_cons, List.map_nil, DataW.agg.injEq, List.cons.injEq, DataW.lit.injEq, Lit.string.injEq, Lit.bool.injEq, and_true] at hx1
    obtain ⟨q0, q1, q2, q3⟩ := hx1
    have hs : shw i = s := by
      apply ByteArray.ext
      exact Array.ext' q0
    simp only [List.cons.injEq, and_true] at e0 e1 e2 e3
    rw [e0, e1, e2, e3, hs, q1, q2, q3]
set_option maxRecDepth 100000 in
theorem shp_of_head {rest : List (String × DataW Unit)} {W : World} (h : laidMet Tryd.prog (("sharecroft/circuit.shapes", Rows.laid_sharecroft_circuit_shapes) :: rest) W) : Shp W := by
  obtain ⟨ps, ⟨g0, t0, cs0, f0, p0, q0, hg0, ht0, hv0, hd0, _, _⟩, _, _⟩ := h
  obtain rfl := Option.some.inj (gShp.symm.trans hg0)
  obtain rfl := Option.some.inj (tShp.symm.trans ht0)
  obtain ⟨xs, m, _, hx, hl, hxl, hel⟩ := DataW.trod_array Tryd.underlying86 hd0
  have hx1 := congrArg Prod.fst hx
  rw [shD_all] at hx1
  simp only [DataW.agg.injEq] at hx1
  intro i hi
  have h1 := hel i hi
  have hxi : xs[i]? = some (shD i, (xs[i]'(by omega)).2) := by
    rw [List.getElem?_eq_getElem (show i < xs.length by omega)]
    have h2 := congrArg (·[i]?) hx1
    simp only [List.getElem?_map] at h2
    rw [List.getElem?_eq_getElem (show i < xs.length by omega), List.getElem?_range hi] at h2
    simp only [Option.map_some, Option.some.injEq] at h2
    rw [h2]
  rw [hxi, cellsShp] at h1
  have hc := cells_of_shape h1
  have hcell : ∀ j, j < 4 → W.cell? ⟨0, i * 4 + j, none⟩ = ([.string (shw i), .bool (shA i), .bool (shB i), .bool (shN i)] : List Value)[j]? := fun j hj => by
    rw [World.var?_cell hg0 hv0 (i * 4 + j), ← Array.getElem?_toList, ← hc, List.getElem?_take_of_lt hj, List.getElem?_drop]
  exact ⟨hcell 0 (by omega), hcell 1 (by omega), hcell 2 (by omega), hcell 3 (by omega)⟩
end Go.Proofs.YtoifklkdfgfbdafDoor
