/- The walk of crofttop.TopTexts. · Package-level variables that start-up lays: any part of their list. · Package-level variables that start-up lays: what the walks ask of them. -/
import Derived.Test.YtoifklkdfgfbdahDoorToTellsM
import Derived.Test.YtoifklkdfgfbdahDoorToTopC
import Derived.Test.YtoifklkdfgfbdahDoorToTexC
import Derived.Deep.RegionWith
import Derived.Deep.RegionHeld3
import Derived.Test.YtoifklkdfgfbdahDoorRows
import Derived.ProofKit
import Derived.LaidMore
import Derived.OpenShut
import Derived.Stop.LaidErr
import Derived.Test.YtoifklkdfgfbdahDoorToSubC
import Derived.Lib.LaidTab
namespace Go.Proofs.YtoifklkdfgfbdahDoor
open Go.RowKit Crm

set_option maxRecDepth 100000 in
set_option maxHeartbeats 8000000 in
theorem topTextsW (ag : Option Addr) (N cg : Nat) (G : List Gt) (ao : Option Addr) (m co : Nat) (O : List Int) (n t : Int) (ai : Option Addr) (q ca : Nat) (ins : List Int) (ad : Option Addr) (d cd : Nat) (ds : List Int) (w : World) (h : RdG w ag N cg G) (g : RdI w ao m co O) (hn0 : -9223372036854775808 ≤ n) (hn1 : n ≤ 9223372036854775807) (ht0 : -9223372036854775808 ≤ t) (ht1 : t ≤ 9223372036854775807) (ih : Rd w ai q ca ins) (dh : Rd w ad d cd ds) (hT : Tabs w) (hS : Shp w) :
    Calls Tryd.prog 3 #[.agg #[.slice ag N cg, .slice ao m co], .int .i64 n, .int .i64 t, .slice ai q ca, .slice ad d cd] w fun e w' => e = .returned (.bool true) ∧ Below w.heap.size w w' := by
  have hn : -9223372036854775808 ≤ n ∧ n ≤ 9223372036854775807 := ⟨hn0, hn1⟩
  have ht : -9223372036854775808 ≤ t ∧ t ≤ 9223372036854775807 := ⟨ht0, ht1⟩
  clear hn0 hn1 ht0 ht1
  have hOl := g.len
  have HOl : Hid (O.length = m) := hOl
  clear hOl
  have hC0 := CBox.new w ag N cg ao m co
  have hb0 : Below w.heap.size w (w.alloc (.cells #[.slice ag N cg, .slice ao m co] 25)) := (Below.refl _ _).alloc (Nat.le_refl _) _
  go_enter Tryd.func3, Tryd.ntmps3
  go_wp2_with fail
  generalize w.alloc (.cells #[.slice ag N cg, .slice ao m co] 25) = w0 at *
  refine (tSaid _ (hS.below hb0)).mono ?_
  rintro e w1 ⟨rfl, hb1'⟩
  have hb1 := hb0.trans (hb1'.mono hb0.size)
  have hC1 := hC0.below hb1' hC0.lt
  obtain ⟨d0, d1⟩ := hC1.cells
  clear hC0 hb1' hb0
  go_wp2_with fail
  refine (cPrint _ _ _ _ _ _ _ _ _ (h.below hb1) (g.below hb1) (hT.below hb1) (hS.below hb1)).mono ?_
  rintro e w2 ⟨⟨r, hr, hE, rfl⟩ | ⟨hE, rfl⟩, hb2'⟩
  · have hb2 := hb1.trans (hb2'.mono hb1.size)
    clear hb1 hC1 hb2' d0 d1 hE
    go_wp2_with fail
    refine (cParse ⟨#[]⟩ w2 (by decide) (hS.below hb2)).mono ?_
    rintro e w3 ⟨ag', cg', ao', co', at', r', G', O', rfl, hP', _, _, hb3'⟩
    obtain ⟨rfl, rfl, rfl, rfl⟩ := hP'.one par_mt
    have hb3 := (hb2.trans (hb3'.mono hb2.size)).alloc (hb2.trans (hb3'.mono hb2.size)).size (.cells #[.slice ag' 0 cg', .slice ao' 0 co'] 25)
    clear hb2 hb3' hP'
    go_wp2
    go_ret
    exact ⟨rfl, hb3⟩
  have HK : Hid (Cke G O N m 0) := hE
  have htl := text_le hE
  obtain ⟨T, HTe⟩ : ∃ T, Hid (otx (gtx G N) O m = T) := ⟨_, rfl⟩
  rw [HTe.out] at htl ⊢
  have hb2 := hb1.trans (hb2'.mono hb1.size)
  have hC2 := hC1.below hb2' hC1.lt
  clear hb1 hC1 hb2' d0 d1 hE
  go_wp2_with fail
  refine (cParse T w2 (by omega) (hS.below hb2)).mono ?_
  rintro e w3 ⟨ag', cg', ao', co', at', r', G', O', rfl, hP', ho', hi', hb3'⟩
  obtain ⟨x1, x2, x3, x4⟩ := hP'.one (by rw [← HTe.out]; exact par_text HK.out HOl.out)
  have x2 := x2.symm
  subst x1 x2 x3 x4
  obtain ⟨b1, b2⟩ := hP'.gbd
  have hGx := RdG.ownA ho' (gcs_len4 _) (gbd_nm b1)
  have hIx := RdI.ownA hi' b2
  rw [nmG_len] at hGx
  rw [HOl.out] at hIx
  rw [nmG_len, HOl.out]
  have hb3 := hb2.trans (hb3'.mono hb2.size)
  have hC3 := hC2.below hb3' hC2.lt
  obtain ⟨hX, hbA⟩ := cbox_put w3 ag' N cg' ao' m co'
  clear hb2 hC2 hb3' hP' ho' hi' b1 b2 HTe htl
  go_upto_region 5 with fail
  generalize w3.alloc (.cells #[.slice ag' N cg', .slice ao' m co'] 25) = w4 at *
  have hb4 := hb3.trans (hbA.mono hb3.size)
  have hC4 := hC3.below hbA hC3.lt
  have hGx4 := hGx.below hbA
  have hIx4 := hIx.below hbA
  obtain ⟨d0, d1⟩ := hC4.cells
  have dl := hC4.lt
  clear hb3 hC3 hbA hGx hIx
  go_wp2_with fail
  refine (eNeed _ _ _ _ _ _ _ _ _ _ _ (h.below hb4) (g.below hb4) hn ht (hS.below hb4)).mono ?_
  rintro e w5 ⟨⟨r, hr, hE, rfl⟩ | ⟨hE, rfl⟩, hb5'⟩
  · have hb5 := hb4.trans (hb5'.mono hb4.size)
    clear hE hb4 hC4 hb5' d0 d1 dl hX hGx4 hIx4
    go_wp2
    go_ret
    exact ⟨rfl, hb5⟩
  have HE : Hid (Nde G O N m n t 0) := hE
  obtain ⟨c1, n, t, rfl, rfl, o1, o2, o3⟩ := hE.facts
  have hN := c1.ok.1
  have HWB : Hid (∀ x ∈ whl G N, -9223372036854775808 ≤ x ∧ x ≤ 9223372036854775807) := whl_bd (fun i hi => (h.bd i hi).2.1) N (Nat.le_refl _)
  have hdl := dwn_le G (n := n) (t := t) (by omega) (by omega) N
  have hcl := ci_le G N
  rw [Int.toNat_natCast, Int.toNat_natCast] at *
  have hb5 := hb4.trans (hb5'.mono hb4.size)
  have hC5 := hC4.below hb5' hC4.lt
  have hX5 := hX.below hb5' hX.lt
  have hGx5 := hGx4.below hb5'
  have hIx5 := hIx4.below hb5'
  obtain ⟨e0, e1⟩ := hC5.cells
  obtain ⟨D, HD⟩ : ∃ D, Hid (dwn G n t N = D) := ⟨_, rfl⟩
  obtain ⟨l, HL⟩ : ∃ l, Hid (ci G N = l) := ⟨_, rfl⟩
  rw [HD.out] at hdl ⊢
  rw [HL.out] at hcl
  have HQ : Hid (Ere G O N m n t l D 0) := .inr ⟨HE.out, .inr ⟨HL.out.symm, .inr ⟨HD.out.symm, rfl⟩⟩⟩
  have HQx : Hid (Ere ((nmG G N).map nmg) O N m n t l D 0) := alk_run HQ.out
  have HOT : Hid (∀ xs, otl ((nmG G N).map nmg) O xs m = otl G O xs m) := fun xs => (alk_nm G N).otl xs HK.out.ok.2.2.2
  have HSN : Hid (∀ xs ys, snl ((nmG G N).map nmg) O n t xs ys N m = snl G O n t xs ys N m) := fun xs ys => (alk_nm G N).snl HK.out.ok.2.2.1 HK.out.ok.2.2.2 n t xs ys
  clear hE c1 hb4 hC4 hb5' d0 d1 dl hX hGx4 hIx4
  go_wp2_with fail
  refine (cInputs _ _ _ _ _ _ _ _ _ (h.below hb5) (g.below hb5) (hS.below hb5)).mono ?_
  rintro e w6 ⟨⟨r2, hr2, hE, _⟩ | ⟨_, v5, rfl, ho5⟩, hb6'⟩
  · exact absurd (hE.one HK.out) hr2
  rw [HL.out] at ho5
  obtain ⟨a5, c5, rfl, hr5⟩ := RdI.own ho5 HWB.out
  have hc5 := hr5.cap
  have hm5 := hr5.max
  unfold maxLen at hm5
  have hb6 := hb5.trans (hb6'.mono hb5.size)
  have hC6 := hC5.below hb6' hC5.lt
  have hX6 := hX5.below hb6' hX5.lt
  have hGx6 := hGx5.below hb6'
  have hIx6 := hIx5.below hb6'
  obtain ⟨f0, f1⟩ := hC6.cells
  obtain ⟨f2, f3⟩ := hX6.cells
  have fl := hC6.lt
  have fx := hX6.lt
  clear hb5 hC5 hX5 hGx5 hIx5 hb6' e0 e1 ho5 hr5
  have HALL : Hid (∀ w', Below w6.heap.size w6 w' → w'.cell? ⟨w.heap.size, 0, none⟩ = some (.slice ag N cg) ∧ w'.cell? ⟨w.heap.size, 1, none⟩ = some (.slice ao m co) ∧ w'.cell? ⟨w3.heap.size, 0, none⟩ = some (.slice ag' N cg') ∧ w'.cell? ⟨w3.heap.size, 1, none⟩ = some (.slice ao' m co') ∧ w.heap.size < w'.heap.size ∧ w3.heap.size < w'.heap.size) := fun w' hb => ⟨(hC6.below hb fl).cells.1, (hC6.below hb fl).cells.2, (hX6.below hb fx).cells.1, (hX6.below hb fx).cells.2, (hC6.below hb fl).lt, (hX6.below hb fx).lt⟩
  have HRD : Hid (∀ w', Below w6.heap.size w6 w' → (RdG w' ag N cg G ∧ RdI w' ao m co O) ∧ (RdG w' ag' N cg' ((nmG G N).map nmg) ∧ RdI w' ao' m co' O) ∧ Rd w' ai q ca ins ∧ Rd w' ad d cd ds ∧ Shp w') := fun w' hb => ⟨⟨(h.below hb6).below hb, (g.below hb6).below hb⟩, ⟨hGx6.below hb, hIx6.below hb⟩, (ih.below hb6).below hb, (dh.below hb6).below hb, (hS.below hb6).below hb⟩
  have hcur : Below w6.heap.size w6 w6.drew := (Below.refl _ _).drew
  go_upto_region 11 with fail
  go_region_held3 (fun w' => w'.cell? ⟨w.heap.size, 0, none⟩ = some (.slice ag N cg) ∧ w'.cell? ⟨w.heap.size, 1, none⟩ = some (.slice ao m co)) (go_keep) (first | (go_at_call_of 10 (Value.slice ai q ca); refine (tFilled _ _ _ _ l _ (HRD.out _ hcur).2.2.1 (by omega)).mono ?_; rintro en w7 ⟨gx, rfl, hx, hb⟩; have hcur := hcur.trans (hb.mono hcur.size); (try have hd := hd.below hb); obtain ⟨i0, i1, i2, i3, i4, i5⟩ := HALL.out _ hcur; clear hb) | (go_at_call_of 10 (Value.slice ad d cd); refine (tFilled _ _ _ _ D _ (HRD.out _ hcur).2.2.2.1 (by omega)).mono ?_; rintro en w8 ⟨gd, rfl, hd, hb⟩; have hcur := hcur.trans (hb.mono hcur.size); (try have hx := hx.below hb); obtain ⟨j0, j1, j2, j3, j4, j5⟩ := HALL.out _ hcur; clear hb) | (go_at_call 9; refine (eRun _ _ _ _ _ _ _ _ n t _ _ _ _ _ _ _ _ _ (HRD.out _ hcur).1.1 (HRD.out _ hcur).1.2 hx hd hn ht (HRD.out _ hcur).2.2.2.2).mono ?_; rintro en w9 ⟨⟨r3, hr3, hE3, _⟩ | ⟨_, a7, c7, b7, k7, rfl, hr7, hs7⟩, hb⟩; exact absurd (hE3.one HQ.out) hr3; have hcur := hcur.trans (hb.mono hcur.size); obtain ⟨k0, k1, k2, k3, k4, k5⟩ := HALL.out _ hcur; clear hb))
  all_goals
    rw [Int.toNat_natCast, Int.toNat_natCast] at hs7
    have hcurD := hcur.drew
    have hsec : Below w9.heap.size w9 w9.drew := (Below.refl _ _).drew
    clear hx hd i0 i1 i2 i3 i4 i5 j0 j1 j2 j3 j4 j5
    go_upto_region 12 with fail
    go_region_held3 (fun w' => w'.cell? ⟨w3.heap.size, 0, none⟩ = some (.slice ag' N cg') ∧ w'.cell? ⟨w3.heap.size, 1, none⟩ = some (.slice ao' m co')) (go_keep) (first | (go_at_call_of 10 (Value.slice ai q ca); refine (tFilled _ _ _ _ l _ (HRD.out _ hcurD).2.2.1 (by omega)).mono ?_; rintro en wa ⟨gx, rfl, hx, hb⟩; have hcurD := hcurD.trans (hb.mono hcurD.size); have hsec := hsec.trans (hb.mono hsec.size); (try have hd := hd.below hb); obtain ⟨i0, i1, i2, i3, i4, i5⟩ := HALL.out _ hcurD; clear hb) | (go_at_call_of 10 (Value.slice ad d cd); refine (tFilled _ _ _ _ D _ (HRD.out _ hcurD).2.2.2.1 (by omega)).mono ?_; rintro en wb ⟨gd, rfl, hd, hb⟩; have hcurD := hcurD.trans (hb.mono hcurD.size); have hsec := hsec.trans (hb.mono hsec.size); (try have hx := hx.below hb); obtain ⟨j0, j1, j2, j3, j4, j5⟩ := HALL.out _ hcurD; clear hb) | (go_at_call 9; refine (eRun _ _ _ _ _ _ _ _ n t _ _ _ _ _ _ _ _ _ (HRD.out _ hcurD).2.1.1 (HRD.out _ hcurD).2.1.2 hx hd hn ht (HRD.out _ hcurD).2.2.2.2).mono ?_; rintro en wd ⟨⟨r3, hr3, hE3, _⟩ | ⟨_, a9, c9, b9, k9, rfl, hr9, hs9⟩, hb⟩; exact absurd (hE3.one HQx.out) hr3; have hcurD := hcurD.trans (hb.mono hcurD.size); have hsec := hsec.trans (hb.mono hsec.size); obtain ⟨l0, l1, l2, l3, l4, l5⟩ := HALL.out _ hcurD; clear hb))
    all_goals
      rw [Int.toNat_natCast, Int.toNat_natCast, HSN.out] at hs9
      rw [HOT.out] at hr9
      have hb7 := hb6.trans (hcurD.mono hb6.size)
      have hr7 := hr7.below hsec
      have hs7 := hs7.below hsec
      clear hb6 HALL HRD hcur hcurD hx hd i0 i1 i2 i3 i4 i5 j0 j1 j2 j3 j4 j5 k0 k1 k2 k3 k4 k5 l0 l1 l2 l3 l4 l5 hsec
      go_wp2_with fail
      refine (cSame _ _ _ _ _ _ _ _ hr7 hr9).mono ?_
      rintro e we ⟨rfl, hb8'⟩
      have hb8 := hb7.trans (hb8'.mono hb7.size)
      have hs7 := hs7.below hb8'
      have hs9 := hs9.below hb8'
      clear hb7 hb8' hr7 hr9
      go_wp2_with fail
      refine (tEqualFunc _ _ _ _ _ _ _ hs7 hs9).mono ?_
      rintro e wf ⟨rfl, hb9'⟩
      have hb9 := hb8.trans (hb9'.mono hb8.size)
      clear hb8 hb9' hs7 hs9
      go_wp2
      go_ret
      exact ⟨rfl, hb9⟩
end Go.Proofs.YtoifklkdfgfbdahDoor

namespace Go.Proofs.YtoifklkdfgfbdahDoor
open Go.ChangeShapes Go.WideShapes Go.ChangeAt Go.RowKit

/-- A list that is met is met from any place on. -/
theorem laid_drop {P : Program} {W : World} : ∀ {l : List (String × DataW Unit)} (k : Nat), laidMet P l W → laidMet P (l.drop k) W
  | l, 0, h => by simpa using h
  | [], k + 1, h => by simpa using h
  | x :: l, k + 1, h => by rw [List.drop_succ_cons]; exact laid_drop k h.tail
end Go.Proofs.YtoifklkdfgfbdahDoor

namespace Go.Proofs.YtoifklkdfgfbdahDoor
open Go.ChangeShapes Go.WideShapes Go.ChangeAt Go.RowKit Crm

/-- An array of texts that reads as the texts holds them, cell for cell. -/
theorem cells_of_strs {H : Type} {enc : TypeId × Value → H} {P : Program} {w : World} {base : Nat} {sp : Nat → Bool} {held : Bool} {fuel : Nat} {t e : TypeId} {n : Nat} {cs : List Value} {L : List ByteArray} {p : List MemPlace}
    (ht : P.underlying t = some (.array n e)) (he : P.underlying e = some .string) (hce : P.cellsOf e = 1) (hn : L.length = n)
    (h : DataW.trod enc P w base sp held fuel t cs = some (.agg (L.map fun s => .lit (.string s.data.toList)), p)) : ∀ i, i < n → cs[i]? = some (.string (L.getD i mt)) := by
  obtain ⟨xs, m, _, hx, _, hl, hel⟩ := DataW.trod_array ht h
  have hx1 : L.map (fun s => (DataW.lit (.string s.data.toList) : DataW H)) = xs.map (·.1) := by
    have := congrArg Prod.fst hx
    simpa using this
  intro i hi
  have h1 := hel i hi
  rw [hce, Nat.mul_one, List.getElem?_eq_getElem (show i < xs.length by omega)] at h1
  obtain ⟨s, e1, e2, _⟩ := DataW.trod_string he h1
  have h2 := congrArg (·[i]?) hx1
  simp only [List.getElem?_map] at h2
  rw [List.getElem?_eq_getElem (show i < L.length by omega), List.getElem?_eq_getElem (show i < xs.length by omega), e2] at h2
  simp only [Option.map_some, Option.some.injEq, DataW.lit.injEq, Lit.string.injEq] at h2
  have hs : L[i]'(by omega) = s := by
    apply ByteArray.ext
    exact Array.ext' h2
  have e3 := congrArg (·[0]?) e1
  simp only [List.getElem?_cons_zero] at e3
  rw [List.getD_eq_getElem?_getD, List.getElem?_eq_getElem (show i < L.length by omega), Option.getD_some, hs, ← e3]
  simp [List.getElem?_drop]
theorem cellsStr : Tryd.prog.cellsOf 9 = 1 := by kernel_rfl
theorem gPow : Tryd.prog.globalNamed "internal/strconv.uint64pow10" = some 2 := by kernel_rfl
theorem tPow : (Tryd.prog.globals[2]?).map (·.type) = some 142 := by kernel_rfl
theorem cellsPow : Tryd.prog.cellsOf 142 = 20 := by kernel_rfl
theorem cellsPowU : Tryd.prog.cellsOf 42 = 1 := by kernel_rfl
theorem pow_of_head {rest : List (String × DataW Unit)} {W : World} (h : laidMet Tryd.prog (("internal/strconv.uint64pow10", Rows.laid_internal_strconv_uint64pow10) :: rest) W) : Tabs W :=
  Lib.tabIs_of_head (zs := Lib.pow10Tab) (k := .u64) gPow tPow Tryd.underlying142 Tryd.underlying42 cellsPowU cellsPow h
end Go.Proofs.YtoifklkdfgfbdahDoor
