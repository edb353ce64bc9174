/- Package desk: what show, run and work make of a circuit. · Package desk: newKeys, show. (Print of wip/tpl/gen/mkdp.py.) · (*desk.desk).plainCommand: vDeal. (Print of wip/tpl/gen/mkdp.py.) · (*desk.desk).answer: vDeal. (Print of wip/tpl/gen/mkda.py.) · (*desk.desk).plainCommand: vOpen. (Print of wip/tpl/gen/mkdp.py.) · (*desk.desk).answer: vOpen. (Print of wip/tpl/gen/mkda.py.) · (*desk.desk).plainCommand: vClear. (Print of wip/tpl/gen/mkdp.py.) · (*desk.desk).answer: vClear. (Print of wip/tpl/gen/mkda.py.) · (*desk.desk).plainCommand: vShow. (Print of wip/tpl/gen/mkdp.py.) · (*desk.desk).answer: vShow. (Print of wip/tpl/gen/mkda.py.) · (*desk.desk).plainCommand: vRun. (Print of wip/tpl/gen/mkdp.py.) · (*desk.desk).answer: vRun. (Print of wip/tpl/gen/mkda.py.) -/
import Derived.Test.YtljlioglpaogdafGreatDoorToDdK3
import Derived.Test.YtljlioglpaogdafGreatDoorToPrintC
import Derived.Test.YtljlioglpaogdafGreatDoorToCktC
import Derived.Test.YtljlioglpaogdafGreatDoorEnU
import Derived.Deep.RegionHeld3
namespace Go.Proofs.YtljlioglpaogdafGreatDoor
set_option linter.unusedVariables false
set_option maxRecDepth 100000
set_option maxHeartbeats 8000000
section
open Crm Go.RowKit
theorem cre_rb {G : List Gt} {O : List Int} {n m q : Nat} {r : Int} (h : Cre G O n m q r) : -9223372036854775808 ≤ r ∧ r ≤ 9223372036854775807 := by
  rcases h with ⟨_, h⟩ | ⟨_, ⟨_, h⟩ | ⟨_, h⟩⟩
  · have := h.bd; omega
  · omega
  · omega
theorem ere_rb {G : List Gt} {O : List Int} {N m : Nat} {n t : Int} {q d : Nat} {r : Int} (h : Ere G O N m n t q d r) : -9223372036854775808 ≤ r ∧ r ≤ 9223372036854775807 := by
  rcases h with ⟨_, h⟩ | ⟨_, ⟨_, h⟩ | ⟨_, ⟨_, h⟩ | ⟨_, h⟩⟩⟩
  · have := h.bd; omega
  · omega
  · omega
  · omega

theorem dShowC (T : ByteArray) (ag : Option Addr) (n cg : Nat) (ao : Option Addr) (m co : Nat) (G : List Gt) (O : List Int) (w : World) (hP : Par T G O 0 0) (hGn : G.length = n) (hOm : O.length = m) (h : RdG w ag n cg (G.map nmg)) (g : RdI w ao m co O) (hT : Tabs w) (hS : Shp w) :
    Calls Tryz.prog 91 #[.agg #[.slice ag n cg, .slice ao m co]] w fun e w' => ∃ out, e = .returned (.string out) ∧ Cic vShow [] 0 G O out ∧ Below w.heap.size w w' := by
  have HK : Hid (Cke G O n m 0) := by unfold Hid; rw [← hGn, ← hOm]; exact par_ck hP
  have HKN : Hid (Cke (G.map nmg) O n m 0) := (cke_nm (par_zn hP)).2 HK.out
  have hn30 := HK.out.ok.1
  have hm30 := HK.out.ok.2.1
  have hts : (otx (gtx G n) O m).size ≤ 100000 := txt_size HK.out.ok.2.2.1 HK.out.ok.2.2.2 hn30.2 hm30.2
  have HCS : Hid (Cic vShow [] 0 G O (otx (gtx G n) O m ++ okB)) := by unfold Hid Cic; rw [if_pos rfl, hGn, hOm]
  have HGT : Hid (otx (gtx (G.map nmg) n) O m = otx (gtx G n) O m) := by unfold Hid; rw [gtx_nm]
  obtain ⟨X, HX⟩ : ∃ X, Hid (otx (gtx G n) O m = X) := ⟨_, rfl⟩
  rw [HX.out] at HCS hts HGT
  have a1 := add_big (P := Tryz.prog) X ⟨#[111, 107]⟩ (by have : (⟨#[111, 107]⟩ : ByteArray).size = 2 := rfl; omega)
  obtain ⟨Y, HY⟩ : ∃ Y, Hid (X ++ ⟨#[111, 107]⟩ = Y) := ⟨_, rfl⟩
  rw [HY.out] at a1
  have HCS2 : Hid (Cic vShow [] 0 G O Y) := by rw [← HY.out]; exact HCS.out
  have hC := CBox.new w ag n cg ao m co
  have hbA : Below w.heap.size w (w.alloc (.cells #[.slice ag n cg, .slice ao m co] 73)) := (Below.refl _ _).alloc (Nat.le_refl _) _
  have hG := h.below hbA
  have hI := g.below hbA
  have hTb := hT.below hbA
  have hSb := hS.below hbA
  clear hGn hOm hP h g
  go_enter Tryz.func91, Tryz.ntmps91
  go_upto_region 1 with fail
  generalize w.alloc (.cells #[.slice ag n cg, .slice ao m co] 73) = w1 at *
  obtain ⟨d0, d1⟩ := hC.cells
  have hgl := hC.lt
  go_wp2_with fail
  refine (cPrint _ _ _ _ _ _ _ _ _ hG hI hTb hSb).mono ?_
  rintro e w2 ⟨⟨r, hr, hE, rfl⟩ | ⟨_, rfl⟩, hb2⟩
  · exact absurd (hE.one HKN.out) hr
  · rw [HGT.out]
    have hb12 := hbA.trans (hb2.mono hbA.size)
    clear hC hG hI hTb hSb d0 d1 hgl hb2
    go_wp2
    go_ret
    exact ⟨Y, rfl, HCS2.out, hb12⟩

theorem dRunC (T : ByteArray) (ag : Option Addr) (n cg : Nat) (ao : Option Addr) (m co : Nat) (G : List Gt) (O : List Int) (gb : Nat) (ai : Option Addr) (k c : Nat) (N : List Int) (w : World) (hP : Par T G O 0 0) (hGn : G.length = n) (hOm : O.length = m) (h : RdG w ag n cg (G.map nmg)) (g : RdI w ao m co O) (hc : w.cell? ⟨gb, 0, none⟩ = some (.slice ai k c)) (ih : Rd w ai k c N) (hT : Tabs w) (hS : Shp w) :
    Calls Tryz.prog 64 #[.agg #[.slice ag n cg, .slice ao m co], .pointer (some ⟨gb, 0, none⟩)] w fun e w' => ∃ out, e = .returned (.string out) ∧ Cic vRun N 0 G O out ∧ Below w.heap.size w w' := by
  have HK : Hid (Cke G O n m 0) := by unfold Hid; rw [← hGn, ← hOm]; exact par_ck hP
  have hn30 := HK.out.ok.1
  have hm30 := HK.out.ok.2.1
  have HZN : Hid (∀ g ∈ G, g.k = 2 ∨ g.k = 6 ∨ g.n = 0) := par_zn hP
  have HOT : Hid (otl (G.map nmg) O N m = otl G O N m) := (alk_map G n).otl N HK.out.ok.2.2.2
  have hkl := ih.len
  have HCI : Hid (∀ r out, Cre (G.map nmg) O n m k r → out = sad (otl G O N m) r → Cic vRun N 0 G O out) := fun r out hE ho => by
    unfold Cic
    rw [if_neg (by decide), if_pos rfl, hGn, hOm, hkl]
    exact ⟨r, (cre_nm HZN.out).1 hE, ho⟩
  have hC := CBox.new w ag n cg ao m co
  have hbA : Below w.heap.size w (w.alloc (.cells #[.slice ag n cg, .slice ao m co] 73)) := (Below.refl _ _).alloc (Nat.le_refl _) _
  have hG := h.below hbA
  have hI := g.below hbA
  have hN := ih.below hbA
  have hTb := hT.below hbA
  have hSb := hS.below hbA
  have hgbl : gb < w.heap.size := World.block_lt_of_cell? w ⟨gb, 0, none⟩ hc
  have hc1 : (w.alloc (.cells #[.slice ag n cg, .slice ao m co] 73)).cell? ⟨gb, 0, none⟩ = some (.slice ai k c) := by rw [hbA.cell (p := ⟨gb, 0, none⟩) hgbl]; exact hc
  clear hGn hOm hP h g hkl ih hc
  go_enter Tryz.func64, Tryz.ntmps64
  go_upto_region 1 with fail
  have hgb1 : gb < (w.alloc (.cells #[.slice ag n cg, .slice ao m co] 73)).heap.size := Nat.lt_of_lt_of_le hgbl hbA.size
  generalize w.alloc (.cells #[.slice ag n cg, .slice ao m co] 73) = w1 at *
  obtain ⟨d0, d1⟩ := hC.cells
  have hgl := hC.lt
  go_wp2_with fail
  refine (cRun _ _ _ _ _ _ _ _ _ _ _ _ _ hG hI hN hSb).mono ?_
  rintro e w2 ⟨⟨r, hr, hE, rfl⟩ | ⟨hE, v, rfl, hown⟩, hb2⟩
  · have hb12 := hbA.trans (hb2.mono hbA.size)
    have hT2 := hTb.below hb2
    have hrb := cre_rb hE
    have HW : Hid (Cic vRun N 0 G O (sad [] r)) := HCI.out r _ hE (by unfold sad; rw [if_neg hr, if_neg hr])
    clear hE hr hC hG hI hTb hSb d0 d1 hgl hb2
    go_wp2_with fail
    refine (dTell _ _ _ [] r _ (nil_rd0 _) (by omega) hrb.1 hrb.2 hT2).mono ?_
    rintro e w3 ⟨rfl, hb3⟩
    have hb13 := hb12.trans (hb3.mono hb12.size)
    obtain ⟨X, HX⟩ : ∃ X, Hid (sad [] r = X) := ⟨_, rfl⟩
    rw [HX.out] at HW ⊢
    go_wp2
    go_ret
    exact ⟨X, rfl, HW.out, hb13⟩
  · have hb12 := hbA.trans (hb2.mono hbA.size)
    have hT2 := hTb.below hb2
    have HW : Hid (Cic vRun N 0 G O (sad (otl G O N m) 0)) := HCI.out 0 _ hE rfl
    rw [HOT.out] at hown
    obtain ⟨a2, c2, rfl, hr2, _⟩ := Rd.own hown (bd_u64 (otl_bd G O N m))
    have hm2 := hr2.max
    have hc2 := hr2.cap
    clear hE hC hG hI hTb hSb d0 d1 hgl hb2 hown
    go_wp2_with fail
    refine (dTell _ _ _ _ 0 _ hr2 (by omega) (by omega) (by omega) hT2).mono ?_
    rintro e w3 ⟨rfl, hb3⟩
    have hb13 := hb12.trans (hb3.mono hb12.size)
    obtain ⟨X, HX⟩ : ∃ X, Hid (sad (otl G O N m) 0 = X) := ⟨_, rfl⟩
    rw [HX.out] at HW ⊢
    go_wp2
    go_ret
    exact ⟨X, rfl, HW.out, hb13⟩

theorem enr_join {G : List Gt} {O ins ds : List Int} {N m : Nat} {n t : Int} {q d : Nat} {w w' : World} {e : Ending} (h : Enr G O ins ds N m n t q d w e w') : ∃ a k c b y z r L, e = .returned (.tuple #[.slice a k c, .slice b y z, .int .i64 r]) ∧ Rd w' a k c L ∧ k ≤ m ∧ Ere G O N m n t q d r ∧ sad L r = sad (otl G O ins m) r ∧ Below w.heap.size w w' := by
  obtain ⟨⟨r, hr, hE, rfl⟩ | ⟨hE, a, c, b, k, rfl, h1, _⟩, hb⟩ := h
  · exact ⟨none, 0, 0, none, 0, 0, r, [], rfl, nil_rd0 _, Nat.zero_le _, hE, by unfold sad; rw [if_neg hr, if_neg hr], hb⟩
  · exact ⟨a, m, c, b, _, k, 0, _, rfl, h1, Nat.le_refl _, hE, rfl, hb⟩

theorem dWorkC (T : ByteArray) (ag : Option Addr) (n cg : Nat) (ao : Option Addr) (m co : Nat) (G : List Gt) (O : List Int) (b1 b2 ga gd j d : Nat) (A D : List Int) (w : World) (hP : Par T G O 0 0) (hGn : G.length = n) (hOm : O.length = m) (h : RdG w ag n cg (G.map nmg)) (g : RdI w ao m co O) (hc1 : w.cell? ⟨b1, 0, none⟩ = some (.slice (some ⟨ga, 0, none⟩) j j)) (hc2 : w.cell? ⟨b2, 0, none⟩ = some (.slice (some ⟨gd, 0, none⟩) d d)) (hA : Blk w ga A) (hD : Blk w gd D) (hAl : A.length = j) (hDl : D.length = d) (hj : 2 ≤ j) (hj5 : j ≤ 100000) (hd5 : d ≤ 100000) (hAb : ∀ x ∈ A, 0 ≤ x ∧ x ≤ 9999999999) (hDb : ∀ x ∈ D, 0 ≤ x ∧ x ≤ 9999999999) (hT : Tabs w) (hS : Shp w) :
    Calls Tryz.prog 41 #[.agg #[.slice ag n cg, .slice ao m co], .pointer (some ⟨b1, 0, none⟩), .pointer (some ⟨b2, 0, none⟩)] w fun e w' => ∃ out, e = .returned (.string out) ∧ Cic vWork A d G O out ∧ Below w.heap.size w w' := by
  have HK : Hid (Cke G O n m 0) := by unfold Hid; rw [← hGn, ← hOm]; exact par_ck hP
  have hn30 := HK.out.ok.1
  have hm30 := HK.out.ok.2.1
  have HZN : Hid (∀ g ∈ G, g.k = 2 ∨ g.k = 6 ∨ g.n = 0) := par_zn hP
  obtain ⟨A2, HA2⟩ : ∃ A2, Hid (A.drop 2 = A2) := ⟨_, rfl⟩
  have HOT : Hid (otl (G.map nmg) O A2 m = otl G O A2 m) := (alk_map G n).otl A2 HK.out.ok.2.2.2
  obtain ⟨x0, HX0⟩ : ∃ x, Hid (A.getD 0 0 = x) := ⟨_, rfl⟩
  obtain ⟨x1, HX1⟩ : ∃ x, Hid (A.getD 1 0 = x) := ⟨_, rfl⟩
  have hx0 : 0 ≤ x0 ∧ x0 ≤ 9999999999 := by rw [← HX0.out]; exact hAb _ (by rw [List.getD_eq_getElem?_getD, List.getElem?_eq_getElem (show 0 < A.length by omega)]; exact List.getElem_mem _)
  have hx1 : 0 ≤ x1 ∧ x1 ≤ 9999999999 := by rw [← HX1.out]; exact hAb _ (by rw [List.getD_eq_getElem?_getD, List.getElem?_eq_getElem (show 1 < A.length by omega)]; exact List.getElem_mem _)
  have cx0 : w.cell? ⟨ga, 0, none⟩ = some (.int .u64 x0) := by rw [← HX0.out]; exact hA.cell (by omega)
  have cx1 : w.cell? ⟨ga, 1, none⟩ = some (.int .u64 x1) := by rw [← HX1.out]; exact hA.cell (by omega)
  have hu0 : IntKind.i64.wrap x0 = x0 := by rw [IntKind.wrap_i64]; omega
  have hu1 : IntKind.i64.wrap x1 = x1 := by rw [IntKind.wrap_i64]; omega
  have HCI : Hid (∀ r out, Ere (G.map nmg) O n m x0 x1 (j - 2) d r → out = sad (otl G O A2 m) r → Cic vWork A d G O out) := fun r out hE ho => by
    unfold Cic
    rw [if_neg (by decide), if_neg (by decide), hGn, hOm, HX0.out, HX1.out, hAl, HA2.out]
    exact ⟨r, (ere_nm HZN.out).1 hE, ho⟩
  have hRA : Rd w (some ⟨ga, 0, none⟩) j j A := hA.whole j hAl.symm (by unfold maxLen; omega) (fun x hx => by have := hAb x hx; omega)
  have hRD : Rd w (some ⟨gd, 0, none⟩) d d D := hD.whole d hDl.symm (by unfold maxLen; omega) (fun x hx => by have := hDb x hx; omega)
  have hga := hA.lt
  have hb1l : b1 < w.heap.size := World.block_lt_of_cell? w ⟨b1, 0, none⟩ hc1
  have hb2l : b2 < w.heap.size := World.block_lt_of_cell? w ⟨b2, 0, none⟩ hc2
  obtain ⟨sa, HSA⟩ : ∃ sa, Hid (subA (some ⟨ga, 0, none⟩) j 2 = sa) := ⟨_, rfl⟩
  have hsl : ∀ W, (Instr.sliceAt 53 (.slice (some ⟨ga, 0, none⟩) j j) (some (.int .i64 2)) none none).run Tryz.prog W = .ok (.slice sa (j - 2) (j - 2)) W := fun W => by
    rw [← HSA.out]
    exact run_subl Tryz.underlying53 infoU1 _ j j 2 rfl (by omega) W
  have hRA2 : Rd w sa (j - 2) (j - 2) A2 := by
    have e := hRA.sub (lo := 2) (k := j - 2) (by omega)
    rw [HSA.out, HA2.out, List.take_of_length_le (by rw [← HA2.out, List.length_drop, hAl]; exact Nat.le_refl _)] at e
    exact e
  have hC := CBox.new w ag n cg ao m co
  have hbA : Below w.heap.size w (w.alloc (.cells #[.slice ag n cg, .slice ao m co] 73)) := (Below.refl _ _).alloc (Nat.le_refl _) _
  have HAL : Hid (∀ w1 w', w.alloc (.cells #[.slice ag n cg, .slice ao m co] 73) = w1 → Below w1.heap.size w1 w' → (w'.cell? ⟨w.heap.size, 0, none⟩ = some (.slice ag n cg) ∧ w'.cell? ⟨w.heap.size, 1, none⟩ = some (.slice ao m co) ∧ w'.cell? ⟨b1, 0, none⟩ = some (.slice (some ⟨ga, 0, none⟩) j j) ∧ w'.cell? ⟨b2, 0, none⟩ = some (.slice (some ⟨gd, 0, none⟩) d d) ∧ w'.cell? ⟨ga, 0, none⟩ = some (.int .u64 x0) ∧ w'.cell? ⟨ga, 1, none⟩ = some (.int .u64 x1)) ∧ (w.heap.size < w'.heap.size ∧ b1 < w'.heap.size ∧ b2 < w'.heap.size ∧ ga < w'.heap.size) ∧ RdG w' ag n cg (G.map nmg) ∧ RdI w' ao m co O ∧ Rd w' sa (j - 2) (j - 2) A2 ∧ Rd w' (some ⟨gd, 0, none⟩) d d D ∧ Tabs w' ∧ Shp w' ∧ Below w.heap.size w w') := fun w1 w' e hb => by
    subst e
    have hbw := hbA.trans (hb.mono hbA.size)
    obtain ⟨d0, d1⟩ := (hC.below hb hC.lt).cells
    exact ⟨⟨d0, d1, by rw [hbw.cell (p := ⟨b1, 0, none⟩) hb1l]; exact hc1, by rw [hbw.cell (p := ⟨b2, 0, none⟩) hb2l]; exact hc2, by rw [hbw.cell (p := ⟨ga, 0, none⟩) hga]; exact cx0, by rw [hbw.cell (p := ⟨ga, 1, none⟩) hga]; exact cx1⟩, ⟨(hC.below hb hC.lt).lt, Nat.lt_of_lt_of_le hb1l hbw.size, Nat.lt_of_lt_of_le hb2l hbw.size, Nat.lt_of_lt_of_le hga hbw.size⟩, h.below hbw, g.below hbw, hRA2.below hbw, hRD.below hbw, hT.below hbw, hS.below hbw, hbw⟩
  have hkj0 : (0 : Int) < (j : Int) := by omega
  have hkj1 : (1 : Int) < (j : Int) := by omega
  have hkj2 : (2 : Int) ≤ (j : Int) := by omega
  have hj0n : 0 < j := by omega
  have hj1n : 1 < j := by omega
  clear hGn hOm hP h g hc1 hc2 hA hD hRA hRD hRA2 cx0 cx1 hAb hDb hC hbA hT hS
  go_enter Tryz.func41, Tryz.ntmps41
  go_upto_region 1 with fail
  obtain ⟨w1, HW1⟩ : ∃ w1, Hid (w.alloc (.cells #[.slice ag n cg, .slice ao m co] 73) = w1) := ⟨_, rfl⟩
  rw [HW1.out]
  obtain ⟨gc, HGC⟩ : ∃ gc, Hid (w.heap.size = gc) := ⟨_, rfl⟩
  have HAL2 := fun w' hb => HAL.out w1 w' HW1.out hb
  rw [HGC.out] at HAL2 ⊢
  have HAM : Hid (∀ w', Below w1.heap.size w1 w' → _) := HAL2
  clear HAL HAL2
  obtain ⟨⟨y0, y1, y2, y3, y4, y5⟩, ⟨l0, l1, l2, l3⟩, y6, y7, y8, y9, y10, y11, y12⟩ := HAM.out w1 (Below.refl _ _)
  obtain ⟨⟨z0, z1, z2, z3, z4, z5⟩, ⟨m0, m1, m2, m3⟩, z6, z7, z8, z9, z10, z11, z12⟩ := HAM.out w1.drew (Below.refl _ _).drew
  go_region_held3 (fun w' => w'.cell? ⟨gc, 0, none⟩ = some (.slice ag n cg) ∧ w'.cell? ⟨gc, 1, none⟩ = some (.slice ao m co) ∧ w'.cell? ⟨b1, 0, none⟩ = some (.slice (some ⟨ga, 0, none⟩) j j) ∧ w'.cell? ⟨b2, 0, none⟩ = some (.slice (some ⟨gd, 0, none⟩) d d) ∧ w'.cell? ⟨ga, 0, none⟩ = some (.int .u64 x0) ∧ w'.cell? ⟨ga, 1, none⟩ = some (.int .u64 x1)) (go_keep) (first | (go_at_call 42; refine (eRun _ _ _ _ _ _ _ _ x0 x1 _ _ _ A2 _ _ _ D _ z6 z7 z8 z9 ⟨by omega, by omega⟩ ⟨by omega, by omega⟩ z11).mono ?_; intro e w2 hor; obtain ⟨a2, k2, c2, ub, uy, uz, r, L, rfl, hr2, hk2, hE, hL, hb2⟩ := enr_join hor; have hb2' : Below w1.heap.size w1 w2 := ((Below.refl _ _).drew).trans (hb2.mono (Nat.le_refl _)); obtain ⟨⟨t0, t1, t2, t3, t4, t5⟩, ⟨n0, n1, n2, n3⟩, t6, t7, t8, t9, t10, t11, t12⟩ := HAM.out w2 hb2'))
  all_goals
    have HW : Hid (Cic vWork A d G O (sad L r)) := HCI.out r _ hE (by rw [hL, HOT.out])
    have hrb := ere_rb hE
    have hm2 := hr2.max
    have hc2 := hr2.cap
    clear hor hE hL y0 y1 y2 y3 y4 y5 l0 l1 l2 l3 y6 y7 y8 y9 y10 y11 y12 z0 z1 z2 z3 z4 z5 m0 m1 m2 m3 z6 z7 z8 z9 z10 z11 z12 t0 t1 t2 t3 t4 t5 n0 n1 n2 n3 t6 t7 t8 t9 t11 hb2 hb2'
    go_wp2_with fail
    refine (dTell _ _ _ L r _ hr2 (by omega) hrb.1 hrb.2 t10).mono ?_
    rintro e w3 ⟨rfl, hb3⟩
    rw [← HGC.out] at t12
    have hb13 := t12.trans (hb3.mono t12.size)
    obtain ⟨X, HX⟩ : ∃ X, Hid (sad L r = X) := ⟨_, rfl⟩
    rw [HX.out] at HW ⊢
    go_wp2
    go_ret
    exact ⟨X, rfl, HW.out, hb13⟩
theorem dNewK (w0 w w1 : World) (p : Nat) (G : Nat → Prop) (T : ByteArray) (S : Option Kt) (v : ByteArray) (l : List ByteArray) (n t : Int) (H0 : Dbc w0 w p G T S) (hb1 : Below w.heap.size w w1) (hn : 0 ≤ n ∧ n ≤ 9999999999) (ht : 0 ≤ t ∧ t ≤ 9999999999) (hT : Tabs w1)
    (hda : ∀ out S', ((((0 ≤ t ∧ t ≤ 4) ∧ n ≤ 9 ∧ 2 * t + 1 ≤ n) ∧ out = okB ∧ S' = some (k0 n.toNat t.toNat)) ∨ (¬ ((0 ≤ t ∧ t ≤ 4) ∧ n ≤ 9 ∧ 2 * t + 1 ≤ n) ∧ out = erB 1 ∧ S' = S)) → Dln T S v l out T S') :
    Calls Tryz.prog 66 #[.pointer (some ⟨p, 0, none⟩), .int .i64 n, .int .i64 t] w1 fun e w' => Dle w0 p G T S v l w e w' ∧ Tch w1 w' (fun i => i = p) ∧ ∃ out, e = .returned (.string out) := by
  have H : Hid (Dbc w0 w p G T S) := H0
  have HDA : Hid (∀ out S', ((((0 ≤ t ∧ t ≤ 4) ∧ n ≤ 9 ∧ 2 * t + 1 ≤ n) ∧ out = okB ∧ S' = some (k0 n.toNat t.toNat)) ∨ (¬ ((0 ≤ t ∧ t ≤ 4) ∧ n ≤ 9 ∧ 2 * t + 1 ≤ n) ∧ out = erB 1 ∧ S' = S)) → Dln T S v l out T S') := hda
  clear H0 hda
  have hpl1 := (H.out.same hb1).plt
  go_enter Tryz.func66, Tryz.ntmps66
  go_wp2_with fail
  refine (cNewK n t _ ⟨by omega, by omega⟩ ⟨by omega, by omega⟩).mono ?_
  rintro e w2 ⟨⟨hno, rfl⟩ | ⟨n', t', b, K, rfl, rfl, ht4, hn9, hnt, rfl, hst, hK⟩, hb2⟩
  · have hb12 := hb1.trans (hb2.mono hb1.size)
    have HD : Hid (Dln T S v l (erB 1) T S) := HDA.out _ _ (.inr ⟨hno, rfl, rfl⟩)
    have hT2 := hT.below hb2
    clear hno HDA
    go_wp2_with fail
    refine (dFail 1 _ (by omega) (by omega) hT2).mono ?_
    rintro e wz ⟨rfl, hbz⟩
    have hbw := hb12.trans (hbz.mono hb12.size)
    have hbt : Below w1.heap.size w1 wz := hb2.trans (hbz.mono hb2.size)
    obtain ⟨X, HX⟩ : ∃ X, Hid (erB 1 = X) := ⟨_, rfl⟩
    rw [HX.out] at HD ⊢
    go_wp2
    go_ret
    exact ⟨Dle.quiet H.out hbw HD.out, Tch.of_below hbt, X, rfl⟩
  · have hb12 := hb1.trans (hb2.mono hb1.size)
    have HD : Hid (Dln T S v l okB T (some (k0 n' t'))) := HDA.out _ _ (.inl ⟨⟨⟨by omega, by omega⟩, by omega, by omega⟩, rfl, by rw [Int.toNat_natCast, Int.toNat_natCast]⟩)
    obtain ⟨qq, h5, _⟩ := (H.out.same hb12).row
    have c5 : w2.cell? ⟨p, 1, none⟩ = some (.pointer qq) := by rw [cell_of_row w2 p _ _ _ (0, 0) h5]; rfl
    have f5 : w2.frozen? ⟨p, 1, none⟩ = false := frozen_of_row w2 p 1 _ _ h5
    have hpl2 : p < w2.heap.size := (Array.getElem?_eq_some_iff.1 h5).1
    have HL : Hid (Dle w0 p G T S v l w (.returned (.string okB)) (w2.setCell ⟨p, 1, none⟩ (.pointer (some ⟨b, 0, none⟩)))) := Dle.keys H.out hb1 hb2 hst hK rfl HD.out
    have HTC : Hid (Tch w1 (w2.setCell ⟨p, 1, none⟩ (.pointer (some ⟨b, 0, none⟩))) (fun i => i = p)) := ⟨hb2.os, hb2.tape, hb2.output, by simp; exact hb2.size, fun i hi hn => (heap_setCell_other w2 ⟨p, 1, none⟩ i _ hn).trans (hb2.block i hi)⟩
    clear hst hK h5 HDA
    go_wp2
    go_ret
    exact ⟨HL.out, HTC.out, okB, rfl⟩

theorem enters_show : ∀ args w, (callFunc 91 args).run Tryz.prog w = .ok (.enter 91 args) w := enters_of Tryz.func91 (by kernel_rfl) rfl
theorem enters_run : ∀ args w, (callFunc 64 args).run Tryz.prog w = .ok (.enter 64 args) w := enters_of Tryz.func64 (by kernel_rfl) rfl
theorem enters_work : ∀ args w, (callFunc 41 args).run Tryz.prog w = .ok (.enter 41 args) w := enters_of Tryz.func41 (by kernel_rfl) rfl

theorem dShow (p : Nat) (T : ByteArray) (w : World) (hcT : w.cell? ⟨p, 0, none⟩ = some (.string T)) (hTz : T.size ≤ 2048) (hT : Tabs w) (hS : Shp w) :
    Calls Tryz.prog 63 #[.pointer (some ⟨p, 0, none⟩)] w (Wce (Cic vShow [] 0) T w) := by
  have hW := dWith 91 #[] enters_show (Cic vShow [] 0) p T w hcT hTz hT hS (fun w1 ag n cg ao m co G O hb hP hGn hOm hG hO => dShowC T ag n cg ao m co G O w1 hP hGn hOm hG hO (hT.below hb) (hS.below hb))
  go_enter Tryz.func63, Tryz.ntmps63
  go_wp2_with fail
  refine hW.mono ?_
  rintro e w1 ⟨out, rfl, hQ, hb⟩
  have HQ : Hid (Wcr (Cic vShow [] 0) T out) := hQ
  clear hW hQ hcT
  go_wp2
  go_ret
  exact ⟨out, rfl, HQ.out, hb⟩
theorem dPlDeal (w0 w w1 : World) (p g : Nat) (G : Nat → Prop) (T : ByteArray) (S : Option Kt) (n : Nat) (N : List Int) (l : List ByteArray) (H0 : Dbc w0 w p G T S) (hb1 : Below w.heap.size w w1) (hB : Blk w1 g N) (hNl : N.length = n) (hNN : nba l = N) (hlen : l.length = n) (hN : ∀ x ∈ N, 0 ≤ x ∧ x ≤ 9999999999) (hn : n ≤ 70000) (hTz : T.size ≤ 2048) (hT : Tabs w0) (hS : Shp w0) (hSy : Syn vDeal l) (hk2 : 2 ≤ n) :
    Calls Tryz.prog 31 #[.pointer (some ⟨p, 0, none⟩), .string vDeal, .slice (some ⟨g, 0, none⟩) n n] w1 (Dle w0 p G T S vDeal l w) := by
  obtain ⟨v, HV⟩ : ∃ v, Hid (vDeal = v) := ⟨_, rfl⟩
  have q0 : (v.toList == [100, 101, 97, 108]) = true := by rw [← HV.out]; decide +kernel
  rw [HV.out]
  have H : Hid (Dbc w0 w p G T S) := H0
  have HN : Hid (∀ x ∈ N, 0 ≤ x ∧ x ≤ 9999999999) := hN
  have HNN : Hid (nba l = N) := hNN
  have hgl := hB.lt
  have hR : Rd w1 (some ⟨g, 0, none⟩) n n N := hB.whole n hNl.symm (by unfold maxLen; omega) (fun x hx => by have := hN x hx; omega)
  have HT : Hid (∀ w', Below w.heap.size w w' → Tabs w' ∧ Shp w' ∧ w'.cell? ⟨p, 0, none⟩ = some (.string T) ∧ w'.frozen? ⟨p, 0, none⟩ = false ∧ p < w'.heap.size) := fun w' hb => ⟨hT.below (H.out.bel.trans (hb.mono H.out.bel.size)), hS.below (H.out.bel.trans (hb.mono H.out.bel.size)), (H.out.same hb).text.1, (H.out.same hb).text.2, (H.out.same hb).plt⟩
  obtain ⟨hbA, hcA⟩ := box_new w1 (.slice (some ⟨g, 0, none⟩) n n)
  obtain ⟨wA, HWA⟩ : ∃ wA, Hid (w1.alloc (.cells #[.slice (some ⟨g, 0, none⟩) n n] 53) = wA) := ⟨_, rfl⟩
  rw [HWA.out] at hbA hcA
  obtain ⟨gb, HGB⟩ : ∃ gb, Hid (w1.heap.size = gb) := ⟨_, rfl⟩
  have hgbA : w1.heap.size < wA.heap.size := World.block_lt_of_cell? wA ⟨w1.heap.size, 0, none⟩ hcA
  rw [HGB.out] at hcA hgbA
  have hb1A := hb1.trans (hbA.mono hb1.size)
  have HBA : Hid (Below w.heap.size w wA) := hb1A
  have hRA := hR.below hbA
  have hBA := hB.belowB hbA
  have hglA : g < wA.heap.size := hBA.lt
  clear H0 hN hNN hR hB hbA
  obtain ⟨x0, HX0⟩ : ∃ x, Hid (N.getD 0 0 = x) := ⟨_, rfl⟩
  have cx0 : wA.cell? ⟨g, 0, none⟩ = some (.int .u64 x0) := by rw [← HX0.out]; exact hBA.cell (by omega)
  have hx0 : 0 ≤ x0 ∧ x0 ≤ 9999999999 := by
    rw [← HX0.out]
    exact HN.out _ (by rw [List.getD_eq_getElem?_getD, List.getElem?_eq_getElem (show 0 < N.length by omega)]; exact List.getElem_mem _)
  have hu0 : IntKind.i64.wrap x0 = x0 := by rw [IntKind.wrap_i64]; omega
  have hk0 : (0 : Int) < (n : Int) := by omega
  have hkn0 : 0 < n := by omega
  obtain ⟨x1, HX1⟩ : ∃ x, Hid (N.getD 1 0 = x) := ⟨_, rfl⟩
  have cx1 : wA.cell? ⟨g, 1, none⟩ = some (.int .u64 x1) := by rw [← HX1.out]; exact hBA.cell (by omega)
  have hx1 : 0 ≤ x1 ∧ x1 ≤ 9999999999 := by
    rw [← HX1.out]
    exact HN.out _ (by rw [List.getD_eq_getElem?_getD, List.getElem?_eq_getElem (show 1 < N.length by omega)]; exact List.getElem_mem _)
  have hu1 : IntKind.i64.wrap x1 = x1 := by rw [IntKind.wrap_i64]; omega
  have hk1 : (1 : Int) < (n : Int) := by omega
  have hkn1 : 1 < n := by omega
  obtain ⟨N1, HN1⟩ : ∃ N1, Hid (N.drop 2 = N1) := ⟨_, rfl⟩
  have HNW : Hid (∀ x ∈ N1, 0 ≤ x ∧ x ≤ 9999999999) := fun x hx => HN.out x (List.mem_of_mem_drop (by rw [HN1.out]; exact hx))
  obtain ⟨sa, HSA⟩ : ∃ sa, Hid (subA (some ⟨g, 0, none⟩) n 2 = sa) := ⟨_, rfl⟩
  have hsl : ∀ W, (Instr.sliceAt 53 (.slice (some ⟨g, 0, none⟩) n n) (some (.int .i64 2)) none none).run Tryz.prog W = .ok (.slice sa (n - 2) (n - 2)) W := fun W => by
    rw [← HSA.out]
    exact run_subl Tryz.underlying53 infoU1 _ n n 2 rfl (by omega) W
  have hR1 : Rd wA sa (n - 2) (n - 2) N1 := by
    have e := hRA.sub (lo := 2) (k := n - 2) (by omega)
    rw [HSA.out, HN1.out, List.take_of_length_le (by rw [← HN1.out, List.length_drop, hNl]; exact Nat.le_refl _)] at e
    exact e
  have hlk : (2 : Int) ≤ (n : Int) := by omega
  have HAL : Hid (∀ w', Below wA.heap.size wA w' → w'.cell? ⟨gb, 0, none⟩ = some (.slice (some ⟨g, 0, none⟩) n n) ∧ w'.cell? ⟨g, 0, none⟩ = some (.int .u64 x0) ∧ w'.cell? ⟨g, 1, none⟩ = some (.int .u64 x1) ∧ gb < w'.heap.size ∧ g < w'.heap.size ∧ Tabs w' ∧ Rd w' sa (n - 2) (n - 2) N1) := fun w' hb => ⟨by rw [hb.cell (p := ⟨gb, 0, none⟩) hgbA]; exact hcA, by rw [hb.cell (p := ⟨g, 0, none⟩) hglA]; exact cx0, by rw [hb.cell (p := ⟨g, 1, none⟩) hglA]; exact cx1, Nat.lt_of_lt_of_le hgbA hb.size, Nat.lt_of_lt_of_le hglA hb.size, (HT.out w' (HBA.out.trans (hb.mono HBA.out.size))).1, hR1.below hb⟩
  obtain ⟨y0, y1, y2, y3, y4, y5, y6⟩ := HAL.out wA (Below.refl _ _)
  obtain ⟨z0, z1, z2, z3, z4, z5, z6⟩ := HAL.out wA.drew (Below.refl _ _).drew
  have HDA : Hid (∀ out, out = (if n - 2 ≤ 4 ∧ ((n - 2 : Nat) : Int) < x0 ∧ x0 ≤ 9 then sad (dl (x1 :: N1) x0.toNat) 0 else erB 1) → Dln T S v l out T S) := fun out hd => by
    rw [← HV.out]
    refine .inr ⟨hSy, ?_⟩
    unfold Dac dla
    rw [if_neg (by decide), if_pos (by decide), HNN.out, HX0.out, HX1.out, HN1.out, hNl]
    exact ⟨rfl, rfl, hd⟩
  obtain ⟨m, HM⟩ : ∃ m, Hid (n - 2 = m) := ⟨_, rfl⟩
  have hmb : m ≤ 70000 := by rw [← HM.out]; omega
  rw [HM.out] at hsl HDA z6 y6
  have HAL2 : Hid (∀ w', Below wA.heap.size wA w' → w'.cell? ⟨gb, 0, none⟩ = some (.slice (some ⟨g, 0, none⟩) n n) ∧ w'.cell? ⟨g, 0, none⟩ = some (.int .u64 x0) ∧ w'.cell? ⟨g, 1, none⟩ = some (.int .u64 x1) ∧ Tabs w') := fun w' hb => by
    obtain ⟨u0, u1, u2, u3, u4, u5, u6⟩ := HAL.out w' hb
    exact ⟨u0, u1, u2, u5⟩
  clear hSy hRA hBA hR1 cx0 cx1 HAL
  by_cases hd : m ≤ 4 ∧ (m : Int) < x0 ∧ x0 ≤ 9
  · rw [if_pos hd] at HDA
    obtain ⟨n', rfl⟩ : ∃ n' : Nat, x0 = n' := ⟨x0.toNat, by omega⟩
    rw [Int.toNat_natCast] at HDA
    have hd1 := hd.1
    have hd2 : m < n' := by have := hd.2.1; omega
    have hd3 : n' ≤ 9 := by have := hd.2.2; omega
    clear hd
    go_enter Tryz.func31, Tryz.ntmps31
    go_upto_region 1 with fail
    rw [HWA.out, HGB.out]
    go_wp2
    go_region_held3 (fun w' => w'.cell? ⟨gb, 0, none⟩ = some (.slice (some ⟨g, 0, none⟩) n n) ∧ w'.cell? ⟨g, 0, none⟩ = some (.int .u64 (n' : Int)) ∧ w'.cell? ⟨g, 1, none⟩ = some (.int .u64 x1)) (go_keep) (first | (go_at_call 61; refine (cDealOK x1 _ _ _ N1 n' _ z6 (by omega) (by omega) hd1 hd2 hd3).mono ?_; rintro e w3 ⟨g3, rfl, hr3, hg3, hb3⟩; have hb3' : Below wA.heap.size wA w3 := ((Below.refl _ _).drew).trans (hb3.mono (Nat.le_refl _)); obtain ⟨t0, t1, t2, t3⟩ := HAL2.out w3 hb3') | (go_at_call 43; refine (dTell _ _ _ _ 0 _ hr3 (by omega) (by omega) (by omega) t3).mono ?_; rintro e w4 ⟨rfl, hb4⟩; have hb4' := hb3'.trans (hb4.mono hb3'.size); obtain ⟨o0, o1, o2, o3⟩ := HAL2.out w4 hb4'))
    all_goals
      have HL : Hid (Dle w0 p G T S v l w (.returned (.string (sad (dl (x1 :: N1) n') 0))) w4) := Dle.quiet H.out (HBA.out.trans (hb4'.mono HBA.out.size)) (HDA.out _ rfl)
      obtain ⟨X, HX⟩ : ∃ X, Hid (sad (dl (x1 :: N1) n') 0 = X) := ⟨_, rfl⟩
      rw [HX.out] at HL ⊢
      clear hr3 hb3 hb4 HDA t0 t1 t2 t3 o0 o1 o2 o3
      go_wp2
      go_ret
      exact HL.out
  · rw [if_neg hd] at HDA
    have hdn : 4 < m ∨ x0 ≤ (m : Int) ∨ 9 < x0 := by omega
    clear hd
    go_enter Tryz.func31, Tryz.ntmps31
    go_upto_region 1 with fail
    rw [HWA.out, HGB.out]
    go_wp2
    go_region_held3 (fun w' => w'.cell? ⟨gb, 0, none⟩ = some (.slice (some ⟨g, 0, none⟩) n n) ∧ w'.cell? ⟨g, 0, none⟩ = some (.int .u64 x0) ∧ w'.cell? ⟨g, 1, none⟩ = some (.int .u64 x1)) (go_keep) (first | (go_at_call 61; refine (cDealE x1 _ _ _ x0 _ (by omega) hdn).mono ?_; rintro e w3 ⟨rfl, hw3⟩; have hw3 := hw3.symm; subst hw3) | (go_at_call 43; refine (dTell _ _ _ [] 1 _ (nil_rd0 _) (by omega) (by omega) (by omega) z5).mono ?_; rintro e w4 ⟨rfl, hb4⟩; have hb4' : Below wA.heap.size wA w4 := ((Below.refl _ _).drew).trans (hb4.mono (Nat.le_refl _)); obtain ⟨o0, o1, o2, o3⟩ := HAL2.out w4 hb4'))
    all_goals
      have HL : Hid (Dle w0 p G T S v l w (.returned (.string (sad [] 1))) w4) := Dle.quiet H.out (HBA.out.trans (hb4'.mono HBA.out.size)) (HDA.out _ rfl)
      obtain ⟨X, HX⟩ : ∃ X, Hid (sad [] 1 = X) := ⟨_, rfl⟩
      rw [HX.out] at HL ⊢
      clear hb4 HDA o0 o1 o2 o3
      go_wp2
      go_ret
      exact HL.out
theorem dAnsDeal (w0 w : World) (p : Nat) (G : Nat → Prop) (T : ByteArray) (S : Option Kt) (a : Option Addr) (n c : Nat) (l : List ByteArray) (h : Dbc w0 w p G T S) (r : RdT w a n c l) (hn : n ≤ 70000) (hTz : T.size ≤ 2048) (hlast : ∀ s, S = some s → s.last ≤ 1000000) (hT : Tabs w0) (hS : Shp w0) (hDs : Dsp w0) :
    Calls Tryz.prog 14 #[.pointer (some ⟨p, 0, none⟩), .string vDeal, .slice a n c] w (Dle w0 p G T S vDeal l w) := by
  obtain ⟨v, HV⟩ : ∃ v, Hid (vDeal = v) := ⟨_, rfl⟩
  have q_vCirc : (v.toList == [99, 105, 114, 99, 117, 105, 116]) = false := by rw [← HV.out]; decide +kernel
  have q_vWork : (v.toList == [119, 111, 114, 107]) = false := by rw [← HV.out]; decide +kernel
  rw [HV.out]
  have hlen := r.len
  have hcap := r.cap
  have hmax := r.max
  unfold maxLen at hmax
  have hpl := h.plt
  have H : Hid (Dbc w0 w p G T S) := h
  have HT : Hid (∀ w', Below w.heap.size w w' → Tabs w' ∧ Shp w' ∧ Dsp w') := fun w' hb => ⟨hT.below (h.bel.trans (hb.mono h.bel.size)), hS.below (h.bel.trans (hb.mono h.bel.size)), hDs.below (h.bel.trans (hb.mono h.bel.size))⟩
  have HSQ : Hid (∀ le mo, Shq v le mo → le = 2 ∧ mo = true) := fun le mo hq => shq_vDeal (by rw [HV.out]; exact hq)
  have HFT : Hid (Fit3 l n 2 true ↔ Syn vDeal l) := fit_vDeal hlen
  clear h
  go_enter Tryz.func14, Tryz.ntmps14
  go_wp2_with fail
  refine (dShape v _ (HT.out _ (Below.refl _ _)).2.2).mono ?_
  rintro e w1 ⟨wd, le, mo, rfl, hq, hb1⟩
  obtain ⟨rfl, rfl⟩ := HSQ.out le mo hq
  clear hq
  go_wp2_with fail
  refine (dRead wd 2 true _ _ _ l _ (r.below hb1) (by omega)).mono ?_
  rintro e w2 ⟨⟨hno, u, rfl⟩ | ⟨hok, g, rfl, hg, hB⟩, hb2⟩
  · have hb12 := hb1.trans (hb2.mono hb1.size)
    have HD : Hid (Dln T S v l (erB 3) T S) := by rw [← HV.out]; exact .inl ⟨fun hs => hno (HFT.out.2 hs), rfl, rfl, rfl⟩
    obtain ⟨hTb, _⟩ := HT.out _ hb12
    clear hno
    go_wp2_with fail
    refine (dFail 3 _ (by omega) (by omega) hTb).mono ?_
    rintro e wz ⟨rfl, hbz⟩
    have hbw := hb12.trans (hbz.mono hb12.size)
    obtain ⟨X, HX⟩ : ∃ X, Hid (erB 3 = X) := ⟨_, rfl⟩
    rw [HX.out] at HD ⊢
    clear hbz hTb
    go_wp2
    go_ret
    exact Dle.quiet H.out hbw HD.out
  · have hb12 := hb1.trans (hb2.mono hb1.size)
    have hs1 := hb1.size
    have HSY : Hid (Syn vDeal l) := HFT.out.1 hok
    have HNB : Hid (∀ x ∈ nba l, 0 ≤ x ∧ x ≤ 9999999999) := nba_bd (by rw [hlen]; exact hok.1)
    obtain ⟨N, HNN⟩ : ∃ N, Hid (nba l = N) := ⟨_, rfl⟩
    have e0 : nbl l n = N := by rw [← HNN.out, ← hlen]; rfl
    have hNl : N.length = n := by rw [← HNN.out, nba_len]; exact hlen
    have HKN : Hid (Fit3 l n 2 true) := hok
    rw [e0] at hB
    rw [HNN.out] at HNB
    clear hok e0
    have q0 : (v.toList == [103, 101, 110]) = false := by rw [← HV.out]; decide +kernel
    have q1 : (v.toList == [114, 101, 102, 114, 101, 115, 104]) = false := by rw [← HV.out]; decide +kernel
    have q2 : (v.toList == [116, 119, 101, 97, 107]) = false := by rw [← HV.out]; decide +kernel
    have q3 : (v.toList == [99, 111, 109, 98, 105, 110, 101]) = false := by rw [← HV.out]; decide +kernel
    have q4 : (v.toList == [109, 117, 108, 116, 105, 112, 108, 121]) = false := by rw [← HV.out]; decide +kernel
    have q5 : (v.toList == [107, 101, 121]) = false := by rw [← HV.out]; decide +kernel
    have q6 : (v.toList == [100, 114, 111, 112]) = false := by rw [← HV.out]; decide +kernel
    go_wp2_with fail
    refine (dKcNil v _ _ _ _ q0 q1 q2 q3 q4 q5 q6).mono ?_
    rintro e w3 ⟨rfl, hw3⟩
    obtain ⟨hb3, hc3⟩ := box_new w2 (.slice (some ⟨g, 0, none⟩) n n)
    rw [← hw3] at hb3 hc3
    clear hw3 hc3
    have hb13 := hb12.trans (hb3.mono hb12.size)
    have hB3 := hB.belowB hb3
    have hgl := hB.lt
    have hnf := fun W => neq_nil W
    clear hB hb3
    go_wp2_with fail
    rw [← HV.out]
    refine (dPlDeal w0 w w3 p g G T S n N l H.out hb13 hB3 hNl HNN.out hlen HNB.out (by omega) hTz hT hS HSY.out HKN.out.2.1).mono ?_
    intro e w4 hD
    have HD : Hid (Dle w0 p G T S v l w e w4) := by rw [← HV.out]; exact hD
    obtain ⟨out, T', S', rfl, _⟩ := hD
    clear hB3
    go_wp2
    go_ret
    exact HD.out
theorem dPlOpen (w0 w w1 : World) (p g : Nat) (G : Nat → Prop) (T : ByteArray) (S : Option Kt) (n : Nat) (N : List Int) (l : List ByteArray) (H0 : Dbc w0 w p G T S) (hb1 : Below w.heap.size w w1) (hB : Blk w1 g N) (hNl : N.length = n) (hNN : nba l = N) (hlen : l.length = n) (hN : ∀ x ∈ N, 0 ≤ x ∧ x ≤ 9999999999) (hn : n ≤ 70000) (hTz : T.size ≤ 2048) (hT : Tabs w0) (hS : Shp w0) (hok : okn l l.length) (hk1 : 1 ≤ n) :
    Calls Tryz.prog 31 #[.pointer (some ⟨p, 0, none⟩), .string vOpen, .slice (some ⟨g, 0, none⟩) n n] w1 (Dle w0 p G T S vOpen l w) := by
  obtain ⟨v, HV⟩ : ∃ v, Hid (vOpen = v) := ⟨_, rfl⟩
  have q0 : (v.toList == [100, 101, 97, 108]) = false := by rw [← HV.out]; decide +kernel
  have q1 : (v.toList == [111, 112, 101, 110]) = true := by rw [← HV.out]; decide +kernel
  rw [HV.out]
  have H : Hid (Dbc w0 w p G T S) := H0
  have HN : Hid (∀ x ∈ N, 0 ≤ x ∧ x ≤ 9999999999) := hN
  have HNN : Hid (nba l = N) := hNN
  have hgl := hB.lt
  have hR : Rd w1 (some ⟨g, 0, none⟩) n n N := hB.whole n hNl.symm (by unfold maxLen; omega) (fun x hx => by have := hN x hx; omega)
  have HT : Hid (∀ w', Below w.heap.size w w' → Tabs w' ∧ Shp w' ∧ w'.cell? ⟨p, 0, none⟩ = some (.string T) ∧ w'.frozen? ⟨p, 0, none⟩ = false ∧ p < w'.heap.size) := fun w' hb => ⟨hT.below (H.out.bel.trans (hb.mono H.out.bel.size)), hS.below (H.out.bel.trans (hb.mono H.out.bel.size)), (H.out.same hb).text.1, (H.out.same hb).text.2, (H.out.same hb).plt⟩
  obtain ⟨hbA, hcA⟩ := box_new w1 (.slice (some ⟨g, 0, none⟩) n n)
  obtain ⟨wA, HWA⟩ : ∃ wA, Hid (w1.alloc (.cells #[.slice (some ⟨g, 0, none⟩) n n] 53) = wA) := ⟨_, rfl⟩
  rw [HWA.out] at hbA hcA
  obtain ⟨gb, HGB⟩ : ∃ gb, Hid (w1.heap.size = gb) := ⟨_, rfl⟩
  have hgbA : w1.heap.size < wA.heap.size := World.block_lt_of_cell? wA ⟨w1.heap.size, 0, none⟩ hcA
  rw [HGB.out] at hcA hgbA
  have hb1A := hb1.trans (hbA.mono hb1.size)
  have HBA : Hid (Below w.heap.size w wA) := hb1A
  have hRA := hR.below hbA
  have hBA := hB.belowB hbA
  have hglA : g < wA.heap.size := hBA.lt
  clear H0 hN hNN hR hB hbA
  obtain ⟨x0, HX0⟩ : ∃ x, Hid (N.getD 0 0 = x) := ⟨_, rfl⟩
  have cx0 : wA.cell? ⟨g, 0, none⟩ = some (.int .u64 x0) := by rw [← HX0.out]; exact hBA.cell (by omega)
  have hx0 : 0 ≤ x0 ∧ x0 ≤ 9999999999 := by
    rw [← HX0.out]
    exact HN.out _ (by rw [List.getD_eq_getElem?_getD, List.getElem?_eq_getElem (show 0 < N.length by omega)]; exact List.getElem_mem _)
  have hu0 : IntKind.i64.wrap x0 = x0 := by rw [IntKind.wrap_i64]; omega
  have hk0 : (0 : Int) < (n : Int) := by omega
  have hkn0 : 0 < n := by omega
  obtain ⟨N1, HN1⟩ : ∃ N1, Hid (N.drop 1 = N1) := ⟨_, rfl⟩
  have HNW : Hid (∀ x ∈ N1, 0 ≤ x ∧ x ≤ 9999999999) := fun x hx => HN.out x (List.mem_of_mem_drop (by rw [HN1.out]; exact hx))
  obtain ⟨sa, HSA⟩ : ∃ sa, Hid (subA (some ⟨g, 0, none⟩) n 1 = sa) := ⟨_, rfl⟩
  have hsl : ∀ W, (Instr.sliceAt 53 (.slice (some ⟨g, 0, none⟩) n n) (some (.int .i64 1)) none none).run Tryz.prog W = .ok (.slice sa (n - 1) (n - 1)) W := fun W => by
    rw [← HSA.out]
    exact run_subl Tryz.underlying53 infoU1 _ n n 1 rfl (by omega) W
  have hR1 : Rd wA sa (n - 1) (n - 1) N1 := by
    have e := hRA.sub (lo := 1) (k := n - 1) (by omega)
    rw [HSA.out, HN1.out, List.take_of_length_le (by rw [← HN1.out, List.length_drop, hNl]; exact Nat.le_refl _)] at e
    exact e
  have hlk : (1 : Int) ≤ (n : Int) := by omega
  have HDA : Hid (∀ out, Dpn N1 (n - 1) x0 out → Dln T S v l out T S) := fun out hd => by
    rw [← HV.out]
    rcases hd with ⟨h1, rfl⟩ | ⟨h1, x, B, r, hR, rfl⟩
    · exact .inl ⟨fun hs => by have := ((syn_vOpen l).1 hs).2; omega, rfl, rfl, rfl⟩
    · refine .inr ⟨(syn_vOpen l).2 ⟨hok, by omega⟩, ?_⟩
      unfold Dac
      rw [if_neg (by decide), if_neg (by decide), if_pos (by decide), HNN.out, HX0.out, hlen]
      refine ⟨rfl, rfl, x, B, r, ?_, rfl⟩
      rw [← prk_all, hNl, ← pr2_prk, HN1.out]
      exact hR
  have HAL : Hid (∀ w', Below wA.heap.size wA w' → w'.cell? ⟨gb, 0, none⟩ = some (.slice (some ⟨g, 0, none⟩) n n) ∧ w'.cell? ⟨g, 0, none⟩ = some (.int .u64 x0) ∧ gb < w'.heap.size ∧ g < w'.heap.size ∧ Tabs w' ∧ Rd w' sa (n - 1) (n - 1) N1) := fun w' hb => ⟨by rw [hb.cell (p := ⟨gb, 0, none⟩) hgbA]; exact hcA, by rw [hb.cell (p := ⟨g, 0, none⟩) hglA]; exact cx0, Nat.lt_of_lt_of_le hgbA hb.size, Nat.lt_of_lt_of_le hglA hb.size, (HT.out w' (HBA.out.trans (hb.mono HBA.out.size))).1, hR1.below hb⟩
  obtain ⟨y0, y1, y2, y3, y4, y5⟩ := HAL.out wA (Below.refl _ _)
  obtain ⟨z0, z1, z2, z3, z4, z5⟩ := HAL.out wA.drew (Below.refl _ _).drew
  clear hok hRA hBA hR1 cx0
  go_enter Tryz.func31, Tryz.ntmps31
  go_upto_region 1 with fail
  rw [HWA.out, HGB.out]
  go_wp2
  go_region_held3 (fun w' => w'.cell? ⟨gb, 0, none⟩ = some (.slice (some ⟨g, 0, none⟩) n n) ∧ w'.cell? ⟨g, 0, none⟩ = some (.int .u64 x0)) (go_keep) (first | (go_at_call 62; refine (dOpen x0 _ _ _ N1 _ z5 (by omega) HNW.out z4).mono ?_; rintro e w3 ⟨out, rfl, hQ, hb3⟩; have hb3' : Below wA.heap.size wA w3 := ((Below.refl _ _).drew).trans (hb3.mono (Nat.le_refl _)); obtain ⟨t0, t1, t2, t3, t4, t5⟩ := HAL.out w3 hb3'))
  all_goals
    have HL : Hid (Dle w0 p G T S v l w (.returned (.string out)) w3) := Dle.quiet H.out (HBA.out.trans (hb3'.mono HBA.out.size)) (HDA.out out hQ)
    clear hQ hb3 HDA
    go_wp2
    go_ret
    exact HL.out
theorem dAnsOpen (w0 w : World) (p : Nat) (G : Nat → Prop) (T : ByteArray) (S : Option Kt) (a : Option Addr) (n c : Nat) (l : List ByteArray) (h : Dbc w0 w p G T S) (r : RdT w a n c l) (hn : n ≤ 70000) (hTz : T.size ≤ 2048) (hlast : ∀ s, S = some s → s.last ≤ 1000000) (hT : Tabs w0) (hS : Shp w0) (hDs : Dsp w0) :
    Calls Tryz.prog 14 #[.pointer (some ⟨p, 0, none⟩), .string vOpen, .slice a n c] w (Dle w0 p G T S vOpen l w) := by
  obtain ⟨v, HV⟩ : ∃ v, Hid (vOpen = v) := ⟨_, rfl⟩
  have q_vCirc : (v.toList == [99, 105, 114, 99, 117, 105, 116]) = false := by rw [← HV.out]; decide +kernel
  have q_vWork : (v.toList == [119, 111, 114, 107]) = false := by rw [← HV.out]; decide +kernel
  rw [HV.out]
  have hlen := r.len
  have hcap := r.cap
  have hmax := r.max
  unfold maxLen at hmax
  have hpl := h.plt
  have H : Hid (Dbc w0 w p G T S) := h
  have HT : Hid (∀ w', Below w.heap.size w w' → Tabs w' ∧ Shp w' ∧ Dsp w') := fun w' hb => ⟨hT.below (h.bel.trans (hb.mono h.bel.size)), hS.below (h.bel.trans (hb.mono h.bel.size)), hDs.below (h.bel.trans (hb.mono h.bel.size))⟩
  have HSQ : Hid (∀ le mo, Shq v le mo → le = 1 ∧ mo = true) := fun le mo hq => shq_vOpen (by rw [HV.out]; exact hq)
  have HFT : Hid (Syn vOpen l → Fit3 l n 1 true) := fun hs => by have h1 := (syn_vOpen l).1 hs; rw [hlen] at h1; exact ⟨h1.1, by omega, .inr rfl⟩
  clear h
  go_enter Tryz.func14, Tryz.ntmps14
  go_wp2_with fail
  refine (dShape v _ (HT.out _ (Below.refl _ _)).2.2).mono ?_
  rintro e w1 ⟨wd, le, mo, rfl, hq, hb1⟩
  obtain ⟨rfl, rfl⟩ := HSQ.out le mo hq
  clear hq
  go_wp2_with fail
  refine (dRead wd 1 true _ _ _ l _ (r.below hb1) (by omega)).mono ?_
  rintro e w2 ⟨⟨hno, u, rfl⟩ | ⟨hok, g, rfl, hg, hB⟩, hb2⟩
  · have hb12 := hb1.trans (hb2.mono hb1.size)
    have HD : Hid (Dln T S v l (erB 3) T S) := by rw [← HV.out]; exact .inl ⟨fun hs => hno (HFT.out hs), rfl, rfl, rfl⟩
    obtain ⟨hTb, _⟩ := HT.out _ hb12
    clear hno
    go_wp2_with fail
    refine (dFail 3 _ (by omega) (by omega) hTb).mono ?_
    rintro e wz ⟨rfl, hbz⟩
    have hbw := hb12.trans (hbz.mono hb12.size)
    obtain ⟨X, HX⟩ : ∃ X, Hid (erB 3 = X) := ⟨_, rfl⟩
    rw [HX.out] at HD ⊢
    clear hbz hTb
    go_wp2
    go_ret
    exact Dle.quiet H.out hbw HD.out
  · have hb12 := hb1.trans (hb2.mono hb1.size)
    have hs1 := hb1.size
    have HNB : Hid (∀ x ∈ nba l, 0 ≤ x ∧ x ≤ 9999999999) := nba_bd (by rw [hlen]; exact hok.1)
    obtain ⟨N, HNN⟩ : ∃ N, Hid (nba l = N) := ⟨_, rfl⟩
    have e0 : nbl l n = N := by rw [← HNN.out, ← hlen]; rfl
    have hNl : N.length = n := by rw [← HNN.out, nba_len]; exact hlen
    have HKN : Hid (Fit3 l n 1 true) := hok
    rw [e0] at hB
    rw [HNN.out] at HNB
    clear hok e0
    have q0 : (v.toList == [103, 101, 110]) = false := by rw [← HV.out]; decide +kernel
    have q1 : (v.toList == [114, 101, 102, 114, 101, 115, 104]) = false := by rw [← HV.out]; decide +kernel
    have q2 : (v.toList == [116, 119, 101, 97, 107]) = false := by rw [← HV.out]; decide +kernel
    have q3 : (v.toList == [99, 111, 109, 98, 105, 110, 101]) = false := by rw [← HV.out]; decide +kernel
    have q4 : (v.toList == [109, 117, 108, 116, 105, 112, 108, 121]) = false := by rw [← HV.out]; decide +kernel
    have q5 : (v.toList == [107, 101, 121]) = false := by rw [← HV.out]; decide +kernel
    have q6 : (v.toList == [100, 114, 111, 112]) = false := by rw [← HV.out]; decide +kernel
    go_wp2_with fail
    refine (dKcNil v _ _ _ _ q0 q1 q2 q3 q4 q5 q6).mono ?_
    rintro e w3 ⟨rfl, hw3⟩
    obtain ⟨hb3, hc3⟩ := box_new w2 (.slice (some ⟨g, 0, none⟩) n n)
    rw [← hw3] at hb3 hc3
    clear hw3 hc3
    have hb13 := hb12.trans (hb3.mono hb12.size)
    have hB3 := hB.belowB hb3
    have hgl := hB.lt
    have hnf := fun W => neq_nil W
    clear hB hb3
    go_wp2_with fail
    rw [← HV.out]
    refine (dPlOpen w0 w w3 p g G T S n N l H.out hb13 hB3 hNl HNN.out hlen HNB.out (by omega) hTz hT hS (by rw [hlen]; exact HKN.out.1) HKN.out.2.1).mono ?_
    intro e w4 hD
    have HD : Hid (Dle w0 p G T S v l w e w4) := by rw [← HV.out]; exact hD
    obtain ⟨out, T', S', rfl, _⟩ := hD
    clear hB3
    go_wp2
    go_ret
    exact HD.out
theorem dPlClear (w0 w w1 : World) (p g : Nat) (G : Nat → Prop) (T : ByteArray) (S : Option Kt) (n : Nat) (N : List Int) (l : List ByteArray) (H0 : Dbc w0 w p G T S) (hb1 : Below w.heap.size w w1) (hB : Blk w1 g N) (hNl : N.length = n) (hNN : nba l = N) (hlen : l.length = n) (hN : ∀ x ∈ N, 0 ≤ x ∧ x ≤ 9999999999) (hn : n ≤ 70000) (hTz : T.size ≤ 2048) (hT : Tabs w0) (hS : Shp w0) (hSy : Syn vClear l) :
    Calls Tryz.prog 31 #[.pointer (some ⟨p, 0, none⟩), .string vClear, .slice (some ⟨g, 0, none⟩) n n] w1 (Dle w0 p G T S vClear l w) := by
  obtain ⟨v, HV⟩ : ∃ v, Hid (vClear = v) := ⟨_, rfl⟩
  have q0 : (v.toList == [100, 101, 97, 108]) = false := by rw [← HV.out]; decide +kernel
  have q1 : (v.toList == [111, 112, 101, 110]) = false := by rw [← HV.out]; decide +kernel
  have q2 : (v.toList == [99, 108, 101, 97, 114]) = true := by rw [← HV.out]; decide +kernel
  rw [HV.out]
  have H : Hid (Dbc w0 w p G T S) := H0
  have HN : Hid (∀ x ∈ N, 0 ≤ x ∧ x ≤ 9999999999) := hN
  have HNN : Hid (nba l = N) := hNN
  have hgl := hB.lt
  have hR : Rd w1 (some ⟨g, 0, none⟩) n n N := hB.whole n hNl.symm (by unfold maxLen; omega) (fun x hx => by have := hN x hx; omega)
  have HT : Hid (∀ w', Below w.heap.size w w' → Tabs w' ∧ Shp w' ∧ w'.cell? ⟨p, 0, none⟩ = some (.string T) ∧ w'.frozen? ⟨p, 0, none⟩ = false ∧ p < w'.heap.size) := fun w' hb => ⟨hT.below (H.out.bel.trans (hb.mono H.out.bel.size)), hS.below (H.out.bel.trans (hb.mono H.out.bel.size)), (H.out.same hb).text.1, (H.out.same hb).text.2, (H.out.same hb).plt⟩
  obtain ⟨hbA, hcA⟩ := box_new w1 (.slice (some ⟨g, 0, none⟩) n n)
  obtain ⟨wA, HWA⟩ : ∃ wA, Hid (w1.alloc (.cells #[.slice (some ⟨g, 0, none⟩) n n] 53) = wA) := ⟨_, rfl⟩
  rw [HWA.out] at hbA hcA
  obtain ⟨gb, HGB⟩ : ∃ gb, Hid (w1.heap.size = gb) := ⟨_, rfl⟩
  have hgbA : w1.heap.size < wA.heap.size := World.block_lt_of_cell? wA ⟨w1.heap.size, 0, none⟩ hcA
  rw [HGB.out] at hcA hgbA
  have hb1A := hb1.trans (hbA.mono hb1.size)
  have HBA : Hid (Below w.heap.size w wA) := hb1A
  have hRA := hR.below hbA
  have hBA := hB.belowB hbA
  have hglA : g < wA.heap.size := hBA.lt
  clear H0 hN hNN hR hB hbA
  have HD : Hid (Dln T S v l okB ⟨#[]⟩ S) := by rw [← HV.out]; exact .inr ⟨hSy, by unfold Dac; rw [if_neg (by decide), if_neg (by decide), if_neg (by decide), if_pos (by decide)]; exact ⟨rfl, rfl, rfl⟩⟩
  have HL : Hid (Dle w0 p G T S v l w (.returned (.string okB)) (wA.setCell ⟨p, 0, none⟩ (.string ⟨#[]⟩))) := Dle.text H.out HBA.out HD.out
  obtain ⟨_, _, z0, z1, z2⟩ := HT.out wA HBA.out
  clear hSy
  go_enter Tryz.func31, Tryz.ntmps31
  go_upto_region 1 with fail
  rw [HWA.out, HGB.out]
  go_wp2
  go_ret
  exact HL.out
theorem dAnsClear (w0 w : World) (p : Nat) (G : Nat → Prop) (T : ByteArray) (S : Option Kt) (a : Option Addr) (n c : Nat) (l : List ByteArray) (h : Dbc w0 w p G T S) (r : RdT w a n c l) (hn : n ≤ 70000) (hTz : T.size ≤ 2048) (hlast : ∀ s, S = some s → s.last ≤ 1000000) (hT : Tabs w0) (hS : Shp w0) (hDs : Dsp w0) :
    Calls Tryz.prog 14 #[.pointer (some ⟨p, 0, none⟩), .string vClear, .slice a n c] w (Dle w0 p G T S vClear l w) := by
  obtain ⟨v, HV⟩ : ∃ v, Hid (vClear = v) := ⟨_, rfl⟩
  have q_vCirc : (v.toList == [99, 105, 114, 99, 117, 105, 116]) = false := by rw [← HV.out]; decide +kernel
  have q_vWork : (v.toList == [119, 111, 114, 107]) = false := by rw [← HV.out]; decide +kernel
  rw [HV.out]
  have hlen := r.len
  have hcap := r.cap
  have hmax := r.max
  unfold maxLen at hmax
  have hpl := h.plt
  have H : Hid (Dbc w0 w p G T S) := h
  have HT : Hid (∀ w', Below w.heap.size w w' → Tabs w' ∧ Shp w' ∧ Dsp w') := fun w' hb => ⟨hT.below (h.bel.trans (hb.mono h.bel.size)), hS.below (h.bel.trans (hb.mono h.bel.size)), hDs.below (h.bel.trans (hb.mono h.bel.size))⟩
  have HSQ : Hid (∀ le mo, Shq v le mo → le = 0 ∧ mo = false) := fun le mo hq => shq_vClear (by rw [HV.out]; exact hq)
  have HFT : Hid (Fit3 l n 0 false ↔ Syn vClear l) := fit_vClear hlen
  clear h
  go_enter Tryz.func14, Tryz.ntmps14
  go_wp2_with fail
  refine (dShape v _ (HT.out _ (Below.refl _ _)).2.2).mono ?_
  rintro e w1 ⟨wd, le, mo, rfl, hq, hb1⟩
  obtain ⟨rfl, rfl⟩ := HSQ.out le mo hq
  clear hq
  go_wp2_with fail
  refine (dRead wd 0 false _ _ _ l _ (r.below hb1) (by omega)).mono ?_
  rintro e w2 ⟨⟨hno, u, rfl⟩ | ⟨hok, g, rfl, hg, hB⟩, hb2⟩
  · have hb12 := hb1.trans (hb2.mono hb1.size)
    have HD : Hid (Dln T S v l (erB 3) T S) := by rw [← HV.out]; exact .inl ⟨fun hs => hno (HFT.out.2 hs), rfl, rfl, rfl⟩
    obtain ⟨hTb, _⟩ := HT.out _ hb12
    clear hno
    go_wp2_with fail
    refine (dFail 3 _ (by omega) (by omega) hTb).mono ?_
    rintro e wz ⟨rfl, hbz⟩
    have hbw := hb12.trans (hbz.mono hb12.size)
    obtain ⟨X, HX⟩ : ∃ X, Hid (erB 3 = X) := ⟨_, rfl⟩
    rw [HX.out] at HD ⊢
    clear hbz hTb
    go_wp2
    go_ret
    exact Dle.quiet H.out hbw HD.out
  · have hb12 := hb1.trans (hb2.mono hb1.size)
    have hs1 := hb1.size
    have HSY : Hid (Syn vClear l) := HFT.out.1 hok
    have HNB : Hid (∀ x ∈ nba l, 0 ≤ x ∧ x ≤ 9999999999) := nba_bd (by rw [hlen]; exact hok.1)
    obtain ⟨N, HNN⟩ : ∃ N, Hid (nba l = N) := ⟨_, rfl⟩
    have e0 : nbl l n = N := by rw [← HNN.out, ← hlen]; rfl
    have hNl : N.length = n := by rw [← HNN.out, nba_len]; exact hlen
    have HKN : Hid (Fit3 l n 0 false) := hok
    rw [e0] at hB
    rw [HNN.out] at HNB
    clear hok e0
    have q0 : (v.toList == [103, 101, 110]) = false := by rw [← HV.out]; decide +kernel
    have q1 : (v.toList == [114, 101, 102, 114, 101, 115, 104]) = false := by rw [← HV.out]; decide +kernel
    have q2 : (v.toList == [116, 119, 101, 97, 107]) = false := by rw [← HV.out]; decide +kernel
    have q3 : (v.toList == [99, 111, 109, 98, 105, 110, 101]) = false := by rw [← HV.out]; decide +kernel
    have q4 : (v.toList == [109, 117, 108, 116, 105, 112, 108, 121]) = false := by rw [← HV.out]; decide +kernel
    have q5 : (v.toList == [107, 101, 121]) = false := by rw [← HV.out]; decide +kernel
    have q6 : (v.toList == [100, 114, 111, 112]) = false := by rw [← HV.out]; decide +kernel
    go_wp2_with fail
    refine (dKcNil v _ _ _ _ q0 q1 q2 q3 q4 q5 q6).mono ?_
    rintro e w3 ⟨rfl, hw3⟩
    obtain ⟨hb3, hc3⟩ := box_new w2 (.slice (some ⟨g, 0, none⟩) n n)
    rw [← hw3] at hb3 hc3
    clear hw3 hc3
    have hb13 := hb12.trans (hb3.mono hb12.size)
    have hB3 := hB.belowB hb3
    have hgl := hB.lt
    have hnf := fun W => neq_nil W
    clear hB hb3
    go_wp2_with fail
    rw [← HV.out]
    refine (dPlClear w0 w w3 p g G T S n N l H.out hb13 hB3 hNl HNN.out hlen HNB.out (by omega) hTz hT hS HSY.out).mono ?_
    intro e w4 hD
    have HD : Hid (Dle w0 p G T S v l w e w4) := by rw [← HV.out]; exact hD
    obtain ⟨out, T', S', rfl, _⟩ := hD
    clear hB3
    go_wp2
    go_ret
    exact HD.out
theorem dPlShow (w0 w w1 : World) (p g : Nat) (G : Nat → Prop) (T : ByteArray) (S : Option Kt) (n : Nat) (N : List Int) (l : List ByteArray) (H0 : Dbc w0 w p G T S) (hb1 : Below w.heap.size w w1) (hB : Blk w1 g N) (hNl : N.length = n) (hNN : nba l = N) (hlen : l.length = n) (hN : ∀ x ∈ N, 0 ≤ x ∧ x ≤ 9999999999) (hn : n ≤ 70000) (hTz : T.size ≤ 2048) (hT : Tabs w0) (hS : Shp w0) (hSy : Syn vShow l) :
    Calls Tryz.prog 31 #[.pointer (some ⟨p, 0, none⟩), .string vShow, .slice (some ⟨g, 0, none⟩) n n] w1 (Dle w0 p G T S vShow l w) := by
  obtain ⟨v, HV⟩ : ∃ v, Hid (vShow = v) := ⟨_, rfl⟩
  have q0 : (v.toList == [100, 101, 97, 108]) = false := by rw [← HV.out]; decide +kernel
  have q1 : (v.toList == [111, 112, 101, 110]) = false := by rw [← HV.out]; decide +kernel
  have q2 : (v.toList == [99, 108, 101, 97, 114]) = false := by rw [← HV.out]; decide +kernel
  have q3 : (v.toList == [115, 104, 111, 119]) = true := by rw [← HV.out]; decide +kernel
  rw [HV.out]
  have H : Hid (Dbc w0 w p G T S) := H0
  have HN : Hid (∀ x ∈ N, 0 ≤ x ∧ x ≤ 9999999999) := hN
  have HNN : Hid (nba l = N) := hNN
  have hgl := hB.lt
  have hR : Rd w1 (some ⟨g, 0, none⟩) n n N := hB.whole n hNl.symm (by unfold maxLen; omega) (fun x hx => by have := hN x hx; omega)
  have HT : Hid (∀ w', Below w.heap.size w w' → Tabs w' ∧ Shp w' ∧ w'.cell? ⟨p, 0, none⟩ = some (.string T) ∧ w'.frozen? ⟨p, 0, none⟩ = false ∧ p < w'.heap.size) := fun w' hb => ⟨hT.below (H.out.bel.trans (hb.mono H.out.bel.size)), hS.below (H.out.bel.trans (hb.mono H.out.bel.size)), (H.out.same hb).text.1, (H.out.same hb).text.2, (H.out.same hb).plt⟩
  obtain ⟨hbA, hcA⟩ := box_new w1 (.slice (some ⟨g, 0, none⟩) n n)
  obtain ⟨wA, HWA⟩ : ∃ wA, Hid (w1.alloc (.cells #[.slice (some ⟨g, 0, none⟩) n n] 53) = wA) := ⟨_, rfl⟩
  rw [HWA.out] at hbA hcA
  obtain ⟨gb, HGB⟩ : ∃ gb, Hid (w1.heap.size = gb) := ⟨_, rfl⟩
  have hgbA : w1.heap.size < wA.heap.size := World.block_lt_of_cell? wA ⟨w1.heap.size, 0, none⟩ hcA
  rw [HGB.out] at hcA hgbA
  have hb1A := hb1.trans (hbA.mono hb1.size)
  have HBA : Hid (Below w.heap.size w wA) := hb1A
  have hRA := hR.below hbA
  have hBA := hB.belowB hbA
  have hglA : g < wA.heap.size := hBA.lt
  clear H0 hN hNN hR hB hbA
  have HDA : Hid (∀ out, Wcr (Cic vShow [] 0) T out → Dln T S v l out T S) := fun out hw => by
    rw [← HV.out]
    refine .inr ⟨hSy, ?_⟩
    unfold Dac
    rw [if_neg (by decide), if_neg (by decide), if_neg (by decide), if_neg (by decide), if_pos (by decide)]
    exact cir_dac hw (dci_show l [] 0)
  obtain ⟨hTb, hSb, z0, z1, z2⟩ := HT.out wA HBA.out
  clear hSy
  go_enter Tryz.func31, Tryz.ntmps31
  go_upto_region 1 with fail
  rw [HWA.out, HGB.out]
  go_wp2_with fail
  refine (dShow p T _ z0 hTz hTb hSb).mono ?_
  rintro e w3 ⟨out, rfl, hQ, hb3⟩
  have HL : Hid (Dle w0 p G T S v l w (.returned (.string out)) w3) := Dle.quiet H.out (HBA.out.trans (hb3.mono HBA.out.size)) (HDA.out out hQ)
  clear hQ hb3 HDA
  go_wp2
  go_ret
  exact HL.out
theorem dAnsShow (w0 w : World) (p : Nat) (G : Nat → Prop) (T : ByteArray) (S : Option Kt) (a : Option Addr) (n c : Nat) (l : List ByteArray) (h : Dbc w0 w p G T S) (r : RdT w a n c l) (hn : n ≤ 70000) (hTz : T.size ≤ 2048) (hlast : ∀ s, S = some s → s.last ≤ 1000000) (hT : Tabs w0) (hS : Shp w0) (hDs : Dsp w0) :
    Calls Tryz.prog 14 #[.pointer (some ⟨p, 0, none⟩), .string vShow, .slice a n c] w (Dle w0 p G T S vShow l w) := by
  obtain ⟨v, HV⟩ : ∃ v, Hid (vShow = v) := ⟨_, rfl⟩
  have q_vCirc : (v.toList == [99, 105, 114, 99, 117, 105, 116]) = false := by rw [← HV.out]; decide +kernel
  have q_vWork : (v.toList == [119, 111, 114, 107]) = false := by rw [← HV.out]; decide +kernel
  rw [HV.out]
  have hlen := r.len
  have hcap := r.cap
  have hmax := r.max
  unfold maxLen at hmax
  have hpl := h.plt
  have H : Hid (Dbc w0 w p G T S) := h
  have HT : Hid (∀ w', Below w.heap.size w w' → Tabs w' ∧ Shp w' ∧ Dsp w') := fun w' hb => ⟨hT.below (h.bel.trans (hb.mono h.bel.size)), hS.below (h.bel.trans (hb.mono h.bel.size)), hDs.below (h.bel.trans (hb.mono h.bel.size))⟩
  have HSQ : Hid (∀ le mo, Shq v le mo → le = 0 ∧ mo = false) := fun le mo hq => shq_vShow (by rw [HV.out]; exact hq)
  have HFT : Hid (Fit3 l n 0 false ↔ Syn vShow l) := fit_vShow hlen
  clear h
  go_enter Tryz.func14, Tryz.ntmps14
  go_wp2_with fail
  refine (dShape v _ (HT.out _ (Below.refl _ _)).2.2).mono ?_
  rintro e w1 ⟨wd, le, mo, rfl, hq, hb1⟩
  obtain ⟨rfl, rfl⟩ := HSQ.out le mo hq
  clear hq
  go_wp2_with fail
  refine (dRead wd 0 false _ _ _ l _ (r.below hb1) (by omega)).mono ?_
  rintro e w2 ⟨⟨hno, u, rfl⟩ | ⟨hok, g, rfl, hg, hB⟩, hb2⟩
  · have hb12 := hb1.trans (hb2.mono hb1.size)
    have HD : Hid (Dln T S v l (erB 3) T S) := by rw [← HV.out]; exact .inl ⟨fun hs => hno (HFT.out.2 hs), rfl, rfl, rfl⟩
    obtain ⟨hTb, _⟩ := HT.out _ hb12
    clear hno
    go_wp2_with fail
    refine (dFail 3 _ (by omega) (by omega) hTb).mono ?_
    rintro e wz ⟨rfl, hbz⟩
    have hbw := hb12.trans (hbz.mono hb12.size)
    obtain ⟨X, HX⟩ : ∃ X, Hid (erB 3 = X) := ⟨_, rfl⟩
    rw [HX.out] at HD ⊢
    clear hbz hTb
    go_wp2
    go_ret
    exact Dle.quiet H.out hbw HD.out
  · have hb12 := hb1.trans (hb2.mono hb1.size)
    have hs1 := hb1.size
    have HSY : Hid (Syn vShow l) := HFT.out.1 hok
    have HNB : Hid (∀ x ∈ nba l, 0 ≤ x ∧ x ≤ 9999999999) := nba_bd (by rw [hlen]; exact hok.1)
    obtain ⟨N, HNN⟩ : ∃ N, Hid (nba l = N) := ⟨_, rfl⟩
    have e0 : nbl l n = N := by rw [← HNN.out, ← hlen]; rfl
    have hNl : N.length = n := by rw [← HNN.out, nba_len]; exact hlen
    have HKN : Hid (Fit3 l n 0 false) := hok
    rw [e0] at hB
    rw [HNN.out] at HNB
    clear hok e0
    have q0 : (v.toList == [103, 101, 110]) = false := by rw [← HV.out]; decide +kernel
    have q1 : (v.toList == [114, 101, 102, 114, 101, 115, 104]) = false := by rw [← HV.out]; decide +kernel
    have q2 : (v.toList == [116, 119, 101, 97, 107]) = false := by rw [← HV.out]; decide +kernel
    have q3 : (v.toList == [99, 111, 109, 98, 105, 110, 101]) = false := by rw [← HV.out]; decide +kernel
    have q4 : (v.toList == [109, 117, 108, 116, 105, 112, 108, 121]) = false := by rw [← HV.out]; decide +kernel
    have q5 : (v.toList == [107, 101, 121]) = false := by rw [← HV.out]; decide +kernel
    have q6 : (v.toList == [100, 114, 111, 112]) = false := by rw [← HV.out]; decide +kernel
    go_wp2_with fail
    refine (dKcNil v _ _ _ _ q0 q1 q2 q3 q4 q5 q6).mono ?_
    rintro e w3 ⟨rfl, hw3⟩
    obtain ⟨hb3, hc3⟩ := box_new w2 (.slice (some ⟨g, 0, none⟩) n n)
    rw [← hw3] at hb3 hc3
    clear hw3 hc3
    have hb13 := hb12.trans (hb3.mono hb12.size)
    have hB3 := hB.belowB hb3
    have hgl := hB.lt
    have hnf := fun W => neq_nil W
    clear hB hb3
    go_wp2_with fail
    rw [← HV.out]
    refine (dPlShow w0 w w3 p g G T S n N l H.out hb13 hB3 hNl HNN.out hlen HNB.out (by omega) hTz hT hS HSY.out).mono ?_
    intro e w4 hD
    have HD : Hid (Dle w0 p G T S v l w e w4) := by rw [← HV.out]; exact hD
    obtain ⟨out, T', S', rfl, _⟩ := hD
    clear hB3
    go_wp2
    go_ret
    exact HD.out
theorem dPlRun (w0 w w1 : World) (p g : Nat) (G : Nat → Prop) (T : ByteArray) (S : Option Kt) (n : Nat) (N : List Int) (l : List ByteArray) (H0 : Dbc w0 w p G T S) (hb1 : Below w.heap.size w w1) (hB : Blk w1 g N) (hNl : N.length = n) (hNN : nba l = N) (hlen : l.length = n) (hN : ∀ x ∈ N, 0 ≤ x ∧ x ≤ 9999999999) (hn : n ≤ 70000) (hTz : T.size ≤ 2048) (hT : Tabs w0) (hS : Shp w0) (hSy : Syn vRun l) :
    Calls Tryz.prog 31 #[.pointer (some ⟨p, 0, none⟩), .string vRun, .slice (some ⟨g, 0, none⟩) n n] w1 (Dle w0 p G T S vRun l w) := by
  obtain ⟨v, HV⟩ : ∃ v, Hid (vRun = v) := ⟨_, rfl⟩
  have q0 : (v.toList == [100, 101, 97, 108]) = false := by rw [← HV.out]; decide +kernel
  have q1 : (v.toList == [111, 112, 101, 110]) = false := by rw [← HV.out]; decide +kernel
  have q2 : (v.toList == [99, 108, 101, 97, 114]) = false := by rw [← HV.out]; decide +kernel
  have q3 : (v.toList == [115, 104, 111, 119]) = false := by rw [← HV.out]; decide +kernel
  have q4 : (v.toList == [114, 117, 110]) = true := by rw [← HV.out]; decide +kernel
  rw [HV.out]
  have H : Hid (Dbc w0 w p G T S) := H0
  have HN : Hid (∀ x ∈ N, 0 ≤ x ∧ x ≤ 9999999999) := hN
  have HNN : Hid (nba l = N) := hNN
  have hgl := hB.lt
  have hR : Rd w1 (some ⟨g, 0, none⟩) n n N := hB.whole n hNl.symm (by unfold maxLen; omega) (fun x hx => by have := hN x hx; omega)
  have HT : Hid (∀ w', Below w.heap.size w w' → Tabs w' ∧ Shp w' ∧ w'.cell? ⟨p, 0, none⟩ = some (.string T) ∧ w'.frozen? ⟨p, 0, none⟩ = false ∧ p < w'.heap.size) := fun w' hb => ⟨hT.below (H.out.bel.trans (hb.mono H.out.bel.size)), hS.below (H.out.bel.trans (hb.mono H.out.bel.size)), (H.out.same hb).text.1, (H.out.same hb).text.2, (H.out.same hb).plt⟩
  obtain ⟨hbA, hcA⟩ := box_new w1 (.slice (some ⟨g, 0, none⟩) n n)
  obtain ⟨wA, HWA⟩ : ∃ wA, Hid (w1.alloc (.cells #[.slice (some ⟨g, 0, none⟩) n n] 53) = wA) := ⟨_, rfl⟩
  rw [HWA.out] at hbA hcA
  obtain ⟨gb, HGB⟩ : ∃ gb, Hid (w1.heap.size = gb) := ⟨_, rfl⟩
  have hgbA : w1.heap.size < wA.heap.size := World.block_lt_of_cell? wA ⟨w1.heap.size, 0, none⟩ hcA
  rw [HGB.out] at hcA hgbA
  have hb1A := hb1.trans (hbA.mono hb1.size)
  have HBA : Hid (Below w.heap.size w wA) := hb1A
  have hRA := hR.below hbA
  have hBA := hB.belowB hbA
  have hglA : g < wA.heap.size := hBA.lt
  clear H0 hN hNN hR hB hbA
  have HDA : Hid (∀ out, Wcr (Cic vRun N 0) T out → Dln T S v l out T S) := fun out hw => by
    rw [← HV.out]
    refine .inr ⟨hSy, ?_⟩
    unfold Dac
    rw [if_neg (by decide), if_neg (by decide), if_neg (by decide), if_neg (by decide), if_pos (by decide)]
    exact cir_dac hw (by rw [← HNN.out]; exact dci_run l 0)
  obtain ⟨hTb, hSb, z0, z1, z2⟩ := HT.out wA HBA.out
  have hW := dWith 64 #[.pointer (some ⟨gb, 0, none⟩)] enters_run (Cic vRun N 0) p T wA z0 hTz hTb hSb (fun w2 ag nn cg ao m co G' O hb hP hGn hOm hG hO => dRunC T ag nn cg ao m co G' O gb (some ⟨g, 0, none⟩) n n N w2 hP hGn hOm hG hO (by rw [hb.cell (p := ⟨gb, 0, none⟩) hgbA]; exact hcA) (hRA.below hb) (hTb.below hb) (hSb.below hb))
  clear hSy
  go_enter Tryz.func31, Tryz.ntmps31
  go_upto_region 1 with fail
  rw [HWA.out, HGB.out]
  go_wp2_with fail
  refine hW.mono ?_
  rintro e w3 ⟨out, rfl, hQ, hb3⟩
  have HL : Hid (Dle w0 p G T S v l w (.returned (.string out)) w3) := Dle.quiet H.out (HBA.out.trans (hb3.mono HBA.out.size)) (HDA.out out hQ)
  clear hQ hb3 HDA hW
  go_wp2
  go_ret
  exact HL.out
theorem dAnsRun (w0 w : World) (p : Nat) (G : Nat → Prop) (T : ByteArray) (S : Option Kt) (a : Option Addr) (n c : Nat) (l : List ByteArray) (h : Dbc w0 w p G T S) (r : RdT w a n c l) (hn : n ≤ 70000) (hTz : T.size ≤ 2048) (hlast : ∀ s, S = some s → s.last ≤ 1000000) (hT : Tabs w0) (hS : Shp w0) (hDs : Dsp w0) :
    Calls Tryz.prog 14 #[.pointer (some ⟨p, 0, none⟩), .string vRun, .slice a n c] w (Dle w0 p G T S vRun l w) := by
  obtain ⟨v, HV⟩ : ∃ v, Hid (vRun = v) := ⟨_, rfl⟩
  have q_vCirc : (v.toList == [99, 105, 114, 99, 117, 105, 116]) = false := by rw [← HV.out]; decide +kernel
  have q_vWork : (v.toList == [119, 111, 114, 107]) = false := by rw [← HV.out]; decide +kernel
  rw [HV.out]
  have hlen := r.len
  have hcap := r.cap
  have hmax := r.max
  unfold maxLen at hmax
  have hpl := h.plt
  have H : Hid (Dbc w0 w p G T S) := h
  have HT : Hid (∀ w', Below w.heap.size w w' → Tabs w' ∧ Shp w' ∧ Dsp w') := fun w' hb => ⟨hT.below (h.bel.trans (hb.mono h.bel.size)), hS.below (h.bel.trans (hb.mono h.bel.size)), hDs.below (h.bel.trans (hb.mono h.bel.size))⟩
  have HSQ : Hid (∀ le mo, Shq v le mo → le = 0 ∧ mo = true) := fun le mo hq => shq_vRun (by rw [HV.out]; exact hq)
  have HFT : Hid (Fit3 l n 0 true ↔ Syn vRun l) := fit_vRun hlen
  clear h
  go_enter Tryz.func14, Tryz.ntmps14
  go_wp2_with fail
  refine (dShape v _ (HT.out _ (Below.refl _ _)).2.2).mono ?_
  rintro e w1 ⟨wd, le, mo, rfl, hq, hb1⟩
  obtain ⟨rfl, rfl⟩ := HSQ.out le mo hq
  clear hq
  go_wp2_with fail
  refine (dRead wd 0 true _ _ _ l _ (r.below hb1) (by omega)).mono ?_
  rintro e w2 ⟨⟨hno, u, rfl⟩ | ⟨hok, g, rfl, hg, hB⟩, hb2⟩
  · have hb12 := hb1.trans (hb2.mono hb1.size)
    have HD : Hid (Dln T S v l (erB 3) T S) := by rw [← HV.out]; exact .inl ⟨fun hs => hno (HFT.out.2 hs), rfl, rfl, rfl⟩
    obtain ⟨hTb, _⟩ := HT.out _ hb12
    clear hno
    go_wp2_with fail
    refine (dFail 3 _ (by omega) (by omega) hTb).mono ?_
    rintro e wz ⟨rfl, hbz⟩
    have hbw := hb12.trans (hbz.mono hb12.size)
    obtain ⟨X, HX⟩ : ∃ X, Hid (erB 3 = X) := ⟨_, rfl⟩
    rw [HX.out] at HD ⊢
    clear hbz hTb
    go_wp2
    go_ret
    exact Dle.quiet H.out hbw HD.out
  · have hb12 := hb1.trans (hb2.mono hb1.size)
    have hs1 := hb1.size
    have HSY : Hid (Syn vRun l) := HFT.out.1 hok
    have HNB : Hid (∀ x ∈ nba l, 0 ≤ x ∧ x ≤ 9999999999) := nba_bd (by rw [hlen]; exact hok.1)
    obtain ⟨N, HNN⟩ : ∃ N, Hid (nba l = N) := ⟨_, rfl⟩
    have e0 : nbl l n = N := by rw [← HNN.out, ← hlen]; rfl
    have hNl : N.length = n := by rw [← HNN.out, nba_len]; exact hlen
    have HKN : Hid (Fit3 l n 0 true) := hok
    rw [e0] at hB
    rw [HNN.out] at HNB
    clear hok e0
    have q0 : (v.toList == [103, 101, 110]) = false := by rw [← HV.out]; decide +kernel
    have q1 : (v.toList == [114, 101, 102, 114, 101, 115, 104]) = false := by rw [← HV.out]; decide +kernel
    have q2 : (v.toList == [116, 119, 101, 97, 107]) = false := by rw [← HV.out]; decide +kernel
    have q3 : (v.toList == [99, 111, 109, 98, 105, 110, 101]) = false := by rw [← HV.out]; decide +kernel
    have q4 : (v.toList == [109, 117, 108, 116, 105, 112, 108, 121]) = false := by rw [← HV.out]; decide +kernel
    have q5 : (v.toList == [107, 101, 121]) = false := by rw [← HV.out]; decide +kernel
    have q6 : (v.toList == [100, 114, 111, 112]) = false := by rw [← HV.out]; decide +kernel
    go_wp2_with fail
    refine (dKcNil v _ _ _ _ q0 q1 q2 q3 q4 q5 q6).mono ?_
    rintro e w3 ⟨rfl, hw3⟩
    obtain ⟨hb3, hc3⟩ := box_new w2 (.slice (some ⟨g, 0, none⟩) n n)
    rw [← hw3] at hb3 hc3
    clear hw3 hc3
    have hb13 := hb12.trans (hb3.mono hb12.size)
    have hB3 := hB.belowB hb3
    have hgl := hB.lt
    have hnf := fun W => neq_nil W
    clear hB hb3
    go_wp2_with fail
    rw [← HV.out]
    refine (dPlRun w0 w w3 p g G T S n N l H.out hb13 hB3 hNl HNN.out hlen HNB.out (by omega) hTz hT hS HSY.out).mono ?_
    intro e w4 hD
    have HD : Hid (Dle w0 p G T S v l w e w4) := by rw [← HV.out]; exact hD
    obtain ⟨out, T', S', rfl, _⟩ := hD
    clear hB3
    go_wp2
    go_ret
    exact HD.out
end
end Go.Proofs.YtljlioglpaogdafGreatDoor
