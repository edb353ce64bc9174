/- croftref.ReadCircuit: the switch over a line, taken out of the translation; what it leaves. · croftref.ReadCircuit: the switch, at an out. · croftref.ReadCircuit: the switch, at lines that are wrong. · croftref.ReadCircuit: the switch, at a gate (G1). · croftref.ReadCircuit: the switch, at a gate (G2). · croftref.ReadCircuit: the switch, at a gate (G6). · croftref.ReadCircuit: the switch, at a gate (G3). · croftref.ReadCircuit: the switch, whole. -/
import Derived.Test.YtljlioglpaogdacDoorToBackN
import Derived.Test.YtljlioglpaogdacDoorCircC
import Derived.BigQuiet
import Derived.Deep.RegionWith
import Derived.Deep.DeepCutAuto
import Derived.Deep.CutRange
import Derived.Deep.LoopGhost
import Derived.Deep.CutBlock
namespace Go.Proofs.YtljlioglpaogdacDoor
set_option linter.unusedVariables false
set_option maxRecDepth 100000
set_option maxHeartbeats 8000000
section
open Crm Go.RowKit
theorem infoS1t : (Tryd.prog.info? 9).map (·.size) = some 1 := by kernel_rfl
theorem emp_yes {y : ByteArray} (h : y = mt) : y.toList.isEmpty = true := by subst h; rw [ByteArray.toList_eq]; rfl
theorem emp_no {y : ByteArray} (h : y ≠ mt) : y.toList.isEmpty = false := by
  rw [ByteArray.toList_eq]
  cases e : y.data.toList with
  | nil => exact absurd (ByteArray.ext (Array.ext' e)) h
  | cons a l => rfl
theorem outB_list : outB.toList = [111, 117, 116] := by rw [ByteArray.toList_eq]; rfl
/-- How many numbers the kinds have, as a table. -/
def tbl7 : List Value := [.int .i64 0, .int .i64 1, .int .i64 1, .int .i64 2, .int .i64 2, .int .i64 2, .int .i64 2]
theorem tbl7_at : ∀ k, k < 7 → tbl7[k]? = some (.int .i64 (arn k : Int))
  | 0, _ => rfl
  | 1, _ => rfl
  | 2, _ => rfl
  | 3, _ => rfl
  | 4, _ => rfl
  | 5, _ => rfl
  | 6, _ => rfl
  | k + 7, h => by omega
theorem tbl7_cell (w : World) {k : Nat} (hk : k < 7) : (w.alloc (.cells #[.int .i64 0, .int .i64 1, .int .i64 1, .int .i64 2, .int .i64 2, .int .i64 2, .int .i64 2] 3)).cell? ⟨w.heap.size, k, none⟩ = some (.int .i64 (arn k : Int)) := by
  rw [cell_of_row _ _ _ _ 3 (0, 0) (heap_alloc_new w _)]
  have := tbl7_at k hk
  unfold tbl7 at this
  simpa using this
theorem Crd.start (w : World) (B : Nat) : Crd (w.alloc (.cells #[.slice none 0 0, .slice none 0 0] 25)) B w.heap.size none 0 0 none 0 0 [] [] :=
  ⟨CBox.new w none 0 0 none 0 0, rfl, rfl, World.ownsRow_nil _ _ _ _, World.ownsRow_nil _ _ _ _⟩
theorem CBox.other {w : World} {g g' i : Nat} {u : Value} {ag : Option Addr} {n cg : Nat} {ao : Option Addr} {m co : Nat} (h : CBox w g ag n cg ao m co) (hg : g' ≠ g) : CBox (w.setCell ⟨g', i, none⟩ u) g ag n cg ao m co :=
  h.grown (grown_set _ _ _ _) (by simpa using fun e => hg e.symm)

/-- What the switch over a line leaves: a line more is read, or the line is wrong. -/
def Swt (s : ByteArray) (w : World) (gc gl N cl i : Nat) (b : Bool) (wx : World) : Prop :=
  (b = false ∧ Par s [] [] (i + 1) 3 ∧ CBox wx w.heap.size none 0 0 none 0 0 ∧ Below w.heap.size w wx) ∨
  (b = true ∧ i + 1 ≤ N ∧ ∃ (n cg m co : Nat) (ag ao : Option Addr) (G : List Gt) (O : List Int), Rds (lns s) (i + 1) G O ∧ Crd wx w.heap.size gc ag n cg ao m co G O ∧ wx.ownsRow w.heap.size 9 1 (.slice (some ⟨gl, 0, none⟩) (N + 1) cl) (N + 1) (strs (lns s)) ∧ CBox wx w.heap.size none 0 0 none 0 0 ∧ n ≤ i + 1 ∧ m ≤ i + 1 ∧ Below w.heap.size w wx)

/-- The switch over a line: the block 2 of the function's code. -/
def pick2 : Code → Option Code
  | .block n c => if n = 2 then some (.block n c) else pick2 c
  | .loop c => pick2 c
  | .scope c => pick2 c
  | .seq a b => match pick2 a with
    | some c => some c
    | none => pick2 b
  | .cond _ a b => match pick2 a with
    | some c => some c
    | none => pick2 b
  | _ => none
/-- The switch over a line, from where it stands, where C holds: what a way of it proves. -/
def SwG (C : ByteArray → Int → Nat → Nat → Nat → Prop) : Prop := ∀ {s : ByteArray} {w wc : World} {gc gl N cl i n cg m co : Nat} {ag ao : Option Addr} {G : List Gt} {O : List Int} {t hd : ByteArray} {k gw cw kn cn B2 : Nat} {an : Option Addr} {r : Int} {okk okb : Bool}
    (HR : Hid (Rds (lns s) i G O)) (HT : Hid (tx (lns s) i = t)) (HAL : Hid ((ags t).length = k)) (HHd : Hid (tx (wds t) 0 = hd)) (HIx : Hid (Ixt vbs 7 hd r)) (hrb : -1 ≤ r ∧ r < ((7 : Nat) : Int))
    (hC4 : Crd wc w.heap.size gc ag n cg ao m co G O) (hL4 : wc.ownsRow w.heap.size 9 1 (.slice (some ⟨gl, 0, none⟩) (N + 1) cl) (N + 1) (strs (lns s))) (hZ4 : CBox wc w.heap.size none 0 0 none 0 0) (hbel4 : Below w.heap.size w wc) (hsz4 : w.heap.size ≤ wc.heap.size)
    (hci : wc.cell? ⟨gw, 0, none⟩ = some (.string hd)) (hgwl : gw < wc.heap.size) (HN4 : Hid (okb = true → okn (ags t) k ∧ kn = k ∧ wc.ownsRow B2 3 1 (.slice an kn cn) kn (zns (nbl (ags t) k)))) (HKN0 : Hid (okb = false → kn = 0))
    (HPN : Hid (okk = false ∨ Nok t O → Par s [] [] (i + 1) 3)) (HiN : Hid (okk = true → i + 1 ≤ N)) (HOb : Hid (okk = true → okb = true)) (d0 : wc.cell? ⟨gc, 0, none⟩ = some (.slice ag n cg)) (d1 : wc.cell? ⟨gc, 1, none⟩ = some (.slice ao m co)) (hgcl : gc < wc.heap.size) (fb1 : wc.frozen? ⟨gc, 1, none⟩ = false)
    (hni : n ≤ i) (hmi : m ≤ i) (hN : N ≤ 2048) (hiN : i ≤ N) (hkn48 : kn ≤ 2048) (hgc : w.heap.size < gc) (hcw : k + 1 ≤ cw)
    (kk : Nat) (hC : C hd r m kn kk) {K' K1 K2 K3 : Act → World → Prop} {u0 u1 u2 u3 u4 u5 u6 u8 u13 u14 u15 u16 u17 u18 u19 u20 u21 u22 u23 u24 u25 u26 u27 u28 u29 u30 u31 u32 u33 u34 u35 u36 u37 u38 u39 u40 u41 u42 u43 u44 u45 u46 u47 u48 u49 u50 u51 u52 u53 u54 u55 u56 u57 u58 u59 u60 u61 u62 u63 u64 u65 u66 u67 u68 u69 u70 u71 u72 u73 u74 u75 u76 u77 u78 u79 u80 u81 u82 u83 u84 u85 u86 u87 u88 u89 u90 u91 u92 u93 u94 u95 u96 u97 u98 u99 u100 u101 u102 u103 u104 u105 u106 u107 u108 u109 u110 u111 u112 u113 u114 u115 u116 u117 u118 u119 u120 u121 u122 u123 u124 u125 u126 u127 u128 u129 u130 u131 u132 u133 u134 u135 u136 u137 u138 u139 u140 u141 u142 u143 u144 u145 u146 u147 u148 u149 u150 u151 u152 u153 u154 u155 u156 u157 u158 u159 u160 u161 u162 u163 u164 u165 u166 u167 u168 u169 u170 u171 u172 : Value}
    (hK : Hid (∀ (b : Bool) {v66 v67 v68 v69 v70 v71 v72 v73 v74 v75 v76 v77 v78 v79 v80 v81 v82 v83 v84 v85 v86 v87 v88 v89 v90 v91 v92 v93 v94 v95 v96 v97 v98 v99 v100 v101 v102 v103 v104 v105 v106 v107 v108 v109 v110 v111 v112 v113 v114 v115 v116 v117 v118 v119 v120 v121 v122 v123 v124 v125 v126 v127 v128 v129 v130 v131 v132 v133 v134 v135 v136 v137 v138 v139 v140 v141 v142 v143 v144 v145 v146 v147 v148 v149 v150 v151 v152 v153 v154 v155 v156 v157 v158 v159 v160 : Value} (w' : World), Swt s w gc gl N cl i b w' → K' ⟨#[u0, u1, u2, u3, u4, u5, u6, .pointer (some ⟨gc, 0, none⟩), u8, .slice (some ⟨gw, 0, none⟩) (k + 1) cw, .slice an kn cn, .bool b, .int .i64 r, u13, u14, u15, u16, u17, u18, u19, u20, u21, u22, u23, u24, u25, u26, u27, u28, u29, u30, u31, u32, u33, u34, u35, u36, u37, u38, u39, u40, u41, u42, u43, u44, u45, u46, u47, u48, u49, u50, u51, u52, u53, u54, u55, u56, u57, u58, u59, u60, u61, u62, u63, u64, u65, v66, v67, v68, v69, v70, v71, v72, v73, v74, v75, v76, v77, v78, v79, v80, v81, v82, v83, v84, v85, v86, v87, v88, v89, v90, v91, v92, v93, v94, v95, v96, v97, v98, v99, v100, v101, v102, v103, v104, v105, v106, v107, v108, v109, v110, v111, v112, v113, v114, v115, v116, v117, v118, v119, v120, v121, v122, v123, v124, v125, v126, v127, v128, v129, v130, v131, v132, v133, v134, v135, v136, v137, v138, v139, v140, v141, v142, v143, v144, v145, v146, v147, v148, v149, v150, v151, v152, v153, v154, v155, v156, v157, v158, v159, v160, u161, u162, u163, u164, u165, u166, u167, u168, u169, u170, u171, u172], []⟩ w')),
    Code.wp Tryd.prog ((Tryd.f6.body.bind pick2).getD .skip) (Exit.then K' (Exit.inBlock 1 (Exit.then K1 (Exit.then K2 (Exit.inBlock 0 (Exit.then K3 (bodyPost Tryd.prog Tryd.f6 fun e w' => Prd s w e w'))))))) ⟨#[u0, u1, u2, u3, u4, u5, u6, .pointer (some ⟨gc, 0, none⟩), u8, .slice (some ⟨gw, 0, none⟩) (k + 1) cw, .slice an kn cn, .bool okk, .int .i64 r, u13, u14, u15, u16, u17, u18, u19, u20, u21, u22, u23, u24, u25, u26, u27, u28, u29, u30, u31, u32, u33, u34, u35, u36, u37, u38, u39, u40, u41, u42, u43, u44, u45, u46, u47, u48, u49, u50, u51, u52, u53, u54, u55, u56, u57, u58, u59, u60, u61, u62, u63, u64, u65, u66, u67, u68, u69, u70, u71, u72, u73, u74, u75, u76, u77, u78, u79, u80, u81, u82, u83, u84, u85, u86, u87, u88, u89, u90, u91, u92, u93, u94, u95, u96, u97, u98, u99, u100, u101, u102, u103, u104, u105, u106, u107, u108, u109, u110, u111, u112, u113, u114, u115, u116, u117, u118, u119, u120, u121, u122, u123, u124, u125, u126, u127, u128, u129, u130, u131, u132, u133, u134, u135, u136, u137, u138, u139, u140, u141, u142, u143, u144, u145, u146, u147, u148, u149, u150, u151, u152, u153, u154, u155, u156, u157, u158, u159, u160, u161, u162, u163, u164, u165, u166, u167, u168, u169, u170, u171, u172], []⟩ wc
theorem swOut : SwG fun hd r m kn kk => hd = outB := by
  rintro s w wc gc gl N cl i n cg m co ag ao G O t hd k gw cw kn cn B2 an r okk okb HR HT HAL HHd HIx hrb hC4 hL4 hZ4 hbel4 hsz4 hci hgwl HN4 HKN0 HPN HiN HOb d0 d1 hgcl fb1 hni hmi hN hiN hkn48 hgc hcw kk hout K' K1 K2 K3
  intros
  rename_i hK
  replace hout : hd = outB := hout
  conv => arg 2; whnf
  have he : (hd.toList == [111, 117, 116]) = true := by rw [← outB_list]; exact tl_yes hout
  have HHo : Hid (tx (wds t) 0 = outB) := by unfold Hid; rw [HHd.out]; exact hout
  clear hout
  go_upto_region 17 with fail
  clear he hci
  cases okk with
  | false =>
    have HSW : Hid (Swt s w gc gl N cl i false _) := .inl ⟨rfl, HPN.out (.inl rfl), hZ4, hbel4⟩
    go_wp2
    all_goals
      exact hK.out false _ (HSW.out)
  | true =>
    obtain ⟨hon, rfl, hnT⟩ := HN4.out (HOb.out rfl)
    by_cases hk1 : kn = 1
    · subst hk1
      obtain ⟨gn, u0, rfl, _, hgnl, hu0, hcn0⟩ := own_at hnT (k := 0) (by omega)
      obtain ⟨x0, HX0⟩ : ∃ x, Hid (agn t 0 = x) := ⟨_, rfl⟩
      obtain rfl : u0 = .int .i64 x0 := by
        rw [← HX0.out]
        simpa [zns, nbl, agn, List.range_succ] using hu0.symm
      have HRn : Hid (Rds (lns s) (i + 1) G (O ++ [x0])) := ⟨G, O, HR.out, .inr ⟨x0, by rw [HT.out]; exact ⟨HHo.out, HAL.out, hon, HX0.out.symm⟩, rfl, rfl⟩⟩
      have hin : i + 1 ≤ N := HiN.out rfl
      have hownD : wc.drew.ownsRow w.heap.size 3 1 (.slice ao m co) m (zns O) := hC4.ins
      have HGf : Hid (zns O ++ [.int .i64 x0] = zns (O ++ [x0])) := zns_snoc O x0
      have HUP : Hid (∀ g7 c7 w7, w7.ownsRow w.heap.size 3 1 (.slice (some ⟨g7, 0, none⟩) (m + 1) c7) (m + 1) (zns (O ++ [x0])) → wc.drew.grownBy w7 (Value.slice ao m co).ownBlock →
          ((∃ x, w7.cell? ⟨gc, 1, none⟩ = some x) ∧ w7.frozen? ⟨gc, 1, none⟩ = false) ∧ Crd (w7.setCell ⟨gc, 1, none⟩ (.slice (some ⟨g7, 0, none⟩) (m + 1) c7)) w.heap.size gc ag n cg (some ⟨g7, 0, none⟩) (m + 1) c7 G (O ++ [x0]) ∧
          (w7.setCell ⟨gc, 1, none⟩ (.slice (some ⟨g7, 0, none⟩) (m + 1) c7)).ownsRow w.heap.size 9 1 (.slice (some ⟨gl, 0, none⟩) (N + 1) cl) (N + 1) (strs (lns s)) ∧ CBox (w7.setCell ⟨gc, 1, none⟩ (.slice (some ⟨g7, 0, none⟩) (m + 1) c7)) w.heap.size none 0 0 none 0 0 ∧ Below w.heap.size w (w7.setCell ⟨gc, 1, none⟩ (.slice (some ⟨g7, 0, none⟩) (m + 1) c7))) := fun g7 c7 w7 ho hg => by
        have hCd : Crd wc.drew w.heap.size gc ag n cg ao m co G O := ⟨hC4.box, hC4.ln, hC4.lo, hC4.own, hC4.ins⟩
        have hb7 := hCd.box.grown hg (box_apart hCd.box hCd.ins eIC)
        have hZd : CBox wc.drew w.heap.size none 0 0 none 0 0 := hZ4
        refine ⟨⟨⟨_, hb7.cells.2⟩, hb7.frozen 1⟩, hCd.out ho hg, own_beside (show wc.drew.ownsRow _ _ _ _ _ _ from hL4) hCd.ins (fun e => eSI e.symm) eSC hg hb7, (hZd.grown hg (box_apart hZd hCd.ins eIC)).other (by omega), ((hbel4.drew).grown hg (by exact hbel4.size) (fun q hq => (hCd.ins.lt q hq).1)).setCell (p := ⟨gc, 1, none⟩) (show w.heap.size ≤ gc by omega) _⟩
      clear hC4 hL4 hZ4 hbel4 hnT HPN
      go_wp2
      go_region_law (refine step_appZ Tryd.underlying23 infoIt rfl (by decide) (by decide) wc.drew rfl _ _ rfl w.heap.size _ _ _ rfl hownD [.int .i64 x0] rfl (by intro u hu; simp at hu; subst hu; rfl) rfl rfl (by omega) (by exact hsz4) ?_; intro g7 c7 w7 ho7 hgr7 _; rw [HGf.out] at ho7; obtain ⟨⟨⟨xx, dd⟩, ff⟩, hE⟩ := HUP.out g7 c7 w7 ho7 hgr7; have hl7 := World.block_lt_of_cell? w7 _ dd; have HE : Hid (_ ∧ _) := hE; clear ho7 hgr7 hE)
      all_goals
        clear HUP hownD
        go_wp2
        exact hK.out true _ (.inr ⟨rfl, hin, n, cg, m + 1, c7, ag, _, G, _, HRn.out, HE.out.1, HE.out.2.1, HE.out.2.2.1, by omega, by omega, HE.out.2.2.2⟩)
    · have hkb : ((kn : Int) == 1) = false := by rw [beq_eq_false_iff_ne]; omega
      have HNk : Hid (Nok t O) := nok_out HHo.out (by rw [HAL.out]; exact hk1)
      clear hk1 hnT
      have HSW : Hid (Swt s w gc gl N cl i false _) := .inl ⟨rfl, HPN.out (.inr HNk.out), hZ4, hbel4⟩
      go_wp2
      all_goals
        exact hK.out false _ (HSW.out)
theorem swBad1 : SwG fun hd r m kn kk => hd ≠ outB ∧ r < 1 := by
  rintro s w wc gc gl N cl i n cg m co ag ao G O t hd k gw cw kn cn B2 an r okk okb HR HT HAL HHd HIx hrb hC4 hL4 hZ4 hbel4 hsz4 hci hgwl HN4 HKN0 HPN HiN HOb d0 d1 hgcl fb1 hni hmi hN hiN hkn48 hgc hcw kk ⟨hout, hr1⟩ K' K1 K2 K3
  intros
  rename_i hK
  conv => arg 2; whnf
  have he : (hd.toList == [111, 117, 116]) = false := by rw [← outB_list]; exact tl_no hout
  have HHo : Hid (tx (wds t) 0 ≠ outB) := by unfold Hid; rw [HHd.out]; exact hout
  clear hout
  go_upto_region 20 with fail
  clear he
  have HNk : Hid (Nok t O) := nok_kind HHo.out (by rw [HHd.out]; exact HIx.out) hr1
  have HSW : Hid (Swt s w gc gl N cl i false wc) := .inl ⟨rfl, HPN.out (.inr HNk.out), hZ4, hbel4⟩
  go_wp2
  all_goals
    exact hK.out false _ HSW.out

theorem swBad2 : SwG fun hd r m kn kk => hd ≠ outB ∧ r = (kk : Int) ∧ vb kk = hd ∧ 1 ≤ kk ∧ kk < 7 ∧ 0 < m := by
  rintro s w wc gc gl N cl i n cg m co ag ao G O t hd k gw cw kn cn B2 an r okk okb HR HT HAL HHd HIx hrb hC4 hL4 hZ4 hbel4 hsz4 hci hgwl HN4 HKN0 HPN HiN HOb d0 d1 hgcl fb1 hni hmi hN hiN hkn48 hgc hcw kk ⟨hout, hrk, hkk, hkk1, hkk7, hm0⟩ K' K1 K2 K3
  intros
  rename_i hK
  conv => arg 2; whnf
  have he : (hd.toList == [111, 117, 116]) = false := by rw [← outB_list]; exact tl_no hout
  have HHo : Hid (tx (wds t) 0 ≠ outB) := by unfold Hid; rw [HHd.out]; exact hout
  clear hout
  go_upto_region 20 with fail
  clear he
  have HKK : Hid (tx (wds t) 0 = vb kk) := by unfold Hid; rw [HHd.out, hkk]
  subst hrk
  clear hkk hrb
  have HNk : Hid (Nok t O) := nok_outs HHo.out (by intro e; have := hC4.lo; rw [e] at this; simp at this; omega)
  have HSW : Hid (Swt s w gc gl N cl i false wc) := .inl ⟨rfl, HPN.out (.inr HNk.out), hZ4, hbel4⟩
  go_wp2
  all_goals
    exact hK.out false _ HSW.out

theorem swBad3 : SwG fun hd r m kn kk => hd ≠ outB ∧ r = (kk : Int) ∧ vb kk = hd ∧ 1 ≤ kk ∧ kk < 7 ∧ ¬ 0 < m ∧ kn ≠ arn kk := by
  rintro s w wc gc gl N cl i n cg m co ag ao G O t hd k gw cw kn cn B2 an r okk okb HR HT HAL HHd HIx hrb hC4 hL4 hZ4 hbel4 hsz4 hci hgwl HN4 HKN0 HPN HiN HOb d0 d1 hgcl fb1 hni hmi hN hiN hkn48 hgc hcw kk ⟨hout, hrk, hkk, hkk1, hkk7, hm0, hka⟩ K' K1 K2 K3
  intros
  rename_i hK
  conv => arg 2; whnf
  have he : (hd.toList == [111, 117, 116]) = false := by rw [← outB_list]; exact tl_no hout
  have HHo : Hid (tx (wds t) 0 ≠ outB) := by unfold Hid; rw [HHd.out]; exact hout
  clear hout
  go_upto_region 20 with fail
  clear he
  have HKK : Hid (tx (wds t) 0 = vb kk) := by unfold Hid; rw [HHd.out, hkk]
  subst hrk
  clear hkk hrb
  obtain rfl : m = 0 := by omega
  have HO0 : Hid (O = []) := by have := hC4.lo; exact List.eq_nil_of_length_eq_zero this
  have htc := tbl7_cell wc hkk7
  have hbT : Below wc.heap.size wc (wc.alloc (.cells #[.int .i64 0, .int .i64 1, .int .i64 1, .int .i64 2, .int .i64 2, .int .i64 2, .int .i64 2] 3)) := (Below.refl _ _).alloc (Nat.le_refl _) _
  have hCT := hC4.below hbT
  have hLT := own_below hL4 hbT
  have hZT := hZ4.below hbT hZ4.lt
  have hbelT := hbel4.trans (hbT.mono hbel4.size)
  have hciT : (wc.alloc (.cells #[.int .i64 0, .int .i64 1, .int .i64 1, .int .i64 2, .int .i64 2, .int .i64 2, .int .i64 2] 3)).cell? ⟨gw, 0, none⟩ = some (.string hd) := by rw [hbT.cell (p := ⟨gw, 0, none⟩) hgwl]; exact hci
  have hnb : ((kn : Int) != (arn kk : Int)) = true := by rw [bne_iff_ne]; omega
  have HNk : Hid (okk = false ∨ Nok t O) := by
    cases hob : okb with
    | true => obtain ⟨_, e, _⟩ := HN4.out hob; exact .inr (nok_many HHo.out hkk7 HKK.out (by rw [HAL.out, ← e]; exact hka))
    | false => refine .inl ?_; cases hok : okk with | false => rfl | true => have := HOb.out hok; rw [hob] at this; cases this
  clear hka hC4 hL4 hZ4 hbel4 hCT hLT
  go_upto_region 21 with fail
  generalize wc.alloc (.cells #[.int .i64 0, .int .i64 1, .int .i64 1, .int .i64 2, .int .i64 2, .int .i64 2, .int .i64 2] 3) = wT at *
  clear htc hbT hciT d0 d1 fb1
  have HSW : Hid (Swt s w gc gl N cl i false _) := .inl ⟨rfl, HPN.out HNk.out, hZT, hbelT⟩
  go_wp2
  all_goals
    exact hK.out false _ (HSW.out)
theorem swG1 : SwG fun hd r m kn kk => hd ≠ outB ∧ r = (kk : Int) ∧ vb kk = hd ∧ 1 ≤ kk ∧ kk < 7 ∧ ¬ 0 < m ∧ kn = arn kk ∧ kk = 1 := by
  rintro s w wc gc gl N cl i n cg m co ag ao G O t hd k gw cw kn cn B2 an r okk okb HR HT HAL HHd HIx hrb hC4 hL4 hZ4 hbel4 hsz4 hci hgwl HN4 HKN0 HPN HiN HOb d0 d1 hgcl fb1 hni hmi hN hiN hkn48 hgc hcw kk ⟨hout, hrk, hkk, hkk1, hkk7, hm0, hka, hk⟩ K' K1 K2 K3
  intros
  rename_i hK
  conv => arg 2; whnf
  have he : (hd.toList == [111, 117, 116]) = false := by rw [← outB_list]; exact tl_no hout
  have HHo : Hid (tx (wds t) 0 ≠ outB) := by unfold Hid; rw [HHd.out]; exact hout
  clear hout
  go_upto_region 20 with fail
  clear he
  have HKK : Hid (tx (wds t) 0 = vb kk) := by unfold Hid; rw [HHd.out, hkk]
  subst hrk
  clear hkk hrb
  obtain rfl : m = 0 := by omega
  have HO0 : Hid (O = []) := by have := hC4.lo; exact List.eq_nil_of_length_eq_zero this
  have htc := tbl7_cell wc hkk7
  have hbT : Below wc.heap.size wc (wc.alloc (.cells #[.int .i64 0, .int .i64 1, .int .i64 1, .int .i64 2, .int .i64 2, .int .i64 2, .int .i64 2] 3)) := (Below.refl _ _).alloc (Nat.le_refl _) _
  have hCT := hC4.below hbT
  have hLT := own_below hL4 hbT
  have hZT := hZ4.below hbT hZ4.lt
  have hbelT := hbel4.trans (hbT.mono hbel4.size)
  have hciT : (wc.alloc (.cells #[.int .i64 0, .int .i64 1, .int .i64 1, .int .i64 2, .int .i64 2, .int .i64 2, .int .i64 2] 3)).cell? ⟨gw, 0, none⟩ = some (.string hd) := by rw [hbT.cell (p := ⟨gw, 0, none⟩) hgwl]; exact hci
  have hnb : ((kn : Int) != (arn kk : Int)) = false := by rw [hka]; simp
  have hOb : okb = true := by
    cases okb with
    | true => rfl
    | false =>
      exfalso
      have h1 := HKN0.out rfl
      rcases arn_of hkk1 hkk7 with ⟨_, e⟩ | ⟨_, e⟩ | ⟨_, e⟩ | ⟨_, e⟩ <;> omega
  obtain ⟨hon, rfl, hn4⟩ := HN4.out hOb
  have hnT := own_below hn4 hbT
  have hon2 : okn (ags t) (arn kk) := by rw [← hka]; exact hon
  have HRG : Hid (okk = true → Rds (lns s) (i + 1) (G ++ [gof kk t]) []) := fun _ => ⟨G, O, HR.out, .inl ⟨gof kk t, by rw [HT.out]; exact ⟨kk, ⟨hkk1, hkk7⟩, HKK.out, by rw [HAL.out, hka], hon2, rfl⟩, HO0.out, rfl, rfl⟩⟩
  obtain ⟨x0, HX0⟩ : ∃ x, Hid (agn t 0 = x) := ⟨_, rfl⟩
  obtain ⟨x1, HX1⟩ : ∃ x, Hid (agn t 1 = x) := ⟨_, rfl⟩
  have HN0 : Hid (0 < kn → (zns (nbl (ags t) kn))[0]? = some (.int .i64 x0)) := fun e => by rw [← HX0.out]; simp [zns, nbl, agn, e]
  have HN1 : Hid (1 < kn → (zns (nbl (ags t) kn))[1]? = some (.int .i64 x1)) := fun e => by rw [← HX1.out]; simp [zns, nbl, agn, e]
  have hx0 : 0 < kn → 0 ≤ x0 ∧ x0 ≤ 9999999999 := fun e => by rw [← HX0.out]; exact ag_bd hon e
  have hx1 : 1 < kn → 0 ≤ x1 ∧ x1 ≤ 9999999999 := fun e => by rw [← HX1.out]; exact ag_bd hon e
  clear hC4 hL4 hZ4 hbel4 hn4 hon hon2
  go_upto_region 22 with fail
  generalize wc.alloc (.cells #[.int .i64 0, .int .i64 1, .int .i64 1, .int .i64 2, .int .i64 2, .int .i64 2, .int .i64 2] 3) = wT at *
  clear htc hnb hbT hci hciT d0 d1 fb1
  obtain ⟨d0, d1⟩ := hCT.box.cells
  have hgcT := hCT.box.lt
  have hszT := hbelT.size
  subst hk
  have ea : arn 1 = 1 := rfl
  rw [ea] at hka
  subst hka
  have hx0 := hx0 (by omega)
  have HN0 := HN0.out (by omega)
  obtain ⟨gn, u0, rfl, _, hgnl, hu0, hcn0⟩ := own_at hnT (k := 0) (by omega)
  obtain rfl : u0 = .int .i64 x0 := (Option.some.inj (HN0.symm.trans hu0)).symm
  have hownD : wT.drew.ownsRow w.heap.size 58 4 (.slice ag n cg) n (gcs G) := hCT.own
  have HGf : Hid (gcs G ++ [.int .i64 1, .int .i64 x0, .int .i64 0, .int .u64 0] = gcs (G ++ [gof 1 t])) := by unfold Hid; rw [← gcs_snoc]; simp [gof, HX0.out]
  have HUP : Hid (∀ g7 c7 w7, w7.ownsRow w.heap.size 58 4 (.slice (some ⟨g7, 0, none⟩) (n + 1) c7) (n + 1) (gcs (G ++ [gof 1 t])) → wT.drew.grownBy w7 (Value.slice ag n cg).ownBlock →
      ((∃ x, w7.cell? ⟨gc, 0, none⟩ = some x) ∧ w7.frozen? ⟨gc, 0, none⟩ = false) ∧ Swt s w gc gl N cl i okk (w7.setCell ⟨gc, 0, none⟩ (.slice (some ⟨g7, 0, none⟩) (n + 1) c7))) := fun g7 c7 w7 ho hg => by
    have hCd : Crd wT.drew w.heap.size gc ag n cg ao 0 co G O := ⟨hCT.box, hCT.ln, hCT.lo, hCT.own, hCT.ins⟩
    have hb7 := hCd.box.grown hg (box_apart hCd.box hCd.own eGC)
    have hZd : CBox wT.drew w.heap.size none 0 0 none 0 0 := hZT
    have q2 := own_beside (i := 0) (u := (.slice (some ⟨g7, 0, none⟩) (n + 1) c7)) (show wT.drew.ownsRow _ _ _ _ _ _ from hLT) hCd.own (fun e => eSG e.symm) eSC hg hb7
    have q3 : CBox (w7.setCell ⟨gc, 0, none⟩ (.slice (some ⟨g7, 0, none⟩) (n + 1) c7)) w.heap.size none 0 0 none 0 0 := (hZd.grown hg (box_apart hZd hCd.own eGC)).other (by omega)
    have q4 : Below w.heap.size w (w7.setCell ⟨gc, 0, none⟩ (.slice (some ⟨g7, 0, none⟩) (n + 1) c7)) := ((hbelT.drew).grown hg (by exact hbelT.size) (fun q hq => (hCd.own.lt q hq).1)).setCell (p := ⟨gc, 0, none⟩) (show w.heap.size ≤ gc by omega) _
    refine ⟨⟨⟨_, hb7.cells.1⟩, hb7.frozen 0⟩, ?_⟩
    cases hok : okk with
    | true => exact .inr ⟨rfl, HiN.out hok, n + 1, c7, 0, co, _, ao, _, O, by rw [HO0.out]; exact HRG.out hok, hCd.gate ho hg, q2, q3, by omega, by omega, q4⟩
    | false => exact .inl ⟨rfl, HPN.out (.inl hok), q3, q4⟩
  clear hCT hLT hZT hbelT hnT
  go_wp2
  go_region_law (refine step_appZ Tryd.underlying22 infoGt rfl (by decide) (by decide) wT.drew rfl _ _ rfl w.heap.size _ _ _ rfl hownD [.int .i64 1, .int .i64 x0, .int .i64 0, .int .u64 0] rfl (by intro u hu; simp at hu; rcases hu with rfl | rfl | rfl | rfl <;> rfl) rfl rfl (by omega) (by exact hszT) ?_; intro g7 c7 w7 ho7 hgr7 _; rw [HGf.out] at ho7; obtain ⟨⟨⟨xx, dd⟩, ff⟩, hE⟩ := HUP.out g7 c7 w7 ho7 hgr7; have hl7 := World.block_lt_of_cell? w7 _ dd; have HE : Hid (Swt s w gc gl N cl i okk _) := hE; clear ho7 hgr7 hE)
  all_goals
    clear HUP hownD
    go_wp2
    exact hK.out okk _ (HE.out)
theorem swG2 : SwG fun hd r m kn kk => hd ≠ outB ∧ r = (kk : Int) ∧ vb kk = hd ∧ 1 ≤ kk ∧ kk < 7 ∧ ¬ 0 < m ∧ kn = arn kk ∧ kk = 2 := by
  rintro s w wc gc gl N cl i n cg m co ag ao G O t hd k gw cw kn cn B2 an r okk okb HR HT HAL HHd HIx hrb hC4 hL4 hZ4 hbel4 hsz4 hci hgwl HN4 HKN0 HPN HiN HOb d0 d1 hgcl fb1 hni hmi hN hiN hkn48 hgc hcw kk ⟨hout, hrk, hkk, hkk1, hkk7, hm0, hka, hk⟩ K' K1 K2 K3
  intros
  rename_i hK
  conv => arg 2; whnf
  have he : (hd.toList == [111, 117, 116]) = false := by rw [← outB_list]; exact tl_no hout
  have HHo : Hid (tx (wds t) 0 ≠ outB) := by unfold Hid; rw [HHd.out]; exact hout
  clear hout
  go_upto_region 20 with fail
  clear he
  have HKK : Hid (tx (wds t) 0 = vb kk) := by unfold Hid; rw [HHd.out, hkk]
  subst hrk
  clear hkk hrb
  obtain rfl : m = 0 := by omega
  have HO0 : Hid (O = []) := by have := hC4.lo; exact List.eq_nil_of_length_eq_zero this
  have htc := tbl7_cell wc hkk7
  have hbT : Below wc.heap.size wc (wc.alloc (.cells #[.int .i64 0, .int .i64 1, .int .i64 1, .int .i64 2, .int .i64 2, .int .i64 2, .int .i64 2] 3)) := (Below.refl _ _).alloc (Nat.le_refl _) _
  have hCT := hC4.below hbT
  have hLT := own_below hL4 hbT
  have hZT := hZ4.below hbT hZ4.lt
  have hbelT := hbel4.trans (hbT.mono hbel4.size)
  have hciT : (wc.alloc (.cells #[.int .i64 0, .int .i64 1, .int .i64 1, .int .i64 2, .int .i64 2, .int .i64 2, .int .i64 2] 3)).cell? ⟨gw, 0, none⟩ = some (.string hd) := by rw [hbT.cell (p := ⟨gw, 0, none⟩) hgwl]; exact hci
  have hnb : ((kn : Int) != (arn kk : Int)) = false := by rw [hka]; simp
  have hOb : okb = true := by
    cases okb with
    | true => rfl
    | false =>
      exfalso
      have h1 := HKN0.out rfl
      rcases arn_of hkk1 hkk7 with ⟨_, e⟩ | ⟨_, e⟩ | ⟨_, e⟩ | ⟨_, e⟩ <;> omega
  obtain ⟨hon, rfl, hn4⟩ := HN4.out hOb
  have hnT := own_below hn4 hbT
  have hon2 : okn (ags t) (arn kk) := by rw [← hka]; exact hon
  have HRG : Hid (okk = true → Rds (lns s) (i + 1) (G ++ [gof kk t]) []) := fun _ => ⟨G, O, HR.out, .inl ⟨gof kk t, by rw [HT.out]; exact ⟨kk, ⟨hkk1, hkk7⟩, HKK.out, by rw [HAL.out, hka], hon2, rfl⟩, HO0.out, rfl, rfl⟩⟩
  obtain ⟨x0, HX0⟩ : ∃ x, Hid (agn t 0 = x) := ⟨_, rfl⟩
  obtain ⟨x1, HX1⟩ : ∃ x, Hid (agn t 1 = x) := ⟨_, rfl⟩
  have HN0 : Hid (0 < kn → (zns (nbl (ags t) kn))[0]? = some (.int .i64 x0)) := fun e => by rw [← HX0.out]; simp [zns, nbl, agn, e]
  have HN1 : Hid (1 < kn → (zns (nbl (ags t) kn))[1]? = some (.int .i64 x1)) := fun e => by rw [← HX1.out]; simp [zns, nbl, agn, e]
  have hx0 : 0 < kn → 0 ≤ x0 ∧ x0 ≤ 9999999999 := fun e => by rw [← HX0.out]; exact ag_bd hon e
  have hx1 : 1 < kn → 0 ≤ x1 ∧ x1 ≤ 9999999999 := fun e => by rw [← HX1.out]; exact ag_bd hon e
  clear hC4 hL4 hZ4 hbel4 hn4 hon hon2
  go_upto_region 22 with fail
  generalize wc.alloc (.cells #[.int .i64 0, .int .i64 1, .int .i64 1, .int .i64 2, .int .i64 2, .int .i64 2, .int .i64 2] 3) = wT at *
  clear htc hnb hbT hci hciT d0 d1 fb1
  obtain ⟨d0, d1⟩ := hCT.box.cells
  have hgcT := hCT.box.lt
  have hszT := hbelT.size
  subst hk
  have ea : arn 2 = 1 := rfl
  rw [ea] at hka
  subst hka
  have hx0 := hx0 (by omega)
  have HN0 := HN0.out (by omega)
  have hwr : IntKind.u64.wrap x0 = x0 := by rw [IntKind.wrap_u64]; omega
  obtain ⟨gn, u0, rfl, _, hgnl, hu0, hcn0⟩ := own_at hnT (k := 0) (by omega)
  obtain rfl : u0 = .int .i64 x0 := (Option.some.inj (HN0.symm.trans hu0)).symm
  have hownD : wT.drew.ownsRow w.heap.size 58 4 (.slice ag n cg) n (gcs G) := hCT.own
  have HGf : Hid (gcs G ++ [.int .i64 2, .int .i64 0, .int .i64 0, .int .u64 x0] = gcs (G ++ [gof 2 t])) := by unfold Hid; rw [← gcs_snoc]; simp [gof, HX0.out]
  have HUP : Hid (∀ g7 c7 w7, w7.ownsRow w.heap.size 58 4 (.slice (some ⟨g7, 0, none⟩) (n + 1) c7) (n + 1) (gcs (G ++ [gof 2 t])) → wT.drew.grownBy w7 (Value.slice ag n cg).ownBlock →
      ((∃ x, w7.cell? ⟨gc, 0, none⟩ = some x) ∧ w7.frozen? ⟨gc, 0, none⟩ = false) ∧ Swt s w gc gl N cl i okk (w7.setCell ⟨gc, 0, none⟩ (.slice (some ⟨g7, 0, none⟩) (n + 1) c7))) := fun g7 c7 w7 ho hg => by
    have hCd : Crd wT.drew w.heap.size gc ag n cg ao 0 co G O := ⟨hCT.box, hCT.ln, hCT.lo, hCT.own, hCT.ins⟩
    have hb7 := hCd.box.grown hg (box_apart hCd.box hCd.own eGC)
    have hZd : CBox wT.drew w.heap.size none 0 0 none 0 0 := hZT
    have q2 := own_beside (i := 0) (u := (.slice (some ⟨g7, 0, none⟩) (n + 1) c7)) (show wT.drew.ownsRow _ _ _ _ _ _ from hLT) hCd.own (fun e => eSG e.symm) eSC hg hb7
    have q3 : CBox (w7.setCell ⟨gc, 0, none⟩ (.slice (some ⟨g7, 0, none⟩) (n + 1) c7)) w.heap.size none 0 0 none 0 0 := (hZd.grown hg (box_apart hZd hCd.own eGC)).other (by omega)
    have q4 : Below w.heap.size w (w7.setCell ⟨gc, 0, none⟩ (.slice (some ⟨g7, 0, none⟩) (n + 1) c7)) := ((hbelT.drew).grown hg (by exact hbelT.size) (fun q hq => (hCd.own.lt q hq).1)).setCell (p := ⟨gc, 0, none⟩) (show w.heap.size ≤ gc by omega) _
    refine ⟨⟨⟨_, hb7.cells.1⟩, hb7.frozen 0⟩, ?_⟩
    cases hok : okk with
    | true => exact .inr ⟨rfl, HiN.out hok, n + 1, c7, 0, co, _, ao, _, O, by rw [HO0.out]; exact HRG.out hok, hCd.gate ho hg, q2, q3, by omega, by omega, q4⟩
    | false => exact .inl ⟨rfl, HPN.out (.inl hok), q3, q4⟩
  clear hCT hLT hZT hbelT hnT
  go_wp2
  go_region_law (refine step_appZ Tryd.underlying22 infoGt rfl (by decide) (by decide) wT.drew rfl _ _ rfl w.heap.size _ _ _ rfl hownD [.int .i64 2, .int .i64 0, .int .i64 0, .int .u64 x0] rfl (by intro u hu; simp at hu; rcases hu with rfl | rfl | rfl | rfl <;> rfl) rfl rfl (by omega) (by exact hszT) ?_; intro g7 c7 w7 ho7 hgr7 _; rw [HGf.out] at ho7; obtain ⟨⟨⟨xx, dd⟩, ff⟩, hE⟩ := HUP.out g7 c7 w7 ho7 hgr7; have hl7 := World.block_lt_of_cell? w7 _ dd; have HE : Hid (Swt s w gc gl N cl i okk _) := hE; clear ho7 hgr7 hE)
  all_goals
    clear HUP hownD
    go_wp2
    exact hK.out okk _ (HE.out)
theorem swG6 : SwG fun hd r m kn kk => hd ≠ outB ∧ r = (kk : Int) ∧ vb kk = hd ∧ 1 ≤ kk ∧ kk < 7 ∧ ¬ 0 < m ∧ kn = arn kk ∧ kk = 6 := by
  rintro s w wc gc gl N cl i n cg m co ag ao G O t hd k gw cw kn cn B2 an r okk okb HR HT HAL HHd HIx hrb hC4 hL4 hZ4 hbel4 hsz4 hci hgwl HN4 HKN0 HPN HiN HOb d0 d1 hgcl fb1 hni hmi hN hiN hkn48 hgc hcw kk ⟨hout, hrk, hkk, hkk1, hkk7, hm0, hka, hk⟩ K' K1 K2 K3
  intros
  rename_i hK
  conv => arg 2; whnf
  have he : (hd.toList == [111, 117, 116]) = false := by rw [← outB_list]; exact tl_no hout
  have HHo : Hid (tx (wds t) 0 ≠ outB) := by unfold Hid; rw [HHd.out]; exact hout
  clear hout
  go_upto_region 20 with fail
  clear he
  have HKK : Hid (tx (wds t) 0 = vb kk) := by unfold Hid; rw [HHd.out, hkk]
  subst hrk
  clear hkk hrb
  obtain rfl : m = 0 := by omega
  have HO0 : Hid (O = []) := by have := hC4.lo; exact List.eq_nil_of_length_eq_zero this
  have htc := tbl7_cell wc hkk7
  have hbT : Below wc.heap.size wc (wc.alloc (.cells #[.int .i64 0, .int .i64 1, .int .i64 1, .int .i64 2, .int .i64 2, .int .i64 2, .int .i64 2] 3)) := (Below.refl _ _).alloc (Nat.le_refl _) _
  have hCT := hC4.below hbT
  have hLT := own_below hL4 hbT
  have hZT := hZ4.below hbT hZ4.lt
  have hbelT := hbel4.trans (hbT.mono hbel4.size)
  have hciT : (wc.alloc (.cells #[.int .i64 0, .int .i64 1, .int .i64 1, .int .i64 2, .int .i64 2, .int .i64 2, .int .i64 2] 3)).cell? ⟨gw, 0, none⟩ = some (.string hd) := by rw [hbT.cell (p := ⟨gw, 0, none⟩) hgwl]; exact hci
  have hnb : ((kn : Int) != (arn kk : Int)) = false := by rw [hka]; simp
  have hOb : okb = true := by
    cases okb with
    | true => rfl
    | false =>
      exfalso
      have h1 := HKN0.out rfl
      rcases arn_of hkk1 hkk7 with ⟨_, e⟩ | ⟨_, e⟩ | ⟨_, e⟩ | ⟨_, e⟩ <;> omega
  obtain ⟨hon, rfl, hn4⟩ := HN4.out hOb
  have hnT := own_below hn4 hbT
  have hon2 : okn (ags t) (arn kk) := by rw [← hka]; exact hon
  have HRG : Hid (okk = true → Rds (lns s) (i + 1) (G ++ [gof kk t]) []) := fun _ => ⟨G, O, HR.out, .inl ⟨gof kk t, by rw [HT.out]; exact ⟨kk, ⟨hkk1, hkk7⟩, HKK.out, by rw [HAL.out, hka], hon2, rfl⟩, HO0.out, rfl, rfl⟩⟩
  obtain ⟨x0, HX0⟩ : ∃ x, Hid (agn t 0 = x) := ⟨_, rfl⟩
  obtain ⟨x1, HX1⟩ : ∃ x, Hid (agn t 1 = x) := ⟨_, rfl⟩
  have HN0 : Hid (0 < kn → (zns (nbl (ags t) kn))[0]? = some (.int .i64 x0)) := fun e => by rw [← HX0.out]; simp [zns, nbl, agn, e]
  have HN1 : Hid (1 < kn → (zns (nbl (ags t) kn))[1]? = some (.int .i64 x1)) := fun e => by rw [← HX1.out]; simp [zns, nbl, agn, e]
  have hx0 : 0 < kn → 0 ≤ x0 ∧ x0 ≤ 9999999999 := fun e => by rw [← HX0.out]; exact ag_bd hon e
  have hx1 : 1 < kn → 0 ≤ x1 ∧ x1 ≤ 9999999999 := fun e => by rw [← HX1.out]; exact ag_bd hon e
  clear hC4 hL4 hZ4 hbel4 hn4 hon hon2
  go_upto_region 22 with fail
  generalize wc.alloc (.cells #[.int .i64 0, .int .i64 1, .int .i64 1, .int .i64 2, .int .i64 2, .int .i64 2, .int .i64 2] 3) = wT at *
  clear htc hnb hbT hci hciT d0 d1 fb1
  obtain ⟨d0, d1⟩ := hCT.box.cells
  have hgcT := hCT.box.lt
  have hszT := hbelT.size
  subst hk
  have ea : arn 6 = 2 := rfl
  rw [ea] at hka
  subst hka
  have hx0 := hx0 (by omega)
  have hx1 := hx1 (by omega)
  have HN0 := HN0.out (by omega)
  have HN1 := HN1.out (by omega)
  have hwr : IntKind.u64.wrap x1 = x1 := by rw [IntKind.wrap_u64]; omega
  obtain ⟨gn, u0, rfl, _, hgnl, hu0, hcn0⟩ := own_at hnT (k := 0) (by omega)
  obtain rfl : u0 = .int .i64 x0 := (Option.some.inj (HN0.symm.trans hu0)).symm
  obtain ⟨gn', u1, e1, _, _, hu1, hcn1⟩ := own_at hnT (k := 1) (by omega)
  simp only [Option.some.injEq, Addr.mk.injEq, and_true] at e1
  subst e1
  obtain rfl : u1 = .int .i64 x1 := (Option.some.inj (HN1.symm.trans hu1)).symm
  have hownD : wT.drew.ownsRow w.heap.size 58 4 (.slice ag n cg) n (gcs G) := hCT.own
  have HGf : Hid (gcs G ++ [.int .i64 6, .int .i64 x0, .int .i64 0, .int .u64 x1] = gcs (G ++ [gof 6 t])) := by unfold Hid; rw [← gcs_snoc]; simp [gof, HX0.out, HX1.out]
  have HUP : Hid (∀ g7 c7 w7, w7.ownsRow w.heap.size 58 4 (.slice (some ⟨g7, 0, none⟩) (n + 1) c7) (n + 1) (gcs (G ++ [gof 6 t])) → wT.drew.grownBy w7 (Value.slice ag n cg).ownBlock →
      ((∃ x, w7.cell? ⟨gc, 0, none⟩ = some x) ∧ w7.frozen? ⟨gc, 0, none⟩ = false) ∧ Swt s w gc gl N cl i okk (w7.setCell ⟨gc, 0, none⟩ (.slice (some ⟨g7, 0, none⟩) (n + 1) c7))) := fun g7 c7 w7 ho hg => by
    have hCd : Crd wT.drew w.heap.size gc ag n cg ao 0 co G O := ⟨hCT.box, hCT.ln, hCT.lo, hCT.own, hCT.ins⟩
    have hb7 := hCd.box.grown hg (box_apart hCd.box hCd.own eGC)
    have hZd : CBox wT.drew w.heap.size none 0 0 none 0 0 := hZT
    have q2 := own_beside (i := 0) (u := (.slice (some ⟨g7, 0, none⟩) (n + 1) c7)) (show wT.drew.ownsRow _ _ _ _ _ _ from hLT) hCd.own (fun e => eSG e.symm) eSC hg hb7
    have q3 : CBox (w7.setCell ⟨gc, 0, none⟩ (.slice (some ⟨g7, 0, none⟩) (n + 1) c7)) w.heap.size none 0 0 none 0 0 := (hZd.grown hg (box_apart hZd hCd.own eGC)).other (by omega)
    have q4 : Below w.heap.size w (w7.setCell ⟨gc, 0, none⟩ (.slice (some ⟨g7, 0, none⟩) (n + 1) c7)) := ((hbelT.drew).grown hg (by exact hbelT.size) (fun q hq => (hCd.own.lt q hq).1)).setCell (p := ⟨gc, 0, none⟩) (show w.heap.size ≤ gc by omega) _
    refine ⟨⟨⟨_, hb7.cells.1⟩, hb7.frozen 0⟩, ?_⟩
    cases hok : okk with
    | true => exact .inr ⟨rfl, HiN.out hok, n + 1, c7, 0, co, _, ao, _, O, by rw [HO0.out]; exact HRG.out hok, hCd.gate ho hg, q2, q3, by omega, by omega, q4⟩
    | false => exact .inl ⟨rfl, HPN.out (.inl hok), q3, q4⟩
  clear hCT hLT hZT hbelT hnT
  go_wp2
  go_region_law (refine step_appZ Tryd.underlying22 infoGt rfl (by decide) (by decide) wT.drew rfl _ _ rfl w.heap.size _ _ _ rfl hownD [.int .i64 6, .int .i64 x0, .int .i64 0, .int .u64 x1] rfl (by intro u hu; simp at hu; rcases hu with rfl | rfl | rfl | rfl <;> rfl) rfl rfl (by omega) (by exact hszT) ?_; intro g7 c7 w7 ho7 hgr7 _; rw [HGf.out] at ho7; obtain ⟨⟨⟨xx, dd⟩, ff⟩, hE⟩ := HUP.out g7 c7 w7 ho7 hgr7; have hl7 := World.block_lt_of_cell? w7 _ dd; have HE : Hid (Swt s w gc gl N cl i okk _) := hE; clear ho7 hgr7 hE)
  all_goals
    clear HUP hownD
    go_wp2
    exact hK.out okk _ (HE.out)
theorem swG3 : SwG fun hd r m kn kk => hd ≠ outB ∧ r = (kk : Int) ∧ vb kk = hd ∧ 1 ≤ kk ∧ kk < 7 ∧ ¬ 0 < m ∧ kn = arn kk ∧ (kk = 3 ∨ kk = 4 ∨ kk = 5) := by
  rintro s w wc gc gl N cl i n cg m co ag ao G O t hd k gw cw kn cn B2 an r okk okb HR HT HAL HHd HIx hrb hC4 hL4 hZ4 hbel4 hsz4 hci hgwl HN4 HKN0 HPN HiN HOb d0 d1 hgcl fb1 hni hmi hN hiN hkn48 hgc hcw kk ⟨hout, hrk, hkk, hkk1, hkk7, hm0, hka, hk345⟩ K' K1 K2 K3
  intros
  rename_i hK
  conv => arg 2; whnf
  have he : (hd.toList == [111, 117, 116]) = false := by rw [← outB_list]; exact tl_no hout
  have HHo : Hid (tx (wds t) 0 ≠ outB) := by unfold Hid; rw [HHd.out]; exact hout
  clear hout
  go_upto_region 20 with fail
  clear he
  have HKK : Hid (tx (wds t) 0 = vb kk) := by unfold Hid; rw [HHd.out, hkk]
  subst hrk
  clear hkk hrb
  obtain rfl : m = 0 := by omega
  have HO0 : Hid (O = []) := by have := hC4.lo; exact List.eq_nil_of_length_eq_zero this
  have htc := tbl7_cell wc hkk7
  have hbT : Below wc.heap.size wc (wc.alloc (.cells #[.int .i64 0, .int .i64 1, .int .i64 1, .int .i64 2, .int .i64 2, .int .i64 2, .int .i64 2] 3)) := (Below.refl _ _).alloc (Nat.le_refl _) _
  have hCT := hC4.below hbT
  have hLT := own_below hL4 hbT
  have hZT := hZ4.below hbT hZ4.lt
  have hbelT := hbel4.trans (hbT.mono hbel4.size)
  have hciT : (wc.alloc (.cells #[.int .i64 0, .int .i64 1, .int .i64 1, .int .i64 2, .int .i64 2, .int .i64 2, .int .i64 2] 3)).cell? ⟨gw, 0, none⟩ = some (.string hd) := by rw [hbT.cell (p := ⟨gw, 0, none⟩) hgwl]; exact hci
  have hnb : ((kn : Int) != (arn kk : Int)) = false := by rw [hka]; simp
  have hOb : okb = true := by
    cases okb with
    | true => rfl
    | false =>
      exfalso
      have h1 := HKN0.out rfl
      rcases arn_of hkk1 hkk7 with ⟨_, e⟩ | ⟨_, e⟩ | ⟨_, e⟩ | ⟨_, e⟩ <;> omega
  obtain ⟨hon, rfl, hn4⟩ := HN4.out hOb
  have hnT := own_below hn4 hbT
  have hon2 : okn (ags t) (arn kk) := by rw [← hka]; exact hon
  have HRG : Hid (okk = true → Rds (lns s) (i + 1) (G ++ [gof kk t]) []) := fun _ => ⟨G, O, HR.out, .inl ⟨gof kk t, by rw [HT.out]; exact ⟨kk, ⟨hkk1, hkk7⟩, HKK.out, by rw [HAL.out, hka], hon2, rfl⟩, HO0.out, rfl, rfl⟩⟩
  obtain ⟨x0, HX0⟩ : ∃ x, Hid (agn t 0 = x) := ⟨_, rfl⟩
  obtain ⟨x1, HX1⟩ : ∃ x, Hid (agn t 1 = x) := ⟨_, rfl⟩
  have HN0 : Hid (0 < kn → (zns (nbl (ags t) kn))[0]? = some (.int .i64 x0)) := fun e => by rw [← HX0.out]; simp [zns, nbl, agn, e]
  have HN1 : Hid (1 < kn → (zns (nbl (ags t) kn))[1]? = some (.int .i64 x1)) := fun e => by rw [← HX1.out]; simp [zns, nbl, agn, e]
  have hx0 : 0 < kn → 0 ≤ x0 ∧ x0 ≤ 9999999999 := fun e => by rw [← HX0.out]; exact ag_bd hon e
  have hx1 : 1 < kn → 0 ≤ x1 ∧ x1 ≤ 9999999999 := fun e => by rw [← HX1.out]; exact ag_bd hon e
  clear hC4 hL4 hZ4 hbel4 hn4 hon hon2
  go_upto_region 22 with fail
  generalize wc.alloc (.cells #[.int .i64 0, .int .i64 1, .int .i64 1, .int .i64 2, .int .i64 2, .int .i64 2, .int .i64 2] 3) = wT at *
  clear htc hnb hbT hci hciT d0 d1 fb1
  obtain ⟨d0, d1⟩ := hCT.box.cells
  have hgcT := hCT.box.lt
  have hszT := hbelT.size
  have ea : arn kk = 2 := by rcases hk345 with rfl | rfl | rfl <;> rfl
  rw [ea] at hka
  subst hka
  have hx0 := hx0 (by omega)
  have hx1 := hx1 (by omega)
  have HN0 := HN0.out (by omega)
  have HN1 := HN1.out (by omega)
  have hq1 : ((kk : Int) == 1) = false := by rw [beq_eq_false_iff_ne]; omega
  have hq2 : ((kk : Int) == 2) = false := by rw [beq_eq_false_iff_ne]; omega
  have hq6 : ((kk : Int) == 6) = false := by rw [beq_eq_false_iff_ne]; omega
  obtain ⟨gn, u0, rfl, _, hgnl, hu0, hcn0⟩ := own_at hnT (k := 0) (by omega)
  obtain rfl : u0 = .int .i64 x0 := (Option.some.inj (HN0.symm.trans hu0)).symm
  obtain ⟨gn', u1, e1, _, _, hu1, hcn1⟩ := own_at hnT (k := 1) (by omega)
  simp only [Option.some.injEq, Addr.mk.injEq, and_true] at e1
  subst e1
  obtain rfl : u1 = .int .i64 x1 := (Option.some.inj (HN1.symm.trans hu1)).symm
  have hownD : wT.drew.ownsRow w.heap.size 58 4 (.slice ag n cg) n (gcs G) := hCT.own
  have HGf : Hid (gcs G ++ [.int .i64 (kk : Int), .int .i64 x0, .int .i64 x1, .int .u64 0] = gcs (G ++ [gof kk t])) := by unfold Hid gof; rw [if_neg (by omega), if_neg (by omega), if_neg (by omega), ← gcs_snoc, HX0.out, HX1.out]
  have HUP : Hid (∀ g7 c7 w7, w7.ownsRow w.heap.size 58 4 (.slice (some ⟨g7, 0, none⟩) (n + 1) c7) (n + 1) (gcs (G ++ [gof kk t])) → wT.drew.grownBy w7 (Value.slice ag n cg).ownBlock →
      ((∃ x, w7.cell? ⟨gc, 0, none⟩ = some x) ∧ w7.frozen? ⟨gc, 0, none⟩ = false) ∧ Swt s w gc gl N cl i okk (w7.setCell ⟨gc, 0, none⟩ (.slice (some ⟨g7, 0, none⟩) (n + 1) c7))) := fun g7 c7 w7 ho hg => by
    have hCd : Crd wT.drew w.heap.size gc ag n cg ao 0 co G O := ⟨hCT.box, hCT.ln, hCT.lo, hCT.own, hCT.ins⟩
    have hb7 := hCd.box.grown hg (box_apart hCd.box hCd.own eGC)
    have hZd : CBox wT.drew w.heap.size none 0 0 none 0 0 := hZT
    have q2 := own_beside (i := 0) (u := (.slice (some ⟨g7, 0, none⟩) (n + 1) c7)) (show wT.drew.ownsRow _ _ _ _ _ _ from hLT) hCd.own (fun e => eSG e.symm) eSC hg hb7
    have q3 : CBox (w7.setCell ⟨gc, 0, none⟩ (.slice (some ⟨g7, 0, none⟩) (n + 1) c7)) w.heap.size none 0 0 none 0 0 := (hZd.grown hg (box_apart hZd hCd.own eGC)).other (by omega)
    have q4 : Below w.heap.size w (w7.setCell ⟨gc, 0, none⟩ (.slice (some ⟨g7, 0, none⟩) (n + 1) c7)) := ((hbelT.drew).grown hg (by exact hbelT.size) (fun q hq => (hCd.own.lt q hq).1)).setCell (p := ⟨gc, 0, none⟩) (show w.heap.size ≤ gc by omega) _
    refine ⟨⟨⟨_, hb7.cells.1⟩, hb7.frozen 0⟩, ?_⟩
    cases hok : okk with
    | true => exact .inr ⟨rfl, HiN.out hok, n + 1, c7, 0, co, _, ao, _, O, by rw [HO0.out]; exact HRG.out hok, hCd.gate ho hg, q2, q3, by omega, by omega, q4⟩
    | false => exact .inl ⟨rfl, HPN.out (.inl hok), q3, q4⟩
  clear hCT hLT hZT hbelT hnT
  go_wp2
  go_region_law (refine step_appZ Tryd.underlying22 infoGt rfl (by decide) (by decide) wT.drew rfl _ _ rfl w.heap.size _ _ _ rfl hownD [.int .i64 (kk : Int), .int .i64 x0, .int .i64 x1, .int .u64 0] rfl (by intro u hu; simp at hu; rcases hu with rfl | rfl | rfl | rfl <;> rfl) rfl rfl (by omega) (by exact hszT) ?_; intro g7 c7 w7 ho7 hgr7 _; rw [HGf.out] at ho7; obtain ⟨⟨⟨xx, dd⟩, ff⟩, hE⟩ := HUP.out g7 c7 w7 ho7 hgr7; have hl7 := World.block_lt_of_cell? w7 _ dd; have HE : Hid (Swt s w gc gl N cl i okk _) := hE; clear ho7 hgr7 hE)
  all_goals
    clear HUP hownD
    go_wp2
    exact hK.out okk _ (HE.out)
theorem swAll : SwG fun hd r m kn kk => True := by
  rintro s w wc gc gl N cl i n cg m co ag ao G O t hd k gw cw kn cn B2 an r okk okb HR HT HAL HHd HIx hrb hC4 hL4 hZ4 hbel4 hsz4 hci hgwl HN4 HKN0 HPN HiN HOb d0 d1 hgcl fb1 hni hmi hN hiN hkn48 hgc hcw kk _ K' K1 K2 K3
  intros
  rename_i hK
  by_cases hout : hd = outB
  · exact swOut HR HT HAL HHd HIx hrb hC4 hL4 hZ4 hbel4 hsz4 hci hgwl HN4 HKN0 HPN HiN HOb d0 d1 hgcl fb1 hni hmi hN hiN hkn48 hgc hcw 0 hout hK
  by_cases hr1 : r < 1
  · exact swBad1 HR HT HAL HHd HIx hrb hC4 hL4 hZ4 hbel4 hsz4 hci hgwl HN4 HKN0 HPN HiN HOb d0 d1 hgcl fb1 hni hmi hN hiN hkn48 hgc hcw 0 ⟨hout, hr1⟩ hK
  obtain ⟨kk, hrk, hkk⟩ : ∃ kk : Nat, r = (kk : Int) ∧ vb kk = hd := by
    rcases HIx.out with ⟨kk, _, e1, e2⟩ | ⟨_, e2⟩
    · exact ⟨kk, e2, e1⟩
    · omega
  have hkk1 : 1 ≤ kk := by omega
  have hkk7 : kk < 7 := by omega
  by_cases hm0 : 0 < m
  · exact swBad2 HR HT HAL HHd HIx hrb hC4 hL4 hZ4 hbel4 hsz4 hci hgwl HN4 HKN0 HPN HiN HOb d0 d1 hgcl fb1 hni hmi hN hiN hkn48 hgc hcw kk ⟨hout, hrk, hkk, hkk1, hkk7, hm0⟩ hK
  by_cases hka : kn = arn kk
  · have hc : kk = 1 ∨ kk = 2 ∨ kk = 6 ∨ (kk = 3 ∨ kk = 4 ∨ kk = 5) := by omega
    rcases hc with hc | hc | hc | hc
    · exact swG1 HR HT HAL HHd HIx hrb hC4 hL4 hZ4 hbel4 hsz4 hci hgwl HN4 HKN0 HPN HiN HOb d0 d1 hgcl fb1 hni hmi hN hiN hkn48 hgc hcw kk ⟨hout, hrk, hkk, hkk1, hkk7, hm0, hka, hc⟩ hK
    · exact swG2 HR HT HAL HHd HIx hrb hC4 hL4 hZ4 hbel4 hsz4 hci hgwl HN4 HKN0 HPN HiN HOb d0 d1 hgcl fb1 hni hmi hN hiN hkn48 hgc hcw kk ⟨hout, hrk, hkk, hkk1, hkk7, hm0, hka, hc⟩ hK
    · exact swG6 HR HT HAL HHd HIx hrb hC4 hL4 hZ4 hbel4 hsz4 hci hgwl HN4 HKN0 HPN HiN HOb d0 d1 hgcl fb1 hni hmi hN hiN hkn48 hgc hcw kk ⟨hout, hrk, hkk, hkk1, hkk7, hm0, hka, hc⟩ hK
    · exact swG3 HR HT HAL HHd HIx hrb hC4 hL4 hZ4 hbel4 hsz4 hci hgwl HN4 HKN0 HPN HiN HOb d0 d1 hgcl fb1 hni hmi hN hiN hkn48 hgc hcw kk ⟨hout, hrk, hkk, hkk1, hkk7, hm0, hka, hc⟩ hK
  · exact swBad3 HR HT HAL HHd HIx hrb hC4 hL4 hZ4 hbel4 hsz4 hci hgwl HN4 HKN0 HPN HiN HOb d0 d1 hgcl fb1 hni hmi hN hiN hkn48 hgc hcw kk ⟨hout, hrk, hkk, hkk1, hkk7, hm0, hka⟩ hK
end
end Go.Proofs.YtljlioglpaogdacDoor
