/- croftref.Played: the switch, at an input. · croftref.Played: the switch, at a product. · croftref.Played: the switch, whole; what is gathered behind it. -/
import Derived.Test.YtljlioglpaogdacDoorToEnL
import Derived.Test.YtljlioglpaogdacDoorToEnN
import Derived.Deep.RegionLaw
import Derived.Deep.DeepCutAuto
import Derived.Test.YtljlioglpaogdacDoorToPlC
namespace Go.Proofs.YtljlioglpaogdacDoor
set_option linter.unusedVariables false
set_option maxRecDepth 100000
set_option maxHeartbeats 8000000
section
open Crm Go.RowKit
theorem plInput {G : List Gt} {n t : Nat} {ins ds : List Int} {w W : World} {gs i N q ca d cd cW gb D C : Nat} {Ls LW : List Value} {ai ad aW : Option Addr} {x y z : Int}
    (hS : Sen w W gs n Ls (sgl G n t ins ds i) (.slice aW i cW) LW (ewr G n t ins ds i) (gs + 1) (gs + 1)) (ih : Rd W ai q ca ins) (dh : Rd W ad d cd ds) (q2 : W.cell? ⟨gb, 1, none⟩ = some (.int .i64 x)) (q3 : W.cell? ⟨gb, 2, none⟩ = some (.int .i64 y)) (q4 : W.cell? ⟨gb, 3, none⟩ = some (.int .u64 z)) (hgb : gb < W.heap.size)
    (HGi : Hid (gt G i = ⟨1, x, y, z⟩)) (hz : 0 ≤ z ∧ z ≤ 18446744073709551615) (hn : 2 * t + 1 ≤ n) (hn9 : n ≤ 9) (HD : Hid (dwn G n t i = D)) (HC : Hid (ci G i = C)) (hiN : i < N) (hN : N ≤ 30) (HDN : Hid (dwn G n t N = d)) (HCN : Hid (ci G N = q))
    
    {K' K1 K2 K3 : Act → World → Prop} {R : Ending → World → Prop} {u0 u5 u6 u7 u8 u9 u10 u11 u16 u19 u20 u21 u22 u23 u24 u25 u26 u27 u28 u29 u30 u31 u32 u33 u34 u35 u36 u37 u38 u39 u41 u42 u43 u44 u45 u46 u47 u48 u49 u50 u51 u52 u53 u54 u55 u56 u57 u58 u59 u60 u61 u62 u63 u64 u65 u66 u67 u68 u69 u70 u71 u72 u73 u74 u75 u76 u77 u78 u79 u80 u81 u82 u83 u84 u85 u86 u87 u88 u89 u90 u91 u92 u93 u94 u95 u96 u97 u98 u99 u100 u101 u102 u103 u104 u105 u106 u107 u108 u109 u110 u111 u112 u113 u114 u115 u116 u117 u118 u119 u120 u121 u122 u123 u124 u125 u126 u127 u128 u129 u130 u131 u132 u133 u134 u135 u136 u137 u138 u139 u140 u141 u142 u143 u144 u145 u146 u147 u148 u149 u150 u151 u152 u153 u154 u155 u156 u157 u158 u159 u160 u161 u162 u163 u164 u165 u166 u167 u168 u169 u170 u171 u172 u173 u174 u175 u176 u177 u178 u179 u180 u181 u182 u183 u184 u185 u186 u187 u188 u189 u190 u191 u192 u193 u194 u195 u196 u197 u198 u199 u200 u201 u202 u203 u204 u205 u206 u207 u208 u209 u210 u211 u212 u213 u214 : Value}
    (hK : Hid (∀ (u : Value) (v19 v20 v21 v22 v41 v42 v43 v44 v45 v46 v47 v48 v49 v50 v51 v52 v53 v54 v55 v56 v57 v58 v59 v60 v61 v62 v63 v64 v65 v66 v67 v68 v69 v70 v71 v72 v73 v74 v75 v76 v77 v78 v79 v80 v81 v82 v83 v84 v85 v86 v87 v88 v89 v90 v91 v92 v93 v94 v95 v96 v97 v98 v99 v100 v101 v102 v103 v104 v105 v106 v107 v108 v109 v110 v111 v112 v113 v114 v115 v116 v117 v118 v119 v120 v121 v122 v123 v124 v125 v126 v127 v128 v129 v130 v131 v132 v133 v134 v135 v136 v137 v138 v139 v140 v141 v142 v143 v144 v145 v146 v147 v148 v149 v150 v151 v152 v153 v154 v155 v156 v157 v158 v159 v160 v161 v162 v163 v164 v165 v166 v167 v168 v169 v170 v171 v172 v173 v174 v175 v176 v177 v178 : Value) (w' : World), Psw G n t ins ds w gs i (.slice aW i cW) LW u w' → K' ⟨#[u0, .int .i64 (n : Int), .int .i64 (t : Int), .slice ai q ca, .slice ad d cd, u5, u6, u7, u8, u9, u10, u11, .slice (some ⟨gs, 0, none⟩) n n, .slice aW i cW, .int .i64 ((D : Int) + (t : Int)), .int .i64 ((C : Int) + 1), u16, .pointer (some ⟨gb, 0, none⟩), u, v19, v20, v21, v22, u23, u24, u25, u26, u27, u28, u29, u30, u31, u32, u33, u34, u35, u36, u37, u38, u39, .int .i64 1, v41, v42, v43, v44, v45, v46, v47, v48, v49, v50, v51, v52, v53, v54, v55, v56, v57, v58, v59, v60, v61, v62, v63, v64, v65, v66, v67, v68, v69, v70, v71, v72, v73, v74, v75, v76, v77, v78, v79, v80, v81, v82, v83, v84, v85, v86, v87, v88, v89, v90, v91, v92, v93, v94, v95, v96, v97, v98, v99, v100, v101, v102, v103, v104, v105, v106, v107, v108, v109, v110, v111, v112, v113, v114, v115, v116, v117, v118, v119, v120, v121, v122, v123, v124, v125, v126, v127, v128, v129, v130, v131, v132, v133, v134, v135, v136, v137, v138, v139, v140, v141, v142, v143, v144, v145, v146, v147, v148, v149, v150, v151, v152, v153, v154, v155, v156, v157, v158, v159, v160, v161, v162, v163, v164, v165, v166, v167, v168, v169, v170, v171, v172, v173, v174, v175, v176, v177, v178, u179, u180, u181, u182, u183, u184, u185, u186, u187, u188, u189, u190, u191, u192, u193, u194, u195, u196, u197, u198, u199, u200, u201, u202, u203, u204, u205, u206, u207, u208, u209, u210, u211, u212, u213, u214], []⟩ w')) :
    Code.wp Tryd.prog ((Tryd.f12.body.bind (pickB 2)).getD .skip) (Exit.then K' (Exit.inBlock 1 (Exit.then K1 (Exit.then K2 (Exit.inBlock 0 (Exit.then K3 (bodyPost Tryd.prog Tryd.f12 R))))))) ⟨#[u0, .int .i64 (n : Int), .int .i64 (t : Int), .slice ai q ca, .slice ad d cd, u5, u6, u7, u8, u9, u10, u11, .slice (some ⟨gs, 0, none⟩) n n, .slice aW i cW, .int .i64 (D : Int), .int .i64 (C : Int), u16, .pointer (some ⟨gb, 0, none⟩), .slice none 0 0, u19, u20, u21, u22, u23, u24, u25, u26, u27, u28, u29, u30, u31, u32, u33, u34, u35, u36, u37, u38, u39, .int .i64 1, u41, u42, u43, u44, u45, u46, u47, u48, u49, u50, u51, u52, u53, u54, u55, u56, u57, u58, u59, u60, u61, u62, u63, u64, u65, u66, u67, u68, u69, u70, u71, u72, u73, u74, u75, u76, u77, u78, u79, u80, u81, u82, u83, u84, u85, u86, u87, u88, u89, u90, u91, u92, u93, u94, u95, u96, u97, u98, u99, u100, u101, u102, u103, u104, u105, u106, u107, u108, u109, u110, u111, u112, u113, u114, u115, u116, u117, u118, u119, u120, u121, u122, u123, u124, u125, u126, u127, u128, u129, u130, u131, u132, u133, u134, u135, u136, u137, u138, u139, u140, u141, u142, u143, u144, u145, u146, u147, u148, u149, u150, u151, u152, u153, u154, u155, u156, u157, u158, u159, u160, u161, u162, u163, u164, u165, u166, u167, u168, u169, u170, u171, u172, u173, u174, u175, u176, u177, u178, u179, u180, u181, u182, u183, u184, u185, u186, u187, u188, u189, u190, u191, u192, u193, u194, u195, u196, u197, u198, u199, u200, u201, u202, u203, u204, u205, u206, u207, u208, u209, u210, u211, u212, u213, u214], []⟩ W := by
  conv => arg 2; whnf
  have hcl : C < q := by rw [← HC.out, ← HCN.out]; exact ci_lt hiN (by rw [HGi.out])
  have hdt : D + t ≤ d := by
    have e : dwn G n t (i + 1) = D + t := by rw [dwn, HD.out, if_pos (by rw [HGi.out])]
    rw [← e, ← HDN.out]
    exact dwn_mono G n t (by omega)
  have hcb : C ≤ 30 := by rw [← HC.out]; have := ci_le G i; omega
  have hdb : d ≤ 2000 := by rw [← HDN.out]; have := dwn_le G hn9 (show t ≤ 4 by omega) N; omega
  obtain ⟨b5, o5, s, rfl, hbb5, HSx, hs0, hs1, hcs⟩ := ih.one hcl
  have hdc := dh.cap
  have hrk := dh.sub (lo := D) (k := t) hdt
  obtain ⟨X, HX⟩ : ∃ X, Hid (subA ad cd D = X) := ⟨_, rfl⟩
  have hsl : ∀ W, (Instr.sliceAt 31 (.slice ad d cd) (some (.int .i64 (D : Int))) (some (.int .i64 ((D : Int) + (t : Int)))) none).run Tryd.prog W = .ok (.slice X t (cd - D)) W := fun W => by rw [← HX.out]; exact run_sub Tryd.underlying31 infoS1 ad d cd D t rfl rfl (by omega) W
  rw [HX.out] at hrk
  have HE : Hid (ew G n t ins ds i = dl (s :: (ds.drop D).take t) n) := by
    unfold Hid
    rw [ew_in (by rw [HGi.out])]
    unfold edr
    rw [HD.out, HC.out, HSx.out]
  have hwD : IntKind.i64.wrap ((D : Int) + (t : Int)) = (D : Int) + (t : Int) := by rw [IntKind.wrap_i64]; omega
  have hC0 : (0 : Int) ≤ (C : Int) := by omega
  have hCq : (C : Int) < (q : Int) := by omega
  have HF : Hid (∀ v w', w'.ownsRow W.drew.heap.size 43 1 v n ((dl (s :: (ds.drop D).take t) n).map (Value.int .u64)) → Below W.drew.heap.size W.drew w' → Sen w w' gs n Ls (sgx (sng G n t ins ds i) (esn G n t ins ds i) n 0) (.slice aW i cW) LW (ewr G n t ins ds i) W.heap.size w'.heap.size ∧ w'.ownsRow W.heap.size 43 1 v n ((ew G n t ins ds i).map (Value.int .u64)) ∧ Btw W.heap.size w'.heap.size v) := fun v w' ho hb => by
    have hf := hS.drew.fresh (by omega) hb
    rw [sgl_first] at hf
    exact ⟨hf, by rw [HE.out]; exact ho, fun b hb => ho.lt b hb⟩
  have HLW : Hid (∀ p b, (LW.getD p (.slice none 0 0)).ownBlock = some b → b < W.heap.size) := fun p b hb => (hS.wires.blk p b hb).2
  have HLOB : Hid (w.heap.size ≤ W.heap.size) := hS.bel.size
  clear hS ih dh HE
  go_wp2
  go_region_law (first | (go_simp; go_at_call 30; refine (rDealtO _ _ _ _ _ _ _ hrk.drew hs0 hs1 (by omega) hn9).mono ?_; rintro en w3 ⟨vl, rfl, hol, hb3⟩; obtain ⟨hS3, hol3, hVl⟩ := HF.out vl w3 hol hb3; have HVl : Hid (Btw W.heap.size w3.heap.size vl) := hVl; clear hol hb3 hVl))
  all_goals
    have hol := hol3
    clear hol3 HF hrk hsl hcs
    go_wp2
    go_loopw [19] (fun s wr => ∃ (j : Nat) (Ls : List Value), j ≤ n ∧ s = .int .i64 j ∧ Sen w wr gs n Ls (sgx (sng G n t ins ds i) (esn G n t ins ds i) n j) (.slice aW i cW) LW (ewr G n t ins ds i) W.heap.size w3.heap.size ∧ wr.ownsRow W.heap.size 43 1 vl n ((ew G n t ins ds i).map (Value.int .u64))) (fun s _ => n - (intOf s).toNat)
    case atStart => exact ⟨0, Ls, Nat.zero_le _, rfl, hS3, hol⟩
    case round =>
      clear hS3 hol
      obtain ⟨j, Ls, hj, rfl, hS, hol⟩ := hrel
      by_cases hjn : j < n
      · have hgl := sgx_len (sng G n t ins ds i) (esn G n t ins ds i) n j
        obtain ⟨dg, fg, lg⟩ := hS.seen.cell hgl hjn
        have hrow := hS.seen.row j (by rw [hgl]; exact hjn)
        rw [sgx_getD _ _ hjn] at hrow
        obtain ⟨u, HU⟩ : ∃ u, Hid (Ls.getD j (.slice none 0 0) = u) := ⟨_, rfl⟩
        rw [HU.out] at dg hrow
        obtain ⟨l, Hl⟩ : ∃ l, Hid ((sng G n t ins ds i j).length = l) := ⟨_, rfl⟩
        have hlb := sng_bound G n t ins ds i j hn9
        rw [Hl.out] at hrow hlb
        have hrowD : wr.drew.ownsRow w.heap.size 43 1 u l ((sng G n t ins ds i j).map (Value.int .u64)) := hrow
        obtain ⟨ua, uc, rfl, huc⟩ := own_slice hrow
        have hsw := hS.bel.size
        have HXL : Hid ((esn G n t ins ds i j).length = 1) := by unfold Hid esn; rw [if_pos (by rw [HGi.out])]; rfl
        obtain ⟨z1, HZ⟩ : ∃ z, Hid ((ew G n t ins ds i).getD j 0 = z) := ⟨_, rfl⟩
        obtain ⟨al, cl, rfl, hrl, _⟩ := Rd.own hol (bd_u64 (ew_bd _ _ _ _ _ _))
        obtain ⟨b3, o3, z', rfl, hb3', HZ', hz0', hz1', hcz⟩ := hrl.one hjn
        obtain rfl : z1 = z' := by rw [← HZ.out, ← HZ'.out]
        have HTR : Hid (sng G n t ins ds i j ++ [z1] = sng G n t ins ds i j ++ esn G n t ins ds i j) := by unfold Hid esn; rw [if_pos (by rw [HGi.out]), HZ.out]
        have HST : Hid (∀ w7, wr.drew.grownBy w7 (Value.slice ua l uc).ownBlock → (∃ x, w7.cell? ⟨gs, j, none⟩ = some x) ∧ w7.frozen? ⟨gs, j, none⟩ = false) := fun w7 hg => by
          have ho7 := (show wr.drew.ownsRow _ _ _ _ _ _ from hS.seen.own).kept hg (own_apart hrowD (show wr.drew.ownsRow _ _ _ _ _ _ from hS.seen.own) (by decide))
          rw [hgl] at ho7
          obtain ⟨g', x, e1, _, _, _, e5⟩ := own_at ho7 hjn
          simp only [Option.some.injEq, Addr.mk.injEq, and_true] at e1
          subst e1
          exact ⟨⟨x, e5⟩, own_frozen ho7 j⟩
        have HUP : Hid (∀ g7 cap7 w7, w7.ownsRow w.heap.size 43 1 (.slice (some ⟨g7, 0, none⟩) (l + 1) cap7) (l + 1) ((sng G n t ins ds i j ++ esn G n t ins ds i j).map (Value.int .u64)) → wr.drew.grownBy w7 (Value.slice ua l uc).ownBlock → ((Value.slice (some ⟨g7, 0, none⟩) (l + 1) cap7).ownBlock = (Value.slice ua l uc).ownBlock ∨ ∃ k, (Value.slice (some ⟨g7, 0, none⟩) (l + 1) cap7).ownBlock = some k ∧ wr.drew.heap.size ≤ k) →
            Sen w (w7.setCell ⟨gs, j, none⟩ (.slice (some ⟨g7, 0, none⟩) (l + 1) cap7)) gs n (Ls.set j (.slice (some ⟨g7, 0, none⟩) (l + 1) cap7)) (sgx (sng G n t ins ds i) (esn G n t ins ds i) n (j + 1)) (.slice aW i cW) LW (ewr G n t ins ds i) W.heap.size w3.heap.size ∧ (w7.setCell ⟨gs, j, none⟩ (.slice (some ⟨g7, 0, none⟩) (l + 1) cap7)).ownsRow W.heap.size 43 1 (.slice (some ⟨b3, o3, none⟩) n cl) n ((ew G n t ins ds i).map (Value.int .u64))) := fun g7 cap7 w7 ho hg hat => by
          have hlen : (sng G n t ins ds i j ++ esn G n t ins ds i j).length = l + 1 := by rw [List.length_append, Hl.out, HXL.out]
          have hp := hS.drew.put (j := j) (row := sng G n t ins ds i j ++ esn G n t ins ds i j) (v7 := .slice (some ⟨g7, 0, none⟩) (l + 1) cap7) hjn (by rw [hlen]; exact ho) (by rw [HU.out]; exact hg) (by rw [HU.out]; exact hat)
          rw [sgx_set] at hp
          exact ⟨hp, hS.drew.keep hjn (show wr.drew.ownsRow _ _ _ _ _ _ from hol) HVl.out (by rw [HU.out]; exact hg)⟩
        have hj0 : (0 : Int) ≤ (j : Int) := by omega
        have hjni : (j : Int) < (n : Int) := by omega
        clear hS hol hrow hrl
        go_wp2
        go_region_law (refine step_appL Tryd.underlying31 info43 wr.drew rfl _ _ rfl w.heap.size _ _ _ rfl hrowD z1 rfl rfl (by omega) (by exact hsw) ?_; intro g7 cap7 w7 ho7 hgr7 hat7; rw [HTR.out] at ho7; obtain ⟨⟨xx, dd⟩, ff⟩ := HST.out w7 hgr7; have hl7 := World.block_lt_of_cell? w7 _ dd; have HE : Hid (_ ∧ _) := HUP.out g7 cap7 w7 ho7 hgr7 hat7; clear ho7 hgr7 hat7)
        all_goals
          clear HST HUP hrowD
          go_wp2
          go_roundw
          case rel => exact ⟨j + 1, _, by omega, by go_num, HE.out.1, HE.out.2⟩
          case measure => simp [intOf]; omega
      · have hjn2 : j = n := by omega
        subst hjn2
        rw [sgl_next] at hS
        have HP : Psw G j t ins ds w gs i (.slice aW i cW) LW vl wr := ⟨Ls, W.heap.size, w3.heap.size, hS, own_baseV hol HLOB.out, HVl.out, HLW.out⟩
        clear hS hol
        go_wp2
        exact hK.out _ _ _ _ _ _ _ _ _ _ _ _ _ _ _ _ _ _ _ _ _ _ _ _ _ _ _ _ _ _ _ _ _ _ _ _ _ _ _ _ _ _ _ _ _ _ _ _ _ _ _ _ _ _ _ _ _ _ _ _ _ _ _ _ _ _ _ _ _ _ _ _ _ _ _ _ _ _ _ _ _ _ _ _ _ _ _ _ _ _ _ _ _ _ _ _ _ _ _ _ _ _ _ _ _ _ _ _ _ _ _ _ _ _ _ _ _ _ _ _ _ _ _ _ _ _ _ _ _ _ _ _ _ _ _ _ _ _ _ _ _ _ _ _ HP
theorem own_atV {w : World} {B n k : Nat} {v : Value} {E : TypeId} {xs : List Value} (h : w.ownsRow B E 1 v n xs) (hk : k < n) : ∃ g c, v = .slice (some ⟨g, 0, none⟩) n c := by
  rcases h.2 with ⟨_, rfl⟩ | ⟨g, cap, cur, rfl, hb, hg, _⟩
  · omega
  · exact ⟨g, cap, rfl⟩

theorem plMul {G : List Gt} {n t : Nat} {ins ds : List Int} {w W : World} {gs i N q ca d cd cW gb D C M : Nat} {Ls LW : List Value} {ai ad aW : Option Addr} {x y z : Int}
    (hS : Sen w W gs n Ls (sgl G n t ins ds i) (.slice aW i cW) LW (ewr G n t ins ds i) (gs + 1) (gs + 1)) (ih : Rd W ai q ca ins) (dh : Rd W ad d cd ds) (q2 : W.cell? ⟨gb, 1, none⟩ = some (.int .i64 x)) (q3 : W.cell? ⟨gb, 2, none⟩ = some (.int .i64 y)) (q4 : W.cell? ⟨gb, 3, none⟩ = some (.int .u64 z)) (hgb : gb < W.heap.size)
    (HGi : Hid (gt G i = ⟨5, x, y, z⟩)) (hz : 0 ≤ z ∧ z ≤ 18446744073709551615) (hn : 2 * t + 1 ≤ n) (hn9 : n ≤ 9) (HD : Hid (dwn G n t i = D)) (HC : Hid (ci G i = C)) (hiN : i < N) (hN : N ≤ 30) (HDN : Hid (dwn G n t N = d)) (HCN : Hid (ci G N = q)) (HM : Hid (n * t = M))
    (hx : 0 ≤ x ∧ x < (i : Int)) (hy : 0 ≤ y ∧ y < (i : Int))
    {K' K1 K2 K3 : Act → World → Prop} {R : Ending → World → Prop} {u0 u5 u6 u7 u8 u9 u10 u11 u16 u19 u20 u21 u22 u23 u24 u25 u26 u27 u28 u29 u30 u31 u32 u33 u34 u35 u36 u37 u38 u39 u41 u42 u43 u44 u45 u46 u47 u48 u49 u50 u51 u52 u53 u54 u55 u56 u57 u58 u59 u60 u61 u62 u63 u64 u65 u66 u67 u68 u69 u70 u71 u72 u73 u74 u75 u76 u77 u78 u79 u80 u81 u82 u83 u84 u85 u86 u87 u88 u89 u90 u91 u92 u93 u94 u95 u96 u97 u98 u99 u100 u101 u102 u103 u104 u105 u106 u107 u108 u109 u110 u111 u112 u113 u114 u115 u116 u117 u118 u119 u120 u121 u122 u123 u124 u125 u126 u127 u128 u129 u130 u131 u132 u133 u134 u135 u136 u137 u138 u139 u140 u141 u142 u143 u144 u145 u146 u147 u148 u149 u150 u151 u152 u153 u154 u155 u156 u157 u158 u159 u160 u161 u162 u163 u164 u165 u166 u167 u168 u169 u170 u171 u172 u173 u174 u175 u176 u177 u178 u179 u180 u181 u182 u183 u184 u185 u186 u187 u188 u189 u190 u191 u192 u193 u194 u195 u196 u197 u198 u199 u200 u201 u202 u203 u204 u205 u206 u207 u208 u209 u210 u211 u212 u213 u214 : Value}
    (hK : Hid (∀ (u : Value) (v19 v20 v21 v22 v41 v42 v43 v44 v45 v46 v47 v48 v49 v50 v51 v52 v53 v54 v55 v56 v57 v58 v59 v60 v61 v62 v63 v64 v65 v66 v67 v68 v69 v70 v71 v72 v73 v74 v75 v76 v77 v78 v79 v80 v81 v82 v83 v84 v85 v86 v87 v88 v89 v90 v91 v92 v93 v94 v95 v96 v97 v98 v99 v100 v101 v102 v103 v104 v105 v106 v107 v108 v109 v110 v111 v112 v113 v114 v115 v116 v117 v118 v119 v120 v121 v122 v123 v124 v125 v126 v127 v128 v129 v130 v131 v132 v133 v134 v135 v136 v137 v138 v139 v140 v141 v142 v143 v144 v145 v146 v147 v148 v149 v150 v151 v152 v153 v154 v155 v156 v157 v158 v159 v160 v161 v162 v163 v164 v165 v166 v167 v168 v169 v170 v171 v172 v173 v174 v175 v176 v177 v178 : Value) (w' : World), Psw G n t ins ds w gs i (.slice aW i cW) LW u w' → K' ⟨#[u0, .int .i64 (n : Int), .int .i64 (t : Int), .slice ai q ca, .slice ad d cd, u5, u6, u7, u8, u9, u10, u11, .slice (some ⟨gs, 0, none⟩) n n, .slice aW i cW, .int .i64 ((D : Int) + (M : Int)), .int .i64 ((C : Int)), u16, .pointer (some ⟨gb, 0, none⟩), u, v19, v20, v21, v22, u23, u24, u25, u26, u27, u28, u29, u30, u31, u32, u33, u34, u35, u36, u37, u38, u39, .int .i64 5, v41, v42, v43, v44, v45, v46, v47, v48, v49, v50, v51, v52, v53, v54, v55, v56, v57, v58, v59, v60, v61, v62, v63, v64, v65, v66, v67, v68, v69, v70, v71, v72, v73, v74, v75, v76, v77, v78, v79, v80, v81, v82, v83, v84, v85, v86, v87, v88, v89, v90, v91, v92, v93, v94, v95, v96, v97, v98, v99, v100, v101, v102, v103, v104, v105, v106, v107, v108, v109, v110, v111, v112, v113, v114, v115, v116, v117, v118, v119, v120, v121, v122, v123, v124, v125, v126, v127, v128, v129, v130, v131, v132, v133, v134, v135, v136, v137, v138, v139, v140, v141, v142, v143, v144, v145, v146, v147, v148, v149, v150, v151, v152, v153, v154, v155, v156, v157, v158, v159, v160, v161, v162, v163, v164, v165, v166, v167, v168, v169, v170, v171, v172, v173, v174, v175, v176, v177, v178, u179, u180, u181, u182, u183, u184, u185, u186, u187, u188, u189, u190, u191, u192, u193, u194, u195, u196, u197, u198, u199, u200, u201, u202, u203, u204, u205, u206, u207, u208, u209, u210, u211, u212, u213, u214], []⟩ w')) :
    Code.wp Tryd.prog ((Tryd.f12.body.bind (pickB 2)).getD .skip) (Exit.then K' (Exit.inBlock 1 (Exit.then K1 (Exit.then K2 (Exit.inBlock 0 (Exit.then K3 (bodyPost Tryd.prog Tryd.f12 R))))))) ⟨#[u0, .int .i64 (n : Int), .int .i64 (t : Int), .slice ai q ca, .slice ad d cd, u5, u6, u7, u8, u9, u10, u11, .slice (some ⟨gs, 0, none⟩) n n, .slice aW i cW, .int .i64 (D : Int), .int .i64 (C : Int), u16, .pointer (some ⟨gb, 0, none⟩), .slice none 0 0, u19, u20, u21, u22, u23, u24, u25, u26, u27, u28, u29, u30, u31, u32, u33, u34, u35, u36, u37, u38, u39, .int .i64 5, u41, u42, u43, u44, u45, u46, u47, u48, u49, u50, u51, u52, u53, u54, u55, u56, u57, u58, u59, u60, u61, u62, u63, u64, u65, u66, u67, u68, u69, u70, u71, u72, u73, u74, u75, u76, u77, u78, u79, u80, u81, u82, u83, u84, u85, u86, u87, u88, u89, u90, u91, u92, u93, u94, u95, u96, u97, u98, u99, u100, u101, u102, u103, u104, u105, u106, u107, u108, u109, u110, u111, u112, u113, u114, u115, u116, u117, u118, u119, u120, u121, u122, u123, u124, u125, u126, u127, u128, u129, u130, u131, u132, u133, u134, u135, u136, u137, u138, u139, u140, u141, u142, u143, u144, u145, u146, u147, u148, u149, u150, u151, u152, u153, u154, u155, u156, u157, u158, u159, u160, u161, u162, u163, u164, u165, u166, u167, u168, u169, u170, u171, u172, u173, u174, u175, u176, u177, u178, u179, u180, u181, u182, u183, u184, u185, u186, u187, u188, u189, u190, u191, u192, u193, u194, u195, u196, u197, u198, u199, u200, u201, u202, u203, u204, u205, u206, u207, u208, u209, u210, u211, u212, u213, u214], []⟩ W := by
  conv => arg 2; whnf
  obtain ⟨pa, rfl⟩ : ∃ p : Nat, x = p := ⟨x.toNat, by omega⟩
  have hpa : pa < i := by omega
  obtain ⟨pb, rfl⟩ : ∃ p : Nat, y = p := ⟨y.toNat, by omega⟩
  have hpb : pb < i := by omega
  obtain ⟨gW, a1, c1, rfl, hgW, e1, r1⟩ := hS.wire hpa
  obtain ⟨gW', a2, c2, e', _, e2, r2⟩ := hS.wire hpb
  simp only [Option.some.injEq, Addr.mk.injEq, and_true] at e'
  subst e'
  have hM36 : M ≤ 36 := by rw [← HM.out]; exact Nat.mul_le_mul hn9 (show t ≤ 4 by omega)
  have hM : (n : Int) * (t : Int) = (M : Int) := by rw [← HM.out]; push_cast; rfl
  have hdt : D + M ≤ d := by
    have e : dwn G n t (i + 1) = D + M := by rw [dwn, HD.out, if_neg (by rw [HGi.out]; simp), if_pos (by rw [HGi.out]), HM.out]
    rw [← e, ← HDN.out]
    exact dwn_mono G n t (by omega)
  have hdb : d ≤ 2000 := by rw [← HDN.out]; have := dwn_le G hn9 (show t ≤ 4 by omega) N; omega
  have hdc := dh.cap
  have hrk := dh.sub (lo := D) (k := M) hdt
  obtain ⟨X, HX⟩ : ∃ X, Hid (subA ad cd D = X) := ⟨_, rfl⟩
  have hsl : ∀ W, (Instr.sliceAt 31 (.slice ad d cd) (some (.int .i64 (D : Int))) (some (.int .i64 ((D : Int) + (M : Int)))) none).run Tryd.prog W = .ok (.slice X M (cd - D)) W := fun W => by rw [← HX.out]; exact run_sub Tryd.underlying31 infoS1 ad d cd D M rfl rfl (by omega) W
  rw [HX.out] at hrk
  have HER : Hid ((ds.drop D).take M = edr G n t ds i (n * t)) := by unfold Hid edr; rw [HD.out, HM.out]
  have HE : Hid (ew G n t ins ds i = tmO t (ew G n t ins ds pa) (ew G n t ins ds pb) (edr G n t ds i (n * t)) n n) := ew_mul (by rw [HGi.out]) (by rw [HGi.out]) hpa (by rw [HGi.out]) hpb
  have hwM : IntKind.i64.wrap (M : Int) = (M : Int) := by rw [IntKind.wrap_i64]; omega
  have hwD : IntKind.i64.wrap ((D : Int) + (M : Int)) = (D : Int) + (M : Int) := by rw [IntKind.wrap_i64]; omega
  have hpa0 : (0 : Int) ≤ (pa : Int) := by omega
  have hpai : (pa : Int) < (i : Int) := by omega
  have hpb0 : (0 : Int) ≤ (pb : Int) := by omega
  have hpbi : (pb : Int) < (i : Int) := by omega
  have HF : Hid (∀ v u L w', w'.ownsRow W.drew.heap.size 43 1 v n ((tmO t (ew G n t ins ds pa) (ew G n t ins ds pb) ((ds.drop D).take M) n n).map (Value.int .u64)) → LsV w' W.drew.heap.size u L (tmG t (ew G n t ins ds pa) (ew G n t ins ds pb) ((ds.drop D).take M) n) → Below W.drew.heap.size W.drew w' →
      Sen w w' gs n Ls (sgx (sng G n t ins ds i) (esn G n t ins ds i) n 0) (.slice (some ⟨gW, 0, none⟩) i cW) LW (ewr G n t ins ds i) W.heap.size w'.heap.size ∧ w'.ownsRow W.heap.size 43 1 v n ((ew G n t ins ds i).map (Value.int .u64)) ∧ Btw W.heap.size w'.heap.size v ∧ LsV w' W.heap.size u L (tmG t (ew G n t ins ds pa) (ew G n t ins ds pb) (edr G n t ds i (n * t)) n) ∧ Btw W.heap.size w'.heap.size u ∧ ∀ p, Btw W.heap.size w'.heap.size (L.getD p (.slice none 0 0))) := fun v u L w' ho hL hb => by
    have hf := hS.drew.fresh (by omega) hb
    rw [sgl_first] at hf
    rw [HER.out] at ho hL
    exact ⟨hf, by rw [HE.out]; exact ho, fun b hb => ho.lt b hb, hL, fun b hb => hL.own.lt b hb, fun p b hb => hL.blk p b hb⟩
  have HLW : Hid (∀ p b, (LW.getD p (.slice none 0 0)).ownBlock = some b → b < W.heap.size) := fun p b hb => (hS.wires.blk p b hb).2
  have HLOB : Hid (w.heap.size ≤ W.heap.size) := hS.bel.size
  clear hS ih dh HE HER
  go_wp2
  go_region_law (first | (go_simp; go_at_call 32; refine (rTimes t _ n _ _ _ _ _ _ _ _ _ _ r1.drew r2.drew hrk.drew (by omega) (by omega) hn9 HM.out.symm).mono ?_; rintro en w3 ⟨vl, vg, Lg, rfl, hol, hgt, hb3⟩; obtain ⟨hS3, hol3, hVl, hgt3, hVg, hLg⟩ := HF.out vl vg Lg w3 hol hgt hb3; have HVl : Hid (Btw W.heap.size w3.heap.size vl) := hVl; have HVg : Hid (Btw W.heap.size w3.heap.size vg) := hVg; have HLg : Hid (∀ p, Btw W.heap.size w3.heap.size (Lg.getD p (.slice none 0 0))) := hLg; clear hol hb3 hVl hVg hLg hgt))
  all_goals
    have hol := hol3
    have hgl0 : (tmG t (ew G n t ins ds pa) (ew G n t ins ds pb) (edr G n t ds i (n * t)) n).length = n := tmG_len _ _ _ _ _
    have hgo := hgt3.own
    rw [hgl0] at hgo
    obtain ⟨gg, cgt, rfl⟩ := own_atV hgo (k := 0) (by omega)
    have hgt := hgt3
    clear hol3 hgt3 HF hrk hsl hgo e1 e2 r1 r2
    go_wp2
    go_loopw [22] (fun s wr => ∃ (j : Nat) (Ls : List Value), j ≤ n ∧ s = .int .i64 j ∧ Sen w wr gs n Ls (sgx (sng G n t ins ds i) (esn G n t ins ds i) n j) (.slice (some ⟨gW, 0, none⟩) i cW) LW (ewr G n t ins ds i) W.heap.size w3.heap.size ∧ wr.ownsRow W.heap.size 43 1 vl n ((ew G n t ins ds i).map (Value.int .u64)) ∧ LsV wr W.heap.size (.slice (some ⟨gg, 0, none⟩) n cgt) Lg (tmG t (ew G n t ins ds pa) (ew G n t ins ds pb) (edr G n t ds i (n * t)) n)) (fun s _ => n - (intOf s).toNat)
    case atStart => exact ⟨0, Ls, Nat.zero_le _, rfl, hS3, hol, hgt⟩
    case round =>
      clear hS3 hol hgt
      obtain ⟨j, Ls, hj, rfl, hS, hol, hgt⟩ := hrel
      by_cases hjn : j < n
      · have hgl := sgx_len (sng G n t ins ds i) (esn G n t ins ds i) n j
        obtain ⟨dg, fg, lg⟩ := hS.seen.cell hgl hjn
        have hrow := hS.seen.row j (by rw [hgl]; exact hjn)
        rw [sgx_getD _ _ hjn] at hrow
        obtain ⟨u, HU⟩ : ∃ u, Hid (Ls.getD j (.slice none 0 0) = u) := ⟨_, rfl⟩
        rw [HU.out] at dg hrow
        obtain ⟨l, Hl⟩ : ∃ l, Hid ((sng G n t ins ds i j).length = l) := ⟨_, rfl⟩
        have hlb := sng_bound G n t ins ds i j hn9
        rw [Hl.out] at hrow hlb
        have hrowD : wr.drew.ownsRow w.heap.size 43 1 u l ((sng G n t ins ds i j).map (Value.int .u64)) := hrow
        obtain ⟨ua, uc, rfl, huc⟩ := own_slice hrow
        have hsw := hS.bel.size
        have HXL : Hid ((esn G n t ins ds i j).length = n) := by unfold Hid esn; rw [if_neg (by rw [HGi.out]; simp), if_pos (by rw [HGi.out]), tmR_len]
        obtain ⟨eg1, _, eg3⟩ := hgt.cell hgl0 hjn
        obtain ⟨a3, c3, eg4, r3⟩ := hgt.one hgl0 hjn (by rw [tmG_getD _ _ _ _ hjn]; exact bd_u64 (tmR_bd _ _ _ _ _ _))
        rw [tmG_getD _ _ _ _ hjn, tmR_len] at eg4 r3
        rw [eg4] at eg1
        obtain ⟨Y, HY⟩ : ∃ Y, Hid (tmR t (ew G n t ins ds pa) (ew G n t ins ds pb) (edr G n t ds i (n * t)) n j = Y) := ⟨_, rfl⟩
        rw [HY.out] at r3
        obtain ⟨b3, o3, rfl, _, _⟩ := r3.at (k := 0) (by omega)
        have HTR : Hid (sng G n t ins ds i j ++ Y = sng G n t ins ds i j ++ esn G n t ins ds i j) := by unfold Hid esn; rw [if_neg (by rw [HGi.out]; simp), if_pos (by rw [HGi.out]), ← HY.out, HGi.out]; rfl
        have HST : Hid (∀ w7, wr.drew.grownBy w7 (Value.slice ua l uc).ownBlock → (∃ x, w7.cell? ⟨gs, j, none⟩ = some x) ∧ w7.frozen? ⟨gs, j, none⟩ = false) := fun w7 hg => by
          have ho7 := (show wr.drew.ownsRow _ _ _ _ _ _ from hS.seen.own).kept hg (own_apart hrowD (show wr.drew.ownsRow _ _ _ _ _ _ from hS.seen.own) (by decide))
          rw [hgl] at ho7
          obtain ⟨g', x, e1, _, _, _, e5⟩ := own_at ho7 hjn
          simp only [Option.some.injEq, Addr.mk.injEq, and_true] at e1
          subst e1
          exact ⟨⟨x, e5⟩, own_frozen ho7 j⟩
        have HUP : Hid (∀ g7 cap7 w7, w7.ownsRow w.heap.size 43 1 (.slice (some ⟨g7, 0, none⟩) (l + n) cap7) (l + n) ((sng G n t ins ds i j ++ esn G n t ins ds i j).map (Value.int .u64)) → wr.drew.grownBy w7 (Value.slice ua l uc).ownBlock → ((Value.slice (some ⟨g7, 0, none⟩) (l + n) cap7).ownBlock = (Value.slice ua l uc).ownBlock ∨ ∃ k, (Value.slice (some ⟨g7, 0, none⟩) (l + n) cap7).ownBlock = some k ∧ wr.drew.heap.size ≤ k) →
            Sen w (w7.setCell ⟨gs, j, none⟩ (.slice (some ⟨g7, 0, none⟩) (l + n) cap7)) gs n (Ls.set j (.slice (some ⟨g7, 0, none⟩) (l + n) cap7)) (sgx (sng G n t ins ds i) (esn G n t ins ds i) n (j + 1)) (.slice (some ⟨gW, 0, none⟩) i cW) LW (ewr G n t ins ds i) W.heap.size w3.heap.size ∧ (w7.setCell ⟨gs, j, none⟩ (.slice (some ⟨g7, 0, none⟩) (l + n) cap7)).ownsRow W.heap.size 43 1 vl n ((ew G n t ins ds i).map (Value.int .u64)) ∧ LsV (w7.setCell ⟨gs, j, none⟩ (.slice (some ⟨g7, 0, none⟩) (l + n) cap7)) W.heap.size (.slice (some ⟨gg, 0, none⟩) n cgt) Lg (tmG t (ew G n t ins ds pa) (ew G n t ins ds pb) (edr G n t ds i (n * t)) n)) := fun g7 cap7 w7 ho hg hat => by
          have hlen : (sng G n t ins ds i j ++ esn G n t ins ds i j).length = l + n := by rw [List.length_append, Hl.out, HXL.out]
          have hp := hS.drew.put (j := j) (row := sng G n t ins ds i j ++ esn G n t ins ds i j) (v7 := .slice (some ⟨g7, 0, none⟩) (l + n) cap7) hjn (by rw [hlen]; exact ho) (by rw [HU.out]; exact hg) (by rw [HU.out]; exact hat)
          rw [sgx_set] at hp
          exact ⟨hp, hS.drew.keep hjn (show wr.drew.ownsRow _ _ _ _ _ _ from hol) HVl.out (by rw [HU.out]; exact hg), hS.drew.keepL hjn hgt.drew HVg.out HLg.out (by rw [HU.out]; exact hg)⟩
        have hj0 : (0 : Int) ≤ (j : Int) := by omega
        have hjni : (j : Int) < (n : Int) := by omega
        clear hS hol hrow hgt
        go_wp2
        go_region_law (refine step_appM Tryd.underlying31 info43 wr.drew rfl _ _ rfl w.heap.size _ _ _ rfl hrowD b3 o3 n c3 Y r3.drew rfl (by omega) (by omega) (by exact hsw) ?_; intro g7 cap7 w7 ho7 hgr7 hat7; rw [HTR.out] at ho7; obtain ⟨⟨xx, dd⟩, ff⟩ := HST.out w7 hgr7; have hl7 := World.block_lt_of_cell? w7 _ dd; have HE : Hid (_ ∧ _) := HUP.out g7 cap7 w7 ho7 hgr7 hat7; clear ho7 hgr7 hat7)
        all_goals
          clear HST HUP hrowD
          go_wp2
          go_roundw
          case rel => exact ⟨j + 1, _, by omega, by go_num, HE.out.1, HE.out.2.1, HE.out.2.2⟩
          case measure => simp [intOf]; omega
      · have hjn2 : j = n := by omega
        subst hjn2
        rw [sgl_next] at hS
        have HP : Psw G j t ins ds w gs i (.slice (some ⟨gW, 0, none⟩) i cW) LW vl wr := ⟨Ls, W.heap.size, w3.heap.size, hS, own_baseV hol HLOB.out, HVl.out, HLW.out⟩
        clear hS hol hgt
        go_wp2
        exact hK.out _ _ _ _ _ _ _ _ _ _ _ _ _ _ _ _ _ _ _ _ _ _ _ _ _ _ _ _ _ _ _ _ _ _ _ _ _ _ _ _ _ _ _ _ _ _ _ _ _ _ _ _ _ _ _ _ _ _ _ _ _ _ _ _ _ _ _ _ _ _ _ _ _ _ _ _ _ _ _ _ _ _ _ _ _ _ _ _ _ _ _ _ _ _ _ _ _ _ _ _ _ _ _ _ _ _ _ _ _ _ _ _ _ _ _ _ _ _ _ _ _ _ _ _ _ _ _ _ _ _ _ _ _ _ _ _ _ _ _ _ _ _ _ _ HP
theorem plAll {G : List Gt} {n t : Nat} {ins ds : List Int} {w W : World} {gs i N q ca d cd cW gb D C : Nat} {Ls LW : List Value} {ai ad aW : Option Addr} {k x y z : Int}
    (hS : Sen w W gs n Ls (sgl G n t ins ds i) (.slice aW i cW) LW (ewr G n t ins ds i) (gs + 1) (gs + 1)) (ih : Rd W ai q ca ins) (dh : Rd W ad d cd ds) (q2 : W.cell? ⟨gb, 1, none⟩ = some (.int .i64 x)) (q3 : W.cell? ⟨gb, 2, none⟩ = some (.int .i64 y)) (q4 : W.cell? ⟨gb, 3, none⟩ = some (.int .u64 z)) (hgb : gb < W.heap.size)
    (HGi : Hid (gt G i = ⟨k, x, y, z⟩)) (hz : 0 ≤ z ∧ z ≤ 18446744073709551615) (hn : 2 * t + 1 ≤ n) (hn9 : n ≤ 9) (HD : Hid (dwn G n t i = D)) (HC : Hid (ci G i = C)) (hiN : i < N) (hN : N ≤ 30) (HDN : Hid (dwn G n t N = d)) (HCN : Hid (ci G N = q))
    (hok : okg i ⟨k, x, y, z⟩)
    {K' K1 K2 K3 : Act → World → Prop} {R : Ending → World → Prop} {u0 u5 u6 u7 u8 u9 u10 u11 u16 u19 u20 u21 u22 u23 u24 u25 u26 u27 u28 u29 u30 u31 u32 u33 u34 u35 u36 u37 u38 u39 u41 u42 u43 u44 u45 u46 u47 u48 u49 u50 u51 u52 u53 u54 u55 u56 u57 u58 u59 u60 u61 u62 u63 u64 u65 u66 u67 u68 u69 u70 u71 u72 u73 u74 u75 u76 u77 u78 u79 u80 u81 u82 u83 u84 u85 u86 u87 u88 u89 u90 u91 u92 u93 u94 u95 u96 u97 u98 u99 u100 u101 u102 u103 u104 u105 u106 u107 u108 u109 u110 u111 u112 u113 u114 u115 u116 u117 u118 u119 u120 u121 u122 u123 u124 u125 u126 u127 u128 u129 u130 u131 u132 u133 u134 u135 u136 u137 u138 u139 u140 u141 u142 u143 u144 u145 u146 u147 u148 u149 u150 u151 u152 u153 u154 u155 u156 u157 u158 u159 u160 u161 u162 u163 u164 u165 u166 u167 u168 u169 u170 u171 u172 u173 u174 u175 u176 u177 u178 u179 u180 u181 u182 u183 u184 u185 u186 u187 u188 u189 u190 u191 u192 u193 u194 u195 u196 u197 u198 u199 u200 u201 u202 u203 u204 u205 u206 u207 u208 u209 u210 u211 u212 u213 u214 : Value}
    (hK : Hid (∀ (u : Value) (v19 v20 v21 v22 v41 v42 v43 v44 v45 v46 v47 v48 v49 v50 v51 v52 v53 v54 v55 v56 v57 v58 v59 v60 v61 v62 v63 v64 v65 v66 v67 v68 v69 v70 v71 v72 v73 v74 v75 v76 v77 v78 v79 v80 v81 v82 v83 v84 v85 v86 v87 v88 v89 v90 v91 v92 v93 v94 v95 v96 v97 v98 v99 v100 v101 v102 v103 v104 v105 v106 v107 v108 v109 v110 v111 v112 v113 v114 v115 v116 v117 v118 v119 v120 v121 v122 v123 v124 v125 v126 v127 v128 v129 v130 v131 v132 v133 v134 v135 v136 v137 v138 v139 v140 v141 v142 v143 v144 v145 v146 v147 v148 v149 v150 v151 v152 v153 v154 v155 v156 v157 v158 v159 v160 v161 v162 v163 v164 v165 v166 v167 v168 v169 v170 v171 v172 v173 v174 v175 v176 v177 v178 : Value) (w' : World), Psw G n t ins ds w gs i (.slice aW i cW) LW u w' → K' ⟨#[u0, .int .i64 (n : Int), .int .i64 (t : Int), .slice ai q ca, .slice ad d cd, u5, u6, u7, u8, u9, u10, u11, .slice (some ⟨gs, 0, none⟩) n n, .slice aW i cW, .int .i64 (((dwn G n t (i + 1) : Nat) : Int)), .int .i64 (((ci G (i + 1) : Nat) : Int)), u16, .pointer (some ⟨gb, 0, none⟩), u, v19, v20, v21, v22, u23, u24, u25, u26, u27, u28, u29, u30, u31, u32, u33, u34, u35, u36, u37, u38, u39, .int .i64 k, v41, v42, v43, v44, v45, v46, v47, v48, v49, v50, v51, v52, v53, v54, v55, v56, v57, v58, v59, v60, v61, v62, v63, v64, v65, v66, v67, v68, v69, v70, v71, v72, v73, v74, v75, v76, v77, v78, v79, v80, v81, v82, v83, v84, v85, v86, v87, v88, v89, v90, v91, v92, v93, v94, v95, v96, v97, v98, v99, v100, v101, v102, v103, v104, v105, v106, v107, v108, v109, v110, v111, v112, v113, v114, v115, v116, v117, v118, v119, v120, v121, v122, v123, v124, v125, v126, v127, v128, v129, v130, v131, v132, v133, v134, v135, v136, v137, v138, v139, v140, v141, v142, v143, v144, v145, v146, v147, v148, v149, v150, v151, v152, v153, v154, v155, v156, v157, v158, v159, v160, v161, v162, v163, v164, v165, v166, v167, v168, v169, v170, v171, v172, v173, v174, v175, v176, v177, v178, u179, u180, u181, u182, u183, u184, u185, u186, u187, u188, u189, u190, u191, u192, u193, u194, u195, u196, u197, u198, u199, u200, u201, u202, u203, u204, u205, u206, u207, u208, u209, u210, u211, u212, u213, u214], []⟩ w')) :
    Code.wp Tryd.prog ((Tryd.f12.body.bind (pickB 2)).getD .skip) (Exit.then K' (Exit.inBlock 1 (Exit.then K1 (Exit.then K2 (Exit.inBlock 0 (Exit.then K3 (bodyPost Tryd.prog Tryd.f12 R))))))) ⟨#[u0, .int .i64 (n : Int), .int .i64 (t : Int), .slice ai q ca, .slice ad d cd, u5, u6, u7, u8, u9, u10, u11, .slice (some ⟨gs, 0, none⟩) n n, .slice aW i cW, .int .i64 (D : Int), .int .i64 (C : Int), u16, .pointer (some ⟨gb, 0, none⟩), .slice none 0 0, u19, u20, u21, u22, u23, u24, u25, u26, u27, u28, u29, u30, u31, u32, u33, u34, u35, u36, u37, u38, u39, .int .i64 k, u41, u42, u43, u44, u45, u46, u47, u48, u49, u50, u51, u52, u53, u54, u55, u56, u57, u58, u59, u60, u61, u62, u63, u64, u65, u66, u67, u68, u69, u70, u71, u72, u73, u74, u75, u76, u77, u78, u79, u80, u81, u82, u83, u84, u85, u86, u87, u88, u89, u90, u91, u92, u93, u94, u95, u96, u97, u98, u99, u100, u101, u102, u103, u104, u105, u106, u107, u108, u109, u110, u111, u112, u113, u114, u115, u116, u117, u118, u119, u120, u121, u122, u123, u124, u125, u126, u127, u128, u129, u130, u131, u132, u133, u134, u135, u136, u137, u138, u139, u140, u141, u142, u143, u144, u145, u146, u147, u148, u149, u150, u151, u152, u153, u154, u155, u156, u157, u158, u159, u160, u161, u162, u163, u164, u165, u166, u167, u168, u169, u170, u171, u172, u173, u174, u175, u176, u177, u178, u179, u180, u181, u182, u183, u184, u185, u186, u187, u188, u189, u190, u191, u192, u193, u194, u195, u196, u197, u198, u199, u200, u201, u202, u203, u204, u205, u206, u207, u208, u209, u210, u211, u212, u213, u214], []⟩ W := by

  rcases hok with ⟨e, h1, h2, h3⟩ | ⟨e, h1, h2⟩ | ⟨e, h1, h2⟩ | ⟨e, h1, h2, h3⟩
  · obtain rfl : k = 1 := e
    have eD : ((dwn G n t (i + 1) : Nat) : Int) = (D : Int) + (t : Int) := by rw [dwn, HD.out, if_pos (by rw [HGi.out])]; push_cast; rfl
    have eC : ((ci G (i + 1) : Nat) : Int) = (C : Int) + 1 := by rw [ci_in (by rw [HGi.out]), HC.out]; push_cast; rfl
    rw [eD, eC] at hK
    exact plInput hS ih dh q2 q3 q4 hgb HGi hz hn hn9 HD HC hiN hN HDN HCN hK
  · obtain rfl : k = 2 := e
    have eD : ((dwn G n t (i + 1) : Nat) : Int) = (D : Int) := by rw [dwn, HD.out, if_neg (by rw [HGi.out]; simp), if_neg (by rw [HGi.out]; simp)]; rfl
    have eC : ((ci G (i + 1) : Nat) : Int) = (C : Int) := by rw [ci_no (by rw [HGi.out]; simp), HC.out]
    rw [eD, eC] at hK
    exact plConst hS ih dh q2 q3 q4 hgb HGi hz hn hn9 HD HC hiN hN HDN HCN hK
  · obtain rfl : k = 6 := e
    have eD : ((dwn G n t (i + 1) : Nat) : Int) = (D : Int) := by rw [dwn, HD.out, if_neg (by rw [HGi.out]; simp), if_neg (by rw [HGi.out]; simp)]; rfl
    have eC : ((ci G (i + 1) : Nat) : Int) = (C : Int) := by rw [ci_no (by rw [HGi.out]; simp), HC.out]
    rw [eD, eC] at hK
    exact plScale hS ih dh q2 q3 q4 hgb HGi hz hn hn9 HD HC hiN hN HDN HCN h1 hK
  · rcases e with e | e | e
    · obtain rfl : k = 3 := e
      have eD : ((dwn G n t (i + 1) : Nat) : Int) = (D : Int) := by rw [dwn, HD.out, if_neg (by rw [HGi.out]; simp), if_neg (by rw [HGi.out]; simp)]; rfl
      have eC : ((ci G (i + 1) : Nat) : Int) = (C : Int) := by rw [ci_no (by rw [HGi.out]; simp), HC.out]
      rw [eD, eC] at hK
      exact plAdd hS ih dh q2 q3 q4 hgb HGi hz hn hn9 HD HC hiN hN HDN HCN h1 h2 hK
    · obtain rfl : k = 4 := e
      have eD : ((dwn G n t (i + 1) : Nat) : Int) = (D : Int) := by rw [dwn, HD.out, if_neg (by rw [HGi.out]; simp), if_neg (by rw [HGi.out]; simp)]; rfl
      have eC : ((ci G (i + 1) : Nat) : Int) = (C : Int) := by rw [ci_no (by rw [HGi.out]; simp), HC.out]
      rw [eD, eC] at hK
      exact plSub hS ih dh q2 q3 q4 hgb HGi hz hn hn9 HD HC hiN hN HDN HCN h1 h2 hK
    · obtain rfl : k = 5 := e
      obtain ⟨M, HM⟩ : ∃ M, Hid (n * t = M) := ⟨_, rfl⟩
      have eD : ((dwn G n t (i + 1) : Nat) : Int) = (D : Int) + (M : Int) := by rw [dwn, HD.out, if_neg (by rw [HGi.out]; simp), if_pos (by rw [HGi.out]), HM.out]; push_cast; rfl
      have eC : ((ci G (i + 1) : Nat) : Int) = (C : Int) := by rw [ci_no (by rw [HGi.out]; simp), HC.out]
      rw [eD, eC] at hK
      exact plMul hS ih dh q2 q3 q4 hgb HGi hz hn hn9 HD HC hiN hN HDN HCN HM h1 h2 hK
end
end Go.Proofs.YtljlioglpaogdacDoor
