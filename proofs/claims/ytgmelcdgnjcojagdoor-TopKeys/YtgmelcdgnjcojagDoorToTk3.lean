/- crofttop.TopKeys' switch: a call of kind 1. · crofttop.TopKeys' switch: a call of kind 2. · crofttop.TopKeys' switch: a call of kind 3. -/
import Derived.Test.YtgmelcdgnjcojagDoorToTk0
namespace Go.Proofs.YtgmelcdgnjcojagDoor
open Go.RowKit Crm

set_option linter.unusedVariables false in
set_option maxRecDepth 100000 in
set_option maxHeartbeats 20000000 in
theorem tkWay1 {w wA : World} {pk bm gc j q cd n t : Nat} {s : Kt} {gv : Int → Option Int}  {g x u v : Int} {ad : Option Addr} {ds : List Int}
    (qGen : KcGen) (qRefresh : KcRefresh) (qTweak : KcTweak) (qCombine : KcCombine) (qMultiply : KcMultiply) (qDrop : KcDrop)
    (hT : Tkb w pk bm s s.cnt gv gc (clo 1 g x u v ad q cd) wA) (HVL : Hid (Kvl s gv)) (hrW : Rd w ad q cd ds) (hw0 : Kwf s) (HN : Hid (s.n = n)) (HT : Hid (s.t = t)) (ht4 : t ≤ 4) (hn9 : n ≤ 9) (hnt : 2 * t + 1 ≤ n) (hg : -9223372036854775808 ≤ g ∧ g ≤ 9223372036854775807) (hx : -9223372036854775808 ≤ x ∧ x ≤ 9223372036854775807) (hu : 0 ≤ u ∧ u ≤ 18446744073709551615) (hv : 0 ≤ v ∧ v ≤ 18446744073709551615) (hl6 : s.last ≤ 1000000) (hlj : s.last ≤ j)
    {K' : Act → World → Prop} {Q : Exit → Act → World → Prop} {u2 u3 u4 u5 u6 u8 u10 u12 u13 u14 u15 u16 u17 u18 u19 u20 u21 u22 u23 u24 u25 u26 u27 u28 u29 u30 u31 u32 u33 u34 u35 u36 u37 u38 u39 u40 u41 u42 u43 u44 u45 u46 u47 u48 u49 u50 u51 u52 u53 u55 u56 u57 u58 u59 u60 u61 u62 u63 u64 u65 u66 u67 u68 u69 u70 u71 u72 u73 u74 u75 u76 u77 u78 u79 u80 u81 u82 u83 u84 u85 u86 u87 u88 u89 u90 u91 u92 u93 u94 u95 u96 u97 u98 u99 u100 u101 u102 u103 u104 u105 u106 u107 u108 u109 u110 u111 u112 u113 u114 u115 u116 u117 u118 u119 u120 u121 u122 u123 u124 u125 u126 u127 u128 u129 u130 u131 u132 u133 u134 u135 u136 u137 u138 u139 u140 u141 u142 u143 u144 u145 u146 u147 u148 u149 u150 u151 u152 u153 u154 u155 u156 u157 u158 u159 u160 u161 u162 u163 u164 u165 u166 u167 u168 u169 u170 u171 u172 u173 u174 u175 u176 u177 u178 u179 u180 u181 u182 u183 u184 u185 u186 u187 u188 u189 u190 u191 u192 u193 u194 u195 u196 u197 u198 u199 u200 u201 u202 u203 u204 u205 u206 u207 u208 u209 u210 u211 u212 u213 u214 u215 u216 u217 u218 u219 u220 : Value}
    (hK : Hid (∀ (v12 v13 v14 v15 v16 v17 v18 v19 v20 v21 v22 v55 v56 v57 v58 v59 v60 v61 v62 v63 v64 v65 v66 v67 v68 v69 v70 v71 v72 v73 v74 v75 v76 v77 v78 v79 v80 v81 v82 v83 v84 v85 v86 v87 v88 v89 v90 v91 v92 v93 v94 v95 v96 v97 v98 v99 v100 v101 v102 v103 v104 v105 v106 v107 v108 v109 v110 v111 v112 v113 v114 v115 v116 v117 v118 v119 v120 v121 v122 v123 v124 v125 v126 v127 v128 v129 v130 v131 v132 v133 v134 v135 v136 v137 v138 v139 v140 v141 v142 v143 v144 v145 v146 v147 v148 v149 v150 v151 v152 v153 v154 v155 v156 v157 v158 v159 v160 v161 v162 v163 v164 v165 v166 v167 v168 v169 v170 v171 v172 v173 v174 v175 v176 v177 v178 v179 v180 v181 v182 v183 v184 v185 v186 v187 v188 v189 v190 v191 v192 v193 v194 v195 v196 : Value) (w' : World), Tpw w pk bm j n t w' → K' ⟨#[.int .i64 (t : Int), .int .i64 (n : Int), u2, u3, u4, u5, u6, .pointer (some ⟨pk, 0, none⟩), u8, .map (some bm), u10, .pointer (some ⟨gc, 0, none⟩), v12, v13, v14, v15, v16, v17, v18, v19, v20, v21, v22, u23, u24, u25, u26, u27, u28, u29, u30, u31, u32, u33, u34, u35, u36, u37, u38, u39, u40, u41, u42, u43, u44, u45, u46, u47, u48, u49, u50, u51, u52, u53, .int .i64 1, v55, v56, v57, v58, v59, v60, v61, v62, v63, v64, v65, v66, v67, v68, v69, v70, v71, v72, v73, v74, v75, v76, v77, v78, v79, v80, v81, v82, v83, v84, v85, v86, v87, v88, v89, v90, v91, v92, v93, v94, v95, v96, v97, v98, v99, v100, v101, v102, v103, v104, v105, v106, v107, v108, v109, v110, v111, v112, v113, v114, v115, v116, v117, v118, v119, v120, v121, v122, v123, v124, v125, v126, v127, v128, v129, v130, v131, v132, v133, v134, v135, v136, v137, v138, v139, v140, v141, v142, v143, v144, v145, v146, v147, v148, v149, v150, v151, v152, v153, v154, v155, v156, v157, v158, v159, v160, v161, v162, v163, v164, v165, v166, v167, v168, v169, v170, v171, v172, v173, v174, v175, v176, v177, v178, v179, v180, v181, v182, v183, v184, v185, v186, v187, v188, v189, v190, v191, v192, v193, v194, v195, v196, u197, u198, u199, u200, u201, u202, u203, u204, u205, u206, u207, u208, u209, u210, u211, u212, u213, u214, u215, u216, u217, u218, u219, u220], []⟩ w')) :
    Code.wp Tryd.prog SWt (Exit.then K' Q) ⟨#[.int .i64 (t : Int), .int .i64 (n : Int), u2, u3, u4, u5, u6, .pointer (some ⟨pk, 0, none⟩), u8, .map (some bm), u10, .pointer (some ⟨gc, 0, none⟩), u12, u13, u14, u15, u16, u17, u18, u19, u20, u21, u22, u23, u24, u25, u26, u27, u28, u29, u30, u31, u32, u33, u34, u35, u36, u37, u38, u39, u40, u41, u42, u43, u44, u45, u46, u47, u48, u49, u50, u51, u52, u53, .int .i64 1, u55, u56, u57, u58, u59, u60, u61, u62, u63, u64, u65, u66, u67, u68, u69, u70, u71, u72, u73, u74, u75, u76, u77, u78, u79, u80, u81, u82, u83, u84, u85, u86, u87, u88, u89, u90, u91, u92, u93, u94, u95, u96, u97, u98, u99, u100, u101, u102, u103, u104, u105, u106, u107, u108, u109, u110, u111, u112, u113, u114, u115, u116, u117, u118, u119, u120, u121, u122, u123, u124, u125, u126, u127, u128, u129, u130, u131, u132, u133, u134, u135, u136, u137, u138, u139, u140, u141, u142, u143, u144, u145, u146, u147, u148, u149, u150, u151, u152, u153, u154, u155, u156, u157, u158, u159, u160, u161, u162, u163, u164, u165, u166, u167, u168, u169, u170, u171, u172, u173, u174, u175, u176, u177, u178, u179, u180, u181, u182, u183, u184, u185, u186, u187, u188, u189, u190, u191, u192, u193, u194, u195, u196, u197, u198, u199, u200, u201, u202, u203, u204, u205, u206, u207, u208, u209, u210, u211, u212, u213, u214, u215, u216, u217, u218, u219, u220], []⟩ wA := by
  obtain ⟨d0, d1, d2, d3, d4, d5, hgl⟩ := clo_cells hT.box
  have hrA : Rd wA ad q cd ds := hrW.below hT.bel
  conv => arg 2; whnf
  obtain ⟨M, HM⟩ : ∃ M, Hid (n * t = M) := ⟨_, rfl⟩
  have hMI : (n : Int) * (t : Int) = (M : Int) := by rw [← HM.out]; push_cast; rfl
  have hM45 : M ≤ 36 := by rw [← HM.out]; exact Nat.mul_le_mul hn9 ht4
  have HL : Hid ((padded ds M).length = s.n * s.t) := by unfold Hid; rw [padded_len, HN.out, HT.out, HM.out]
  have hTD := hT.same (Below.refl _ _).drew
  have hrD : Rd wA.drew ad q cd ds := hrA.drew
  have hwM : IntKind.i64.wrap ((M : Int)) = (M : Int) := by rw [IntKind.wrap_i64]; omega
  obtain ⟨s', r', HE, HV', HW', HE2⟩ : ∃ s' r', Hid (krfr s x (padded ds M) = (r', s')) ∧ Hid (Kvl s' gv) ∧ Hid (Kwf s') ∧ (s'.cnt = s.cnt ∧ s'.n = s.n ∧ s'.t = s.t ∧ s'.last = s.last) := by
    have hw := krfr_wf x (padded ds M) hw0
    cases hf : s.f x with
    | none =>
      have e : krfr s x (padded ds M) = (4, s) := by unfold krfr; rw [hf]
      exact ⟨s, 4, e, HVL.out, hw0, rfl, rfl, rfl, rfl⟩
    | some l =>
      have e : krfr s x (padded ds M) = (0, ktrn s x (mxl l (ksm s.n s.t false (padded ds M) s.n) 1 1 0 s.n)) := by unfold krfr; rw [hf]; simp only; rw [if_pos HL.out]
      rw [e] at hw
      obtain ⟨c, hgc, _⟩ := HVL.out.some hf
      exact ⟨_, 0, e, ktrn_vl HVL.out hf (fun hv => hv.fresh) hgc, hw.1, rfl, rfl, rfl, rfl⟩
  have HEN : Hid (s'.n = n ∧ s'.t = t ∧ s'.last ≤ j + 1 ∧ s'.cnt = s.cnt) := ⟨HE2.2.1.trans HN.out, HE2.2.2.1.trans HT.out, by rw [HE2.2.2.2]; omega, HE2.1⟩
  clear HE2
  go_wp2
  go_region_held3 (fun w' => w'.cell? ⟨gc, 2, none⟩ = some (.int .i64 x) ∧ w'.cell? ⟨gc, 5, none⟩ = some (.slice ad q cd)) (go_keep) (first | (go_at_call 29; refine (tFilled _ _ _ _ M _ hrD (by omega)).mono ?_; rintro e w2 ⟨g2, rfl, hr2, hb2⟩; have hT2 := hTD.same hb2; obtain ⟨e0, e1, e2, e3, e4, e5, hgl2⟩ := clo_cells hT2.box) | (go_at_call 46; refine (hT2.kt (fun G hG => qRefresh pk G s x _ _ _ _ _ hG hx hr2)).mono ?_; rintro e w3 ⟨rfl, hT3⟩; rw [HE.out] at hT3 ⊢; obtain ⟨g0, g1, g2', g3, g4, g5, hgl3⟩ := clo_cells hT3.box))
  all_goals
    go_wp2
    exact hK.out _ _ _ _ _ _ _ _ _ _ _ _ _ _ _ _ _ _ _ _ _ _ _ _ _ _ _ _ _ _ _ _ _ _ _ _ _ _ _ _ _ _ _ _ _ _ _ _ _ _ _ _ _ _ _ _ _ _ _ _ _ _ _ _ _ _ _ _ _ _ _ _ _ _ _ _ _ _ _ _ _ _ _ _ _ _ _ _ _ _ _ _ _ _ _ _ _ _ _ _ _ _ _ _ _ _ _ _ _ _ _ _ _ _ _ _ _ _ _ _ _ _ _ _ _ _ _ _ _ _ _ _ _ _ _ _ _ _ _ _ _ _ _ _ _ _ _ _ _ _ _ _ _ _ (hT3.told HV'.out HW'.out HEN.out.2.2.2.symm HEN.out.1 HEN.out.2.1 HEN.out.2.2.1)

end Go.Proofs.YtgmelcdgnjcojagDoor

namespace Go.Proofs.YtgmelcdgnjcojagDoor
open Go.RowKit Crm

set_option linter.unusedVariables false in
set_option maxRecDepth 100000 in
set_option maxHeartbeats 20000000 in
theorem tkWay2 {w wA : World} {pk bm gc j q cd n t : Nat} {s : Kt} {gv : Int → Option Int}  {g x u v : Int} {ad : Option Addr} {ds : List Int}
    (qGen : KcGen) (qRefresh : KcRefresh) (qTweak : KcTweak) (qCombine : KcCombine) (qMultiply : KcMultiply) (qDrop : KcDrop)
    (hT : Tkb w pk bm s s.cnt gv gc (clo 2 g x u v ad q cd) wA) (HVL : Hid (Kvl s gv)) (hrW : Rd w ad q cd ds) (hw0 : Kwf s) (HN : Hid (s.n = n)) (HT : Hid (s.t = t)) (ht4 : t ≤ 4) (hn9 : n ≤ 9) (hnt : 2 * t + 1 ≤ n) (hg : -9223372036854775808 ≤ g ∧ g ≤ 9223372036854775807) (hx : -9223372036854775808 ≤ x ∧ x ≤ 9223372036854775807) (hu : 0 ≤ u ∧ u ≤ 18446744073709551615) (hv : 0 ≤ v ∧ v ≤ 18446744073709551615) (hl6 : s.last ≤ 1000000) (hlj : s.last ≤ j)
    {K' : Act → World → Prop} {Q : Exit → Act → World → Prop} {u2 u3 u4 u5 u6 u8 u10 u12 u13 u14 u15 u16 u17 u18 u19 u20 u21 u22 u23 u24 u25 u26 u27 u28 u29 u30 u31 u32 u33 u34 u35 u36 u37 u38 u39 u40 u41 u42 u43 u44 u45 u46 u47 u48 u49 u50 u51 u52 u53 u55 u56 u57 u58 u59 u60 u61 u62 u63 u64 u65 u66 u67 u68 u69 u70 u71 u72 u73 u74 u75 u76 u77 u78 u79 u80 u81 u82 u83 u84 u85 u86 u87 u88 u89 u90 u91 u92 u93 u94 u95 u96 u97 u98 u99 u100 u101 u102 u103 u104 u105 u106 u107 u108 u109 u110 u111 u112 u113 u114 u115 u116 u117 u118 u119 u120 u121 u122 u123 u124 u125 u126 u127 u128 u129 u130 u131 u132 u133 u134 u135 u136 u137 u138 u139 u140 u141 u142 u143 u144 u145 u146 u147 u148 u149 u150 u151 u152 u153 u154 u155 u156 u157 u158 u159 u160 u161 u162 u163 u164 u165 u166 u167 u168 u169 u170 u171 u172 u173 u174 u175 u176 u177 u178 u179 u180 u181 u182 u183 u184 u185 u186 u187 u188 u189 u190 u191 u192 u193 u194 u195 u196 u197 u198 u199 u200 u201 u202 u203 u204 u205 u206 u207 u208 u209 u210 u211 u212 u213 u214 u215 u216 u217 u218 u219 u220 : Value}
    (hK : Hid (∀ (v12 v13 v14 v15 v16 v17 v18 v19 v20 v21 v22 v55 v56 v57 v58 v59 v60 v61 v62 v63 v64 v65 v66 v67 v68 v69 v70 v71 v72 v73 v74 v75 v76 v77 v78 v79 v80 v81 v82 v83 v84 v85 v86 v87 v88 v89 v90 v91 v92 v93 v94 v95 v96 v97 v98 v99 v100 v101 v102 v103 v104 v105 v106 v107 v108 v109 v110 v111 v112 v113 v114 v115 v116 v117 v118 v119 v120 v121 v122 v123 v124 v125 v126 v127 v128 v129 v130 v131 v132 v133 v134 v135 v136 v137 v138 v139 v140 v141 v142 v143 v144 v145 v146 v147 v148 v149 v150 v151 v152 v153 v154 v155 v156 v157 v158 v159 v160 v161 v162 v163 v164 v165 v166 v167 v168 v169 v170 v171 v172 v173 v174 v175 v176 v177 v178 v179 v180 v181 v182 v183 v184 v185 v186 v187 v188 v189 v190 v191 v192 v193 v194 v195 v196 : Value) (w' : World), Tpw w pk bm j n t w' → K' ⟨#[.int .i64 (t : Int), .int .i64 (n : Int), u2, u3, u4, u5, u6, .pointer (some ⟨pk, 0, none⟩), u8, .map (some bm), u10, .pointer (some ⟨gc, 0, none⟩), v12, v13, v14, v15, v16, v17, v18, v19, v20, v21, v22, u23, u24, u25, u26, u27, u28, u29, u30, u31, u32, u33, u34, u35, u36, u37, u38, u39, u40, u41, u42, u43, u44, u45, u46, u47, u48, u49, u50, u51, u52, u53, .int .i64 2, v55, v56, v57, v58, v59, v60, v61, v62, v63, v64, v65, v66, v67, v68, v69, v70, v71, v72, v73, v74, v75, v76, v77, v78, v79, v80, v81, v82, v83, v84, v85, v86, v87, v88, v89, v90, v91, v92, v93, v94, v95, v96, v97, v98, v99, v100, v101, v102, v103, v104, v105, v106, v107, v108, v109, v110, v111, v112, v113, v114, v115, v116, v117, v118, v119, v120, v121, v122, v123, v124, v125, v126, v127, v128, v129, v130, v131, v132, v133, v134, v135, v136, v137, v138, v139, v140, v141, v142, v143, v144, v145, v146, v147, v148, v149, v150, v151, v152, v153, v154, v155, v156, v157, v158, v159, v160, v161, v162, v163, v164, v165, v166, v167, v168, v169, v170, v171, v172, v173, v174, v175, v176, v177, v178, v179, v180, v181, v182, v183, v184, v185, v186, v187, v188, v189, v190, v191, v192, v193, v194, v195, v196, u197, u198, u199, u200, u201, u202, u203, u204, u205, u206, u207, u208, u209, u210, u211, u212, u213, u214, u215, u216, u217, u218, u219, u220], []⟩ w')) :
    Code.wp Tryd.prog SWt (Exit.then K' Q) ⟨#[.int .i64 (t : Int), .int .i64 (n : Int), u2, u3, u4, u5, u6, .pointer (some ⟨pk, 0, none⟩), u8, .map (some bm), u10, .pointer (some ⟨gc, 0, none⟩), u12, u13, u14, u15, u16, u17, u18, u19, u20, u21, u22, u23, u24, u25, u26, u27, u28, u29, u30, u31, u32, u33, u34, u35, u36, u37, u38, u39, u40, u41, u42, u43, u44, u45, u46, u47, u48, u49, u50, u51, u52, u53, .int .i64 2, u55, u56, u57, u58, u59, u60, u61, u62, u63, u64, u65, u66, u67, u68, u69, u70, u71, u72, u73, u74, u75, u76, u77, u78, u79, u80, u81, u82, u83, u84, u85, u86, u87, u88, u89, u90, u91, u92, u93, u94, u95, u96, u97, u98, u99, u100, u101, u102, u103, u104, u105, u106, u107, u108, u109, u110, u111, u112, u113, u114, u115, u116, u117, u118, u119, u120, u121, u122, u123, u124, u125, u126, u127, u128, u129, u130, u131, u132, u133, u134, u135, u136, u137, u138, u139, u140, u141, u142, u143, u144, u145, u146, u147, u148, u149, u150, u151, u152, u153, u154, u155, u156, u157, u158, u159, u160, u161, u162, u163, u164, u165, u166, u167, u168, u169, u170, u171, u172, u173, u174, u175, u176, u177, u178, u179, u180, u181, u182, u183, u184, u185, u186, u187, u188, u189, u190, u191, u192, u193, u194, u195, u196, u197, u198, u199, u200, u201, u202, u203, u204, u205, u206, u207, u208, u209, u210, u211, u212, u213, u214, u215, u216, u217, u218, u219, u220], []⟩ wA := by
  obtain ⟨d0, d1, d2, d3, d4, d5, hgl⟩ := clo_cells hT.box
  have hrA : Rd wA ad q cd ds := hrW.below hT.bel
  conv => arg 2; whnf
  cases hf : s.f x with
  | none =>
    have HE : Hid (kmix s x x 1 0 u = (0, 4, s)) := by unfold Hid kmix; rw [hf]
    clear hf
    go_wp2_with (go_at_call 47; refine (hT.k (fun G hG => qTweak pk G s x u _ hG hx hu.1 hu.2 hl6)).mono ?_; rintro e w2 ⟨rfl, hT2⟩; rw [HE.out] at hT2 ⊢)
    exact hK.out _ _ _ _ _ _ _ _ _ _ _ _ _ _ _ _ _ _ _ _ _ _ _ _ _ _ _ _ _ _ _ _ _ _ _ _ _ _ _ _ _ _ _ _ _ _ _ _ _ _ _ _ _ _ _ _ _ _ _ _ _ _ _ _ _ _ _ _ _ _ _ _ _ _ _ _ _ _ _ _ _ _ _ _ _ _ _ _ _ _ _ _ _ _ _ _ _ _ _ _ _ _ _ _ _ _ _ _ _ _ _ _ _ _ _ _ _ _ _ _ _ _ _ _ _ _ _ _ _ _ _ _ _ _ _ _ _ _ _ _ _ _ _ _ _ _ _ _ _ _ _ _ _ _ (hT2.told HVL.out hw0 rfl HN.out HT.out (by omega))
  | some l =>
    obtain ⟨c, hgc, hks⟩ := HVL.out.some hf
    have HGC : Hid (gv x = some c) := hgc
    have hcb := hks.val
    rcases kadd_cases s (mxl l l 1 0 u s.n) with ⟨_, e⟩ | ⟨h8, e⟩
    · have HE : Hid (kmix s x x 1 0 u = (0, 2, s)) := by unfold Hid kmix; rw [hf]; exact e
      clear hf e hks hgc
      go_wp2_with (go_at_call 47; refine (hT.k (fun G hG => qTweak pk G s x u _ hG hx hu.1 hu.2 hl6)).mono ?_; rintro e w2 ⟨rfl, hT2⟩; rw [HE.out] at hT2 ⊢)
      exact hK.out _ _ _ _ _ _ _ _ _ _ _ _ _ _ _ _ _ _ _ _ _ _ _ _ _ _ _ _ _ _ _ _ _ _ _ _ _ _ _ _ _ _ _ _ _ _ _ _ _ _ _ _ _ _ _ _ _ _ _ _ _ _ _ _ _ _ _ _ _ _ _ _ _ _ _ _ _ _ _ _ _ _ _ _ _ _ _ _ _ _ _ _ _ _ _ _ _ _ _ _ _ _ _ _ _ _ _ _ _ _ _ _ _ _ _ _ _ _ _ _ _ _ _ _ _ _ _ _ _ _ _ _ _ _ _ _ _ _ _ _ _ _ _ _ _ _ _ _ _ _ _ _ _ _ (hT2.told HVL.out hw0 rfl HN.out HT.out (by omega))
    · have HE : Hid (kmix s x x 1 0 u = ((s.last : Int) + 1, 0, kput s (mxl l l 1 0 u s.n))) := by unfold Hid kmix; rw [hf]; exact e
      have hks2 := hks.mix 1 0 u hks
      have HV2 : Hid (Ksh s.n s.t (mxl l l 1 0 u s.n) (nm (c + u))) := by
        unfold Hid
        rw [Int.one_mul, Int.zero_mul, Int.add_zero] at hks2
        exact hks2
      have HW2 : Hid (Kwf (kput s (mxl l l 1 0 u s.n))) := kput_wf hw0 h8 (mxl_len _ _ _ _ _ _) (mxl_bd _ _ _ _ _ _)
      have HNL : Hid (gv ((s.last : Int) + 1) = none) := HVL.out.fresh hw0
      have HGX : Hid ((gv x).getD 0 = c) := by unfold Hid; rw [HGC.out]; rfl
      have hnb := nm_bd (c + u)
      have hL1 : i64r ((s.last : Int) + 1) := ⟨by omega, by omega⟩
      have hc1000 : s.cnt ≤ 1000 := by omega
      clear hf e hks hks2 hgc
      go_wp2_with (first | (go_at_call 47; refine (hT.k (fun G hG => qTweak pk G s x u _ hG hx hu.1 hu.2 hl6)).mono ?_; rintro e w2 ⟨rfl, hT2⟩; rw [HE.out] at hT2 ⊢; obtain ⟨e0, e1, e2, e3, e4, e5, hgl2⟩ := clo_cells hT2.box) | (at_lookup; refine wpList_lookU _ rfl _ _ 86 rfl Tryd.underlying86 bm _ gv rfl hT2.map x rfl hx ?_; rw [HGX.out]) | (go_at_call 45; refine (fAdd c u _ (by omega) (by omega) hu.1 hu.2).mono ?_; rintro e w4 ⟨rfl, hw⟩; have hw := hw.symm; subst hw) | (at_mapUpdate; refine wpList_putU _ rfl _ _ _ 86 rfl Tryd.underlying86 bm _ gv rfl hT2.map hc1000 ((s.last : Int) + 1) (nm (c + u)) rfl rfl hL1 (by omega) ?_; intro w3 hM3 hg3; rw [HNL.out] at hM3; have hT3 := hT2.put hM3 hg3))
      exact hK.out _ _ _ _ _ _ _ _ _ _ _ _ _ _ _ _ _ _ _ _ _ _ _ _ _ _ _ _ _ _ _ _ _ _ _ _ _ _ _ _ _ _ _ _ _ _ _ _ _ _ _ _ _ _ _ _ _ _ _ _ _ _ _ _ _ _ _ _ _ _ _ _ _ _ _ _ _ _ _ _ _ _ _ _ _ _ _ _ _ _ _ _ _ _ _ _ _ _ _ _ _ _ _ _ _ _ _ _ _ _ _ _ _ _ _ _ _ _ _ _ _ _ _ _ _ _ _ _ _ _ _ _ _ _ _ _ _ _ _ _ _ _ _ _ _ _ _ _ _ _ _ _ _ _ (hT3.told (kput_vl HVL.out HV2.out) HW2.out rfl HN.out HT.out (by show s.last + 1 ≤ j + 1; omega))

end Go.Proofs.YtgmelcdgnjcojagDoor

namespace Go.Proofs.YtgmelcdgnjcojagDoor
open Go.RowKit Crm

set_option linter.unusedVariables false in
set_option maxRecDepth 100000 in
set_option maxHeartbeats 20000000 in
theorem tkWay3 {w wA : World} {pk bm gc j q cd n t : Nat} {s : Kt} {gv : Int → Option Int}  {g x u v : Int} {ad : Option Addr} {ds : List Int}
    (qGen : KcGen) (qRefresh : KcRefresh) (qTweak : KcTweak) (qCombine : KcCombine) (qMultiply : KcMultiply) (qDrop : KcDrop)
    (hT : Tkb w pk bm s s.cnt gv gc (clo 3 g x u v ad q cd) wA) (HVL : Hid (Kvl s gv)) (hrW : Rd w ad q cd ds) (hw0 : Kwf s) (HN : Hid (s.n = n)) (HT : Hid (s.t = t)) (ht4 : t ≤ 4) (hn9 : n ≤ 9) (hnt : 2 * t + 1 ≤ n) (hg : -9223372036854775808 ≤ g ∧ g ≤ 9223372036854775807) (hx : -9223372036854775808 ≤ x ∧ x ≤ 9223372036854775807) (hu : 0 ≤ u ∧ u ≤ 18446744073709551615) (hv : 0 ≤ v ∧ v ≤ 18446744073709551615) (hl6 : s.last ≤ 1000000) (hlj : s.last ≤ j)
    {K' : Act → World → Prop} {Q : Exit → Act → World → Prop} {u2 u3 u4 u5 u6 u8 u10 u12 u13 u14 u15 u16 u17 u18 u19 u20 u21 u22 u23 u24 u25 u26 u27 u28 u29 u30 u31 u32 u33 u34 u35 u36 u37 u38 u39 u40 u41 u42 u43 u44 u45 u46 u47 u48 u49 u50 u51 u52 u53 u55 u56 u57 u58 u59 u60 u61 u62 u63 u64 u65 u66 u67 u68 u69 u70 u71 u72 u73 u74 u75 u76 u77 u78 u79 u80 u81 u82 u83 u84 u85 u86 u87 u88 u89 u90 u91 u92 u93 u94 u95 u96 u97 u98 u99 u100 u101 u102 u103 u104 u105 u106 u107 u108 u109 u110 u111 u112 u113 u114 u115 u116 u117 u118 u119 u120 u121 u122 u123 u124 u125 u126 u127 u128 u129 u130 u131 u132 u133 u134 u135 u136 u137 u138 u139 u140 u141 u142 u143 u144 u145 u146 u147 u148 u149 u150 u151 u152 u153 u154 u155 u156 u157 u158 u159 u160 u161 u162 u163 u164 u165 u166 u167 u168 u169 u170 u171 u172 u173 u174 u175 u176 u177 u178 u179 u180 u181 u182 u183 u184 u185 u186 u187 u188 u189 u190 u191 u192 u193 u194 u195 u196 u197 u198 u199 u200 u201 u202 u203 u204 u205 u206 u207 u208 u209 u210 u211 u212 u213 u214 u215 u216 u217 u218 u219 u220 : Value}
    (hK : Hid (∀ (v12 v13 v14 v15 v16 v17 v18 v19 v20 v21 v22 v55 v56 v57 v58 v59 v60 v61 v62 v63 v64 v65 v66 v67 v68 v69 v70 v71 v72 v73 v74 v75 v76 v77 v78 v79 v80 v81 v82 v83 v84 v85 v86 v87 v88 v89 v90 v91 v92 v93 v94 v95 v96 v97 v98 v99 v100 v101 v102 v103 v104 v105 v106 v107 v108 v109 v110 v111 v112 v113 v114 v115 v116 v117 v118 v119 v120 v121 v122 v123 v124 v125 v126 v127 v128 v129 v130 v131 v132 v133 v134 v135 v136 v137 v138 v139 v140 v141 v142 v143 v144 v145 v146 v147 v148 v149 v150 v151 v152 v153 v154 v155 v156 v157 v158 v159 v160 v161 v162 v163 v164 v165 v166 v167 v168 v169 v170 v171 v172 v173 v174 v175 v176 v177 v178 v179 v180 v181 v182 v183 v184 v185 v186 v187 v188 v189 v190 v191 v192 v193 v194 v195 v196 : Value) (w' : World), Tpw w pk bm j n t w' → K' ⟨#[.int .i64 (t : Int), .int .i64 (n : Int), u2, u3, u4, u5, u6, .pointer (some ⟨pk, 0, none⟩), u8, .map (some bm), u10, .pointer (some ⟨gc, 0, none⟩), v12, v13, v14, v15, v16, v17, v18, v19, v20, v21, v22, u23, u24, u25, u26, u27, u28, u29, u30, u31, u32, u33, u34, u35, u36, u37, u38, u39, u40, u41, u42, u43, u44, u45, u46, u47, u48, u49, u50, u51, u52, u53, .int .i64 3, v55, v56, v57, v58, v59, v60, v61, v62, v63, v64, v65, v66, v67, v68, v69, v70, v71, v72, v73, v74, v75, v76, v77, v78, v79, v80, v81, v82, v83, v84, v85, v86, v87, v88, v89, v90, v91, v92, v93, v94, v95, v96, v97, v98, v99, v100, v101, v102, v103, v104, v105, v106, v107, v108, v109, v110, v111, v112, v113, v114, v115, v116, v117, v118, v119, v120, v121, v122, v123, v124, v125, v126, v127, v128, v129, v130, v131, v132, v133, v134, v135, v136, v137, v138, v139, v140, v141, v142, v143, v144, v145, v146, v147, v148, v149, v150, v151, v152, v153, v154, v155, v156, v157, v158, v159, v160, v161, v162, v163, v164, v165, v166, v167, v168, v169, v170, v171, v172, v173, v174, v175, v176, v177, v178, v179, v180, v181, v182, v183, v184, v185, v186, v187, v188, v189, v190, v191, v192, v193, v194, v195, v196, u197, u198, u199, u200, u201, u202, u203, u204, u205, u206, u207, u208, u209, u210, u211, u212, u213, u214, u215, u216, u217, u218, u219, u220], []⟩ w')) :
    Code.wp Tryd.prog SWt (Exit.then K' Q) ⟨#[.int .i64 (t : Int), .int .i64 (n : Int), u2, u3, u4, u5, u6, .pointer (some ⟨pk, 0, none⟩), u8, .map (some bm), u10, .pointer (some ⟨gc, 0, none⟩), u12, u13, u14, u15, u16, u17, u18, u19, u20, u21, u22, u23, u24, u25, u26, u27, u28, u29, u30, u31, u32, u33, u34, u35, u36, u37, u38, u39, u40, u41, u42, u43, u44, u45, u46, u47, u48, u49, u50, u51, u52, u53, .int .i64 3, u55, u56, u57, u58, u59, u60, u61, u62, u63, u64, u65, u66, u67, u68, u69, u70, u71, u72, u73, u74, u75, u76, u77, u78, u79, u80, u81, u82, u83, u84, u85, u86, u87, u88, u89, u90, u91, u92, u93, u94, u95, u96, u97, u98, u99, u100, u101, u102, u103, u104, u105, u106, u107, u108, u109, u110, u111, u112, u113, u114, u115, u116, u117, u118, u119, u120, u121, u122, u123, u124, u125, u126, u127, u128, u129, u130, u131, u132, u133, u134, u135, u136, u137, u138, u139, u140, u141, u142, u143, u144, u145, u146, u147, u148, u149, u150, u151, u152, u153, u154, u155, u156, u157, u158, u159, u160, u161, u162, u163, u164, u165, u166, u167, u168, u169, u170, u171, u172, u173, u174, u175, u176, u177, u178, u179, u180, u181, u182, u183, u184, u185, u186, u187, u188, u189, u190, u191, u192, u193, u194, u195, u196, u197, u198, u199, u200, u201, u202, u203, u204, u205, u206, u207, u208, u209, u210, u211, u212, u213, u214, u215, u216, u217, u218, u219, u220], []⟩ wA := by
  obtain ⟨d0, d1, d2, d3, d4, d5, hgl⟩ := clo_cells hT.box
  have hrA : Rd wA ad q cd ds := hrW.below hT.bel
  conv => arg 2; whnf
  by_cases hno : s.f g = none ∨ s.f x = none
  · have HE : Hid (kmix s g x u v 0 = (0, 4, s)) := by
      unfold Hid kmix
      rcases hno with e | e
      · rw [e]
      · rw [e]; cases s.f g <;> rfl
    clear hno
    go_wp2_with (go_at_call 48; refine (hT.k (fun G hG => qCombine pk G s g x u v _ hG hg hx hu.1 hu.2 hv.1 hv.2 hl6)).mono ?_; rintro e w2 ⟨rfl, hT2⟩; rw [HE.out] at hT2 ⊢)
    exact hK.out _ _ _ _ _ _ _ _ _ _ _ _ _ _ _ _ _ _ _ _ _ _ _ _ _ _ _ _ _ _ _ _ _ _ _ _ _ _ _ _ _ _ _ _ _ _ _ _ _ _ _ _ _ _ _ _ _ _ _ _ _ _ _ _ _ _ _ _ _ _ _ _ _ _ _ _ _ _ _ _ _ _ _ _ _ _ _ _ _ _ _ _ _ _ _ _ _ _ _ _ _ _ _ _ _ _ _ _ _ _ _ _ _ _ _ _ _ _ _ _ _ _ _ _ _ _ _ _ _ _ _ _ _ _ _ _ _ _ _ _ _ _ _ _ _ _ _ _ _ _ _ _ _ _ (hT2.told HVL.out hw0 rfl HN.out HT.out (by omega))
  · obtain ⟨l, hfg⟩ : ∃ l, s.f g = some l := by cases e : s.f g with | none => exact absurd (.inl e) hno | some l => exact ⟨l, rfl⟩
    obtain ⟨m, hfx⟩ : ∃ m, s.f x = some m := by cases e : s.f x with | none => exact absurd (.inr e) hno | some l => exact ⟨l, rfl⟩
    clear hno
    obtain ⟨cg, hgg, hkg⟩ := HVL.out.some hfg
    obtain ⟨cx, hgx, hkx⟩ := HVL.out.some hfx
    have HGG : Hid ((gv g).getD 0 = cg) := by unfold Hid; rw [hgg]; rfl
    have HGX : Hid ((gv x).getD 0 = cx) := by unfold Hid; rw [hgx]; rfl
    have hcg := hkg.val
    have hcx := hkx.val
    rcases kadd_cases s (mxl l m u v 0 s.n) with ⟨_, e⟩ | ⟨h8, e⟩
    · have HE : Hid (kmix s g x u v 0 = (0, 2, s)) := by unfold Hid kmix; rw [hfg, hfx]; exact e
      clear hfg hfx e hkg hkx hgg hgx
      go_wp2_with (go_at_call 48; refine (hT.k (fun G hG => qCombine pk G s g x u v _ hG hg hx hu.1 hu.2 hv.1 hv.2 hl6)).mono ?_; rintro e w2 ⟨rfl, hT2⟩; rw [HE.out] at hT2 ⊢)
      exact hK.out _ _ _ _ _ _ _ _ _ _ _ _ _ _ _ _ _ _ _ _ _ _ _ _ _ _ _ _ _ _ _ _ _ _ _ _ _ _ _ _ _ _ _ _ _ _ _ _ _ _ _ _ _ _ _ _ _ _ _ _ _ _ _ _ _ _ _ _ _ _ _ _ _ _ _ _ _ _ _ _ _ _ _ _ _ _ _ _ _ _ _ _ _ _ _ _ _ _ _ _ _ _ _ _ _ _ _ _ _ _ _ _ _ _ _ _ _ _ _ _ _ _ _ _ _ _ _ _ _ _ _ _ _ _ _ _ _ _ _ _ _ _ _ _ _ _ _ _ _ _ _ _ _ _ (hT2.told HVL.out hw0 rfl HN.out HT.out (by omega))
    · have HE : Hid (kmix s g x u v 0 = ((s.last : Int) + 1, 0, kput s (mxl l m u v 0 s.n))) := by unfold Hid kmix; rw [hfg, hfx]; exact e
      have HNE : Hid (g ≠ (s.last : Int) + 1 ∧ x ≠ (s.last : Int) + 1) := ⟨by have := (hw0.key g l hfg).1; omega, by have := (hw0.key x m hfx).1; omega⟩
      have HV2 : Hid (Ksh s.n s.t (mxl l m u v 0 s.n) (nm (nm (u * cg) + nm (v * cx)))) := by
        have := hkg.mix u v 0 hkx
        unfold Hid
        rw [nm_addl, nm_addr]
        rw [Int.add_zero] at this
        exact this
      have HW2 : Hid (Kwf (kput s (mxl l m u v 0 s.n))) := kput_wf hw0 h8 (mxl_len _ _ _ _ _ _) (mxl_bd _ _ _ _ _ _)
      have HNL : Hid (gv ((s.last : Int) + 1) = none) := HVL.out.fresh hw0
      have hL1 : i64r ((s.last : Int) + 1) := ⟨by omega, by omega⟩
      have hc1000 : s.cnt ≤ 1000 := by omega
      have hm1 := nm_bd (u * cg)
      have hm2 := nm_bd (v * cx)
      have hm3 := nm_bd (nm (u * cg) + nm (v * cx))
      clear hfg hfx e hkg hkx hgg hgx
      go_upto_region 34 with (go_at_call 48; refine (hT.k (fun G hG => qCombine pk G s g x u v _ hG hg hx hu.1 hu.2 hv.1 hv.2 hl6)).mono ?_; rintro e w2 ⟨rfl, hT2⟩; rw [HE.out] at hT2 ⊢; obtain ⟨e0, e1, e2, e3, e4, e5, hgl2⟩ := clo_cells hT2.box)
      have hTD := hT2.same (Below.refl _ _).drew
      have hlg := hTD.map.look Tryd.underlying86 (k := g) hg
      have hlx := hTD.map.look Tryd.underlying86 (k := x) hx
      rw [HGG.out] at hlg
      rw [HGX.out] at hlx
      obtain ⟨w5, hrun, hM5, hg5⟩ := hTD.map.store (t := 86) Tryd.underlying86 hc1000 (k := (s.last : Int) + 1) (v := nm (nm (u * cg) + nm (v * cx))) hL1 (by omega)
      rw [HNL.out] at hM5
      have hT5 := hTD.put hM5 hg5
      have HT5 : Hid (Tkb _ _ _ _ _ _ _ _ _) := hT5
      obtain ⟨p0, p1, p2, p3, p4, p5, hgl5⟩ := clo_cells hT5.box
      have hlg5 := hT5.map.look Tryd.underlying86 (k := g) hg
      have hlx5 := hT5.map.look Tryd.underlying86 (k := x) hx
      rw [show (uset gv ((s.last : Int) + 1) (some (nm (nm (u * cg) + nm (v * cx)))) g).getD 0 = cg by unfold uset; rw [if_neg HNE.out.1]; exact HGG.out] at hlg5
      rw [show (uset gv ((s.last : Int) + 1) (some (nm (nm (u * cg) + nm (v * cx)))) x).getD 0 = cx by unfold uset; rw [if_neg HNE.out.2]; exact HGX.out] at hlx5
      obtain ⟨q0, q1, q2, q3, q4, q5, hglD⟩ := clo_cells hTD.box
      clear hM5 hg5 hT5
      go_region_held3 (fun w' => w'.cell? ⟨gc, 1, none⟩ = some (.int .i64 g) ∧ w'.cell? ⟨gc, 2, none⟩ = some (.int .i64 x) ∧ w'.cell? ⟨gc, 3, none⟩ = some (.int .u64 u) ∧ w'.cell? ⟨gc, 4, none⟩ = some (.int .u64 v) ∧ (Instr.lookup 86 (.map (some bm)) (.int .i64 g) false).run Tryd.prog w' = .ok (.int .u64 cg) w' ∧ (Instr.lookup 86 (.map (some bm)) (.int .i64 x) false).run Tryd.prog w' = .ok (.int .u64 cx) w') (go_keep) (first | (go_at_call_of 49 (Value.int .u64 u); refine (fMul u cg _ hu.1 hu.2 (by omega) (by omega)).mono ?_; rintro e w' ⟨rfl, hw⟩; have hw := hw.symm; subst hw) | (go_at_call_of 49 (Value.int .u64 v); refine (fMul v cx _ hv.1 hv.2 (by omega) (by omega)).mono ?_; rintro e w' ⟨rfl, hw⟩; have hw := hw.symm; subst hw) | (go_at_call 45; refine (fAdd (nm (u * cg)) (nm (v * cx)) _ (by omega) (by omega) (by omega) (by omega)).mono ?_; rintro e w' ⟨rfl, hw⟩; have hw := hw.symm; subst hw))
      all_goals
        go_wp2
        exact hK.out _ _ _ _ _ _ _ _ _ _ _ _ _ _ _ _ _ _ _ _ _ _ _ _ _ _ _ _ _ _ _ _ _ _ _ _ _ _ _ _ _ _ _ _ _ _ _ _ _ _ _ _ _ _ _ _ _ _ _ _ _ _ _ _ _ _ _ _ _ _ _ _ _ _ _ _ _ _ _ _ _ _ _ _ _ _ _ _ _ _ _ _ _ _ _ _ _ _ _ _ _ _ _ _ _ _ _ _ _ _ _ _ _ _ _ _ _ _ _ _ _ _ _ _ _ _ _ _ _ _ _ _ _ _ _ _ _ _ _ _ _ _ _ _ _ _ _ _ _ _ _ _ _ _ (HT5.out.told (kput_vl HVL.out HV2.out) HW2.out rfl HN.out HT.out (by show s.last + 1 ≤ j + 1; omega))

end Go.Proofs.YtgmelcdgnjcojagDoor
