/- croftlaw.KeysPlay's switch, whole. · croftlaw.KeysPlay: the walk. · croftlaw.KeysPlay: the walk, package keys' contracts paid. -/
import Derived.Test.YtljlioglpaogdacToKp5
import Derived.Test.YtljlioglpaogdacToShortC
import Derived.Test.YtljlioglpaogdacToWireC
import Derived.Test.YtljlioglpaogdacToKyG
import Derived.Test.YtljlioglpaogdacToKyO
namespace Go.Proofs.Ytljlioglpaogdac
set_option linter.unusedVariables false
set_option maxRecDepth 100000
set_option maxHeartbeats 8000000
section
open Crm Go.RowKit
theorem kpElse {w wA : World} {pk ps gc j q cd : Nat} {s : Kt} {k : Int} {g x u v : Int} {ad : Option Addr} {ds : List Int}
    (qGen : KcGen) (qRefresh : KcRefresh) (qTweak : KcTweak) (qCombine : KcCombine) (qMultiply : KcMultiply) (qDrop : KcDrop)
    (hJ1 : Jnt w pk ps s s gc (clo k g x u v ad q cd) wA) (hrW : Rd w ad q cd ds) (hw0 : Kwf s) (HVD : Hid (Kvd s)) (hg : -9223372036854775808 ≤ g ∧ g ≤ 9223372036854775807) (hx : -9223372036854775808 ≤ x ∧ x ≤ 9223372036854775807) (hu : 0 ≤ u ∧ u ≤ 18446744073709551615) (hv : 0 ≤ v ∧ v ≤ 18446744073709551615) (hl6 : s.last ≤ 1000000) (hlj : s.last ≤ j) (k0' : ¬ k = 0) (k1' : ¬ k = 1) (k2' : ¬ k = 2) (k3' : ¬ k = 3) (k4' : ¬ k = 4) (k5' : ¬ k = 5)
    {K' : Act → World → Prop} {Q : Exit → Act → World → Prop} {u0 u1 u2 u3 u4 u5 u6 u8 u9 u11 u17 u18 u19 u20 u21 u22 u23 u24 u25 u26 u27 u28 u29 u30 u31 u32 u33 u34 u35 u36 u37 u38 u39 u40 u41 u42 u43 u44 u45 u46 u47 u48 u49 u50 u51 u52 u53 u54 u55 u56 u57 u58 u59 u60 u61 u62 u63 u64 u65 u66 u67 u68 u69 u70 u71 u73 u74 u75 u76 u77 u78 u79 u80 u81 u82 u83 u84 u85 u86 u87 u88 u89 u90 u91 u92 u93 u94 u95 u96 u97 u98 u99 u100 u101 u102 u103 u104 u105 u106 u107 u108 u109 u110 u111 u112 u113 u114 u115 u116 u117 u118 u119 u120 u121 u122 u123 u124 u125 u126 u127 u128 u129 u130 u131 u132 u133 u134 u135 u136 u137 u138 u139 u140 u141 u142 u143 u144 u145 u146 u147 u148 u149 u150 u151 u152 u153 u154 u155 u156 u157 u158 u159 u160 u161 u162 u163 u164 u165 u166 u167 u168 u169 u170 u171 u172 u173 u174 u175 u176 u177 u178 u179 u180 u181 u182 u183 u184 u185 u186 u187 u188 u189 u190 u191 u192 u193 u194 u195 u196 u197 u198 u199 u200 u201 u202 u203 u204 u205 u206 u207 u208 u209 u210 u211 u212 u213 u214 u215 u216 u217 u218 u219 u220 u221 u222 u223 u224 u225 u226 u227 u228 u229 u230 u231 u232 u233 u234 u235 u236 u237 u238 u239 u240 u241 u242 u243 u244 u245 u246 : Value}
    (hK : Hid (∀ (s13 s14 s15 s16 v73 v74 v75 v76 v77 v78 v79 v80 v81 v82 v83 v84 v85 v86 v87 v88 v89 v90 v91 v92 v93 v94 v95 v96 v97 v98 v99 v100 v101 v102 v103 v104 v105 v106 v107 v108 v109 v110 v111 v112 v113 v114 v115 v116 v117 v118 v119 v120 v121 v122 v123 v124 v125 v126 v127 v128 v129 v130 v131 v132 v133 v134 v135 v136 v137 v138 v139 v140 v141 v142 v143 v144 v145 v146 v147 v148 v149 v150 v151 v152 v153 v154 v155 v156 v157 v158 v159 v160 v161 v162 v163 v164 v165 v166 v167 v168 v169 v170 v171 v172 v173 v174 v175 v176 v177 v178 v179 v180 v181 v182 v183 v184 v185 v186 : Value) (w' : World), Kpw w pk ps j s13 s14 s15 s16 w' → K' ⟨#[u0, u1, u2, u3, u4, u5, u6, .pointer (some ⟨pk, 0, none⟩), u8, u9, .pointer (some ⟨ps, 0, none⟩), u11, .pointer (some ⟨gc, 0, none⟩), s13, s14, s15, s16, u17, u18, u19, u20, u21, u22, u23, u24, u25, u26, u27, u28, u29, u30, u31, u32, u33, u34, u35, u36, u37, u38, u39, u40, u41, u42, u43, u44, u45, u46, u47, u48, u49, u50, u51, u52, u53, u54, u55, u56, u57, u58, u59, u60, u61, u62, u63, u64, u65, u66, u67, u68, u69, u70, u71, .int .i64 k, v73, v74, v75, v76, v77, v78, v79, v80, v81, v82, v83, v84, v85, v86, v87, v88, v89, v90, v91, v92, v93, v94, v95, v96, v97, v98, v99, v100, v101, v102, v103, v104, v105, v106, v107, v108, v109, v110, v111, v112, v113, v114, v115, v116, v117, v118, v119, v120, v121, v122, v123, v124, v125, v126, v127, v128, v129, v130, v131, v132, v133, v134, v135, v136, v137, v138, v139, v140, v141, v142, v143, v144, v145, v146, v147, v148, v149, v150, v151, v152, v153, v154, v155, v156, v157, v158, v159, v160, v161, v162, v163, v164, v165, v166, v167, v168, v169, v170, v171, v172, v173, v174, v175, v176, v177, v178, v179, v180, v181, v182, v183, v184, v185, v186, u187, u188, u189, u190, u191, u192, u193, u194, u195, u196, u197, u198, u199, u200, u201, u202, u203, u204, u205, u206, u207, u208, u209, u210, u211, u212, u213, u214, u215, u216, u217, u218, u219, u220, u221, u222, u223, u224, u225, u226, u227, u228, u229, u230, u231, u232, u233, u234, u235, u236, u237, u238, u239, u240, u241, u242, u243, u244, u245, u246], []⟩ w')) :
    Code.wp Try.prog ((Try.f4.body.bind pickB2).getD .skip) (Exit.then K' Q) ⟨#[u0, u1, u2, u3, u4, u5, u6, .pointer (some ⟨pk, 0, none⟩), u8, u9, .pointer (some ⟨ps, 0, none⟩), u11, .pointer (some ⟨gc, 0, none⟩), .int .i64 0, .int .i64 0, .int .i64 0, .int .i64 0, u17, u18, u19, u20, u21, u22, u23, u24, u25, u26, u27, u28, u29, u30, u31, u32, u33, u34, u35, u36, u37, u38, u39, u40, u41, u42, u43, u44, u45, u46, u47, u48, u49, u50, u51, u52, u53, u54, u55, u56, u57, u58, u59, u60, u61, u62, u63, u64, u65, u66, u67, u68, u69, u70, u71, .int .i64 k, u73, u74, u75, u76, u77, u78, u79, u80, u81, u82, u83, u84, u85, u86, u87, u88, u89, u90, u91, u92, u93, u94, u95, u96, u97, u98, u99, u100, u101, u102, u103, u104, u105, u106, u107, u108, u109, u110, u111, u112, u113, u114, u115, u116, u117, u118, u119, u120, u121, u122, u123, u124, u125, u126, u127, u128, u129, u130, u131, u132, u133, u134, u135, u136, u137, u138, u139, u140, u141, u142, u143, u144, u145, u146, u147, u148, u149, u150, u151, u152, u153, u154, u155, u156, u157, u158, u159, u160, u161, u162, u163, u164, u165, u166, u167, u168, u169, u170, u171, u172, u173, u174, u175, u176, u177, u178, u179, u180, u181, u182, u183, u184, u185, u186, u187, u188, u189, u190, u191, u192, u193, u194, u195, u196, u197, u198, u199, u200, u201, u202, u203, u204, u205, u206, u207, u208, u209, u210, u211, u212, u213, u214, u215, u216, u217, u218, u219, u220, u221, u222, u223, u224, u225, u226, u227, u228, u229, u230, u231, u232, u233, u234, u235, u236, u237, u238, u239, u240, u241, u242, u243, u244, u245, u246], []⟩ wA := by
  obtain ⟨d0, d1, d2, d3, d4, d5, hgl⟩ := clo_cells hJ1.box
  have hrA : Rd wA ad q cd ds := hrW.below hJ1.bel
  have hJD : Jnt w pk ps s s gc (clo k g x u v ad q cd) wA.drew := hJ1.same (Below.refl _ _).drew
  have hrD : Rd wA.drew ad q cd ds := hrA.drew
  have HLG : Hid (∀ q : Kt, q.last ≤ s.last + 1 → q.last ≤ j + 1) := fun q hq => by omega
  have HLE : Hid (∀ q : Kt, q.last = s.last → q.last ≤ j + 1) := fun q hq => by omega
  conv => arg 2; whnf
  have f0 : (k == 0) = false := by simp [k0']
  have f1 : (k == 1) = false := by simp [k1']
  have f2 : (k == 2) = false := by simp [k2']
  have f3 : (k == 3) = false := by simp [k3']
  have f4 : (k == 4) = false := by simp [k4']
  have f5 : (k == 5) = false := by simp [k5']
  go_wp2
  exact hK.out _ _ _ _ _ _ _ _ _ _ _ _ _ _ _ _ _ _ _ _ _ _ _ _ _ _ _ _ _ _ _ _ _ _ _ _ _ _ _ _ _ _ _ _ _ _ _ _ _ _ _ _ _ _ _ _ _ _ _ _ _ _ _ _ _ _ _ _ _ _ _ _ _ _ _ _ _ _ _ _ _ _ _ _ _ _ _ _ _ _ _ _ _ _ _ _ _ _ _ _ _ _ _ _ _ _ _ _ _ _ _ _ _ _ _ _ _ _ _ ⟨0, 0, s, rfl, rfl, rfl, rfl, hJ1.off, by omega, HVD.out⟩

theorem kpAll {w wA : World} {pk ps gc j q cd : Nat} {s : Kt} {k : Int} {g x u v : Int} {ad : Option Addr} {ds : List Int}
    (qGen : KcGen) (qRefresh : KcRefresh) (qTweak : KcTweak) (qCombine : KcCombine) (qMultiply : KcMultiply) (qDrop : KcDrop)
    (hJ1 : Jnt w pk ps s s gc (clo k g x u v ad q cd) wA) (hrW : Rd w ad q cd ds) (hw0 : Kwf s) (HVD : Hid (Kvd s)) (hg : -9223372036854775808 ≤ g ∧ g ≤ 9223372036854775807) (hx : -9223372036854775808 ≤ x ∧ x ≤ 9223372036854775807) (hu : 0 ≤ u ∧ u ≤ 18446744073709551615) (hv : 0 ≤ v ∧ v ≤ 18446744073709551615) (hl6 : s.last ≤ 1000000) (hlj : s.last ≤ j)
    {K' : Act → World → Prop} {Q : Exit → Act → World → Prop} {u0 u1 u2 u3 u4 u5 u6 u8 u9 u11 u17 u18 u19 u20 u21 u22 u23 u24 u25 u26 u27 u28 u29 u30 u31 u32 u33 u34 u35 u36 u37 u38 u39 u40 u41 u42 u43 u44 u45 u46 u47 u48 u49 u50 u51 u52 u53 u54 u55 u56 u57 u58 u59 u60 u61 u62 u63 u64 u65 u66 u67 u68 u69 u70 u71 u73 u74 u75 u76 u77 u78 u79 u80 u81 u82 u83 u84 u85 u86 u87 u88 u89 u90 u91 u92 u93 u94 u95 u96 u97 u98 u99 u100 u101 u102 u103 u104 u105 u106 u107 u108 u109 u110 u111 u112 u113 u114 u115 u116 u117 u118 u119 u120 u121 u122 u123 u124 u125 u126 u127 u128 u129 u130 u131 u132 u133 u134 u135 u136 u137 u138 u139 u140 u141 u142 u143 u144 u145 u146 u147 u148 u149 u150 u151 u152 u153 u154 u155 u156 u157 u158 u159 u160 u161 u162 u163 u164 u165 u166 u167 u168 u169 u170 u171 u172 u173 u174 u175 u176 u177 u178 u179 u180 u181 u182 u183 u184 u185 u186 u187 u188 u189 u190 u191 u192 u193 u194 u195 u196 u197 u198 u199 u200 u201 u202 u203 u204 u205 u206 u207 u208 u209 u210 u211 u212 u213 u214 u215 u216 u217 u218 u219 u220 u221 u222 u223 u224 u225 u226 u227 u228 u229 u230 u231 u232 u233 u234 u235 u236 u237 u238 u239 u240 u241 u242 u243 u244 u245 u246 : Value}
    (hK : Hid (∀ (s13 s14 s15 s16 v73 v74 v75 v76 v77 v78 v79 v80 v81 v82 v83 v84 v85 v86 v87 v88 v89 v90 v91 v92 v93 v94 v95 v96 v97 v98 v99 v100 v101 v102 v103 v104 v105 v106 v107 v108 v109 v110 v111 v112 v113 v114 v115 v116 v117 v118 v119 v120 v121 v122 v123 v124 v125 v126 v127 v128 v129 v130 v131 v132 v133 v134 v135 v136 v137 v138 v139 v140 v141 v142 v143 v144 v145 v146 v147 v148 v149 v150 v151 v152 v153 v154 v155 v156 v157 v158 v159 v160 v161 v162 v163 v164 v165 v166 v167 v168 v169 v170 v171 v172 v173 v174 v175 v176 v177 v178 v179 v180 v181 v182 v183 v184 v185 v186 : Value) (w' : World), Kpw w pk ps j s13 s14 s15 s16 w' → K' ⟨#[u0, u1, u2, u3, u4, u5, u6, .pointer (some ⟨pk, 0, none⟩), u8, u9, .pointer (some ⟨ps, 0, none⟩), u11, .pointer (some ⟨gc, 0, none⟩), s13, s14, s15, s16, u17, u18, u19, u20, u21, u22, u23, u24, u25, u26, u27, u28, u29, u30, u31, u32, u33, u34, u35, u36, u37, u38, u39, u40, u41, u42, u43, u44, u45, u46, u47, u48, u49, u50, u51, u52, u53, u54, u55, u56, u57, u58, u59, u60, u61, u62, u63, u64, u65, u66, u67, u68, u69, u70, u71, .int .i64 k, v73, v74, v75, v76, v77, v78, v79, v80, v81, v82, v83, v84, v85, v86, v87, v88, v89, v90, v91, v92, v93, v94, v95, v96, v97, v98, v99, v100, v101, v102, v103, v104, v105, v106, v107, v108, v109, v110, v111, v112, v113, v114, v115, v116, v117, v118, v119, v120, v121, v122, v123, v124, v125, v126, v127, v128, v129, v130, v131, v132, v133, v134, v135, v136, v137, v138, v139, v140, v141, v142, v143, v144, v145, v146, v147, v148, v149, v150, v151, v152, v153, v154, v155, v156, v157, v158, v159, v160, v161, v162, v163, v164, v165, v166, v167, v168, v169, v170, v171, v172, v173, v174, v175, v176, v177, v178, v179, v180, v181, v182, v183, v184, v185, v186, u187, u188, u189, u190, u191, u192, u193, u194, u195, u196, u197, u198, u199, u200, u201, u202, u203, u204, u205, u206, u207, u208, u209, u210, u211, u212, u213, u214, u215, u216, u217, u218, u219, u220, u221, u222, u223, u224, u225, u226, u227, u228, u229, u230, u231, u232, u233, u234, u235, u236, u237, u238, u239, u240, u241, u242, u243, u244, u245, u246], []⟩ w')) :
    Code.wp Try.prog ((Try.f4.body.bind pickB2).getD .skip) (Exit.then K' Q) ⟨#[u0, u1, u2, u3, u4, u5, u6, .pointer (some ⟨pk, 0, none⟩), u8, u9, .pointer (some ⟨ps, 0, none⟩), u11, .pointer (some ⟨gc, 0, none⟩), .int .i64 0, .int .i64 0, .int .i64 0, .int .i64 0, u17, u18, u19, u20, u21, u22, u23, u24, u25, u26, u27, u28, u29, u30, u31, u32, u33, u34, u35, u36, u37, u38, u39, u40, u41, u42, u43, u44, u45, u46, u47, u48, u49, u50, u51, u52, u53, u54, u55, u56, u57, u58, u59, u60, u61, u62, u63, u64, u65, u66, u67, u68, u69, u70, u71, .int .i64 k, u73, u74, u75, u76, u77, u78, u79, u80, u81, u82, u83, u84, u85, u86, u87, u88, u89, u90, u91, u92, u93, u94, u95, u96, u97, u98, u99, u100, u101, u102, u103, u104, u105, u106, u107, u108, u109, u110, u111, u112, u113, u114, u115, u116, u117, u118, u119, u120, u121, u122, u123, u124, u125, u126, u127, u128, u129, u130, u131, u132, u133, u134, u135, u136, u137, u138, u139, u140, u141, u142, u143, u144, u145, u146, u147, u148, u149, u150, u151, u152, u153, u154, u155, u156, u157, u158, u159, u160, u161, u162, u163, u164, u165, u166, u167, u168, u169, u170, u171, u172, u173, u174, u175, u176, u177, u178, u179, u180, u181, u182, u183, u184, u185, u186, u187, u188, u189, u190, u191, u192, u193, u194, u195, u196, u197, u198, u199, u200, u201, u202, u203, u204, u205, u206, u207, u208, u209, u210, u211, u212, u213, u214, u215, u216, u217, u218, u219, u220, u221, u222, u223, u224, u225, u226, u227, u228, u229, u230, u231, u232, u233, u234, u235, u236, u237, u238, u239, u240, u241, u242, u243, u244, u245, u246], []⟩ wA := by
  by_cases k0' : k = 0
  · subst k0'
    exact kpWay0 qGen qRefresh qTweak qCombine qMultiply qDrop hJ1 hrW hw0 HVD hg hx hu hv hl6 hlj hK
  by_cases k1' : k = 1
  · subst k1'
    exact kpWay1 qGen qRefresh qTweak qCombine qMultiply qDrop hJ1 hrW hw0 HVD hg hx hu hv hl6 hlj hK
  by_cases k2' : k = 2
  · subst k2'
    exact kpWay2 qGen qRefresh qTweak qCombine qMultiply qDrop hJ1 hrW hw0 HVD hg hx hu hv hl6 hlj hK
  by_cases k3' : k = 3
  · subst k3'
    exact kpWay3 qGen qRefresh qTweak qCombine qMultiply qDrop hJ1 hrW hw0 HVD hg hx hu hv hl6 hlj hK
  by_cases k4' : k = 4
  · subst k4'
    exact kpWay4 qGen qRefresh qTweak qCombine qMultiply qDrop hJ1 hrW hw0 HVD hg hx hu hv hl6 hlj hK
  by_cases k5' : k = 5
  · subst k5'
    exact kpWay5 qGen qRefresh qTweak qCombine qMultiply qDrop hJ1 hrW hw0 HVD hg hx hu hv hl6 hlj hK
  exact kpElse qGen qRefresh qTweak qCombine qMultiply qDrop hJ1 hrW hw0 HVD hg hx hu hv hl6 hlj k0' k1' k2' k3' k4' k5' hK
theorem keysPlayW (qNew : KcNew) (qGen : KcGen) (qRefresh : KcRefresh) (qTweak : KcTweak) (qCombine : KcCombine) (qMultiply : KcMultiply) (qOpen : KcOpen) (qShares : KcShares) (qDrop : KcDrop)
    (n t : Int) (al : Option Addr) (m cl : Nat) (L : List Cl) (w : World) (hn0 : -9223372036854775808 ≤ n) (hn1 : n ≤ 9223372036854775807) (ht0 : -9223372036854775808 ≤ t) (ht1 : t ≤ 9223372036854775807) (hl : RdC w al m cl L) :
    Calls Try.prog 4 #[.int .i64 n, .int .i64 t, .slice al m cl] w fun e w' => e = .returned (.bool true) ∧ Below w.heap.size w w' := by
  have hcap := hl.cap
  have hmax := hl.max
  unfold maxLen at hmax
  go_enter Try.func4, Try.ntmps4
  go_wp2_with fail
  refine (qNew n t _ ⟨hn0, hn1⟩ ⟨ht0, ht1⟩).mono ?_
  rintro e w1 ⟨⟨hbad, rfl⟩ | ⟨n', t', pk, Gk, rfl, rfl, ht4, hn9, hnt, rfl, hK, hGk⟩, hb1⟩
  · by_cases h1 : t < 0 ∨ 4 < t
    · clear hbad
      go_wp2_with (go_at_call_of 13 (Value.int .i64 t); refine (rInN t 0 4 _ h1).mono ?_; rintro e w2 ⟨rfl, hw⟩; have hw := hw.symm; subst hw)
      go_ret
      exact ⟨rfl, hb1⟩
    · by_cases h2 : n < 1 ∨ 9 < n
      · clear hbad
        go_wp2_with (first | (go_at_call_of 13 (Value.int .i64 n); refine (rInN n 1 9 _ h2).mono ?_; rintro e w2 ⟨rfl, hw⟩; have hw := hw.symm; subst hw) | (go_at_call_of 13 (Value.int .i64 t); refine (rInY t 0 4 _ (by omega) (by omega)).mono ?_; rintro e w2 ⟨rfl, hw⟩; have hw := hw.symm; subst hw))
        go_ret
        exact ⟨rfl, hb1⟩
      · have h3 : ¬ (2 * t + 1 ≤ n) := fun h => hbad ⟨by omega, by omega, h⟩
        clear hbad
        go_wp2_with (first | (go_at_call_of 13 (Value.int .i64 n); refine (rInY n 1 9 _ (by omega) (by omega)).mono ?_; rintro e w2 ⟨rfl, hw⟩; have hw := hw.symm; subst hw) | (go_at_call_of 13 (Value.int .i64 t); refine (rInY t 0 4 _ (by omega) (by omega)).mono ?_; rintro e w2 ⟨rfl, hw⟩; have hw := hw.symm; subst hw))
        go_ret
        exact ⟨rfl, hb1⟩
  · by_cases hm60 : 60 < m
    · go_wp2_with (first | (go_at_call_of 13 (Value.int .i64 (n' : Int)); refine (rInY (n' : Int) 1 9 _ (by omega) (by omega)).mono ?_; rintro e w2 ⟨rfl, hw⟩; have hw := hw.symm; subst hw) | (go_at_call_of 13 (Value.int .i64 (t' : Int)); refine (rInY (t' : Int) 0 4 _ (by omega) (by omega)).mono ?_; rintro e w2 ⟨rfl, hw⟩; have hw := hw.symm; subst hw))
      go_ret
      exact ⟨rfl, hb1⟩
    · go_wp2_with (first | (first | (go_at_call_of 13 (Value.int .i64 (n' : Int)); refine (rInY (n' : Int) 1 9 _ (by omega) (by omega)).mono ?_; rintro e w2 ⟨rfl, hw⟩; have hw := hw.symm; subst hw) | (go_at_call_of 13 (Value.int .i64 (t' : Int)); refine (rInY (t' : Int) 0 4 _ (by omega) (by omega)).mono ?_; rintro e w2 ⟨rfl, hw⟩; have hw := hw.symm; subst hw)) | (go_at_call 17; refine (rNewStore n' t' _ ht4 hn9 hnt).mono ?_; rintro e w2 ⟨ps, Gs, rfl, hSt, hGs, hb2⟩))
      have hJ : Jn0 w pk ps (k0 n' t') w2 := ⟨Gk, Gs, hK.same hb2, hSt, fun i g k => by have := hK.lt i g; have := hGs i k; omega, hGk, fun i g => Nat.le_trans hb1.size (hGs i g), hb1.trans (hb2.mono hb1.size)⟩
      clear hK hSt hGk hGs hb1 hb2
      go_loopg [67] m (fun gk q wr => ∃ (j : Nat) (s : Kt), gk = m - j ∧ j ≤ m ∧ q = .int .i64 j ∧ Jn0 w pk ps s wr ∧ s.last ≤ j ∧ Hid (Kvd s))
      case atStart => exact ⟨0, k0 n' t', rfl, Nat.zero_le _, rfl, hJ, Nat.zero_le _, k0_vd n' t'⟩
      case round =>
        clear hJ
        obtain ⟨j, s, rfl, hjm, rfl, hJ, hlast, HVD⟩ := hrel
        by_cases hlt : j < m
        · obtain ⟨b, o, k, g, x, u, v, ad, q, cd, ds, rfl, hbb, HC, hk, hg, hx, hu, hv, hrW, a0, a1, a2, a3, a4, a5⟩ := hl.one hlt
          have c0 := a0
          rw [← hJ.bel.cell (p := ⟨b, o + j * 6, none⟩) hbb] at c0
          have c1 := a1
          rw [← hJ.bel.cell (p := ⟨b, o + j * 6 + 1, none⟩) hbb] at c1
          have c2 := a2
          rw [← hJ.bel.cell (p := ⟨b, o + j * 6 + 2, none⟩) hbb] at c2
          have c3 := a3
          rw [← hJ.bel.cell (p := ⟨b, o + j * 6 + 3, none⟩) hbb] at c3
          have c4 := a4
          rw [← hJ.bel.cell (p := ⟨b, o + j * 6 + 4, none⟩) hbb] at c4
          have c5 := a5
          rw [← hJ.bel.cell (p := ⟨b, o + j * 6 + 5, none⟩) hbb] at c5
          clear a0 a1 a2 a3 a4 a5
          have hbb2 : b < wr.heap.size := Nat.lt_of_lt_of_le hbb hJ.bel.size
          have hJ1 : Jnt w pk ps s s wr.heap.size (clo k g x u v ad q cd) (wr.alloc (.cells #[.int .i64 k, .int .i64 g, .int .i64 x, .int .u64 u, .int .u64 v, .slice ad q cd] 44)) := hJ.on _
          have hw0 := hJ.wf
          go_upto_region 11 with fail
          generalize wr.alloc (.cells #[.int .i64 k, .int .i64 g, .int .i64 x, .int .u64 u, .int .u64 v, .slice ad q cd] 44) = wA at *
          obtain ⟨gc, HGC⟩ : ∃ gc, Hid (wr.heap.size = gc) := ⟨_, rfl⟩
          rw [HGC.out] at hJ1 ⊢
          clear c0 c1 c2 c3 c4 c5
          obtain ⟨d0, d1, d2, d3, d4, d5, hgl⟩ := clo_cells hJ1.box
          have hl6 : s.last ≤ 1000000 := by omega
          go_upto_block 2 with fail
          go_cut [13, 14, 15, 16] from 71 to 246 (fun s13 s14 s15 s16 wx => Kpw w pk ps j s13 s14 s15 s16 wx)
          case first =>
            refine kpAll qGen qRefresh qTweak qCombine qMultiply qDrop hJ1 hrW hw0 HVD hg hx hu hv hl6 hlast ?_
            unfold Hid
            intro s13 s14 s15 s16
            intros
            rename_i w' hsw
            dsimp only
            go_wp2
            go_meet
            case rel => exact hsw
          case rest =>
            obtain ⟨h, e, s', rfl, rfl, rfl, rfl, hJ', hls, hvd⟩ := hcut
            have HVD' : Hid (Kvd s') := hvd
            obtain ⟨wq, hwq⟩ : ∃ q, q = wc := ⟨_, rfl⟩
            subst hwq
            clear hvd hJ1 hJ d0 d1 d2 d3 d4 d5 hgl HVD hw0 hrW
            obtain ⟨b', V, hS⟩ := hJ'.sto
            obtain ⟨_, _, y2, _⟩ := hS.four
            have hpl := hS.lt
            have hhh : (h != h) = false := by simp
            have hee : (e != e) = false := by simp
            obtain ⟨La, HLa⟩ : ∃ La, Hid (s'.last = La) := ⟨_, rfl⟩
            rw [HLa.out] at y2 hls
            clear hS
            go_wp2
            go_loopw [200] (fun q wr => ∃ x : Nat, x ≤ La + 2 ∧ q = .int .i64 x ∧ Jn0 w pk ps s' wr) (fun q _ => La + 2 - (intOf q).toNat)
            case atStart => exact ⟨0, Nat.zero_le _, rfl, hJ'⟩
            case round =>
              clear hJ' y2 hpl
              obtain ⟨x, hxl, rfl, hJ⟩ := hrel
              by_cases hlx : x < La + 2
              · have hlti : (x : Int) < (La : Int) + 2 := by omega
                have hxr : i64r (x : Int) := ⟨by omega, by omega⟩
                have HXR : Hid (i64r (x : Int)) := hxr
                clear hxr
                go_wp2_with fail
                refine (hJ.kr (fun G hG => qOpen pk G s' x _ hG HXR.out)).mono ?_
                rintro e1 w1 ⟨y, r, rfl, hO1, hb1⟩
                have HO1 : Hid (Kop s' x y r) := hO1
                have hJa := hJ.same hb1
                clear hJ hb1 hO1
                go_wp2_with fail
                refine (hJa.sr (fun G hG => rOpenK ps G s' x _ hG HXR.out.1 HXR.out.2)).mono ?_
                rintro e2 w2 ⟨y', r', rfl, hO2, hb2⟩
                obtain ⟨rfl, rfl⟩ := HO1.out.one hO2
                have hJb := hJa.same hb2
                clear hJa hb2 hO2
                go_wp2_with fail
                refine (hJb.kr (fun G hG => qShares pk G s' x _ hG HXR.out)).mono ?_
                have hyy : (y != y) = false := by simp
                have hrr : (r != r) = false := by simp
                rintro e3 w3 ⟨⟨hf, rfl⟩ | ⟨l, v, hf, rfl, ho⟩, hb3⟩
                · obtain ⟨rfl, rfl⟩ := HO1.out.none hf
                  have hJc := hJb.same hb3
                  obtain ⟨b', V, hS⟩ := hJc.sto
                  obtain ⟨_, _, _, y3⟩ := hS.four
                  have hpl := hS.lt
                  have HV : Hid ((V x).getD (.slice none 0 0) = .slice none 0 0) := by
                    rcases hS.val x with e | ⟨l, _, _, e, _⟩
                    · unfold Hid; rw [e.2]; rfl
                    · rw [hf] at e; cases e
                  have hM := hS.map
                  have hlk := (hM.look Try.underlying53 (zeroL _) HXR.out).2
                  rw [HV.out] at hlk
                  clear hJb hb3 hS hf hM
                  go_wp2_with (go_at_call 12; refine (cSame _ _ _ _ _ _ _ _ (nil_rd _) (nil_rd _)).mono ?_; rintro e4 w4 ⟨rfl, hb4⟩; have hJd := hJc.same hb4)
                  go_roundw
                  case rel => exact ⟨x + 1, by omega, by go_num, hJd⟩
                  case measure => simp [intOf]; omega
                · obtain ⟨g, hvl⟩ := HVD'.out
                  obtain ⟨_, rfl⟩ := hvl.told hJb.wf hf HO1.out
                  have hJc := hJb.same hb3
                  obtain ⟨b', V, hS⟩ := hJc.sto
                  obtain ⟨_, _, _, y3⟩ := hS.four
                  have hpl := hS.lt
                  obtain ⟨a', c', hV, hr'⟩ := hS.slice hf
                  have HV : Hid ((V x).getD (.slice none 0 0) = .slice a' s'.n c') := by unfold Hid; rw [hV]; rfl
                  have hM := hS.map
                  obtain ⟨a2, c2, rfl, hr2, _⟩ := Rd.own ho (bd_u64 (hJb.wf.key x l hf).2.2)
                  have hlk := (hM.look Try.underlying53 (zeroL _) HXR.out).2
                  rw [HV.out] at hlk
                  clear hJb hb3 hS hf hV ho hvl hM
                  go_wp2_with (go_at_call 12; refine (cSame _ _ _ _ _ _ _ _ hr2 hr').mono ?_; rintro e4 w4 ⟨rfl, hb4⟩; have hJd := hJc.same hb4)
                  go_roundw
                  case rel => exact ⟨x + 1, by omega, by go_num, hJd⟩
                  case measure => simp [intOf]; omega
              · obtain rfl : x = La + 2 := by omega
                have hnl : ¬ (((La + 2 : Nat) : Int) < (La : Int) + 2) := by omega
                go_wp2
                go_roundg (m - (j + 1))
                case measure => omega
                case rel => exact ⟨j + 1, s', rfl, by omega, by go_num, hJ, by rw [HLa.out]; exact hls, HVD'⟩
        · obtain rfl : j = m := by omega
          have hbw := hJ.bel
          go_wp2
          go_ret
          exact ⟨rfl, hbw⟩
theorem keysPlayV (n t : Int) (al : Option Addr) (m cl : Nat) (L : List Cl) (w : World) (hn0 : -9223372036854775808 ≤ n) (hn1 : n ≤ 9223372036854775807) (ht0 : -9223372036854775808 ≤ t) (ht1 : t ≤ 9223372036854775807) (hl : RdC w al m cl L) :
    Calls Try.prog 4 #[.int .i64 n, .int .i64 t, .slice al m cl] w fun e w' => e = .returned (.bool true) ∧ Below w.heap.size w w' :=
  keysPlayW cNewK cGenK cRefreshK cTweakK cCombineK cMultiplyK cOpenK cSharesK cDropK n t al m cl L w hn0 hn1 ht0 ht1 hl
end
end Go.Proofs.Ytljlioglpaogdac
