/- (*croftref.Store).Refresh. · croftlaw.KeysPlay: the switch over a call, taken out of the translation; what it leaves. · croftlaw.KeysPlay's switch: a call of kind 0. -/
import Derived.Test.YtgmelcdgnjcojacToRStE
import Derived.Test.YtgmelcdgnjcojacToRStF
import Derived.Test.YtgmelcdgnjcojacToNewtonM
import Derived.Deep.DeepCutAuto
import Derived.Deep.RegionWith
import Derived.Deep.RegionHeld3
import Derived.Deep.CutBlock
import Derived.Deep.CutRange
namespace Go.Proofs.Ytgmelcdgnjcojac
open Go.RowKit Crm

/-- The map alone has turned: a key's numbers. -/
theorem stx_turn {TY : TypeId} {w w' : World} {p b : Nat} {G : Nat → Prop} {V : Int → Option Value} {s : Kt} {a : Option Addr} {c : Nat} {l m : List Int} {k : Int} (h : Sto TY w p b V s) (hF : ∀ i, Ftp p b V i → G i) (hGl : ∀ i, G i → i < w.heap.size) (hm0 : s.f k = some m) (hl : ∀ x ∈ l, 0 ≤ x ∧ x ≤ 2147483646) (r : Rd w a s.n c l) (hG : ∀ x, a = some x → G x.block)
    (hm : MapI w' b (if (V k).isSome then s.cnt else s.cnt + 1) (mset V k (some (.slice a s.n c)))) (hg : w.grownBy w' (some b)) (e : Ending) (he : e = .returned (.int .i64 0)) : Kte TY p G (0, ktrn s k l) w e w' := by
  have hk : ∀ i, i < w.heap.size → i ≠ b → w'.heap[i]? = w.heap[i]? := fun i hi hne => hg.block i hi (by simpa using hne)
  refine ⟨he, ⟨⟨b, _, h.turn hm0 hl r hm hk, fun i hi => .inl ?_⟩, Gnx.lt hGl hg.size⟩, ⟨hg.os, hg.tape, hg.output, hg.size, fun i hi hn => hk i hi (fun e => hn (hF _ (.inr (.inl e))))⟩⟩
  rcases hi with rfl | rfl | ⟨hh, a', m, c', e, rfl⟩
  · exact hF _ (.inl rfl)
  · exact hF _ (.inr (.inl rfl))
  · unfold mset at e
    split at e
    · simp only [Option.some.injEq, Value.slice.injEq] at e
      exact hG a' e.1
    · exact hF _ (.inr (.inr ⟨hh, a', m, c', e, rfl⟩))

set_option maxRecDepth 100000 in
set_option maxHeartbeats 4000000 in
theorem rRefresh (p : Nat) (G : Nat → Prop) (s : Kt) (x : Int) (ad : Option Addr) (q cd : Nat) (ds : List Int) (w : World) (h : Stx 55 w p G s) (hx : i64r x) (r : Rd w ad q cd ds) :
    Calls Try.prog 21 #[.pointer (some ⟨p, 0, none⟩), .int .i64 x, .slice ad q cd] w (Kte 55 p G (krfr s x ds) w) := by
  have hI := rdI_of1 w (x := x) hx
  have hb0 : Below w.heap.size w (w.alloc (.cells #[.int .i64 x] 3)) := (Below.refl _ _).alloc (Nat.le_refl _) _
  have h0 := h.same hb0
  have ht4 := h.wf.t4
  have hn9 := h.wf.n9
  have hnt := h.wf.nt
  have hc8 := h.wf.c8
  have hGl := h.2
  have hcap := r.cap
  have hmax := r.max
  have hlen := r.len
  unfold maxLen at hmax
  go_enter Try.func21, Try.ntmps21
  go_wp2_with fail
  generalize w.alloc (.cells #[.int .i64 x] 3) = w0 at *
  refine (rHas p G s _ _ _ _ _ h0 hI).mono ?_
  rintro e w1 ⟨rfl, hb1⟩
  rw [hsl_one]
  have hbw := hb0.trans (hb1.mono hb0.size)
  clear h0 hI hb0 hb1
  cases hf : s.f x with
  | none =>
    have HE : Hid (krfr s x ds = (4, s)) := by unfold Hid krfr; rw [hf]
    simp only [Option.isSome_none]
    clear hf
    go_wp2
    go_ret
    rw [HE.out]
    exact ⟨rfl, h.below hbw, Tch.of_below hbw⟩
  | some l =>
    simp only [Option.isSome_some]
    have h1 := h.same hbw
    have HF : Hid (s.f x = some l) := hf
    obtain ⟨⟨b, V, hS, _⟩, _⟩ := h1
    obtain ⟨c0, c1, c2, c3⟩ := hS.four
    have hpl := hS.lt
    clear hS hf
    obtain ⟨n, HN⟩ : ∃ n, Hid (s.n = n) := ⟨_, rfl⟩
    obtain ⟨t, HT⟩ : ∃ t, Hid (s.t = t) := ⟨_, rfl⟩
    rw [HN.out] at c0 hn9 hnt
    rw [HT.out] at c1 ht4 hnt
    obtain ⟨M, HM⟩ : ∃ M, Hid (n * t = M) := ⟨_, rfl⟩
    have hMI : (n : Int) * (t : Int) = (M : Int) := by rw [← HM.out]; push_cast; rfl
    have hM45 : M ≤ 36 := by rw [← HM.out]; exact Nat.mul_le_mul hn9 ht4
    have hw2 : IntKind.i64.wrap ((M : Int)) = (M : Int) := by rw [IntKind.wrap_i64]; omega
    have HMK : Hid (s.n * s.t = M) := by unfold Hid; rw [HN.out, HT.out, HM.out]
    by_cases hm : q = M
    · subst hm
      have HE : Hid (krfr s x ds = (0, ktrn s x (mxl l (ksm s.n s.t false ds s.n) 1 1 0 s.n))) := by unfold Hid krfr; rw [HF.out]; simp only; rw [if_pos (by rw [hlen, HMK.out])]
      have HK : Hid (q = kat s.t false s.n) := HMK.out.symm
      have hmm : ((q : Int) != (q : Int)) = false := by simp
      go_wp2
      go_quiet (fail)
      have hb2 : Below w1.heap.size w1 (w1.drewN nq) := drewN_below (Below.refl _ _) nq
      generalize w1.drewN nq = w2 at *
      have hbw2 := hbw.trans (hb2.mono hbw.size)
      have h2 := h.same hbw2
      have H2 : Hid (Stx 55 w2.drew p G s) := h2.same ((Below.refl _ _).drew)
      clear c0 c1 c2 c3 hpl hb2
      obtain ⟨⟨b, V, hS, hFt⟩, _⟩ := h2
      have HFt : Hid (∀ i, Ftp p b V i → G i) := hFt
      obtain ⟨ax, cx, hVx, hrx⟩ := hS.slice HF.out
      have HVx : Hid (V x = some (.slice ax s.n cx)) := hVx
      have HS : Hid (∀ w', Below w2.heap.size w2 w' → Sto 55 w' p b V s) := fun w' hb => hS.keep fun i hi => hb.block i (H2.out.2 i (hFt i hi))
      have hrd := (r.below hbw2).drew
      have hbd : Below w.heap.size w w2.drew := hbw2.drew
      have HRX : Hid (∀ w', Below w2.heap.size w2 w' → Rd w' ax s.n cx l) := fun w' hb => hrx.below hb
      have HAL : Hid (∀ w', Below w2.heap.size w2 w' → w'.cell? ⟨p, 3, none⟩ = some (.map (some b)) ∧ p < w'.heap.size ∧ (Instr.lookup 53 (.map (some b)) (.int .i64 x) false).run Try.prog w' = .ok (.slice ax s.n cx) w') := fun w' hb => ⟨(HS.out w' hb).four.2.2.2, (HS.out w' hb).lt, look_at (HS.out w' hb).map HVx.out hx⟩
      have hcur : Below w2.heap.size w2 w2.drew := (Below.refl _ _).drew
      obtain ⟨e3, e4, e5⟩ := HAL.out _ hcur
      obtain ⟨e3', e4', _⟩ := HAL.out _ (Below.refl _ _)
      have HNP : Hid (0 < s.n) := by unfold Hid; rw [HN.out]; omega
      have hn1000 : s.n ≤ 1000 := by rw [HN.out]; omega
      clear hS hVx hrx hFt
      go_wp2
      go_region_with (first | (go_at_call 49; refine (rSums p G s _ _ _ _ false _ H2.out hrd HK.out).mono ?_; rintro e w3 ⟨v3, rfl, ho3, hb3⟩; obtain ⟨a3, k3, rfl, hr3, hx3⟩ := Rd.own ho3 (bd_u64 (ksm_bd _ _ _ _ _)); have hcur := hcur.trans (hb3.mono hcur.size); obtain ⟨e6, e7, e8⟩ := HAL.out _ hcur; have hrx3 := HRX.out _ hcur) | (go_at_call 51; refine (rMixed _ _ _ _ _ _ _ 1 1 0 _ hrx3 hr3 hn1000 (by omega) (by omega) (by omega) (by omega) (by omega) (by omega)).mono ?_; rintro e w5 ⟨v5, rfl, ho5, hb5⟩; obtain ⟨a5, k5, rfl, hr5, hx5⟩ := Rd.own ho5 (bd_u64 (mxl_bd _ _ _ _ _ _)); have hcur5 := hcur.trans (hb5.mono hcur.size); obtain ⟨e9, e10, e11⟩ := HAL.out _ hcur5; obtain ⟨w6, hrun6, hM6, htn6⟩ := (HS.out _ hcur5).map.store (t := 53) Try.underlying53 (by omega) (k := x) hx (.slice a5 s.n k5)))
      all_goals
        have hb35 := hb3.trans (hb5.mono hb3.size)
        have HR : Hid (Kte 55 p G (krfr s x ds) w (.returned (.int .i64 0)) w6) := by
          unfold Hid
          rw [HE.out]
          refine Kte.after hbd (Kte.behind hb35 (stx_turn (HS.out _ hcur5) (fun i hi => .inl (HFt.out i hi)) (Gnx.lt H2.out.2 hb35.size) HF.out (mxl_bd _ _ _ _ _ _) hr5 ?_ hM6 htn6.grown _ rfl) H2.out.2) hGl
          exact gnx_new hr5 HNP.out (fun y hy => Nat.le_trans hb3.size (hx5 y hy))
        clear ho3 ho5 hr3 hr5 hx3 hx5 hM6 htn6
        go_wp2
        go_ret
        exact HR.out
    · have HE : Hid (krfr s x ds = (1, s)) := by unfold Hid krfr; rw [HF.out]; simp only; rw [if_neg (by rw [hlen, HMK.out]; exact hm)]
      have hmm : ((q : Int) != (M : Int)) = true := by rw [bne_iff_ne]; omega
      clear hm
      go_wp2
      go_quiet (fail)
      have hb2 : Below w1.heap.size w1 (w1.drewN nq) := drewN_below (Below.refl _ _) nq
      generalize w1.drewN nq = w2 at *
      have hbw2 := hbw.trans (hb2.mono hbw.size)
      clear c0 c1 c2 c3 hpl hb2
      go_wp2
      go_ret
      rw [HE.out]
      exact ⟨rfl, h.below hbw2, Tch.of_below hbw2⟩
end Go.Proofs.Ytgmelcdgnjcojac

namespace Go.Proofs.Ytgmelcdgnjcojac
open Go.RowKit Crm

/-- Behind the switch: both stores have made the same of the call. -/
def Kpw (w : World) (pk ps j : Nat) (s13 s14 s15 s16 : Value) (wx : World) : Prop :=
  ∃ (h e : Int) (s : Kt), s13 = .int .i64 h ∧ s14 = .int .i64 h ∧ s15 = .int .i64 e ∧ s16 = .int .i64 e ∧ Jn0 w pk ps s wx ∧ s.last ≤ j + 1 ∧ Kvd s
/-- The variable that a round makes for a call. -/
def clo (k g x u v : Int) (ad : Option Addr) (q cd : Nat) : Obj := .cells #[.int .i64 k, .int .i64 g, .int .i64 x, .int .u64 u, .int .u64 v, .slice ad q cd] 44
theorem clo_cells {w : World} {gc : Nat} {k g x u v : Int} {ad : Option Addr} {q cd : Nat} (h : w.heap[gc]? = some (clo k g x u v ad q cd)) : w.cell? ⟨gc, 0, none⟩ = some (.int .i64 k) ∧ w.cell? ⟨gc, 1, none⟩ = some (.int .i64 g) ∧ w.cell? ⟨gc, 2, none⟩ = some (.int .i64 x) ∧ w.cell? ⟨gc, 3, none⟩ = some (.int .u64 u) ∧ w.cell? ⟨gc, 4, none⟩ = some (.int .u64 v) ∧ w.cell? ⟨gc, 5, none⟩ = some (.slice ad q cd) ∧ gc < w.heap.size := by
  refine ⟨?_, ?_, ?_, ?_, ?_, ?_, lt_of_some h⟩ <;> (rw [cell_of_row w gc _ _ _ (0, 0) h]; rfl)
/-- The switch: the block 2 of the function's code. -/
def pickB2 : Code → Option Code
  | .block n c => if n = 2 then some (.block n c) else pickB2 c
  | .loop c => pickB2 c
  | .scope c => pickB2 c
  | .seq a b => match pickB2 a with
    | some c => some c
    | none => pickB2 b
  | .cond _ a b => match pickB2 a with
    | some c => some c
    | none => pickB2 b
  | _ => none
noncomputable def SWk : Code := (Try.f4.body.bind pickB2).getD .skip
end Go.Proofs.Ytgmelcdgnjcojac

namespace Go.Proofs.Ytgmelcdgnjcojac
open Go.RowKit Crm

set_option linter.unusedVariables false in
set_option maxRecDepth 100000 in
set_option maxHeartbeats 20000000 in
theorem kpWay0 {w wA : World} {pk ps gc j q cd : Nat} {s : Kt}  {g x u v : Int} {ad : Option Addr} {ds : List Int}
    (qGen : KcGen) (qRefresh : KcRefresh) (qTweak : KcTweak) (qCombine : KcCombine) (qMultiply : KcMultiply) (qDrop : KcDrop)
    (hJ1 : Jnt w pk ps s s gc (clo 0 g x u v ad q cd) wA) (hrW : Rd w ad q cd ds) (hw0 : Kwf s) (HVD : Hid (Kvd s)) (hg : -9223372036854775808 ≤ g ∧ g ≤ 9223372036854775807) (hx : -9223372036854775808 ≤ x ∧ x ≤ 9223372036854775807) (hu : 0 ≤ u ∧ u ≤ 18446744073709551615) (hv : 0 ≤ v ∧ v ≤ 18446744073709551615) (hl6 : s.last ≤ 1000000) (hlj : s.last ≤ j)
    {K' : Act → World → Prop} {Q : Exit → Act → World → Prop} {u0 u1 u2 u3 u4 u5 u6 u8 u9 u11 u17 u18 u19 u20 u21 u22 u23 u24 u25 u26 u27 u28 u29 u30 u31 u32 u33 u34 u35 u36 u37 u38 u39 u40 u41 u42 u43 u44 u45 u46 u47 u48 u49 u50 u51 u52 u53 u54 u55 u56 u57 u58 u59 u60 u61 u62 u63 u64 u65 u66 u67 u68 u69 u70 u71 u73 u74 u75 u76 u77 u78 u79 u80 u81 u82 u83 u84 u85 u86 u87 u88 u89 u90 u91 u92 u93 u94 u95 u96 u97 u98 u99 u100 u101 u102 u103 u104 u105 u106 u107 u108 u109 u110 u111 u112 u113 u114 u115 u116 u117 u118 u119 u120 u121 u122 u123 u124 u125 u126 u127 u128 u129 u130 u131 u132 u133 u134 u135 u136 u137 u138 u139 u140 u141 u142 u143 u144 u145 u146 u147 u148 u149 u150 u151 u152 u153 u154 u155 u156 u157 u158 u159 u160 u161 u162 u163 u164 u165 u166 u167 u168 u169 u170 u171 u172 u173 u174 u175 u176 u177 u178 u179 u180 u181 u182 u183 u184 u185 u186 u187 u188 u189 u190 u191 u192 u193 u194 u195 u196 u197 u198 u199 u200 u201 u202 u203 u204 u205 u206 u207 u208 u209 u210 u211 u212 u213 u214 u215 u216 u217 u218 u219 u220 u221 u222 u223 u224 u225 u226 u227 u228 u229 u230 u231 u232 u233 u234 u235 u236 u237 u238 u239 u240 u241 u242 u243 u244 u245 u246 : Value}
    (hK : Hid (∀ (s13 s14 s15 s16 v73 v74 v75 v76 v77 v78 v79 v80 v81 v82 v83 v84 v85 v86 v87 v88 v89 v90 v91 v92 v93 v94 v95 v96 v97 v98 v99 v100 v101 v102 v103 v104 v105 v106 v107 v108 v109 v110 v111 v112 v113 v114 v115 v116 v117 v118 v119 v120 v121 v122 v123 v124 v125 v126 v127 v128 v129 v130 v131 v132 v133 v134 v135 v136 v137 v138 v139 v140 v141 v142 v143 v144 v145 v146 v147 v148 v149 v150 v151 v152 v153 v154 v155 v156 v157 v158 v159 v160 v161 v162 v163 v164 v165 v166 v167 v168 v169 v170 v171 v172 v173 v174 v175 v176 v177 v178 v179 v180 v181 v182 v183 v184 v185 v186 : Value) (w' : World), Kpw w pk ps j s13 s14 s15 s16 w' → K' ⟨#[u0, u1, u2, u3, u4, u5, u6, .pointer (some ⟨pk, 0, none⟩), u8, u9, .pointer (some ⟨ps, 0, none⟩), u11, .pointer (some ⟨gc, 0, none⟩), s13, s14, s15, s16, u17, u18, u19, u20, u21, u22, u23, u24, u25, u26, u27, u28, u29, u30, u31, u32, u33, u34, u35, u36, u37, u38, u39, u40, u41, u42, u43, u44, u45, u46, u47, u48, u49, u50, u51, u52, u53, u54, u55, u56, u57, u58, u59, u60, u61, u62, u63, u64, u65, u66, u67, u68, u69, u70, u71, .int .i64 0, v73, v74, v75, v76, v77, v78, v79, v80, v81, v82, v83, v84, v85, v86, v87, v88, v89, v90, v91, v92, v93, v94, v95, v96, v97, v98, v99, v100, v101, v102, v103, v104, v105, v106, v107, v108, v109, v110, v111, v112, v113, v114, v115, v116, v117, v118, v119, v120, v121, v122, v123, v124, v125, v126, v127, v128, v129, v130, v131, v132, v133, v134, v135, v136, v137, v138, v139, v140, v141, v142, v143, v144, v145, v146, v147, v148, v149, v150, v151, v152, v153, v154, v155, v156, v157, v158, v159, v160, v161, v162, v163, v164, v165, v166, v167, v168, v169, v170, v171, v172, v173, v174, v175, v176, v177, v178, v179, v180, v181, v182, v183, v184, v185, v186, u187, u188, u189, u190, u191, u192, u193, u194, u195, u196, u197, u198, u199, u200, u201, u202, u203, u204, u205, u206, u207, u208, u209, u210, u211, u212, u213, u214, u215, u216, u217, u218, u219, u220, u221, u222, u223, u224, u225, u226, u227, u228, u229, u230, u231, u232, u233, u234, u235, u236, u237, u238, u239, u240, u241, u242, u243, u244, u245, u246], []⟩ w')) :
    Code.wp Try.prog SWk (Exit.then K' Q) ⟨#[u0, u1, u2, u3, u4, u5, u6, .pointer (some ⟨pk, 0, none⟩), u8, u9, .pointer (some ⟨ps, 0, none⟩), u11, .pointer (some ⟨gc, 0, none⟩), .int .i64 0, .int .i64 0, .int .i64 0, .int .i64 0, u17, u18, u19, u20, u21, u22, u23, u24, u25, u26, u27, u28, u29, u30, u31, u32, u33, u34, u35, u36, u37, u38, u39, u40, u41, u42, u43, u44, u45, u46, u47, u48, u49, u50, u51, u52, u53, u54, u55, u56, u57, u58, u59, u60, u61, u62, u63, u64, u65, u66, u67, u68, u69, u70, u71, .int .i64 0, u73, u74, u75, u76, u77, u78, u79, u80, u81, u82, u83, u84, u85, u86, u87, u88, u89, u90, u91, u92, u93, u94, u95, u96, u97, u98, u99, u100, u101, u102, u103, u104, u105, u106, u107, u108, u109, u110, u111, u112, u113, u114, u115, u116, u117, u118, u119, u120, u121, u122, u123, u124, u125, u126, u127, u128, u129, u130, u131, u132, u133, u134, u135, u136, u137, u138, u139, u140, u141, u142, u143, u144, u145, u146, u147, u148, u149, u150, u151, u152, u153, u154, u155, u156, u157, u158, u159, u160, u161, u162, u163, u164, u165, u166, u167, u168, u169, u170, u171, u172, u173, u174, u175, u176, u177, u178, u179, u180, u181, u182, u183, u184, u185, u186, u187, u188, u189, u190, u191, u192, u193, u194, u195, u196, u197, u198, u199, u200, u201, u202, u203, u204, u205, u206, u207, u208, u209, u210, u211, u212, u213, u214, u215, u216, u217, u218, u219, u220, u221, u222, u223, u224, u225, u226, u227, u228, u229, u230, u231, u232, u233, u234, u235, u236, u237, u238, u239, u240, u241, u242, u243, u244, u245, u246], []⟩ wA := by
  obtain ⟨d0, d1, d2, d3, d4, d5, hgl⟩ := clo_cells hJ1.box
  have hrA : Rd wA ad q cd ds := hrW.below hJ1.bel
  have hJD : Jnt w pk ps s s gc (clo 0 g x u v ad q cd) wA.drew := hJ1.same (Below.refl _ _).drew
  have hrD : Rd wA.drew ad q cd ds := hrA.drew
  have HLG : Hid (∀ q : Kt, q.last ≤ s.last + 1 → q.last ≤ j + 1) := fun q hq => by omega
  have HLE : Hid (∀ q : Kt, q.last = s.last → q.last ≤ j + 1) := fun q hq => by omega
  conv => arg 2; whnf
  go_wp2_with (first | (go_at_call 18; refine (hJ1.k (fun G hG => qGen pk G s _ _ _ _ _ hG hrA hl6)).mono ?_; rintro e w2 ⟨rfl, hJ2⟩; obtain ⟨e0, e1, e2, e3, e4, e5, hgl2⟩ := clo_cells hJ2.box; have hr2 := hrW.below hJ2.bel) | (go_at_call 19; refine (hJ2.s (fun G hG => rGen ps G s _ _ _ _ _ hG hr2 hl6)).mono ?_; rintro e w3 ⟨rfl, hJ3⟩))
  exact hK.out _ _ _ _ _ _ _ _ _ _ _ _ _ _ _ _ _ _ _ _ _ _ _ _ _ _ _ _ _ _ _ _ _ _ _ _ _ _ _ _ _ _ _ _ _ _ _ _ _ _ _ _ _ _ _ _ _ _ _ _ _ _ _ _ _ _ _ _ _ _ _ _ _ _ _ _ _ _ _ _ _ _ _ _ _ _ _ _ _ _ _ _ _ _ _ _ _ _ _ _ _ _ _ _ _ _ _ _ _ _ _ _ _ _ _ _ _ _ _ ⟨_, _, _, rfl, rfl, rfl, rfl, hJ3.off, HLG.out _ (kgen_wf ds hw0).2.1, kgen_vd HVD.out ds⟩

end Go.Proofs.Ytgmelcdgnjcojac
