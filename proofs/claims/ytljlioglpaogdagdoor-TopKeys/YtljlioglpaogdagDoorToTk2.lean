/- crofttop.TopKeys: a store and a plain map side by side; the switch over a call, taken out of the translation; what it leaves. · crofttop.TopKeys' switch: a call of kind 0. · crofttop.TopKeys' switch: a call of kind 1. · crofttop.TopKeys' switch: a call of kind 2. -/
import Derived.Test.YtljlioglpaogdagDoorToRStB
import Derived.Test.YtljlioglpaogdagDoorToEnDef
import Derived.Test.YtljlioglpaogdagDoorMapU
import Derived.Test.YtljlioglpaogdagDoorCallR
import Derived.Test.YtljlioglpaogdagDoorToLstC
import Derived.Deep.DeepCutAuto
import Derived.Deep.RegionWith
import Derived.Deep.RegionLaw
import Derived.Deep.RegionHeld3
import Derived.Deep.CutBlock
import Derived.Deep.CutRange
namespace Go.Proofs.YtljlioglpaogdagDoor
set_option linter.unusedVariables false
set_option maxRecDepth 100000
set_option maxHeartbeats 8000000
section
open Crm Go.RowKit
theorem lt_of_someT {w : World} {i : Nat} {o : Obj} (h : w.heap[i]? = some o) : i < w.heap.size := (Array.getElem?_eq_some_iff.1 h).1
/-- The variable that a round makes for a call. -/
def clo (k g x u v : Int) (ad : Option Addr) (q cd : Nat) : Obj := .cells #[.int .i64 k, .int .i64 g, .int .i64 x, .int .u64 u, .int .u64 v, .slice ad q cd] 88
theorem clo_cells {w : World} {gc : Nat} {k g x u v : Int} {ad : Option Addr} {q cd : Nat} (h : w.heap[gc]? = some (clo k g x u v ad q cd)) : w.cell? ⟨gc, 0, none⟩ = some (.int .i64 k) ∧ w.cell? ⟨gc, 1, none⟩ = some (.int .i64 g) ∧ w.cell? ⟨gc, 2, none⟩ = some (.int .i64 x) ∧ w.cell? ⟨gc, 3, none⟩ = some (.int .u64 u) ∧ w.cell? ⟨gc, 4, none⟩ = some (.int .u64 v) ∧ w.cell? ⟨gc, 5, none⟩ = some (.slice ad q cd) ∧ gc < w.heap.size := by
  refine ⟨?_, ?_, ?_, ?_, ?_, ?_, lt_of_someT h⟩ <;> (rw [cell_of_row w gc _ _ _ (0, 0) h]; rfl)
/-- The store at pk has state s, the map at bm has the q entries g, the block gc holds o. -/
def Tkb (w0 : World) (pk bm : Nat) (s : Kt) (q : Nat) (g : Int → Option Int) (gc : Nat) (o : Obj) (wr : World) : Prop :=
  ∃ Gk : Nat → Prop, Kst wr pk Gk s ∧ MapU wr bm q g ∧ ¬ Gk bm ∧ (∀ i, Gk i → w0.heap.size ≤ i) ∧ w0.heap.size ≤ bm ∧ (wr.heap[gc]? = some o ∧ ¬ Gk gc ∧ gc ≠ bm) ∧ Below w0.heap.size w0 wr
/-- .. and no such block; of each key the map has what is told. -/
def Tkp (w0 : World) (pk bm : Nat) (s : Kt) (g : Int → Option Int) (wr : World) : Prop :=
  ∃ Gk : Nat → Prop, Kst wr pk Gk s ∧ MapU wr bm s.cnt g ∧ ¬ Gk bm ∧ (∀ i, Gk i → w0.heap.size ≤ i) ∧ w0.heap.size ≤ bm ∧ Kvl s g ∧ Below w0.heap.size w0 wr
def Tpw (w0 : World) (pk bm j n t : Nat) (wx : World) : Prop := ∃ s g, Tkp w0 pk bm s g wx ∧ s.n = n ∧ s.t = t ∧ s.last ≤ j + 1 ∧ Kwf s
theorem Tkb.bel {w0 wr : World} {pk bm q gc : Nat} {s : Kt} {g : Int → Option Int} {o : Obj} (h : Tkb w0 pk bm s q g gc o wr) : Below w0.heap.size w0 wr := by
  obtain ⟨_, _, _, _, _, _, _, h7⟩ := h
  exact h7
theorem Tkb.box {w0 wr : World} {pk bm q gc : Nat} {s : Kt} {g : Int → Option Int} {o : Obj} (h : Tkb w0 pk bm s q g gc o wr) : wr.heap[gc]? = some o := by
  obtain ⟨_, _, _, _, _, _, h6, _⟩ := h
  exact h6.1
theorem Tkb.map {w0 wr : World} {pk bm q gc : Nat} {s : Kt} {g : Int → Option Int} {o : Obj} (h : Tkb w0 pk bm s q g gc o wr) : MapU wr bm q g := by
  obtain ⟨_, _, h2, _⟩ := h
  exact h2
theorem Tkb.same {w0 wr w' : World} {pk bm q gc : Nat} {s : Kt} {g : Int → Option Int} {o : Obj} (h : Tkb w0 pk bm s q g gc o wr) (hb : Below wr.heap.size wr w') : Tkb w0 pk bm s q g gc o w' := by
  obtain ⟨Gk, h1, h2, h3, h4, h5, h6, h7⟩ := h
  exact ⟨Gk, h1.same hb, h2.block (hb.block bm h2.lt), h3, h4, h5, ⟨by rw [hb.block gc (lt_of_someT h6.1)]; exact h6.1, h6.2⟩, h7.trans (hb.mono h7.size)⟩
theorem Tkb.turn {w0 w w' : World} {pk bm q gc : Nat} {r : Kt} {g : Int → Option Int} {o : Obj} {Gk : Nat → Prop} (h2 : MapU w bm q g) (h3 : ¬ Gk bm) (h4 : ∀ i, Gk i → w0.heap.size ≤ i) (h5 : w0.heap.size ≤ bm) (h6 : w.heap[gc]? = some o ∧ ¬ Gk gc ∧ gc ≠ bm) (h7 : Below w0.heap.size w0 w)
    (hk : Kst w' pk (Gnx Gk w w') r) (ht : Tch w w' Gk) : Tkb w0 pk bm r q g gc o w' := by
  have l1 := h2.lt
  have l2 := lt_of_someT h6.1
  refine ⟨Gnx Gk w w', hk, h2.block (ht.block bm l1 h3), fun e => ?_, Gnx.ge h4 h7.size, h5, ⟨by rw [ht.block gc l2 h6.2.1]; exact h6.1, fun e => ?_, h6.2.2⟩, ht.below h7 h4 h7.size⟩
  · rcases e with e | e
    · exact h3 e
    · omega
  · rcases e with e | e
    · exact h6.2.1 e
    · omega
theorem Tkb.k {w0 w : World} {pk bm q gc N : Nat} {s : Kt} {g : Int → Option Int} {o : Obj} {args : Array Value} {r : Int × Int × Kt} (J : Tkb w0 pk bm s q g gc o w) (hc : ∀ G, Kst w pk G s → Calls Tryd.prog N args w (Kke pk G r w)) : Calls Tryd.prog N args w fun e w' => e = .returned (.tuple #[.int .i64 r.1, .int .i64 r.2.1]) ∧ Tkb w0 pk bm r.2.2 q g gc o w' := by
  obtain ⟨Gk, h1, h2, h3, h4, h5, h6, h7⟩ := J
  exact (hc Gk h1).mono fun e w' ⟨e1, e2, e3⟩ => ⟨e1, Tkb.turn h2 h3 h4 h5 h6 h7 e2 e3⟩
theorem Tkb.kt {w0 w : World} {pk bm q gc N : Nat} {s : Kt} {g : Int → Option Int} {o : Obj} {args : Array Value} {r : Int × Kt} (J : Tkb w0 pk bm s q g gc o w) (hc : ∀ G, Kst w pk G s → Calls Tryd.prog N args w (Kkt pk G r w)) : Calls Tryd.prog N args w fun e w' => e = .returned (.int .i64 r.1) ∧ Tkb w0 pk bm r.2 q g gc o w' := by
  obtain ⟨Gk, h1, h2, h3, h4, h5, h6, h7⟩ := J
  exact (hc Gk h1).mono fun e w' ⟨e1, e2, e3⟩ => ⟨e1, Tkb.turn h2 h3 h4 h5 h6 h7 e2 e3⟩
/-- .. and a list that was laid behind the store stays. -/
theorem Tkb.kx {w0 w w1 : World} {pk bm q gc N m : Nat} {s : Kt} {g : Int → Option Int} {o : Obj} {args : Array Value} {r : Int × Int × Kt} {xs : List Int} (J : Tkb w0 pk bm s q g gc o w) (hb : Below w.heap.size w w1) (hr : Rd w1 (some ⟨w.heap.size, 0, none⟩) m m xs) (hm : 0 < m) (hc : ∀ G, Kst w1 pk G s → Calls Tryd.prog N args w1 (Kke pk G r w1)) : Calls Tryd.prog N args w1 fun e w' => e = .returned (.tuple #[.int .i64 r.1, .int .i64 r.2.1]) ∧ Tkb w0 pk bm r.2.2 q g gc o w' ∧ Rd w' (some ⟨w.heap.size, 0, none⟩) m m xs := by
  obtain ⟨Gk, h1, h2, h3, h4, h5, h6, h7⟩ := J
  have hn : ∀ x, some (⟨w.heap.size, 0, none⟩ : Addr) = some x → ¬ Gk x.block := fun x e g => by
    obtain rfl := Option.some.inj e
    have := h1.lt _ g
    simp at this
  exact (hc Gk (h1.same hb)).mono fun e w' ⟨e1, e2, e3⟩ => ⟨e1, Tkb.turn (h2.block (hb.block bm h2.lt)) h3 h4 h5 ⟨by rw [hb.block gc (lt_of_someT h6.1)]; exact h6.1, h6.2⟩ (h7.trans (hb.mono h7.size)) e2 e3, e3.rd hr hm hn⟩
/-- The map alone has turned. -/
theorem Tkb.put {w0 w w' : World} {pk bm q q' gc : Nat} {s : Kt} {g g' : Int → Option Int} {o : Obj} (J : Tkb w0 pk bm s q g gc o w) (hm : MapU w' bm q' g') (hg : w.grownBy w' (some bm)) : Tkb w0 pk bm s q' g' gc o w' := by
  obtain ⟨Gk, h1, h2, h3, h4, h5, h6, h7⟩ := J
  have ht : Tch w w' (fun i => i = bm) := ⟨hg.os, hg.tape, hg.output, hg.size, fun i hi hn => hg.block i hi (by simpa using hn)⟩
  exact ⟨Gk, h1.aside ht (fun i g e => h3 (e ▸ g)), hm, h3, h4, h5, ⟨by rw [ht.block gc (lt_of_someT h6.1) h6.2.2]; exact h6.1, h6.2⟩, ht.below h7 (fun i e => e ▸ h5) h7.size⟩
/-- What the switch leaves. -/
theorem Tkb.told {w0 w : World} {pk bm q gc j n t : Nat} {s : Kt} {g : Int → Option Int} {o : Obj} (J : Tkb w0 pk bm s q g gc o w) (hv : Kvl s g) (hw : Kwf s) (hq : q = s.cnt) (hn : s.n = n) (ht : s.t = t) (hl : s.last ≤ j + 1) : Tpw w0 pk bm j n t w := by
  obtain ⟨Gk, h1, h2, h3, h4, h5, _, h7⟩ := J
  subst hq
  exact ⟨s, g, ⟨Gk, h1, h2, h3, h4, h5, hv, h7⟩, hn, ht, hl, hw⟩
theorem Tkp.on {w0 wr : World} {pk bm : Nat} {s : Kt} {g : Int → Option Int} (h : Tkp w0 pk bm s g wr) (o : Obj) : Tkb w0 pk bm s s.cnt g wr.heap.size o (wr.alloc o) := by
  obtain ⟨Gk, h1, h2, h3, h4, h5, _, h7⟩ := h
  have hb : Below wr.heap.size wr (wr.alloc o) := (Below.refl _ _).alloc (Nat.le_refl _) _
  have l2 := h2.lt
  exact ⟨Gk, h1.same hb, h2.block (hb.block bm l2), h3, h4, h5, ⟨heap_alloc_new wr o, fun g => by have := h1.lt _ g; omega, by omega⟩, h7.trans (hb.mono h7.size)⟩
theorem Kvl.fresh {s : Kt} {g : Int → Option Int} (h : Kvl s g) (w : Kwf s) : g ((s.last : Int) + 1) = none := by
  rcases h ((s.last : Int) + 1) with e | ⟨l, _, e, _⟩
  · exact e.2
  · have := (w.key _ l e).1
    omega
/-- The map is ranged over by block r; cnt entries are still to come. -/
def Tkr (w0 : World) (pk bm r : Nat) (s : Kt) (g : Int → Option Int) (cnt : Nat) (wr : World) : Prop :=
  ∃ Gk : Nat → Prop, Kst wr pk Gk s ∧ RngU wr bm r s.cnt g cnt ∧ ¬ Gk bm ∧ ¬ Gk r ∧ (∀ i, Gk i → w0.heap.size ≤ i) ∧ w0.heap.size ≤ bm ∧ w0.heap.size ≤ r ∧ Below w0.heap.size w0 wr
theorem RngU.left {w : World} {b r q cnt : Nat} {g : Int → Option Int} (h : RngU w b r q g cnt) : w.rangeLeft b r = cnt := by
  obtain ⟨D, left, h1, _⟩ := h
  exact h1.left_eq
theorem Tkr.rng {w0 wr : World} {pk bm r cnt : Nat} {s : Kt} {g : Int → Option Int} (h : Tkr w0 pk bm r s g cnt wr) : RngU wr bm r s.cnt g cnt := by
  obtain ⟨_, _, h2, _⟩ := h
  exact h2
theorem Tkp.range {w0 w w' : World} {pk bm : Nat} {s : Kt} {g : Int → Option Int} (h : Tkp w0 pk bm s g w) (hr : RngU w' bm w.heap.size s.cnt g s.cnt) (hg : w.grownBy w' none) : Tkr w0 pk bm w.heap.size s g s.cnt w' := by
  obtain ⟨Gk, h1, h2, h3, h4, h5, _, h7⟩ := h
  have hb : Below w.heap.size w w' := ⟨hg.os, hg.tape, hg.output, hg.size, fun i hi => hg.block i hi (by simp)⟩
  exact ⟨Gk, h1.same hb, hr, h3, fun g => by have := h1.lt _ g; omega, h4, h5, h7.size, h7.trans (hb.mono h7.size)⟩
theorem Tkr.next {w0 w w' : World} {pk bm r cnt cnt' : Nat} {s : Kt} {g : Int → Option Int} (h : Tkr w0 pk bm r s g cnt w) (hr : RngU w' bm r s.cnt g cnt') (hg : w.grownBy w' (some r)) : Tkr w0 pk bm r s g cnt' w' := by
  obtain ⟨Gk, h1, h2, h3, h4, h5, h6, h7, h8⟩ := h
  have ht : Tch w w' (fun i => i = r) := ⟨hg.os, hg.tape, hg.output, hg.size, fun i hi hn => hg.block i hi (by simpa using hn)⟩
  exact ⟨Gk, h1.aside ht (fun i g e => h4 (e ▸ g)), hr, h3, h4, h5, h6, h7, ht.below h8 (fun i e => e ▸ h7) h8.size⟩
theorem Tkr.same {w0 w w' : World} {pk bm r cnt : Nat} {s : Kt} {g : Int → Option Int} (h : Tkr w0 pk bm r s g cnt w) (hb : Below w.heap.size w w') : Tkr w0 pk bm r s g cnt w' := by
  obtain ⟨Gk, h1, h2, h3, h4, h5, h6, h7, h8⟩ := h
  exact ⟨Gk, h1.same hb, h2.kept (hb.block bm h2.map.lt) (hb.block r h2.lt), h3, h4, h5, h6, h7, h8.trans (hb.mono h8.size)⟩
theorem Tkr.kr {w0 w : World} {pk bm r cnt N : Nat} {s : Kt} {g : Int → Option Int} {args : Array Value} {Q : Ending → World → Prop} (J : Tkr w0 pk bm r s g cnt w) (hc : ∀ G, Kst w pk G s → Calls Tryd.prog N args w Q) : Calls Tryd.prog N args w Q := by
  obtain ⟨Gk, h1, _⟩ := J
  exact hc Gk h1
theorem Tkr.off {w0 w : World} {pk bm r cnt : Nat} {s : Kt} {g : Int → Option Int} (h : Tkr w0 pk bm r s g cnt w) (hv : Kvl s g) : Tkp w0 pk bm s g w := by
  obtain ⟨Gk, h1, h2, h3, _, h5, h6, _, h8⟩ := h
  exact ⟨Gk, h1, h2.map, h3, h5, h6, hv, h8⟩
theorem Tkp.bel {w0 w : World} {pk bm : Nat} {s : Kt} {g : Int → Option Int} (h : Tkp w0 pk bm s g w) : Below w0.heap.size w0 w := by
  obtain ⟨_, _, _, _, _, _, _, h7⟩ := h
  exact h7
theorem Tkp.map {w0 w : World} {pk bm : Nat} {s : Kt} {g : Int → Option Int} (h : Tkp w0 pk bm s g w) : MapU w bm s.cnt g := by
  obtain ⟨_, _, h2, _⟩ := h
  exact h2
theorem Tkp.vl {w0 w : World} {pk bm : Nat} {s : Kt} {g : Int → Option Int} (h : Tkp w0 pk bm s g w) : Kvl s g := by
  obtain ⟨_, _, _, _, _, _, h6, _⟩ := h
  exact h6
theorem Tkp.new {w0 w : World} {pk : Nat} {G : Nat → Prop} {n t : Nat} (h : Kst w pk G (k0 n t)) (hG : ∀ i, G i → w0.heap.size ≤ i) (hb : Below w0.heap.size w0 w) : Tkp w0 pk w.heap.size (k0 n t) (fun _ => none) (w.alloc (.map #[] 0)) := by
  have hb2 : Below w.heap.size w (w.alloc (.map #[] 0)) := (Below.refl _ _).alloc (Nat.le_refl _) _
  exact ⟨G, h.same hb2, MapU.made w, fun g => by have := h.lt _ g; omega, hG, hb.size, k0_vl n t, hb.trans (hb2.mono hb.size)⟩
/-- The switch: the block 2 of the function's code. -/
def pickB3 : Code → Option Code
  | .block n c => if n = 2 then some (.block n c) else pickB3 c
  | .loop c => pickB3 c
  | .scope c => pickB3 c
  | .seq a b => match pickB3 a with
    | some c => some c
    | none => pickB3 b
  | .cond _ a b => match pickB3 a with
    | some c => some c
    | none => pickB3 b
  | _ => none
theorem tkWay0 {w wA : World} {pk bm gc j q cd n t : Nat} {s : Kt} {gv : Int → Option Int}  {g x u v : Int} {ad : Option Addr} {ds : List Int}
    (qGen : KcGen) (qRefresh : KcRefresh) (qTweak : KcTweak) (qCombine : KcCombine) (qMultiply : KcMultiply) (qDrop : KcDrop)
    (hT : Tkb w pk bm s s.cnt gv gc (clo 0 g x u v ad q cd) wA) (HVL : Hid (Kvl s gv)) (hrW : Rd w ad q cd ds) (hw0 : Kwf s) (HN : Hid (s.n = n)) (HT : Hid (s.t = t)) (ht4 : t ≤ 4) (hn9 : n ≤ 9) (hnt : 2 * t + 1 ≤ n) (hg : -9223372036854775808 ≤ g ∧ g ≤ 9223372036854775807) (hx : -9223372036854775808 ≤ x ∧ x ≤ 9223372036854775807) (hu : 0 ≤ u ∧ u ≤ 18446744073709551615) (hv : 0 ≤ v ∧ v ≤ 18446744073709551615) (hl6 : s.last ≤ 1000000) (hlj : s.last ≤ j)
    {K' : Act → World → Prop} {Q : Exit → Act → World → Prop} {u2 u3 u4 u5 u6 u8 u10 u12 u13 u14 u15 u16 u17 u18 u19 u20 u21 u22 u23 u24 u25 u26 u27 u28 u29 u30 u31 u32 u33 u34 u35 u36 u37 u38 u39 u40 u41 u42 u43 u44 u45 u46 u47 u48 u49 u50 u51 u52 u53 u55 u56 u57 u58 u59 u60 u61 u62 u63 u64 u65 u66 u67 u68 u69 u70 u71 u72 u73 u74 u75 u76 u77 u78 u79 u80 u81 u82 u83 u84 u85 u86 u87 u88 u89 u90 u91 u92 u93 u94 u95 u96 u97 u98 u99 u100 u101 u102 u103 u104 u105 u106 u107 u108 u109 u110 u111 u112 u113 u114 u115 u116 u117 u118 u119 u120 u121 u122 u123 u124 u125 u126 u127 u128 u129 u130 u131 u132 u133 u134 u135 u136 u137 u138 u139 u140 u141 u142 u143 u144 u145 u146 u147 u148 u149 u150 u151 u152 u153 u154 u155 u156 u157 u158 u159 u160 u161 u162 u163 u164 u165 u166 u167 u168 u169 u170 u171 u172 u173 u174 u175 u176 u177 u178 u179 u180 u181 u182 u183 u184 u185 u186 u187 u188 u189 u190 u191 u192 u193 u194 u195 u196 u197 u198 u199 u200 u201 u202 u203 u204 u205 u206 u207 u208 u209 u210 u211 u212 u213 u214 u215 u216 u217 u218 u219 u220 : Value}
    (hK : Hid (∀ (v12 v13 v14 v15 v16 v17 v18 v19 v20 v21 v22 v55 v56 v57 v58 v59 v60 v61 v62 v63 v64 v65 v66 v67 v68 v69 v70 v71 v72 v73 v74 v75 v76 v77 v78 v79 v80 v81 v82 v83 v84 v85 v86 v87 v88 v89 v90 v91 v92 v93 v94 v95 v96 v97 v98 v99 v100 v101 v102 v103 v104 v105 v106 v107 v108 v109 v110 v111 v112 v113 v114 v115 v116 v117 v118 v119 v120 v121 v122 v123 v124 v125 v126 v127 v128 v129 v130 v131 v132 v133 v134 v135 v136 v137 v138 v139 v140 v141 v142 v143 v144 v145 v146 v147 v148 v149 v150 v151 v152 v153 v154 v155 v156 v157 v158 v159 v160 v161 v162 v163 v164 v165 v166 v167 v168 v169 v170 v171 v172 v173 v174 v175 v176 v177 v178 v179 v180 v181 v182 v183 v184 v185 v186 v187 v188 v189 v190 v191 v192 v193 v194 v195 v196 : Value) (w' : World), Tpw w pk bm j n t w' → K' ⟨#[.int .i64 (t : Int), .int .i64 (n : Int), u2, u3, u4, u5, u6, .pointer (some ⟨pk, 0, none⟩), u8, .map (some bm), u10, .pointer (some ⟨gc, 0, none⟩), v12, v13, v14, v15, v16, v17, v18, v19, v20, v21, v22, u23, u24, u25, u26, u27, u28, u29, u30, u31, u32, u33, u34, u35, u36, u37, u38, u39, u40, u41, u42, u43, u44, u45, u46, u47, u48, u49, u50, u51, u52, u53, .int .i64 0, v55, v56, v57, v58, v59, v60, v61, v62, v63, v64, v65, v66, v67, v68, v69, v70, v71, v72, v73, v74, v75, v76, v77, v78, v79, v80, v81, v82, v83, v84, v85, v86, v87, v88, v89, v90, v91, v92, v93, v94, v95, v96, v97, v98, v99, v100, v101, v102, v103, v104, v105, v106, v107, v108, v109, v110, v111, v112, v113, v114, v115, v116, v117, v118, v119, v120, v121, v122, v123, v124, v125, v126, v127, v128, v129, v130, v131, v132, v133, v134, v135, v136, v137, v138, v139, v140, v141, v142, v143, v144, v145, v146, v147, v148, v149, v150, v151, v152, v153, v154, v155, v156, v157, v158, v159, v160, v161, v162, v163, v164, v165, v166, v167, v168, v169, v170, v171, v172, v173, v174, v175, v176, v177, v178, v179, v180, v181, v182, v183, v184, v185, v186, v187, v188, v189, v190, v191, v192, v193, v194, v195, v196, u197, u198, u199, u200, u201, u202, u203, u204, u205, u206, u207, u208, u209, u210, u211, u212, u213, u214, u215, u216, u217, u218, u219, u220], []⟩ w')) :
    Code.wp Tryd.prog ((Tryd.f8.body.bind pickB3).getD .skip) (Exit.then K' Q) ⟨#[.int .i64 (t : Int), .int .i64 (n : Int), u2, u3, u4, u5, u6, .pointer (some ⟨pk, 0, none⟩), u8, .map (some bm), u10, .pointer (some ⟨gc, 0, none⟩), u12, u13, u14, u15, u16, u17, u18, u19, u20, u21, u22, u23, u24, u25, u26, u27, u28, u29, u30, u31, u32, u33, u34, u35, u36, u37, u38, u39, u40, u41, u42, u43, u44, u45, u46, u47, u48, u49, u50, u51, u52, u53, .int .i64 0, u55, u56, u57, u58, u59, u60, u61, u62, u63, u64, u65, u66, u67, u68, u69, u70, u71, u72, u73, u74, u75, u76, u77, u78, u79, u80, u81, u82, u83, u84, u85, u86, u87, u88, u89, u90, u91, u92, u93, u94, u95, u96, u97, u98, u99, u100, u101, u102, u103, u104, u105, u106, u107, u108, u109, u110, u111, u112, u113, u114, u115, u116, u117, u118, u119, u120, u121, u122, u123, u124, u125, u126, u127, u128, u129, u130, u131, u132, u133, u134, u135, u136, u137, u138, u139, u140, u141, u142, u143, u144, u145, u146, u147, u148, u149, u150, u151, u152, u153, u154, u155, u156, u157, u158, u159, u160, u161, u162, u163, u164, u165, u166, u167, u168, u169, u170, u171, u172, u173, u174, u175, u176, u177, u178, u179, u180, u181, u182, u183, u184, u185, u186, u187, u188, u189, u190, u191, u192, u193, u194, u195, u196, u197, u198, u199, u200, u201, u202, u203, u204, u205, u206, u207, u208, u209, u210, u211, u212, u213, u214, u215, u216, u217, u218, u219, u220], []⟩ wA := by
  obtain ⟨d0, d1, d2, d3, d4, d5, hgl⟩ := clo_cells hT.box
  have hrA : Rd wA ad q cd ds := hrW.below hT.bel
  conv => arg 2; whnf
  obtain ⟨T1, HT1⟩ : ∃ T1, Hid (t + 1 = T1) := ⟨_, rfl⟩
  have hT1 : (t : Int) + 1 = (T1 : Int) := by rw [← HT1.out]; omega
  have hT15 : T1 ≤ 5 := by rw [← HT1.out]; omega
  obtain ⟨M, HM⟩ : ∃ M, Hid (n * T1 = M) := ⟨_, rfl⟩
  have hMI : (n : Int) * (T1 : Int) = (M : Int) := by rw [← HM.out]; push_cast; rfl
  have hM45 : M ≤ 45 := by rw [← HM.out]; exact Nat.mul_le_mul hn9 hT15
  have hM0 : 0 < M := by rw [← HM.out]; exact Nat.mul_pos (by omega) (by rw [← HT1.out]; omega)
  obtain ⟨D, HD⟩ : ∃ D, Hid (padded ds M = D) := ⟨_, rfl⟩
  have HL : Hid (D.length = s.n * (s.t + 1)) := by unfold Hid; rw [← HD.out, padded_len, HN.out, HT.out, HT1.out, HM.out]
  rcases kadd_cases s (ksm s.n s.t true D s.n) with ⟨_, e⟩ | ⟨h8, e⟩
  · have HE : Hid (kgen s D = (0, 2, s)) := by unfold Hid kgen; rw [if_pos HL.out]; exact e
    clear e
    go_wp2_with (first | (go_at_call 29; refine (tFilled _ _ _ _ M _ hrA (by omega)).mono ?_; rintro e w2 ⟨g2, rfl, hr2, hb2⟩; rw [HD.out] at hr2; have hT2 := hT.same hb2; obtain ⟨e0, e1, e2, e3, e4, e5, hgl2⟩ := clo_cells hT2.box) | (go_at_call 22; refine (hT2.k (fun G hG => qGen pk G s _ _ _ _ _ hG hr2 hl6)).mono ?_; rintro e w3 ⟨rfl, hT3⟩; rw [HE.out] at hT3 ⊢))
    exact hK.out _ _ _ _ _ _ _ _ _ _ _ _ _ _ _ _ _ _ _ _ _ _ _ _ _ _ _ _ _ _ _ _ _ _ _ _ _ _ _ _ _ _ _ _ _ _ _ _ _ _ _ _ _ _ _ _ _ _ _ _ _ _ _ _ _ _ _ _ _ _ _ _ _ _ _ _ _ _ _ _ _ _ _ _ _ _ _ _ _ _ _ _ _ _ _ _ _ _ _ _ _ _ _ _ _ _ _ _ _ _ _ _ _ _ _ _ _ _ _ _ _ _ _ _ _ _ _ _ _ _ _ _ _ _ _ _ _ _ _ _ _ _ _ _ _ _ _ _ _ _ _ _ _ _ (hT3.told HVL.out hw0 rfl HN.out HT.out (by omega))
  · have HE : Hid (kgen s D = ((s.last : Int) + 1, 0, kput s (ksm s.n s.t true D s.n))) := by unfold Hid kgen; rw [if_pos HL.out]; exact e
    have HV2 : Hid (Ksh s.n s.t (ksm s.n s.t true D s.n) (ksv t true D n)) := by unfold Hid; have := ksm_ksh s.n s.t true D s.n; rw [HN.out, HT.out] at this ⊢; exact this
    have HW2 : Hid (Kwf (kput s (ksm s.n s.t true D s.n))) := kput_wf hw0 h8 (ksm_len _ _ _ _ _) (ksm_bd _ _ _ _ _)
    have HNL : Hid (gv ((s.last : Int) + 1) = none) := HVL.out.fresh hw0
    have hL1 : i64r ((s.last : Int) + 1) := ⟨by omega, by omega⟩
    have hc1000 : s.cnt ≤ 1000 := by omega
    clear e
    go_wp2_with (first | (go_at_call 29; refine (tFilledG _ _ _ _ M _ hrA (by omega)).mono ?_; rintro e w2 ⟨rfl, hr2, hb2⟩; rw [HD.out] at hr2; have hT2 := hT.same hb2; obtain ⟨e0, e1, e2, e3, e4, e5, hgl2⟩ := clo_cells hT2.box) | (go_at_call 22; refine (hT.kx hb2 hr2 hM0 (fun G hG => qGen pk G s _ _ _ _ _ hG hr2 hl6)).mono ?_; rintro e w3 ⟨rfl, hT3, hr3⟩; rw [HE.out] at hT3 ⊢))
    go_loopw [15, 73] (fun v i wr => ∃ a : Nat, a ≤ n ∧ i = .int .i64 a ∧ v = .int .u64 (ksv t true D a) ∧ wr = w3) (fun _ i _ => n - (intOf i).toNat)
    case atStart => exact ⟨0, Nat.zero_le _, rfl, rfl, rfl⟩
    case round =>
      obtain ⟨a, han, rfl, rfl, hw3⟩ := hrel
      have hw3 := hw3.symm
      subst hw3
      have hsb := (ksm_ksh n t true D a).val
      by_cases hlt : a < n
      · have hlti : (a : Int) < (n : Int) := by omega
        obtain ⟨A, HA⟩ : ∃ A, Hid (a * T1 = A) := ⟨_, rfl⟩
        have hAI : (a : Int) * (T1 : Int) = (A : Int) := by rw [← HA.out]; push_cast; rfl
        have hAM : A < M := by rw [← HA.out, ← HM.out]; exact Nat.mul_lt_mul_of_pos_right hlt (by rw [← HT1.out]; omega)
        obtain ⟨bb, o, y, e1', hbb, HY, hy0, hy1, hcy⟩ := hr3.one hAM
        obtain ⟨rfl, rfl⟩ : bb = wA.heap.size ∧ o = 0 := by simpa using e1'.symm
        have HS : Hid (nm (ksv t true D a + y) = ksv t true D (a + 1)) := by
          unfold Hid
          rw [ksv, kdr, if_pos rfl]
          show _ = nm (ksv t true D a + nm (D.getD (a * (t + 1)) 0))
          rw [nm_addr, HT1.out, HA.out, HY.out]
        obtain ⟨sv, HSV⟩ : ∃ sv, Hid (ksv t true D a = sv) := ⟨_, rfl⟩
        rw [HSV.out] at hsb HS ⊢
        rw [Nat.zero_add] at hcy
        have hAi : (A : Int) < (M : Int) := by omega
        have hA0 : (0 : Int) ≤ (A : Int) := by omega
        go_wp2_with (go_at_call 45; refine (fAdd sv y _ (by omega) (by omega) hy0 hy1).mono ?_; rintro e w4 ⟨rfl, hw⟩; have hw := hw.symm; subst hw; rw [HS.out])
        go_roundw
        case rel => exact ⟨a + 1, by omega, by go_num, rfl, by first | rfl | trivial⟩
        case measure => simp [intOf]; omega
      · obtain rfl : a = n := by omega
        have hnn : ¬ ((a : Int) < (a : Int)) := by omega
        obtain ⟨sv, HSV⟩ : ∃ sv, Hid (ksv t true D a = sv) := ⟨_, rfl⟩
        rw [HSV.out] at hsb HV2 ⊢
        go_wp2_with (at_mapUpdate; refine wpList_putU _ rfl _ _ _ 86 rfl Tryd.underlying86 bm _ gv rfl hT3.map hc1000 ((s.last : Int) + 1) sv rfl rfl hL1 (by omega) ?_; intro w5 hM5 hg5; rw [HNL.out] at hM5; have hT5 := hT3.put hM5 hg5)
        exact hK.out _ _ _ _ _ _ _ _ _ _ _ _ _ _ _ _ _ _ _ _ _ _ _ _ _ _ _ _ _ _ _ _ _ _ _ _ _ _ _ _ _ _ _ _ _ _ _ _ _ _ _ _ _ _ _ _ _ _ _ _ _ _ _ _ _ _ _ _ _ _ _ _ _ _ _ _ _ _ _ _ _ _ _ _ _ _ _ _ _ _ _ _ _ _ _ _ _ _ _ _ _ _ _ _ _ _ _ _ _ _ _ _ _ _ _ _ _ _ _ _ _ _ _ _ _ _ _ _ _ _ _ _ _ _ _ _ _ _ _ _ _ _ _ _ _ _ _ _ _ _ _ _ _ _ (hT5.told (kput_vl HVL.out HV2.out) HW2.out rfl HN.out HT.out (by show s.last + 1 ≤ j + 1; omega))
theorem tkWay1 {w wA : World} {pk bm gc j q cd n t : Nat} {s : Kt} {gv : Int → Option Int}  {g x u v : Int} {ad : Option Addr} {ds : List Int}
    (qGen : KcGen) (qRefresh : KcRefresh) (qTweak : KcTweak) (qCombine : KcCombine) (qMultiply : KcMultiply) (qDrop : KcDrop)
    (hT : Tkb w pk bm s s.cnt gv gc (clo 1 g x u v ad q cd) wA) (HVL : Hid (Kvl s gv)) (hrW : Rd w ad q cd ds) (hw0 : Kwf s) (HN : Hid (s.n = n)) (HT : Hid (s.t = t)) (ht4 : t ≤ 4) (hn9 : n ≤ 9) (hnt : 2 * t + 1 ≤ n) (hg : -9223372036854775808 ≤ g ∧ g ≤ 9223372036854775807) (hx : -9223372036854775808 ≤ x ∧ x ≤ 9223372036854775807) (hu : 0 ≤ u ∧ u ≤ 18446744073709551615) (hv : 0 ≤ v ∧ v ≤ 18446744073709551615) (hl6 : s.last ≤ 1000000) (hlj : s.last ≤ j)
    {K' : Act → World → Prop} {Q : Exit → Act → World → Prop} {u2 u3 u4 u5 u6 u8 u10 u12 u13 u14 u15 u16 u17 u18 u19 u20 u21 u22 u23 u24 u25 u26 u27 u28 u29 u30 u31 u32 u33 u34 u35 u36 u37 u38 u39 u40 u41 u42 u43 u44 u45 u46 u47 u48 u49 u50 u51 u52 u53 u55 u56 u57 u58 u59 u60 u61 u62 u63 u64 u65 u66 u67 u68 u69 u70 u71 u72 u73 u74 u75 u76 u77 u78 u79 u80 u81 u82 u83 u84 u85 u86 u87 u88 u89 u90 u91 u92 u93 u94 u95 u96 u97 u98 u99 u100 u101 u102 u103 u104 u105 u106 u107 u108 u109 u110 u111 u112 u113 u114 u115 u116 u117 u118 u119 u120 u121 u122 u123 u124 u125 u126 u127 u128 u129 u130 u131 u132 u133 u134 u135 u136 u137 u138 u139 u140 u141 u142 u143 u144 u145 u146 u147 u148 u149 u150 u151 u152 u153 u154 u155 u156 u157 u158 u159 u160 u161 u162 u163 u164 u165 u166 u167 u168 u169 u170 u171 u172 u173 u174 u175 u176 u177 u178 u179 u180 u181 u182 u183 u184 u185 u186 u187 u188 u189 u190 u191 u192 u193 u194 u195 u196 u197 u198 u199 u200 u201 u202 u203 u204 u205 u206 u207 u208 u209 u210 u211 u212 u213 u214 u215 u216 u217 u218 u219 u220 : Value}
    (hK : Hid (∀ (v12 v13 v14 v15 v16 v17 v18 v19 v20 v21 v22 v55 v56 v57 v58 v59 v60 v61 v62 v63 v64 v65 v66 v67 v68 v69 v70 v71 v72 v73 v74 v75 v76 v77 v78 v79 v80 v81 v82 v83 v84 v85 v86 v87 v88 v89 v90 v91 v92 v93 v94 v95 v96 v97 v98 v99 v100 v101 v102 v103 v104 v105 v106 v107 v108 v109 v110 v111 v112 v113 v114 v115 v116 v117 v118 v119 v120 v121 v122 v123 v124 v125 v126 v127 v128 v129 v130 v131 v132 v133 v134 v135 v136 v137 v138 v139 v140 v141 v142 v143 v144 v145 v146 v147 v148 v149 v150 v151 v152 v153 v154 v155 v156 v157 v158 v159 v160 v161 v162 v163 v164 v165 v166 v167 v168 v169 v170 v171 v172 v173 v174 v175 v176 v177 v178 v179 v180 v181 v182 v183 v184 v185 v186 v187 v188 v189 v190 v191 v192 v193 v194 v195 v196 : Value) (w' : World), Tpw w pk bm j n t w' → K' ⟨#[.int .i64 (t : Int), .int .i64 (n : Int), u2, u3, u4, u5, u6, .pointer (some ⟨pk, 0, none⟩), u8, .map (some bm), u10, .pointer (some ⟨gc, 0, none⟩), v12, v13, v14, v15, v16, v17, v18, v19, v20, v21, v22, u23, u24, u25, u26, u27, u28, u29, u30, u31, u32, u33, u34, u35, u36, u37, u38, u39, u40, u41, u42, u43, u44, u45, u46, u47, u48, u49, u50, u51, u52, u53, .int .i64 1, v55, v56, v57, v58, v59, v60, v61, v62, v63, v64, v65, v66, v67, v68, v69, v70, v71, v72, v73, v74, v75, v76, v77, v78, v79, v80, v81, v82, v83, v84, v85, v86, v87, v88, v89, v90, v91, v92, v93, v94, v95, v96, v97, v98, v99, v100, v101, v102, v103, v104, v105, v106, v107, v108, v109, v110, v111, v112, v113, v114, v115, v116, v117, v118, v119, v120, v121, v122, v123, v124, v125, v126, v127, v128, v129, v130, v131, v132, v133, v134, v135, v136, v137, v138, v139, v140, v141, v142, v143, v144, v145, v146, v147, v148, v149, v150, v151, v152, v153, v154, v155, v156, v157, v158, v159, v160, v161, v162, v163, v164, v165, v166, v167, v168, v169, v170, v171, v172, v173, v174, v175, v176, v177, v178, v179, v180, v181, v182, v183, v184, v185, v186, v187, v188, v189, v190, v191, v192, v193, v194, v195, v196, u197, u198, u199, u200, u201, u202, u203, u204, u205, u206, u207, u208, u209, u210, u211, u212, u213, u214, u215, u216, u217, u218, u219, u220], []⟩ w')) :
    Code.wp Tryd.prog ((Tryd.f8.body.bind pickB3).getD .skip) (Exit.then K' Q) ⟨#[.int .i64 (t : Int), .int .i64 (n : Int), u2, u3, u4, u5, u6, .pointer (some ⟨pk, 0, none⟩), u8, .map (some bm), u10, .pointer (some ⟨gc, 0, none⟩), u12, u13, u14, u15, u16, u17, u18, u19, u20, u21, u22, u23, u24, u25, u26, u27, u28, u29, u30, u31, u32, u33, u34, u35, u36, u37, u38, u39, u40, u41, u42, u43, u44, u45, u46, u47, u48, u49, u50, u51, u52, u53, .int .i64 1, u55, u56, u57, u58, u59, u60, u61, u62, u63, u64, u65, u66, u67, u68, u69, u70, u71, u72, u73, u74, u75, u76, u77, u78, u79, u80, u81, u82, u83, u84, u85, u86, u87, u88, u89, u90, u91, u92, u93, u94, u95, u96, u97, u98, u99, u100, u101, u102, u103, u104, u105, u106, u107, u108, u109, u110, u111, u112, u113, u114, u115, u116, u117, u118, u119, u120, u121, u122, u123, u124, u125, u126, u127, u128, u129, u130, u131, u132, u133, u134, u135, u136, u137, u138, u139, u140, u141, u142, u143, u144, u145, u146, u147, u148, u149, u150, u151, u152, u153, u154, u155, u156, u157, u158, u159, u160, u161, u162, u163, u164, u165, u166, u167, u168, u169, u170, u171, u172, u173, u174, u175, u176, u177, u178, u179, u180, u181, u182, u183, u184, u185, u186, u187, u188, u189, u190, u191, u192, u193, u194, u195, u196, u197, u198, u199, u200, u201, u202, u203, u204, u205, u206, u207, u208, u209, u210, u211, u212, u213, u214, u215, u216, u217, u218, u219, u220], []⟩ wA := by
  obtain ⟨d0, d1, d2, d3, d4, d5, hgl⟩ := clo_cells hT.box
  have hrA : Rd wA ad q cd ds := hrW.below hT.bel
  conv => arg 2; whnf
  obtain ⟨M, HM⟩ : ∃ M, Hid (n * t = M) := ⟨_, rfl⟩
  have hMI : (n : Int) * (t : Int) = (M : Int) := by rw [← HM.out]; push_cast; rfl
  have hM45 : M ≤ 36 := by rw [← HM.out]; exact Nat.mul_le_mul hn9 ht4
  have HL : Hid ((padded ds M).length = s.n * s.t) := by unfold Hid; rw [padded_len, HN.out, HT.out, HM.out]
  have hTD := hT.same (Below.refl _ _).drew
  have hrD : Rd wA.drew ad q cd ds := hrA.drew
  have hwM : IntKind.i64.wrap ((M : Int)) = (M : Int) := by rw [IntKind.wrap_i64]; omega
  obtain ⟨s', r', HE, HV', HW', HE2⟩ : ∃ s' r', Hid (krfr s x (padded ds M) = (r', s')) ∧ Hid (Kvl s' gv) ∧ Hid (Kwf s') ∧ (s'.cnt = s.cnt ∧ s'.n = s.n ∧ s'.t = s.t ∧ s'.last = s.last) := by
    have hw := krfr_wf x (padded ds M) hw0
    cases hf : s.f x with
    | none =>
      have e : krfr s x (padded ds M) = (4, s) := by unfold krfr; rw [hf]
      exact ⟨s, 4, e, HVL.out, hw0, rfl, rfl, rfl, rfl⟩
    | some l =>
      have e : krfr s x (padded ds M) = (0, ktrn s x (mxl l (ksm s.n s.t false (padded ds M) s.n) 1 1 0 s.n)) := by unfold krfr; rw [hf]; simp only; rw [if_pos HL.out]
      rw [e] at hw
      obtain ⟨c, hgc, _⟩ := HVL.out.some hf
      exact ⟨_, 0, e, ktrn_vl HVL.out hf (fun hv => hv.fresh) hgc, hw.1, rfl, rfl, rfl, rfl⟩
  have HEN : Hid (s'.n = n ∧ s'.t = t ∧ s'.last ≤ j + 1 ∧ s'.cnt = s.cnt) := ⟨HE2.2.1.trans HN.out, HE2.2.2.1.trans HT.out, by rw [HE2.2.2.2]; omega, HE2.1⟩
  clear HE2
  go_wp2
  go_region_held3 (fun w' => w'.cell? ⟨gc, 2, none⟩ = some (.int .i64 x) ∧ w'.cell? ⟨gc, 5, none⟩ = some (.slice ad q cd)) (go_keep) (first | (go_at_call 29; refine (tFilled _ _ _ _ M _ hrD (by omega)).mono ?_; rintro e w2 ⟨g2, rfl, hr2, hb2⟩; have hT2 := hTD.same hb2; obtain ⟨e0, e1, e2, e3, e4, e5, hgl2⟩ := clo_cells hT2.box) | (go_at_call 46; refine (hT2.kt (fun G hG => qRefresh pk G s x _ _ _ _ _ hG hx hr2)).mono ?_; rintro e w3 ⟨rfl, hT3⟩; rw [HE.out] at hT3 ⊢; obtain ⟨g0, g1, g2', g3, g4, g5, hgl3⟩ := clo_cells hT3.box))
  all_goals
    go_wp2
    exact hK.out _ _ _ _ _ _ _ _ _ _ _ _ _ _ _ _ _ _ _ _ _ _ _ _ _ _ _ _ _ _ _ _ _ _ _ _ _ _ _ _ _ _ _ _ _ _ _ _ _ _ _ _ _ _ _ _ _ _ _ _ _ _ _ _ _ _ _ _ _ _ _ _ _ _ _ _ _ _ _ _ _ _ _ _ _ _ _ _ _ _ _ _ _ _ _ _ _ _ _ _ _ _ _ _ _ _ _ _ _ _ _ _ _ _ _ _ _ _ _ _ _ _ _ _ _ _ _ _ _ _ _ _ _ _ _ _ _ _ _ _ _ _ _ _ _ _ _ _ _ _ _ _ _ _ (hT3.told HV'.out HW'.out HEN.out.2.2.2.symm HEN.out.1 HEN.out.2.1 HEN.out.2.2.1)
theorem tkWay2 {w wA : World} {pk bm gc j q cd n t : Nat} {s : Kt} {gv : Int → Option Int}  {g x u v : Int} {ad : Option Addr} {ds : List Int}
    (qGen : KcGen) (qRefresh : KcRefresh) (qTweak : KcTweak) (qCombine : KcCombine) (qMultiply : KcMultiply) (qDrop : KcDrop)
    (hT : Tkb w pk bm s s.cnt gv gc (clo 2 g x u v ad q cd) wA) (HVL : Hid (Kvl s gv)) (hrW : Rd w ad q cd ds) (hw0 : Kwf s) (HN : Hid (s.n = n)) (HT : Hid (s.t = t)) (ht4 : t ≤ 4) (hn9 : n ≤ 9) (hnt : 2 * t + 1 ≤ n) (hg : -9223372036854775808 ≤ g ∧ g ≤ 9223372036854775807) (hx : -9223372036854775808 ≤ x ∧ x ≤ 9223372036854775807) (hu : 0 ≤ u ∧ u ≤ 18446744073709551615) (hv : 0 ≤ v ∧ v ≤ 18446744073709551615) (hl6 : s.last ≤ 1000000) (hlj : s.last ≤ j)
    {K' : Act → World → Prop} {Q : Exit → Act → World → Prop} {u2 u3 u4 u5 u6 u8 u10 u12 u13 u14 u15 u16 u17 u18 u19 u20 u21 u22 u23 u24 u25 u26 u27 u28 u29 u30 u31 u32 u33 u34 u35 u36 u37 u38 u39 u40 u41 u42 u43 u44 u45 u46 u47 u48 u49 u50 u51 u52 u53 u55 u56 u57 u58 u59 u60 u61 u62 u63 u64 u65 u66 u67 u68 u69 u70 u71 u72 u73 u74 u75 u76 u77 u78 u79 u80 u81 u82 u83 u84 u85 u86 u87 u88 u89 u90 u91 u92 u93 u94 u95 u96 u97 u98 u99 u100 u101 u102 u103 u104 u105 u106 u107 u108 u109 u110 u111 u112 u113 u114 u115 u116 u117 u118 u119 u120 u121 u122 u123 u124 u125 u126 u127 u128 u129 u130 u131 u132 u133 u134 u135 u136 u137 u138 u139 u140 u141 u142 u143 u144 u145 u146 u147 u148 u149 u150 u151 u152 u153 u154 u155 u156 u157 u158 u159 u160 u161 u162 u163 u164 u165 u166 u167 u168 u169 u170 u171 u172 u173 u174 u175 u176 u177 u178 u179 u180 u181 u182 u183 u184 u185 u186 u187 u188 u189 u190 u191 u192 u193 u194 u195 u196 u197 u198 u199 u200 u201 u202 u203 u204 u205 u206 u207 u208 u209 u210 u211 u212 u213 u214 u215 u216 u217 u218 u219 u220 : Value}
    (hK : Hid (∀ (v12 v13 v14 v15 v16 v17 v18 v19 v20 v21 v22 v55 v56 v57 v58 v59 v60 v61 v62 v63 v64 v65 v66 v67 v68 v69 v70 v71 v72 v73 v74 v75 v76 v77 v78 v79 v80 v81 v82 v83 v84 v85 v86 v87 v88 v89 v90 v91 v92 v93 v94 v95 v96 v97 v98 v99 v100 v101 v102 v103 v104 v105 v106 v107 v108 v109 v110 v111 v112 v113 v114 v115 v116 v117 v118 v119 v120 v121 v122 v123 v124 v125 v126 v127 v128 v129 v130 v131 v132 v133 v134 v135 v136 v137 v138 v139 v140 v141 v142 v143 v144 v145 v146 v147 v148 v149 v150 v151 v152 v153 v154 v155 v156 v157 v158 v159 v160 v161 v162 v163 v164 v165 v166 v167 v168 v169 v170 v171 v172 v173 v174 v175 v176 v177 v178 v179 v180 v181 v182 v183 v184 v185 v186 v187 v188 v189 v190 v191 v192 v193 v194 v195 v196 : Value) (w' : World), Tpw w pk bm j n t w' → K' ⟨#[.int .i64 (t : Int), .int .i64 (n : Int), u2, u3, u4, u5, u6, .pointer (some ⟨pk, 0, none⟩), u8, .map (some bm), u10, .pointer (some ⟨gc, 0, none⟩), v12, v13, v14, v15, v16, v17, v18, v19, v20, v21, v22, u23, u24, u25, u26, u27, u28, u29, u30, u31, u32, u33, u34, u35, u36, u37, u38, u39, u40, u41, u42, u43, u44, u45, u46, u47, u48, u49, u50, u51, u52, u53, .int .i64 2, v55, v56, v57, v58, v59, v60, v61, v62, v63, v64, v65, v66, v67, v68, v69, v70, v71, v72, v73, v74, v75, v76, v77, v78, v79, v80, v81, v82, v83, v84, v85, v86, v87, v88, v89, v90, v91, v92, v93, v94, v95, v96, v97, v98, v99, v100, v101, v102, v103, v104, v105, v106, v107, v108, v109, v110, v111, v112, v113, v114, v115, v116, v117, v118, v119, v120, v121, v122, v123, v124, v125, v126, v127, v128, v129, v130, v131, v132, v133, v134, v135, v136, v137, v138, v139, v140, v141, v142, v143, v144, v145, v146, v147, v148, v149, v150, v151, v152, v153, v154, v155, v156, v157, v158, v159, v160, v161, v162, v163, v164, v165, v166, v167, v168, v169, v170, v171, v172, v173, v174, v175, v176, v177, v178, v179, v180, v181, v182, v183, v184, v185, v186, v187, v188, v189, v190, v191, v192, v193, v194, v195, v196, u197, u198, u199, u200, u201, u202, u203, u204, u205, u206, u207, u208, u209, u210, u211, u212, u213, u214, u215, u216, u217, u218, u219, u220], []⟩ w')) :
    Code.wp Tryd.prog ((Tryd.f8.body.bind pickB3).getD .skip) (Exit.then K' Q) ⟨#[.int .i64 (t : Int), .int .i64 (n : Int), u2, u3, u4, u5, u6, .pointer (some ⟨pk, 0, none⟩), u8, .map (some bm), u10, .pointer (some ⟨gc, 0, none⟩), u12, u13, u14, u15, u16, u17, u18, u19, u20, u21, u22, u23, u24, u25, u26, u27, u28, u29, u30, u31, u32, u33, u34, u35, u36, u37, u38, u39, u40, u41, u42, u43, u44, u45, u46, u47, u48, u49, u50, u51, u52, u53, .int .i64 2, u55, u56, u57, u58, u59, u60, u61, u62, u63, u64, u65, u66, u67, u68, u69, u70, u71, u72, u73, u74, u75, u76, u77, u78, u79, u80, u81, u82, u83, u84, u85, u86, u87, u88, u89, u90, u91, u92, u93, u94, u95, u96, u97, u98, u99, u100, u101, u102, u103, u104, u105, u106, u107, u108, u109, u110, u111, u112, u113, u114, u115, u116, u117, u118, u119, u120, u121, u122, u123, u124, u125, u126, u127, u128, u129, u130, u131, u132, u133, u134, u135, u136, u137, u138, u139, u140, u141, u142, u143, u144, u145, u146, u147, u148, u149, u150, u151, u152, u153, u154, u155, u156, u157, u158, u159, u160, u161, u162, u163, u164, u165, u166, u167, u168, u169, u170, u171, u172, u173, u174, u175, u176, u177, u178, u179, u180, u181, u182, u183, u184, u185, u186, u187, u188, u189, u190, u191, u192, u193, u194, u195, u196, u197, u198, u199, u200, u201, u202, u203, u204, u205, u206, u207, u208, u209, u210, u211, u212, u213, u214, u215, u216, u217, u218, u219, u220], []⟩ wA := by
  obtain ⟨d0, d1, d2, d3, d4, d5, hgl⟩ := clo_cells hT.box
  have hrA : Rd wA ad q cd ds := hrW.below hT.bel
  conv => arg 2; whnf
  cases hf : s.f x with
  | none =>
    have HE : Hid (kmix s x x 1 0 u = (0, 4, s)) := by unfold Hid kmix; rw [hf]
    clear hf
    go_wp2_with (go_at_call 47; refine (hT.k (fun G hG => qTweak pk G s x u _ hG hx hu.1 hu.2 hl6)).mono ?_; rintro e w2 ⟨rfl, hT2⟩; rw [HE.out] at hT2 ⊢)
    exact hK.out _ _ _ _ _ _ _ _ _ _ _ _ _ _ _ _ _ _ _ _ _ _ _ _ _ _ _ _ _ _ _ _ _ _ _ _ _ _ _ _ _ _ _ _ _ _ _ _ _ _ _ _ _ _ _ _ _ _ _ _ _ _ _ _ _ _ _ _ _ _ _ _ _ _ _ _ _ _ _ _ _ _ _ _ _ _ _ _ _ _ _ _ _ _ _ _ _ _ _ _ _ _ _ _ _ _ _ _ _ _ _ _ _ _ _ _ _ _ _ _ _ _ _ _ _ _ _ _ _ _ _ _ _ _ _ _ _ _ _ _ _ _ _ _ _ _ _ _ _ _ _ _ _ _ (hT2.told HVL.out hw0 rfl HN.out HT.out (by omega))
  | some l =>
    obtain ⟨c, hgc, hks⟩ := HVL.out.some hf
    have HGC : Hid (gv x = some c) := hgc
    have hcb := hks.val
    rcases kadd_cases s (mxl l l 1 0 u s.n) with ⟨_, e⟩ | ⟨h8, e⟩
    · have HE : Hid (kmix s x x 1 0 u = (0, 2, s)) := by unfold Hid kmix; rw [hf]; exact e
      clear hf e hks hgc
      go_wp2_with (go_at_call 47; refine (hT.k (fun G hG => qTweak pk G s x u _ hG hx hu.1 hu.2 hl6)).mono ?_; rintro e w2 ⟨rfl, hT2⟩; rw [HE.out] at hT2 ⊢)
      exact hK.out _ _ _ _ _ _ _ _ _ _ _ _ _ _ _ _ _ _ _ _ _ _ _ _ _ _ _ _ _ _ _ _ _ _ _ _ _ _ _ _ _ _ _ _ _ _ _ _ _ _ _ _ _ _ _ _ _ _ _ _ _ _ _ _ _ _ _ _ _ _ _ _ _ _ _ _ _ _ _ _ _ _ _ _ _ _ _ _ _ _ _ _ _ _ _ _ _ _ _ _ _ _ _ _ _ _ _ _ _ _ _ _ _ _ _ _ _ _ _ _ _ _ _ _ _ _ _ _ _ _ _ _ _ _ _ _ _ _ _ _ _ _ _ _ _ _ _ _ _ _ _ _ _ _ (hT2.told HVL.out hw0 rfl HN.out HT.out (by omega))
    · have HE : Hid (kmix s x x 1 0 u = ((s.last : Int) + 1, 0, kput s (mxl l l 1 0 u s.n))) := by unfold Hid kmix; rw [hf]; exact e
      have hks2 := hks.mix 1 0 u hks
      have HV2 : Hid (Ksh s.n s.t (mxl l l 1 0 u s.n) (nm (c + u))) := by
        unfold Hid
        rw [Int.one_mul, Int.zero_mul, Int.add_zero] at hks2
        exact hks2
      have HW2 : Hid (Kwf (kput s (mxl l l 1 0 u s.n))) := kput_wf hw0 h8 (mxl_len _ _ _ _ _ _) (mxl_bd _ _ _ _ _ _)
      have HNL : Hid (gv ((s.last : Int) + 1) = none) := HVL.out.fresh hw0
      have HGX : Hid ((gv x).getD 0 = c) := by unfold Hid; rw [HGC.out]; rfl
      have hnb := nm_bd (c + u)
      have hL1 : i64r ((s.last : Int) + 1) := ⟨by omega, by omega⟩
      have hc1000 : s.cnt ≤ 1000 := by omega
      clear hf e hks hks2 hgc
      go_wp2_with (first | (go_at_call 47; refine (hT.k (fun G hG => qTweak pk G s x u _ hG hx hu.1 hu.2 hl6)).mono ?_; rintro e w2 ⟨rfl, hT2⟩; rw [HE.out] at hT2 ⊢; obtain ⟨e0, e1, e2, e3, e4, e5, hgl2⟩ := clo_cells hT2.box) | (at_lookup; refine wpList_lookU _ rfl _ _ 86 rfl Tryd.underlying86 bm _ gv rfl hT2.map x rfl hx ?_; rw [HGX.out]) | (go_at_call 45; refine (fAdd c u _ (by omega) (by omega) hu.1 hu.2).mono ?_; rintro e w4 ⟨rfl, hw⟩; have hw := hw.symm; subst hw) | (at_mapUpdate; refine wpList_putU _ rfl _ _ _ 86 rfl Tryd.underlying86 bm _ gv rfl hT2.map hc1000 ((s.last : Int) + 1) (nm (c + u)) rfl rfl hL1 (by omega) ?_; intro w3 hM3 hg3; rw [HNL.out] at hM3; have hT3 := hT2.put hM3 hg3))
      exact hK.out _ _ _ _ _ _ _ _ _ _ _ _ _ _ _ _ _ _ _ _ _ _ _ _ _ _ _ _ _ _ _ _ _ _ _ _ _ _ _ _ _ _ _ _ _ _ _ _ _ _ _ _ _ _ _ _ _ _ _ _ _ _ _ _ _ _ _ _ _ _ _ _ _ _ _ _ _ _ _ _ _ _ _ _ _ _ _ _ _ _ _ _ _ _ _ _ _ _ _ _ _ _ _ _ _ _ _ _ _ _ _ _ _ _ _ _ _ _ _ _ _ _ _ _ _ _ _ _ _ _ _ _ _ _ _ _ _ _ _ _ _ _ _ _ _ _ _ _ _ _ _ _ _ _ (hT3.told (kput_vl HVL.out HV2.out) HW2.out rfl HN.out HT.out (by show s.last + 1 ≤ j + 1; omega))
end
end Go.Proofs.YtljlioglpaogdagDoor
