/- crofttop.TopKeys: a store and a plain map side by side; the switch over a call, taken out of the translation; what it leaves. · croftkeep.KeysReckon: the walk. -/
import Derived.Test.YtljlioglpaogdafToDealtC
import Derived.Test.YtljlioglpaogdafToTimesC
import Derived.Test.YtljlioglpaogdafMapU
import Derived.Test.YtljlioglpaogdafCallR
import Derived.Test.YtljlioglpaogdafToLstC
import Derived.Deep.DeepCutAuto
import Derived.Deep.RegionWith
import Derived.Deep.RegionLaw
import Derived.Deep.RegionHeld3
import Derived.Deep.CutBlock
import Derived.Deep.CutRange
import Derived.Test.YtljlioglpaogdafToOpenC
import Derived.Test.YtljlioglpaogdafKrMap
namespace Go.Proofs.Ytljlioglpaogdaf
set_option linter.unusedVariables false
set_option maxRecDepth 100000
set_option maxHeartbeats 8000000
section
open Crm Go.RowKit
theorem lt_of_someT {w : World} {i : Nat} {o : Obj} (h : w.heap[i]? = some o) : i < w.heap.size := (Array.getElem?_eq_some_iff.1 h).1
/-- The store at pk has state s, the map at bm has the q entries g, the block gc holds o. -/
def Tkb (w0 : World) (pk bm : Nat) (s : Kt) (q : Nat) (g : Int → Option Int) (gc : Nat) (o : Obj) (wr : World) : Prop :=
  ∃ Gk : Nat → Prop, Kst wr pk Gk s ∧ MapU wr bm q g ∧ ¬ Gk bm ∧ (∀ i, Gk i → w0.heap.size ≤ i) ∧ w0.heap.size ≤ bm ∧ (wr.heap[gc]? = some o ∧ ¬ Gk gc ∧ gc ≠ bm) ∧ Below w0.heap.size w0 wr
/-- .. and no such block; of each key the map has what is told. -/
def Tkp (w0 : World) (pk bm : Nat) (s : Kt) (g : Int → Option Int) (wr : World) : Prop :=
  ∃ Gk : Nat → Prop, Kst wr pk Gk s ∧ MapU wr bm s.cnt g ∧ ¬ Gk bm ∧ (∀ i, Gk i → w0.heap.size ≤ i) ∧ w0.heap.size ≤ bm ∧ Kvl s g ∧ Below w0.heap.size w0 wr
def Tpw (w0 : World) (pk bm j n t : Nat) (wx : World) : Prop := ∃ s g, Tkp w0 pk bm s g wx ∧ s.n = n ∧ s.t = t ∧ s.last ≤ j + 1 ∧ Kwf s
theorem Tkb.bel {w0 wr : World} {pk bm q gc : Nat} {s : Kt} {g : Int → Option Int} {o : Obj} (h : Tkb w0 pk bm s q g gc o wr) : Below w0.heap.size w0 wr := by
  obtain ⟨_, _, _, _, _, _, _, h7⟩ := h
  exact h7
theorem Tkb.map {w0 wr : World} {pk bm q gc : Nat} {s : Kt} {g : Int → Option Int} {o : Obj} (h : Tkb w0 pk bm s q g gc o wr) : MapU wr bm q g := by
  obtain ⟨_, _, h2, _⟩ := h
  exact h2
theorem Tkb.same {w0 wr w' : World} {pk bm q gc : Nat} {s : Kt} {g : Int → Option Int} {o : Obj} (h : Tkb w0 pk bm s q g gc o wr) (hb : Below wr.heap.size wr w') : Tkb w0 pk bm s q g gc o w' := by
  obtain ⟨Gk, h1, h2, h3, h4, h5, h6, h7⟩ := h
  exact ⟨Gk, h1.same hb, h2.block (hb.block bm h2.lt), h3, h4, h5, ⟨by rw [hb.block gc (lt_of_someT h6.1)]; exact h6.1, h6.2⟩, h7.trans (hb.mono h7.size)⟩
theorem Tkb.turn {w0 w w' : World} {pk bm q gc : Nat} {r : Kt} {g : Int → Option Int} {o : Obj} {Gk : Nat → Prop} (h2 : MapU w bm q g) (h3 : ¬ Gk bm) (h4 : ∀ i, Gk i → w0.heap.size ≤ i) (h5 : w0.heap.size ≤ bm) (h6 : w.heap[gc]? = some o ∧ ¬ Gk gc ∧ gc ≠ bm) (h7 : Below w0.heap.size w0 w)
    (hk : Kst w' pk (Gnx Gk w w') r) (ht : Tch w w' Gk) : Tkb w0 pk bm r q g gc o w' := by
  have l1 := h2.lt
  have l2 := lt_of_someT h6.1
  refine ⟨Gnx Gk w w', hk, h2.block (ht.block bm l1 h3), fun e => ?_, Gnx.ge h4 h7.size, h5, ⟨by rw [ht.block gc l2 h6.2.1]; exact h6.1, fun e => ?_, h6.2.2⟩, ht.below h7 h4 h7.size⟩
  · rcases e with e | e
    · exact h3 e
    · omega
  · rcases e with e | e
    · exact h6.2.1 e
    · omega
theorem Tkb.k {w0 w : World} {pk bm q gc N : Nat} {s : Kt} {g : Int → Option Int} {o : Obj} {args : Array Value} {r : Int × Int × Kt} (J : Tkb w0 pk bm s q g gc o w) (hc : ∀ G, Kst w pk G s → Calls Try.prog N args w (Kke pk G r w)) : Calls Try.prog N args w fun e w' => e = .returned (.tuple #[.int .i64 r.1, .int .i64 r.2.1]) ∧ Tkb w0 pk bm r.2.2 q g gc o w' := by
  obtain ⟨Gk, h1, h2, h3, h4, h5, h6, h7⟩ := J
  exact (hc Gk h1).mono fun e w' ⟨e1, e2, e3⟩ => ⟨e1, Tkb.turn h2 h3 h4 h5 h6 h7 e2 e3⟩
theorem Tkb.kt {w0 w : World} {pk bm q gc N : Nat} {s : Kt} {g : Int → Option Int} {o : Obj} {args : Array Value} {r : Int × Kt} (J : Tkb w0 pk bm s q g gc o w) (hc : ∀ G, Kst w pk G s → Calls Try.prog N args w (Kkt pk G r w)) : Calls Try.prog N args w fun e w' => e = .returned (.int .i64 r.1) ∧ Tkb w0 pk bm r.2 q g gc o w' := by
  obtain ⟨Gk, h1, h2, h3, h4, h5, h6, h7⟩ := J
  exact (hc Gk h1).mono fun e w' ⟨e1, e2, e3⟩ => ⟨e1, Tkb.turn h2 h3 h4 h5 h6 h7 e2 e3⟩
/-- The map alone has turned. -/
theorem Tkb.put {w0 w w' : World} {pk bm q q' gc : Nat} {s : Kt} {g g' : Int → Option Int} {o : Obj} (J : Tkb w0 pk bm s q g gc o w) (hm : MapU w' bm q' g') (hg : w.grownBy w' (some bm)) : Tkb w0 pk bm s q' g' gc o w' := by
  obtain ⟨Gk, h1, h2, h3, h4, h5, h6, h7⟩ := J
  have ht : Tch w w' (fun i => i = bm) := ⟨hg.os, hg.tape, hg.output, hg.size, fun i hi hn => hg.block i hi (by simpa using hn)⟩
  exact ⟨Gk, h1.aside ht (fun i g e => h3 (e ▸ g)), hm, h3, h4, h5, ⟨by rw [ht.block gc (lt_of_someT h6.1) h6.2.2]; exact h6.1, h6.2⟩, ht.below h7 (fun i e => e ▸ h5) h7.size⟩
/-- What the switch leaves. -/
theorem Tkb.told {w0 w : World} {pk bm q gc j n t : Nat} {s : Kt} {g : Int → Option Int} {o : Obj} (J : Tkb w0 pk bm s q g gc o w) (hv : Kvl s g) (hw : Kwf s) (hq : q = s.cnt) (hn : s.n = n) (ht : s.t = t) (hl : s.last ≤ j + 1) : Tpw w0 pk bm j n t w := by
  obtain ⟨Gk, h1, h2, h3, h4, h5, _, h7⟩ := J
  subst hq
  exact ⟨s, g, ⟨Gk, h1, h2, h3, h4, h5, hv, h7⟩, hn, ht, hl, hw⟩
theorem Tkp.on {w0 wr : World} {pk bm : Nat} {s : Kt} {g : Int → Option Int} (h : Tkp w0 pk bm s g wr) (o : Obj) : Tkb w0 pk bm s s.cnt g wr.heap.size o (wr.alloc o) := by
  obtain ⟨Gk, h1, h2, h3, h4, h5, _, h7⟩ := h
  have hb : Below wr.heap.size wr (wr.alloc o) := (Below.refl _ _).alloc (Nat.le_refl _) _
  have l2 := h2.lt
  exact ⟨Gk, h1.same hb, h2.block (hb.block bm l2), h3, h4, h5, ⟨heap_alloc_new wr o, fun g => by have := h1.lt _ g; omega, by omega⟩, h7.trans (hb.mono h7.size)⟩
theorem Kvl.fresh {s : Kt} {g : Int → Option Int} (h : Kvl s g) (w : Kwf s) : g ((s.last : Int) + 1) = none := by
  rcases h ((s.last : Int) + 1) with e | ⟨l, _, e, _⟩
  · exact e.2
  · have := (w.key _ l e).1
    omega
/-- The map is ranged over by block r; cnt entries are still to come. -/
def Tkr (w0 : World) (pk bm r : Nat) (s : Kt) (g : Int → Option Int) (cnt : Nat) (wr : World) : Prop :=
  ∃ Gk : Nat → Prop, Kst wr pk Gk s ∧ RngU wr bm r s.cnt g cnt ∧ ¬ Gk bm ∧ ¬ Gk r ∧ (∀ i, Gk i → w0.heap.size ≤ i) ∧ w0.heap.size ≤ bm ∧ w0.heap.size ≤ r ∧ Below w0.heap.size w0 wr
theorem RngU.left {w : World} {b r q cnt : Nat} {g : Int → Option Int} (h : RngU w b r q g cnt) : w.rangeLeft b r = cnt := by
  obtain ⟨D, left, h1, _⟩ := h
  exact h1.left_eq
theorem Tkr.rng {w0 wr : World} {pk bm r cnt : Nat} {s : Kt} {g : Int → Option Int} (h : Tkr w0 pk bm r s g cnt wr) : RngU wr bm r s.cnt g cnt := by
  obtain ⟨_, _, h2, _⟩ := h
  exact h2
theorem Tkp.range {w0 w w' : World} {pk bm : Nat} {s : Kt} {g : Int → Option Int} (h : Tkp w0 pk bm s g w) (hr : RngU w' bm w.heap.size s.cnt g s.cnt) (hg : w.grownBy w' none) : Tkr w0 pk bm w.heap.size s g s.cnt w' := by
  obtain ⟨Gk, h1, h2, h3, h4, h5, _, h7⟩ := h
  have hb : Below w.heap.size w w' := ⟨hg.os, hg.tape, hg.output, hg.size, fun i hi => hg.block i hi (by simp)⟩
  exact ⟨Gk, h1.same hb, hr, h3, fun g => by have := h1.lt _ g; omega, h4, h5, h7.size, h7.trans (hb.mono h7.size)⟩
theorem Tkr.next {w0 w w' : World} {pk bm r cnt cnt' : Nat} {s : Kt} {g : Int → Option Int} (h : Tkr w0 pk bm r s g cnt w) (hr : RngU w' bm r s.cnt g cnt') (hg : w.grownBy w' (some r)) : Tkr w0 pk bm r s g cnt' w' := by
  obtain ⟨Gk, h1, h2, h3, h4, h5, h6, h7, h8⟩ := h
  have ht : Tch w w' (fun i => i = r) := ⟨hg.os, hg.tape, hg.output, hg.size, fun i hi hn => hg.block i hi (by simpa using hn)⟩
  exact ⟨Gk, h1.aside ht (fun i g e => h4 (e ▸ g)), hr, h3, h4, h5, h6, h7, ht.below h8 (fun i e => e ▸ h7) h8.size⟩
theorem Tkr.same {w0 w w' : World} {pk bm r cnt : Nat} {s : Kt} {g : Int → Option Int} (h : Tkr w0 pk bm r s g cnt w) (hb : Below w.heap.size w w') : Tkr w0 pk bm r s g cnt w' := by
  obtain ⟨Gk, h1, h2, h3, h4, h5, h6, h7, h8⟩ := h
  exact ⟨Gk, h1.same hb, h2.kept (hb.block bm h2.map.lt) (hb.block r h2.lt), h3, h4, h5, h6, h7, h8.trans (hb.mono h8.size)⟩
theorem Tkr.kr {w0 w : World} {pk bm r cnt N : Nat} {s : Kt} {g : Int → Option Int} {args : Array Value} {Q : Ending → World → Prop} (J : Tkr w0 pk bm r s g cnt w) (hc : ∀ G, Kst w pk G s → Calls Try.prog N args w Q) : Calls Try.prog N args w Q := by
  obtain ⟨Gk, h1, _⟩ := J
  exact hc Gk h1
theorem Tkr.off {w0 w : World} {pk bm r cnt : Nat} {s : Kt} {g : Int → Option Int} (h : Tkr w0 pk bm r s g cnt w) (hv : Kvl s g) : Tkp w0 pk bm s g w := by
  obtain ⟨Gk, h1, h2, h3, _, h5, h6, _, h8⟩ := h
  exact ⟨Gk, h1, h2.map, h3, h5, h6, hv, h8⟩
theorem Tkp.bel {w0 w : World} {pk bm : Nat} {s : Kt} {g : Int → Option Int} (h : Tkp w0 pk bm s g w) : Below w0.heap.size w0 w := by
  obtain ⟨_, _, _, _, _, _, _, h7⟩ := h
  exact h7
theorem Tkp.map {w0 w : World} {pk bm : Nat} {s : Kt} {g : Int → Option Int} (h : Tkp w0 pk bm s g w) : MapU w bm s.cnt g := by
  obtain ⟨_, _, h2, _⟩ := h
  exact h2
theorem Tkp.vl {w0 w : World} {pk bm : Nat} {s : Kt} {g : Int → Option Int} (h : Tkp w0 pk bm s g w) : Kvl s g := by
  obtain ⟨_, _, _, _, _, _, h6, _⟩ := h
  exact h6
theorem Tkp.new {w0 w : World} {pk : Nat} {G : Nat → Prop} {n t : Nat} (h : Kst w pk G (k0 n t)) (hG : ∀ i, G i → w0.heap.size ≤ i) (hb : Below w0.heap.size w0 w) : Tkp w0 pk w.heap.size (k0 n t) (fun _ => none) (w.alloc (.map #[] 0)) := by
  have hb2 : Below w.heap.size w (w.alloc (.map #[] 0)) := (Below.refl _ _).alloc (Nat.le_refl _) _
  exact ⟨G, h.same hb2, MapU.made w, fun g => by have := h.lt _ g; omega, hG, hb.size, k0_vl n t, hb.trans (hb2.mono hb.size)⟩
/-- The store at pk has state s. -/
def Kq (w0 : World) (pk : Nat) (s : Kt) (wr : World) : Prop := ∃ Gk : Nat → Prop, Kst wr pk Gk s ∧ (∀ i, Gk i → w0.heap.size ≤ i) ∧ Below w0.heap.size w0 wr
theorem Kq.bel {w0 wr : World} {pk : Nat} {s : Kt} (h : Kq w0 pk s wr) : Below w0.heap.size w0 wr := by
  obtain ⟨_, _, _, h⟩ := h
  exact h
theorem Kq.same {w0 wr w' : World} {pk : Nat} {s : Kt} (h : Kq w0 pk s wr) (hb : Below wr.heap.size wr w') : Kq w0 pk s w' := by
  obtain ⟨Gk, h1, h2, h3⟩ := h
  exact ⟨Gk, h1.same hb, h2, h3.trans (hb.mono h3.size)⟩
theorem Kq.k {w0 w : World} {pk N : Nat} {s : Kt} {args : Array Value} {r : Int × Int × Kt} (J : Kq w0 pk s w) (hc : ∀ G, Kst w pk G s → Calls Try.prog N args w (Kke pk G r w)) : Calls Try.prog N args w fun e w' => e = .returned (.tuple #[.int .i64 r.1, .int .i64 r.2.1]) ∧ Kq w0 pk r.2.2 w' := by
  obtain ⟨Gk, h1, h2, h3⟩ := J
  exact (hc Gk h1).mono fun e w' ⟨e1, e2, e3⟩ => ⟨e1, Gnx Gk w w', e2, Gnx.ge h2 h3.size, e3.below h3 h2 h3.size⟩
theorem Kq.kt {w0 w : World} {pk N : Nat} {s : Kt} {args : Array Value} {r : Int × Kt} (J : Kq w0 pk s w) (hc : ∀ G, Kst w pk G s → Calls Try.prog N args w (Kkt pk G r w)) : Calls Try.prog N args w fun e w' => e = .returned (.int .i64 r.1) ∧ Kq w0 pk r.2 w' := by
  obtain ⟨Gk, h1, h2, h3⟩ := J
  exact (hc Gk h1).mono fun e w' ⟨e1, e2, e3⟩ => ⟨e1, Gnx Gk w w', e2, Gnx.ge h2 h3.size, e3.below h3 h2 h3.size⟩
theorem Kq.kr {w0 w : World} {pk N : Nat} {s : Kt} {args : Array Value} {Q : Ending → World → Prop} (J : Kq w0 pk s w) (hc : ∀ G, Kst w pk G s → Calls Try.prog N args w Q) : Calls Try.prog N args w Q := by
  obtain ⟨Gk, h1, _⟩ := J
  exact hc Gk h1
theorem Kq.new {w0 w : World} {pk : Nat} {G : Nat → Prop} {s : Kt} (h : Kst w pk G s) (hG : ∀ i, G i → w0.heap.size ≤ i) (hb : Below w0.heap.size w0 w) : Kq w0 pk s w := ⟨G, h, hG, hb⟩

/-- The map's entries are what the keys have. -/
theorem vat_krG (v1 v2 v3 v4 v5 : Int) : krG v1 v2 v3 v4 v5 true true true true true = vat [v1, v2, v3, v4, v5] := by
  funext k
  unfold krG vat
  by_cases h1 : k = 1
  · subst h1; rfl
  by_cases h2 : k = 2
  · subst h2; rfl
  by_cases h3 : k = 3
  · subst h3; rfl
  by_cases h4 : k = 4
  · subst h4; rfl
  by_cases h5 : k = 5
  · subst h5; rfl
  rw [if_neg h1, if_neg h2, if_neg h3, if_neg h4, if_neg h5, if_neg (by simp; omega)]

theorem keysReckonW (qNew : KcNew) (qGen : KcGen) (qRefresh : KcRefresh) (qTweak : KcTweak) (qCombine : KcCombine) (qMultiply : KcMultiply) (qOpen : KcOpen) (qDrop : KcDrop)
    (t n : Int) (a1 : Option Addr) (m1 c1 : Nat) (d : List Int) (a2 : Option Addr) (m2 c2 : Nat) (f : List Int) (a b : Int) (w : World) (hd : Rd w a1 m1 c1 d) (hf : Rd w a2 m2 c2 f) (ha0 : 0 ≤ a) (ha1 : a ≤ 18446744073709551615) (hb0 : 0 ≤ b) (hb1 : b ≤ 18446744073709551615) :
    Calls Try.prog 3 #[.int .i64 t, .int .i64 n, .slice a1 m1 c1, .slice a2 m2 c2, .int .u64 a, .int .u64 b] w fun e w' => e = .returned (.bool true) ∧ Below w.heap.size w w' := by
  have hmm := @run_makeMap Try.prog
  go_enter Try.func3, Try.ntmps3
  go_wp2_with fail
  refine (qNew 1 0 _ ⟨by omega, by omega⟩ ⟨by omega, by omega⟩).mono ?_
  rintro e w1 ⟨⟨hbad, _⟩ | ⟨n2, t2, pj, Gj, e1, e2, _, _, _, rfl, hK, hGk⟩, hbw1⟩
  · exact absurd ⟨by omega, by omega, by omega⟩ hbad
  obtain rfl : n2 = 1 := by omega
  obtain rfl : t2 = 0 := by omega
  have hq1 := Kq.new hK hGk hbw1
  have hbA : Below w1.heap.size w1 (w1.alloc (.cells #[.int .u64 9] 23)) := (Below.refl _ _).alloc (Nat.le_refl _) _
  have hqA := hq1.same hbA
  have r9 : Rd (w1.alloc (.cells #[.int .u64 9] 23)) (some ⟨w1.heap.size, 0, none⟩) 1 1 [9] := (Blk.lit1 w1 9).whole 1 rfl (by unfold maxLen; omega) (fun u hu => by rw [List.mem_singleton.1 hu]; omega)
  obtain ⟨s1, HE1, HA1⟩ : ∃ s1, Hid (kgen (k0 1 0) [9] = (1, 0, s1)) ∧ Hid (Kab s1 1 0 [9]) := by
    obtain ⟨s1, e, h⟩ := (k0_ab (n := 1) (t := 0) (by omega) (by omega) (by omega)).gen (by simp) (ds := [9]) rfl
    exact ⟨s1, by unfold Hid; simpa using e, h⟩
  clear hK hGk hbw1 hq1 hbA e1 e2
  go_wp2_with fail
  generalize w1.alloc (.cells #[.int .u64 9] 23) = wA at *
  refine (hqA.k (fun G hG => qGen pj G (k0 1 0) _ _ _ _ _ hG r9 (by show 0 ≤ 1000000; omega))).mono ?_
  rintro e w2 ⟨rfl, hq2⟩
  rw [HE1.out] at hq2 ⊢
  clear hqA r9
  go_wp2_with fail
  refine (hq2.kr (fun G hG => qOpen pj G s1 1 _ hG ⟨by omega, by omega⟩)).mono ?_
  rintro e w3 ⟨y, r, rfl, hO, hb3⟩
  obtain ⟨rfl, rfl⟩ := HA1.out.told (by omega) (by simp) hO
  have hbw3 := (hq2.same hb3).bel
  clear hq2 hb3 hO
  have h99 : ([9] : List Int).getD ((1 : Int) - 1).toNat 0 = 9 := rfl
  rw [h99]
  go_wp2_with fail
  refine (kCrew t n _).mono ?_
  rintro e w3' ⟨⟨t', n', rfl, ht4, hnt, hn9⟩, hw⟩
  have hw := hw.symm
  subst hw
  go_wp2_with fail
  refine (qNew (n' : Int) (t' : Int) _ ⟨by omega, by omega⟩ ⟨by omega, by omega⟩).mono ?_
  rintro e w4 ⟨⟨hbad, _⟩ | ⟨n2, t2, pk, Gk, e1, e2, _, _, _, rfl, hK, hGk⟩, hb4⟩
  · exact absurd ⟨by omega, by omega, by omega⟩ hbad
  obtain rfl : n' = n2 := by omega
  obtain rfl : t' = t2 := by omega
  have hq4 := Kq.new hK (fun i g => Nat.le_trans hbw3.size (hGk i g)) (hbw3.trans (hb4.mono hbw3.size))
  clear hK hGk hb4 e1 e2 hbw3
  obtain ⟨T1, HT1⟩ : ∃ T1, Hid (t' + 1 = T1) := ⟨_, rfl⟩
  have hT1 : (t' : Int) + 1 = (T1 : Int) := by rw [← HT1.out]; omega
  obtain ⟨M, HM⟩ : ∃ M, Hid (n' * T1 = M) := ⟨_, rfl⟩
  have hMI : (n' : Int) * (T1 : Int) = (M : Int) := by rw [← HM.out]; push_cast; rfl
  have hM45 : M ≤ 45 := by rw [← HM.out]; exact Nat.mul_le_mul hn9 (show T1 ≤ 5 by rw [← HT1.out]; omega)
  obtain ⟨P, HP⟩ : ∃ P, Hid (n' * t' = P) := ⟨_, rfl⟩
  have hPI : (n' : Int) * (t' : Int) = (P : Int) := by rw [← HP.out]; push_cast; rfl
  have hP45 : P ≤ 36 := by rw [← HP.out]; exact Nat.mul_le_mul hn9 ht4
  have HL1 : Hid ((padded d M).length = n' * (t' + 1)) := by unfold Hid; rw [padded_len, HT1.out, HM.out]
  have HL2 : Hid ((padded f M).length = n' * (t' + 1)) := by unfold Hid; rw [padded_len, HT1.out, HM.out]
  have HL3 : Hid ((padded d P).length = n' * t') := by unfold Hid; rw [padded_len, HP.out]
  obtain ⟨v1, HV1⟩ : ∃ v, Hid (ksv t' true (padded d M) n' = v) := ⟨_, rfl⟩
  obtain ⟨v2, HV2⟩ : ∃ v, Hid (ksv t' true (padded f M) n' = v) := ⟨_, rfl⟩
  have hv1 := (ksm_ksh n' t' true (padded d M) n').val
  have hv2 := (ksm_ksh n' t' true (padded f M) n').val
  rw [HV1.out] at hv1
  rw [HV2.out] at hv2
  obtain ⟨s2, HE2, HA2⟩ : ∃ s', Hid (kgen (k0 n' t') (padded d M) = (1, 0, s')) ∧ Hid (Kab s' n' t' [v1]) := by
    obtain ⟨s', e, h⟩ := (k0_ab ht4 hn9 hnt).gen (by simp) HL1.out
    rw [HV1.out] at h
    exact ⟨s', by unfold Hid; simpa using e, h⟩
  obtain ⟨s3, HE3, HA3⟩ : ∃ s', Hid (kgen s2 (padded f M) = (2, 0, s')) ∧ Hid (Kab s' n' t' [v1, v2]) := by
    obtain ⟨s', e, h⟩ := HA2.out.gen (by simp) HL2.out
    rw [HV2.out] at h
    exact ⟨s', by unfold Hid; simpa using e, h⟩
  obtain ⟨s4, HE4, HA4⟩ : ∃ s', Hid (kmix s3 1 1 1 0 a = (3, 0, s')) ∧ Hid (Kab s' n' t' [v1, v2, nm (v1 + a)]) := by
    obtain ⟨s', e, h⟩ := HA3.out.mix (by simp) (g := 1) (k := 1) (by omega) (by simp) (by omega) (by simp) 1 0 a
    exact ⟨s', by unfold Hid; simpa using e, by unfold Hid; simpa using h⟩
  obtain ⟨s5, HE5, HA5⟩ : ∃ s', Hid (kmix s4 1 2 a b 0 = (4, 0, s')) ∧ Hid (Kab s' n' t' [v1, v2, nm (v1 + a), nm (nm (a * v1) + nm (b * v2))]) := by
    obtain ⟨s', e, h⟩ := HA4.out.mix (by simp) (g := 1) (k := 2) (by omega) (by simp) (by omega) (by simp) a b 0
    refine ⟨s', by unfold Hid; simpa using e, ?_⟩
    unfold Hid
    rw [nm_addl, nm_addr]
    simpa using h
  obtain ⟨s6, HE6, HA6⟩ : ∃ s', Hid (kmul s5 1 2 (padded d P) = (5, 0, s')) ∧ Hid (Kab s' n' t' [v1, v2, nm (v1 + a), nm (nm (a * v1) + nm (b * v2)), nm (v1 * v2)]) := by
    obtain ⟨s', e, h⟩ := HA5.out.mul (by simp) (g := 1) (k := 2) (by omega) (by simp) (by omega) (by simp) HL3.out
    exact ⟨s', by unfold Hid; simpa using e, by unfold Hid; simpa using h⟩
  obtain ⟨s7, HE7, HA7⟩ : ∃ s', Hid (krfr s6 2 (padded d P) = (0, s')) ∧ Hid (Kab s' n' t' [v1, v2, nm (v1 + a), nm (nm (a * v1) + nm (b * v2)), nm (v1 * v2)]) := by
    obtain ⟨s', e, h⟩ := HA6.out.rfr (k := 2) (by omega) (by simp) HL3.out
    exact ⟨s', e, h⟩
  have hi1 : i64r 1 := ⟨by omega, by omega⟩
  have hi2 : i64r 2 := ⟨by omega, by omega⟩
  have HI1 : Hid (i64r 1) := hi1
  have HI2 : Hid (i64r 2) := hi2
  have hls : (k0 n' t').last ≤ 1000000 ∧ s2.last ≤ 1000000 ∧ s3.last ≤ 1000000 ∧ s4.last ≤ 1000000 ∧ s5.last ≤ 1000000 := by
    refine ⟨Nat.zero_le _, ?_, ?_, ?_, ?_⟩
    · rw [HA2.out.el]; simp
    · rw [HA3.out.el]; simp
    · rw [HA4.out.el]; simp
    · rw [HA5.out.el]; simp
  have HLS : Hid (_ ∧ _) := hls
  clear hi1 hi2 hls
  go_wp2_with fail
  refine (kFilledL _ _ _ _ M _ (hd.below hq4.bel) (by omega)).mono ?_
  rintro e w5 ⟨g5, rfl, hr5, hb5⟩
  have hq5 := hq4.same hb5
  clear hq4 hb5
  go_wp2_with fail
  refine (hq5.k (fun G hG => qGen pk G _ _ _ _ _ _ hG hr5 HLS.out.1)).mono ?_
  rintro e w6 ⟨rfl, hq6⟩
  rw [HE2.out] at hq6 ⊢
  clear hq5 hr5
  go_wp2_with fail
  refine (kFilledL _ _ _ _ M _ (hf.below hq6.bel) (by omega)).mono ?_
  rintro e w7 ⟨g7, rfl, hr7, hb7⟩
  have hq7 := hq6.same hb7
  clear hq6 hb7
  go_wp2_with fail
  refine (hq7.k (fun G hG => qGen pk G _ _ _ _ _ _ hG hr7 HLS.out.2.1)).mono ?_
  rintro e w8 ⟨rfl, hq8⟩
  rw [HE3.out] at hq8 ⊢
  clear hq7 hr7
  go_wp2_with fail
  refine (hq8.kr (fun G hG => qOpen pk G s3 1 _ hG HI1.out)).mono ?_
  rintro e w9 ⟨y, r, rfl, hO, hb9⟩
  obtain ⟨hy, rfl⟩ := HA3.out.told (by omega) (by simp) hO
  have hy1 : v1 = y := hy.symm
  subst hy1
  have hq9 := hq8.same hb9
  clear hq8 hb9 hO hy
  go_wp2_with fail
  refine (hq9.kr (fun G hG => qOpen pk G s3 2 _ hG HI2.out)).mono ?_
  rintro e w10 ⟨y, r, rfl, hO, hb10⟩
  obtain ⟨hy, rfl⟩ := HA3.out.told (by omega) (by simp) hO
  have hy2 : v2 = y := hy.symm
  subst hy2
  have hq10 := hq9.same hb10
  clear hq9 hb10 hO hy
  go_wp2_with fail
  refine (hq10.k (fun G hG => qTweak pk G s3 1 a _ hG HI1.out ha0 ha1 HLS.out.2.2.1)).mono ?_
  rintro e w11 ⟨rfl, hq11⟩
  rw [HE4.out] at hq11 ⊢
  clear hq10
  go_wp2_with fail
  refine (hq11.k (fun G hG => qCombine pk G s4 1 2 a b _ hG HI1.out HI2.out ha0 ha1 hb0 hb1 HLS.out.2.2.2.1)).mono ?_
  rintro e w12 ⟨rfl, hq12⟩
  rw [HE5.out] at hq12 ⊢
  clear hq11
  go_wp2_with fail
  refine (kFilledL _ _ _ _ P _ (hd.below hq12.bel) (by omega)).mono ?_
  rintro e w13 ⟨g13, rfl, hr13, hb13⟩
  have hq13 := hq12.same hb13
  clear hq12 hb13
  go_wp2_with fail
  refine (hq13.k (fun G hG => qMultiply pk G s5 1 2 _ _ _ _ _ hG HI1.out HI2.out hr13 HLS.out.2.2.2.2)).mono ?_
  rintro e w14 ⟨rfl, hq14⟩
  rw [HE6.out] at hq14 ⊢
  clear hq13 hr13
  go_wp2_with fail
  refine (kFilledL _ _ _ _ P _ (hd.below hq14.bel) (by omega)).mono ?_
  rintro e w15 ⟨g15, rfl, hr15, hb15⟩
  have hq15 := hq14.same hb15
  clear hq14 hb15
  go_wp2_with fail
  refine (hq15.kt (fun G hG => qRefresh pk G s6 2 _ _ _ _ _ hG HI2.out hr15)).mono ?_
  rintro e w16 ⟨rfl, hq16⟩
  rw [HE7.out] at hq16 ⊢
  clear hq15 hr15
  go_upto_region 25 with fail
  have hn3 := nm_bd (v1 + a)
  have hn4 := nm_bd (nm (a * v1) + nm (b * v2))
  have hn5 := nm_bd (v1 * v2)
  obtain ⟨V, HV⟩ : ∃ V, Hid ([v1, v2, nm (v1 + a), nm (nm (a * v1) + nm (b * v2)), nm (v1 * v2)] = V) := ⟨_, rfl⟩
  have HA : Hid (Kab s7 n' t' V) := by unfold Hid; rw [← HV.out]; exact HA7.out
  have HVl : Hid (V.length = 5) := by unfold Hid; rw [← HV.out]; rfl
  refine krReg (v1 := v1) (v2 := v2) (va := a) (vb := b) (Nat.le_of_ble_eq_true rfl) rfl rfl rfl rfl rfl rfl rfl rfl rfl hv1 hv2 ⟨ha0, ha1⟩ ⟨hb0, hb1⟩ ?_
  unfold Hid
  intro w17 hM17 hb17
  rw [vat_krG, HV.out] at hM17
  have HT : Tkp w pk w16.heap.size s7 (vat V) w17 := by
    obtain ⟨Gk, h1, h2, h3⟩ := hq16
    exact ⟨Gk, h1.same hb17, by rw [HA.out.ec, HVl.out]; exact hM17, fun g => by have := h1.lt _ g; omega, h2, h3.size, HA.out.vl, h3.trans (hb17.mono h3.size)⟩
  have HVL : Hid (Kvl s7 (vat V)) := HA.out.vl
  have HWF : Hid (Kwf s7) := HA.out.wf
  obtain ⟨bm, HBM⟩ : ∃ bm, Hid (w16.heap.size = bm) := ⟨_, rfl⟩
  rw [HBM.out] at HT ⊢
  clear hM17 hb17 hq16
  go_simp
  have hMl := HT.map
  go_wp2_with (at_range; refine wpList_rangeU _ rfl _ 40 rfl 23 Try.underlying40 bm _ (vat V) rfl hMl ?_; intro w18 hR18 hg18 hs18; have hTr := HT.range hR18 hg18; clear hR18 hg18 hs18)
  clear hMl
  obtain ⟨rb, HRB⟩ : ∃ rb, Hid (w17.heap.size = rb) := ⟨_, rfl⟩
  rw [HRB.out] at hTr ⊢
  obtain ⟨HD1, HD2⟩ : Hid (kdrp s7 1 = (0, kout s7 1)) ∧ Hid (kdrp (kout s7 1) 1 = (4, kout s7 1)) := HA.out.drp (k := 1) (by omega) (by rw [HVl.out]; omega)
  have HC5 : Hid (s7.cnt = 5) := by unfold Hid; rw [HA.out.ec, HVl.out]
  go_simp
  go_loopw [30] (fun _ wr => ∃ cnt, Tkr w pk bm rb s7 (vat V) cnt wr) (fun _ wr => wr.rangeLeft bm rb)
  case atStart => exact ⟨_, hTr⟩
  case round =>
    clear hTr HT
    obtain ⟨cnt, hR⟩ := hrel
    go_wp2_with (at_next; refine wpList_nextU _ rfl _ rfl bm rb _ cnt (vat V) rfl hR.rng ?_ ?_)
    · have hTe := hR.off HVL.out
      have hMe := hTe.map
      rw [HC5.out] at hMe
      have hQe : Kq w pk s7 wr := by
        obtain ⟨Gk, h1, _, _, h4, _, _, h7⟩ := hTe
        exact ⟨Gk, h1, h4, h7⟩
      clear hTe hR
      have hLn := hMe.len (t := 40) Try.underlying40 3
      have h55 : ((5 : Nat) : Int) = 5 := rfl
      rw [h55] at hLn
      clear hMe h55
      go_wp2_with fail
      rw [hLn]
      go_wp2_with fail
      refine (hQe.kt (fun G hG => qDrop pk G s7 1 _ hG HI1.out)).mono ?_
      rintro e w20 ⟨rfl, hQ20⟩
      rw [HD1.out] at hQ20 ⊢
      clear hQe hLn
      go_wp2_with fail
      refine (hQ20.kt (fun G hG => qDrop pk G (kout s7 1) 1 _ hG HI1.out)).mono ?_
      rintro e w21 ⟨rfl, hQ21⟩
      rw [HD2.out] at hQ21 ⊢
      have hbw21 := hQ21.bel
      clear hQ20 hQ21
      go_wp2
      go_ret
      exact ⟨rfl, hbw21⟩
    · intro x c wn cnt' hxr hgx hRn hltc hgn _ hen
      have HXR : Hid (i64r x) := hxr
      have HGX : Hid (vat V x = some c) := hgx
      have hR2 := hR.next hRn hgn
      have HCL : Hid (cnt = wr.rangeLeft bm rb) := hR.rng.left.symm
      clear hRn hgn hgx hxr hR
      go_wp2_with fail
      refine (hR2.kr (fun G hG => qOpen pk G s7 x _ hG HXR.out)).mono ?_
      rintro e w6 ⟨y, r, rfl, hO, hb6⟩
      obtain ⟨l, hf⟩ : ∃ l, s7.f x = some l := by
        rcases HVL.out x with ⟨_, e⟩ | ⟨l, _, e, _⟩
        · rw [HGX.out] at e; cases e
        · exact ⟨l, e⟩
      obtain ⟨e1, rfl⟩ := HVL.out.told HWF.out hf hO
      obtain rfl : c = y := by rw [HGX.out] at e1; exact Option.some.inj e1
      have hR3 := hR2.same hb6
      have hcc : (c != c) = false := by simp
      clear hR2 hb6 hf hO e1 hen
      go_wp2
      go_roundw
      case rel => exact ⟨cnt', hR3⟩
      case measure => rw [hR3.rng.left, ← HCL.out]; exact hltc
end
end Go.Proofs.Ytljlioglpaogdaf
