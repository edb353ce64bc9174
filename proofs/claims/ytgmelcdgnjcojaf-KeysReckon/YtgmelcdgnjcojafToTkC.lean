/- Slices of calls (croftlaw.Call) that are read; one that came in. · crofttop.crew, filled. · crofttop.TopKeys: a store and a plain map side by side; the switch over a call, taken out of the translation; what it leaves. -/
import Derived.Test.YtgmelcdgnjcojafToPolyM3
import Derived.Test.YtgmelcdgnjcojafToGaussM
import Derived.Deep.SlicePairs
import Derived.ChangeSame
import Derived.WalkKit
import Derived.ProofKit
import Derived.OpenShut
import Derived.ShutString
import Derived.ChangeOld
import Derived.Below
import Derived.Test.YtgmelcdgnjcojafToMapU
import Derived.Test.YtgmelcdgnjcojafToKeyV
import Derived.Deep.DeepCutAuto
import Derived.Deep.RegionWith
import Derived.Deep.RegionLaw
import Derived.Deep.RegionHeld3
import Derived.Deep.CutBlock
import Derived.Deep.CutRange
namespace Go.Proofs.Ytgmelcdgnjcojaf
open Go.ChangeShapes Go.WideShapes Go.ChangeAt Go.RowKit Crm

/-- A call: its kind, two handles, two numbers, draws. -/
structure Cl where
  k : Int
  g : Int
  h : Int
  a : Int
  b : Int
  ds : List Int
/-- What is known of one call, its cells at x. -/
def ClAt (w : World) (x : Addr) (c : Cl) : Prop :=
  (w.cell? x = some (.int .i64 c.k) ∧ w.cell? (x.add 1) = some (.int .i64 c.g) ∧ w.cell? (x.add 2) = some (.int .i64 c.h) ∧ w.cell? (x.add 3) = some (.int .u64 c.a) ∧ w.cell? (x.add 4) = some (.int .u64 c.b) ∧ ∃ ad q cd, w.cell? (x.add 5) = some (.slice ad q cd) ∧ Rd w ad q cd c.ds) ∧
  (-9223372036854775808 ≤ c.k ∧ c.k ≤ 9223372036854775807) ∧ (-9223372036854775808 ≤ c.g ∧ c.g ≤ 9223372036854775807) ∧ (-9223372036854775808 ≤ c.h ∧ c.h ≤ 9223372036854775807) ∧ (0 ≤ c.a ∧ c.a ≤ 18446744073709551615) ∧ (0 ≤ c.b ∧ c.b ≤ 18446744073709551615)
/-- The slice reads as the calls L. -/
structure RdC (w : World) (a : Option Addr) (n c : Nat) (L : List Cl) : Prop where
  len : L.length = n
  cap : n ≤ c
  max : c ≤ maxLen
  nil : a = none → c = 0
  cell : ∀ x, a = some x → ∀ i, (hi : i < L.length) → ClAt w (x.add (i * 6)) L[i]
theorem RdC.one {w : World} {a : Option Addr} {n c : Nat} {L : List Cl} (h : RdC w a n c L) {i : Nat} (hi : i < n) :
    ∃ b o k g x u v ad q cd ds, a = some ⟨b, o, none⟩ ∧ b < w.heap.size ∧ Hid (L[i]? = some ⟨k, g, x, u, v, ds⟩) ∧ (-9223372036854775808 ≤ k ∧ k ≤ 9223372036854775807) ∧ (-9223372036854775808 ≤ g ∧ g ≤ 9223372036854775807) ∧ (-9223372036854775808 ≤ x ∧ x ≤ 9223372036854775807) ∧ (0 ≤ u ∧ u ≤ 18446744073709551615) ∧ (0 ≤ v ∧ v ≤ 18446744073709551615) ∧ Rd w ad q cd ds ∧
      w.cell? ⟨b, o + i * 6, none⟩ = some (.int .i64 k) ∧ w.cell? ⟨b, o + i * 6 + 1, none⟩ = some (.int .i64 g) ∧ w.cell? ⟨b, o + i * 6 + 2, none⟩ = some (.int .i64 x) ∧ w.cell? ⟨b, o + i * 6 + 3, none⟩ = some (.int .u64 u) ∧ w.cell? ⟨b, o + i * 6 + 4, none⟩ = some (.int .u64 v) ∧ w.cell? ⟨b, o + i * 6 + 5, none⟩ = some (.slice ad q cd) := by
  have hl := h.len
  cases ha : a with
  | none => have := h.nil ha; have := h.cap; omega
  | some y =>
    have hc := h.cell y ha i (by omega)
    obtain ⟨⟨c0, c1, c2, c3, c4, ad, q, cd, c5, hr⟩, b0, b1, b2, b3, b4⟩ := hc
    have z0 := (h.cell y ha 0 (by omega)).1.1
    rw [Nat.zero_mul] at z0
    have hs : y.spot = none := by
      have := spot_none z0
      unfold Addr.add at this
      split at this <;> simp_all
    obtain ⟨b, o, s⟩ := y
    simp only at hs
    subst hs
    rw [Addr.add_lit] at c0 c1 c2 c3 c4 c5
    rw [Addr.add_lit] at c1 c2 c3 c4 c5
    have hb := World.block_lt_of_cell? w _ c0
    refine ⟨b, o, _, _, _, _, _, ad, q, cd, _, rfl, hb, ?_, b0, b1, b2, b3, b4, hr, c0, c1, c2, c3, c4, c5⟩
    unfold Hid
    rw [List.getElem?_eq_getElem (by omega)]
theorem RdC.below {w w' : World} {a : Option Addr} {n c : Nat} {L : List Cl} (h : RdC w a n c L) (hb : Below w.heap.size w w') : RdC w' a n c L := by
  refine ⟨h.len, h.cap, h.max, h.nil, fun x hx i hi => ?_⟩
  obtain ⟨⟨c0, c1, c2, c3, c4, ad, q, cd, c5, hr⟩, b⟩ := h.cell x hx i hi
  have e : ∀ {p : Addr} {v : Value}, w.cell? p = some v → w'.cell? p = some v := fun {p v} hc => by rw [hb.cell (World.block_lt_of_cell? w _ hc)]; exact hc
  exact ⟨⟨e c0, e c1, e c2, e c3, e c4, ad, q, cd, e c5, hr.below hb⟩, b⟩

theorem cellsCi : Try.prog.cellsOf 3 = 1 := by kernel_rfl
theorem cellsCu : Try.prog.cellsOf 23 = 1 := by kernel_rfl
theorem cellsCs : Try.prog.cellsOf 22 = 1 := by kernel_rfl
end Go.Proofs.Ytgmelcdgnjcojaf

namespace Go.Proofs.Ytgmelcdgnjcojaf
open Go.RowKit Crm

set_option maxRecDepth 100000 in
theorem kFilled2 (a : Option Addr) (n c : Nat) (xs : List Int) (k : Nat) (w : World) (h : Rd w a n c xs) (hk : k ≤ 2000) :
    Calls Try.prog 8 #[.slice a n c, .int .i64 k] w fun e w' => ∃ g, e = .returned (.slice (some ⟨g, 0, none⟩) k k) ∧ Rd w' (some ⟨g, 0, none⟩) k k (padded xs k) ∧ Below w.heap.size w w' := by
  obtain ⟨i0, hi, hz0, hz1, hz2⟩ := info_parts info23
  obtain ⟨P, HP⟩ : ∃ P, Hid (padded xs k = P) := ⟨_, rfl⟩
  have HPl : Hid (P.length = k) := by unfold Hid; rw [← HP.out]; exact padded_len xs k
  have HPb : Hid (∀ x ∈ P, 0 ≤ x ∧ x ≤ 18446744073709551615) := by unfold Hid; rw [← HP.out]; exact padded_bd h.bd k
  rw [HP.out]
  obtain ⟨cs, HCS⟩ : ∃ cs, Hid ((xs.take k).map (Value.int .u64) = cs) := ⟨_, rfl⟩
  obtain ⟨cu, HCU⟩ : ∃ cu, Hid ((List.replicate k (0 : Int)).map (Value.int .u64) = cu) := ⟨_, rfl⟩
  have hrl := h.len
  have hcl := copy_len (k := k) hrl
  have h1c := one_ints (xs.take k)
  have hsrcs := fun w' (hh : Rd w' a n c xs) => copy_src hh k
  have HSPL : Hid (Go.splice cu 0 cs = P.map (Value.int .u64)) := by unfold Hid; rw [← HCU.out, ← HCS.out, ← HP.out]; exact padded_splice xs k
  have hcul : cu.length = k := by rw [← HCU.out]; simp
  rw [HCS.out] at hcl h1c hsrcs
  have hcl2 : cs.length ≤ k := by rw [hcl]; exact Nat.min_le_right _ _
  go_enter Try.func8, Try.ntmps8
  go_wp2_with (first | (at_make; refine wpList_make_full _ rfl _ _ 22 rfl w.heap.size 23 i0 (.int .u64 0) 1 Try.underlying22 hi hz0 hz1 .i64 .i64 _ _ k rfl rfl (by omega) (by omega) (by rw [hz2]; omega) (by unfold maxLen; omega) (Nat.le_refl _) ?_; intro w3 hown hgrow; have hb3 : Blk w3 w.heap.size (List.replicate k 0) := Blk.made hown; have hbel3 : Below w.heap.size w w3 := (Below.refl _ _).grown hgrow (Nat.le_refl _) (by simp); have hrow3 := h.below hbel3; unfold Blk at hb3; rw [HCU.out] at hb3; clear hown hgrow) | (refine wpList_copy_splice rfl _ _ 22 22 rfl 23 Try.underlying22 (by rw [hi, Option.map_some, hz1]) (some ⟨w.heap.size, 0, none⟩) a k k n c (by rfl) (by rfl) w.heap.size 0 cu 23 hb3 cs hcl (fun hp => ⟨rfl, hsrcs w3 hrow3 hp⟩) (by omega) h1c w.heap.size w hbel3 (Nat.le_refl _) ?_; intro w4 HC4 hbel4))
  have hb4 : Blk w4 w.heap.size P := by unfold Blk; rw [← HSPL.out]; exact HC4.out
  have hr4 : Rd w4 (some ⟨w.heap.size, 0, none⟩) k k P := hb4.whole k HPl.out.symm (by unfold maxLen; omega) HPb.out
  clear HC4 hb3 hbel3 hrow3 hsrcs hcl h1c HCS HCU hcul hcl2 HSPL hb4
  go_wp2
  go_ret
  exact ⟨_, rfl, hr4, hbel4⟩
end Go.Proofs.Ytgmelcdgnjcojaf

namespace Go.Proofs.Ytgmelcdgnjcojaf
open Go.RowKit Crm

theorem lt_of_someT {w : World} {i : Nat} {o : Obj} (h : w.heap[i]? = some o) : i < w.heap.size := (Array.getElem?_eq_some_iff.1 h).1
/-- The store at pk has state s, the map at bm has the q entries g, the block gc holds o. -/
def Tkb (w0 : World) (pk bm : Nat) (s : Kt) (q : Nat) (g : Int → Option Int) (gc : Nat) (o : Obj) (wr : World) : Prop :=
  ∃ Gk : Nat → Prop, Kst wr pk Gk s ∧ MapU wr bm q g ∧ ¬ Gk bm ∧ (∀ i, Gk i → w0.heap.size ≤ i) ∧ w0.heap.size ≤ bm ∧ (wr.heap[gc]? = some o ∧ ¬ Gk gc ∧ gc ≠ bm) ∧ Below w0.heap.size w0 wr
/-- .. and no such block; of each key the map has what is told. -/
def Tkp (w0 : World) (pk bm : Nat) (s : Kt) (g : Int → Option Int) (wr : World) : Prop :=
  ∃ Gk : Nat → Prop, Kst wr pk Gk s ∧ MapU wr bm s.cnt g ∧ ¬ Gk bm ∧ (∀ i, Gk i → w0.heap.size ≤ i) ∧ w0.heap.size ≤ bm ∧ Kvl s g ∧ Below w0.heap.size w0 wr
def Tpw (w0 : World) (pk bm j n t : Nat) (wx : World) : Prop := ∃ s g, Tkp w0 pk bm s g wx ∧ s.n = n ∧ s.t = t ∧ s.last ≤ j + 1 ∧ Kwf s
theorem Tkb.bel {w0 wr : World} {pk bm q gc : Nat} {s : Kt} {g : Int → Option Int} {o : Obj} (h : Tkb w0 pk bm s q g gc o wr) : Below w0.heap.size w0 wr := by
  obtain ⟨_, _, _, _, _, _, _, h7⟩ := h
  exact h7
theorem Tkb.box {w0 wr : World} {pk bm q gc : Nat} {s : Kt} {g : Int → Option Int} {o : Obj} (h : Tkb w0 pk bm s q g gc o wr) : wr.heap[gc]? = some o := by
  obtain ⟨_, _, _, _, _, _, h6, _⟩ := h
  exact h6.1
theorem Tkb.map {w0 wr : World} {pk bm q gc : Nat} {s : Kt} {g : Int → Option Int} {o : Obj} (h : Tkb w0 pk bm s q g gc o wr) : MapU wr bm q g := by
  obtain ⟨_, _, h2, _⟩ := h
  exact h2
theorem Tkb.same {w0 wr w' : World} {pk bm q gc : Nat} {s : Kt} {g : Int → Option Int} {o : Obj} (h : Tkb w0 pk bm s q g gc o wr) (hb : Below wr.heap.size wr w') : Tkb w0 pk bm s q g gc o w' := by
  obtain ⟨Gk, h1, h2, h3, h4, h5, h6, h7⟩ := h
  exact ⟨Gk, h1.same hb, h2.block (hb.block bm h2.lt), h3, h4, h5, ⟨by rw [hb.block gc (lt_of_someT h6.1)]; exact h6.1, h6.2⟩, h7.trans (hb.mono h7.size)⟩
theorem Tkb.turn {w0 w w' : World} {pk bm q gc : Nat} {r : Kt} {g : Int → Option Int} {o : Obj} {Gk : Nat → Prop} (h2 : MapU w bm q g) (h3 : ¬ Gk bm) (h4 : ∀ i, Gk i → w0.heap.size ≤ i) (h5 : w0.heap.size ≤ bm) (h6 : w.heap[gc]? = some o ∧ ¬ Gk gc ∧ gc ≠ bm) (h7 : Below w0.heap.size w0 w)
    (hk : Kst w' pk (Gnx Gk w w') r) (ht : Tch w w' Gk) : Tkb w0 pk bm r q g gc o w' := by
  have l1 := h2.lt
  have l2 := lt_of_someT h6.1
  refine ⟨Gnx Gk w w', hk, h2.block (ht.block bm l1 h3), fun e => ?_, Gnx.ge h4 h7.size, h5, ⟨by rw [ht.block gc l2 h6.2.1]; exact h6.1, fun e => ?_, h6.2.2⟩, ht.below h7 h4 h7.size⟩
  · rcases e with e | e
    · exact h3 e
    · omega
  · rcases e with e | e
    · exact h6.2.1 e
    · omega
theorem Tkb.k {w0 w : World} {pk bm q gc N : Nat} {s : Kt} {g : Int → Option Int} {o : Obj} {args : Array Value} {r : Int × Int × Kt} (J : Tkb w0 pk bm s q g gc o w) (hc : ∀ G, Kst w pk G s → Calls Try.prog N args w (Kke pk G r w)) : Calls Try.prog N args w fun e w' => e = .returned (.tuple #[.int .i64 r.1, .int .i64 r.2.1]) ∧ Tkb w0 pk bm r.2.2 q g gc o w' := by
  obtain ⟨Gk, h1, h2, h3, h4, h5, h6, h7⟩ := J
  exact (hc Gk h1).mono fun e w' ⟨e1, e2, e3⟩ => ⟨e1, Tkb.turn h2 h3 h4 h5 h6 h7 e2 e3⟩
theorem Tkb.kt {w0 w : World} {pk bm q gc N : Nat} {s : Kt} {g : Int → Option Int} {o : Obj} {args : Array Value} {r : Int × Kt} (J : Tkb w0 pk bm s q g gc o w) (hc : ∀ G, Kst w pk G s → Calls Try.prog N args w (Kkt pk G r w)) : Calls Try.prog N args w fun e w' => e = .returned (.int .i64 r.1) ∧ Tkb w0 pk bm r.2 q g gc o w' := by
  obtain ⟨Gk, h1, h2, h3, h4, h5, h6, h7⟩ := J
  exact (hc Gk h1).mono fun e w' ⟨e1, e2, e3⟩ => ⟨e1, Tkb.turn h2 h3 h4 h5 h6 h7 e2 e3⟩
/-- .. and a list that was laid behind the store stays. -/
theorem Tkb.kx {w0 w w1 : World} {pk bm q gc N m : Nat} {s : Kt} {g : Int → Option Int} {o : Obj} {args : Array Value} {r : Int × Int × Kt} {xs : List Int} (J : Tkb w0 pk bm s q g gc o w) (hb : Below w.heap.size w w1) (hr : Rd w1 (some ⟨w.heap.size, 0, none⟩) m m xs) (hm : 0 < m) (hc : ∀ G, Kst w1 pk G s → Calls Try.prog N args w1 (Kke pk G r w1)) : Calls Try.prog N args w1 fun e w' => e = .returned (.tuple #[.int .i64 r.1, .int .i64 r.2.1]) ∧ Tkb w0 pk bm r.2.2 q g gc o w' ∧ Rd w' (some ⟨w.heap.size, 0, none⟩) m m xs := by
  obtain ⟨Gk, h1, h2, h3, h4, h5, h6, h7⟩ := J
  have hn : ∀ x, some (⟨w.heap.size, 0, none⟩ : Addr) = some x → ¬ Gk x.block := fun x e g => by
    obtain rfl := Option.some.inj e
    have := h1.lt _ g
    simp at this
  exact (hc Gk (h1.same hb)).mono fun e w' ⟨e1, e2, e3⟩ => ⟨e1, Tkb.turn (h2.block (hb.block bm h2.lt)) h3 h4 h5 ⟨by rw [hb.block gc (lt_of_someT h6.1)]; exact h6.1, h6.2⟩ (h7.trans (hb.mono h7.size)) e2 e3, e3.rd hr hm hn⟩
/-- The map alone has turned. -/
theorem Tkb.put {w0 w w' : World} {pk bm q q' gc : Nat} {s : Kt} {g g' : Int → Option Int} {o : Obj} (J : Tkb w0 pk bm s q g gc o w) (hm : MapU w' bm q' g') (hg : w.grownBy w' (some bm)) : Tkb w0 pk bm s q' g' gc o w' := by
  obtain ⟨Gk, h1, h2, h3, h4, h5, h6, h7⟩ := J
  have ht : Tch w w' (fun i => i = bm) := ⟨hg.os, hg.tape, hg.output, hg.size, fun i hi hn => hg.block i hi (by simpa using hn)⟩
  exact ⟨Gk, h1.aside ht (fun i g e => h3 (e ▸ g)), hm, h3, h4, h5, ⟨by rw [ht.block gc (lt_of_someT h6.1) h6.2.2]; exact h6.1, h6.2⟩, ht.below h7 (fun i e => e ▸ h5) h7.size⟩
/-- What the switch leaves. -/
theorem Tkb.told {w0 w : World} {pk bm q gc j n t : Nat} {s : Kt} {g : Int → Option Int} {o : Obj} (J : Tkb w0 pk bm s q g gc o w) (hv : Kvl s g) (hw : Kwf s) (hq : q = s.cnt) (hn : s.n = n) (ht : s.t = t) (hl : s.last ≤ j + 1) : Tpw w0 pk bm j n t w := by
  obtain ⟨Gk, h1, h2, h3, h4, h5, _, h7⟩ := J
  subst hq
  exact ⟨s, g, ⟨Gk, h1, h2, h3, h4, h5, hv, h7⟩, hn, ht, hl, hw⟩
theorem Tkp.on {w0 wr : World} {pk bm : Nat} {s : Kt} {g : Int → Option Int} (h : Tkp w0 pk bm s g wr) (o : Obj) : Tkb w0 pk bm s s.cnt g wr.heap.size o (wr.alloc o) := by
  obtain ⟨Gk, h1, h2, h3, h4, h5, _, h7⟩ := h
  have hb : Below wr.heap.size wr (wr.alloc o) := (Below.refl _ _).alloc (Nat.le_refl _) _
  have l2 := h2.lt
  exact ⟨Gk, h1.same hb, h2.block (hb.block bm l2), h3, h4, h5, ⟨heap_alloc_new wr o, fun g => by have := h1.lt _ g; omega, by omega⟩, h7.trans (hb.mono h7.size)⟩
theorem Kvl.fresh {s : Kt} {g : Int → Option Int} (h : Kvl s g) (w : Kwf s) : g ((s.last : Int) + 1) = none := by
  rcases h ((s.last : Int) + 1) with e | ⟨l, _, e, _⟩
  · exact e.2
  · have := (w.key _ l e).1
    omega
/-- The map is ranged over by block r; cnt entries are still to come. -/
def Tkr (w0 : World) (pk bm r : Nat) (s : Kt) (g : Int → Option Int) (cnt : Nat) (wr : World) : Prop :=
  ∃ Gk : Nat → Prop, Kst wr pk Gk s ∧ RngU wr bm r s.cnt g cnt ∧ ¬ Gk bm ∧ ¬ Gk r ∧ (∀ i, Gk i → w0.heap.size ≤ i) ∧ w0.heap.size ≤ bm ∧ w0.heap.size ≤ r ∧ Below w0.heap.size w0 wr
theorem RngU.left {w : World} {b r q cnt : Nat} {g : Int → Option Int} (h : RngU w b r q g cnt) : w.rangeLeft b r = cnt := by
  obtain ⟨D, left, h1, _⟩ := h
  exact h1.left_eq
theorem Tkr.rng {w0 wr : World} {pk bm r cnt : Nat} {s : Kt} {g : Int → Option Int} (h : Tkr w0 pk bm r s g cnt wr) : RngU wr bm r s.cnt g cnt := by
  obtain ⟨_, _, h2, _⟩ := h
  exact h2
theorem Tkp.range {w0 w w' : World} {pk bm : Nat} {s : Kt} {g : Int → Option Int} (h : Tkp w0 pk bm s g w) (hr : RngU w' bm w.heap.size s.cnt g s.cnt) (hg : w.grownBy w' none) : Tkr w0 pk bm w.heap.size s g s.cnt w' := by
  obtain ⟨Gk, h1, h2, h3, h4, h5, _, h7⟩ := h
  have hb : Below w.heap.size w w' := ⟨hg.os, hg.tape, hg.output, hg.size, fun i hi => hg.block i hi (by simp)⟩
  exact ⟨Gk, h1.same hb, hr, h3, fun g => by have := h1.lt _ g; omega, h4, h5, h7.size, h7.trans (hb.mono h7.size)⟩
theorem Tkr.next {w0 w w' : World} {pk bm r cnt cnt' : Nat} {s : Kt} {g : Int → Option Int} (h : Tkr w0 pk bm r s g cnt w) (hr : RngU w' bm r s.cnt g cnt') (hg : w.grownBy w' (some r)) : Tkr w0 pk bm r s g cnt' w' := by
  obtain ⟨Gk, h1, h2, h3, h4, h5, h6, h7, h8⟩ := h
  have ht : Tch w w' (fun i => i = r) := ⟨hg.os, hg.tape, hg.output, hg.size, fun i hi hn => hg.block i hi (by simpa using hn)⟩
  exact ⟨Gk, h1.aside ht (fun i g e => h4 (e ▸ g)), hr, h3, h4, h5, h6, h7, ht.below h8 (fun i e => e ▸ h7) h8.size⟩
theorem Tkr.same {w0 w w' : World} {pk bm r cnt : Nat} {s : Kt} {g : Int → Option Int} (h : Tkr w0 pk bm r s g cnt w) (hb : Below w.heap.size w w') : Tkr w0 pk bm r s g cnt w' := by
  obtain ⟨Gk, h1, h2, h3, h4, h5, h6, h7, h8⟩ := h
  exact ⟨Gk, h1.same hb, h2.kept (hb.block bm h2.map.lt) (hb.block r h2.lt), h3, h4, h5, h6, h7, h8.trans (hb.mono h8.size)⟩
theorem Tkr.kr {w0 w : World} {pk bm r cnt N : Nat} {s : Kt} {g : Int → Option Int} {args : Array Value} {Q : Ending → World → Prop} (J : Tkr w0 pk bm r s g cnt w) (hc : ∀ G, Kst w pk G s → Calls Try.prog N args w Q) : Calls Try.prog N args w Q := by
  obtain ⟨Gk, h1, _⟩ := J
  exact hc Gk h1
theorem Tkr.off {w0 w : World} {pk bm r cnt : Nat} {s : Kt} {g : Int → Option Int} (h : Tkr w0 pk bm r s g cnt w) (hv : Kvl s g) : Tkp w0 pk bm s g w := by
  obtain ⟨Gk, h1, h2, h3, _, h5, h6, _, h8⟩ := h
  exact ⟨Gk, h1, h2.map, h3, h5, h6, hv, h8⟩
theorem Tkp.bel {w0 w : World} {pk bm : Nat} {s : Kt} {g : Int → Option Int} (h : Tkp w0 pk bm s g w) : Below w0.heap.size w0 w := by
  obtain ⟨_, _, _, _, _, _, _, h7⟩ := h
  exact h7
theorem Tkp.map {w0 w : World} {pk bm : Nat} {s : Kt} {g : Int → Option Int} (h : Tkp w0 pk bm s g w) : MapU w bm s.cnt g := by
  obtain ⟨_, _, h2, _⟩ := h
  exact h2
theorem Tkp.vl {w0 w : World} {pk bm : Nat} {s : Kt} {g : Int → Option Int} (h : Tkp w0 pk bm s g w) : Kvl s g := by
  obtain ⟨_, _, _, _, _, _, h6, _⟩ := h
  exact h6
theorem Tkp.new {w0 w : World} {pk : Nat} {G : Nat → Prop} {n t : Nat} (h : Kst w pk G (k0 n t)) (hG : ∀ i, G i → w0.heap.size ≤ i) (hb : Below w0.heap.size w0 w) : Tkp w0 pk w.heap.size (k0 n t) (fun _ => none) (w.alloc (.map #[] 0)) := by
  have hb2 : Below w.heap.size w (w.alloc (.map #[] 0)) := (Below.refl _ _).alloc (Nat.le_refl _) _
  exact ⟨G, h.same hb2, MapU.made w, fun g => by have := h.lt _ g; omega, hG, hb.size, k0_vl n t, hb.trans (hb2.mono hb.size)⟩
end Go.Proofs.Ytgmelcdgnjcojaf
