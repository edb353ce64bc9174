/- Two stores side by side: the program's and the document's, and a block that neither touches. · Keys: what is told of them: plain. · (*croftref.Store).Multiply. -/
import Derived.Test.YtgmelcdgnjcojacToSubC
import Derived.Test.YtgmelcdgnjcojacToRStE
import Derived.Test.YtgmelcdgnjcojacToKeySt
import Derived.Deep.RegionHeld3
namespace Go.Proofs.Ytgmelcdgnjcojac
open Go.RowKit Crm

/-- The program's store at pk has state s', the document's at ps has state s; block gc holds o. -/
def Jnt (w0 : World) (pk ps : Nat) (s s' : Kt) (gc : Nat) (o : Obj) (wr : World) : Prop :=
  ∃ Gk Gs : Nat → Prop, Kst wr pk Gk s' ∧ Stx 55 wr ps Gs s ∧ (∀ i, Gk i → ¬ Gs i) ∧ (∀ i, Gk i → w0.heap.size ≤ i) ∧ (∀ i, Gs i → w0.heap.size ≤ i) ∧ (wr.heap[gc]? = some o ∧ ¬ Gk gc ∧ ¬ Gs gc) ∧ Below w0.heap.size w0 wr
/-- .. and no such block. -/
def Jn0 (w0 : World) (pk ps : Nat) (s : Kt) (wr : World) : Prop :=
  ∃ Gk Gs : Nat → Prop, Kst wr pk Gk s ∧ Stx 55 wr ps Gs s ∧ (∀ i, Gk i → ¬ Gs i) ∧ (∀ i, Gk i → w0.heap.size ≤ i) ∧ (∀ i, Gs i → w0.heap.size ≤ i) ∧ Below w0.heap.size w0 wr
theorem Jnt.off {w0 wr : World} {pk ps gc : Nat} {s : Kt} {o : Obj} (h : Jnt w0 pk ps s s gc o wr) : Jn0 w0 pk ps s wr := by
  obtain ⟨Gk, Gs, h1, h2, h3, h4, h5, _, h7⟩ := h
  exact ⟨Gk, Gs, h1, h2, h3, h4, h5, h7⟩
theorem Jn0.bel {w0 wr : World} {pk ps : Nat} {s : Kt} (h : Jn0 w0 pk ps s wr) : Below w0.heap.size w0 wr := by
  obtain ⟨_, _, _, _, _, _, _, h7⟩ := h
  exact h7
theorem Jnt.bel {w0 wr : World} {pk ps gc : Nat} {s s' : Kt} {o : Obj} (h : Jnt w0 pk ps s s' gc o wr) : Below w0.heap.size w0 wr := by
  obtain ⟨_, _, _, _, _, _, _, _, h7⟩ := h
  exact h7
theorem Jnt.box {w0 wr : World} {pk ps gc : Nat} {s s' : Kt} {o : Obj} (h : Jnt w0 pk ps s s' gc o wr) : wr.heap[gc]? = some o := by
  obtain ⟨_, _, _, _, _, _, _, h6, _⟩ := h
  exact h6.1
theorem Jn0.wf {w0 wr : World} {pk ps : Nat} {s : Kt} (h : Jn0 w0 pk ps s wr) : Kwf s := by
  obtain ⟨_, _, h1, _⟩ := h
  exact h1.wf
/-- A block is laid. -/
theorem Jn0.on {w0 wr : World} {pk ps : Nat} {s : Kt} (h : Jn0 w0 pk ps s wr) (o : Obj) : Jnt w0 pk ps s s wr.heap.size o (wr.alloc o) := by
  obtain ⟨Gk, Gs, h1, h2, h3, h4, h5, h7⟩ := h
  have hb : Below wr.heap.size wr (wr.alloc o) := (Below.refl _ _).alloc (Nat.le_refl _) _
  exact ⟨Gk, Gs, h1.same hb, h2.same hb, h3, h4, h5, ⟨heap_alloc_new wr o, fun g => by have := h1.lt _ g; omega, fun g => by have := h2.2 _ g; omega⟩, h7.trans (hb.mono h7.size)⟩
theorem Jn0.same {w0 wr w' : World} {pk ps : Nat} {s : Kt} (h : Jn0 w0 pk ps s wr) (hb : Below wr.heap.size wr w') : Jn0 w0 pk ps s w' := by
  obtain ⟨Gk, Gs, h1, h2, h3, h4, h5, h7⟩ := h
  exact ⟨Gk, Gs, h1.same hb, h2.same hb, h3, h4, h5, h7.trans (hb.mono h7.size)⟩
theorem lt_of_some {w : World} {i : Nat} {o : Obj} (h : w.heap[i]? = some o) : i < w.heap.size := (Array.getElem?_eq_some_iff.1 h).1
theorem Jnt.same {w0 wr w' : World} {pk ps gc : Nat} {s s' : Kt} {o : Obj} (h : Jnt w0 pk ps s s' gc o wr) (hb : Below wr.heap.size wr w') : Jnt w0 pk ps s s' gc o w' := by
  obtain ⟨Gk, Gs, h1, h2, h3, h4, h5, h6, h7⟩ := h
  exact ⟨Gk, Gs, h1.same hb, h2.same hb, h3, h4, h5, ⟨by rw [hb.block gc (lt_of_some h6.1)]; exact h6.1, h6.2⟩, h7.trans (hb.mono h7.size)⟩
/-- The program's store has turned. -/
theorem Jnt.turnK {w0 w w' : World} {pk ps gc : Nat} {s q : Kt} {o : Obj} {Gk Gs : Nat → Prop} (h2 : Stx 55 w ps Gs s) (h3 : ∀ i, Gk i → ¬ Gs i) (h4 : ∀ i, Gk i → w0.heap.size ≤ i) (h5 : ∀ i, Gs i → w0.heap.size ≤ i) (h6 : w.heap[gc]? = some o ∧ ¬ Gk gc ∧ ¬ Gs gc) (h7 : Below w0.heap.size w0 w)
    (hk : Kst w' pk (Gnx Gk w w') q) (ht : Tch w w' Gk) : Jnt w0 pk ps s q gc o w' := by
  have hlt := lt_of_some h6.1
  refine ⟨Gnx Gk w w', Gs, hk, h2.aside ht (fun i g k => h3 i k g), fun i g k => ?_, Gnx.ge h4 h7.size, h5, ⟨by rw [ht.block gc hlt h6.2.1]; exact h6.1, fun g => ?_, h6.2.2⟩, ht.below h7 h4 h7.size⟩
  · rcases g with g | g
    · exact h3 i g k
    · have := h2.2 i k; omega
  · rcases g with g | g
    · exact h6.2.1 g
    · omega
/-- The document's store has turned. -/
theorem Jnt.turnS {w0 w w' : World} {pk ps gc : Nat} {s' q : Kt} {o : Obj} {Gk Gs : Nat → Prop} (h1 : Kst w pk Gk s') (h3 : ∀ i, Gk i → ¬ Gs i) (h4 : ∀ i, Gk i → w0.heap.size ≤ i) (h5 : ∀ i, Gs i → w0.heap.size ≤ i) (h6 : w.heap[gc]? = some o ∧ ¬ Gk gc ∧ ¬ Gs gc) (h7 : Below w0.heap.size w0 w)
    (hk : Stx 55 w' ps (Gnx Gs w w') q) (ht : Tch w w' Gs) : Jnt w0 pk ps q s' gc o w' := by
  have hlt := lt_of_some h6.1
  refine ⟨Gk, Gnx Gs w w', h1.aside ht h3, hk, fun i g k => ?_, h4, Gnx.ge h5 h7.size, ⟨by rw [ht.block gc hlt h6.2.2]; exact h6.1, h6.2.1, fun g => ?_⟩, ht.below h7 h5 h7.size⟩
  · rcases k with k | k
    · exact h3 i g k
    · have := h1.lt i g; omega
  · rcases g with g | g
    · exact h6.2.2 g
    · omega
theorem Jnt.k {w0 w : World} {pk ps gc N : Nat} {s s' : Kt} {o : Obj} {args : Array Value} {r : Int × Int × Kt} (J : Jnt w0 pk ps s s' gc o w) (hc : ∀ G, Kst w pk G s' → Calls Try.prog N args w (Kke pk G r w)) : Calls Try.prog N args w fun e w' => e = .returned (.tuple #[.int .i64 r.1, .int .i64 r.2.1]) ∧ Jnt w0 pk ps s r.2.2 gc o w' := by
  obtain ⟨Gk, Gs, h1, h2, h3, h4, h5, h6, h7⟩ := J
  exact (hc Gk h1).mono fun e w' ⟨e1, e2, e3⟩ => ⟨e1, Jnt.turnK h2 h3 h4 h5 h6 h7 e2 e3⟩
theorem Jnt.kt {w0 w : World} {pk ps gc N : Nat} {s s' : Kt} {o : Obj} {args : Array Value} {r : Int × Kt} (J : Jnt w0 pk ps s s' gc o w) (hc : ∀ G, Kst w pk G s' → Calls Try.prog N args w (Kkt pk G r w)) : Calls Try.prog N args w fun e w' => e = .returned (.int .i64 r.1) ∧ Jnt w0 pk ps s r.2 gc o w' := by
  obtain ⟨Gk, Gs, h1, h2, h3, h4, h5, h6, h7⟩ := J
  exact (hc Gk h1).mono fun e w' ⟨e1, e2, e3⟩ => ⟨e1, Jnt.turnK h2 h3 h4 h5 h6 h7 e2 e3⟩
theorem Jnt.s {w0 w : World} {pk ps gc N : Nat} {s s' : Kt} {o : Obj} {args : Array Value} {r : Int × Int × Kt} (J : Jnt w0 pk ps s s' gc o w) (hc : ∀ G, Stx 55 w ps G s → Calls Try.prog N args w (Kde 55 ps G r w)) : Calls Try.prog N args w fun e w' => e = .returned (.tuple #[.int .i64 r.1, .int .i64 r.2.1]) ∧ Jnt w0 pk ps r.2.2 s' gc o w' := by
  obtain ⟨Gk, Gs, h1, h2, h3, h4, h5, h6, h7⟩ := J
  exact (hc Gs h2).mono fun e w' ⟨e1, e2, e3⟩ => ⟨e1, Jnt.turnS h1 h3 h4 h5 h6 h7 e2 e3⟩
theorem Jnt.st {w0 w : World} {pk ps gc N : Nat} {s s' : Kt} {o : Obj} {args : Array Value} {r : Int × Kt} (J : Jnt w0 pk ps s s' gc o w) (hc : ∀ G, Stx 55 w ps G s → Calls Try.prog N args w (Kte 55 ps G r w)) : Calls Try.prog N args w fun e w' => e = .returned (.int .i64 r.1) ∧ Jnt w0 pk ps r.2 s' gc o w' := by
  obtain ⟨Gk, Gs, h1, h2, h3, h4, h5, h6, h7⟩ := J
  exact (hc Gs h2).mono fun e w' ⟨e1, e2, e3⟩ => ⟨e1, Jnt.turnS h1 h3 h4 h5 h6 h7 e2 e3⟩
/-- A call that only reads. -/
theorem Jn0.kr {w0 w : World} {pk ps N : Nat} {s : Kt} {args : Array Value} {Q : Ending → World → Prop} (J : Jn0 w0 pk ps s w) (hc : ∀ G, Kst w pk G s → Calls Try.prog N args w Q) : Calls Try.prog N args w Q := by
  obtain ⟨Gk, Gs, h1, _⟩ := J
  exact hc Gk h1
theorem Jn0.sr {w0 w : World} {pk ps N : Nat} {s : Kt} {args : Array Value} {Q : Ending → World → Prop} (J : Jn0 w0 pk ps s w) (hc : ∀ G, Stx 55 w ps G s → Calls Try.prog N args w Q) : Calls Try.prog N args w Q := by
  obtain ⟨Gk, Gs, _, h2, _⟩ := J
  exact hc Gs h2
theorem Jn0.sto {w0 w : World} {pk ps : Nat} {s : Kt} (J : Jn0 w0 pk ps s w) : ∃ b V, Sto 55 w ps b V s := by
  obtain ⟨Gk, Gs, _, ⟨⟨b, V, h, _⟩, _⟩, _⟩ := J
  exact ⟨b, V, h⟩
end Go.Proofs.Ytgmelcdgnjcojac

namespace Go.Proofs.Ytgmelcdgnjcojac
open Crm

/-- Of each key the parties' numbers are shares, of t at the most, of g. -/
def Kvl (s : Kt) (g : Int → Option Int) : Prop := ∀ h, (s.f h = none ∧ g h = none) ∨ ∃ l v, s.f h = some l ∧ g h = some v ∧ Ksh s.n s.t l v
def gset (g : Int → Option Int) (h : Int) (v : Option Int) : Int → Option Int := fun i => if i = h then v else g i
theorem k0_vl (n t : Nat) : Kvl (k0 n t) (fun _ => none) := fun _ => .inl ⟨rfl, rfl⟩
theorem kput_vl {s : Kt} {g : Int → Option Int} {l : List Int} {v : Int} (h : Kvl s g) (hl : Ksh s.n s.t l v) : Kvl (kput s l) (gset g ((s.last : Int) + 1) (some v)) := fun i => by
  show (kset s.f ((s.last : Int) + 1) (some l) i = none ∧ gset g ((s.last : Int) + 1) (some v) i = none) ∨ ∃ l' v', kset s.f ((s.last : Int) + 1) (some l) i = some l' ∧ gset g ((s.last : Int) + 1) (some v) i = some v' ∧ Ksh s.n s.t l' v'
  unfold kset gset
  split
  · exact .inr ⟨l, v, rfl, rfl, hl⟩
  · exact h i
theorem ktrn_vl {s : Kt} {g : Int → Option Int} {l m : List Int} {v k : Int} (h : Kvl s g) (hm : s.f k = some m) (hv : Ksh s.n s.t m v → Ksh s.n s.t l v) (hg : g k = some v) : Kvl (ktrn s k l) g := fun i => by
  show (kset s.f k (some l) i = none ∧ g i = none) ∨ ∃ l' v', kset s.f k (some l) i = some l' ∧ g i = some v' ∧ Ksh s.n s.t l' v'
  unfold kset
  split
  · rename_i e
    rcases h k with ⟨e1, _⟩ | ⟨l', v', e1, e2, e3⟩
    · rw [hm] at e1; cases e1
    · rw [hm] at e1
      obtain rfl := Option.some.inj e1
      rw [hg] at e2
      obtain rfl := Option.some.inj e2
      rw [e]
      exact .inr ⟨l, v, rfl, hg, hv e3⟩
  · exact h i
theorem kout_vl {s : Kt} {g : Int → Option Int} (h : Kvl s g) (k : Int) : Kvl (kout s k) (gset g k none) := fun i => by
  show (kset s.f k none i = none ∧ gset g k none i = none) ∨ ∃ l' v', kset s.f k none i = some l' ∧ gset g k none i = some v' ∧ Ksh s.n s.t l' v'
  unfold kset gset
  split
  · exact .inl ⟨rfl, rfl⟩
  · exact h i
theorem Kvl.some {s : Kt} {g : Int → Option Int} (h : Kvl s g) {i : Int} {l : List Int} (hf : s.f i = Option.some l) : ∃ v, g i = Option.some v ∧ Ksh s.n s.t l v := by
  rcases h i with ⟨e, _⟩ | ⟨l', v, e1, e2, e3⟩
  · rw [e] at hf; cases hf
  · rw [e1] at hf
    obtain rfl := Option.some.inj hf
    exact ⟨v, e2, e3⟩
/-- What is told of a key is its value. -/
theorem Kvl.told {s : Kt} {g : Int → Option Int} (h : Kvl s g) (w : Kwf s) {i x r : Int} {l : List Int} (hf : s.f i = Option.some l) (hO : Kop s i x r) : g i = Option.some x ∧ r = 0 := by
  obtain ⟨v, e1, e2⟩ := h.some hf
  rcases hO with ⟨e, _⟩ | ⟨l', e, hO⟩
  · rw [e] at hf; cases hf
  · rw [e] at hf
    obtain rfl := Option.some.inj hf
    obtain ⟨rfl, rfl⟩ := e2.opened w.nt w.n9 hO
    exact ⟨e1, rfl⟩
theorem Kop.none {s : Kt} {i x r : Int} (hO : Kop s i x r) (hf : s.f i = Option.none) : x = 0 ∧ r = 4 := by
  rcases hO with ⟨_, e⟩ | ⟨l, e, _⟩
  · exact e
  · rw [e] at hf; cases hf
/-- There are values. -/
def Kvd (s : Kt) : Prop := ∃ g, Kvl s g
theorem k0_vd (n t : Nat) : Kvd (k0 n t) := ⟨_, k0_vl n t⟩
theorem kadd_vd {s : Kt} {l : List Int} {v : Int} (h : Kvd s) (hl : Ksh s.n s.t l v) : Kvd (kadd s l).2.2 := by
  obtain ⟨g, h⟩ := h
  rcases kadd_cases s l with ⟨_, e⟩ | ⟨_, e⟩
  · rw [e]; exact ⟨g, h⟩
  · rw [e]; exact ⟨_, kput_vl h hl⟩
theorem kgen_vd {s : Kt} (h : Kvd s) (ds : List Int) : Kvd (kgen s ds).2.2 := by
  unfold kgen
  split
  · exact kadd_vd h (ksm_ksh _ _ _ _ _)
  · exact h
theorem kmix_vd {s : Kt} (h : Kvd s) (g i a b c : Int) : Kvd (kmix s g i a b c).2.2 := by
  obtain ⟨q, hq⟩ := h
  unfold kmix
  split
  · rename_i l m e1 e2
    obtain ⟨v, _, hv⟩ := hq.some e1
    obtain ⟨u, _, hu⟩ := hq.some e2
    exact kadd_vd ⟨q, hq⟩ (hv.mix a b c hu)
  · exact ⟨q, hq⟩
theorem kmul_vd {s : Kt} (h : Kvd s) (w : Kwf s) (g i : Int) (ds : List Int) : Kvd (kmul s g i ds).2.2 := by
  obtain ⟨q, hq⟩ := h
  unfold kmul
  split
  · rename_i l m e1 e2
    split
    · obtain ⟨v, _, hv⟩ := hq.some e1
      obtain ⟨u, _, hu⟩ := hq.some e2
      exact kadd_vd ⟨q, hq⟩ (hv.times hu w.nt w.n9)
    · exact ⟨q, hq⟩
  · exact ⟨q, hq⟩
theorem krfr_vd {s : Kt} (h : Kvd s) (i : Int) (ds : List Int) : Kvd (krfr s i ds).2 := by
  obtain ⟨q, hq⟩ := h
  unfold krfr
  split
  · rename_i l e1
    split
    · obtain ⟨v, e2, _⟩ := hq.some e1
      exact ⟨q, ktrn_vl hq e1 (fun hv => hv.fresh) e2⟩
    · exact ⟨q, hq⟩
  · exact ⟨q, hq⟩
theorem kdrp_vd {s : Kt} (h : Kvd s) (i : Int) : Kvd (kdrp s i).2 := by
  obtain ⟨q, hq⟩ := h
  unfold kdrp
  split
  · exact ⟨_, kout_vl hq i⟩
  · exact ⟨q, hq⟩
end Go.Proofs.Ytgmelcdgnjcojac

namespace Go.Proofs.Ytgmelcdgnjcojac
open Go.RowKit Crm

set_option maxRecDepth 100000 in
set_option maxHeartbeats 4000000 in
theorem rMultiply (p : Nat) (G : Nat → Prop) (s : Kt) (g x : Int) (ad : Option Addr) (q cd : Nat) (ds : List Int) (w : World) (h : Stx 55 w p G s) (hg : i64r g) (hx : i64r x) (r : Rd w ad q cd ds) (hlast : s.last ≤ 1000000) :
    Calls Try.prog 26 #[.pointer (some ⟨p, 0, none⟩), .int .i64 g, .int .i64 x, .slice ad q cd] w (Kde 55 p G (kmul s g x ds) w) := by
  have hI := rdI_of2 w (x := g) (y := x) hg hx
  have hb0 : Below w.heap.size w (w.alloc (.cells #[.int .i64 g, .int .i64 x] 3)) := (Below.refl _ _).alloc (Nat.le_refl _) _
  have h0 := h.same hb0
  have ht4 := h.wf.t4
  have hn9 := h.wf.n9
  have hnt := h.wf.nt
  have hGl := h.2
  have hcap := r.cap
  have hmax := r.max
  have hlen := r.len
  unfold maxLen at hmax
  go_enter Try.func26, Try.ntmps26
  go_wp2_with fail
  generalize w.alloc (.cells #[.int .i64 g, .int .i64 x] 3) = w0 at *
  refine (rHas p G s _ _ _ _ _ h0 hI).mono ?_
  rintro e w1 ⟨rfl, hb1⟩
  rw [hsl_two]
  have hbw := hb0.trans (hb1.mono hb0.size)
  clear h0 hI hb0 hb1
  cases hfg : s.f g with
  | none =>
    have HE : Hid (kmul s g x ds = (0, 4, s)) := by unfold Hid kmul; rw [hfg]
    simp only [Option.isSome_none, Bool.false_and]
    clear hfg
    go_wp2
    go_ret2
    rw [HE.out]
    exact ⟨rfl, h.below hbw, Tch.of_below hbw⟩
  | some l =>
    cases hfx : s.f x with
    | none =>
      have HE : Hid (kmul s g x ds = (0, 4, s)) := by unfold Hid kmul; rw [hfg, hfx]
      simp only [Option.isSome_none, Bool.and_false]
      clear hfg hfx
      go_wp2
      go_ret2
      rw [HE.out]
      exact ⟨rfl, h.below hbw, Tch.of_below hbw⟩
    | some m =>
      simp only [Option.isSome_some, Bool.and_self]
      have h1 := h.same hbw
      have H1 : Hid (Stx 55 w1 p G s) := h1
      have HFG : Hid (s.f g = some l) := hfg
      have HFX : Hid (s.f x = some m) := hfx
      obtain ⟨⟨b, V, hS, _⟩, _⟩ := h1
      obtain ⟨c0, c1, c2, c3⟩ := hS.four
      have hpl := hS.lt
      clear hS hfg hfx
      obtain ⟨n, HN⟩ : ∃ n, Hid (s.n = n) := ⟨_, rfl⟩
      obtain ⟨t, HT⟩ : ∃ t, Hid (s.t = t) := ⟨_, rfl⟩
      rw [HN.out] at c0 hn9 hnt
      rw [HT.out] at c1 ht4 hnt
      obtain ⟨M, HM⟩ : ∃ M, Hid (n * t = M) := ⟨_, rfl⟩
      have hMI : (n : Int) * (t : Int) = (M : Int) := by rw [← HM.out]; push_cast; rfl
      have hM45 : M ≤ 36 := by rw [← HM.out]; exact Nat.mul_le_mul hn9 ht4
      have hw2 : IntKind.i64.wrap ((M : Int)) = (M : Int) := by rw [IntKind.wrap_i64]; omega
      have HMK : Hid (s.n * s.t = M) := by unfold Hid; rw [HN.out, HT.out, HM.out]
      by_cases hm : q = M
      · subst hm
        have HE : Hid (kmul s g x ds = kadd s (tmO t l m ds n n)) := by unfold Hid kmul; rw [HFG.out, HFX.out]; simp only; rw [if_pos (by rw [hlen, HMK.out]), HN.out, HT.out]
        have hmm : ((q : Int) != (q : Int)) = false := by simp
        go_wp2
        go_quiet (fail)
        have hb2 : Below w1.heap.size w1 (w1.drewN nq) := drewN_below (Below.refl _ _) nq
        generalize w1.drewN nq = w2 at *
        have hbw2 := hbw.trans (hb2.mono hbw.size)
        have h2 := h.same hbw2
        have H2 : Hid (Stx 55 w2.drew p G s) := h2.same ((Below.refl _ _).drew)
        clear c0 c1 c2 c3 hpl hb2
        obtain ⟨⟨b, V, hS, hFt⟩, _⟩ := h2
        obtain ⟨ag, cg, hVg, hrg⟩ := hS.slice HFG.out
        obtain ⟨ax, cx, hVx, hrx⟩ := hS.slice HFX.out
        obtain ⟨c0, c1, c2, c3⟩ := hS.four
        have hpl := hS.lt
        have hlg := look_at (show MapI w2.drew b s.cnt V from hS.map) hVg hg
        have hlx := look_at (show MapI w2.drew b s.cnt V from hS.map) hVx hx
        rw [HN.out] at hrg hrx hlg hlx
        rw [HT.out] at c1
        have hrg1 := hrg.drew
        have hrx1 := hrx.drew
        have hrd := (r.below hbw2).drew
        have hbd : Below w.heap.size w w2.drew := hbw2.drew
        have HM2 : Hid (q = n * t) := HM.out.symm
        have hn1 : 1 ≤ n := by omega
        have HAL : Hid (∀ w', Below w2.heap.size w2 w' → w'.cell? ⟨p, 1, none⟩ = some (.int .i64 (t : Int)) ∧ w'.cell? ⟨p, 3, none⟩ = some (.map (some b)) ∧ p < w'.heap.size ∧ (Instr.lookup 53 (.map (some b)) (.int .i64 g) false).run Try.prog w' = .ok (.slice ag n cg) w' ∧ (Instr.lookup 53 (.map (some b)) (.int .i64 x) false).run Try.prog w' = .ok (.slice ax n cx) w') := fun w' hb => by
          have hS' := hS.keep (w' := w') fun i hi => hb.block i (H2.out.2 i (hFt i hi))
          have h4 := hS'.four
          rw [HT.out] at h4
          have l1 := look_at hS'.map hVg hg
          have l2 := look_at hS'.map hVx hx
          rw [HN.out] at l1 l2
          exact ⟨h4.2.1, h4.2.2.2, hS'.lt, l1, l2⟩
        obtain ⟨z1, z2, z3, z4, z5⟩ := HAL.out _ (Below.refl _ _).drew
        clear hS hVg hVx hrg hrx hFt
        go_wp2
        go_region_held3 (fun w' => w'.cell? ⟨p, 1, none⟩ = some (.int .i64 (t : Int)) ∧ w'.cell? ⟨p, 3, none⟩ = some (.map (some b)) ∧ (Instr.lookup 53 (.map (some b)) (.int .i64 g) false).run Try.prog w' = .ok (.slice ag n cg) w' ∧ (Instr.lookup 53 (.map (some b)) (.int .i64 x) false).run Try.prog w' = .ok (.slice ax n cx) w') (go_keep) (first | (go_at_call 57; refine (rTimes t _ n _ _ _ _ _ _ q _ _ _ hrg1 hrx1 hrd ht4 hn1 hn9 HM2.out).mono ?_; rintro e w3 ⟨v3, u3, L3, rfl, ho3, _, hb3⟩; obtain ⟨a3, k3, rfl, hr3, hx3⟩ := Rd.own ho3 (bd_u64 (tmO_bd' _ _ _ _ _ _)); obtain ⟨y1, y2, y3, y4, y5⟩ := HAL.out w3 (((Below.refl _ _).drew).trans (hb3.mono (Nat.le_refl _)))))
        all_goals
          have hG3 := gnx_new (G := G) hr3 (by omega) hx3
          have h3 := H2.out.below hb3
          rw [← HN.out] at hr3
          rw [← HN.out]
          clear ho3 hx3
          go_wp2_with fail
          refine (rKeep p _ s _ _ _ _ h3 hr3 (tmO_bd' _ _ _ _ _ _) hG3 hlast).mono ?_
          intro e w4 hK
          have HR : Hid (Kde 55 p G (kadd s (tmO t l m ds s.n s.n)) w e w4) := ((hK.behind hb3 H2.out.2).after hbd hGl)
          obtain ⟨rfl, _, _⟩ := hK
          clear h3 hr3 hG3 hb3
          go_wp2
          go_ret2
          rw [HE.out, ← HN.out]
          exact HR.out
      · have HE : Hid (kmul s g x ds = (0, 1, s)) := by unfold Hid kmul; rw [HFG.out, HFX.out]; simp only; rw [if_neg (by rw [hlen, HMK.out]; exact hm)]
        have hmm : ((q : Int) != (M : Int)) = true := by rw [bne_iff_ne]; omega
        clear hm
        go_wp2
        go_quiet (fail)
        have hb2 : Below w1.heap.size w1 (w1.drewN nq) := drewN_below (Below.refl _ _) nq
        generalize w1.drewN nq = w2 at *
        have hbw2 := hbw.trans (hb2.mono hbw.size)
        clear c0 c1 c2 c3 hpl hb2
        go_wp2
        go_ret2
        rw [HE.out]
        exact ⟨rfl, h.below hbw2, Tch.of_below hbw2⟩
end Go.Proofs.Ytgmelcdgnjcojac
