/- Keys: what is told of them: plain. · Keys that were made one behind another, none dropped: plain. · croftref.Played: what each party has seen so far, and the wires' numbers: memory. -/
import Derived.Test.YtgmelcdgnjcojagDoorToMapV
import Derived.Test.YtgmelcdgnjcojagDoorToEngM
import Derived.Test.YtgmelcdgnjcojagDoorToLsV2
import Derived.Test.YtgmelcdgnjcojagDoorToRStE
namespace Go.Proofs.YtgmelcdgnjcojagDoor
open Crm

/-- Of each key the parties' numbers are shares, of t at the most, of g. -/
def Kvl (s : Kt) (g : Int → Option Int) : Prop := ∀ h, (s.f h = none ∧ g h = none) ∨ ∃ l v, s.f h = some l ∧ g h = some v ∧ Ksh s.n s.t l v
def gset (g : Int → Option Int) (h : Int) (v : Option Int) : Int → Option Int := fun i => if i = h then v else g i
theorem k0_vl (n t : Nat) : Kvl (k0 n t) (fun _ => none) := fun _ => .inl ⟨rfl, rfl⟩
theorem kput_vl {s : Kt} {g : Int → Option Int} {l : List Int} {v : Int} (h : Kvl s g) (hl : Ksh s.n s.t l v) : Kvl (kput s l) (gset g ((s.last : Int) + 1) (some v)) := fun i => by
  show (kset s.f ((s.last : Int) + 1) (some l) i = none ∧ gset g ((s.last : Int) + 1) (some v) i = none) ∨ ∃ l' v', kset s.f ((s.last : Int) + 1) (some l) i = some l' ∧ gset g ((s.last : Int) + 1) (some v) i = some v' ∧ Ksh s.n s.t l' v'
  unfold kset gset
  split
  · exact .inr ⟨l, v, rfl, rfl, hl⟩
  · exact h i
theorem ktrn_vl {s : Kt} {g : Int → Option Int} {l m : List Int} {v k : Int} (h : Kvl s g) (hm : s.f k = some m) (hv : Ksh s.n s.t m v → Ksh s.n s.t l v) (hg : g k = some v) : Kvl (ktrn s k l) g := fun i => by
  show (kset s.f k (some l) i = none ∧ g i = none) ∨ ∃ l' v', kset s.f k (some l) i = some l' ∧ g i = some v' ∧ Ksh s.n s.t l' v'
  unfold kset
  split
  · rename_i e
    rcases h k with ⟨e1, _⟩ | ⟨l', v', e1, e2, e3⟩
    · rw [hm] at e1; cases e1
    · rw [hm] at e1
      obtain rfl := Option.some.inj e1
      rw [hg] at e2
      obtain rfl := Option.some.inj e2
      rw [e]
      exact .inr ⟨l, v, rfl, hg, hv e3⟩
  · exact h i
theorem kout_vl {s : Kt} {g : Int → Option Int} (h : Kvl s g) (k : Int) : Kvl (kout s k) (gset g k none) := fun i => by
  show (kset s.f k none i = none ∧ gset g k none i = none) ∨ ∃ l' v', kset s.f k none i = some l' ∧ gset g k none i = some v' ∧ Ksh s.n s.t l' v'
  unfold kset gset
  split
  · exact .inl ⟨rfl, rfl⟩
  · exact h i
theorem Kvl.some {s : Kt} {g : Int → Option Int} (h : Kvl s g) {i : Int} {l : List Int} (hf : s.f i = Option.some l) : ∃ v, g i = Option.some v ∧ Ksh s.n s.t l v := by
  rcases h i with ⟨e, _⟩ | ⟨l', v, e1, e2, e3⟩
  · rw [e] at hf; cases hf
  · rw [e1] at hf
    obtain rfl := Option.some.inj hf
    exact ⟨v, e2, e3⟩
/-- What is told of a key is its value. -/
theorem Kvl.told {s : Kt} {g : Int → Option Int} (h : Kvl s g) (w : Kwf s) {i x r : Int} {l : List Int} (hf : s.f i = Option.some l) (hO : Kop s i x r) : g i = Option.some x ∧ r = 0 := by
  obtain ⟨v, e1, e2⟩ := h.some hf
  rcases hO with ⟨e, _⟩ | ⟨l', e, hO⟩
  · rw [e] at hf; cases hf
  · rw [e] at hf
    obtain rfl := Option.some.inj hf
    obtain ⟨rfl, rfl⟩ := e2.opened w.nt w.n9 hO
    exact ⟨e1, rfl⟩
theorem Kop.none {s : Kt} {i x r : Int} (hO : Kop s i x r) (hf : s.f i = Option.none) : x = 0 ∧ r = 4 := by
  rcases hO with ⟨_, e⟩ | ⟨l, e, _⟩
  · exact e
  · rw [e] at hf; cases hf
/-- There are values. -/
def Kvd (s : Kt) : Prop := ∃ g, Kvl s g
theorem k0_vd (n t : Nat) : Kvd (k0 n t) := ⟨_, k0_vl n t⟩
theorem kadd_vd {s : Kt} {l : List Int} {v : Int} (h : Kvd s) (hl : Ksh s.n s.t l v) : Kvd (kadd s l).2.2 := by
  obtain ⟨g, h⟩ := h
  rcases kadd_cases s l with ⟨_, e⟩ | ⟨_, e⟩
  · rw [e]; exact ⟨g, h⟩
  · rw [e]; exact ⟨_, kput_vl h hl⟩
theorem kgen_vd {s : Kt} (h : Kvd s) (ds : List Int) : Kvd (kgen s ds).2.2 := by
  unfold kgen
  split
  · exact kadd_vd h (ksm_ksh _ _ _ _ _)
  · exact h
theorem kmix_vd {s : Kt} (h : Kvd s) (g i a b c : Int) : Kvd (kmix s g i a b c).2.2 := by
  obtain ⟨q, hq⟩ := h
  unfold kmix
  split
  · rename_i l m e1 e2
    obtain ⟨v, _, hv⟩ := hq.some e1
    obtain ⟨u, _, hu⟩ := hq.some e2
    exact kadd_vd ⟨q, hq⟩ (hv.mix a b c hu)
  · exact ⟨q, hq⟩
theorem kmul_vd {s : Kt} (h : Kvd s) (w : Kwf s) (g i : Int) (ds : List Int) : Kvd (kmul s g i ds).2.2 := by
  obtain ⟨q, hq⟩ := h
  unfold kmul
  split
  · rename_i l m e1 e2
    split
    · obtain ⟨v, _, hv⟩ := hq.some e1
      obtain ⟨u, _, hu⟩ := hq.some e2
      exact kadd_vd ⟨q, hq⟩ (hv.times hu w.nt w.n9)
    · exact ⟨q, hq⟩
  · exact ⟨q, hq⟩
theorem krfr_vd {s : Kt} (h : Kvd s) (i : Int) (ds : List Int) : Kvd (krfr s i ds).2 := by
  obtain ⟨q, hq⟩ := h
  unfold krfr
  split
  · rename_i l e1
    split
    · obtain ⟨v, e2, _⟩ := hq.some e1
      exact ⟨q, ktrn_vl hq e1 (fun hv => hv.fresh) e2⟩
    · exact ⟨q, hq⟩
  · exact ⟨q, hq⟩
theorem kdrp_vd {s : Kt} (h : Kvd s) (i : Int) : Kvd (kdrp s i).2 := by
  obtain ⟨q, hq⟩ := h
  unfold kdrp
  split
  · exact ⟨_, kout_vl hq i⟩
  · exact ⟨q, hq⟩
end Go.Proofs.YtgmelcdgnjcojagDoor

namespace Go.Proofs.YtgmelcdgnjcojagDoor
open Crm

/-- The value of handle h, of those told. -/
def vat (V : List Int) (h : Int) : Option Int := if 1 ≤ h ∧ h ≤ (V.length : Int) then some (V.getD (h - 1).toNat 0) else none
theorem vat_in {V : List Int} {h : Int} (h1 : 1 ≤ h) (h2 : h ≤ (V.length : Int)) : vat V h = some (V.getD (h - 1).toNat 0) := if_pos ⟨h1, h2⟩
theorem vat_snoc (V : List Int) (v : Int) : vat (V ++ [v]) = gset (vat V) ((V.length : Int) + 1) (some v) := by
  funext h
  unfold vat gset
  by_cases e : h = (V.length : Int) + 1
  · subst e
    rw [if_pos rfl, if_pos (by simp; omega)]
    simp
  · rw [if_neg e]
    simp only
    by_cases hh : 1 ≤ h ∧ h ≤ (V.length : Int)
    · rw [if_pos hh, if_pos (by simp; omega)]
      have h0 : (h - 1).toNat < V.length := by omega
      rw [List.getD_eq_getElem?_getD, List.getD_eq_getElem?_getD, List.getElem?_append_left h0]
    · rw [if_neg hh, if_neg (by simp; omega)]
/-- n parties, t of whom may look; the keys 1, 2, .. have the values V. -/
structure Kab (s : Kt) (n t : Nat) (V : List Int) : Prop where
  en : s.n = n
  et : s.t = t
  el : s.last = V.length
  ec : s.cnt = V.length
  wf : Kwf s
  vl : Kvl s (vat V)
theorem k0_ab {n t : Nat} (ht : t ≤ 4) (hn : n ≤ 9) (h : 2 * t + 1 ≤ n) : Kab (k0 n t) n t [] := by
  refine ⟨rfl, rfl, rfl, rfl, k0_wf ht hn h, fun i => .inl ⟨rfl, ?_⟩⟩
  unfold vat
  rw [if_neg (by simp; omega)]
theorem Kab.put {s : Kt} {n t : Nat} {V l : List Int} {v : Int} (h : Kab s n t V) (hV : V.length < 8) (hl : Ksh n t l v) : kadd s l = ((V.length : Int) + 1, 0, kput s l) ∧ Kab (kput s l) n t (V ++ [v]) := by
  have hc := h.ec
  have e : kadd s l = ((s.last : Int) + 1, 0, kput s l) := by
    rcases kadd_cases s l with ⟨h8, _⟩ | ⟨_, e⟩
    · omega
    · exact e
  refine ⟨by rw [e, h.el], h.en, h.et, ?_, ?_, kput_wf h.wf (by omega) (by rw [h.en]; exact hl.len) hl.bd, ?_⟩
  · show s.last + 1 = _
    rw [h.el]; simp
  · show s.cnt + 1 = _
    rw [h.ec]; simp
  · rw [vat_snoc, ← h.el]
    exact kput_vl h.vl (by rw [h.en, h.et]; exact hl)
theorem Kab.key {s : Kt} {n t : Nat} {V : List Int} (h : Kab s n t V) {k : Int} (h1 : 1 ≤ k) (h2 : k ≤ (V.length : Int)) : ∃ l, s.f k = some l ∧ Ksh n t l (V.getD (k - 1).toNat 0) := by
  rcases h.vl k with ⟨_, e⟩ | ⟨l, v, e1, e2, e3⟩
  · rw [vat_in h1 h2] at e; cases e
  · rw [vat_in h1 h2] at e2
    obtain rfl := Option.some.inj e2
    rw [h.en, h.et] at e3
    exact ⟨l, e1, e3⟩
theorem Kab.gen {s : Kt} {n t : Nat} {V : List Int} (h : Kab s n t V) (hV : V.length < 8) {ds : List Int} (hd : ds.length = n * (t + 1)) : ∃ s', kgen s ds = ((V.length : Int) + 1, 0, s') ∧ Kab s' n t (V ++ [ksv t true ds n]) := by
  have hp := h.put hV (ksm_ksh n t true ds n)
  refine ⟨_, ?_, hp.2⟩
  unfold kgen
  rw [h.en, h.et, if_pos hd]
  exact hp.1
theorem Kab.mix {s : Kt} {n t : Nat} {V : List Int} (h : Kab s n t V) (hV : V.length < 8) {g k : Int} (g1 : 1 ≤ g) (g2 : g ≤ (V.length : Int)) (k1 : 1 ≤ k) (k2 : k ≤ (V.length : Int)) (a b c : Int) :
    ∃ s', kmix s g k a b c = ((V.length : Int) + 1, 0, s') ∧ Kab s' n t (V ++ [nm (a * V.getD (g - 1).toNat 0 + b * V.getD (k - 1).toNat 0 + c)]) := by
  obtain ⟨l, e1, hl⟩ := h.key g1 g2
  obtain ⟨m, e2, hm⟩ := h.key k1 k2
  have hp := h.put hV (hl.mix a b c hm)
  refine ⟨_, ?_, hp.2⟩
  unfold kmix
  rw [e1, e2]
  simp only
  rw [h.en]
  exact hp.1
theorem Kab.mul {s : Kt} {n t : Nat} {V : List Int} (h : Kab s n t V) (hV : V.length < 8) {g k : Int} (g1 : 1 ≤ g) (g2 : g ≤ (V.length : Int)) (k1 : 1 ≤ k) (k2 : k ≤ (V.length : Int)) {ds : List Int} (hd : ds.length = n * t) :
    ∃ s', kmul s g k ds = ((V.length : Int) + 1, 0, s') ∧ Kab s' n t (V ++ [nm (V.getD (g - 1).toNat 0 * V.getD (k - 1).toNat 0)]) := by
  obtain ⟨l, e1, hl⟩ := h.key g1 g2
  obtain ⟨m, e2, hm⟩ := h.key k1 k2
  have w1 := h.wf.nt
  have w2 := h.wf.n9
  rw [h.en, h.et] at w1
  rw [h.en] at w2
  have hp := h.put hV (hl.times (ds := ds) hm w1 w2)
  refine ⟨_, ?_, hp.2⟩
  unfold kmul
  rw [e1, e2]
  simp only
  rw [h.en, h.et, if_pos hd]
  exact hp.1
theorem Kab.rfr {s : Kt} {n t : Nat} {V : List Int} (h : Kab s n t V) {k : Int} (k1 : 1 ≤ k) (k2 : k ≤ (V.length : Int)) {ds : List Int} (hd : ds.length = n * t) : ∃ s', krfr s k ds = (0, s') ∧ Kab s' n t V := by
  obtain ⟨l, e1, _⟩ := h.key k1 k2
  have hw := krfr_wf k ds h.wf
  have e : krfr s k ds = (0, ktrn s k (mxl l (ksm s.n s.t false ds s.n) 1 1 0 s.n)) := by
    unfold krfr
    rw [e1]
    simp only
    rw [if_pos (by rw [h.en, h.et]; exact hd)]
  rw [e] at hw
  exact ⟨_, e, h.en, h.et, h.el, h.ec, hw.1, ktrn_vl h.vl e1 (fun hv => hv.fresh) (vat_in k1 k2)⟩
theorem Kab.told {s : Kt} {n t : Nat} {V : List Int} (h : Kab s n t V) {k x r : Int} (k1 : 1 ≤ k) (k2 : k ≤ (V.length : Int)) (hO : Kop s k x r) : x = V.getD (k - 1).toNat 0 ∧ r = 0 := by
  obtain ⟨l, e1, _⟩ := h.key k1 k2
  have := h.vl.told h.wf e1 hO
  rw [vat_in k1 k2] at this
  exact ⟨(Option.some.inj this.1).symm, this.2⟩
/-- A key is gone; it can't be dropped twice. -/
theorem Kab.drp {s : Kt} {n t : Nat} {V : List Int} (h : Kab s n t V) {k : Int} (k1 : 1 ≤ k) (k2 : k ≤ (V.length : Int)) : kdrp s k = (0, kout s k) ∧ kdrp (kout s k) k = (4, kout s k) := by
  obtain ⟨l, e1, _⟩ := h.key k1 k2
  constructor
  · unfold kdrp; rw [e1]
  · have : (kout s k).f k = none := kset_same _ _ _
    unfold kdrp; rw [this]
end Go.Proofs.YtgmelcdgnjcojagDoor

namespace Go.Proofs.YtgmelcdgnjcojagDoor
open Go.RowKit Crm

/-- append of a list that is read to a slice that the call itself gathers, a step of a region that draws; where it lies. -/
theorem step_appM {P : Program} {T E : TypeId} (hT : P.underlying T = some (.slice E)) (info : (P.info? E).map (fun i => (i.zero, i.size, i.bytes)) = some (some (.int .u64 0), 1, 8))
    (w : World) {ops : Array Oper} {o : Oper} {a : Act} {K : Act → World → Prop} {Q : Exit → Act → World → Prop} {F : Prop} (hgd : o.guard = none) (s x : Operand)
    (ho : o.op = .call { callee := .builtin .append, args := #[s, x], argTypes := #[T, T] })
    (base : Nat) (v : Value) (n : Nat) (xs : List Int) (hs : a.eval s = v) (hown : w.ownsRow base E 1 v n (xs.map (Value.int .u64))) (b o2 m c : Nat) (ys : List Int) (hr : Rd w (some ⟨b, o2, none⟩) m c ys) (hx : a.eval x = .slice (some ⟨b, o2, none⟩) m c)
    (hm : 0 < m) (hn : n + m ≤ 1000000) (hbase : base ≤ w.heap.size)
    (h : ∀ g cap w', w'.ownsRow base E 1 (.slice (some ⟨g, 0, none⟩) (n + m) cap) (n + m) ((xs ++ ys).map (Value.int .u64)) → w.grownBy w' v.ownBlock → ((Value.slice (some ⟨g, 0, none⟩) (n + m) cap).ownBlock = v.ownBlock ∨ ∃ k, (Value.slice (some ⟨g, 0, none⟩) (n + m) cap).ownBlock = some k ∧ w.heap.size ≤ k) → K (a.put o.dst (.slice (some ⟨g, 0, none⟩) (n + m) cap)) w') :
    if Region.wanted o (yielded ops a.tmps) = true then Oper.wp P o a w K Q else F := by
  obtain ⟨i0, hi, hz0, hz1, hz2⟩ := info_parts info
  have hyl := hr.len
  refine step_append_lies _ hgd s x T ho base E i0 (.int .u64 0) 1 8 hT hi hz0 hz1 hz2 rfl (by decide) v n _ hs hown ⟨b, o2, none⟩ m c (ys.map (Value.int .u64)) hx (by simp [hyl]) ?_ ?_ hm (by unfold maxLen; omega) (by omega) hbase _ rfl ?_
  · intro j u hj
    have hjm : j < m := by
      have := (List.getElem?_eq_some_iff.1 hj).1
      simp at this
      omega
    rw [hr.cell _ rfl j hjm]
    rw [List.getElem?_map, List.getElem?_eq_getElem (by omega)] at hj
    simp only [Option.map_some, Option.some.injEq] at hj
    rw [← hj, List.getD_eq_getElem?_getD, List.getElem?_eq_getElem (by omega)]
    rfl
  · intro u hu
    obtain ⟨z, _, rfl⟩ := List.mem_map.1 hu
    rfl
  · intro g cap w' hown' hgrow h4 _
    refine h g cap w' (by rw [List.map_append]; exact hown') hgrow ?_
    rcases h4 with e | e
    · exact .inl (by rw [e]; rfl)
    · exact .inr ⟨g, rfl, by omega⟩
/-- What is gathered: what each party has seen, and the wires; what was made between lo and hi lies apart from what is seen. -/
structure Sen (w wr : World) (gs n : Nat) (Ls : List Value) (S : List (List Int)) (vW : Value) (LW : List Value) (W : List (List Int)) (lo hi : Nat) : Prop where
  seen : LsV wr w.heap.size (.slice (some ⟨gs, 0, none⟩) n n) Ls S
  len : S.length = n
  wires : LsV wr w.heap.size vW LW W
  apt : Apt Ls LW
  out : vW.ownBlock ≠ some gs
  far : Far Ls n lo hi
  gl : gs < lo
  hi : hi ≤ wr.heap.size
  bel : Below w.heap.size w wr
theorem Sen.drew {w wr : World} {gs n : Nat} {Ls : List Value} {S : List (List Int)} {vW : Value} {LW : List Value} {W : List (List Int)} {lo hi : Nat} (h : Sen w wr gs n Ls S vW LW W lo hi) : Sen w wr.drew gs n Ls S vW LW W lo hi :=
  ⟨h.seen.drew, h.len, h.wires.drew, h.apt, h.out, h.far, h.gl, h.hi, h.bel.drew⟩
theorem Sen.below {w wr w' : World} {gs n : Nat} {Ls : List Value} {S : List (List Int)} {vW : Value} {LW : List Value} {W : List (List Int)} {lo hi : Nat} (h : Sen w wr gs n Ls S vW LW W lo hi) (hb : Below wr.heap.size wr w') : Sen w w' gs n Ls S vW LW W lo hi :=
  ⟨h.seen.below hb, h.len, h.wires.below hb, h.apt, h.out, h.far, h.gl, Nat.le_trans h.hi hb.size, h.bel.trans (hb.mono h.bel.size)⟩
/-- A row of the call's that was made between lo and hi stays while what is seen grows. -/
def Btw (lo hi : Nat) (v : Value) : Prop := ∀ b, v.ownBlock = some b → lo ≤ b ∧ b < hi
/-- What party j has seen grows. -/
theorem Sen.put {w wr w7 : World} {gs n j : Nat} {Ls : List Value} {S : List (List Int)} {vW v7 : Value} {LW : List Value} {W : List (List Int)} {lo hi : Nat} {row : List Int} (h : Sen w wr gs n Ls S vW LW W lo hi) (hj : j < n)
    (ho : w7.ownsRow w.heap.size 34 1 v7 row.length (row.map (Value.int .u64))) (hg : wr.grownBy w7 (Ls.getD j (.slice none 0 0)).ownBlock) (hat : v7.ownBlock = (Ls.getD j (.slice none 0 0)).ownBlock ∨ ∃ k, v7.ownBlock = some k ∧ wr.heap.size ≤ k) :
    Sen w (w7.setCell ⟨gs, j, none⟩ v7) gs n (Ls.set j v7) (S.set j row) vW LW W lo hi := by
  have hrow := h.seen.row j (by rw [h.len]; exact hj)
  have hE : (34 : TypeId) ≠ 22 := by decide
  have hg2 : w7.grownBy (w7.setCell ⟨gs, j, none⟩ v7) (some gs) := grown_set _ _ _ _
  have hgs := (h.seen.cell h.len hj).2.2
  have hLl : j < Ls.length := by rw [h.seen.len, h.len]; exact hj
  have hWb := h.wires.blk
  have hW7 : LsV w7 w.heap.size vW LW W := h.wires.grown hg (own_apart hrow h.wires.own hE) (fun i _ => h.apt.symm i j)
  have hW8 : LsV (w7.setCell ⟨gs, j, none⟩ v7) w.heap.size vW LW W := by
    refine hW7.grown hg2 (.inr h.out) (fun i hi => ?_)
    have ho7 := h.seen.own.kept hg (own_apart hrow h.seen.own hE)
    exact own_apart ho7 (hW7.row i hi) (by decide)
  refine ⟨h.seen.upd h.len hj ho hg hat, by rw [List.length_set]; exact h.len, hW8, h.apt.set hLl (H := wr.heap.size) (fun i k hk => (hWb i k hk).2) hat, h.out, fun p hp gg hgg => ?_, h.gl, ?_, ?_⟩
  · rw [getD_setV _ _ _ _ _ hLl] at hgg
    split at hgg
    · rcases hat with e | ⟨k, e, hk⟩
      · rw [e] at hgg
        exact h.far j hj gg hgg
      · rw [e] at hgg
        obtain rfl := Option.some.inj hgg
        right
        exact Nat.le_trans h.hi hk
    · exact h.far p hp gg hgg
  · exact Nat.le_trans h.hi (Nat.le_trans hg.size hg2.size)
  · have hb7 : Below w.heap.size w w7 := h.bel.grown hg h.bel.size (fun q hq => (hrow.lt q hq).1)
    exact hb7.setCell (p := ⟨gs, j, none⟩) (h.seen.own.lt gs rfl).1 _
theorem Sen.keep {w wr w7 : World} {gs n j : Nat} {Ls : List Value} {S : List (List Int)} {vW v7 : Value} {LW : List Value} {W : List (List Int)} {lo hi B2 k z : Nat} {E : TypeId} {v : Value} {xs : List Value} (h : Sen w wr gs n Ls S vW LW W lo hi) (hj : j < n)
    (hx : wr.ownsRow B2 E z v k xs) (hv : Btw lo hi v) (hg : wr.grownBy w7 (Ls.getD j (.slice none 0 0)).ownBlock) : (w7.setCell ⟨gs, j, none⟩ v7).ownsRow B2 E z v k xs := by
  have h1 : v.ownBlock = none ∨ v.ownBlock ≠ (Ls.getD j (.slice none 0 0)).ownBlock := by
    cases hb : v.ownBlock with
    | none => exact .inl rfl
    | some b =>
      right
      intro e
      have h2 := hv b hb
      have h3 := h.far j hj b e.symm
      omega
  refine (hx.kept hg h1).kept (grown_set _ _ _ _) ?_
  cases hb : v.ownBlock with
  | none => exact .inl rfl
  | some b =>
    right
    intro e
    have h2 := hv b hb
    have h3 := h.gl
    have := Option.some.inj e
    omega
/-- Lists of rows that were made between. -/
theorem Sen.keepL {w wr w7 : World} {gs n j : Nat} {Ls : List Value} {S : List (List Int)} {vW v7 : Value} {LW : List Value} {W : List (List Int)} {lo hi B2 : Nat} {v : Value} {L : List Value} {rows : List (List Int)} (h : Sen w wr gs n Ls S vW LW W lo hi) (hj : j < n)
    (hx : LsV wr B2 v L rows) (hv : Btw lo hi v) (hL : ∀ i, Btw lo hi (L.getD i (.slice none 0 0))) (hg : wr.grownBy w7 (Ls.getD j (.slice none 0 0)).ownBlock) : LsV (w7.setCell ⟨gs, j, none⟩ v7) B2 v L rows :=
  ⟨h.keep hj hx.own hv hg, hx.len, fun i hi => h.keep hj (hx.row i hi) (hL i) hg, hx.inj⟩
/-- Rows of which the first q are longer. -/
def sgx (S : Nat → List Int) (X : Nat → List Int) (n q : Nat) : List (List Int) := (List.range n).map fun p => if p < q then S p ++ X p else S p
theorem sgx_len (S X : Nat → List Int) (n q : Nat) : (sgx S X n q).length = n := by simp [sgx]
theorem sgx_zero (S X : Nat → List Int) (n : Nat) : sgx S X n 0 = (List.range n).map S := by simp [sgx]
theorem sgx_full (S X : Nat → List Int) (n : Nat) : sgx S X n n = (List.range n).map fun p => S p ++ X p := by
  unfold sgx
  refine List.map_congr_left fun p hp => ?_
  rw [if_pos (List.mem_range.1 hp)]
theorem sgx_getD (S X : Nat → List Int) {n q : Nat} (h : q < n) : (sgx S X n q).getD q [] = S q := by simp [sgx, h]
theorem sgx_set (S X : Nat → List Int) (n q : Nat) : (sgx S X n q).set q (S q ++ X q) = sgx S X n (q + 1) := by
  apply List.ext_getElem?
  intro p
  rw [List.getElem?_set]
  by_cases hp : p < n
  · by_cases e : q = p
    · subst e; simp [sgx, hp]
    · have : (p < q + 1) = (p < q) := by apply propext; omega
      simp [sgx, hp, e, this]
  · by_cases e : q = p
    · subst e; simp [sgx, hp]
    · simp [sgx, hp, e]
end Go.Proofs.YtgmelcdgnjcojagDoor
