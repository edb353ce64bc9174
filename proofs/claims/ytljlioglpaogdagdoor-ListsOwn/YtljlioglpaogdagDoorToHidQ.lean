/- croftkeep.dealt; shares that are written. · Keys that were made one behind another, none dropped: plain. · croftref.Played: what each party has seen so far, and the wires' numbers: memory. · What is hidden: the polynomial that is nought at some parties and 1 at 0; draws that are shifted by it: plain facts. · What the calls of package hide answer. · hide.different. · The five numbers that hide.zeros reckons, and the pairs of powers that hide.places tells: plain facts. · hide.places. -/
import Derived.Test.YtljlioglpaogdagDoorToOpenC
import Derived.Test.YtljlioglpaogdagDoorToShortC
import Derived.Test.YtljlioglpaogdagDoorToLstC
import Derived.Test.YtljlioglpaogdagDoorToKeyV
import Derived.Test.YtljlioglpaogdagDoorToTopRightM
import Derived.Test.YtljlioglpaogdagDoorToLsV2
import Derived.Test.YtljlioglpaogdagDoorToTimesC
import Derived.Test.YtljlioglpaogdagDoorToBadM
import Derived.Test.YtljlioglpaogdagDoorToGaussM
import Derived.Test.YtljlioglpaogdagDoorToCkDef
import Derived.Test.YtljlioglpaogdagDoorToShpM
import Derived.Test.YtljlioglpaogdagDoorProg
import Derived.WalkKit
import Derived.WalkSpells
import Derived.WalkLawsBesides
import Derived.Test.YtljlioglpaogdagDoorToRefProdC
import Derived.Test.YtljlioglpaogdagDoorToTEqC
namespace Go.Proofs.YtljlioglpaogdagDoor
set_option linter.unusedVariables false
set_option maxRecDepth 100000
set_option maxHeartbeats 8000000
section
open Crm Go.RowKit
theorem rdS_known2 (w : World) (E : TypeId) : RdS (w.alloc (.cells #[.int .i64 3, .int .u64 11, .int .i64 1, .int .u64 7] E)) (some ⟨w.heap.size, 0, none⟩) 2 2 [(3, 11), (1, 7)] := by
  refine ⟨rfl, Nat.le_refl _, by unfold maxLen; omega, fun i hi => ?_, by simp, fun x hx i hi => ?_⟩
  · match i, hi with
    | 0, _ => decide
    | 1, _ => decide
  · obtain rfl := Option.some.inj hx
    rw [Addr.add_lit, Addr.add_lit, cell_of_row _ _ _ _ E (0, 0) (heap_alloc_new w _), cell_of_row _ _ _ _ E (0, 0) (heap_alloc_new w _)]
    match i, hi with
    | 0, _ => exact ⟨rfl, rfl⟩
    | 1, _ => exact ⟨rfl, rfl⟩
theorem dis_known : dis (fa [(3, 11), (1, 7)]) 2 := by
  intro i hi
  match i, hi with
  | 0, _ => exact ⟨by decide, fun j hj => by omega⟩
  | 1, _ => exact ⟨by decide, fun j hj => by
      match j, hj with
      | 0, _ => decide⟩
theorem hs_known : Hs [(3, 11), (1, 7)] 2 [5, 2] := by
  intro j hj
  match j, hj with
  | 0, _ => decide
  | 1, _ => decide

theorem kDealt (w : World) : Calls Tryd.prog 9 #[] w fun e w' => e = .returned (.bool true) ∧ Below w.heap.size w w' := by
  have hb1 := below_one w (.cells #[.int .u64 2] 34)
  have r1 : Rd (w.alloc (.cells #[.int .u64 2] 34)) (some ⟨w.heap.size, 0, none⟩) 1 1 [2] := (Blk.lit1 w 2).whole 1 rfl (by unfold maxLen; omega) (fun u hu => by rw [List.mem_singleton.1 hu]; omega)
  go_enter Tryd.func9, Tryd.ntmps9
  go_wp2_with fail
  generalize w.alloc (.cells #[.int .u64 2] 34) = v1 at *
  refine (cDealOK 5 _ _ _ _ 3 _ r1 (by omega) (by omega) (by omega) (by omega) (by omega)).mono ?_
  rintro e v2 ⟨g, rfl, hr2, _, hb2⟩
  have ed : dl [5, 2] 3 = [7, 9, 11] := by decide
  rw [ed] at hr2
  have hw2 := hb1.trans (hb2.mono hb1.size)
  have hb3 := below_one v2 (.cells #[.int .i64 3, .int .u64 11, .int .i64 1, .int .u64 7] 68)
  have r3 := rdS_known2 v2 68
  clear hb1 hb2 r1 ed
  go_wp2_with fail
  generalize v2.alloc (.cells #[.int .i64 3, .int .u64 11, .int .i64 1, .int .u64 7] 68) = v3 at *
  refine (cOpenS _ _ _ _ _ _ r3).mono ?_
  rintro e v4 ⟨x, r, rfl, hO, hb4⟩
  obtain ⟨rfl, rfl⟩ := any_open (C := [5, 2]) (k := 1) dis_known (by omega) (by omega) (by simp) hs_known hO
  have ex : nm (ev [5, 2] 0) = 5 := by decide
  rw [ex]
  have hr4 := (hr2.below hb3).below hb4
  have hw4 := (hw2.trans (hb3.mono hw2.size)).trans (hb4.mono (hw2.trans (hb3.mono hw2.size)).size)
  clear hO hr2 hb3 r3 hb4 hw2 ex
  have hb5 := below_one v4 (.cells #[.int .u64 7, .int .u64 9, .int .u64 11] 34)
  have r5 := rd_of3 v4 (x := 7) (y := 9) (z := 11) (by omega) (by omega) (by omega)
  go_wp2_with fail
  generalize v4.alloc (.cells #[.int .u64 7, .int .u64 9, .int .u64 11] 34) = v5 at *
  have hw5 := hw4.trans (hb5.mono hw4.size)
  refine (cSame _ _ _ _ _ _ _ _ (hr4.below hb5) r5).mono ?_
  rintro e v6 ⟨rfl, hb6⟩
  have hw6 := hw5.trans (hb6.mono hw5.size)
  clear hb6 hw5 hb5 r5 hr4 hw4
  go_wp2
  go_ret
  exact ⟨rfl, hw6⟩

theorem own_set2 {w : World} {B n c g : Nat} {E : TypeId} {xs : List Value} (h : w.ownsRow B E 2 (.slice (some ⟨g, 0, none⟩) n c) n xs) (i : Nat) (u : Value) : (w.setCell ⟨g, i, none⟩ u).ownsRow B E 2 (.slice (some ⟨g, 0, none⟩) n c) n (xs.set i u) := by
  refine ⟨by rw [List.length_set]; exact h.1, .inr ?_⟩
  rcases h.2 with ⟨e, _⟩ | ⟨g', cap, cur, e, hb, hg, h1, h2, hs, ht⟩
  · simp at e
  · simp only [Value.slice.injEq, Option.some.injEq, Addr.mk.injEq, and_true, true_and] at e
    obtain ⟨rfl, rfl⟩ := e
    refine ⟨g, c, _, rfl, hb, heap_setCell_same w g i _ _ _ hg, h1, h2, by simpa using hs, ?_⟩
    rw [← ht]
    simp [List.take_set]
theorem own_frozen2 {w : World} {B n c g : Nat} {E : TypeId} {xs : List Value} (h : w.ownsRow B E 2 (.slice (some ⟨g, 0, none⟩) n c) n xs) (i : Nat) : w.frozen? ⟨g, i, none⟩ = false := by
  rcases h.2 with ⟨e, _⟩ | ⟨g', cap, cur, e, hb, hg, _⟩
  · simp at e
  · simp only [Value.slice.injEq, Option.some.injEq, Addr.mk.injEq, and_true, true_and] at e
    obtain ⟨rfl, rfl⟩ := e
    exact frozen_of_row w g i _ _ hg
/-- Its address, where there is a share. -/
theorem own_at2 {w : World} {base n : Nat} {E : TypeId} {v : Value} {xs : List Value} (h : w.ownsRow base E 2 v n xs) (hn : 0 < n) : ∃ g c, v = .slice (some ⟨g, 0, none⟩) n c ∧ base ≤ g ∧ g < w.heap.size ∧ n ≤ c ∧ c ≤ maxLen := by
  rcases h.2 with ⟨_, rfl⟩ | ⟨g, cap, cur, rfl, hb, hg, h1, h2, _⟩
  · omega
  · exact ⟨g, cap, rfl, hb, (Array.getElem?_eq_some_iff.1 hg).1, h1, h2⟩
theorem sh_cell {w : World} {base n c g : Nat} {E : TypeId} {l : List (Int × Int)} (h : w.ownsRow base E 2 (.slice (some ⟨g, 0, none⟩) n c) n (shc l)) (hl : l.length = n) {k : Nat} (hk : k < n) :
    w.cell? ⟨g, k * 2, none⟩ = some (.int .i64 (l.getD k (0, 0)).1) ∧ w.cell? ⟨g, k * 2 + 1, none⟩ = some (.int .u64 (l.getD k (0, 0)).2) := by
  have h1 := shc_get l k (by omega)
  have a1 := h.cells (g := g) rfl _ _ h1.1
  have a2 := h.cells (g := g) rfl _ _ h1.2
  rw [Addr.add_lit] at a1 a2
  exact ⟨by simpa using a1, by simpa using a2⟩
end
section
open Crm
/-- The value of handle h, of those told. -/
def vat (V : List Int) (h : Int) : Option Int := if 1 ≤ h ∧ h ≤ (V.length : Int) then some (V.getD (h - 1).toNat 0) else none
theorem vat_in {V : List Int} {h : Int} (h1 : 1 ≤ h) (h2 : h ≤ (V.length : Int)) : vat V h = some (V.getD (h - 1).toNat 0) := if_pos ⟨h1, h2⟩
theorem vat_snoc (V : List Int) (v : Int) : vat (V ++ [v]) = gset (vat V) ((V.length : Int) + 1) (some v) := by
  funext h
  unfold vat gset
  by_cases e : h = (V.length : Int) + 1
  · subst e
    rw [if_pos rfl, if_pos (by simp; omega)]
    simp
  · rw [if_neg e]
    simp only
    by_cases hh : 1 ≤ h ∧ h ≤ (V.length : Int)
    · rw [if_pos hh, if_pos (by simp; omega)]
      have h0 : (h - 1).toNat < V.length := by omega
      rw [List.getD_eq_getElem?_getD, List.getD_eq_getElem?_getD, List.getElem?_append_left h0]
    · rw [if_neg hh, if_neg (by simp; omega)]
/-- n parties, t of whom may look; the keys 1, 2, .. have the values V. -/
structure Kab (s : Kt) (n t : Nat) (V : List Int) : Prop where
  en : s.n = n
  et : s.t = t
  el : s.last = V.length
  ec : s.cnt = V.length
  wf : Kwf s
  vl : Kvl s (vat V)
theorem k0_ab {n t : Nat} (ht : t ≤ 4) (hn : n ≤ 9) (h : 2 * t + 1 ≤ n) : Kab (k0 n t) n t [] := by
  refine ⟨rfl, rfl, rfl, rfl, k0_wf ht hn h, fun i => .inl ⟨rfl, ?_⟩⟩
  unfold vat
  rw [if_neg (by simp; omega)]
theorem Kab.put {s : Kt} {n t : Nat} {V l : List Int} {v : Int} (h : Kab s n t V) (hV : V.length < 8) (hl : Ksh n t l v) : kadd s l = ((V.length : Int) + 1, 0, kput s l) ∧ Kab (kput s l) n t (V ++ [v]) := by
  have hc := h.ec
  have e : kadd s l = ((s.last : Int) + 1, 0, kput s l) := by
    rcases kadd_cases s l with ⟨h8, _⟩ | ⟨_, e⟩
    · omega
    · exact e
  refine ⟨by rw [e, h.el], h.en, h.et, ?_, ?_, kput_wf h.wf (by omega) (by rw [h.en]; exact hl.len) hl.bd, ?_⟩
  · show s.last + 1 = _
    rw [h.el]; simp
  · show s.cnt + 1 = _
    rw [h.ec]; simp
  · rw [vat_snoc, ← h.el]
    exact kput_vl h.vl (by rw [h.en, h.et]; exact hl)
theorem Kab.key {s : Kt} {n t : Nat} {V : List Int} (h : Kab s n t V) {k : Int} (h1 : 1 ≤ k) (h2 : k ≤ (V.length : Int)) : ∃ l, s.f k = some l ∧ Ksh n t l (V.getD (k - 1).toNat 0) := by
  rcases h.vl k with ⟨_, e⟩ | ⟨l, v, e1, e2, e3⟩
  · rw [vat_in h1 h2] at e; cases e
  · rw [vat_in h1 h2] at e2
    obtain rfl := Option.some.inj e2
    rw [h.en, h.et] at e3
    exact ⟨l, e1, e3⟩
theorem Kab.gen {s : Kt} {n t : Nat} {V : List Int} (h : Kab s n t V) (hV : V.length < 8) {ds : List Int} (hd : ds.length = n * (t + 1)) : ∃ s', kgen s ds = ((V.length : Int) + 1, 0, s') ∧ Kab s' n t (V ++ [ksv t true ds n]) := by
  have hp := h.put hV (ksm_ksh n t true ds n)
  refine ⟨_, ?_, hp.2⟩
  unfold kgen
  rw [h.en, h.et, if_pos hd]
  exact hp.1
theorem Kab.mix {s : Kt} {n t : Nat} {V : List Int} (h : Kab s n t V) (hV : V.length < 8) {g k : Int} (g1 : 1 ≤ g) (g2 : g ≤ (V.length : Int)) (k1 : 1 ≤ k) (k2 : k ≤ (V.length : Int)) (a b c : Int) :
    ∃ s', kmix s g k a b c = ((V.length : Int) + 1, 0, s') ∧ Kab s' n t (V ++ [nm (a * V.getD (g - 1).toNat 0 + b * V.getD (k - 1).toNat 0 + c)]) := by
  obtain ⟨l, e1, hl⟩ := h.key g1 g2
  obtain ⟨m, e2, hm⟩ := h.key k1 k2
  have hp := h.put hV (hl.mix a b c hm)
  refine ⟨_, ?_, hp.2⟩
  unfold kmix
  rw [e1, e2]
  simp only
  rw [h.en]
  exact hp.1
end
section
open Crm Go.RowKit
/-- append of a list that is read to a slice that the call itself gathers, a step of a region that draws; where it lies. -/
theorem step_appM {P : Program} {T E : TypeId} (hT : P.underlying T = some (.slice E)) (info : (P.info? E).map (fun i => (i.zero, i.size, i.bytes)) = some (some (.int .u64 0), 1, 8))
    (w : World) {ops : Array Oper} {o : Oper} {a : Act} {K : Act → World → Prop} {Q : Exit → Act → World → Prop} {F : Prop} (hgd : o.guard = none) (s x : Operand)
    (ho : o.op = .call { callee := .builtin .append, args := #[s, x], argTypes := #[T, T] })
    (base : Nat) (v : Value) (n : Nat) (xs : List Int) (hs : a.eval s = v) (hown : w.ownsRow base E 1 v n (xs.map (Value.int .u64))) (b o2 m c : Nat) (ys : List Int) (hr : Rd w (some ⟨b, o2, none⟩) m c ys) (hx : a.eval x = .slice (some ⟨b, o2, none⟩) m c)
    (hm : 0 < m) (hn : n + m ≤ 1000000) (hbase : base ≤ w.heap.size)
    (h : ∀ g cap w', w'.ownsRow base E 1 (.slice (some ⟨g, 0, none⟩) (n + m) cap) (n + m) ((xs ++ ys).map (Value.int .u64)) → w.grownBy w' v.ownBlock → ((Value.slice (some ⟨g, 0, none⟩) (n + m) cap).ownBlock = v.ownBlock ∨ ∃ k, (Value.slice (some ⟨g, 0, none⟩) (n + m) cap).ownBlock = some k ∧ w.heap.size ≤ k) → K (a.put o.dst (.slice (some ⟨g, 0, none⟩) (n + m) cap)) w') :
    if Region.wanted o (yielded ops a.tmps) = true then Oper.wp P o a w K Q else F := by
  obtain ⟨i0, hi, hz0, hz1, hz2⟩ := info_parts info
  have hyl := hr.len
  refine step_append_lies _ hgd s x T ho base E i0 (.int .u64 0) 1 8 hT hi hz0 hz1 hz2 rfl (by decide) v n _ hs hown ⟨b, o2, none⟩ m c (ys.map (Value.int .u64)) hx (by simp [hyl]) ?_ ?_ hm (by unfold maxLen; omega) (by omega) hbase _ rfl ?_
  · intro j u hj
    have hjm : j < m := by
      have := (List.getElem?_eq_some_iff.1 hj).1
      simp at this
      omega
    rw [hr.cell _ rfl j hjm]
    rw [List.getElem?_map, List.getElem?_eq_getElem (by omega)] at hj
    simp only [Option.map_some, Option.some.injEq] at hj
    rw [← hj, List.getD_eq_getElem?_getD, List.getElem?_eq_getElem (by omega)]
    rfl
  · intro u hu
    obtain ⟨z, _, rfl⟩ := List.mem_map.1 hu
    rfl
  · intro g cap w' hown' hgrow h4 _
    refine h g cap w' (by rw [List.map_append]; exact hown') hgrow ?_
    rcases h4 with e | e
    · exact .inl (by rw [e]; rfl)
    · exact .inr ⟨g, rfl, by omega⟩
/-- What is gathered: what each party has seen, and the wires; what was made between lo and hi lies apart from what is seen. -/
structure Sen (w wr : World) (gs n : Nat) (Ls : List Value) (S : List (List Int)) (vW : Value) (LW : List Value) (W : List (List Int)) (lo hi : Nat) : Prop where
  seen : LsV wr w.heap.size (.slice (some ⟨gs, 0, none⟩) n n) Ls S
  len : S.length = n
  wires : LsV wr w.heap.size vW LW W
  apt : Apt Ls LW
  out : vW.ownBlock ≠ some gs
  far : Far Ls n lo hi
  gl : gs < lo
  hi : hi ≤ wr.heap.size
  bel : Below w.heap.size w wr
theorem Sen.drew {w wr : World} {gs n : Nat} {Ls : List Value} {S : List (List Int)} {vW : Value} {LW : List Value} {W : List (List Int)} {lo hi : Nat} (h : Sen w wr gs n Ls S vW LW W lo hi) : Sen w wr.drew gs n Ls S vW LW W lo hi :=
  ⟨h.seen.drew, h.len, h.wires.drew, h.apt, h.out, h.far, h.gl, h.hi, h.bel.drew⟩
theorem Sen.below {w wr w' : World} {gs n : Nat} {Ls : List Value} {S : List (List Int)} {vW : Value} {LW : List Value} {W : List (List Int)} {lo hi : Nat} (h : Sen w wr gs n Ls S vW LW W lo hi) (hb : Below wr.heap.size wr w') : Sen w w' gs n Ls S vW LW W lo hi :=
  ⟨h.seen.below hb, h.len, h.wires.below hb, h.apt, h.out, h.far, h.gl, Nat.le_trans h.hi hb.size, h.bel.trans (hb.mono h.bel.size)⟩
/-- A row of the call's that was made between lo and hi stays while what is seen grows. -/
def Btw (lo hi : Nat) (v : Value) : Prop := ∀ b, v.ownBlock = some b → lo ≤ b ∧ b < hi
/-- What party j has seen grows. -/
theorem Sen.put {w wr w7 : World} {gs n j : Nat} {Ls : List Value} {S : List (List Int)} {vW v7 : Value} {LW : List Value} {W : List (List Int)} {lo hi : Nat} {row : List Int} (h : Sen w wr gs n Ls S vW LW W lo hi) (hj : j < n)
    (ho : w7.ownsRow w.heap.size 34 1 v7 row.length (row.map (Value.int .u64))) (hg : wr.grownBy w7 (Ls.getD j (.slice none 0 0)).ownBlock) (hat : v7.ownBlock = (Ls.getD j (.slice none 0 0)).ownBlock ∨ ∃ k, v7.ownBlock = some k ∧ wr.heap.size ≤ k) :
    Sen w (w7.setCell ⟨gs, j, none⟩ v7) gs n (Ls.set j v7) (S.set j row) vW LW W lo hi := by
  have hrow := h.seen.row j (by rw [h.len]; exact hj)
  have hE : (34 : TypeId) ≠ 22 := by decide
  have hg2 : w7.grownBy (w7.setCell ⟨gs, j, none⟩ v7) (some gs) := grown_set _ _ _ _
  have hgs := (h.seen.cell h.len hj).2.2
  have hLl : j < Ls.length := by rw [h.seen.len, h.len]; exact hj
  have hWb := h.wires.blk
  have hW7 : LsV w7 w.heap.size vW LW W := h.wires.grown hg (own_apart hrow h.wires.own hE) (fun i _ => h.apt.symm i j)
  have hW8 : LsV (w7.setCell ⟨gs, j, none⟩ v7) w.heap.size vW LW W := by
    refine hW7.grown hg2 (.inr h.out) (fun i hi => ?_)
    have ho7 := h.seen.own.kept hg (own_apart hrow h.seen.own hE)
    exact own_apart ho7 (hW7.row i hi) (by decide)
  refine ⟨h.seen.upd h.len hj ho hg hat, by rw [List.length_set]; exact h.len, hW8, h.apt.set hLl (H := wr.heap.size) (fun i k hk => (hWb i k hk).2) hat, h.out, fun p hp gg hgg => ?_, h.gl, ?_, ?_⟩
  · rw [getD_setV _ _ _ _ _ hLl] at hgg
    split at hgg
    · rcases hat with e | ⟨k, e, hk⟩
      · rw [e] at hgg
        exact h.far j hj gg hgg
      · rw [e] at hgg
        obtain rfl := Option.some.inj hgg
        right
        exact Nat.le_trans h.hi hk
    · exact h.far p hp gg hgg
  · exact Nat.le_trans h.hi (Nat.le_trans hg.size hg2.size)
  · have hb7 : Below w.heap.size w w7 := h.bel.grown hg h.bel.size (fun q hq => (hrow.lt q hq).1)
    exact hb7.setCell (p := ⟨gs, j, none⟩) (h.seen.own.lt gs rfl).1 _
theorem Sen.keep {w wr w7 : World} {gs n j : Nat} {Ls : List Value} {S : List (List Int)} {vW v7 : Value} {LW : List Value} {W : List (List Int)} {lo hi B2 k z : Nat} {E : TypeId} {v : Value} {xs : List Value} (h : Sen w wr gs n Ls S vW LW W lo hi) (hj : j < n)
    (hx : wr.ownsRow B2 E z v k xs) (hv : Btw lo hi v) (hg : wr.grownBy w7 (Ls.getD j (.slice none 0 0)).ownBlock) : (w7.setCell ⟨gs, j, none⟩ v7).ownsRow B2 E z v k xs := by
  have h1 : v.ownBlock = none ∨ v.ownBlock ≠ (Ls.getD j (.slice none 0 0)).ownBlock := by
    cases hb : v.ownBlock with
    | none => exact .inl rfl
    | some b =>
      right
      intro e
      have h2 := hv b hb
      have h3 := h.far j hj b e.symm
      omega
  refine (hx.kept hg h1).kept (grown_set _ _ _ _) ?_
  cases hb : v.ownBlock with
  | none => exact .inl rfl
  | some b =>
    right
    intro e
    have h2 := hv b hb
    have h3 := h.gl
    have := Option.some.inj e
    omega
/-- Rows of which the first q are longer. -/
def sgx (S : Nat → List Int) (X : Nat → List Int) (n q : Nat) : List (List Int) := (List.range n).map fun p => if p < q then S p ++ X p else S p
theorem sgx_len (S X : Nat → List Int) (n q : Nat) : (sgx S X n q).length = n := by simp [sgx]
theorem sgx_zero (S X : Nat → List Int) (n : Nat) : sgx S X n 0 = (List.range n).map S := by simp [sgx]
theorem sgx_full (S X : Nat → List Int) (n : Nat) : sgx S X n n = (List.range n).map fun p => S p ++ X p := by
  unfold sgx
  refine List.map_congr_left fun p hp => ?_
  rw [if_pos (List.mem_range.1 hp)]
theorem sgx_getD (S X : Nat → List Int) {n q : Nat} (h : q < n) : (sgx S X n q).getD q [] = S q := by simp [sgx, h]
theorem sgx_set (S X : Nat → List Int) (n q : Nat) : (sgx S X n q).set q (S q ++ X q) = sgx S X n (q + 1) := by
  apply List.ext_getElem?
  intro p
  rw [List.getElem?_set]
  by_cases hp : p < n
  · by_cases e : q = p
    · subst e; simp [sgx, hp]
    · have : (p < q + 1) = (p < q) := by apply propext; omega
      simp [sgx, hp, e, this]
  · by_cases e : q = p
    · subst e; simp [sgx, hp]
    · simp [sgx, hp, e]
end
section
open Crm
/-- For each of the first k parties, 1 less x by that party. -/
def bl (who : List Int) : Nat → List Int
  | 0 => [1]
  | k + 1 => cvl (bl who k) [1, nm (-(iv (who.getD k 0)))]
theorem bl_len (who : List Int) : ∀ k, (bl who k).length = k + 1
  | 0 => rfl
  | k + 1 => by rw [bl, cvl_len, bl_len who k]; rfl
theorem bl_bd (who : List Int) : ∀ k, ∀ x ∈ bl who k, 0 ≤ x ∧ x ≤ 2147483646
  | 0 => fun x hx => by rw [List.mem_singleton.1 hx]; decide
  | k + 1 => cvl_bd _ _
theorem bl_succ (who : List Int) (k : Nat) (x : Int) : nm (ev (bl who (k + 1)) x) = nm (ev (bl who k) x * (1 - x * iv (who.getD k 0))) := by
  rw [bl, cvl_ev]
  have e : ev [1, nm (-(iv (who.getD k 0)))] x = 1 + x * nm (-(iv (who.getD k 0))) := by simp [ev]
  rw [e]
  refine nm_mul_congr rfl ?_
  rw [← nm_addr, nm_mulr, nm_addr]
  congr 1
  rw [Int.mul_neg, ← Int.sub_eq_add_neg]
theorem bl_one (who : List Int) : ∀ k, nm (ev (bl who k) 0) = 1
  | 0 => by show nm (ev [1] 0) = 1; decide
  | k + 1 => by rw [bl_succ, ← nm_mull, bl_one who k, Int.zero_mul]; decide
theorem bl_first (who : List Int) (k : Nat) : (bl who k).getD 0 0 = 1 := by
  have h := bl_one who k
  have hb := getD_bd' (bl_bd who k) 0
  have hl := bl_len who k
  cases hq : bl who k with
  | nil => rw [hq] at hl; simp at hl
  | cons a l =>
    rw [hq] at h hb
    rw [ev, Int.zero_mul, Int.add_zero] at h
    rw [cons_getD0] at hb ⊢
    rw [nm_small hb.1 hb.2] at h
    exact h
/-- Draws that are shifted. -/
def shf (who : List Int) (k : Nat) (a b : Int) (ds : List Int) (q : Nat) : List Int := (List.range q).map fun i => nm (ds.getD i 0 + nm (b - a) * (bl who k).getD (i + 1) 0)
theorem shf_len (who : List Int) (k : Nat) (a b : Int) (ds : List Int) (q : Nat) : (shf who k a b ds q).length = q := by simp [shf]
theorem shf_bd (who : List Int) (k : Nat) (a b : Int) (ds : List Int) (q : Nat) : ∀ z ∈ shf who k a b ds q, 0 ≤ z ∧ z ≤ 2147483646 := fun z hz => by
  obtain ⟨i, _, rfl⟩ := List.mem_map.1 hz
  exact nm_bd _
/-- The pairs of places of a dealing in two variables, in order. -/
def hpl (t : Nat) : List (Nat × Nat) := (List.range (t + 1)).flatMap fun i => ((List.range (t + 1)).filter fun j => decide (i ≤ j ∧ 0 < i + j)).map fun j => (i, j)
/-- Draws in two variables that are shifted. -/
def twf (who : List Int) (k : Nat) (a b : Int) (ds : List Int) (p : Nat) (x : Nat × Nat) : Int := nm (ds.getD p 0 + nm (b - a) * nm ((bl who k).getD x.1 0 * (bl who k).getD x.2 0))
def twl (who : List Int) (k : Nat) (a b : Int) (ds : List Int) (t q : Nat) : List Int := (List.range q).map fun p => twf who k a b ds p ((hpl t).getD p (0, 0))
theorem twl_len (who : List Int) (k : Nat) (a b : Int) (ds : List Int) (t q : Nat) : (twl who k a b ds t q).length = q := by simp [twl]
theorem twl_bd (who : List Int) (k : Nat) (a b : Int) (ds : List Int) (t q : Nat) : ∀ z ∈ twl who k a b ds t q, 0 ≤ z ∧ z ≤ 2147483646 := fun z hz => by
  obtain ⟨i, _, rfl⟩ := List.mem_map.1 hz
  exact nm_bd _
end
section
open Crm Go.RowKit
/-- What is wrong with what Shift is handed. -/
def Hse (who : List Int) (k q : Nat) (r : Int) : Prop := (¬ dis (fi who) k ∧ r = 5) ∨ (dis (fi who) k ∧ ((¬ (q ≤ 4 ∧ k ≤ q) ∧ r = 1) ∨ ((q ≤ 4 ∧ k ≤ q) ∧ r = 0)))
theorem Hse.one {who : List Int} {k q : Nat} {r s : Int} (h : Hse who k q r) (g : Hse who k q s) : r = s := by
  rcases h with ⟨h1, rfl⟩ | ⟨h1, ⟨h2, rfl⟩ | ⟨h2, rfl⟩⟩ <;> rcases g with ⟨k1, rfl⟩ | ⟨k1, ⟨k2, rfl⟩ | ⟨k2, rfl⟩⟩
  all_goals first
    | rfl
    | exact absurd k1 h1
    | exact absurd h1 k1
    | exact absurd k2 h2
    | exact absurd h2 k2
theorem Hse.ok {who : List Int} {k q : Nat} (h : Hse who k q 0) : dis (fi who) k ∧ q ≤ 4 ∧ k ≤ q := by
  rcases h with ⟨_, h⟩ | ⟨h1, ⟨_, h⟩ | ⟨h2, _⟩⟩
  · omega
  · omega
  · exact ⟨h1, h2.1, h2.2⟩
/-- What Shift answers. -/
def Hsh (who : List Int) (k : Nat) (a b : Int) (ds : List Int) (q : Nat) (w : World) (e : Ending) (w' : World) : Prop :=
  ((∃ r, r ≠ 0 ∧ Hse who k q r ∧ e = .returned (.tuple #[.slice none 0 0, .int .i64 r])) ∨
   (Hse who k q 0 ∧ ∃ v, e = .returned (.tuple #[v, .int .i64 0]) ∧ w'.ownsRow w.heap.size 34 1 v q ((shf who k a b ds q).map (Value.int .u64)))) ∧ Below w.heap.size w w'
/-- What is wrong with what Twine is handed. -/
def Hte (who : List Int) (k : Nat) (t : Int) (q : Nat) (r : Int) : Prop := (¬ dis (fi who) k ∧ r = 5) ∨ (dis (fi who) k ∧ ((¬ ((0 ≤ t ∧ t ≤ 4) ∧ (k : Int) ≤ t ∧ q = need2 t.toNat) ∧ r = 1) ∨ (((0 ≤ t ∧ t ≤ 4) ∧ (k : Int) ≤ t ∧ q = need2 t.toNat) ∧ r = 0)))
theorem Hte.one {who : List Int} {k q : Nat} {t r s : Int} (h : Hte who k t q r) (g : Hte who k t q s) : r = s := by
  rcases h with ⟨h1, rfl⟩ | ⟨h1, ⟨h2, rfl⟩ | ⟨h2, rfl⟩⟩ <;> rcases g with ⟨k1, rfl⟩ | ⟨k1, ⟨k2, rfl⟩ | ⟨k2, rfl⟩⟩
  all_goals first
    | rfl
    | exact absurd k1 h1
    | exact absurd h1 k1
    | exact absurd k2 h2
    | exact absurd h2 k2
theorem Hte.ok {who : List Int} {k q : Nat} {t : Int} (h : Hte who k t q 0) : dis (fi who) k ∧ (0 ≤ t ∧ t ≤ 4) ∧ (k : Int) ≤ t ∧ q = need2 t.toNat := by
  rcases h with ⟨_, h⟩ | ⟨h1, ⟨_, h⟩ | ⟨h2, _⟩⟩
  · omega
  · omega
  · exact ⟨h1, h2⟩
/-- What Twine answers. -/
def Htw (who : List Int) (k : Nat) (t : Int) (a b : Int) (ds : List Int) (q : Nat) (w : World) (e : Ending) (w' : World) : Prop :=
  ((∃ r, r ≠ 0 ∧ Hte who k t q r ∧ e = .returned (.tuple #[.slice none 0 0, .int .i64 r])) ∨
   (Hte who k t q 0 ∧ ∃ v, e = .returned (.tuple #[v, .int .i64 0]) ∧ w'.ownsRow w.heap.size 34 1 v q ((twl who k a b ds t.toNat q).map (Value.int .u64)))) ∧ Below w.heap.size w w'
/-- What is told. -/
def wls (who : List Int) (k : Nat) (a b : Int) (ds : List Int) (q : Nat) (r : Int) : List Int := if r = 0 then shf who k a b ds q else []
def wlt (who : List Int) (k : Nat) (t : Int) (a b : Int) (ds : List Int) (q : Nat) (r : Int) : List Int := if r = 0 then twl who k a b ds t.toNat q else []
theorem Hsh.rd {who : List Int} {k q : Nat} {a b r : Int} {ds : List Int} {w w' : World} {e : Ending} (h : Hsh who k a b ds q w e w') (hr : Hse who k q r) : ∃ a' c', e = .returned (.tuple #[.slice a' (wls who k a b ds q r).length c', .int .i64 r]) ∧ Rd w' a' (wls who k a b ds q r).length c' (wls who k a b ds q r) := by
  rcases h.1 with ⟨s, h1, h2, rfl⟩ | ⟨h1, v, rfl, ho⟩
  · obtain rfl := h2.one hr
    unfold wls
    rw [if_neg h1]
    exact ⟨none, 0, rfl, nil_rd _⟩
  · obtain rfl : 0 = r := h1.one hr
    unfold wls
    rw [if_pos rfl, shf_len]
    obtain ⟨a', c', rfl, hr', _⟩ := Rd.own ho (bd_u64 (shf_bd _ _ _ _ _ _))
    exact ⟨a', c', rfl, hr'⟩
theorem Htw.rd {who : List Int} {k q : Nat} {t a b r : Int} {ds : List Int} {w w' : World} {e : Ending} (h : Htw who k t a b ds q w e w') (hr : Hte who k t q r) : ∃ a' c', e = .returned (.tuple #[.slice a' (wlt who k t a b ds q r).length c', .int .i64 r]) ∧ Rd w' a' (wlt who k t a b ds q r).length c' (wlt who k t a b ds q r) := by
  rcases h.1 with ⟨s, h1, h2, rfl⟩ | ⟨h1, v, rfl, ho⟩
  · obtain rfl := h2.one hr
    unfold wlt
    rw [if_neg h1]
    exact ⟨none, 0, rfl, nil_rd _⟩
  · obtain rfl : 0 = r := h1.one hr
    unfold wlt
    rw [if_pos rfl, twl_len]
    obtain ⟨a', c', rfl, hr', _⟩ := Rd.own ho (bd_u64 (twl_bd _ _ _ _ _ _ _))
    exact ⟨a', c', rfl, hr'⟩
/-- Row g holds the marks M. -/
def BlkT (w : World) (g : Nat) (M : List Bool) : Prop := w.heap[g]? = some (.cells (M.map Value.bool).toArray 143 (0, 0))
theorem BlkT.lt {w : World} {g : Nat} {M : List Bool} (h : BlkT w g M) : g < w.heap.size := (Array.getElem?_eq_some_iff.1 h).1
theorem BlkT.cell {w : World} {g : Nat} {M : List Bool} (h : BlkT w g M) {i : Nat} (hi : i < M.length) : w.cell? ⟨g, i, none⟩ = some (.bool (M.getD i false)) := by
  rw [cell_of_row w g i _ _ (0, 0) h]
  simp [List.getElem?_eq_getElem hi]
theorem BlkT.frozen {w : World} {g : Nat} {M : List Bool} (h : BlkT w g M) (i : Nat) : w.frozen? ⟨g, i, none⟩ = false := frozen_of_row w g i _ _ h
theorem BlkT.set {w : World} {g : Nat} {M : List Bool} (h : BlkT w g M) (i : Nat) (v : Bool) : BlkT (w.setCell ⟨g, i, none⟩ (.bool v)) g (M.set i v) := by
  have := heap_setCell_same w g i _ _ (.bool v) h
  unfold BlkT
  rw [this]
  simp [List.map_set]

theorem hDifferent (a : Option Addr) (n c : Nat) (ts : List Int) (w : World) (h : RdI w a n c ts) :
    Calls Tryd.prog 57 #[.slice a n c] w fun e w' => Tells (dis (fi ts) n) w e w' := by
  have hcap := h.cap
  have hmax := h.max
  unfold maxLen at hmax
  go_enter Tryd.func57, Tryd.ntmps57
  go_wp2
  go_loopw [8] (fun i wr => ∃ (k : Nat) (M : List Bool), k ≤ n ∧ i = .int .i64 k ∧ Hid (Mk (fi ts) k M) ∧ BlkT wr w.heap.size M ∧ Below w.heap.size w wr) (fun i _ => n - (intOf i).toNat)
  case atStart => exact ⟨0, _, Nat.zero_le _, rfl, mk_start _, heap_alloc_new w _, (Below.refl _ _).alloc (Nat.le_refl _) _⟩
  case round =>
    obtain ⟨k, M, hk, rfl, HM, hB, hbel⟩ := hrel
    have hlM := HM.out.len
    have hltB := hB.lt
    by_cases hlt : k < n
    · obtain ⟨b, o, x, rfl, hbb, HX, hx0, hx1, hcx⟩ := (h.below hbel).one hlt
      by_cases hx2 : x < 1
      · have HN : Hid (¬ dis (fi ts) n) := mk_out hlt HX.out (.inl hx2)
        go_wp2
        go_ret
        exact .no HN.out hbel
      · by_cases hx9 : 9 < x
        · have HN : Hid (¬ dis (fi ts) n) := mk_out hlt HX.out (.inr hx9)
          go_wp2
          go_ret
          exact .no HN.out hbel
        · obtain ⟨p, rfl⟩ : ∃ p : Nat, x = p := ⟨x.toNat, by omega⟩
          have hcp := hB.cell (i := p) (by omega)
          cases hm : M.getD p false with
          | true =>
            have HN : Hid (¬ dis (fi ts) n) := mk_twice HM.out hlt HX.out (by omega) (by omega) hm
            rw [hm] at hcp
            clear hm
            go_wp2
            go_ret
            exact .no HN.out hbel
          | false =>
            have HM2 : Hid (Mk (fi ts) (k + 1) (M.set p true)) := mk_step HM.out HX.out (by omega) (by omega) hm
            rw [hm] at hcp
            have hfz := hB.frozen p
            have hB3 := hB.set p true
            have hbel3 := below_grown hbel (grown_set wr w.heap.size p (.bool true)) (Nat.le_refl _)
            clear hm hB hbel
            go_wp2
            go_roundw
            case rel => exact ⟨k + 1, _, by omega, by go_num, HM2, hB3, hbel3⟩
            case measure => simp [intOf]; omega
    · have hkn : k = n := by omega
      subst hkn
      have HD : Hid (dis (fi ts) k) := HM.out.dis
      go_wp2
      go_ret
      exact .yes HD.out hbel
end
section
open Crm
theorem pc_two (p : List Int) (u v : Int) (i : Nat) : pc p [u, v] (i + 1) p.length = p.getD i 0 * v + p.getD (i + 1) 0 * u := by
  rw [← pc_ge p [u, v] (i + 1) (i + 2), show p.length + (i + 2) = i + 1 + 1 + p.length by omega, pc_more, pc, pc, pc_far _ _ _ _ (by simp), tm, tm, if_pos (by omega), if_pos (by omega), show i + 1 - i = 1 by omega, Nat.sub_self, Int.zero_add]
  rfl
/-- One party more: each number, less the one below it by that party. -/
theorem bl_step (who : List Int) (k i : Nat) : (bl who (k + 1)).getD (i + 1) 0 = nm ((bl who k).getD (i + 1) 0 - nm ((bl who k).getD i 0 * iv (who.getD k 0))) := by
  rw [bl, cvl_getD, pc_two, Int.mul_one, nm_subr, ← nm_addl, nm_mulr, nm_addl, Int.mul_neg]
  congr 1
  omega
/-- The numbers above i are reckoned with one party more. -/
def zm (who : List Int) (k i : Nat) : List Int := (List.range 5).map fun j => if i < j then (bl who (k + 1)).getD j 0 else (bl who k).getD j 0
def zr (who : List Int) (k : Nat) : List Int := (List.range 5).map fun j => (bl who k).getD j 0
theorem zm_len (who : List Int) (k i : Nat) : (zm who k i).length = 5 := by simp [zm]
theorem zr_len (who : List Int) (k : Nat) : (zr who k).length = 5 := by simp [zr]
theorem zr_getD (who : List Int) (k : Nat) {j : Nat} (h : j < 5) : (zr who k).getD j 0 = (bl who k).getD j 0 := by simp [zr, h]
theorem zm_getD (who : List Int) (k i : Nat) {j : Nat} (h : j < 5) : (zm who k i).getD j 0 = if i < j then (bl who (k + 1)).getD j 0 else (bl who k).getD j 0 := by simp [zm, h]
theorem zm_start (who : List Int) (k : Nat) : zm who k 4 = zr who k := by
  unfold zm zr
  refine List.map_congr_left fun j hj => ?_
  have := List.mem_range.1 hj
  rw [if_neg (by omega)]
theorem zm_end (who : List Int) (k : Nat) : zm who k 0 = zr who (k + 1) := by
  unfold zm zr
  refine List.map_congr_left fun j hj => ?_
  by_cases h : 0 < j
  · rw [if_pos h]
  · obtain rfl : j = 0 := by omega
    rw [if_neg h, bl_first, bl_first]
theorem zm_bd (who : List Int) (k i : Nat) : ∀ x ∈ zm who k i, 0 ≤ x ∧ x ≤ 2147483646 := fun x hx => by
  obtain ⟨j, _, rfl⟩ := List.mem_map.1 hx
  split
  · exact getD_bd' (bl_bd who (k + 1)) j
  · exact getD_bd' (bl_bd who k) j
theorem zm_step (who : List Int) (k : Nat) {i : Nat} (h : i < 4) : (zm who k (i + 1)).set (i + 1) (nm ((zm who k (i + 1)).getD (i + 1) 0 - nm ((zm who k (i + 1)).getD i 0 * iv (who.getD k 0)))) = zm who k i := by
  rw [zm_getD _ _ _ (by omega), zm_getD _ _ _ (by omega), if_neg (by omega), if_neg (by omega), ← bl_step]
  apply List.ext_getElem?
  intro j
  rw [List.getElem?_set]
  by_cases hj : j < 5
  · by_cases e : i + 1 = j
    · subst e
      rw [if_pos rfl, if_pos (by rw [zm_len]; omega)]
      simp [zm, hj]
    · have : (i + 1 < j) = (i < j) := by apply propext; omega
      simp [zm, hj, e, this]
  · by_cases e : i + 1 = j
    · omega
    · simp [zm, hj, e]

/-- The pairs but the first. -/
def hpi (t : Nat) : List (Int × Int) := (hpl t).map fun x => ((x.1 : Int), (x.2 : Int))
end
section
open Crm Go.RowKit
/-- What is left of pairs when the first is taken. -/
theorem RdP.tail {w : World} {b o n c : Nat} {p : Int × Int} {l : List (Int × Int)} {a : Option Addr} (h : RdP w (some ⟨b, o, none⟩) (n + 1) (c + 1) (p :: l)) (ha : (0 < n → a = some ⟨b, o + 2, none⟩) ∧ a ≠ none) : RdP w a n c l := by
  have h1 := h.cap
  have h2 := h.max
  refine ⟨by have := h.len; simpa using this, by omega, by omega, fun e => absurd e ha.2, fun x hx i hi => ?_⟩
  rw [ha.1 (by omega)] at hx
  obtain rfl := Option.some.inj hx
  have := h.cell _ rfl (i + 1) (by omega)
  rw [Addr.add_lit, Addr.add_lit] at this ⊢
  rw [show o + 2 + i * 2 = o + (i + 1) * 2 by omega, show o + 2 + (i * 2 + 1) = o + ((i + 1) * 2 + 1) by omega]
  exact this

theorem RdP.grown {w w' : World} {a : Option Addr} {n c : Nat} {l : List (Int × Int)} {r : Option Nat} (h : RdP w a n c l) (hg : w.grownBy w' r) (hne : ∀ x, a = some x → some x.block ≠ r) : RdP w' a n c l := by
  refine ⟨h.len, h.cap, h.max, h.nil, fun x hx i hi => ?_⟩
  have hb : ∀ k, (x.add k).block = x.block := fun k => by unfold Addr.add; split <;> rfl
  have := h.cell x hx i hi
  exact ⟨hg.cell this.1 (by rw [hb]; exact hne x hx), hg.cell this.2 (by rw [hb]; exact hne x hx)⟩
end
end Go.Proofs.YtljlioglpaogdagDoor
