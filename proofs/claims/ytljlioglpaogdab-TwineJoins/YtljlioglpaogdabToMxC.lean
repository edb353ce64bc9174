/- poly.addTimes. · poly.product. · Rows of rows of the call's own: every number known, each row in a block of its own. -/
import Derived.Test.YtljlioglpaogdabToCheckC
import Derived.Test.YtljlioglpaogdabToGaussM
import Derived.Test.YtljlioglpaogdabToBadM
import Derived.Deep.RegionWith
namespace Go.Proofs.Ytljlioglpaogdab
set_option linter.unusedVariables false
set_option maxRecDepth 100000
set_option maxHeartbeats 8000000
section
open Crm Go.RowKit
theorem cAddTimes (g o n c : Nat) (L : List Int) (ab : Option Addr) (lb cb : Nat) (B : List Int) (t : Int) (w : World)
    (hL : Blk w g L) (hLb : ∀ x ∈ L, 0 ≤ x ∧ x ≤ 18446744073709551615) (hB : Rd w ab lb cb B) (hne : ∀ x, ab = some x → x.block ≠ g) (hon : o + n ≤ L.length) (hlb : lb ≤ n) (hn : n ≤ 1000000) (ht0 : 0 ≤ t) (ht1 : t ≤ 18446744073709551615) :
    Calls Try.prog 99 #[.slice (some ⟨g, o, none⟩) n c, .slice ab lb cb, .int .u64 t] w fun e w' => e = .returned (.tuple #[]) ∧ Blk w' g (addAt L o B t lb) ∧ w.grownBy w' (some g) := by
  have hlen := hB.len
  go_enter Try.func99, Try.ntmps99
  go_wp2
  go_loopw [10] (fun i wr => ∃ k : Nat, k ≤ lb ∧ i = .int .i64 k ∧ Blk wr g (addAt L o B t k) ∧ w.grownBy wr (some g)) (fun i _ => lb - (intOf i).toNat)
  case atStart => exact ⟨0, Nat.zero_le _, rfl, hL, World.grownBy.refl _ _⟩
  case round =>
    obtain ⟨k, hk, rfl, hblk, hgr⟩ := hrel
    by_cases hlt : k < lb
    · have hBr : Rd wr ab lb cb B := hB.grown hgr (fun x hx => by simpa using hne x hx)
      obtain ⟨b, ob, x, rfl, hb, HX, hx0, hx1, hc⟩ := hBr.one hlt
      have hbg : b ≠ g := hne _ rfl
      have hcell := hblk.cell (i := o + k) (by rw [addAt_len]; omega)
      have hfz := hblk.frozen (o + k)
      obtain ⟨y, hy⟩ : ∃ y, y = (addAt L o B t k).getD (o + k) 0 := ⟨_, rfl⟩
      have HY : Hid (y = L.getD (o + k) 0) := by rw [hy, addAt_getD, if_neg (by omega)]; exact rfl
      have hyb : 0 ≤ y ∧ y ≤ 18446744073709551615 := by rw [hy]; exact getD_bd (addAt_bd hLb o B t k) _
      rw [← hy] at hcell
      clear hy
      have hm := nm_bd (t * x)
      have hk0 : (0 : Int) ≤ (k : Int) := by omega
      have hkn : (k : Int) < (n : Int) := by omega
      have Hblk' : Hid (Blk (wr.setCell ⟨g, o + k, none⟩ (.int .u64 (nm (y + nm (t * x))))) g (addAt L o B t (k + 1))) := by
        have e : nm (y + nm (t * x)) = nm (L.getD (o + k) 0 + t * B.getD k 0) := by rw [nm_addr, HY.out, HX.out]
        rw [e]
        exact hblk.set (o + k) _
      have Hgr' : Hid (w.grownBy (wr.setCell ⟨g, o + k, none⟩ (.int .u64 (nm (y + nm (t * x))))) (some g)) := grown_trans hgr (grown_set _ _ _ _)
      clear hblk hgr hBr hB hL
      go_wp2
      go_region_with (first | (go_at_call 61; refine (fMul _ _ _ (by omega) (by omega) (by omega) (by omega)).mono ?_; rintro e w' ⟨rfl, rfl⟩) | (go_at_call 58; refine (fAdd _ _ _ (by omega) (by omega) (by omega) (by omega)).mono ?_; rintro e w' ⟨rfl, rfl⟩))
      all_goals
        go_wp2
        go_roundw
        case rel => exact ⟨k + 1, by omega, by go_num, Hblk'.out, grown_drew Hgr'.out⟩
        case measure => simp [intOf]; omega
    · have hkl : k = lb := by omega
      subst hkl
      go_wp2
      exact bodyPost_end (v := .tuple #[]) (by simp [results, Try.results99, go_sem]) rfl ⟨rfl, hblk, hgr⟩
theorem get_getD {l : List Int} {k : Nat} (h : k < l.length) : l[k]? = some (l.getD k 0) := by
  rw [List.getD_eq_getElem?_getD, List.getElem?_eq_getElem h]; rfl

theorem addAt_pc (ps qs L : List Int) (m i : Nat) (hm : i + qs.length ≤ m)
    (hL : L = (List.range m).map fun k => nm (pc ps qs k i)) : addAt L i qs (ps.getD i 0) qs.length = (List.range m).map fun k => nm (pc ps qs k (i + 1)) := by
  apply List.ext_getElem?
  intro k
  have hl : L.length = m := by rw [hL]; simp
  by_cases hk : k < m
  · have h1 : k < (addAt L i qs (ps.getD i 0) qs.length).length := by rw [addAt_len, hl]; exact hk
    have e1 : (addAt L i qs (ps.getD i 0) qs.length)[k]? = some ((addAt L i qs (ps.getD i 0) qs.length).getD k 0) := get_getD h1
    rw [e1, addAt_getD, hl]
    have e2 : L.getD k 0 = nm (pc ps qs k i) := by rw [hL]; simp [hk]
    have e3 : ((List.range m).map fun k => nm (pc ps qs k (i + 1)))[k]? = some (nm (pc ps qs k (i + 1))) := by simp [hk]
    rw [e3, e2, pc]
    congr 1
    by_cases h : i ≤ k ∧ k < i + qs.length ∧ k < m
    · rw [if_pos h, nm_addl, tm, if_pos h.1]
    · rw [if_neg h, tm]
      have := hm
      split
      · have : qs.getD (k - i) 0 = 0 := by rw [List.getD_eq_getElem?_getD, List.getElem?_eq_none (by omega)]; rfl
        rw [this, Int.mul_zero, Int.add_zero]
      · rw [Int.add_zero]
  · rw [List.getElem?_eq_none (by rw [addAt_len, hl]; omega), List.getElem?_eq_none (by simp; omega)]

theorem pc_bd (ps qs : List Int) (m i : Nat) : ∀ x ∈ (List.range m).map (fun k => nm (pc ps qs k i)), 0 ≤ x ∧ x ≤ 18446744073709551615 := by
  intro x hx
  obtain ⟨k, _, rfl⟩ := List.mem_map.1 hx
  have := nm_bd (pc ps qs k i)
  omega

theorem cProduct (a : Option Addr) (n c : Nat) (xs : List Int) (b : Option Addr) (m d : Nat) (ys : List Int) (w : World) (h : Rd w a n c xs) (g : Rd w b m d ys) (hn0 : 0 < n) (hm0 : 0 < m) (hn : n ≤ 1000) (hm : m ≤ 1000) :
    Calls Try.prog 100 #[.slice a n c, .slice b m d] w fun e w' => e = .returned (.slice (some ⟨w.heap.size, 0, none⟩) (n + m - 1) (n + m - 1)) ∧ Blk w' w.heap.size (cvl xs ys) ∧ Below w.heap.size w w' := by
  obtain ⟨i0, hi, hz0, hz1, hz2⟩ := info_parts info28
  have hlen := h.len
  have glen := g.len
  obtain ⟨r, hr⟩ : ∃ r, r = n + m - 1 := ⟨_, rfl⟩
  have hr1 : (r : Int) = n + m - 1 := by omega
  have HR : Hid (r = n + m - 1) := hr
  have hrn : n ≤ r := by omega
  have hrm : m ≤ r := by omega
  have hrb : r ≤ 2000 := by omega
  rw [← hr]
  clear hr
  go_enter Try.func100, Try.ntmps100
  go_wp2_with (at_make; refine wpList_make_full _ rfl _ _ 23 rfl w.heap.size 28 i0 (.int .u64 0) 1 Try.underlying23 hi hz0 hz1 .i64 .i64 _ _ r rfl rfl (by omega) (by omega) (by rw [hz2]; omega) (by unfold maxLen; omega) (Nat.le_refl _) ?_; intro w1 hown hgrow)
  have hb1 : Blk w1 w.heap.size (List.replicate r 0) := Blk.made hown
  have hbel1 : Below w.heap.size w w1 := (Below.refl _ _).grown hgrow (Nat.le_refl _) (by simp)
  clear hown hgrow
  go_loopw [17] (fun i wr => ∃ k : Nat, k ≤ n ∧ i = .int .i64 k ∧ Blk wr w.heap.size ((List.range r).map fun q => nm (pc xs ys q k)) ∧ Below w.heap.size w wr) (fun i _ => n - (intOf i).toNat)
  case atStart => exact ⟨0, Nat.zero_le _, rfl, by have e : (List.range r).map (fun q => nm (pc xs ys q 0)) = List.replicate r 0 := by { apply List.ext_getElem? ; intro q; by_cases hq : q < r <;> simp [hq, pc, nm] }; rw [e]; exact hb1, hbel1⟩
  case round =>
    obtain ⟨k, hk, rfl, hblk, hbel⟩ := hrel
    by_cases hlt : k < n
    · have gR := g.below hbel
      have hne : ∀ x, b = some x → x.block ≠ w.heap.size := by
        intro x hx
        obtain ⟨b', o', e, hb', _⟩ := g.at hm0
        rw [e] at hx
        obtain rfl := Option.some.inj hx
        simp only
        omega
      obtain ⟨b1, o1, x, rfl, hb, HX, hx0, hx1, hc⟩ := (h.below hbel).one hlt
      have hkr : ¬ r = k := by omega
      have HS : Hid (addAt ((List.range r).map fun q => nm (pc xs ys q k)) k ys x m = (List.range r).map fun q => nm (pc xs ys q (k + 1))) := by
        have := addAt_pc xs ys _ r k (by omega) rfl
        rw [← HX.out]
        rwa [glen] at this
      go_wp2_with (go_at_call 99; refine (cAddTimes _ _ _ _ _ _ _ _ _ _ _ hblk (pc_bd xs ys r k) gR hne (by simp; omega) (by omega) (by omega) hx0 hx1).mono ?_; rintro e w2 ⟨rfl, hb2, hg2⟩; rw [HS.out] at hb2; have hbel2 := below_grown hbel hg2 (Nat.le_refl _); clear hblk hbel hg2 gR hc)
      go_roundw
      case rel => exact ⟨k + 1, by omega, by go_num, hb2, hbel2⟩
      case measure => simp [intOf]; omega
    · have hkn : k = n := by omega
      subst hkn
      go_wp2
      go_ret
      refine ⟨rfl, ?_, hbel⟩
      unfold cvl
      rw [hlen, glen, ← HR.out]
      exact hblk
/-- The list in row gl has n rows of W numbers, the i-th in the block G i: M i. All these blocks lie from lo on and ahead of hi. -/
structure Mx (w : World) (lo hi gl n W : Nat) (G : Nat → Nat) (M : Nat → List Int) : Prop where
  lst : ∃ cur : Array Value, w.heap[gl]? = some (.cells cur 23 (0, 0)) ∧ cur.size = n ∧ ∀ i, i < n → cur[i]? = some (.slice (some ⟨G i, 0, none⟩) W W)
  gb : lo ≤ gl ∧ gl < hi
  rng : ∀ i, i < n → lo ≤ G i ∧ G i < hi ∧ G i ≠ gl
  inj : ∀ i j, i < n → j < n → G i = G j → i = j
  row : ∀ i, i < n → Blk w (G i) (M i)
  wid : ∀ i, i < n → (M i).length = W
  bd : ∀ i, i < n → ∀ x ∈ M i, 0 ≤ x ∧ x ≤ 2147483646
  hw : hi ≤ w.heap.size

/-- Nothing has turned but between lo and hi. -/
structure Fr (lo hi : Nat) (w w' : World) : Prop where
  os : w'.os = w.os
  tape : w'.tape = w.tape
  output : w'.output = w.output
  size : w.heap.size ≤ w'.heap.size
  block : ∀ k, k < w.heap.size → (k < lo ∨ hi ≤ k) → w'.heap[k]? = w.heap[k]?
theorem Fr.refl (lo hi : Nat) (w : World) : Fr lo hi w w := ⟨rfl, rfl, rfl, Nat.le_refl _, fun _ _ _ => rfl⟩
theorem Fr.trans {lo hi : Nat} {a b c : World} (h : Fr lo hi a b) (k : Fr lo hi b c) : Fr lo hi a c :=
  ⟨k.os.trans h.os, k.tape.trans h.tape, k.output.trans h.output, Nat.le_trans h.size k.size, fun i hi hr => (k.block i (Nat.lt_of_lt_of_le hi h.size) hr).trans (h.block i hi hr)⟩
theorem Fr.grown {lo hi g : Nat} {w w' : World} (h : w.grownBy w' (some g)) (h1 : lo ≤ g) (h2 : g < hi) : Fr lo hi w w' :=
  ⟨h.os, h.tape, h.output, h.size, fun k hk hr => h.block k hk (by simp; omega)⟩
theorem Fr.below {lo hi : Nat} {w w' : World} (h : Fr lo hi w w') (hl : lo ≤ w.heap.size) : Below lo w w' := ⟨h.os, h.tape, h.output, h.size, fun k hk => h.block k (by omega) (.inl hk)⟩
theorem Fr.drew {lo hi : Nat} {w w' : World} (h : Fr lo hi w w') : Fr lo hi w w'.drew := ⟨h.os, h.tape, h.output, h.size, h.block⟩
theorem Fr.own {lo hi : Nat} {w w' : World} (h : Fr lo hi w w') {E : TypeId} {v : Value} {n base : Nat} {xs : List Value} (hbase : hi ≤ base) (ho : w.ownsRow base E 1 v n xs) : w'.ownsRow base E 1 v n xs := by
  refine ⟨ho.1, ?_⟩
  rcases ho.2 with hn | ⟨g, cap, cur, rfl, hb, hgg, rest⟩
  · exact .inl hn
  · exact .inr ⟨g, cap, cur, rfl, hb, by rw [h.block g (Array.getElem?_eq_some_iff.1 hgg).1 (.inr (by omega))]; exact hgg, rest⟩
theorem Mx.cell {w : World} {lo hi gl n W : Nat} {G : Nat → Nat} {M : Nat → List Int} (h : Mx w lo hi gl n W G M) {i : Nat} (hi' : i < n) : w.cell? ⟨gl, i, none⟩ = some (.slice (some ⟨G i, 0, none⟩) W W) := by
  obtain ⟨cur, h1, h2, h3⟩ := h.lst
  rw [cell_of_row w gl i _ _ (0, 0) h1]; exact h3 i hi'
theorem Mx.frozen {w : World} {lo hi gl n W : Nat} {G : Nat → Nat} {M : Nat → List Int} (h : Mx w lo hi gl n W G M) (i : Nat) : w.frozen? ⟨gl, i, none⟩ = false := by
  obtain ⟨cur, h1, h2, h3⟩ := h.lst
  exact frozen_of_row w gl i _ _ h1
theorem Mx.rd {w : World} {lo hi gl n W : Nat} {G : Nat → Nat} {M : Nat → List Int} (h : Mx w lo hi gl n W G M) {i : Nat} (hi' : i < n) (hm : W ≤ maxLen) : Rd w (some ⟨G i, 0, none⟩) W W (M i) := (h.row i hi').whole W (h.wid i hi').symm hm (bd_u64 (h.bd i hi'))
theorem Mx.nbd {w : World} {lo hi gl n W : Nat} {G : Nat → Nat} {M : Nat → List Int} (h : Mx w lo hi gl n W G M) {i : Nat} (hi' : i < n) (j : Nat) : 0 ≤ (M i).getD j 0 ∧ (M i).getD j 0 ≤ 2147483646 := getD_bd' (h.bd i hi') j
theorem Mx.below {w : World} {lo hi gl n W : Nat} {G : Nat → Nat} {M : Nat → List Int} (h : Mx w lo hi gl n W G M) {w' : World} (hb : Below hi w w') : Mx w' lo hi gl n W G M := by
  refine ⟨?_, h.gb, h.rng, h.inj, fun i hi' => ?_, h.wid, h.bd, Nat.le_trans h.hw hb.size⟩
  · obtain ⟨cur, h1, h2⟩ := h.lst
    exact ⟨cur, by rw [hb.block gl h.gb.2]; exact h1, h2⟩
  · exact (h.row i hi').below hb (h.rng i hi').2.1
theorem Mx.drew {w : World} {lo hi gl n W : Nat} {G : Nat → Nat} {M : Nat → List Int} (h : Mx w lo hi gl n W G M) : Mx w.drew lo hi gl n W G M := ⟨h.lst, h.gb, h.rng, h.inj, h.row, h.wid, h.bd, h.hw⟩
/-- Row i has been written anew. -/
theorem Mx.put {w : World} {lo hi gl n W : Nat} {G : Nat → Nat} {M : Nat → List Int} (h : Mx w lo hi gl n W G M) {w' : World} {i : Nat} (hi' : i < n) (hg : w.grownBy w' (some (G i))) {A : List Int} (hA : Blk w' (G i) A) (hl : A.length = W) (hb : ∀ x ∈ A, 0 ≤ x ∧ x ≤ 2147483646) :
    Mx w' lo hi gl n W G (fun k => if k = i then A else M k) := by
  refine ⟨?_, h.gb, h.rng, h.inj, fun k hk => ?_, fun k hk => ?_, fun k hk => ?_, Nat.le_trans h.hw hg.size⟩
  · obtain ⟨cur, h1, h2⟩ := h.lst
    refine ⟨cur, ?_, h2⟩
    rw [hg.block gl (Array.getElem?_eq_some_iff.1 h1).1 (by simpa using (h.rng i hi').2.2.symm)]
    exact h1
  · by_cases e : k = i
    · subst e; simpa using hA
    · rw [if_neg e]
      exact (h.row k hk).grown hg (by simp only [ne_eq, Option.some.injEq]; exact fun e2 => e (h.inj k i hk hi' e2))
  · by_cases e : k = i
    · rw [if_pos e]; exact hl
    · rw [if_neg e]; exact h.wid k hk
  · by_cases e : k = i
    · rw [if_pos e]; exact hb
    · rw [if_neg e]; exact h.bd k hk
/-- Rows k and p have changed places. -/
theorem Mx.swap {w : World} {lo hi gl n W : Nat} {G : Nat → Nat} {M : Nat → List Int} (h : Mx w lo hi gl n W G M) {k p : Nat} (hk : k < n) (hp : p < n) :
    Mx ((w.setCell ⟨gl, k, none⟩ (.slice (some ⟨G p, 0, none⟩) W W)).setCell ⟨gl, p, none⟩ (.slice (some ⟨G k, 0, none⟩) W W)) lo hi gl n W (fun i => G (if i = k then p else if i = p then k else i)) (fun i => M (if i = k then p else if i = p then k else i)) := by
  have hs : ∀ i, i < n → (if i = k then p else if i = p then k else i) < n := fun i hi => by split <;> (try split) <;> omega
  have hbl : ∀ g, g ≠ gl → ((w.setCell ⟨gl, k, none⟩ (.slice (some ⟨G p, 0, none⟩) W W)).setCell ⟨gl, p, none⟩ (.slice (some ⟨G k, 0, none⟩) W W)).heap[g]? = w.heap[g]? := fun g hg => by
    rw [heap_setCell_other _ _ _ _ (by simpa using hg), heap_setCell_other _ _ _ _ (by simpa using hg)]
  refine ⟨?_, h.gb, fun i hi => h.rng _ (hs i hi), fun i j hi hj e => ?_, fun i hi => ?_, fun i hi => h.wid _ (hs i hi), fun i hi => h.bd _ (hs i hi), by simpa using h.hw⟩
  · obtain ⟨cur, h1, h2, h3⟩ := h.lst
    refine ⟨_, heap_setCell_same _ gl p _ _ _ (heap_setCell_same w gl k _ _ _ h1), by simpa using h2, fun i hi => ?_⟩
    rw [Array.getElem?_setIfInBounds, Array.getElem?_setIfInBounds]
    by_cases e1 : p = i
    · subst e1
      by_cases e2 : p = k
      · subst e2; simp [h2, hp]
      · simp [h2, hp, e2]
    · by_cases e2 : k = i
      · subst e2; simp [h2, hk, e1]
      · rw [if_neg e1, if_neg e2, h3 i hi, if_neg (fun e => e2 e.symm), if_neg (fun e => e1 e.symm)]
  · have := h.inj _ _ (hs i hi) (hs j hj) e
    split at this <;> split at this <;> (try split at this) <;> (try split at this) <;> omega
  · unfold Blk
    rw [hbl _ (h.rng _ (hs i hi)).2.2]
    exact h.row _ (hs i hi)
end
end Go.Proofs.Ytljlioglpaogdab
