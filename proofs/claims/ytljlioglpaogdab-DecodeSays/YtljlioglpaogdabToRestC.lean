/- poly.addTimes. · solve.takeTimes. · Rows of rows of the call's own: every number known, each row in a block of its own. · solve.lead. · solve.rests. -/
import Derived.Test.YtljlioglpaogdabToJoinC
import Derived.Test.YtljlioglpaogdabToGaussM
import Derived.Test.YtljlioglpaogdabToRows2
import Derived.Deep.RegionWith
import Derived.BigRegion
namespace Go.Proofs.Ytljlioglpaogdab
set_option linter.unusedVariables false
set_option maxRecDepth 100000
set_option maxHeartbeats 8000000
section
open Crm Go.RowKit
theorem cAddTimes (g o n c : Nat) (L : List Int) (ab : Option Addr) (lb cb : Nat) (B : List Int) (t : Int) (w : World)
    (hL : Blk w g L) (hLb : ∀ x ∈ L, 0 ≤ x ∧ x ≤ 18446744073709551615) (hB : Rd w ab lb cb B) (hne : ∀ x, ab = some x → x.block ≠ g) (hon : o + n ≤ L.length) (hlb : lb ≤ n) (hn : n ≤ 1000000) (ht0 : 0 ≤ t) (ht1 : t ≤ 18446744073709551615) :
    Calls Try.prog 99 #[.slice (some ⟨g, o, none⟩) n c, .slice ab lb cb, .int .u64 t] w fun e w' => e = .returned (.tuple #[]) ∧ Blk w' g (addAt L o B t lb) ∧ w.grownBy w' (some g) := by
  have hlen := hB.len
  go_enter Try.func99, Try.ntmps99
  go_wp2
  go_loopw [10] (fun i wr => ∃ k : Nat, k ≤ lb ∧ i = .int .i64 k ∧ Blk wr g (addAt L o B t k) ∧ w.grownBy wr (some g)) (fun i _ => lb - (intOf i).toNat)
  case atStart => exact ⟨0, Nat.zero_le _, rfl, hL, World.grownBy.refl _ _⟩
  case round =>
    obtain ⟨k, hk, rfl, hblk, hgr⟩ := hrel
    by_cases hlt : k < lb
    · have hBr : Rd wr ab lb cb B := hB.grown hgr (fun x hx => by simpa using hne x hx)
      obtain ⟨b, ob, x, rfl, hb, HX, hx0, hx1, hc⟩ := hBr.one hlt
      have hbg : b ≠ g := hne _ rfl
      have hcell := hblk.cell (i := o + k) (by rw [addAt_len]; omega)
      have hfz := hblk.frozen (o + k)
      obtain ⟨y, hy⟩ : ∃ y, y = (addAt L o B t k).getD (o + k) 0 := ⟨_, rfl⟩
      have HY : Hid (y = L.getD (o + k) 0) := by rw [hy, addAt_getD, if_neg (by omega)]; exact rfl
      have hyb : 0 ≤ y ∧ y ≤ 18446744073709551615 := by rw [hy]; exact getD_bd (addAt_bd hLb o B t k) _
      rw [← hy] at hcell
      clear hy
      have hm := nm_bd (t * x)
      have hk0 : (0 : Int) ≤ (k : Int) := by omega
      have hkn : (k : Int) < (n : Int) := by omega
      have Hblk' : Hid (Blk (wr.setCell ⟨g, o + k, none⟩ (.int .u64 (nm (y + nm (t * x))))) g (addAt L o B t (k + 1))) := by
        have e : nm (y + nm (t * x)) = nm (L.getD (o + k) 0 + t * B.getD k 0) := by rw [nm_addr, HY.out, HX.out]
        rw [e]
        exact hblk.set (o + k) _
      have Hgr' : Hid (w.grownBy (wr.setCell ⟨g, o + k, none⟩ (.int .u64 (nm (y + nm (t * x))))) (some g)) := grown_trans hgr (grown_set _ _ _ _)
      clear hblk hgr hBr hB hL
      go_wp2
      go_region_with (first | (go_at_call 61; refine (fMul _ _ _ (by omega) (by omega) (by omega) (by omega)).mono ?_; rintro e w' ⟨rfl, rfl⟩) | (go_at_call 58; refine (fAdd _ _ _ (by omega) (by omega) (by omega) (by omega)).mono ?_; rintro e w' ⟨rfl, rfl⟩))
      all_goals
        go_wp2
        go_roundw
        case rel => exact ⟨k + 1, by omega, by go_num, Hblk'.out, grown_drew Hgr'.out⟩
        case measure => simp [intOf]; omega
    · have hkl : k = lb := by omega
      subst hkl
      go_wp2
      exact bodyPost_end (v := .tuple #[]) (by simp [results, Try.results99, go_sem]) rfl ⟨rfl, hblk, hgr⟩
/-- L, from which t times D has been taken at the first k places. -/
structure Tk (L D : List Int) (t : Int) (k : Nat) (A : List Int) : Prop where
  len : A.length = L.length
  bd : ∀ x ∈ A, 0 ≤ x ∧ x ≤ 2147483646
  at_ : ∀ j, j < L.length → A.getD j 0 = if j < k then nm (L.getD j 0 - t * D.getD j 0) else L.getD j 0

theorem set_bd {A : List Int} {k : Nat} {v : Int} (h : ∀ x ∈ A, 0 ≤ x ∧ x ≤ 2147483646) (hv : 0 ≤ v ∧ v ≤ 2147483646) : ∀ x ∈ A.set k v, 0 ≤ x ∧ x ≤ 2147483646 := fun x hx => by
  rcases List.mem_or_eq_of_mem_set hx with h1 | h1
  · exact h x h1
  · rw [h1]; exact hv
theorem tk_start (L D : List Int) (t : Int) (h : ∀ x ∈ L, 0 ≤ x ∧ x ≤ 2147483646) : Tk L D t 0 L := ⟨rfl, h, fun j _ => by rw [if_neg (by omega)]⟩
theorem tk_step {L D A : List Int} {t : Int} {k : Nat} (h : Tk L D t k A) (hk : k < L.length) {v : Int} (hv : v = nm (L.getD k 0 - t * D.getD k 0)) : Tk L D t (k + 1) (A.set k v) := by
  refine ⟨by rw [List.length_set]; exact h.len, set_bd h.bd (by rw [hv]; exact nm_bd _), fun j hj => ?_⟩
  rw [getD_set]
  by_cases e : j = k
  · subst e
    rw [if_pos ⟨rfl, by rw [h.len]; exact hk⟩, if_pos (by omega), hv]
  · rw [if_neg (by omega), h.at_ j hj]
    by_cases e2 : j < k
    · rw [if_pos e2, if_pos (by omega)]
    · rw [if_neg e2, if_neg (by omega)]

theorem cTake (g n : Nat) (L : List Int) (ab : Option Addr) (cb : Nat) (D : List Int) (t : Int) (w : World)
    (hL : Blk w g L) (hLb : ∀ x ∈ L, 0 ≤ x ∧ x ≤ 2147483646) (hD : Rd w ab n cb D) (hne : ∀ x, ab = some x → x.block ≠ g) (hln : L.length = n) (hn : n ≤ 1000000) (ht0 : 0 ≤ t) (ht1 : t ≤ 18446744073709551615) :
    Calls Try.prog 104 #[.slice (some ⟨g, 0, none⟩) n n, .slice ab n cb, .int .u64 t] w fun e w' => ∃ A, e = .returned (.tuple #[]) ∧ Tk L D t n A ∧ Blk w' g A ∧ w.grownBy w' (some g) := by
  have hlen := hD.len
  go_enter Try.func104, Try.ntmps104
  go_wp2
  go_loopw [10] (fun i wr => ∃ (k : Nat) (A : List Int), k ≤ n ∧ i = .int .i64 k ∧ Hid (Tk L D t k A) ∧ Blk wr g A ∧ w.grownBy wr (some g)) (fun i _ => n - (intOf i).toNat)
  case atStart => exact ⟨0, L, Nat.zero_le _, rfl, tk_start L D t hLb, hL, World.grownBy.refl _ _⟩
  case round =>
    obtain ⟨k, A, hk, rfl, HT, hblk, hgr⟩ := hrel
    have hlA : A.length = n := by rw [HT.out.len]; exact hln
    by_cases hlt : k < n
    · have hDr : Rd wr ab n cb D := hD.grown hgr (fun x hx => by simpa using hne x hx)
      obtain ⟨b, ob, x, rfl, hb, HX, hx0, hx1, hc⟩ := hDr.one hlt
      have hbg : b ≠ g := hne _ rfl
      have hcell := hblk.cell (i := k) (by omega)
      have hfz := hblk.frozen k
      obtain ⟨y, hy⟩ : ∃ y, y = A.getD k 0 := ⟨_, rfl⟩
      have HY : Hid (y = L.getD k 0) := by rw [hy, HT.out.at_ _ (by omega), if_neg (by omega)]; exact rfl
      have hyb : 0 ≤ y ∧ y ≤ 2147483646 := by rw [hy]; exact getD_bd' HT.out.bd _
      rw [← hy] at hcell
      clear hy
      have hm := nm_bd (t * x)
      have hk0 : (0 : Int) ≤ (k : Int) := by omega
      have hkn : (k : Int) < (n : Int) := by omega
      have HT2 : Hid (Tk L D t (k + 1) (A.set k (nm (y - nm (t * x))))) := tk_step HT.out (by omega) (by rw [nm_subr, HY.out, HX.out])
      have Hblk' : Hid (Blk (wr.setCell ⟨g, k, none⟩ (.int .u64 (nm (y - nm (t * x))))) g (A.set k (nm (y - nm (t * x))))) := hblk.set k _
      have Hgr' : Hid (w.grownBy (wr.setCell ⟨g, k, none⟩ (.int .u64 (nm (y - nm (t * x))))) (some g)) := grown_trans hgr (grown_set _ _ _ _)
      clear hblk hgr hDr hD hL HT
      go_wp2
      go_region_with (first | (go_at_call 61; refine (fMul _ _ _ (by omega) (by omega) (by omega) (by omega)).mono ?_; rintro e w' ⟨rfl, rfl⟩) | (go_at_call 59; refine (fSub _ _ _ (by omega) (by omega) (by omega) (by omega)).mono ?_; rintro e w' ⟨rfl, rfl⟩))
      all_goals
        go_wp2
        go_roundw
        case rel => exact ⟨k + 1, _, by omega, by go_num, HT2, Hblk'.out, grown_drew Hgr'.out⟩
        case measure => simp [intOf]; omega
    · have hkl : k = n := by omega
      subst hkl
      go_wp2
      exact bodyPost_end (v := .tuple #[]) (by simp [results, Try.results104, go_sem]) rfl ⟨A, rfl, HT.out, hblk, hgr⟩
/-- The list in row gl has n rows of W numbers, the i-th in the block G i: M i. All these blocks lie from lo on and ahead of hi. -/
structure Mx (w : World) (lo hi gl n W : Nat) (G : Nat → Nat) (M : Nat → List Int) : Prop where
  lst : ∃ cur : Array Value, w.heap[gl]? = some (.cells cur 23 (0, 0)) ∧ cur.size = n ∧ ∀ i, i < n → cur[i]? = some (.slice (some ⟨G i, 0, none⟩) W W)
  gb : lo ≤ gl ∧ gl < hi
  rng : ∀ i, i < n → lo ≤ G i ∧ G i < hi ∧ G i ≠ gl
  inj : ∀ i j, i < n → j < n → G i = G j → i = j
  row : ∀ i, i < n → Blk w (G i) (M i)
  wid : ∀ i, i < n → (M i).length = W
  bd : ∀ i, i < n → ∀ x ∈ M i, 0 ≤ x ∧ x ≤ 2147483646
  hw : hi ≤ w.heap.size

/-- Nothing has turned but between lo and hi. -/
structure Fr (lo hi : Nat) (w w' : World) : Prop where
  os : w'.os = w.os
  tape : w'.tape = w.tape
  output : w'.output = w.output
  size : w.heap.size ≤ w'.heap.size
  block : ∀ k, k < w.heap.size → (k < lo ∨ hi ≤ k) → w'.heap[k]? = w.heap[k]?
theorem Fr.refl (lo hi : Nat) (w : World) : Fr lo hi w w := ⟨rfl, rfl, rfl, Nat.le_refl _, fun _ _ _ => rfl⟩
theorem Fr.trans {lo hi : Nat} {a b c : World} (h : Fr lo hi a b) (k : Fr lo hi b c) : Fr lo hi a c :=
  ⟨k.os.trans h.os, k.tape.trans h.tape, k.output.trans h.output, Nat.le_trans h.size k.size, fun i hi hr => (k.block i (Nat.lt_of_lt_of_le hi h.size) hr).trans (h.block i hi hr)⟩
theorem Fr.grown {lo hi g : Nat} {w w' : World} (h : w.grownBy w' (some g)) (h1 : lo ≤ g) (h2 : g < hi) : Fr lo hi w w' :=
  ⟨h.os, h.tape, h.output, h.size, fun k hk hr => h.block k hk (by simp; omega)⟩
theorem Fr.below {lo hi : Nat} {w w' : World} (h : Fr lo hi w w') (hl : lo ≤ w.heap.size) : Below lo w w' := ⟨h.os, h.tape, h.output, h.size, fun k hk => h.block k (by omega) (.inl hk)⟩
theorem Fr.drew {lo hi : Nat} {w w' : World} (h : Fr lo hi w w') : Fr lo hi w w'.drew := ⟨h.os, h.tape, h.output, h.size, h.block⟩
theorem Fr.own {lo hi : Nat} {w w' : World} (h : Fr lo hi w w') {E : TypeId} {v : Value} {n base : Nat} {xs : List Value} (hbase : hi ≤ base) (ho : w.ownsRow base E 1 v n xs) : w'.ownsRow base E 1 v n xs := by
  refine ⟨ho.1, ?_⟩
  rcases ho.2 with hn | ⟨g, cap, cur, rfl, hb, hgg, rest⟩
  · exact .inl hn
  · exact .inr ⟨g, cap, cur, rfl, hb, by rw [h.block g (Array.getElem?_eq_some_iff.1 hgg).1 (.inr (by omega))]; exact hgg, rest⟩
theorem Fr.own_grown {lo hi : Nat} {w w' w'' : World} {row : Option Nat} (h : Fr lo hi w w') (hg : w'.grownBy w'' row) (hr : ∀ k, row = some k → w.heap.size ≤ k) : Fr lo hi w w'' :=
  ⟨hg.os.trans h.os, hg.tape.trans h.tape, hg.output.trans h.output, Nat.le_trans h.size hg.size, fun k hk hkr => (hg.block k (Nat.lt_of_lt_of_le hk h.size) (fun e => by have := hr k e.symm; omega)).trans (h.block k hk hkr)⟩

theorem Mx.cell {w : World} {lo hi gl n W : Nat} {G : Nat → Nat} {M : Nat → List Int} (h : Mx w lo hi gl n W G M) {i : Nat} (hi' : i < n) : w.cell? ⟨gl, i, none⟩ = some (.slice (some ⟨G i, 0, none⟩) W W) := by
  obtain ⟨cur, h1, h2, h3⟩ := h.lst
  rw [cell_of_row w gl i _ _ (0, 0) h1]; exact h3 i hi'
theorem Mx.frozen {w : World} {lo hi gl n W : Nat} {G : Nat → Nat} {M : Nat → List Int} (h : Mx w lo hi gl n W G M) (i : Nat) : w.frozen? ⟨gl, i, none⟩ = false := by
  obtain ⟨cur, h1, h2, h3⟩ := h.lst
  exact frozen_of_row w gl i _ _ h1
theorem Mx.num {w : World} {lo hi gl n W : Nat} {G : Nat → Nat} {M : Nat → List Int} (h : Mx w lo hi gl n W G M) {i j : Nat} (hi' : i < n) (hj : j < W) : w.cell? ⟨G i, j, none⟩ = some (.int .u64 ((M i).getD j 0)) := (h.row i hi').cell (by rw [h.wid i hi']; exact hj)
theorem Mx.rd {w : World} {lo hi gl n W : Nat} {G : Nat → Nat} {M : Nat → List Int} (h : Mx w lo hi gl n W G M) {i : Nat} (hi' : i < n) (hm : W ≤ maxLen) : Rd w (some ⟨G i, 0, none⟩) W W (M i) := (h.row i hi').whole W (h.wid i hi').symm hm (bd_u64 (h.bd i hi'))
theorem Mx.nbd {w : World} {lo hi gl n W : Nat} {G : Nat → Nat} {M : Nat → List Int} (h : Mx w lo hi gl n W G M) {i : Nat} (hi' : i < n) (j : Nat) : 0 ≤ (M i).getD j 0 ∧ (M i).getD j 0 ≤ 2147483646 := getD_bd' (h.bd i hi') j
theorem Mx.below {w : World} {lo hi gl n W : Nat} {G : Nat → Nat} {M : Nat → List Int} (h : Mx w lo hi gl n W G M) {w' : World} (hb : Below hi w w') : Mx w' lo hi gl n W G M := by
  refine ⟨?_, h.gb, h.rng, h.inj, fun i hi' => ?_, h.wid, h.bd, Nat.le_trans h.hw hb.size⟩
  · obtain ⟨cur, h1, h2⟩ := h.lst
    exact ⟨cur, by rw [hb.block gl h.gb.2]; exact h1, h2⟩
  · exact (h.row i hi').below hb (h.rng i hi').2.1
theorem Mx.drew {w : World} {lo hi gl n W : Nat} {G : Nat → Nat} {M : Nat → List Int} (h : Mx w lo hi gl n W G M) : Mx w.drew lo hi gl n W G M := ⟨h.lst, h.gb, h.rng, h.inj, h.row, h.wid, h.bd, h.hw⟩
/-- Row i has been written anew. -/
theorem Mx.put {w : World} {lo hi gl n W : Nat} {G : Nat → Nat} {M : Nat → List Int} (h : Mx w lo hi gl n W G M) {w' : World} {i : Nat} (hi' : i < n) (hg : w.grownBy w' (some (G i))) {A : List Int} (hA : Blk w' (G i) A) (hl : A.length = W) (hb : ∀ x ∈ A, 0 ≤ x ∧ x ≤ 2147483646) :
    Mx w' lo hi gl n W G (fun k => if k = i then A else M k) := by
  refine ⟨?_, h.gb, h.rng, h.inj, fun k hk => ?_, fun k hk => ?_, fun k hk => ?_, Nat.le_trans h.hw hg.size⟩
  · obtain ⟨cur, h1, h2⟩ := h.lst
    refine ⟨cur, ?_, h2⟩
    rw [hg.block gl (Array.getElem?_eq_some_iff.1 h1).1 (by simpa using (h.rng i hi').2.2.symm)]
    exact h1
  · by_cases e : k = i
    · subst e; simpa using hA
    · rw [if_neg e]
      exact (h.row k hk).grown hg (by simp only [ne_eq, Option.some.injEq]; exact fun e2 => e (h.inj k i hk hi' e2))
  · by_cases e : k = i
    · rw [if_pos e]; exact hl
    · rw [if_neg e]; exact h.wid k hk
  · by_cases e : k = i
    · rw [if_pos e]; exact hb
    · rw [if_neg e]; exact h.bd k hk
/-- Rows k and p have changed places. -/
theorem Mx.swap {w : World} {lo hi gl n W : Nat} {G : Nat → Nat} {M : Nat → List Int} (h : Mx w lo hi gl n W G M) {k p : Nat} (hk : k < n) (hp : p < n) :
    Mx ((w.setCell ⟨gl, k, none⟩ (.slice (some ⟨G p, 0, none⟩) W W)).setCell ⟨gl, p, none⟩ (.slice (some ⟨G k, 0, none⟩) W W)) lo hi gl n W (fun i => G (if i = k then p else if i = p then k else i)) (fun i => M (if i = k then p else if i = p then k else i)) := by
  have hs : ∀ i, i < n → (if i = k then p else if i = p then k else i) < n := fun i hi => by split <;> (try split) <;> omega
  have hbl : ∀ g, g ≠ gl → ((w.setCell ⟨gl, k, none⟩ (.slice (some ⟨G p, 0, none⟩) W W)).setCell ⟨gl, p, none⟩ (.slice (some ⟨G k, 0, none⟩) W W)).heap[g]? = w.heap[g]? := fun g hg => by
    rw [heap_setCell_other _ _ _ _ (by simpa using hg), heap_setCell_other _ _ _ _ (by simpa using hg)]
  refine ⟨?_, h.gb, fun i hi => h.rng _ (hs i hi), fun i j hi hj e => ?_, fun i hi => ?_, fun i hi => h.wid _ (hs i hi), fun i hi => h.bd _ (hs i hi), by simpa using h.hw⟩
  · obtain ⟨cur, h1, h2, h3⟩ := h.lst
    refine ⟨_, heap_setCell_same _ gl p _ _ _ (heap_setCell_same w gl k _ _ _ h1), by simpa using h2, fun i hi => ?_⟩
    rw [Array.getElem?_setIfInBounds, Array.getElem?_setIfInBounds]
    by_cases e1 : p = i
    · subst e1
      by_cases e2 : p = k
      · subst e2; simp [h2, hp]
      · simp [h2, hp, e2]
    · by_cases e2 : k = i
      · subst e2; simp [h2, hk, e1]
      · rw [if_neg e1, if_neg e2, h3 i hi, if_neg (fun e => e2 e.symm), if_neg (fun e => e1 e.symm)]
  · have := h.inj _ _ (hs i hi) (hs j hj) e
    split at this <;> split at this <;> (try split at this) <;> (try split at this) <;> omega
  · unfold Blk
    rw [hbl _ (h.rng _ (hs i hi)).2.2]
    exact h.row _ (hs i hi)
theorem fr_set2 (w : World) {lo hi gl : Nat} (h1 : lo ≤ gl) (h2 : gl < hi) (k p : Nat) (u v : Value) : Fr lo hi w ((w.setCell ⟨gl, k, none⟩ u).setCell ⟨gl, p, none⟩ v) :=
  (Fr.grown (grown_set w gl k u) h1 h2).trans (Fr.grown (grown_set _ gl p v) h1 h2)
theorem cell?_setCell_some {w : World} {p q : Addr} {x v : Value} (h : w.cell? q = some v) : ∃ v', (w.setCell p x).cell? q = some v' := by
  by_cases e : p = q
  · subst e; exact ⟨x, World.cell?_setCell_same w p x h⟩
  · exact ⟨v, (World.cell?_setCell_other w p q x e).trans h⟩

/-- L, of which the first k numbers have been taken times u. -/
structure Sc (L : List Int) (u : Int) (k : Nat) (A : List Int) : Prop where
  len : A.length = L.length
  bd : ∀ x ∈ A, 0 ≤ x ∧ x ≤ 2147483646
  at_ : ∀ j, j < L.length → A.getD j 0 = if j < k then nm (L.getD j 0 * u) else L.getD j 0
theorem sc_start (L : List Int) (u : Int) (h : ∀ x ∈ L, 0 ≤ x ∧ x ≤ 2147483646) : Sc L u 0 L := ⟨rfl, h, fun j _ => by rw [if_neg (by omega)]⟩
theorem sc_step {L A : List Int} {u : Int} {k : Nat} (h : Sc L u k A) (hk : k < L.length) {v : Int} (hv : v = nm (L.getD k 0 * u)) : Sc L u (k + 1) (A.set k v) := by
  refine ⟨by rw [List.length_set]; exact h.len, set_bd h.bd (by rw [hv]; exact nm_bd _), fun j hj => ?_⟩
  rw [getD_set]
  by_cases e : j = k
  · subst e
    rw [if_pos ⟨rfl, by rw [h.len]; exact hk⟩, if_pos (by omega), hv]
  · rw [if_neg (by omega), h.at_ j hj]
    by_cases e2 : j < k
    · rw [if_pos e2, if_pos (by omega)]
    · rw [if_neg e2, if_neg (by omega)]
/-- What lead does once it has found row p for the column c: row p is made 1 there, and changes places with row k. -/
def Led (n W k p c : Nat) (M N : Nat → List Int) : Prop :=
  ∀ i j, i < n → j < W → (N i).getD j 0 = if i = k then nm ((M p).getD j 0 * iv ((M p).getD c 0)) else if i = p then (M k).getD j 0 else (M i).getD j 0

theorem cLead (a : Option Addr) (k m c W lo hi gl : Nat) (G : Nat → Nat) (M : Nat → List Int) (w : World) (h : Mx w lo hi gl (k + m) W G M) (ha : 0 < m → a = some ⟨gl, k, none⟩) (hc : c < W) (hW : W ≤ 1000) (hm : m ≤ 1000) :
    Calls Try.prog 103 #[.slice a m m, .int .i64 c] w fun e w' => (e = .returned (.bool false) ∧ w' = w ∧ ∀ i, k ≤ i → i < k + m → (M i).getD c 0 = 0) ∨
      (∃ p G' N, e = .returned (.bool true) ∧ k ≤ p ∧ p < k + m ∧ nm ((M p).getD c 0) ≠ 0 ∧ Mx w' lo hi gl (k + m) W G' N ∧ Led (k + m) W k p c M N ∧ Fr lo hi w w') := by
  go_enter Try.func103, Try.ntmps103
  go_wp2
  go_loopw [12] (fun i wr => ∃ q : Nat, q ≤ m ∧ i = .int .i64 q ∧ Hid (∀ i, k ≤ i → i < k + q → (M i).getD c 0 = 0) ∧ wr = w) (fun i _ => m - (intOf i).toNat)
  case atStart => exact ⟨0, Nat.zero_le _, rfl, fun i h1 h2 => by omega, rfl⟩
  case round =>
    obtain ⟨q, hq, rfl, HZ, hw⟩ := hrel
    have hw := hw.symm
    subst hw
    obtain ⟨wo, hwo⟩ : ∃ wo, wo = w := ⟨_, rfl⟩
    subst hwo
    by_cases hlt : q < m
    · have ha' := ha (by omega)
      subst ha'
      have hkq : k + q < k + m := by omega
      have hcl := h.cell hkq
      have hcn := h.num hkq hc
      have hnb := h.nbd hkq c
      obtain ⟨x, HX⟩ : ∃ x, Hid ((M (k + q)).getD c 0 = x) := ⟨_, rfl⟩
      rw [HX.out] at hcn hnb
      have hbk := h.row _ hkq
      have hwd := h.wid _ hkq
      obtain ⟨g, HG⟩ : ∃ g, Hid (G (k + q) = g) := ⟨_, rfl⟩
      rw [HG.out] at hcl hcn hbk
      by_cases hx : nm x = 0
      · have HZ2 : Hid (∀ i, k ≤ i → i < k + (q + 1) → (M i).getD c 0 = 0) := fun i h1 h2 => by
          by_cases e : i = k + q
          · rw [e, HX.out, ← hx, nm_small (by omega) (by omega)]
          · exact HZ.out i h1 (by omega)
        go_wp2_with (first | (go_at_call 98; refine (fInv0 _ _ (by omega) (by omega) hx).mono ?_; rintro e w' ⟨rfl, hw⟩; have hw := hw.symm; subst hw) | fail)
        go_roundw
        case rel => exact ⟨q + 1, by omega, by go_num, HZ2, by trivial⟩
        case measure => simp [intOf]; omega
      · have hivb := iv_bd x
        obtain ⟨u, HU⟩ : ∃ u, Hid (iv x = u) := ⟨_, rfl⟩
        go_wp2_with (first | (go_at_call 98; refine (fInv1 _ _ (by omega) (by omega) hx).mono ?_; rintro e w' ⟨rfl, hw⟩; have hw := hw.symm; subst hw; rw [HU.out]) | fail)
        rw [HU.out] at hivb
        go_loopw [29] (fun i wr => ∃ (j : Nat) (A : List Int), j ≤ W ∧ i = .int .i64 j ∧ Hid (Sc (M (k + q)) u j A) ∧ Blk wr g A ∧ wo.grownBy wr (some g)) (fun i _ => W - (intOf i).toNat)
        case atStart => exact ⟨0, _, Nat.zero_le _, rfl, sc_start _ _ (h.bd _ hkq), hbk, World.grownBy.refl _ _⟩
        case round =>
          obtain ⟨j, A, hj, rfl, HS, hblk, hgr⟩ := hrel
          have hlA : A.length = W := by rw [HS.out.len]; exact hwd
          by_cases hjw : j < W
          · have hcell := hblk.cell (i := j) (by omega)
            have hfz := hblk.frozen j
            obtain ⟨y, hy⟩ : ∃ y, y = A.getD j 0 := ⟨_, rfl⟩
            have HY : Hid (y = (M (k + q)).getD j 0) := by rw [hy, HS.out.at_ _ (by omega), if_neg (by omega)]; exact rfl
            have hyb : 0 ≤ y ∧ y ≤ 2147483646 := by rw [hy]; exact getD_bd' HS.out.bd _
            rw [← hy] at hcell
            clear hy
            have HS2 : Hid (Sc (M (k + q)) u (j + 1) (A.set j (nm (y * u)))) := sc_step HS.out (by omega) (by rw [HY.out])
            have Hb2 := hblk.set j (nm (y * u))
            have Hg2 := grown_trans hgr (grown_set wr g j (.int .u64 (nm (y * u))))
            go_wp2_with (first | (go_at_call 61; refine (fMul _ _ _ (by omega) (by omega) (by omega) (by omega)).mono ?_; rintro e w' ⟨rfl, hw⟩; have hw := hw.symm; subst hw) | fail)
            go_roundw
            case rel => exact ⟨j + 1, _, by omega, by go_num, HS2, Hb2, Hg2⟩
            case measure => simp [intOf]; omega
          · have hjw2 : j = W := by omega
            subst hjw2
            have hM2 : Mx wr lo hi gl (k + m) j G (fun i => if i = k + q then A else M i) := h.put hkq (by rw [HG.out]; exact hgr) (by rw [HG.out]; exact hblk) hlA HS.out.bd
            have hfr := Fr.grown hgr (by rw [← HG.out]; exact (h.rng _ hkq).1) (by rw [← HG.out]; exact (h.rng _ hkq).2.1)
            have hk1 : k < k + m := by omega
            have hm0 : 0 < m := by omega
            have hc1 := hM2.cell hk1
            have hc2 := hM2.cell hkq
            rw [HG.out] at hc2
            have hf1 := hM2.frozen k
            have hf2 := hM2.frozen (k + q)
            have hsw := hM2.swap hk1 hkq
            have hfs := hfr.trans (fr_set2 wr h.gb.1 h.gb.2 k (k + q) (.slice (some ⟨G (k + q), 0, none⟩) j j) (.slice (some ⟨G k, 0, none⟩) j j))
            rw [HG.out] at hsw hfs
            obtain ⟨v', hv'⟩ := cell?_setCell_some (w := wr) (p := ⟨gl, k, none⟩) (x := .slice (some ⟨g, 0, none⟩) j j) (q := ⟨gl, k + q, none⟩) (v := .slice (some ⟨g, 0, none⟩) j j) hc2
            have HL : Hid (Led (k + m) j k (k + q) c M (fun i => (fun i => if i = k + q then A else M i) (if i = k then k + q else if i = k + q then k else i))) := fun i t hi ht => by
              show ((if (if i = k then k + q else if i = k + q then k else i) = k + q then A else M (if i = k then k + q else if i = k + q then k else i)) : List Int).getD t 0 = _
              by_cases e1 : i = k
              · rw [if_pos e1, if_pos rfl, if_pos e1, HS.out.at_ t (by omega), if_pos ht, HX.out, HU.out]
              · by_cases e2 : i = k + q
                · rw [if_neg e1, if_pos e2, if_neg (by omega), if_neg e1, if_pos e2]
                · rw [if_neg e1, if_neg e2, if_neg e2, if_neg e1, if_neg e2]
            have hx2 : nm ((M (k + q)).getD c 0) ≠ 0 := by rw [HX.out]; exact hx
            clear HZ HS hblk hgr hbk h hM2 hfr hcn hcl
            go_wp2
            go_region
            all_goals
              go_wp2
              go_ret
              exact .inr ⟨k + q, _, _, rfl, by omega, hkq, hx2, hsw.drew, HL.out, hfs.drew⟩
    · have hkl : q = m := by omega
      subst hkl
      go_wp2
      go_ret
      exact .inl ⟨rfl, rfl, HZ.out⟩
theorem infoU : (Try.prog.info? 28).map (fun i => (i.zero, i.size, i.bytes)) = some (some (.int .u64 0), 1, 8) := by kernel_rfl
theorem infoV : (Try.prog.info? 23).map (fun i => (i.zero, i.size, i.bytes)) = some (some (.slice none 0 0), 1, 24) := by kernel_rfl

/-- Of the rests of L the first k. -/
structure Nz (L : List Int) (k : Nat) (A : List Int) : Prop where
  len : A.length = L.length
  bd : ∀ x ∈ A, 0 ≤ x ∧ x ≤ 2147483646
  at_ : ∀ j, j < k → A.getD j 0 = nm (L.getD j 0)
theorem nz_start (L : List Int) (n : Nat) (h : L.length = n) : Nz L 0 (List.replicate n 0) := ⟨by simp [h], fun x hx => by rw [List.eq_of_mem_replicate hx]; omega, fun j hj => by omega⟩
theorem nz_step {L A : List Int} {k : Nat} (h : Nz L k A) (hk : k < L.length) {v : Int} (hv : v = nm (L.getD k 0)) : Nz L (k + 1) (A.set k v) := by
  refine ⟨by rw [List.length_set]; exact h.len, set_bd h.bd (by rw [hv]; exact nm_bd _), fun j hj => ?_⟩
  rw [getD_set]
  by_cases e : j = k
  · subst e
    rw [if_pos ⟨rfl, by rw [h.len]; exact hk⟩, hv]
  · rw [if_neg (by omega), h.at_ j (by omega)]

/-- Of the list in row gl the first i rows are made. -/
structure Mp (w : World) (lo gl n W i : Nat) (G : Nat → Nat) (M : Nat → List Int) : Prop where
  lst : ∃ cur : Array Value, w.heap[gl]? = some (.cells cur 23 (0, 0)) ∧ cur.size = n ∧ ∀ r, r < i → cur[r]? = some (.slice (some ⟨G r, 0, none⟩) W W)
  gb : lo ≤ gl
  rng : ∀ r, r < i → lo ≤ G r ∧ G r < w.heap.size ∧ G r ≠ gl
  inj : ∀ r s, r < i → s < i → G r = G s → r = s
  row : ∀ r, r < i → Blk w (G r) (M r)
  wid : ∀ r, r < i → (M r).length = W
  bd : ∀ r, r < i → ∀ x ∈ M r, 0 ≤ x ∧ x ≤ 2147483646
theorem Mp.lt {w : World} {lo gl n W i : Nat} {G : Nat → Nat} {M : Nat → List Int} (h : Mp w lo gl n W i G M) : gl < w.heap.size := by
  obtain ⟨cur, h1, _⟩ := h.lst
  exact (Array.getElem?_eq_some_iff.1 h1).1
theorem Mp.has {w : World} {lo gl n W i : Nat} {G : Nat → Nat} {M : Nat → List Int} (h : Mp w lo gl n W i G M) {r : Nat} (hr : r < n) : ∃ u, w.cell? ⟨gl, r, none⟩ = some u := by
  obtain ⟨cur, h1, h2, h3⟩ := h.lst
  rw [cell_of_row w gl r _ _ (0, 0) h1]
  exact ⟨_, Array.getElem?_eq_getElem (by omega)⟩
theorem Mp.frozen {w : World} {lo gl n W i : Nat} {G : Nat → Nat} {M : Nat → List Int} (h : Mp w lo gl n W i G M) (r : Nat) : w.frozen? ⟨gl, r, none⟩ = false := by
  obtain ⟨cur, h1, h2, h3⟩ := h.lst
  exact frozen_of_row w gl r _ _ h1
theorem Mp.grown {w : World} {lo gl n W i : Nat} {G : Nat → Nat} {M : Nat → List Int} (h : Mp w lo gl n W i G M) {w' : World} (hg : w.grownBy w' none) : Mp w' lo gl n W i G M := by
  refine ⟨?_, h.gb, fun r hr => ⟨(h.rng r hr).1, Nat.lt_of_lt_of_le (h.rng r hr).2.1 hg.size, (h.rng r hr).2.2⟩, h.inj, fun r hr => (h.row r hr).grown hg (by simp), h.wid, h.bd⟩
  obtain ⟨cur, h1, h2⟩ := h.lst
  exact ⟨cur, by rw [hg.block gl (Array.getElem?_eq_some_iff.1 h1).1 (by simp)]; exact h1, h2⟩
/-- Row i is put in its place: g, which has just been made and then been filled. -/
theorem Mp.next {w : World} {lo gl n W i : Nat} {G : Nat → Nat} {M : Nat → List Int} (h : Mp w lo gl n W i G M) {g : Nat} {w1 w2 : World} {A : List Int} (hi : i < n) (h0 : w.grownBy w1 none) (hgg : w.heap.size ≤ g) (hg1 : g < w1.heap.size) (hg2 : (w1.setCell ⟨gl, i, none⟩ (.slice (some ⟨g, 0, none⟩) W W)).grownBy w2 (some g)) (hlo : lo ≤ g) (hA : Blk w2 g A) (hl : A.length = W) (hb : ∀ x ∈ A, 0 ≤ x ∧ x ≤ 2147483646) :
    Mp w2 lo gl n W (i + 1) (fun r => if r = i then g else G r) (fun r => if r = i then A else M r) := by
  have hgl := h.lt
  have h' := h.grown h0
  have hs2 : w1.heap.size ≤ w2.heap.size := by have := hg2.size; simpa using this
  refine ⟨?_, h.gb, fun r hr => ?_, fun r s hr hs e => ?_, fun r hr => ?_, fun r hr => ?_, fun r hr => ?_⟩
  · obtain ⟨cur, h1, h2, h3⟩ := h'.lst
    refine ⟨cur.setIfInBounds i (.slice (some ⟨g, 0, none⟩) W W), ?_, by simpa using h2, fun r hr => ?_⟩
    · rw [hg2.block gl (by simpa using h'.lt) (by simp; omega)]
      exact heap_setCell_same w1 gl i _ _ _ h1
    · rw [Array.getElem?_setIfInBounds]
      by_cases e : i = r
      · subst e; simp [h2, hi]
      · rw [if_neg e, h3 r (by omega), if_neg (fun e2 => e e2.symm)]
  · by_cases e : r = i
    · simp only [if_pos e]; exact ⟨hlo, by omega, by omega⟩
    · simp only [if_neg e]
      have := h'.rng r (by omega)
      exact ⟨this.1, by omega, this.2.2⟩
  · by_cases e1 : r = i
    · by_cases e2 : s = i
      · omega
      · simp only [if_pos e1, if_neg e2] at e
        have := h.rng s (by omega); omega
    · by_cases e2 : s = i
      · simp only [if_neg e1, if_pos e2] at e
        have := h.rng r (by omega); omega
      · simp only [if_neg e1, if_neg e2] at e
        exact h.inj r s (by omega) (by omega) e
  · by_cases e : r = i
    · simp only [if_pos e]; exact hA
    · simp only [if_neg e]
      have hr2 := h.rng r (by omega)
      have hb1 := h'.row r (by omega)
      unfold Blk at hb1 ⊢
      rw [hg2.block _ (by simp; have := h'.rng r (by omega); omega) (by simp; omega), heap_setCell_other _ _ _ _ (by simpa using hr2.2.2)]
      exact hb1
  · by_cases e : r = i
    · simp only [if_pos e]; exact hl
    · simp only [if_neg e]; exact h.wid r (by omega)
  · by_cases e : r = i
    · simp only [if_pos e]; exact hb
    · simp only [if_neg e]; exact h.bd r (by omega)
theorem Mp.mx {w : World} {lo gl n W i : Nat} {G : Nat → Nat} {M : Nat → List Int} (h : Mp w lo gl n W i G M) (hi : i = n) : Mx w lo w.heap.size gl n W G M := by
  subst hi
  exact ⟨h.lst, ⟨h.gb, h.lt⟩, h.rng, h.inj, h.row, h.wid, h.bd, Nat.le_refl _⟩

theorem cRests (a : Option Addr) (n c W : Nat) (rs : List (List Int)) (w : World) (h : RdR w a n c rs) (hw : ∀ i, i < n → (rs.getD i []).length = W) (hn : n ≤ 1000) (hW : W ≤ 1000) :
    Calls Try.prog 86 #[.slice a n c] w fun e w' => ∃ G M, e = .returned (.slice (some ⟨w.heap.size, 0, none⟩) n n) ∧ Mx w' w.heap.size w'.heap.size w.heap.size n W G M ∧
      (∀ i j, i < n → j < W → (M i).getD j 0 = nm (mat rs i j)) ∧ Below w.heap.size w w' := by
  obtain ⟨i0, hi, hz0, hz1, hz2⟩ := info_parts infoU
  obtain ⟨i1, gi, gz0, gz1, gz2⟩ := info_parts infoV
  go_enter Try.func86, Try.ntmps86
  go_wp2_with (at_make; refine wpList_make_full _ rfl _ _ 60 rfl w.heap.size 23 i1 (.slice none 0 0) 1 Try.underlying60 gi gz0 gz1 .i64 .i64 _ _ n rfl rfl (by omega) (by omega) (by rw [gz2]; omega) (by unfold maxLen; omega) (Nat.le_refl _) ?_; intro w1 hown hgrow)
  have hM : Mp w1 w.heap.size w.heap.size n W 0 (fun _ => 0) (fun _ => []) := by
    refine ⟨?_, Nat.le_refl _, fun r hr => by omega, fun r s hr => by omega, fun r hr => by omega, fun r hr => by omega, fun r hr => by omega⟩
    rcases hown.2 with ⟨h', _⟩ | ⟨g', cap', cur, h', _, hg, _, _, hs, htake⟩
    · simp at h'
    · simp only [Value.slice.injEq, Option.some.injEq, Addr.mk.injEq, and_true, true_and] at h'
      obtain ⟨rfl, rfl⟩ := h'
      exact ⟨cur, hg, by omega, fun r hr => by omega⟩
  have hbel : Below w.heap.size w w1 := (Below.refl _ _).grown hgrow (Nat.le_refl _) (by simp)
  clear hown hgrow
  go_loopw [13] (fun i wr => ∃ (k : Nat) (G : Nat → Nat) (M : Nat → List Int), k ≤ n ∧ i = .int .i64 k ∧ Mp wr w.heap.size w.heap.size n W k G M ∧ Hid (∀ i j, i < k → j < W → (M i).getD j 0 = nm (mat rs i j)) ∧ Below w.heap.size w wr) (fun i _ => n - (intOf i).toNat)
  case atStart => exact ⟨0, _, _, Nat.zero_le _, rfl, hM, fun i j hi => by omega, hbel⟩
  case round =>
    clear hM hbel
    obtain ⟨k, G, M, hk, rfl, hM, HV, hbel⟩ := hrel
    obtain ⟨wo, hwo⟩ : ∃ wo, wo = wr := ⟨_, rfl⟩
    subst hwo
    have hgl := hM.lt
    by_cases hlt : k < n
    · obtain ⟨b, o, ai, ni, ci, row, rfl, hbb, HRow, hcr0, hrow⟩ := h.one hlt
      have hcr : wo.cell? ⟨b, o + k, none⟩ = some (.slice ai ni ci) := by rw [hbel.cell hbb]; exact hcr0
      have hni : ni = W := by have := hw k hlt; rw [HRow.out] at this; rw [← hrow.len]; exact this
      subst hni
      obtain ⟨u0, hu0⟩ := hM.has hlt
      have hfz0 := hM.frozen k
      go_wp2_with (first | (at_make; refine wpList_make_full _ rfl _ _ 23 rfl wo.heap.size 28 i0 (.int .u64 0) 1 Try.underlying23 hi hz0 hz1 .i64 .i64 _ _ ni rfl rfl (by omega) (by omega) (by rw [hz2]; omega) (by unfold maxLen; omega) (Nat.le_refl _) ?_; intro w2 hown hgrow; have hu2 : w2.cell? ⟨w.heap.size, k, none⟩ = some u0 := hgrow.cell hu0 (by simp); have hfz2 : w2.frozen? ⟨w.heap.size, k, none⟩ = false := by rw [World.frozen?_of_block (w := wo) (hgrow.block _ hgl (by simp))]; exact hfz0) | fail)
      have hb2 : Blk w2 wo.heap.size (List.replicate ni 0) := Blk.made hown
      have hs2 : wo.heap.size < w2.heap.size := hb2.lt
      obtain ⟨w3, hw3⟩ : ∃ w3, w3 = w2.setCell ⟨w.heap.size, k, none⟩ (.slice (some ⟨wo.heap.size, 0, none⟩) ni ni) := ⟨_, rfl⟩
      have hg23 : w2.grownBy w3 (some w.heap.size) := by rw [hw3]; exact grown_set _ _ _ _
      have hb3 : Blk w3 wo.heap.size (List.replicate ni 0) := hb2.grown hg23 (by simp; omega)
      have hc3 : w3.cell? ⟨w.heap.size, k, none⟩ = some (.slice (some ⟨wo.heap.size, 0, none⟩) ni ni) := by rw [hw3]; exact World.cell?_setCell_same w2 _ _ hu2
      have hbel3 : Below w.heap.size w w3 := by
        rw [hw3]
        exact ((hbel.grown hgrow hbel.size (by simp)).setCell (Nat.le_refl _) _)
      have hnext : ∀ (w4 : World) (A : List Int), w3.grownBy w4 (some wo.heap.size) → Blk w4 wo.heap.size A → Nz row ni A → ∃ G' M', Mp w4 w.heap.size w.heap.size n ni (k + 1) G' M' ∧ Hid (∀ i j, i < k + 1 → j < ni → (M' i).getD j 0 = nm (mat rs i j)) ∧ Below w.heap.size w w4 := fun w4 A hg4 hA hN =>
        ⟨_, _, hM.next hlt hgrow (Nat.le_refl _) hs2 (by rw [← hw3]; exact hg4) hbel.size hA (by rw [hN.len]; exact hrow.len) hN.bd, fun i j hi' hj => by
          by_cases e : i = k
          · simp only [if_pos e]
            rw [hN.at_ j hj, e]
            unfold mat; rw [HRow.out]
          · simp only [if_neg e]
            exact HV.out i j (by omega) hj, below_grown hbel3 hg4 hbel.size⟩
      rw [← hw3]
      have hrow3 : Rd w3 ai ni ci row := hrow.below hbel3
      have hs3 : wo.heap.size < w3.heap.size := hb3.lt
      clear hM HV hown hgrow hu2 hfz2 hb2 hg23 hw3 hcr hcr0 hu0 hfz0
      have hs0 := hbel.size
      go_wp2
      go_loopw [26] (fun i wr => ∃ (j : Nat) (A : List Int), j ≤ ni ∧ i = .int .i64 j ∧ Hid (Nz row j A) ∧ Blk wr wo.heap.size A ∧ w3.grownBy wr (some wo.heap.size)) (fun i _ => ni - (intOf i).toNat)
      case atStart => exact ⟨0, _, Nat.zero_le _, rfl, nz_start _ _ hrow3.len, hb3, World.grownBy.refl _ _⟩
      case round =>
        obtain ⟨j, A, hj, rfl, HN, hA, hg4⟩ := hrel
        have hlen := hrow3.len
        have hlA : A.length = ni := by rw [HN.out.len]; exact hlen
        by_cases hjn : j < ni
        · obtain ⟨b', o', x, rfl, hb', HX, hx0, hx1, hcx0⟩ := hrow.one hjn
          have hcx : wr.cell? ⟨b', o' + j, none⟩ = some (.int .u64 x) := hg4.cell (by rw [hbel3.cell hb']; exact hcx0) (by simp; omega)
          have hcl : wr.cell? ⟨w.heap.size, k, none⟩ = some (.slice (some ⟨wo.heap.size, 0, none⟩) ni ni) := hg4.cell hc3 (by simp; omega)
          have hcA := hA.cell (i := j) (by omega)
          have hfA := hA.frozen j
          have HN2 : Hid (Nz row (j + 1) (A.set j (nm x))) := nz_step HN.out (by omega) (by rw [HX.out])
          have HA2 : Hid (Blk (wr.setCell ⟨wo.heap.size, j, none⟩ (.int .u64 (nm x))) wo.heap.size (A.set j (nm x))) := hA.set j _
          have HG2 : Hid (w3.grownBy (wr.setCell ⟨wo.heap.size, j, none⟩ (.int .u64 (nm x))) (some wo.heap.size)) := grown_trans hg4 (grown_set _ _ _ _)
          clear HN hA hg4 hnext
          go_wp2
          go_region_with (first | (go_at_call 73; refine (fNorm _ _ (by omega) (by omega)).mono ?_; rintro e w' ⟨rfl, rfl⟩))
          all_goals
            go_wp2
            go_roundw
            case rel => exact ⟨j + 1, _, by omega, by go_num, HN2, HA2.out, grown_drew HG2.out⟩
            case measure => simp [intOf]; omega
        · have hjn2 : j = ni := by omega
          subst hjn2
          obtain ⟨G', M', hM', HV', hbel'⟩ := hnext _ _ hg4 hA HN.out
          go_wp2
          go_roundw
          case rel => exact ⟨k + 1, G', M', by omega, by go_num, hM', HV', hbel'⟩
          case measure => simp [intOf]; omega
    · have hkn : k = n := by omega
      subst hkn
      go_wp2
      go_ret
      exact ⟨G, M, rfl, hM.mx rfl, HV.out, hbel⟩
end
end Go.Proofs.Ytljlioglpaogdab
