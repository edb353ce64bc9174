/- Rows of rows of the call's own: every number known, each row in a block of its own. · solve.rests. · Lists of rows that a law gathers. -/
import Derived.Test.YtoifklkdfgfbdahDoorToTakeC
import Derived.Test.YtoifklkdfgfbdahDoorToLsV
import Derived.Test.YtoifklkdfgfbdahDoorToOpenG
import Derived.Test.YtoifklkdfgfbdahDoorToCrewC
import Derived.Test.YtoifklkdfgfbdahDoorToEnL
namespace Go.Proofs.YtoifklkdfgfbdahDoor
open Go.RowKit Crm

/-- The list in row gl has n rows of W numbers, the i-th in the block G i: M i. All these blocks lie from lo on and ahead of hi. -/
structure Mx (w : World) (lo hi gl n W : Nat) (G : Nat → Nat) (M : Nat → List Int) : Prop where
  lst : ∃ cur : Array Value, w.heap[gl]? = some (.cells cur 26 (0, 0)) ∧ cur.size = n ∧ ∀ i, i < n → cur[i]? = some (.slice (some ⟨G i, 0, none⟩) W W)
  gb : lo ≤ gl ∧ gl < hi
  rng : ∀ i, i < n → lo ≤ G i ∧ G i < hi ∧ G i ≠ gl
  inj : ∀ i j, i < n → j < n → G i = G j → i = j
  row : ∀ i, i < n → Blk w (G i) (M i)
  wid : ∀ i, i < n → (M i).length = W
  bd : ∀ i, i < n → ∀ x ∈ M i, 0 ≤ x ∧ x ≤ 2147483646
  hw : hi ≤ w.heap.size

/-- Nothing has turned but between lo and hi. -/
structure Fr (lo hi : Nat) (w w' : World) : Prop where
  os : w'.os = w.os
  tape : w'.tape = w.tape
  output : w'.output = w.output
  size : w.heap.size ≤ w'.heap.size
  block : ∀ k, k < w.heap.size → (k < lo ∨ hi ≤ k) → w'.heap[k]? = w.heap[k]?
theorem Fr.refl (lo hi : Nat) (w : World) : Fr lo hi w w := ⟨rfl, rfl, rfl, Nat.le_refl _, fun _ _ _ => rfl⟩
theorem Fr.trans {lo hi : Nat} {a b c : World} (h : Fr lo hi a b) (k : Fr lo hi b c) : Fr lo hi a c :=
  ⟨k.os.trans h.os, k.tape.trans h.tape, k.output.trans h.output, Nat.le_trans h.size k.size, fun i hi hr => (k.block i (Nat.lt_of_lt_of_le hi h.size) hr).trans (h.block i hi hr)⟩
theorem Fr.grown {lo hi g : Nat} {w w' : World} (h : w.grownBy w' (some g)) (h1 : lo ≤ g) (h2 : g < hi) : Fr lo hi w w' :=
  ⟨h.os, h.tape, h.output, h.size, fun k hk hr => h.block k hk (by simp; omega)⟩
theorem Fr.below {lo hi : Nat} {w w' : World} (h : Fr lo hi w w') (hl : lo ≤ w.heap.size) : Below lo w w' := ⟨h.os, h.tape, h.output, h.size, fun k hk => h.block k (by omega) (.inl hk)⟩
theorem Fr.drew {lo hi : Nat} {w w' : World} (h : Fr lo hi w w') : Fr lo hi w w'.drew := ⟨h.os, h.tape, h.output, h.size, h.block⟩
theorem Fr.own {lo hi : Nat} {w w' : World} (h : Fr lo hi w w') {E : TypeId} {v : Value} {n base : Nat} {xs : List Value} (hbase : hi ≤ base) (ho : w.ownsRow base E 1 v n xs) : w'.ownsRow base E 1 v n xs := by
  refine ⟨ho.1, ?_⟩
  rcases ho.2 with hn | ⟨g, cap, cur, rfl, hb, hgg, rest⟩
  · exact .inl hn
  · exact .inr ⟨g, cap, cur, rfl, hb, by rw [h.block g (Array.getElem?_eq_some_iff.1 hgg).1 (.inr (by omega))]; exact hgg, rest⟩
theorem Fr.own_grown {lo hi : Nat} {w w' w'' : World} {row : Option Nat} (h : Fr lo hi w w') (hg : w'.grownBy w'' row) (hr : ∀ k, row = some k → w.heap.size ≤ k) : Fr lo hi w w'' :=
  ⟨hg.os.trans h.os, hg.tape.trans h.tape, hg.output.trans h.output, Nat.le_trans h.size hg.size, fun k hk hkr => (hg.block k (Nat.lt_of_lt_of_le hk h.size) (fun e => by have := hr k e.symm; omega)).trans (h.block k hk hkr)⟩


theorem Mx.cell {w : World} {lo hi gl n W : Nat} {G : Nat → Nat} {M : Nat → List Int} (h : Mx w lo hi gl n W G M) {i : Nat} (hi' : i < n) : w.cell? ⟨gl, i, none⟩ = some (.slice (some ⟨G i, 0, none⟩) W W) := by
  obtain ⟨cur, h1, h2, h3⟩ := h.lst
  rw [cell_of_row w gl i _ _ (0, 0) h1]; exact h3 i hi'
theorem Mx.frozen {w : World} {lo hi gl n W : Nat} {G : Nat → Nat} {M : Nat → List Int} (h : Mx w lo hi gl n W G M) (i : Nat) : w.frozen? ⟨gl, i, none⟩ = false := by
  obtain ⟨cur, h1, h2, h3⟩ := h.lst
  exact frozen_of_row w gl i _ _ h1
theorem Mx.num {w : World} {lo hi gl n W : Nat} {G : Nat → Nat} {M : Nat → List Int} (h : Mx w lo hi gl n W G M) {i j : Nat} (hi' : i < n) (hj : j < W) : w.cell? ⟨G i, j, none⟩ = some (.int .u64 ((M i).getD j 0)) := (h.row i hi').cell (by rw [h.wid i hi']; exact hj)
theorem Mx.rd {w : World} {lo hi gl n W : Nat} {G : Nat → Nat} {M : Nat → List Int} (h : Mx w lo hi gl n W G M) {i : Nat} (hi' : i < n) (hm : W ≤ maxLen) : Rd w (some ⟨G i, 0, none⟩) W W (M i) := (h.row i hi').whole W (h.wid i hi').symm hm (bd_u64 (h.bd i hi'))
theorem Mx.nbd {w : World} {lo hi gl n W : Nat} {G : Nat → Nat} {M : Nat → List Int} (h : Mx w lo hi gl n W G M) {i : Nat} (hi' : i < n) (j : Nat) : 0 ≤ (M i).getD j 0 ∧ (M i).getD j 0 ≤ 2147483646 := getD_bd' (h.bd i hi') j
theorem Mx.below {w : World} {lo hi gl n W : Nat} {G : Nat → Nat} {M : Nat → List Int} (h : Mx w lo hi gl n W G M) {w' : World} (hb : Below hi w w') : Mx w' lo hi gl n W G M := by
  refine ⟨?_, h.gb, h.rng, h.inj, fun i hi' => ?_, h.wid, h.bd, Nat.le_trans h.hw hb.size⟩
  · obtain ⟨cur, h1, h2⟩ := h.lst
    exact ⟨cur, by rw [hb.block gl h.gb.2]; exact h1, h2⟩
  · exact (h.row i hi').below hb (h.rng i hi').2.1
theorem Mx.drew {w : World} {lo hi gl n W : Nat} {G : Nat → Nat} {M : Nat → List Int} (h : Mx w lo hi gl n W G M) : Mx w.drew lo hi gl n W G M := ⟨h.lst, h.gb, h.rng, h.inj, h.row, h.wid, h.bd, h.hw⟩
/-- Row i has been written anew. -/
theorem Mx.put {w : World} {lo hi gl n W : Nat} {G : Nat → Nat} {M : Nat → List Int} (h : Mx w lo hi gl n W G M) {w' : World} {i : Nat} (hi' : i < n) (hg : w.grownBy w' (some (G i))) {A : List Int} (hA : Blk w' (G i) A) (hl : A.length = W) (hb : ∀ x ∈ A, 0 ≤ x ∧ x ≤ 2147483646) :
    Mx w' lo hi gl n W G (fun k => if k = i then A else M k) := by
  refine ⟨?_, h.gb, h.rng, h.inj, fun k hk => ?_, fun k hk => ?_, fun k hk => ?_, Nat.le_trans h.hw hg.size⟩
  · obtain ⟨cur, h1, h2⟩ := h.lst
    refine ⟨cur, ?_, h2⟩
    rw [hg.block gl (Array.getElem?_eq_some_iff.1 h1).1 (by simpa using (h.rng i hi').2.2.symm)]
    exact h1
  · by_cases e : k = i
    · subst e; simpa using hA
    · rw [if_neg e]
      exact (h.row k hk).grown hg (by simp only [ne_eq, Option.some.injEq]; exact fun e2 => e (h.inj k i hk hi' e2))
  · by_cases e : k = i
    · rw [if_pos e]; exact hl
    · rw [if_neg e]; exact h.wid k hk
  · by_cases e : k = i
    · rw [if_pos e]; exact hb
    · rw [if_neg e]; exact h.bd k hk
/-- Rows k and p have changed places. -/
theorem Mx.swap {w : World} {lo hi gl n W : Nat} {G : Nat → Nat} {M : Nat → List Int} (h : Mx w lo hi gl n W G M) {k p : Nat} (hk : k < n) (hp : p < n) :
    Mx ((w.setCell ⟨gl, k, none⟩ (.slice (some ⟨G p, 0, none⟩) W W)).setCell ⟨gl, p, none⟩ (.slice (some ⟨G k, 0, none⟩) W W)) lo hi gl n W (fun i => G (if i = k then p else if i = p then k else i)) (fun i => M (if i = k then p else if i = p then k else i)) := by
  have hs : ∀ i, i < n → (if i = k then p else if i = p then k else i) < n := fun i hi => by split <;> (try split) <;> omega
  have hbl : ∀ g, g ≠ gl → ((w.setCell ⟨gl, k, none⟩ (.slice (some ⟨G p, 0, none⟩) W W)).setCell ⟨gl, p, none⟩ (.slice (some ⟨G k, 0, none⟩) W W)).heap[g]? = w.heap[g]? := fun g hg => by
    rw [heap_setCell_other _ _ _ _ (by simpa using hg), heap_setCell_other _ _ _ _ (by simpa using hg)]
  refine ⟨?_, h.gb, fun i hi => h.rng _ (hs i hi), fun i j hi hj e => ?_, fun i hi => ?_, fun i hi => h.wid _ (hs i hi), fun i hi => h.bd _ (hs i hi), by simpa using h.hw⟩
  · obtain ⟨cur, h1, h2, h3⟩ := h.lst
    refine ⟨_, heap_setCell_same _ gl p _ _ _ (heap_setCell_same w gl k _ _ _ h1), by simpa using h2, fun i hi => ?_⟩
    rw [Array.getElem?_setIfInBounds, Array.getElem?_setIfInBounds]
    by_cases e1 : p = i
    · subst e1
      by_cases e2 : p = k
      · subst e2; simp [h2, hp]
      · simp [h2, hp, e2]
    · by_cases e2 : k = i
      · subst e2; simp [h2, hk, e1]
      · rw [if_neg e1, if_neg e2, h3 i hi, if_neg (fun e => e2 e.symm), if_neg (fun e => e1 e.symm)]
  · have := h.inj _ _ (hs i hi) (hs j hj) e
    split at this <;> split at this <;> (try split at this) <;> (try split at this) <;> omega
  · unfold Blk
    rw [hbl _ (h.rng _ (hs i hi)).2.2]
    exact h.row _ (hs i hi)
theorem fr_set2 (w : World) {lo hi gl : Nat} (h1 : lo ≤ gl) (h2 : gl < hi) (k p : Nat) (u v : Value) : Fr lo hi w ((w.setCell ⟨gl, k, none⟩ u).setCell ⟨gl, p, none⟩ v) :=
  (Fr.grown (grown_set w gl k u) h1 h2).trans (Fr.grown (grown_set _ gl p v) h1 h2)
theorem cell?_setCell_some {w : World} {p q : Addr} {x v : Value} (h : w.cell? q = some v) : ∃ v', (w.setCell p x).cell? q = some v' := by
  by_cases e : p = q
  · subst e; exact ⟨x, World.cell?_setCell_same w p x h⟩
  · exact ⟨v, (World.cell?_setCell_other w p q x e).trans h⟩

/-- L, of which the first k numbers have been taken times u. -/
structure Sc (L : List Int) (u : Int) (k : Nat) (A : List Int) : Prop where
  len : A.length = L.length
  bd : ∀ x ∈ A, 0 ≤ x ∧ x ≤ 2147483646
  at_ : ∀ j, j < L.length → A.getD j 0 = if j < k then nm (L.getD j 0 * u) else L.getD j 0
theorem sc_start (L : List Int) (u : Int) (h : ∀ x ∈ L, 0 ≤ x ∧ x ≤ 2147483646) : Sc L u 0 L := ⟨rfl, h, fun j _ => by rw [if_neg (by omega)]⟩
theorem sc_step {L A : List Int} {u : Int} {k : Nat} (h : Sc L u k A) (hk : k < L.length) {v : Int} (hv : v = nm (L.getD k 0 * u)) : Sc L u (k + 1) (A.set k v) := by
  refine ⟨by rw [List.length_set]; exact h.len, set_bd h.bd (by rw [hv]; exact nm_bd _), fun j hj => ?_⟩
  rw [getD_set]
  by_cases e : j = k
  · subst e
    rw [if_pos ⟨rfl, by rw [h.len]; exact hk⟩, if_pos (by omega), hv]
  · rw [if_neg (by omega), h.at_ j hj]
    by_cases e2 : j < k
    · rw [if_pos e2, if_pos (by omega)]
    · rw [if_neg e2, if_neg (by omega)]
end Go.Proofs.YtoifklkdfgfbdahDoor

namespace Go.Proofs.YtoifklkdfgfbdahDoor
open Go.RowKit Crm

theorem infoU : (Tryd.prog.info? 42).map (fun i => (i.zero, i.size, i.bytes)) = some (some (.int .u64 0), 1, 8) := by kernel_rfl
theorem infoV : (Tryd.prog.info? 26).map (fun i => (i.zero, i.size, i.bytes)) = some (some (.slice none 0 0), 1, 24) := by kernel_rfl

/-- Of the rests of L the first k. -/
structure Nz (L : List Int) (k : Nat) (A : List Int) : Prop where
  len : A.length = L.length
  bd : ∀ x ∈ A, 0 ≤ x ∧ x ≤ 2147483646
  at_ : ∀ j, j < k → A.getD j 0 = nm (L.getD j 0)
theorem nz_start (L : List Int) (n : Nat) (h : L.length = n) : Nz L 0 (List.replicate n 0) := ⟨by simp [h], fun x hx => by rw [List.eq_of_mem_replicate hx]; omega, fun j hj => by omega⟩
theorem nz_step {L A : List Int} {k : Nat} (h : Nz L k A) (hk : k < L.length) {v : Int} (hv : v = nm (L.getD k 0)) : Nz L (k + 1) (A.set k v) := by
  refine ⟨by rw [List.length_set]; exact h.len, set_bd h.bd (by rw [hv]; exact nm_bd _), fun j hj => ?_⟩
  rw [getD_set]
  by_cases e : j = k
  · subst e
    rw [if_pos ⟨rfl, by rw [h.len]; exact hk⟩, hv]
  · rw [if_neg (by omega), h.at_ j (by omega)]

/-- Of the list in row gl the first i rows are made. -/
structure Mp (w : World) (lo gl n W i : Nat) (G : Nat → Nat) (M : Nat → List Int) : Prop where
  lst : ∃ cur : Array Value, w.heap[gl]? = some (.cells cur 26 (0, 0)) ∧ cur.size = n ∧ ∀ r, r < i → cur[r]? = some (.slice (some ⟨G r, 0, none⟩) W W)
  gb : lo ≤ gl
  rng : ∀ r, r < i → lo ≤ G r ∧ G r < w.heap.size ∧ G r ≠ gl
  inj : ∀ r s, r < i → s < i → G r = G s → r = s
  row : ∀ r, r < i → Blk w (G r) (M r)
  wid : ∀ r, r < i → (M r).length = W
  bd : ∀ r, r < i → ∀ x ∈ M r, 0 ≤ x ∧ x ≤ 2147483646
theorem Mp.lt {w : World} {lo gl n W i : Nat} {G : Nat → Nat} {M : Nat → List Int} (h : Mp w lo gl n W i G M) : gl < w.heap.size := by
  obtain ⟨cur, h1, _⟩ := h.lst
  exact (Array.getElem?_eq_some_iff.1 h1).1
theorem Mp.has {w : World} {lo gl n W i : Nat} {G : Nat → Nat} {M : Nat → List Int} (h : Mp w lo gl n W i G M) {r : Nat} (hr : r < n) : ∃ u, w.cell? ⟨gl, r, none⟩ = some u := by
  obtain ⟨cur, h1, h2, h3⟩ := h.lst
  rw [cell_of_row w gl r _ _ (0, 0) h1]
  exact ⟨_, Array.getElem?_eq_getElem (by omega)⟩
theorem Mp.frozen {w : World} {lo gl n W i : Nat} {G : Nat → Nat} {M : Nat → List Int} (h : Mp w lo gl n W i G M) (r : Nat) : w.frozen? ⟨gl, r, none⟩ = false := by
  obtain ⟨cur, h1, h2, h3⟩ := h.lst
  exact frozen_of_row w gl r _ _ h1
theorem Mp.grown {w : World} {lo gl n W i : Nat} {G : Nat → Nat} {M : Nat → List Int} (h : Mp w lo gl n W i G M) {w' : World} (hg : w.grownBy w' none) : Mp w' lo gl n W i G M := by
  refine ⟨?_, h.gb, fun r hr => ⟨(h.rng r hr).1, Nat.lt_of_lt_of_le (h.rng r hr).2.1 hg.size, (h.rng r hr).2.2⟩, h.inj, fun r hr => (h.row r hr).grown hg (by simp), h.wid, h.bd⟩
  obtain ⟨cur, h1, h2⟩ := h.lst
  exact ⟨cur, by rw [hg.block gl (Array.getElem?_eq_some_iff.1 h1).1 (by simp)]; exact h1, h2⟩
/-- Row i is put in its place: g, which has just been made and then been filled. -/
theorem Mp.next {w : World} {lo gl n W i : Nat} {G : Nat → Nat} {M : Nat → List Int} (h : Mp w lo gl n W i G M) {g : Nat} {w1 w2 : World} {A : List Int} (hi : i < n) (h0 : w.grownBy w1 none) (hgg : w.heap.size ≤ g) (hg1 : g < w1.heap.size) (hg2 : (w1.setCell ⟨gl, i, none⟩ (.slice (some ⟨g, 0, none⟩) W W)).grownBy w2 (some g)) (hlo : lo ≤ g) (hA : Blk w2 g A) (hl : A.length = W) (hb : ∀ x ∈ A, 0 ≤ x ∧ x ≤ 2147483646) :
    Mp w2 lo gl n W (i + 1) (fun r => if r = i then g else G r) (fun r => if r = i then A else M r) := by
  have hgl := h.lt
  have h' := h.grown h0
  have hs2 : w1.heap.size ≤ w2.heap.size := by have := hg2.size; simpa using this
  refine ⟨?_, h.gb, fun r hr => ?_, fun r s hr hs e => ?_, fun r hr => ?_, fun r hr => ?_, fun r hr => ?_⟩
  · obtain ⟨cur, h1, h2, h3⟩ := h'.lst
    refine ⟨cur.setIfInBounds i (.slice (some ⟨g, 0, none⟩) W W), ?_, by simpa using h2, fun r hr => ?_⟩
    · rw [hg2.block gl (by simpa using h'.lt) (by simp; omega)]
      exact heap_setCell_same w1 gl i _ _ _ h1
    · rw [Array.getElem?_setIfInBounds]
      by_cases e : i = r
      · subst e; simp [h2, hi]
      · rw [if_neg e, h3 r (by omega), if_neg (fun e2 => e e2.symm)]
  · by_cases e : r = i
    · simp only [if_pos e]; exact ⟨hlo, by omega, by omega⟩
    · simp only [if_neg e]
      have := h'.rng r (by omega)
      exact ⟨this.1, by omega, this.2.2⟩
  · by_cases e1 : r = i
    · by_cases e2 : s = i
      · omega
      · simp only [if_pos e1, if_neg e2] at e
        have := h.rng s (by omega); omega
    · by_cases e2 : s = i
      · simp only [if_neg e1, if_pos e2] at e
        have := h.rng r (by omega); omega
      · simp only [if_neg e1, if_neg e2] at e
        exact h.inj r s (by omega) (by omega) e
  · by_cases e : r = i
    · simp only [if_pos e]; exact hA
    · simp only [if_neg e]
      have hr2 := h.rng r (by omega)
      have hb1 := h'.row r (by omega)
      unfold Blk at hb1 ⊢
      rw [hg2.block _ (by simp; have := h'.rng r (by omega); omega) (by simp; omega), heap_setCell_other _ _ _ _ (by simpa using hr2.2.2)]
      exact hb1
  · by_cases e : r = i
    · simp only [if_pos e]; exact hl
    · simp only [if_neg e]; exact h.wid r (by omega)
  · by_cases e : r = i
    · simp only [if_pos e]; exact hb
    · simp only [if_neg e]; exact h.bd r (by omega)
theorem Mp.mx {w : World} {lo gl n W i : Nat} {G : Nat → Nat} {M : Nat → List Int} (h : Mp w lo gl n W i G M) (hi : i = n) : Mx w lo w.heap.size gl n W G M := by
  subst hi
  exact ⟨h.lst, ⟨h.gb, h.lt⟩, h.rng, h.inj, h.row, h.wid, h.bd, Nat.le_refl _⟩

end Go.Proofs.YtoifklkdfgfbdahDoor

namespace Go.Proofs.YtoifklkdfgfbdahDoor
open Go.RowKit

structure Lst (w : World) (B m W : Nat) (v : Value) (bs : List Value) (BB : List (List Int)) : Prop where
  own : w.ownsRow B 26 1 v m bs
  lb : BB.length = m
  row : ∀ q, q < m → ∃ g c, bs[q]? = some (.slice (some ⟨g, 0, none⟩) W c) ∧ g < w.heap.size ∧ v.ownBlock ≠ some g ∧ (BB.getD q []).length = W ∧ Rd w (some ⟨g, 0, none⟩) W c (BB.getD q [])

theorem lst_nil (w : World) (B W : Nat) : Lst w B 0 W (.slice none 0 0) [] [] := ⟨World.ownsRow_nil _ _ _ _, rfl, fun q hq => by omega⟩
theorem Lst.below {w : World} {B m W : Nat} {v : Value} {bs : List Value} {BB : List (List Int)} (h : Lst w B m W v bs BB) {w' : World} (hb : Below w.heap.size w w') : Lst w' B m W v bs BB :=
  ⟨own_below h.own hb, h.lb, fun q hq => by
    obtain ⟨g, c, h1, h2, h3, h4, h5⟩ := h.row q hq
    exact ⟨g, c, h1, Nat.lt_of_lt_of_le h2 hb.size, h3, h4, h5.below hb⟩⟩
theorem Lst.len {w : World} {B m W : Nat} {v : Value} {bs : List Value} {BB : List (List Int)} (h : Lst w B m W v bs BB) : bs.length = m := by simpa using h.own.1
theorem Lst.one1 {w : World} {B m W : Nat} {v : Value} {bs : List Value} {BB : List (List Int)} (h : Lst w B m W v bs BB) : ∀ u ∈ bs, u.oneCell' = true := fun u hu => by
  obtain ⟨q, hq, e⟩ := List.getElem_of_mem hu
  have hl := h.len
  obtain ⟨g, c, h1, _⟩ := h.row q (by omega)
  rw [List.getElem?_eq_getElem hq, e] at h1
  rw [Option.some.inj h1]; rfl
theorem Lst.wid {w : World} {B m W : Nat} {v : Value} {bs : List Value} {BB : List (List Int)} (h : Lst w B m W v bs BB) {q : Nat} (hq : q < m) : (BB.getD q []).length = W := by
  obtain ⟨g, c, _, _, _, h4, _⟩ := h.row q hq
  exact h4
/-- It reads as its rows. -/
theorem Lst.rdR {w : World} {B m W : Nat} {v : Value} {bs : List Value} {BB : List (List Int)} (h : Lst w B m W v bs BB) (hm : m ≤ 1000) : ∃ a c, v = .slice a m c ∧ RdR w a m c BB := by
  rcases h.own.2 with ⟨rfl, rfl⟩ | ⟨g, cap, cur, rfl, hb, hg, h1, h2, hs, ht⟩
  · exact ⟨none, 0, rfl, h.lb, Nat.le_refl _, Nat.zero_le _, fun _ => rfl, by simp⟩
  · refine ⟨_, _, rfl, h.lb, h1, h2, by simp, fun x hx i hi => ?_⟩
    obtain rfl := Option.some.inj hx
    obtain ⟨g', c', e1, e2, e3, e4, e5⟩ := h.row i hi
    refine ⟨some ⟨g', 0, none⟩, c', ?_, by rw [e4]; exact e5⟩
    rw [e4]
    exact h.own.cells (g := g) rfl i _ e1
/-- One more row. -/
theorem Lst.add {w : World} {B m W : Nat} {v : Value} {bs : List Value} {BB : List (List Int)} (h : Lst w B m W v bs BB) {w1 : World} {v' : Value} {g0 c0 : Nat} {row : List Int} (hr : Rd w (some ⟨g0, 0, none⟩) W c0 row) (hg0 : g0 < w.heap.size) (hne : v.ownBlock ≠ some g0)
    (s1 : w1.ownsRow B 26 1 v' (m + 1) (bs ++ [.slice (some ⟨g0, 0, none⟩) W c0])) (g1 : w.grownBy w1 v.ownBlock) (b1 : v'.ownBlock = v.ownBlock ∨ ∃ k, v'.ownBlock = some k ∧ w.heap.size ≤ k) :
    Lst w1 B (m + 1) W v' (bs ++ [.slice (some ⟨g0, 0, none⟩) W c0]) (BB ++ [row]) := by
  have hz := g1.size
  have hlb := h.lb
  have hlen := h.len
  have keep : ∀ g, g < w.heap.size → v.ownBlock ≠ some g → v'.ownBlock ≠ some g := fun g hg hn e => by
    rcases b1 with e1 | ⟨k, e1, hk⟩
    · exact hn (e1 ▸ e)
    · rw [e1] at e; obtain rfl := Option.some.inj e; omega
  refine ⟨s1, by simp [hlb], fun q hq => ?_⟩
  by_cases e : q < m
  · obtain ⟨g, c, h1, h2, h3, h4, h5⟩ := h.row q e
    have e2 : (BB ++ [row]).getD q [] = BB.getD q [] := by simp [List.getElem?_append_left (show q < BB.length by omega)]
    refine ⟨g, c, by rw [List.getElem?_append_left (by omega)]; exact h1, by omega, keep g h2 h3, by rw [e2]; exact h4, ?_⟩
    rw [e2]
    exact h5.grown g1 fun x hx => by obtain rfl := Option.some.inj hx; exact fun e3 => h3 e3.symm
  · have hq2 : q = m := by omega
    have e2 : (BB ++ [row]).getD q [] = row := by rw [hq2, ← hlb]; simp
    refine ⟨g0, c0, by rw [hq2, ← hlen]; simp, by omega, keep g0 hg0 hne, by rw [e2]; exact hr.len, ?_⟩
    rw [e2]
    exact hr.grown g1 fun x hx => by obtain rfl := Option.some.inj hx; exact fun e3 => hne e3.symm
/-- A copy of it. -/
theorem Lst.clone {w : World} {B m W : Nat} {v : Value} {bs : List Value} {BB : List (List Int)} (h : Lst w B m W v bs BB) {w1 : World} {v' : Value} (hb : Below w.heap.size w w1) (s1 : w1.ownsRow w.heap.size 26 1 v' m bs) : Lst w1 w.heap.size m W v' bs BB :=
  ⟨s1, h.lb, fun q hq => by
    obtain ⟨g, c, h1, h2, h3, h4, h5⟩ := h.row q hq
    exact ⟨g, c, h1, Nat.lt_of_lt_of_le h2 hb.size, fun e => by have := (s1.lt g e).1; omega, h4, h5.below hb⟩⟩

/-- A row that was made and filled is one that may be appended to. -/
theorem Blk.owns {w : World} {g n base : Nat} {L : List Int} (h : Blk w g L) (hl : L.length = n) (hm : n ≤ maxLen) (hb : base ≤ g) : w.ownsRow base 42 1 (.slice (some ⟨g, 0, none⟩) n n) n (L.map (Value.int .u64)) :=
  ⟨by simp [hl], .inr ⟨g, n, _, rfl, hb, h, Nat.le_refl _, hm, by simp [hl], by rw [Nat.mul_one]; exact List.take_of_length_le (by simp [hl])⟩⟩
end Go.Proofs.YtoifklkdfgfbdahDoor
