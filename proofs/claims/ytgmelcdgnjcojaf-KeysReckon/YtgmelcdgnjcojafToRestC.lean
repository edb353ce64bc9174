/- Rows of rows of the call's own: every number known, each row in a block of its own. · Slices of rows of numbers that are read. · solve.rests. -/
import Derived.Test.YtgmelcdgnjcojafToTakeC
import Derived.Test.YtgmelcdgnjcojafToPolyM3
import Derived.Test.YtgmelcdgnjcojafToGaussM
namespace Go.Proofs.Ytgmelcdgnjcojaf
open Go.RowKit Crm

/-- The list in row gl has n rows of W numbers, the i-th in the block G i: M i. All these blocks lie from lo on and ahead of hi. -/
structure Mx (w : World) (lo hi gl n W : Nat) (G : Nat → Nat) (M : Nat → List Int) : Prop where
  lst : ∃ cur : Array Value, w.heap[gl]? = some (.cells cur 22 (0, 0)) ∧ cur.size = n ∧ ∀ i, i < n → cur[i]? = some (.slice (some ⟨G i, 0, none⟩) W W)
  gb : lo ≤ gl ∧ gl < hi
  rng : ∀ i, i < n → lo ≤ G i ∧ G i < hi ∧ G i ≠ gl
  inj : ∀ i j, i < n → j < n → G i = G j → i = j
  row : ∀ i, i < n → Blk w (G i) (M i)
  wid : ∀ i, i < n → (M i).length = W
  bd : ∀ i, i < n → ∀ x ∈ M i, 0 ≤ x ∧ x ≤ 2147483646
  hw : hi ≤ w.heap.size

/-- Nothing has turned but between lo and hi. -/
structure Fr (lo hi : Nat) (w w' : World) : Prop where
  os : w'.os = w.os
  tape : w'.tape = w.tape
  output : w'.output = w.output
  size : w.heap.size ≤ w'.heap.size
  block : ∀ k, k < w.heap.size → (k < lo ∨ hi ≤ k) → w'.heap[k]? = w.heap[k]?
theorem Fr.refl (lo hi : Nat) (w : World) : Fr lo hi w w := ⟨rfl, rfl, rfl, Nat.le_refl _, fun _ _ _ => rfl⟩
theorem Fr.trans {lo hi : Nat} {a b c : World} (h : Fr lo hi a b) (k : Fr lo hi b c) : Fr lo hi a c :=
  ⟨k.os.trans h.os, k.tape.trans h.tape, k.output.trans h.output, Nat.le_trans h.size k.size, fun i hi hr => (k.block i (Nat.lt_of_lt_of_le hi h.size) hr).trans (h.block i hi hr)⟩
theorem Fr.grown {lo hi g : Nat} {w w' : World} (h : w.grownBy w' (some g)) (h1 : lo ≤ g) (h2 : g < hi) : Fr lo hi w w' :=
  ⟨h.os, h.tape, h.output, h.size, fun k hk hr => h.block k hk (by simp; omega)⟩
theorem Fr.below {lo hi : Nat} {w w' : World} (h : Fr lo hi w w') (hl : lo ≤ w.heap.size) : Below lo w w' := ⟨h.os, h.tape, h.output, h.size, fun k hk => h.block k (by omega) (.inl hk)⟩
theorem Fr.drew {lo hi : Nat} {w w' : World} (h : Fr lo hi w w') : Fr lo hi w w'.drew := ⟨h.os, h.tape, h.output, h.size, h.block⟩
theorem Fr.own {lo hi : Nat} {w w' : World} (h : Fr lo hi w w') {E : TypeId} {v : Value} {n base : Nat} {xs : List Value} (hbase : hi ≤ base) (ho : w.ownsRow base E 1 v n xs) : w'.ownsRow base E 1 v n xs := by
  refine ⟨ho.1, ?_⟩
  rcases ho.2 with hn | ⟨g, cap, cur, rfl, hb, hgg, rest⟩
  · exact .inl hn
  · exact .inr ⟨g, cap, cur, rfl, hb, by rw [h.block g (Array.getElem?_eq_some_iff.1 hgg).1 (.inr (by omega))]; exact hgg, rest⟩
theorem Fr.own_grown {lo hi : Nat} {w w' w'' : World} {row : Option Nat} (h : Fr lo hi w w') (hg : w'.grownBy w'' row) (hr : ∀ k, row = some k → w.heap.size ≤ k) : Fr lo hi w w'' :=
  ⟨hg.os.trans h.os, hg.tape.trans h.tape, hg.output.trans h.output, Nat.le_trans h.size hg.size, fun k hk hkr => (hg.block k (Nat.lt_of_lt_of_le hk h.size) (fun e => by have := hr k e.symm; omega)).trans (h.block k hk hkr)⟩


theorem Mx.cell {w : World} {lo hi gl n W : Nat} {G : Nat → Nat} {M : Nat → List Int} (h : Mx w lo hi gl n W G M) {i : Nat} (hi' : i < n) : w.cell? ⟨gl, i, none⟩ = some (.slice (some ⟨G i, 0, none⟩) W W) := by
  obtain ⟨cur, h1, h2, h3⟩ := h.lst
  rw [cell_of_row w gl i _ _ (0, 0) h1]; exact h3 i hi'
theorem Mx.frozen {w : World} {lo hi gl n W : Nat} {G : Nat → Nat} {M : Nat → List Int} (h : Mx w lo hi gl n W G M) (i : Nat) : w.frozen? ⟨gl, i, none⟩ = false := by
  obtain ⟨cur, h1, h2, h3⟩ := h.lst
  exact frozen_of_row w gl i _ _ h1
theorem Mx.num {w : World} {lo hi gl n W : Nat} {G : Nat → Nat} {M : Nat → List Int} (h : Mx w lo hi gl n W G M) {i j : Nat} (hi' : i < n) (hj : j < W) : w.cell? ⟨G i, j, none⟩ = some (.int .u64 ((M i).getD j 0)) := (h.row i hi').cell (by rw [h.wid i hi']; exact hj)
theorem Mx.rd {w : World} {lo hi gl n W : Nat} {G : Nat → Nat} {M : Nat → List Int} (h : Mx w lo hi gl n W G M) {i : Nat} (hi' : i < n) (hm : W ≤ maxLen) : Rd w (some ⟨G i, 0, none⟩) W W (M i) := (h.row i hi').whole W (h.wid i hi').symm hm (bd_u64 (h.bd i hi'))
theorem Mx.nbd {w : World} {lo hi gl n W : Nat} {G : Nat → Nat} {M : Nat → List Int} (h : Mx w lo hi gl n W G M) {i : Nat} (hi' : i < n) (j : Nat) : 0 ≤ (M i).getD j 0 ∧ (M i).getD j 0 ≤ 2147483646 := getD_bd' (h.bd i hi') j
theorem Mx.below {w : World} {lo hi gl n W : Nat} {G : Nat → Nat} {M : Nat → List Int} (h : Mx w lo hi gl n W G M) {w' : World} (hb : Below hi w w') : Mx w' lo hi gl n W G M := by
  refine ⟨?_, h.gb, h.rng, h.inj, fun i hi' => ?_, h.wid, h.bd, Nat.le_trans h.hw hb.size⟩
  · obtain ⟨cur, h1, h2⟩ := h.lst
    exact ⟨cur, by rw [hb.block gl h.gb.2]; exact h1, h2⟩
  · exact (h.row i hi').below hb (h.rng i hi').2.1
theorem Mx.drew {w : World} {lo hi gl n W : Nat} {G : Nat → Nat} {M : Nat → List Int} (h : Mx w lo hi gl n W G M) : Mx w.drew lo hi gl n W G M := ⟨h.lst, h.gb, h.rng, h.inj, h.row, h.wid, h.bd, h.hw⟩
/-- Row i has been written anew. -/
theorem Mx.put {w : World} {lo hi gl n W : Nat} {G : Nat → Nat} {M : Nat → List Int} (h : Mx w lo hi gl n W G M) {w' : World} {i : Nat} (hi' : i < n) (hg : w.grownBy w' (some (G i))) {A : List Int} (hA : Blk w' (G i) A) (hl : A.length = W) (hb : ∀ x ∈ A, 0 ≤ x ∧ x ≤ 2147483646) :
    Mx w' lo hi gl n W G (fun k => if k = i then A else M k) := by
  refine ⟨?_, h.gb, h.rng, h.inj, fun k hk => ?_, fun k hk => ?_, fun k hk => ?_, Nat.le_trans h.hw hg.size⟩
  · obtain ⟨cur, h1, h2⟩ := h.lst
    refine ⟨cur, ?_, h2⟩
    rw [hg.block gl (Array.getElem?_eq_some_iff.1 h1).1 (by simpa using (h.rng i hi').2.2.symm)]
    exact h1
  · by_cases e : k = i
    · subst e; simpa using hA
    · rw [if_neg e]
      exact (h.row k hk).grown hg (by simp only [ne_eq, Option.some.injEq]; exact fun e2 => e (h.inj k i hk hi' e2))
  · by_cases e : k = i
    · rw [if_pos e]; exact hl
    · rw [if_neg e]; exact h.wid k hk
  · by_cases e : k = i
    · rw [if_pos e]; exact hb
    · rw [if_neg e]; exact h.bd k hk
/-- Rows k and p have changed places. -/
theorem Mx.swap {w : World} {lo hi gl n W : Nat} {G : Nat → Nat} {M : Nat → List Int} (h : Mx w lo hi gl n W G M) {k p : Nat} (hk : k < n) (hp : p < n) :
    Mx ((w.setCell ⟨gl, k, none⟩ (.slice (some ⟨G p, 0, none⟩) W W)).setCell ⟨gl, p, none⟩ (.slice (some ⟨G k, 0, none⟩) W W)) lo hi gl n W (fun i => G (if i = k then p else if i = p then k else i)) (fun i => M (if i = k then p else if i = p then k else i)) := by
  have hs : ∀ i, i < n → (if i = k then p else if i = p then k else i) < n := fun i hi => by split <;> (try split) <;> omega
  have hbl : ∀ g, g ≠ gl → ((w.setCell ⟨gl, k, none⟩ (.slice (some ⟨G p, 0, none⟩) W W)).setCell ⟨gl, p, none⟩ (.slice (some ⟨G k, 0, none⟩) W W)).heap[g]? = w.heap[g]? := fun g hg => by
    rw [heap_setCell_other _ _ _ _ (by simpa using hg), heap_setCell_other _ _ _ _ (by simpa using hg)]
  refine ⟨?_, h.gb, fun i hi => h.rng _ (hs i hi), fun i j hi hj e => ?_, fun i hi => ?_, fun i hi => h.wid _ (hs i hi), fun i hi => h.bd _ (hs i hi), by simpa using h.hw⟩
  · obtain ⟨cur, h1, h2, h3⟩ := h.lst
    refine ⟨_, heap_setCell_same _ gl p _ _ _ (heap_setCell_same w gl k _ _ _ h1), by simpa using h2, fun i hi => ?_⟩
    rw [Array.getElem?_setIfInBounds, Array.getElem?_setIfInBounds]
    by_cases e1 : p = i
    · subst e1
      by_cases e2 : p = k
      · subst e2; simp [h2, hp]
      · simp [h2, hp, e2]
    · by_cases e2 : k = i
      · subst e2; simp [h2, hk, e1]
      · rw [if_neg e1, if_neg e2, h3 i hi, if_neg (fun e => e2 e.symm), if_neg (fun e => e1 e.symm)]
  · have := h.inj _ _ (hs i hi) (hs j hj) e
    split at this <;> split at this <;> (try split at this) <;> (try split at this) <;> omega
  · unfold Blk
    rw [hbl _ (h.rng _ (hs i hi)).2.2]
    exact h.row _ (hs i hi)
theorem fr_set2 (w : World) {lo hi gl : Nat} (h1 : lo ≤ gl) (h2 : gl < hi) (k p : Nat) (u v : Value) : Fr lo hi w ((w.setCell ⟨gl, k, none⟩ u).setCell ⟨gl, p, none⟩ v) :=
  (Fr.grown (grown_set w gl k u) h1 h2).trans (Fr.grown (grown_set _ gl p v) h1 h2)
theorem cell?_setCell_some {w : World} {p q : Addr} {x v : Value} (h : w.cell? q = some v) : ∃ v', (w.setCell p x).cell? q = some v' := by
  by_cases e : p = q
  · subst e; exact ⟨x, World.cell?_setCell_same w p x h⟩
  · exact ⟨v, (World.cell?_setCell_other w p q x e).trans h⟩

/-- L, of which the first k numbers have been taken times u. -/
structure Sc (L : List Int) (u : Int) (k : Nat) (A : List Int) : Prop where
  len : A.length = L.length
  bd : ∀ x ∈ A, 0 ≤ x ∧ x ≤ 2147483646
  at_ : ∀ j, j < L.length → A.getD j 0 = if j < k then nm (L.getD j 0 * u) else L.getD j 0
theorem sc_start (L : List Int) (u : Int) (h : ∀ x ∈ L, 0 ≤ x ∧ x ≤ 2147483646) : Sc L u 0 L := ⟨rfl, h, fun j _ => by rw [if_neg (by omega)]⟩
theorem sc_step {L A : List Int} {u : Int} {k : Nat} (h : Sc L u k A) (hk : k < L.length) {v : Int} (hv : v = nm (L.getD k 0 * u)) : Sc L u (k + 1) (A.set k v) := by
  refine ⟨by rw [List.length_set]; exact h.len, set_bd h.bd (by rw [hv]; exact nm_bd _), fun j hj => ?_⟩
  rw [getD_set]
  by_cases e : j = k
  · subst e
    rw [if_pos ⟨rfl, by rw [h.len]; exact hk⟩, if_pos (by omega), hv]
  · rw [if_neg (by omega), h.at_ j hj]
    by_cases e2 : j < k
    · rw [if_pos e2, if_pos (by omega)]
    · rw [if_neg e2, if_neg (by omega)]
end Go.Proofs.Ytgmelcdgnjcojaf

namespace Go.Proofs.Ytgmelcdgnjcojaf
open Go.RowKit Crm

/-- The slice reads as the rows rs. -/
structure RdR (w : World) (a : Option Addr) (n c : Nat) (rs : List (List Int)) : Prop where
  len : rs.length = n
  cap : n ≤ c
  max : c ≤ maxLen
  nil : a = none → c = 0
  row : ∀ x, a = some x → ∀ i, i < n → ∃ ai ci, w.cell? (x.add i) = some (.slice ai (rs.getD i []).length ci) ∧ Rd w ai (rs.getD i []).length ci (rs.getD i [])

theorem RdR.at {w : World} {a : Option Addr} {n c : Nat} {rs : List (List Int)} (h : RdR w a n c rs) {k : Nat} (hk : k < n) :
    ∃ b o, a = some ⟨b, o, none⟩ ∧ b < w.heap.size ∧ ∀ i, i < n → ∃ ai ci, w.cell? ⟨b, o + i, none⟩ = some (.slice ai (rs.getD i []).length ci) ∧ Rd w ai (rs.getD i []).length ci (rs.getD i []) := by
  cases ha : a with
  | none => have := h.nil ha; have := h.cap; omega
  | some x =>
    obtain ⟨a0, c0, h0, _⟩ := h.row x ha 0 (by omega)
    have hs : x.spot = none := by
      have := spot_none h0
      unfold Addr.add at this
      split at this <;> simp_all
    obtain ⟨b, o, s⟩ := x
    simp only at hs
    subst hs
    refine ⟨b, o, rfl, ?_, fun i hi => by
      obtain ⟨ai, ci, h1, h2⟩ := h.row _ ha i hi
      rw [Addr.add_lit] at h1
      exact ⟨ai, ci, h1, h2⟩⟩
    have := World.block_lt_of_cell? w _ h0
    rwa [Addr.add_lit] at this

/-- One row of it, by names of its own. -/
theorem RdR.one {w : World} {a : Option Addr} {n c : Nat} {rs : List (List Int)} (h : RdR w a n c rs) {k : Nat} (hk : k < n) :
    ∃ b o ai ni ci row, a = some ⟨b, o, none⟩ ∧ b < w.heap.size ∧ Hid (rs.getD k [] = row) ∧ w.cell? ⟨b, o + k, none⟩ = some (.slice ai ni ci) ∧ Rd w ai ni ci row := by
  obtain ⟨b, o, ha, hb, hr⟩ := h.at hk
  obtain ⟨ai, ci, h1, h2⟩ := hr k hk
  exact ⟨b, o, ai, _, ci, _, ha, hb, rfl, h1, h2⟩

theorem RdR.below {w w' : World} {a : Option Addr} {n c : Nat} {rs : List (List Int)} (h : RdR w a n c rs) (hb : Below w.heap.size w w') : RdR w' a n c rs := by
  refine ⟨h.len, h.cap, h.max, h.nil, fun x hx i hi => ?_⟩
  obtain ⟨ai, ci, h1, h2⟩ := h.row x hx i hi
  exact ⟨ai, ci, by rw [hb.cell (World.block_lt_of_cell? w _ h1)]; exact h1, h2.below hb⟩

/-- The numbers of rows, by row and column. -/
def mat (rs : List (List Int)) (i j : Nat) : Int := (rs.getD i []).getD j 0
end Go.Proofs.Ytgmelcdgnjcojaf

namespace Go.Proofs.Ytgmelcdgnjcojaf
open Go.RowKit Crm

theorem infoU : (Try.prog.info? 23).map (fun i => (i.zero, i.size, i.bytes)) = some (some (.int .u64 0), 1, 8) := by kernel_rfl
theorem infoV : (Try.prog.info? 22).map (fun i => (i.zero, i.size, i.bytes)) = some (some (.slice none 0 0), 1, 24) := by kernel_rfl

/-- Of the rests of L the first k. -/
structure Nz (L : List Int) (k : Nat) (A : List Int) : Prop where
  len : A.length = L.length
  bd : ∀ x ∈ A, 0 ≤ x ∧ x ≤ 2147483646
  at_ : ∀ j, j < k → A.getD j 0 = nm (L.getD j 0)
theorem nz_start (L : List Int) (n : Nat) (h : L.length = n) : Nz L 0 (List.replicate n 0) := ⟨by simp [h], fun x hx => by rw [List.eq_of_mem_replicate hx]; omega, fun j hj => by omega⟩
theorem nz_step {L A : List Int} {k : Nat} (h : Nz L k A) (hk : k < L.length) {v : Int} (hv : v = nm (L.getD k 0)) : Nz L (k + 1) (A.set k v) := by
  refine ⟨by rw [List.length_set]; exact h.len, set_bd h.bd (by rw [hv]; exact nm_bd _), fun j hj => ?_⟩
  rw [getD_set]
  by_cases e : j = k
  · subst e
    rw [if_pos ⟨rfl, by rw [h.len]; exact hk⟩, hv]
  · rw [if_neg (by omega), h.at_ j (by omega)]

/-- Of the list in row gl the first i rows are made. -/
structure Mp (w : World) (lo gl n W i : Nat) (G : Nat → Nat) (M : Nat → List Int) : Prop where
  lst : ∃ cur : Array Value, w.heap[gl]? = some (.cells cur 22 (0, 0)) ∧ cur.size = n ∧ ∀ r, r < i → cur[r]? = some (.slice (some ⟨G r, 0, none⟩) W W)
  gb : lo ≤ gl
  rng : ∀ r, r < i → lo ≤ G r ∧ G r < w.heap.size ∧ G r ≠ gl
  inj : ∀ r s, r < i → s < i → G r = G s → r = s
  row : ∀ r, r < i → Blk w (G r) (M r)
  wid : ∀ r, r < i → (M r).length = W
  bd : ∀ r, r < i → ∀ x ∈ M r, 0 ≤ x ∧ x ≤ 2147483646
theorem Mp.lt {w : World} {lo gl n W i : Nat} {G : Nat → Nat} {M : Nat → List Int} (h : Mp w lo gl n W i G M) : gl < w.heap.size := by
  obtain ⟨cur, h1, _⟩ := h.lst
  exact (Array.getElem?_eq_some_iff.1 h1).1
theorem Mp.has {w : World} {lo gl n W i : Nat} {G : Nat → Nat} {M : Nat → List Int} (h : Mp w lo gl n W i G M) {r : Nat} (hr : r < n) : ∃ u, w.cell? ⟨gl, r, none⟩ = some u := by
  obtain ⟨cur, h1, h2, h3⟩ := h.lst
  rw [cell_of_row w gl r _ _ (0, 0) h1]
  exact ⟨_, Array.getElem?_eq_getElem (by omega)⟩
theorem Mp.frozen {w : World} {lo gl n W i : Nat} {G : Nat → Nat} {M : Nat → List Int} (h : Mp w lo gl n W i G M) (r : Nat) : w.frozen? ⟨gl, r, none⟩ = false := by
  obtain ⟨cur, h1, h2, h3⟩ := h.lst
  exact frozen_of_row w gl r _ _ h1
theorem Mp.grown {w : World} {lo gl n W i : Nat} {G : Nat → Nat} {M : Nat → List Int} (h : Mp w lo gl n W i G M) {w' : World} (hg : w.grownBy w' none) : Mp w' lo gl n W i G M := by
  refine ⟨?_, h.gb, fun r hr => ⟨(h.rng r hr).1, Nat.lt_of_lt_of_le (h.rng r hr).2.1 hg.size, (h.rng r hr).2.2⟩, h.inj, fun r hr => (h.row r hr).grown hg (by simp), h.wid, h.bd⟩
  obtain ⟨cur, h1, h2⟩ := h.lst
  exact ⟨cur, by rw [hg.block gl (Array.getElem?_eq_some_iff.1 h1).1 (by simp)]; exact h1, h2⟩
/-- Row i is put in its place: g, which has just been made and then been filled. -/
theorem Mp.next {w : World} {lo gl n W i : Nat} {G : Nat → Nat} {M : Nat → List Int} (h : Mp w lo gl n W i G M) {g : Nat} {w1 w2 : World} {A : List Int} (hi : i < n) (h0 : w.grownBy w1 none) (hgg : w.heap.size ≤ g) (hg1 : g < w1.heap.size) (hg2 : (w1.setCell ⟨gl, i, none⟩ (.slice (some ⟨g, 0, none⟩) W W)).grownBy w2 (some g)) (hlo : lo ≤ g) (hA : Blk w2 g A) (hl : A.length = W) (hb : ∀ x ∈ A, 0 ≤ x ∧ x ≤ 2147483646) :
    Mp w2 lo gl n W (i + 1) (fun r => if r = i then g else G r) (fun r => if r = i then A else M r) := by
  have hgl := h.lt
  have h' := h.grown h0
  have hs2 : w1.heap.size ≤ w2.heap.size := by have := hg2.size; simpa using this
  refine ⟨?_, h.gb, fun r hr => ?_, fun r s hr hs e => ?_, fun r hr => ?_, fun r hr => ?_, fun r hr => ?_⟩
  · obtain ⟨cur, h1, h2, h3⟩ := h'.lst
    refine ⟨cur.setIfInBounds i (.slice (some ⟨g, 0, none⟩) W W), ?_, by simpa using h2, fun r hr => ?_⟩
    · rw [hg2.block gl (by simpa using h'.lt) (by simp; omega)]
      exact heap_setCell_same w1 gl i _ _ _ h1
    · rw [Array.getElem?_setIfInBounds]
      by_cases e : i = r
      · subst e; simp [h2, hi]
      · rw [if_neg e, h3 r (by omega), if_neg (fun e2 => e e2.symm)]
  · by_cases e : r = i
    · simp only [if_pos e]; exact ⟨hlo, by omega, by omega⟩
    · simp only [if_neg e]
      have := h'.rng r (by omega)
      exact ⟨this.1, by omega, this.2.2⟩
  · by_cases e1 : r = i
    · by_cases e2 : s = i
      · omega
      · simp only [if_pos e1, if_neg e2] at e
        have := h.rng s (by omega); omega
    · by_cases e2 : s = i
      · simp only [if_neg e1, if_pos e2] at e
        have := h.rng r (by omega); omega
      · simp only [if_neg e1, if_neg e2] at e
        exact h.inj r s (by omega) (by omega) e
  · by_cases e : r = i
    · simp only [if_pos e]; exact hA
    · simp only [if_neg e]
      have hr2 := h.rng r (by omega)
      have hb1 := h'.row r (by omega)
      unfold Blk at hb1 ⊢
      rw [hg2.block _ (by simp; have := h'.rng r (by omega); omega) (by simp; omega), heap_setCell_other _ _ _ _ (by simpa using hr2.2.2)]
      exact hb1
  · by_cases e : r = i
    · simp only [if_pos e]; exact hl
    · simp only [if_neg e]; exact h.wid r (by omega)
  · by_cases e : r = i
    · simp only [if_pos e]; exact hb
    · simp only [if_neg e]; exact h.bd r (by omega)
theorem Mp.mx {w : World} {lo gl n W i : Nat} {G : Nat → Nat} {M : Nat → List Int} (h : Mp w lo gl n W i G M) (hi : i = n) : Mx w lo w.heap.size gl n W G M := by
  subst hi
  exact ⟨h.lst, ⟨h.gb, h.lt⟩, h.rng, h.inj, h.row, h.wid, h.bd, Nat.le_refl _⟩

end Go.Proofs.Ytgmelcdgnjcojaf
