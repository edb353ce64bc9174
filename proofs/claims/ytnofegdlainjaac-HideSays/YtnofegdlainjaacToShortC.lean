/- solve.rests. · croftkeep.short; short lists that a law writes out. -/
import Derived.Test.YtnofegdlainjaacToRows2
import Derived.Test.YtnofegdlainjaacProg
import Derived.Test.YtnofegdlainjaacToMath
namespace Go.Proofs.Ytnofegdlainjaac
open Go.RowKit Crm

theorem infoU : (Try.prog.info? 23).map (fun i => (i.zero, i.size, i.bytes)) = some (some (.int .u64 0), 1, 8) := by kernel_rfl
theorem infoV : (Try.prog.info? 24).map (fun i => (i.zero, i.size, i.bytes)) = some (some (.slice none 0 0), 1, 24) := by kernel_rfl

/-- Of the rests of L the first k. -/
structure Nz (L : List Int) (k : Nat) (A : List Int) : Prop where
  len : A.length = L.length
  bd : ∀ x ∈ A, 0 ≤ x ∧ x ≤ 2147483646
  at_ : ∀ j, j < k → A.getD j 0 = nm (L.getD j 0)
theorem nz_start (L : List Int) (n : Nat) (h : L.length = n) : Nz L 0 (List.replicate n 0) := ⟨by simp [h], fun x hx => by rw [List.eq_of_mem_replicate hx]; omega, fun j hj => by omega⟩
theorem nz_step {L A : List Int} {k : Nat} (h : Nz L k A) (hk : k < L.length) {v : Int} (hv : v = nm (L.getD k 0)) : Nz L (k + 1) (A.set k v) := by
  refine ⟨by rw [List.length_set]; exact h.len, set_bd h.bd (by rw [hv]; exact nm_bd _), fun j hj => ?_⟩
  rw [getD_set]
  by_cases e : j = k
  · subst e
    rw [if_pos ⟨rfl, by rw [h.len]; exact hk⟩, hv]
  · rw [if_neg (by omega), h.at_ j (by omega)]

/-- Of the list in row gl the first i rows are made. -/
structure Mp (w : World) (lo gl n W i : Nat) (G : Nat → Nat) (M : Nat → List Int) : Prop where
  lst : ∃ cur : Array Value, w.heap[gl]? = some (.cells cur 24 (0, 0)) ∧ cur.size = n ∧ ∀ r, r < i → cur[r]? = some (.slice (some ⟨G r, 0, none⟩) W W)
  gb : lo ≤ gl
  rng : ∀ r, r < i → lo ≤ G r ∧ G r < w.heap.size ∧ G r ≠ gl
  inj : ∀ r s, r < i → s < i → G r = G s → r = s
  row : ∀ r, r < i → Blk w (G r) (M r)
  wid : ∀ r, r < i → (M r).length = W
  bd : ∀ r, r < i → ∀ x ∈ M r, 0 ≤ x ∧ x ≤ 2147483646
theorem Mp.lt {w : World} {lo gl n W i : Nat} {G : Nat → Nat} {M : Nat → List Int} (h : Mp w lo gl n W i G M) : gl < w.heap.size := by
  obtain ⟨cur, h1, _⟩ := h.lst
  exact (Array.getElem?_eq_some_iff.1 h1).1
theorem Mp.has {w : World} {lo gl n W i : Nat} {G : Nat → Nat} {M : Nat → List Int} (h : Mp w lo gl n W i G M) {r : Nat} (hr : r < n) : ∃ u, w.cell? ⟨gl, r, none⟩ = some u := by
  obtain ⟨cur, h1, h2, h3⟩ := h.lst
  rw [cell_of_row w gl r _ _ (0, 0) h1]
  exact ⟨_, Array.getElem?_eq_getElem (by omega)⟩
theorem Mp.frozen {w : World} {lo gl n W i : Nat} {G : Nat → Nat} {M : Nat → List Int} (h : Mp w lo gl n W i G M) (r : Nat) : w.frozen? ⟨gl, r, none⟩ = false := by
  obtain ⟨cur, h1, h2, h3⟩ := h.lst
  exact frozen_of_row w gl r _ _ h1
theorem Mp.grown {w : World} {lo gl n W i : Nat} {G : Nat → Nat} {M : Nat → List Int} (h : Mp w lo gl n W i G M) {w' : World} (hg : w.grownBy w' none) : Mp w' lo gl n W i G M := by
  refine ⟨?_, h.gb, fun r hr => ⟨(h.rng r hr).1, Nat.lt_of_lt_of_le (h.rng r hr).2.1 hg.size, (h.rng r hr).2.2⟩, h.inj, fun r hr => (h.row r hr).grown hg (by simp), h.wid, h.bd⟩
  obtain ⟨cur, h1, h2⟩ := h.lst
  exact ⟨cur, by rw [hg.block gl (Array.getElem?_eq_some_iff.1 h1).1 (by simp)]; exact h1, h2⟩
/-- Row i is put in its place: g, which has just been made and then been filled. -/
theorem Mp.next {w : World} {lo gl n W i : Nat} {G : Nat → Nat} {M : Nat → List Int} (h : Mp w lo gl n W i G M) {g : Nat} {w1 w2 : World} {A : List Int} (hi : i < n) (h0 : w.grownBy w1 none) (hgg : w.heap.size ≤ g) (hg1 : g < w1.heap.size) (hg2 : (w1.setCell ⟨gl, i, none⟩ (.slice (some ⟨g, 0, none⟩) W W)).grownBy w2 (some g)) (hlo : lo ≤ g) (hA : Blk w2 g A) (hl : A.length = W) (hb : ∀ x ∈ A, 0 ≤ x ∧ x ≤ 2147483646) :
    Mp w2 lo gl n W (i + 1) (fun r => if r = i then g else G r) (fun r => if r = i then A else M r) := by
  have hgl := h.lt
  have h' := h.grown h0
  have hs2 : w1.heap.size ≤ w2.heap.size := by have := hg2.size; simpa using this
  refine ⟨?_, h.gb, fun r hr => ?_, fun r s hr hs e => ?_, fun r hr => ?_, fun r hr => ?_, fun r hr => ?_⟩
  · obtain ⟨cur, h1, h2, h3⟩ := h'.lst
    refine ⟨cur.setIfInBounds i (.slice (some ⟨g, 0, none⟩) W W), ?_, by simpa using h2, fun r hr => ?_⟩
    · rw [hg2.block gl (by simpa using h'.lt) (by simp; omega)]
      exact heap_setCell_same w1 gl i _ _ _ h1
    · rw [Array.getElem?_setIfInBounds]
      by_cases e : i = r
      · subst e; simp [h2, hi]
      · rw [if_neg e, h3 r (by omega), if_neg (fun e2 => e e2.symm)]
  · by_cases e : r = i
    · simp only [if_pos e]; exact ⟨hlo, by omega, by omega⟩
    · simp only [if_neg e]
      have := h'.rng r (by omega)
      exact ⟨this.1, by omega, this.2.2⟩
  · by_cases e1 : r = i
    · by_cases e2 : s = i
      · omega
      · simp only [if_pos e1, if_neg e2] at e
        have := h.rng s (by omega); omega
    · by_cases e2 : s = i
      · simp only [if_neg e1, if_pos e2] at e
        have := h.rng r (by omega); omega
      · simp only [if_neg e1, if_neg e2] at e
        exact h.inj r s (by omega) (by omega) e
  · by_cases e : r = i
    · simp only [if_pos e]; exact hA
    · simp only [if_neg e]
      have hr2 := h.rng r (by omega)
      have hb1 := h'.row r (by omega)
      unfold Blk at hb1 ⊢
      rw [hg2.block _ (by simp; have := h'.rng r (by omega); omega) (by simp; omega), heap_setCell_other _ _ _ _ (by simpa using hr2.2.2)]
      exact hb1
  · by_cases e : r = i
    · simp only [if_pos e]; exact hl
    · simp only [if_neg e]; exact h.wid r (by omega)
  · by_cases e : r = i
    · simp only [if_pos e]; exact hb
    · simp only [if_neg e]; exact h.bd r (by omega)
theorem Mp.mx {w : World} {lo gl n W i : Nat} {G : Nat → Nat} {M : Nat → List Int} (h : Mp w lo gl n W i G M) (hi : i = n) : Mx w lo w.heap.size gl n W G M := by
  subst hi
  exact ⟨h.lst, ⟨h.gb, h.lt⟩, h.rng, h.inj, h.row, h.wid, h.bd, Nat.le_refl _⟩

end Go.Proofs.Ytnofegdlainjaac

namespace Go.Proofs.Ytnofegdlainjaac
open Go.RowKit

theorem Rd.take {w : World} {a : Option Addr} {n c : Nat} {xs : List Int} (h : Rd w a n c xs) {k : Nat} (hk : k ≤ n) : Rd w a k c (xs.take k) := by
  refine ⟨by have := h.len; simp; omega, by have := h.cap; omega, h.max, fun x hx => h.bd x (List.mem_of_mem_take hx), h.nil, fun x hx i hi => ?_⟩
  rw [h.cell x hx i (by omega)]
  congr 2
  simp [hi]

theorem Blk.of2 (w : World) (x y : Int) : Blk (w.alloc (.cells #[.int .u64 x, .int .u64 y] 23)) w.heap.size [x, y] := heap_alloc_new w _
theorem Blk.of3 (w : World) (x y z : Int) : Blk (w.alloc (.cells #[.int .u64 x, .int .u64 y, .int .u64 z] 23)) w.heap.size [x, y, z] := heap_alloc_new w _
theorem rd_of2 (w : World) {x y : Int} (hx : 0 ≤ x ∧ x ≤ 18446744073709551615) (hy : 0 ≤ y ∧ y ≤ 18446744073709551615) : Rd (w.alloc (.cells #[.int .u64 x, .int .u64 y] 23)) (some ⟨w.heap.size, 0, none⟩) 2 2 [x, y] :=
  (Blk.of2 w x y).whole 2 rfl (by unfold maxLen; omega) (by
    intro u hu
    simp only [List.mem_cons, List.not_mem_nil, or_false] at hu
    rcases hu with rfl | rfl <;> assumption)
theorem rd_of3 (w : World) {x y z : Int} (hx : 0 ≤ x ∧ x ≤ 18446744073709551615) (hy : 0 ≤ y ∧ y ≤ 18446744073709551615) (hz : 0 ≤ z ∧ z ≤ 18446744073709551615) : Rd (w.alloc (.cells #[.int .u64 x, .int .u64 y, .int .u64 z] 23)) (some ⟨w.heap.size, 0, none⟩) 3 3 [x, y, z] :=
  (Blk.of3 w x y z).whole 3 rfl (by unfold maxLen; omega) (by
    intro u hu
    simp only [List.mem_cons, List.not_mem_nil, or_false] at hu
    rcases hu with rfl | rfl | rfl <;> assumption)
theorem below_one (w : World) (ob : Obj) : Below w.heap.size w (w.alloc ob) := (Below.refl _ _).alloc (Nat.le_refl _) _
end Go.Proofs.Ytnofegdlainjaac
