/- solve.rests. -/
import Derived.Test.YtljlioglpaogdabToMxC
import Derived.Test.YtljlioglpaogdabToTPairM
namespace Go.Proofs.Ytljlioglpaogdab
set_option linter.unusedVariables false
set_option maxRecDepth 100000
set_option maxHeartbeats 8000000
section
open Crm Go.RowKit
theorem infoU : (Try.prog.info? 28).map (fun i => (i.zero, i.size, i.bytes)) = some (some (.int .u64 0), 1, 8) := by kernel_rfl
theorem infoV : (Try.prog.info? 23).map (fun i => (i.zero, i.size, i.bytes)) = some (some (.slice none 0 0), 1, 24) := by kernel_rfl

/-- Of the list in row gl the first i rows are made. -/
structure Mp (w : World) (lo gl n W i : Nat) (G : Nat → Nat) (M : Nat → List Int) : Prop where
  lst : ∃ cur : Array Value, w.heap[gl]? = some (.cells cur 23 (0, 0)) ∧ cur.size = n ∧ ∀ r, r < i → cur[r]? = some (.slice (some ⟨G r, 0, none⟩) W W)
  gb : lo ≤ gl
  rng : ∀ r, r < i → lo ≤ G r ∧ G r < w.heap.size ∧ G r ≠ gl
  inj : ∀ r s, r < i → s < i → G r = G s → r = s
  row : ∀ r, r < i → Blk w (G r) (M r)
  wid : ∀ r, r < i → (M r).length = W
  bd : ∀ r, r < i → ∀ x ∈ M r, 0 ≤ x ∧ x ≤ 2147483646
theorem Mp.lt {w : World} {lo gl n W i : Nat} {G : Nat → Nat} {M : Nat → List Int} (h : Mp w lo gl n W i G M) : gl < w.heap.size := by
  obtain ⟨cur, h1, _⟩ := h.lst
  exact (Array.getElem?_eq_some_iff.1 h1).1
theorem Mp.frozen {w : World} {lo gl n W i : Nat} {G : Nat → Nat} {M : Nat → List Int} (h : Mp w lo gl n W i G M) (r : Nat) : w.frozen? ⟨gl, r, none⟩ = false := by
  obtain ⟨cur, h1, h2, h3⟩ := h.lst
  exact frozen_of_row w gl r _ _ h1
theorem Mp.grown {w : World} {lo gl n W i : Nat} {G : Nat → Nat} {M : Nat → List Int} (h : Mp w lo gl n W i G M) {w' : World} (hg : w.grownBy w' none) : Mp w' lo gl n W i G M := by
  refine ⟨?_, h.gb, fun r hr => ⟨(h.rng r hr).1, Nat.lt_of_lt_of_le (h.rng r hr).2.1 hg.size, (h.rng r hr).2.2⟩, h.inj, fun r hr => (h.row r hr).grown hg (by simp), h.wid, h.bd⟩
  obtain ⟨cur, h1, h2⟩ := h.lst
  exact ⟨cur, by rw [hg.block gl (Array.getElem?_eq_some_iff.1 h1).1 (by simp)]; exact h1, h2⟩
end
end Go.Proofs.Ytljlioglpaogdab
