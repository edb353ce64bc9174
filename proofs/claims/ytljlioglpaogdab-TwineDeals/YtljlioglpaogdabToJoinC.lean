/- croftkeep.short; short lists that a law writes out. · (*shamir.parties).join, shamir.Check. -/
import Derived.Test.YtljlioglpaogdabToRows2
import Derived.Test.YtljlioglpaogdabProg
import Derived.Test.YtljlioglpaogdabToTrimC
namespace Go.Proofs.Ytljlioglpaogdab
set_option linter.unusedVariables false
set_option maxRecDepth 100000
set_option maxHeartbeats 8000000
section
open Go.RowKit
theorem Rd.take {w : World} {a : Option Addr} {n c : Nat} {xs : List Int} (h : Rd w a n c xs) {k : Nat} (hk : k ≤ n) : Rd w a k c (xs.take k) := by
  refine ⟨by have := h.len; simp; omega, by have := h.cap; omega, h.max, fun x hx => h.bd x (List.mem_of_mem_take hx), h.nil, fun x hx i hi => ?_⟩
  rw [h.cell x hx i (by omega)]
  congr 2
  simp [hi]
end
section
open Crm Go.RowKit
/-- Row g holds the marks M. -/
def BlkB (w : World) (g : Nat) (M : List Bool) : Prop := w.heap[g]? = some (.cells (M.map Value.bool).toArray 116 (0, 0))
theorem BlkB.lt {w : World} {g : Nat} {M : List Bool} (h : BlkB w g M) : g < w.heap.size := (Array.getElem?_eq_some_iff.1 h).1
theorem BlkB.cell {w : World} {g : Nat} {M : List Bool} (h : BlkB w g M) {i : Nat} (hi : i < M.length) : w.cell? ⟨g, i, none⟩ = some (.bool (M.getD i false)) := by
  rw [cell_of_row w g i _ _ (0, 0) h]
  simp [List.getElem?_eq_getElem hi]
theorem BlkB.frozen {w : World} {g : Nat} {M : List Bool} (h : BlkB w g M) (i : Nat) : w.frozen? ⟨g, i, none⟩ = false := frozen_of_row w g i _ _ h
theorem BlkB.set {w : World} {g : Nat} {M : List Bool} (h : BlkB w g M) (i : Nat) (v : Bool) : BlkB (w.setCell ⟨g, i, none⟩ (.bool v)) g (M.set i v) := by
  have := heap_setCell_same w g i _ _ (.bool v) h
  unfold BlkB
  rw [this]
  simp [List.map_set]
theorem BlkB.below {w w' : World} {B g : Nat} {M : List Bool} (h : BlkB w g M) (hb : Below B w w') (hg : g < B) : BlkB w' g M := by
  unfold BlkB; rw [hb.block g hg]; exact h
end
end Go.Proofs.Ytljlioglpaogdab
