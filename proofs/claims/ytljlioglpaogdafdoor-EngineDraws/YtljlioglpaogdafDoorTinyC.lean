/- croftkeep.tiny. -/
import Derived.Test.YtljlioglpaogdafDoorCkDef
import Derived.Test.YtljlioglpaogdafDoorOutsM
namespace Go.Proofs.YtljlioglpaogdafDoor
set_option linter.unusedVariables false
set_option maxRecDepth 100000
set_option maxHeartbeats 8000000
section
open Crm Go.RowKit
def tnyG : List Gt := [⟨1, 1, 0, 0⟩, ⟨1, 2, 0, 0⟩, ⟨5, 0, 1, 0⟩, ⟨2, 0, 0, 7⟩, ⟨3, 2, 3, 0⟩]
theorem kTiny (w : World) :
    Calls Tryd.prog 7 #[] w fun e w' => ∃ a b, e = .returned (.agg #[.slice a 5 5, .slice b 1 1]) ∧ RdG w' a 5 5 tnyG ∧ RdI w' b 1 1 [4] ∧ Below w.heap.size w w' := by
  go_enter Tryd.func7, Tryd.ntmps7
  go_wp2
  have h1 : CBox (w.alloc (.cells #[.slice (some ⟨w.heap.size + 1, 0, none⟩) 5 5, .slice (some ⟨w.heap.size + 1 + 1, 0, none⟩) 1 1] 25)) w.heap.size (some ⟨w.heap.size + 1, 0, none⟩) 5 5 (some ⟨w.heap.size + 1 + 1, 0, none⟩) 1 1 := CBox.new w _ _ _ _ _ _
  have b1 : Below w.heap.size w (w.alloc (.cells #[.slice (some ⟨w.heap.size + 1, 0, none⟩) 5 5, .slice (some ⟨w.heap.size + 1 + 1, 0, none⟩) 1 1] 25)) := (Below.refl _ _).alloc (Nat.le_refl _) _
  have s1 : (w.alloc (.cells #[.slice (some ⟨w.heap.size + 1, 0, none⟩) 5 5, .slice (some ⟨w.heap.size + 1 + 1, 0, none⟩) 1 1] 25)).heap.size = w.heap.size + 1 := by simp
  generalize w.alloc (.cells #[.slice (some ⟨w.heap.size + 1, 0, none⟩) 5 5, .slice (some ⟨w.heap.size + 1 + 1, 0, none⟩) 1 1] 25) = w1 at *
  rw [← s1] at h1 ⊢
  have h2 : (w1.alloc (.cells (gcs tnyG).toArray 43)).heap[w1.heap.size]? = some (.cells (gcs tnyG).toArray 43 (0, 0)) := heap_alloc_new w1 _
  have b2 : Below w1.heap.size w1 (w1.alloc (.cells (gcs tnyG).toArray 43)) := (Below.refl _ _).alloc (Nat.le_refl _) _
  have s2 : (w1.alloc (.cells (gcs tnyG).toArray 43)).heap.size = w1.heap.size + 1 := by simp
  show bodyPost _ _ _ _ _ ((w1.alloc (.cells (gcs tnyG).toArray 43)).alloc (.cells #[.int .i64 4] 3))
  generalize w1.alloc (.cells (gcs tnyG).toArray 43) = w2 at *
  rw [← s2] at h1 ⊢
  have h3 : (w2.alloc (.cells #[.int .i64 4] 3)).heap[w2.heap.size]? = some (.cells #[.int .i64 4] 3 (0, 0)) := heap_alloc_new w2 _
  have b3 : Below w2.heap.size w2 (w2.alloc (.cells #[.int .i64 4] 3)) := (Below.refl _ _).alloc (Nat.le_refl _) _
  generalize w2.alloc (.cells #[.int .i64 4] 3) = w3 at *
  have h1' := (h1.below b2 h1.lt).below b3 (h1.below b2 h1.lt).lt
  have h2' : w3.heap[w1.heap.size]? = some (.cells (gcs tnyG).toArray 43 (0, 0)) := by rw [b3.block _ (by omega)]; exact h2
  obtain ⟨d0, d1⟩ := h1'.cells
  have hbw := b1.trans ((b2.trans (b3.mono b2.size)).mono b1.size)
  have HG : RdG w3 (some ⟨w1.heap.size, 0, none⟩) 5 5 tnyG := by
    refine ⟨rfl, Nat.le_refl _, by decide, by simp, fun i hi => ?_, fun x hx i hi => ?_⟩
    · have : i = 0 ∨ i = 1 ∨ i = 2 ∨ i = 3 ∨ i = 4 := by omega
      rcases this with rfl | rfl | rfl | rfl | rfl <;> decide
    · obtain rfl := Option.some.inj hx
      obtain ⟨e1, e2, e3, e4⟩ := gcs_get tnyG i hi
      simp only [Addr.add_lit, Nat.zero_add]
      refine ⟨?_, ?_, ?_, ?_⟩ <;> rw [cell_of_row w3 _ _ _ _ (0, 0) h2'] <;> simpa using by assumption
  have HO : RdI w3 (some ⟨w2.heap.size, 0, none⟩) 1 1 [4] := by
    refine ⟨rfl, Nat.le_refl _, by decide, by simp, by simp, fun x hx i hi => ?_⟩
    obtain rfl := Option.some.inj hx
    obtain rfl : i = 0 := by omega
    rw [Addr.add_lit, cell_of_row w3 _ _ _ _ (0, 0) h3]
    rfl
  refine bodyPost_ret (v := .agg #[.slice (some ⟨w1.heap.size, 0, none⟩) 5 5, .slice (some ⟨w2.heap.size, 0, none⟩) 1 1]) ?_ rfl ⟨_, _, rfl, HG, HO, hbw⟩
  simp [results, Tryd.results7, go_sem, d0, d1]
end
end Go.Proofs.YtljlioglpaogdafDoor
