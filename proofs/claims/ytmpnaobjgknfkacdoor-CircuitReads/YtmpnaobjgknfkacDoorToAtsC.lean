/- poly.placed. · croftref.In, croftref.Ats. -/
import Derived.Test.YtmpnaobjgknfkacDoorProg
import Derived.Test.YtmpnaobjgknfkacDoorToShares
namespace Go.Proofs.YtmpnaobjgknfkacDoor
open Go.RowKit Crm

/-- A call that tells whether p holds, and turns nothing that was there. -/
def Tells (p : Prop) (w : World) (e : Ending) (w' : World) : Prop := ∃ r : Bool, e = .returned (.bool r) ∧ (r = true ↔ p) ∧ Below w.heap.size w w'
theorem Tells.yes {p : Prop} {w w' : World} (h : p) (hb : Below w.heap.size w w') : Tells p w (.returned (.bool true)) w' := ⟨true, rfl, by simp [h], hb⟩
theorem Tells.no {p : Prop} {w w' : World} (h : ¬ p) (hb : Below w.heap.size w w') : Tells p w (.returned (.bool false)) w' := ⟨false, rfl, by simp [h], hb⟩

/-- The variable that a round makes for a share. -/
theorem cell_alloc0 (w : World) (x y : Value) (t : TypeId) : (w.alloc (.cells #[x, y] t)).cell? ⟨w.heap.size, 0, none⟩ = some x := by
  rw [cell_of_row _ _ _ #[x, y] t (0, 0) (heap_alloc_new w _)]; rfl
theorem cell_alloc1 (w : World) (x y : Value) (t : TypeId) : (w.alloc (.cells #[x, y] t)).cell? ⟨w.heap.size, 1, none⟩ = some y := by
  rw [cell_of_row _ _ _ #[x, y] t (0, 0) (heap_alloc_new w _)]; rfl

end Go.Proofs.YtmpnaobjgknfkacDoor

namespace Go.Proofs.YtmpnaobjgknfkacDoor
open Go.RowKit Crm

set_option maxRecDepth 100000 in
theorem rInY (n lo hi : Int) (w : World) (h1 : lo ≤ n) (h2 : n ≤ hi) :
    Calls Tryd.prog 25 #[.int .i64 n, .int .i64 lo, .int .i64 hi] w fun e w' => e = .returned (.bool true) ∧ w' = w := by
  go_enter Tryd.func25, Tryd.ntmps25
  go_wp2
  go_ret
  exact ⟨rfl, rfl⟩
set_option maxRecDepth 100000 in
theorem rInN (n lo hi : Int) (w : World) (h : n < lo ∨ hi < n) :
    Calls Tryd.prog 25 #[.int .i64 n, .int .i64 lo, .int .i64 hi] w fun e w' => e = .returned (.bool false) ∧ w' = w := by
  by_cases h1 : n < lo
  · clear h
    go_enter Tryd.func25, Tryd.ntmps25
    go_wp2
    go_ret
    exact ⟨rfl, rfl⟩
  · have h2 : hi < n := by omega
    have hd : decide (n ≤ hi) = false := by simp; omega
    clear h
    go_enter Tryd.func25, Tryd.ntmps25
    go_wp2
    go_ret
    exact ⟨rfl, rfl⟩

end Go.Proofs.YtmpnaobjgknfkacDoor
