/- croftref.Circuit. · croftref.Norm, Add, Mul: the same rests, by other roads. -/
import Derived.Test.YtmpnaobjgknfkafDoorToGatesR
import Derived.Test.YtmpnaobjgknfkafDoorToOpenG
import Derived.Test.YtmpnaobjgknfkafDoorToOwnC
import Derived.Test.YtmpnaobjgknfkafDoorToValC
import Derived.BigQuiet
import Derived.Deep.RegionWith
import Derived.Deep.DeepCutAuto
import Derived.Test.YtmpnaobjgknfkafDoorProg
import Derived.Test.YtmpnaobjgknfkafDoorToMath
import Derived.WalkKit
import Derived.WalkSpells
import Derived.WalkLawsBesides
namespace Go.Proofs.YtmpnaobjgknfkafDoor
open Go.RowKit Crm

/-- The cells of a gate that is boxed. -/
theorem gate_box (w : World) (k x y z : Int) (E : TypeId) : (w.alloc (.cells #[.int .i64 k, .int .i64 x, .int .i64 y, .int .u64 z] E)).cell? ⟨w.heap.size, 0, none⟩ = some (.int .i64 k) ∧ (w.alloc (.cells #[.int .i64 k, .int .i64 x, .int .i64 y, .int .u64 z] E)).cell? ⟨w.heap.size, 1, none⟩ = some (.int .i64 x) ∧ (w.alloc (.cells #[.int .i64 k, .int .i64 x, .int .i64 y, .int .u64 z] E)).cell? ⟨w.heap.size, 2, none⟩ = some (.int .i64 y) ∧ (w.alloc (.cells #[.int .i64 k, .int .i64 x, .int .i64 y, .int .u64 z] E)).cell? ⟨w.heap.size, 3, none⟩ = some (.int .u64 z) := by
  have h := heap_alloc_new w (.cells #[.int .i64 k, .int .i64 x, .int .i64 y, .int .u64 z] E)
  refine ⟨?_, ?_, ?_, ?_⟩ <;> (rw [cell_of_row _ _ _ _ E (0, 0) h]; rfl)
/-- A circuit that is boxed. -/
def CBox (w : World) (g : Nat) (ag : Option Addr) (n cg : Nat) (ao : Option Addr) (m co : Nat) : Prop := w.heap[g]? = some (.cells #[.slice ag n cg, .slice ao m co] 25 (0, 0))
theorem CBox.lt {w : World} {g : Nat} {ag : Option Addr} {n cg : Nat} {ao : Option Addr} {m co : Nat} (h : CBox w g ag n cg ao m co) : g < w.heap.size := (Array.getElem?_eq_some_iff.1 h).1
theorem CBox.cells {w : World} {g : Nat} {ag : Option Addr} {n cg : Nat} {ao : Option Addr} {m co : Nat} (h : CBox w g ag n cg ao m co) : w.cell? ⟨g, 0, none⟩ = some (.slice ag n cg) ∧ w.cell? ⟨g, 1, none⟩ = some (.slice ao m co) := by
  unfold CBox at h
  rw [cell_of_row w g 0 _ _ (0, 0) h, cell_of_row w g 1 _ _ (0, 0) h]
  exact ⟨rfl, rfl⟩
theorem CBox.below {w w' : World} {B g : Nat} {ag : Option Addr} {n cg : Nat} {ao : Option Addr} {m co : Nat} (h : CBox w g ag n cg ao m co) (hb : Below B w w') (hg : g < B) : CBox w' g ag n cg ao m co := by
  unfold CBox; rw [hb.block g hg]; exact h
theorem CBox.new (w : World) (ag : Option Addr) (n cg : Nat) (ao : Option Addr) (m co : Nat) : CBox (w.alloc (.cells #[.slice ag n cg, .slice ao m co] 25)) w.heap.size ag n cg ao m co := heap_alloc_new w _

end Go.Proofs.YtmpnaobjgknfkafDoor

namespace Go.Proofs.YtmpnaobjgknfkafDoor
open Go.RowKit Crm

set_option maxRecDepth 100000 in
theorem rNorm (a : Int) (w : World) (h0 : 0 ≤ a) (h1 : a ≤ 18446744073709551615) :
    Calls Tryd.prog 26 #[.int .u64 a] w fun e w' => e = .returned (.int .u64 (nm a)) ∧ w' = w := by
  have HN : Hid (nm a = a - a / 2147483647 * 2147483647) := by unfold nm Hid; omega
  go_enter Tryd.func26, Tryd.ntmps26
  go_wp2
  go_ret
  rw [HN.out]
  exact ⟨rfl, rfl⟩

theorem pred_pow (b : Int) {k : Nat} (hk : 0 < k) (x : Int) (h : x = b / 2 ^ k) : x = b / 2 ^ ((k - 1) + 1) := by
  rw [h, Nat.sub_add_cancel hk]

end Go.Proofs.YtmpnaobjgknfkafDoor
