/- strconv.Itoa, off the shelf. -/
import Derived.Test.YtljlioglpaogdacDoorShLay
import Derived.Test.YtljlioglpaogdacDoorToEqIC
import Derived.Shelf.Strconv.Itoa3
namespace Go.Proofs.YtljlioglpaogdacDoor
set_option linter.unusedVariables false
set_option maxRecDepth 100000
set_option maxHeartbeats 8000000
section
open Go.RowKit Go.Shelf
/-- The table that Itoa reads. -/
def Tabs (w : World) : Prop := Lib.TabIs Tryd.prog w "internal/strconv.uint64pow10" .u64 Lib.pow10Tab
theorem Tabs.below {w w' : World} (h : Tabs w) (hb : Below w.heap.size w w') : Tabs w' := by
  unfold Tabs Lib.TabIs World.var? at h ⊢
  cases hg : Tryd.prog.globalNamed "internal/strconv.uint64pow10" with
  | none => rw [hg] at h; cases h
  | some g =>
    rw [hg] at h
    simp only [Option.bind_some] at h ⊢
    by_cases hl : g < w.heap.size
    · rw [hb.block g hl]
      exact h
    · rw [Array.getElem?_eq_none (by omega)] at h
      cases h
/-- A number as text. -/
def itb (n : Int) : ByteArray := ⟨(Lib.itoa n).toArray⟩
end
end Go.Proofs.YtljlioglpaogdacDoor
