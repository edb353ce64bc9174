/- circuit.shapes lie as the text lays them. -/
import Derived.Test.YtljlioglpaogdabDoorToShpM
import Derived.Test.YtljlioglpaogdabDoorRows
import Derived.ProofKit
import Derived.LaidMore
import Derived.OpenShut
import Derived.Stop.LaidErr
import Derived.Lib.LaidTab
namespace Go.Proofs.YtljlioglpaogdabDoor
set_option linter.unusedVariables false
set_option maxRecDepth 100000
set_option maxHeartbeats 8000000
section
open Crm Go.ChangeAt Go.ChangeShapes Go.RowKit Go.WideShapes
theorem gShp : Tryd.prog.globalNamed "sharecroft/circuit.shapes" = some 1 := by kernel_rfl
theorem tShp : (Tryd.prog.globals[1]?).map (·.type) = some 66 := by kernel_rfl
theorem cellsShp : Tryd.prog.cellsOf 65 = 4 := by kernel_rfl
theorem cellsShs : Tryd.prog.cellsOf 9 = 1 := by kernel_rfl
theorem cellsShb : Tryd.prog.cellsOf 4 = 1 := by kernel_rfl
def shD {H : Type} (i : Nat) : DataW H := .agg [.lit (.string (shw i).data.toList), .lit (.bool (shA i)), .lit (.bool (shB i)), .lit (.bool (shN i))]
theorem shD_all {H : Type} : (Rows.laid_sharecroft_circuit_shapes : DataW H) = .agg ((List.range 7).map shD) := rfl
/-- A shape that reads as the datum. -/
theorem cells_of_shape {H : Type} {enc : TypeId × Value → H} {w : World} {base : Nat} {sp : Nat → Bool} {held : Bool} {fuel : Nat} {cs : List Value} {p : List MemPlace} {i : Nat}
    (h : DataW.trod enc Tryd.prog w base sp held fuel 65 cs = some (shD i, p)) : cs = [.string (shw i), .bool (shA i), .bool (shB i), .bool (shN i)] := by
  obtain ⟨xs, k, _, hx, hl, hxl, hf⟩ := DataW.trod_struct Tryd.underlying65 h
  rw [cellsShp] at hl
  match xs, hxl, cs, hl with
  | [y0, y1, y2, y3], _, [v0, v1, v2, v3], _ =>
    have g0 : DataW.trod enc Tryd.prog w base sp held k 9 [v0] = some y0 := by simpa [cellsShs] using hf 0 _ rfl
    have g1 : DataW.trod enc Tryd.prog w base sp held k 4 [v1] = some y1 := by simpa [cellsShb] using hf 1 _ rfl
    have g2 : DataW.trod enc Tryd.prog w base sp held k 4 [v2] = some y2 := by simpa [cellsShb] using hf 2 _ rfl
    have g3 : DataW.trod enc Tryd.prog w base sp held k 4 [v3] = some y3 := by simpa [cellsShb] using hf 3 _ rfl
    obtain ⟨s, e0, f0, _⟩ := DataW.trod_string Tryd.underlying9 g0
    obtain ⟨b1, e1, f1⟩ := DataW.trod_bool Tryd.underlying4 g1
    obtain ⟨b2, e2, f2⟩ := DataW.trod_bool Tryd.underlying4 g2
    obtain ⟨b3, e3, f3⟩ := DataW.trod_bool Tryd.underlying4 g3
    subst f0 f1 f2 f3
    have hx1 := congrArg Prod.fst hx
    simp only [shD, List.map_cons, List.map_nil, DataW.agg.injEq, List.cons.injEq, DataW.lit.injEq, Lit.string.injEq, Lit.bool.injEq, and_true] at hx1
    obtain ⟨q0, q1, q2, q3⟩ := hx1
    have hs : shw i = s := by
      apply ByteArray.ext
      exact Array.ext' q0
    simp only [List.cons.injEq, and_true] at e0 e1 e2 e3
    rw [e0, e1, e2, e3, hs, q1, q2, q3]
theorem shp_of_head {rest : List (String × DataW Unit)} {W : World} (h : laidMet Tryd.prog (("sharecroft/circuit.shapes", Rows.laid_sharecroft_circuit_shapes) :: rest) W) : Shp W := by
  obtain ⟨ps, ⟨g0, t0, cs0, f0, p0, q0, hg0, ht0, hv0, hd0, _, _⟩, _, _⟩ := h
  obtain rfl := Option.some.inj (gShp.symm.trans hg0)
  obtain rfl := Option.some.inj (tShp.symm.trans ht0)
  obtain ⟨xs, m, _, hx, hl, hxl, hel⟩ := DataW.trod_array Tryd.underlying66 hd0
  have hx1 := congrArg Prod.fst hx
  rw [shD_all] at hx1
  simp only [DataW.agg.injEq] at hx1
  intro i hi
  have h1 := hel i hi
  have hxi : xs[i]? = some (shD i, (xs[i]'(by omega)).2) := by
    rw [List.getElem?_eq_getElem (show i < xs.length by omega)]
    have h2 := congrArg (·[i]?) hx1
    simp only [List.getElem?_map] at h2
    rw [List.getElem?_eq_getElem (show i < xs.length by omega), List.getElem?_range hi] at h2
    simp only [Option.map_some, Option.some.injEq] at h2
    rw [h2]
  rw [hxi, cellsShp] at h1
  have hc := cells_of_shape h1
  have hcell : ∀ j, j < 4 → W.cell? ⟨1, i * 4 + j, none⟩ = ([.string (shw i), .bool (shA i), .bool (shB i), .bool (shN i)] : List Value)[j]? := fun j hj => by
    rw [World.var?_cell hg0 hv0 (i * 4 + j), ← Array.getElem?_toList, ← hc, List.getElem?_take_of_lt hj, List.getElem?_drop]
  exact ⟨hcell 0 (by omega), hcell 1 (by omega), hcell 2 (by omega), hcell 3 (by omega)⟩
end
end Go.Proofs.YtljlioglpaogdabDoor
