/- Package-level variables that start-up lays: what the walks ask of them. -/
import Derived.Test.YtljlioglpaogdabDoorToTextC
import Derived.Test.YtljlioglpaogdabDoorLaidD
import Derived.Test.YtljlioglpaogdabDoorRows
import Derived.ProofKit
import Derived.LaidMore
import Derived.OpenShut
import Derived.Stop.LaidErr
import Derived.Lib.LaidTab
namespace Go.Proofs.YtljlioglpaogdabDoor
set_option linter.unusedVariables false
set_option maxRecDepth 100000
set_option maxHeartbeats 8000000
section
open Crm Go.ChangeAt Go.ChangeShapes Go.RowKit Go.WideShapes
/-- An array of texts that reads as the texts holds them, cell for cell. -/
theorem cells_of_strs {H : Type} {enc : TypeId × Value → H} {P : Program} {w : World} {base : Nat} {sp : Nat → Bool} {held : Bool} {fuel : Nat} {t e : TypeId} {n : Nat} {cs : List Value} {L : List ByteArray} {p : List MemPlace}
    (ht : P.underlying t = some (.array n e)) (he : P.underlying e = some .string) (hce : P.cellsOf e = 1) (hn : L.length = n)
    (h : DataW.trod enc P w base sp held fuel t cs = some (.agg (L.map fun s => .lit (.string s.data.toList)), p)) : ∀ i, i < n → cs[i]? = some (.string (L.getD i mt)) := by
  obtain ⟨xs, m, _, hx, _, hl, hel⟩ := DataW.trod_array ht h
  have hx1 : L.map (fun s => (DataW.lit (.string s.data.toList) : DataW H)) = xs.map (·.1) := by
    have := congrArg Prod.fst hx
    simpa using this
  intro i hi
  have h1 := hel i hi
  rw [hce, Nat.mul_one, List.getElem?_eq_getElem (show i < xs.length by omega)] at h1
  obtain ⟨s, e1, e2, _⟩ := DataW.trod_string he h1
  have h2 := congrArg (·[i]?) hx1
  simp only [List.getElem?_map] at h2
  rw [List.getElem?_eq_getElem (show i < L.length by omega), List.getElem?_eq_getElem (show i < xs.length by omega), e2] at h2
  simp only [Option.map_some, Option.some.injEq, DataW.lit.injEq, Lit.string.injEq] at h2
  have hs : L[i]'(by omega) = s := by
    apply ByteArray.ext
    exact Array.ext' h2
  have e3 := congrArg (·[0]?) e1
  simp only [List.getElem?_cons_zero] at e3
  rw [List.getD_eq_getElem?_getD, List.getElem?_eq_getElem (show i < L.length by omega), Option.getD_some, hs, ← e3]
  simp [List.getElem?_drop]
theorem gVerbs : Tryd.prog.globalNamed "sharecroft/croftref.verbs" = some 0 := by kernel_rfl
theorem tVerbs : (Tryd.prog.globals[0]?).map (·.type) = some 46 := by kernel_rfl
theorem cellsStr : Tryd.prog.cellsOf 9 = 1 := by kernel_rfl
/-- The verbs lie as the text lays them. -/
theorem vb_of_head {rest : List (String × DataW Unit)} {W : World} (h : laidMet Tryd.prog (("sharecroft/croftref.verbs", Rows.laid_sharecroft_croftref_verbs) :: rest) W) : Vb W := by
  obtain ⟨ps, ⟨g0, t0, cs0, f0, p0, q0, hg0, ht0, hv0, hd0, _, _⟩, _, _⟩ := h
  obtain rfl := Option.some.inj (gVerbs.symm.trans hg0)
  obtain rfl := Option.some.inj (tVerbs.symm.trans ht0)
  have hcs := cells_of_strs (L := vbs) Tryd.underlying46 Tryd.underlying9 cellsStr rfl hd0
  intro i hi
  have := World.var?_cell hg0 hv0 i
  rw [this, ← Array.getElem?_toList, hcs i hi]
  rfl
theorem gPow : Tryd.prog.globalNamed "internal/strconv.uint64pow10" = some 2 := by kernel_rfl
theorem tPow : (Tryd.prog.globals[2]?).map (·.type) = some 79 := by kernel_rfl
theorem cellsPow : Tryd.prog.cellsOf 79 = 20 := by kernel_rfl
theorem cellsPowU : Tryd.prog.cellsOf 40 = 1 := by kernel_rfl
theorem pow_of_head {rest : List (String × DataW Unit)} {W : World} (h : laidMet Tryd.prog (("internal/strconv.uint64pow10", Rows.laid_internal_strconv_uint64pow10) :: rest) W) : Tabs W :=
  Lib.tabIs_of_head (zs := Lib.pow10Tab) (k := .u64) gPow tPow Tryd.underlying79 Tryd.underlying40 cellsPowU cellsPow h
end
end Go.Proofs.YtljlioglpaogdabDoor
