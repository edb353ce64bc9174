/-
  No cell of these rows narrows 'for every input' (looked for: loops, veiled, ifaces, maps, wideKeys, modest, calm, conditions, laid).
  DERIVED. THE GIVEN ROWS OF THIS SEAT. 6 by the template 'for every input the law returns true; each argument reads behind the call as it read before'; 0 by the template 'total and deterministic' (their statements: YtljlioglpaogdadTotals.lean).
  GIVEN WITH THE SEED: the statements are not yours to turn. If you find one false, say at which input.
  Laid BY PROGRAM, IN A SANDBOX (cutbox-rows.mjs): the forced cells as the released guide's own fill.sh prints them over the translation e8dd9ef7a0ab441f… (all of the seat's roots in one cut). By AI agents, Wed Nov 11 2026. No macro, syntax, notation, axiom, sorry.
-/
import Derived.Test.YtljlioglpaogdadChecked
import GoSem.Claim
import GoSem.ClaimJoined
import GoSem.ClaimMapViews
import Derived.JoinedTies
import Derived.KernelRfl
namespace Go.Proofs.Ytljlioglpaogdad
/- THE CELL 'sum', in the pinned program and in every row, IS THE sha256 OF THE DUMP (.gsa) THAT YtljlioglpaogdadProg.lean LOADS. Nothing in Lean hashes anything: it is a label: what it is worth is what the hold of that sum in a sandbox is worth. -/
noncomputable def Try.pinned : Pinned := { name := "ytljlioglpaogdad", sum := "e8dd9ef7a0ab441f1f1544ea849f542499edb6557bbf34334f22a67bd7cf1a9d", checked := Try.checked }
namespace Rows
def none {H : Type} : Left H := { results := [], args := [] }

/-- 'croftkeep.PolyRest': WHATEVER THE INPUT: true; the input reads as it did. -/
def polyRestSpec : ChangeSpec := { name := "polyRest", fn := fun _ => fun
  | [d1, d2, d3] => { results := [.lit (.bool true)], args := [d1, d2, d3] }
  | _ => none }
def polyRestRow : OpenClaim := { program := "ytljlioglpaogdad", sum := "e8dd9ef7a0ab441f1f1544ea849f542499edb6557bbf34334f22a67bd7cf1a9d", func := "sharecroft/croftkeep.PolyRest", spec := "polyRest", apart := false }
def PolyRestSaid : Prop := polyRestRow.holds Try.pinned (OpenSpec.ofChange polyRestSpec)

/-- ITS FALSE NEIGHBOUR: 'it returns false'. Refute it at one input. -/
def polyRestWrong : ChangeSpec := { name := "polyRest", fn := fun _ => fun
  | [d1, d2, d3] => { results := [.lit (.bool false)], args := [d1, d2, d3] }
  | _ => none }
def PolyRestWrongFalsely : Prop := polyRestRow.holds Try.pinned (OpenSpec.ofChange polyRestWrong)

/-- 'croftkeep.PolyPoints': WHATEVER THE INPUT: true; the input reads as it did. -/
def polyPointsSpec : ChangeSpec := { name := "polyPoints", fn := fun _ => fun
  | [d1, d2] => { results := [.lit (.bool true)], args := [d1, d2] }
  | _ => none }
def polyPointsRow : OpenClaim := { program := "ytljlioglpaogdad", sum := "e8dd9ef7a0ab441f1f1544ea849f542499edb6557bbf34334f22a67bd7cf1a9d", func := "sharecroft/croftkeep.PolyPoints", spec := "polyPoints", apart := false }
def PolyPointsSaid : Prop := polyPointsRow.holds Try.pinned (OpenSpec.ofChange polyPointsSpec)

/-- ITS FALSE NEIGHBOUR: 'it returns false'. Refute it at one input. -/
def polyPointsWrong : ChangeSpec := { name := "polyPoints", fn := fun _ => fun
  | [d1, d2] => { results := [.lit (.bool false)], args := [d1, d2] }
  | _ => none }
def PolyPointsWrongFalsely : Prop := polyPointsRow.holds Try.pinned (OpenSpec.ofChange polyPointsWrong)

/-- 'croftkeep.SolveFinds': WHATEVER THE INPUT: true; the input reads as it did. -/
def solveFindsSpec : ChangeSpec := { name := "solveFinds", fn := fun _ => fun
  | [d1, d2, d3, d4] => { results := [.lit (.bool true)], args := [d1, d2, d3, d4] }
  | _ => none }
def solveFindsRow : OpenClaim := { program := "ytljlioglpaogdad", sum := "e8dd9ef7a0ab441f1f1544ea849f542499edb6557bbf34334f22a67bd7cf1a9d", func := "sharecroft/croftkeep.SolveFinds", spec := "solveFinds", apart := false }
def SolveFindsSaid : Prop := solveFindsRow.holds Try.pinned (OpenSpec.ofChange solveFindsSpec)

/-- ITS FALSE NEIGHBOUR: 'it returns false'. Refute it at one input. -/
def solveFindsWrong : ChangeSpec := { name := "solveFinds", fn := fun _ => fun
  | [d1, d2, d3, d4] => { results := [.lit (.bool false)], args := [d1, d2, d3, d4] }
  | _ => none }
def SolveFindsWrongFalsely : Prop := solveFindsRow.holds Try.pinned (OpenSpec.ofChange solveFindsWrong)

/-- 'croftkeep.ShamirAny': WHATEVER THE INPUT: true; the input reads as it did. -/
def shamirAnySpec : ChangeSpec := { name := "shamirAny", fn := fun _ => fun
  | [d1, d2, d3, d4, d5, d6] => { results := [.lit (.bool true)], args := [d1, d2, d3, d4, d5, d6] }
  | _ => none }
def shamirAnyRow : OpenClaim := { program := "ytljlioglpaogdad", sum := "e8dd9ef7a0ab441f1f1544ea849f542499edb6557bbf34334f22a67bd7cf1a9d", func := "sharecroft/croftkeep.ShamirAny", spec := "shamirAny", apart := false }
def ShamirAnySaid : Prop := shamirAnyRow.holds Try.pinned (OpenSpec.ofChange shamirAnySpec)

/-- ITS FALSE NEIGHBOUR: 'it returns false'. Refute it at one input. -/
def shamirAnyWrong : ChangeSpec := { name := "shamirAny", fn := fun _ => fun
  | [d1, d2, d3, d4, d5, d6] => { results := [.lit (.bool false)], args := [d1, d2, d3, d4, d5, d6] }
  | _ => none }
def ShamirAnyWrongFalsely : Prop := shamirAnyRow.holds Try.pinned (OpenSpec.ofChange shamirAnyWrong)

/-- 'croftkeep.ShamirTells': WHATEVER THE INPUT: true; the input reads as it did. -/
def shamirTellsSpec : ChangeSpec := { name := "shamirTells", fn := fun _ => fun
  | [d1, d2, d3, d4, d5, d6] => { results := [.lit (.bool true)], args := [d1, d2, d3, d4, d5, d6] }
  | _ => none }
def shamirTellsRow : OpenClaim := { program := "ytljlioglpaogdad", sum := "e8dd9ef7a0ab441f1f1544ea849f542499edb6557bbf34334f22a67bd7cf1a9d", func := "sharecroft/croftkeep.ShamirTells", spec := "shamirTells", apart := false }
def ShamirTellsSaid : Prop := shamirTellsRow.holds Try.pinned (OpenSpec.ofChange shamirTellsSpec)

/-- ITS FALSE NEIGHBOUR: 'it returns false'. Refute it at one input. -/
def shamirTellsWrong : ChangeSpec := { name := "shamirTells", fn := fun _ => fun
  | [d1, d2, d3, d4, d5, d6] => { results := [.lit (.bool false)], args := [d1, d2, d3, d4, d5, d6] }
  | _ => none }
def ShamirTellsWrongFalsely : Prop := shamirTellsRow.holds Try.pinned (OpenSpec.ofChange shamirTellsWrong)

/-- 'croftkeep.ShamirHides': WHATEVER THE INPUT: true; the input reads as it did. -/
def shamirHidesSpec : ChangeSpec := { name := "shamirHides", fn := fun _ => fun
  | [d1, d2, d3, d4, d5, d6] => { results := [.lit (.bool true)], args := [d1, d2, d3, d4, d5, d6] }
  | _ => none }
def shamirHidesRow : OpenClaim := { program := "ytljlioglpaogdad", sum := "e8dd9ef7a0ab441f1f1544ea849f542499edb6557bbf34334f22a67bd7cf1a9d", func := "sharecroft/croftkeep.ShamirHides", spec := "shamirHides", apart := false }
def ShamirHidesSaid : Prop := shamirHidesRow.holds Try.pinned (OpenSpec.ofChange shamirHidesSpec)

/-- ITS FALSE NEIGHBOUR: 'it returns false'. Refute it at one input. -/
def shamirHidesWrong : ChangeSpec := { name := "shamirHides", fn := fun _ => fun
  | [d1, d2, d3, d4, d5, d6] => { results := [.lit (.bool false)], args := [d1, d2, d3, d4, d5, d6] }
  | _ => none }
def ShamirHidesWrongFalsely : Prop := shamirHidesRow.holds Try.pinned (OpenSpec.ofChange shamirHidesWrong)

/- THE SECOND FORM. 'bulk': how many values and letters a reading holds, each counted each time it is reached (what is shared counts as often as it is met; a slice's spare places count too). A statement '..UptoSaid' is the law's where the arguments, and the package variables that the reading takes, are together of bulk at most 1048576: NARROWER than '..Said'. Prove '..Said' where nothing that the law and all that it calls make is longer than what came in: it says more and counts as full. Else prove '..UptoSaid'. A law counts once. -/
mutual
def uptoBulk {H : Type} : DataW H → Nat
  | .lit (.string bytes) => bytes.length + 1
  | .lit _ => 1
  | .nil => 1
  | .ptr d => uptoBulk d + 1
  | .slice elems spare => uptoBulkAll elems + uptoBulkAll spare + 1
  | .agg parts => uptoBulkAll parts + 1
  | .iface _ d => uptoBulk d + 1
  | .map entries => uptoBulkEntries entries + 1
  | .held _ => 1
def uptoBulkAll {H : Type} : List (DataW H) → Nat
  | [] => 0
  | d :: r => uptoBulk d + uptoBulkAll r
def uptoBulkEntries {H : Type} : List (Lit × DataW H) → Nat
  | [] => 0
  | x :: r => uptoBulkEntry x + uptoBulkEntries r
def uptoBulkEntry {H : Type} : Lit × DataW H → Nat
  | (.string bytes, d) => bytes.length + uptoBulk d + 1
  | (_, d) => uptoBulk d + 1
 end
def uptoSmall : (H : Type) → List (DataW H) → Bool := fun _ ds => decide (uptoBulkAll ds ≤ 1048576)
def OpenSpec.upto (s : _root_.Go.ChangeSpec) : _root_.Go.OpenSpec := { _root_.Go.OpenSpec.ofChange s with cond := some uptoSmall }

/-- 'croftkeep.PolyRest', WHERE WHAT IT READS IS OF BULK AT MOST 1048576: true; the input reads as it did. -/
def polyRestUptoRow : OpenClaim := { program := "ytljlioglpaogdad", sum := "e8dd9ef7a0ab441f1f1544ea849f542499edb6557bbf34334f22a67bd7cf1a9d", func := "sharecroft/croftkeep.PolyRest", spec := "polyRest", apart := false, narrowed := true }
def PolyRestUptoSaid : Prop := polyRestUptoRow.holds Try.pinned (OpenSpec.upto polyRestSpec)

/-- 'croftkeep.PolyPoints', WHERE WHAT IT READS IS OF BULK AT MOST 1048576: true; the input reads as it did. -/
def polyPointsUptoRow : OpenClaim := { program := "ytljlioglpaogdad", sum := "e8dd9ef7a0ab441f1f1544ea849f542499edb6557bbf34334f22a67bd7cf1a9d", func := "sharecroft/croftkeep.PolyPoints", spec := "polyPoints", apart := false, narrowed := true }
def PolyPointsUptoSaid : Prop := polyPointsUptoRow.holds Try.pinned (OpenSpec.upto polyPointsSpec)

/-- 'croftkeep.SolveFinds', WHERE WHAT IT READS IS OF BULK AT MOST 1048576: true; the input reads as it did. -/
def solveFindsUptoRow : OpenClaim := { program := "ytljlioglpaogdad", sum := "e8dd9ef7a0ab441f1f1544ea849f542499edb6557bbf34334f22a67bd7cf1a9d", func := "sharecroft/croftkeep.SolveFinds", spec := "solveFinds", apart := false, narrowed := true }
def SolveFindsUptoSaid : Prop := solveFindsUptoRow.holds Try.pinned (OpenSpec.upto solveFindsSpec)

/-- 'croftkeep.ShamirAny', WHERE WHAT IT READS IS OF BULK AT MOST 1048576: true; the input reads as it did. -/
def shamirAnyUptoRow : OpenClaim := { program := "ytljlioglpaogdad", sum := "e8dd9ef7a0ab441f1f1544ea849f542499edb6557bbf34334f22a67bd7cf1a9d", func := "sharecroft/croftkeep.ShamirAny", spec := "shamirAny", apart := false, narrowed := true }
def ShamirAnyUptoSaid : Prop := shamirAnyUptoRow.holds Try.pinned (OpenSpec.upto shamirAnySpec)

/-- 'croftkeep.ShamirTells', WHERE WHAT IT READS IS OF BULK AT MOST 1048576: true; the input reads as it did. -/
def shamirTellsUptoRow : OpenClaim := { program := "ytljlioglpaogdad", sum := "e8dd9ef7a0ab441f1f1544ea849f542499edb6557bbf34334f22a67bd7cf1a9d", func := "sharecroft/croftkeep.ShamirTells", spec := "shamirTells", apart := false, narrowed := true }
def ShamirTellsUptoSaid : Prop := shamirTellsUptoRow.holds Try.pinned (OpenSpec.upto shamirTellsSpec)

/-- 'croftkeep.ShamirHides', WHERE WHAT IT READS IS OF BULK AT MOST 1048576: true; the input reads as it did. -/
def shamirHidesUptoRow : OpenClaim := { program := "ytljlioglpaogdad", sum := "e8dd9ef7a0ab441f1f1544ea849f542499edb6557bbf34334f22a67bd7cf1a9d", func := "sharecroft/croftkeep.ShamirHides", spec := "shamirHides", apart := false, narrowed := true }
def ShamirHidesUptoSaid : Prop := shamirHidesUptoRow.holds Try.pinned (OpenSpec.upto shamirHidesSpec)

end Rows
end Go.Proofs.Ytljlioglpaogdad
