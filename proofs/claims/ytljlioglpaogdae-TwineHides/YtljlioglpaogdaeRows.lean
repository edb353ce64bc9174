/-
  No cell of these rows narrows 'for every input' (looked for: loops, veiled, ifaces, maps, wideKeys, modest, calm, conditions, laid).
  DERIVED. THE GIVEN ROWS OF THIS SEAT. 6 by the template 'for every input the law returns true; each argument reads behind the call as it read before'; 0 by the template 'total and deterministic' (their statements: YtljlioglpaogdaeTotals.lean).
  GIVEN WITH THE SEED: the statements are not yours to turn. If you find one false, say at which input.
  Laid BY PROGRAM, IN A SANDBOX (cutbox-rows.mjs): the forced cells as the released guide's own fill.sh prints them over the translation 134befae1638a089… (all of the seat's roots in one cut). By AI agents, Wed Nov 11 2026. No macro, syntax, notation, axiom, sorry.
-/
import Derived.Test.YtljlioglpaogdaeChecked
import GoSem.Claim
import GoSem.ClaimJoined
import GoSem.ClaimMapViews
import Derived.JoinedTies
import Derived.KernelRfl
namespace Go.Proofs.Ytljlioglpaogdae
/- THE CELL 'sum', in the pinned program and in every row, IS THE sha256 OF THE DUMP (.gsa) THAT YtljlioglpaogdaeProg.lean LOADS. Nothing in Lean hashes anything: it is a label: what it is worth is what the hold of that sum in a sandbox is worth. -/
noncomputable def Try.pinned : Pinned := { name := "ytljlioglpaogdae", sum := "134befae1638a089dc3f38966eda9e23461b4df10c45a4170679996b88d2e5ae", checked := Try.checked }
namespace Rows
def none {H : Type} : Left H := { results := [], args := [] }

/-- 'croftkeep.DecodeMends': WHATEVER THE INPUT: true; the input reads as it did. -/
def decodeMendsSpec : ChangeSpec := { name := "decodeMends", fn := fun _ => fun
  | [d1, d2, d3, d4, d5, d6] => { results := [.lit (.bool true)], args := [d1, d2, d3, d4, d5, d6] }
  | _ => none }
def decodeMendsRow : OpenClaim := { program := "ytljlioglpaogdae", sum := "134befae1638a089dc3f38966eda9e23461b4df10c45a4170679996b88d2e5ae", func := "sharecroft/croftkeep.DecodeMends", spec := "decodeMends", recurses := true, apart := false }
def DecodeMendsSaid : Prop := decodeMendsRow.holds Try.pinned (OpenSpec.ofChange decodeMendsSpec)

/-- ITS FALSE NEIGHBOUR: 'it returns false'. Refute it at one input. -/
def decodeMendsWrong : ChangeSpec := { name := "decodeMends", fn := fun _ => fun
  | [d1, d2, d3, d4, d5, d6] => { results := [.lit (.bool false)], args := [d1, d2, d3, d4, d5, d6] }
  | _ => none }
def DecodeMendsWrongFalsely : Prop := decodeMendsRow.holds Try.pinned (OpenSpec.ofChange decodeMendsWrong)

/-- 'croftkeep.TwineMeets': WHATEVER THE INPUT: true; the input reads as it did. -/
def twineMeetsSpec : ChangeSpec := { name := "twineMeets", fn := fun _ => fun
  | [d1, d2, d3, d4, d5] => { results := [.lit (.bool true)], args := [d1, d2, d3, d4, d5] }
  | _ => none }
def twineMeetsRow : OpenClaim := { program := "ytljlioglpaogdae", sum := "134befae1638a089dc3f38966eda9e23461b4df10c45a4170679996b88d2e5ae", func := "sharecroft/croftkeep.TwineMeets", spec := "twineMeets", apart := false }
def TwineMeetsSaid : Prop := twineMeetsRow.holds Try.pinned (OpenSpec.ofChange twineMeetsSpec)

/-- ITS FALSE NEIGHBOUR: 'it returns false'. Refute it at one input. -/
def twineMeetsWrong : ChangeSpec := { name := "twineMeets", fn := fun _ => fun
  | [d1, d2, d3, d4, d5] => { results := [.lit (.bool false)], args := [d1, d2, d3, d4, d5] }
  | _ => none }
def TwineMeetsWrongFalsely : Prop := twineMeetsRow.holds Try.pinned (OpenSpec.ofChange twineMeetsWrong)

/-- 'croftkeep.TwineTells': WHATEVER THE INPUT: true; the input reads as it did. -/
def twineTellsSpec : ChangeSpec := { name := "twineTells", fn := fun _ => fun
  | [d1, d2, d3, d4, d5, d6, d7] => { results := [.lit (.bool true)], args := [d1, d2, d3, d4, d5, d6, d7] }
  | _ => none }
def twineTellsRow : OpenClaim := { program := "ytljlioglpaogdae", sum := "134befae1638a089dc3f38966eda9e23461b4df10c45a4170679996b88d2e5ae", func := "sharecroft/croftkeep.TwineTells", spec := "twineTells", apart := false }
def TwineTellsSaid : Prop := twineTellsRow.holds Try.pinned (OpenSpec.ofChange twineTellsSpec)

/-- ITS FALSE NEIGHBOUR: 'it returns false'. Refute it at one input. -/
def twineTellsWrong : ChangeSpec := { name := "twineTells", fn := fun _ => fun
  | [d1, d2, d3, d4, d5, d6, d7] => { results := [.lit (.bool false)], args := [d1, d2, d3, d4, d5, d6, d7] }
  | _ => none }
def TwineTellsWrongFalsely : Prop := twineTellsRow.holds Try.pinned (OpenSpec.ofChange twineTellsWrong)

/-- 'croftkeep.TwineHides': WHATEVER THE INPUT: true; the input reads as it did. -/
def twineHidesSpec : ChangeSpec := { name := "twineHides", fn := fun _ => fun
  | [d1, d2, d3, d4, d5, d6] => { results := [.lit (.bool true)], args := [d1, d2, d3, d4, d5, d6] }
  | _ => none }
def twineHidesRow : OpenClaim := { program := "ytljlioglpaogdae", sum := "134befae1638a089dc3f38966eda9e23461b4df10c45a4170679996b88d2e5ae", func := "sharecroft/croftkeep.TwineHides", spec := "twineHides", apart := false }
def TwineHidesSaid : Prop := twineHidesRow.holds Try.pinned (OpenSpec.ofChange twineHidesSpec)

/-- ITS FALSE NEIGHBOUR: 'it returns false'. Refute it at one input. -/
def twineHidesWrong : ChangeSpec := { name := "twineHides", fn := fun _ => fun
  | [d1, d2, d3, d4, d5, d6] => { results := [.lit (.bool false)], args := [d1, d2, d3, d4, d5, d6] }
  | _ => none }
def TwineHidesWrongFalsely : Prop := twineHidesRow.holds Try.pinned (OpenSpec.ofChange twineHidesWrong)

/-- 'croftkeep.GateLinear': WHATEVER THE INPUT: true; the input reads as it did. -/
def gateLinearSpec : ChangeSpec := { name := "gateLinear", fn := fun _ => fun
  | [d1, d2, d3, d4, d5, d6, d7] => { results := [.lit (.bool true)], args := [d1, d2, d3, d4, d5, d6, d7] }
  | _ => none }
def gateLinearRow : OpenClaim := { program := "ytljlioglpaogdae", sum := "134befae1638a089dc3f38966eda9e23461b4df10c45a4170679996b88d2e5ae", func := "sharecroft/croftkeep.GateLinear", spec := "gateLinear", unfollowed := true, recurses := true, apart := false }
def GateLinearSaid : Prop := gateLinearRow.holds Try.pinned (OpenSpec.ofChange gateLinearSpec)

/-- ITS FALSE NEIGHBOUR: 'it returns false'. Refute it at one input. -/
def gateLinearWrong : ChangeSpec := { name := "gateLinear", fn := fun _ => fun
  | [d1, d2, d3, d4, d5, d6, d7] => { results := [.lit (.bool false)], args := [d1, d2, d3, d4, d5, d6, d7] }
  | _ => none }
def GateLinearWrongFalsely : Prop := gateLinearRow.holds Try.pinned (OpenSpec.ofChange gateLinearWrong)

/-- 'croftkeep.GateTimes': WHATEVER THE INPUT: true; the input reads as it did. -/
def gateTimesSpec : ChangeSpec := { name := "gateTimes", fn := fun _ => fun
  | [d1, d2, d3, d4, d5, d6, d7] => { results := [.lit (.bool true)], args := [d1, d2, d3, d4, d5, d6, d7] }
  | _ => none }
def gateTimesRow : OpenClaim := { program := "ytljlioglpaogdae", sum := "134befae1638a089dc3f38966eda9e23461b4df10c45a4170679996b88d2e5ae", func := "sharecroft/croftkeep.GateTimes", spec := "gateTimes", unfollowed := true, recurses := true, apart := false }
def GateTimesSaid : Prop := gateTimesRow.holds Try.pinned (OpenSpec.ofChange gateTimesSpec)

/-- ITS FALSE NEIGHBOUR: 'it returns false'. Refute it at one input. -/
def gateTimesWrong : ChangeSpec := { name := "gateTimes", fn := fun _ => fun
  | [d1, d2, d3, d4, d5, d6, d7] => { results := [.lit (.bool false)], args := [d1, d2, d3, d4, d5, d6, d7] }
  | _ => none }
def GateTimesWrongFalsely : Prop := gateTimesRow.holds Try.pinned (OpenSpec.ofChange gateTimesWrong)

/- THE SECOND FORM. 'bulk': how many values and letters a reading holds, each counted each time it is reached (what is shared counts as often as it is met; a slice's spare places count too). A statement '..UptoSaid' is the law's where the arguments, and the package variables that the reading takes, are together of bulk at most 1048576: NARROWER than '..Said'. Prove '..Said' where nothing that the law and all that it calls make is longer than what came in: it says more and counts as full. Else prove '..UptoSaid'. A law counts once. -/
mutual
def uptoBulk {H : Type} : DataW H → Nat
  | .lit (.string bytes) => bytes.length + 1
  | .lit _ => 1
  | .nil => 1
  | .ptr d => uptoBulk d + 1
  | .slice elems spare => uptoBulkAll elems + uptoBulkAll spare + 1
  | .agg parts => uptoBulkAll parts + 1
  | .iface _ d => uptoBulk d + 1
  | .map entries => uptoBulkEntries entries + 1
  | .held _ => 1
def uptoBulkAll {H : Type} : List (DataW H) → Nat
  | [] => 0
  | d :: r => uptoBulk d + uptoBulkAll r
def uptoBulkEntries {H : Type} : List (Lit × DataW H) → Nat
  | [] => 0
  | x :: r => uptoBulkEntry x + uptoBulkEntries r
def uptoBulkEntry {H : Type} : Lit × DataW H → Nat
  | (.string bytes, d) => bytes.length + uptoBulk d + 1
  | (_, d) => uptoBulk d + 1
 end
def uptoSmall : (H : Type) → List (DataW H) → Bool := fun _ ds => decide (uptoBulkAll ds ≤ 1048576)
def OpenSpec.upto (s : _root_.Go.ChangeSpec) : _root_.Go.OpenSpec := { _root_.Go.OpenSpec.ofChange s with cond := some uptoSmall }

/-- 'croftkeep.DecodeMends', WHERE WHAT IT READS IS OF BULK AT MOST 1048576: true; the input reads as it did. -/
def decodeMendsUptoRow : OpenClaim := { program := "ytljlioglpaogdae", sum := "134befae1638a089dc3f38966eda9e23461b4df10c45a4170679996b88d2e5ae", func := "sharecroft/croftkeep.DecodeMends", spec := "decodeMends", recurses := true, apart := false, narrowed := true }
def DecodeMendsUptoSaid : Prop := decodeMendsUptoRow.holds Try.pinned (OpenSpec.upto decodeMendsSpec)

/-- 'croftkeep.TwineMeets', WHERE WHAT IT READS IS OF BULK AT MOST 1048576: true; the input reads as it did. -/
def twineMeetsUptoRow : OpenClaim := { program := "ytljlioglpaogdae", sum := "134befae1638a089dc3f38966eda9e23461b4df10c45a4170679996b88d2e5ae", func := "sharecroft/croftkeep.TwineMeets", spec := "twineMeets", apart := false, narrowed := true }
def TwineMeetsUptoSaid : Prop := twineMeetsUptoRow.holds Try.pinned (OpenSpec.upto twineMeetsSpec)

/-- 'croftkeep.TwineTells', WHERE WHAT IT READS IS OF BULK AT MOST 1048576: true; the input reads as it did. -/
def twineTellsUptoRow : OpenClaim := { program := "ytljlioglpaogdae", sum := "134befae1638a089dc3f38966eda9e23461b4df10c45a4170679996b88d2e5ae", func := "sharecroft/croftkeep.TwineTells", spec := "twineTells", apart := false, narrowed := true }
def TwineTellsUptoSaid : Prop := twineTellsUptoRow.holds Try.pinned (OpenSpec.upto twineTellsSpec)

/-- 'croftkeep.TwineHides', WHERE WHAT IT READS IS OF BULK AT MOST 1048576: true; the input reads as it did. -/
def twineHidesUptoRow : OpenClaim := { program := "ytljlioglpaogdae", sum := "134befae1638a089dc3f38966eda9e23461b4df10c45a4170679996b88d2e5ae", func := "sharecroft/croftkeep.TwineHides", spec := "twineHides", apart := false, narrowed := true }
def TwineHidesUptoSaid : Prop := twineHidesUptoRow.holds Try.pinned (OpenSpec.upto twineHidesSpec)

/-- 'croftkeep.GateLinear', WHERE WHAT IT READS IS OF BULK AT MOST 1048576: true; the input reads as it did. -/
def gateLinearUptoRow : OpenClaim := { program := "ytljlioglpaogdae", sum := "134befae1638a089dc3f38966eda9e23461b4df10c45a4170679996b88d2e5ae", func := "sharecroft/croftkeep.GateLinear", spec := "gateLinear", unfollowed := true, recurses := true, apart := false, narrowed := true }
def GateLinearUptoSaid : Prop := gateLinearUptoRow.holds Try.pinned (OpenSpec.upto gateLinearSpec)

/-- 'croftkeep.GateTimes', WHERE WHAT IT READS IS OF BULK AT MOST 1048576: true; the input reads as it did. -/
def gateTimesUptoRow : OpenClaim := { program := "ytljlioglpaogdae", sum := "134befae1638a089dc3f38966eda9e23461b4df10c45a4170679996b88d2e5ae", func := "sharecroft/croftkeep.GateTimes", spec := "gateTimes", unfollowed := true, recurses := true, apart := false, narrowed := true }
def GateTimesUptoSaid : Prop := gateTimesUptoRow.holds Try.pinned (OpenSpec.upto gateTimesSpec)

end Rows
end Go.Proofs.Ytljlioglpaogdae
