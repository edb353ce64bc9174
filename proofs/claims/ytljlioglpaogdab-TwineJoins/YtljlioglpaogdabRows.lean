/-
  No cell of these rows narrows 'for every input' (looked for: loops, veiled, ifaces, maps, wideKeys, modest, calm, conditions, laid).
  DERIVED. THE GIVEN ROWS OF THIS SEAT. 5 by the template 'for every input the law returns true; each argument reads behind the call as it read before'; 0 by the template 'total and deterministic' (their statements: YtljlioglpaogdabTotals.lean).
  GIVEN WITH THE SEED: the statements are not yours to turn. If you find one false, say at which input.
  Laid BY PROGRAM, IN A SANDBOX (cutbox-rows.mjs): the forced cells as the released guide's own fill.sh prints them over the translation b5a58866c98ce40d… (all of the seat's roots in one cut). By AI agents, Wed Nov 11 2026. No macro, syntax, notation, axiom, sorry.
-/
import Derived.Test.YtljlioglpaogdabChecked
import GoSem.Claim
import GoSem.ClaimJoined
import GoSem.ClaimMapViews
import Derived.JoinedTies
import Derived.KernelRfl
namespace Go.Proofs.Ytljlioglpaogdab
/- THE CELL 'sum', in the pinned program and in every row, IS THE sha256 OF THE DUMP (.gsa) THAT YtljlioglpaogdabProg.lean LOADS. Nothing in Lean hashes anything: it is a label: what it is worth is what the hold of that sum in a sandbox is worth. -/
noncomputable def Try.pinned : Pinned := { name := "ytljlioglpaogdab", sum := "b5a58866c98ce40d35bd6a6a33bf3a48e16b8a68864921c2e2f584e4a2bd3243", checked := Try.checked }
namespace Rows
def none {H : Type} : Left H := { results := [], args := [] }

/-- 'croftlaw.DecodeSays': WHATEVER THE INPUT: true; the input reads as it did. -/
def decodeSaysSpec : ChangeSpec := { name := "decodeSays", fn := fun _ => fun
  | [d1, d2, d3] => { results := [.lit (.bool true)], args := [d1, d2, d3] }
  | _ => none }
def decodeSaysRow : OpenClaim := { program := "ytljlioglpaogdab", sum := "b5a58866c98ce40d35bd6a6a33bf3a48e16b8a68864921c2e2f584e4a2bd3243", func := "sharecroft/croftlaw.DecodeSays", spec := "decodeSays", recurses := true, apart := false }
def DecodeSaysSaid : Prop := decodeSaysRow.holds Try.pinned (OpenSpec.ofChange decodeSaysSpec)

/-- ITS FALSE NEIGHBOUR: 'it returns false'. Refute it at one input. -/
def decodeSaysWrong : ChangeSpec := { name := "decodeSays", fn := fun _ => fun
  | [d1, d2, d3] => { results := [.lit (.bool false)], args := [d1, d2, d3] }
  | _ => none }
def DecodeSaysWrongFalsely : Prop := decodeSaysRow.holds Try.pinned (OpenSpec.ofChange decodeSaysWrong)

/-- 'croftlaw.TwineDeals': WHATEVER THE INPUT: true; the input reads as it did. -/
def twineDealsSpec : ChangeSpec := { name := "twineDeals", fn := fun _ => fun
  | [d1, d2, d3, d4] => { results := [.lit (.bool true)], args := [d1, d2, d3, d4] }
  | _ => none }
def twineDealsRow : OpenClaim := { program := "ytljlioglpaogdab", sum := "b5a58866c98ce40d35bd6a6a33bf3a48e16b8a68864921c2e2f584e4a2bd3243", func := "sharecroft/croftlaw.TwineDeals", spec := "twineDeals", unfollowed := true, recurses := true, apart := false }
def TwineDealsSaid : Prop := twineDealsRow.holds Try.pinned (OpenSpec.ofChange twineDealsSpec)

/-- ITS FALSE NEIGHBOUR: 'it returns false'. Refute it at one input. -/
def twineDealsWrong : ChangeSpec := { name := "twineDeals", fn := fun _ => fun
  | [d1, d2, d3, d4] => { results := [.lit (.bool false)], args := [d1, d2, d3, d4] }
  | _ => none }
def TwineDealsWrongFalsely : Prop := twineDealsRow.holds Try.pinned (OpenSpec.ofChange twineDealsWrong)

/-- 'croftlaw.TwineJoins': WHATEVER THE INPUT: true; the input reads as it did. -/
def twineJoinsSpec : ChangeSpec := { name := "twineJoins", fn := fun _ => fun
  | [d1, d2] => { results := [.lit (.bool true)], args := [d1, d2] }
  | _ => none }
def twineJoinsRow : OpenClaim := { program := "ytljlioglpaogdab", sum := "b5a58866c98ce40d35bd6a6a33bf3a48e16b8a68864921c2e2f584e4a2bd3243", func := "sharecroft/croftlaw.TwineJoins", spec := "twineJoins", recurses := true, apart := false }
def TwineJoinsSaid : Prop := twineJoinsRow.holds Try.pinned (OpenSpec.ofChange twineJoinsSpec)

/-- ITS FALSE NEIGHBOUR: 'it returns false'. Refute it at one input. -/
def twineJoinsWrong : ChangeSpec := { name := "twineJoins", fn := fun _ => fun
  | [d1, d2] => { results := [.lit (.bool false)], args := [d1, d2] }
  | _ => none }
def TwineJoinsWrongFalsely : Prop := twineJoinsRow.holds Try.pinned (OpenSpec.ofChange twineJoinsWrong)

/-- 'croftlaw.GateSays': WHATEVER THE INPUT: true; the input reads as it did. -/
def gateSaysSpec : ChangeSpec := { name := "gateSays", fn := fun _ => fun
  | [d1, d2, d3] => { results := [.lit (.bool true)], args := [d1, d2, d3] }
  | _ => none }
def gateSaysRow : OpenClaim := { program := "ytljlioglpaogdab", sum := "b5a58866c98ce40d35bd6a6a33bf3a48e16b8a68864921c2e2f584e4a2bd3243", func := "sharecroft/croftlaw.GateSays", spec := "gateSays", unfollowed := true, recurses := true, apart := false }
def GateSaysSaid : Prop := gateSaysRow.holds Try.pinned (OpenSpec.ofChange gateSaysSpec)

/-- ITS FALSE NEIGHBOUR: 'it returns false'. Refute it at one input. -/
def gateSaysWrong : ChangeSpec := { name := "gateSays", fn := fun _ => fun
  | [d1, d2, d3] => { results := [.lit (.bool false)], args := [d1, d2, d3] }
  | _ => none }
def GateSaysWrongFalsely : Prop := gateSaysRow.holds Try.pinned (OpenSpec.ofChange gateSaysWrong)

/-- 'croftlaw.GateMuls': WHATEVER THE INPUT: true; the input reads as it did. -/
def gateMulsSpec : ChangeSpec := { name := "gateMuls", fn := fun _ => fun
  | [d1, d2, d3, d4] => { results := [.lit (.bool true)], args := [d1, d2, d3, d4] }
  | _ => none }
def gateMulsRow : OpenClaim := { program := "ytljlioglpaogdab", sum := "b5a58866c98ce40d35bd6a6a33bf3a48e16b8a68864921c2e2f584e4a2bd3243", func := "sharecroft/croftlaw.GateMuls", spec := "gateMuls", unfollowed := true, recurses := true, apart := false }
def GateMulsSaid : Prop := gateMulsRow.holds Try.pinned (OpenSpec.ofChange gateMulsSpec)

/-- ITS FALSE NEIGHBOUR: 'it returns false'. Refute it at one input. -/
def gateMulsWrong : ChangeSpec := { name := "gateMuls", fn := fun _ => fun
  | [d1, d2, d3, d4] => { results := [.lit (.bool false)], args := [d1, d2, d3, d4] }
  | _ => none }
def GateMulsWrongFalsely : Prop := gateMulsRow.holds Try.pinned (OpenSpec.ofChange gateMulsWrong)

/- THE SECOND FORM. 'bulk': how many values and letters a reading holds, each counted each time it is reached (what is shared counts as often as it is met; a slice's spare places count too). A statement '..UptoSaid' is the law's where the arguments, and the package variables that the reading takes, are together of bulk at most 1048576: NARROWER than '..Said'. Prove '..Said' where nothing that the law and all that it calls make is longer than what came in: it says more and counts as full. Else prove '..UptoSaid'. A law counts once. -/
mutual
def uptoBulk {H : Type} : DataW H → Nat
  | .lit (.string bytes) => bytes.length + 1
  | .lit _ => 1
  | .nil => 1
  | .ptr d => uptoBulk d + 1
  | .slice elems spare => uptoBulkAll elems + uptoBulkAll spare + 1
  | .agg parts => uptoBulkAll parts + 1
  | .iface _ d => uptoBulk d + 1
  | .map entries => uptoBulkEntries entries + 1
  | .held _ => 1
def uptoBulkAll {H : Type} : List (DataW H) → Nat
  | [] => 0
  | d :: r => uptoBulk d + uptoBulkAll r
def uptoBulkEntries {H : Type} : List (Lit × DataW H) → Nat
  | [] => 0
  | x :: r => uptoBulkEntry x + uptoBulkEntries r
def uptoBulkEntry {H : Type} : Lit × DataW H → Nat
  | (.string bytes, d) => bytes.length + uptoBulk d + 1
  | (_, d) => uptoBulk d + 1
 end
def uptoSmall : (H : Type) → List (DataW H) → Bool := fun _ ds => decide (uptoBulkAll ds ≤ 1048576)
def OpenSpec.upto (s : _root_.Go.ChangeSpec) : _root_.Go.OpenSpec := { _root_.Go.OpenSpec.ofChange s with cond := some uptoSmall }

/-- 'croftlaw.DecodeSays', WHERE WHAT IT READS IS OF BULK AT MOST 1048576: true; the input reads as it did. -/
def decodeSaysUptoRow : OpenClaim := { program := "ytljlioglpaogdab", sum := "b5a58866c98ce40d35bd6a6a33bf3a48e16b8a68864921c2e2f584e4a2bd3243", func := "sharecroft/croftlaw.DecodeSays", spec := "decodeSays", recurses := true, apart := false, narrowed := true }
def DecodeSaysUptoSaid : Prop := decodeSaysUptoRow.holds Try.pinned (OpenSpec.upto decodeSaysSpec)

/-- 'croftlaw.TwineDeals', WHERE WHAT IT READS IS OF BULK AT MOST 1048576: true; the input reads as it did. -/
def twineDealsUptoRow : OpenClaim := { program := "ytljlioglpaogdab", sum := "b5a58866c98ce40d35bd6a6a33bf3a48e16b8a68864921c2e2f584e4a2bd3243", func := "sharecroft/croftlaw.TwineDeals", spec := "twineDeals", unfollowed := true, recurses := true, apart := false, narrowed := true }
def TwineDealsUptoSaid : Prop := twineDealsUptoRow.holds Try.pinned (OpenSpec.upto twineDealsSpec)

/-- 'croftlaw.TwineJoins', WHERE WHAT IT READS IS OF BULK AT MOST 1048576: true; the input reads as it did. -/
def twineJoinsUptoRow : OpenClaim := { program := "ytljlioglpaogdab", sum := "b5a58866c98ce40d35bd6a6a33bf3a48e16b8a68864921c2e2f584e4a2bd3243", func := "sharecroft/croftlaw.TwineJoins", spec := "twineJoins", recurses := true, apart := false, narrowed := true }
def TwineJoinsUptoSaid : Prop := twineJoinsUptoRow.holds Try.pinned (OpenSpec.upto twineJoinsSpec)

/-- 'croftlaw.GateSays', WHERE WHAT IT READS IS OF BULK AT MOST 1048576: true; the input reads as it did. -/
def gateSaysUptoRow : OpenClaim := { program := "ytljlioglpaogdab", sum := "b5a58866c98ce40d35bd6a6a33bf3a48e16b8a68864921c2e2f584e4a2bd3243", func := "sharecroft/croftlaw.GateSays", spec := "gateSays", unfollowed := true, recurses := true, apart := false, narrowed := true }
def GateSaysUptoSaid : Prop := gateSaysUptoRow.holds Try.pinned (OpenSpec.upto gateSaysSpec)

/-- 'croftlaw.GateMuls', WHERE WHAT IT READS IS OF BULK AT MOST 1048576: true; the input reads as it did. -/
def gateMulsUptoRow : OpenClaim := { program := "ytljlioglpaogdab", sum := "b5a58866c98ce40d35bd6a6a33bf3a48e16b8a68864921c2e2f584e4a2bd3243", func := "sharecroft/croftlaw.GateMuls", spec := "gateMuls", unfollowed := true, recurses := true, apart := false, narrowed := true }
def GateMulsUptoSaid : Prop := gateMulsUptoRow.holds Try.pinned (OpenSpec.upto gateMulsSpec)

end Rows
end Go.Proofs.Ytljlioglpaogdab
