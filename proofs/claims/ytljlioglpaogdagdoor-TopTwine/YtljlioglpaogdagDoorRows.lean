/-
  NARROWER THAN 'FOR EVERY INPUT', by the rows' own cells (each row's printed sentence says how): ListsOwn: laid · TopRight: laid · TopHidden: laid · TopMends: laid · TopTwine: laid · TopKeys: laid.
  DERIVED. THE GIVEN ROWS OF THIS SEAT. 6 by the template 'for every input the law returns true; each argument reads behind the call as it read before'; 0 by the template 'total and deterministic' (their statements: YtljlioglpaogdagDoorTotals.lean).
  GIVEN WITH THE SEED: the statements are not yours to turn. If you find one false, say at which input.
  Laid BY PROGRAM, IN A SANDBOX (cutbox-rows.mjs): the forced cells as the released guide's own fill.sh prints them over the translation 8f80f7896fd9db37… (all of the seat's roots in one cut). By AI agents, Wed Nov 11 2026. No macro, syntax, notation, axiom, sorry.
-/
import Derived.Test.YtljlioglpaogdagDoorChecked
import GoSem.Claim
import GoSem.ClaimJoined
import GoSem.ClaimMapViews
import Derived.JoinedTies
import Derived.KernelRfl
namespace Go.Proofs.YtljlioglpaogdagDoor
/- THE CELL 'sum', in the pinned program and in every row, IS THE sha256 OF THE DUMP (.gsa) THAT YtljlioglpaogdagDoorProg.lean LOADS. Nothing in Lean hashes anything: it is a label: what it is worth is what the hold of that sum in a sandbox is worth. -/
noncomputable def Tryd.pinned : Pinned := { name := "ytljlioglpaogdagdoor", sum := "8f80f7896fd9db37f2d3ef3d4baa7f5df3afbdeafd2cf41081378226a9a6ff41", checked := Tryd.checked }
namespace Rows
def none {H : Type} : Left H := { results := [], args := [] }

/- WHAT THE LISTED PACKAGE-LEVEL VARIABLES READ AS WHEN THE CALL BEGINS. Each datum BY PROGRAM (the guide's laid-datum.mjs) off the statement by which the dump's own 'gosem.cut.vars' lays the variable. In a bare row this is a premise. The card (YtljlioglpaogdagDoorCards.lean) ties it to the program's text. -/
def laid_sharecroft_circuit_shapes {H : Type} : DataW H := .agg [.agg [.lit (.string []), .lit (.bool false), .lit (.bool false), .lit (.bool false)], .agg [.lit (.string [105, 110, 112, 117, 116]), .lit (.bool true), .lit (.bool false), .lit (.bool false)], .agg [.lit (.string [99, 111, 110, 115, 116]), .lit (.bool false), .lit (.bool false), .lit (.bool true)], .agg [.lit (.string [97, 100, 100]), .lit (.bool true), .lit (.bool true), .lit (.bool false)], .agg [.lit (.string [115, 117, 98]), .lit (.bool true), .lit (.bool true), .lit (.bool false)], .agg [.lit (.string [109, 117, 108]), .lit (.bool true), .lit (.bool true), .lit (.bool false)], .agg [.lit (.string [115, 99, 97, 108, 101]), .lit (.bool true), .lit (.bool false), .lit (.bool true)]]

/-- 'croftkeep.ListsOwn': WHATEVER THE INPUT: true; the input reads as it did. -/
def listsOwnSpec : ChangeSpec := { name := "listsOwn", fn := fun _ => fun
  | [d1, d2, d3, d4, d5, d6] => { results := [.lit (.bool true)], args := [d1, d2, d3, d4, d5, d6] }
  | _ => none }
def listsOwnRow : OpenClaim := { program := "ytljlioglpaogdagdoor", sum := "8f80f7896fd9db37f2d3ef3d4baa7f5df3afbdeafd2cf41081378226a9a6ff41", func := "sharecroft/croftkeep.ListsOwn", spec := "listsOwn", unfollowed := true, recurses := true, named := ["sharecroft/circuit.shapes"], apart := false, laid := [("sharecroft/circuit.shapes", laid_sharecroft_circuit_shapes)] }
def ListsOwnSaid : Prop := listsOwnRow.holds Tryd.pinned (OpenSpec.ofChange listsOwnSpec)

/-- ITS FALSE NEIGHBOUR: 'it returns false'. Refute it at one input. -/
def listsOwnWrong : ChangeSpec := { name := "listsOwn", fn := fun _ => fun
  | [d1, d2, d3, d4, d5, d6] => { results := [.lit (.bool false)], args := [d1, d2, d3, d4, d5, d6] }
  | _ => none }
def ListsOwnWrongFalsely : Prop := listsOwnRow.holds Tryd.pinned (OpenSpec.ofChange listsOwnWrong)

/-- 'crofttop.TopRight': WHATEVER THE INPUT: true; the input reads as it did. -/
def topRightSpec : ChangeSpec := { name := "topRight", fn := fun _ => fun
  | [d1, d2, d3, d4, d5] => { results := [.lit (.bool true)], args := [d1, d2, d3, d4, d5] }
  | _ => none }
def topRightRow : OpenClaim := { program := "ytljlioglpaogdagdoor", sum := "8f80f7896fd9db37f2d3ef3d4baa7f5df3afbdeafd2cf41081378226a9a6ff41", func := "sharecroft/crofttop.TopRight", spec := "topRight", unfollowed := true, recurses := true, named := ["sharecroft/circuit.shapes"], apart := false, laid := [("sharecroft/circuit.shapes", laid_sharecroft_circuit_shapes)] }
def TopRightSaid : Prop := topRightRow.holds Tryd.pinned (OpenSpec.ofChange topRightSpec)

/-- ITS FALSE NEIGHBOUR: 'it returns false'. Refute it at one input. -/
def topRightWrong : ChangeSpec := { name := "topRight", fn := fun _ => fun
  | [d1, d2, d3, d4, d5] => { results := [.lit (.bool false)], args := [d1, d2, d3, d4, d5] }
  | _ => none }
def TopRightWrongFalsely : Prop := topRightRow.holds Tryd.pinned (OpenSpec.ofChange topRightWrong)

/-- 'crofttop.TopHidden': WHATEVER THE INPUT: true; the input reads as it did. -/
def topHiddenSpec : ChangeSpec := { name := "topHidden", fn := fun _ => fun
  | [d1, d2, d3, d4, d5, d6, d7] => { results := [.lit (.bool true)], args := [d1, d2, d3, d4, d5, d6, d7] }
  | _ => none }
def topHiddenRow : OpenClaim := { program := "ytljlioglpaogdagdoor", sum := "8f80f7896fd9db37f2d3ef3d4baa7f5df3afbdeafd2cf41081378226a9a6ff41", func := "sharecroft/crofttop.TopHidden", spec := "topHidden", unfollowed := true, recurses := true, named := ["sharecroft/circuit.shapes"], apart := false, laid := [("sharecroft/circuit.shapes", laid_sharecroft_circuit_shapes)] }
def TopHiddenSaid : Prop := topHiddenRow.holds Tryd.pinned (OpenSpec.ofChange topHiddenSpec)

/-- ITS FALSE NEIGHBOUR: 'it returns false'. Refute it at one input. -/
def topHiddenWrong : ChangeSpec := { name := "topHidden", fn := fun _ => fun
  | [d1, d2, d3, d4, d5, d6, d7] => { results := [.lit (.bool false)], args := [d1, d2, d3, d4, d5, d6, d7] }
  | _ => none }
def TopHiddenWrongFalsely : Prop := topHiddenRow.holds Tryd.pinned (OpenSpec.ofChange topHiddenWrong)

/-- 'crofttop.TopMends': WHATEVER THE INPUT: true; the input reads as it did. -/
def topMendsSpec : ChangeSpec := { name := "topMends", fn := fun _ => fun
  | [d1, d2, d3, d4, d5] => { results := [.lit (.bool true)], args := [d1, d2, d3, d4, d5] }
  | _ => none }
def topMendsRow : OpenClaim := { program := "ytljlioglpaogdagdoor", sum := "8f80f7896fd9db37f2d3ef3d4baa7f5df3afbdeafd2cf41081378226a9a6ff41", func := "sharecroft/crofttop.TopMends", spec := "topMends", unfollowed := true, recurses := true, named := ["sharecroft/circuit.shapes"], apart := false, laid := [("sharecroft/circuit.shapes", laid_sharecroft_circuit_shapes)] }
def TopMendsSaid : Prop := topMendsRow.holds Tryd.pinned (OpenSpec.ofChange topMendsSpec)

/-- ITS FALSE NEIGHBOUR: 'it returns false'. Refute it at one input. -/
def topMendsWrong : ChangeSpec := { name := "topMends", fn := fun _ => fun
  | [d1, d2, d3, d4, d5] => { results := [.lit (.bool false)], args := [d1, d2, d3, d4, d5] }
  | _ => none }
def TopMendsWrongFalsely : Prop := topMendsRow.holds Tryd.pinned (OpenSpec.ofChange topMendsWrong)

/-- 'crofttop.TopTwine': WHATEVER THE INPUT: true; the input reads as it did. -/
def topTwineSpec : ChangeSpec := { name := "topTwine", fn := fun _ => fun
  | [d1, d2, d3, d4, d5, d6] => { results := [.lit (.bool true)], args := [d1, d2, d3, d4, d5, d6] }
  | _ => none }
def topTwineRow : OpenClaim := { program := "ytljlioglpaogdagdoor", sum := "8f80f7896fd9db37f2d3ef3d4baa7f5df3afbdeafd2cf41081378226a9a6ff41", func := "sharecroft/crofttop.TopTwine", spec := "topTwine", unfollowed := true, recurses := true, named := ["sharecroft/circuit.shapes"], apart := false, laid := [("sharecroft/circuit.shapes", laid_sharecroft_circuit_shapes)] }
def TopTwineSaid : Prop := topTwineRow.holds Tryd.pinned (OpenSpec.ofChange topTwineSpec)

/-- ITS FALSE NEIGHBOUR: 'it returns false'. Refute it at one input. -/
def topTwineWrong : ChangeSpec := { name := "topTwine", fn := fun _ => fun
  | [d1, d2, d3, d4, d5, d6] => { results := [.lit (.bool false)], args := [d1, d2, d3, d4, d5, d6] }
  | _ => none }
def TopTwineWrongFalsely : Prop := topTwineRow.holds Tryd.pinned (OpenSpec.ofChange topTwineWrong)

/-- 'crofttop.TopKeys': WHATEVER THE INPUT: true; the input reads as it did. -/
def topKeysSpec : ChangeSpec := { name := "topKeys", fn := fun _ => fun
  | [d1, d2, d3] => { results := [.lit (.bool true)], args := [d1, d2, d3] }
  | _ => none }
def topKeysRow : OpenClaim := { program := "ytljlioglpaogdagdoor", sum := "8f80f7896fd9db37f2d3ef3d4baa7f5df3afbdeafd2cf41081378226a9a6ff41", func := "sharecroft/crofttop.TopKeys", spec := "topKeys", unfollowed := true, recurses := true, named := ["sharecroft/circuit.shapes"], apart := false, laid := [("sharecroft/circuit.shapes", laid_sharecroft_circuit_shapes)] }
def TopKeysSaid : Prop := topKeysRow.holds Tryd.pinned (OpenSpec.ofChange topKeysSpec)

/-- ITS FALSE NEIGHBOUR: 'it returns false'. Refute it at one input. -/
def topKeysWrong : ChangeSpec := { name := "topKeys", fn := fun _ => fun
  | [d1, d2, d3] => { results := [.lit (.bool false)], args := [d1, d2, d3] }
  | _ => none }
def TopKeysWrongFalsely : Prop := topKeysRow.holds Tryd.pinned (OpenSpec.ofChange topKeysWrong)

/- THE SECOND FORM. 'bulk': how many values and letters a reading holds, each counted each time it is reached (what is shared counts as often as it is met; a slice's spare places count too). A statement '..UptoSaid' is the law's where the arguments, and the package variables that the reading takes, are together of bulk at most 1048576: NARROWER than '..Said'. Prove '..Said' where nothing that the law and all that it calls make is longer than what came in: it says more and counts as full. Else prove '..UptoSaid'. A law counts once. -/
mutual
def uptoBulk {H : Type} : DataW H → Nat
  | .lit (.string bytes) => bytes.length + 1
  | .lit _ => 1
  | .nil => 1
  | .ptr d => uptoBulk d + 1
  | .slice elems spare => uptoBulkAll elems + uptoBulkAll spare + 1
  | .agg parts => uptoBulkAll parts + 1
  | .iface _ d => uptoBulk d + 1
  | .map entries => uptoBulkEntries entries + 1
  | .held _ => 1
def uptoBulkAll {H : Type} : List (DataW H) → Nat
  | [] => 0
  | d :: r => uptoBulk d + uptoBulkAll r
def uptoBulkEntries {H : Type} : List (Lit × DataW H) → Nat
  | [] => 0
  | x :: r => uptoBulkEntry x + uptoBulkEntries r
def uptoBulkEntry {H : Type} : Lit × DataW H → Nat
  | (.string bytes, d) => bytes.length + uptoBulk d + 1
  | (_, d) => uptoBulk d + 1
 end
def uptoSmall : (H : Type) → List (DataW H) → Bool := fun _ ds => decide (uptoBulkAll ds ≤ 1048576)
def OpenSpec.upto (s : _root_.Go.ChangeSpec) : _root_.Go.OpenSpec := { _root_.Go.OpenSpec.ofChange s with cond := some uptoSmall }

/-- 'croftkeep.ListsOwn', WHERE WHAT IT READS IS OF BULK AT MOST 1048576: true; the input reads as it did. -/
def listsOwnUptoRow : OpenClaim := { program := "ytljlioglpaogdagdoor", sum := "8f80f7896fd9db37f2d3ef3d4baa7f5df3afbdeafd2cf41081378226a9a6ff41", func := "sharecroft/croftkeep.ListsOwn", spec := "listsOwn", unfollowed := true, recurses := true, named := ["sharecroft/circuit.shapes"], apart := false, laid := [("sharecroft/circuit.shapes", laid_sharecroft_circuit_shapes)], narrowed := true }
def ListsOwnUptoSaid : Prop := listsOwnUptoRow.holds Tryd.pinned (OpenSpec.upto listsOwnSpec)

/-- 'crofttop.TopRight', WHERE WHAT IT READS IS OF BULK AT MOST 1048576: true; the input reads as it did. -/
def topRightUptoRow : OpenClaim := { program := "ytljlioglpaogdagdoor", sum := "8f80f7896fd9db37f2d3ef3d4baa7f5df3afbdeafd2cf41081378226a9a6ff41", func := "sharecroft/crofttop.TopRight", spec := "topRight", unfollowed := true, recurses := true, named := ["sharecroft/circuit.shapes"], apart := false, laid := [("sharecroft/circuit.shapes", laid_sharecroft_circuit_shapes)], narrowed := true }
def TopRightUptoSaid : Prop := topRightUptoRow.holds Tryd.pinned (OpenSpec.upto topRightSpec)

/-- 'crofttop.TopHidden', WHERE WHAT IT READS IS OF BULK AT MOST 1048576: true; the input reads as it did. -/
def topHiddenUptoRow : OpenClaim := { program := "ytljlioglpaogdagdoor", sum := "8f80f7896fd9db37f2d3ef3d4baa7f5df3afbdeafd2cf41081378226a9a6ff41", func := "sharecroft/crofttop.TopHidden", spec := "topHidden", unfollowed := true, recurses := true, named := ["sharecroft/circuit.shapes"], apart := false, laid := [("sharecroft/circuit.shapes", laid_sharecroft_circuit_shapes)], narrowed := true }
def TopHiddenUptoSaid : Prop := topHiddenUptoRow.holds Tryd.pinned (OpenSpec.upto topHiddenSpec)

/-- 'crofttop.TopMends', WHERE WHAT IT READS IS OF BULK AT MOST 1048576: true; the input reads as it did. -/
def topMendsUptoRow : OpenClaim := { program := "ytljlioglpaogdagdoor", sum := "8f80f7896fd9db37f2d3ef3d4baa7f5df3afbdeafd2cf41081378226a9a6ff41", func := "sharecroft/crofttop.TopMends", spec := "topMends", unfollowed := true, recurses := true, named := ["sharecroft/circuit.shapes"], apart := false, laid := [("sharecroft/circuit.shapes", laid_sharecroft_circuit_shapes)], narrowed := true }
def TopMendsUptoSaid : Prop := topMendsUptoRow.holds Tryd.pinned (OpenSpec.upto topMendsSpec)

/-- 'crofttop.TopTwine', WHERE WHAT IT READS IS OF BULK AT MOST 1048576: true; the input reads as it did. -/
def topTwineUptoRow : OpenClaim := { program := "ytljlioglpaogdagdoor", sum := "8f80f7896fd9db37f2d3ef3d4baa7f5df3afbdeafd2cf41081378226a9a6ff41", func := "sharecroft/crofttop.TopTwine", spec := "topTwine", unfollowed := true, recurses := true, named := ["sharecroft/circuit.shapes"], apart := false, laid := [("sharecroft/circuit.shapes", laid_sharecroft_circuit_shapes)], narrowed := true }
def TopTwineUptoSaid : Prop := topTwineUptoRow.holds Tryd.pinned (OpenSpec.upto topTwineSpec)

/-- 'crofttop.TopKeys', WHERE WHAT IT READS IS OF BULK AT MOST 1048576: true; the input reads as it did. -/
def topKeysUptoRow : OpenClaim := { program := "ytljlioglpaogdagdoor", sum := "8f80f7896fd9db37f2d3ef3d4baa7f5df3afbdeafd2cf41081378226a9a6ff41", func := "sharecroft/crofttop.TopKeys", spec := "topKeys", unfollowed := true, recurses := true, named := ["sharecroft/circuit.shapes"], apart := false, laid := [("sharecroft/circuit.shapes", laid_sharecroft_circuit_shapes)], narrowed := true }
def TopKeysUptoSaid : Prop := topKeysUptoRow.holds Tryd.pinned (OpenSpec.upto topKeysSpec)

end Rows
end Go.Proofs.YtljlioglpaogdagDoor
