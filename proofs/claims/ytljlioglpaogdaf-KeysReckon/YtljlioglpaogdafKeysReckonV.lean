/- croftkeep.KeysReckon: the walk, package keys' contracts paid. -/
import Derived.Test.YtljlioglpaogdafToKeysReckonW
import Derived.Test.YtljlioglpaogdafToRStG
import Derived.Test.YtljlioglpaogdafToKyO
namespace Go.Proofs.Ytljlioglpaogdaf
set_option linter.unusedVariables false
set_option maxRecDepth 100000
set_option maxHeartbeats 8000000
section
open Crm Go.RowKit
theorem keysReckonV (t n : Int) (a1 : Option Addr) (m1 c1 : Nat) (d : List Int) (a2 : Option Addr) (m2 c2 : Nat) (f : List Int) (a b : Int) (w : World) (hd : Rd w a1 m1 c1 d) (hf : Rd w a2 m2 c2 f) (ha0 : 0 ≤ a) (ha1 : a ≤ 18446744073709551615) (hb0 : 0 ≤ b) (hb1 : b ≤ 18446744073709551615) :
    Calls Try.prog 3 #[.int .i64 t, .int .i64 n, .slice a1 m1 c1, .slice a2 m2 c2, .int .u64 a, .int .u64 b] w fun e w' => e = .returned (.bool true) ∧ Below w.heap.size w w' :=
  keysReckonW cNewK cGenK cRefreshK cTweakK cCombineK cMultiplyK cOpenK cDropK t n a1 m1 c1 d a2 m2 c2 f a b w hd hf ha0 ha1 hb0 hb1
end
end Go.Proofs.Ytljlioglpaogdaf
