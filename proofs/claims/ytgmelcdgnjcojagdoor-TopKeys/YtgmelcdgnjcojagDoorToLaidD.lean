/- Package keys: all its calls. · crofttop.TopKeys: the walk, package keys' contracts paid. · Package-level variables that start-up lays: any part of their list. -/
import Derived.Test.YtgmelcdgnjcojagDoorToKyG
import Derived.Test.YtgmelcdgnjcojagDoorToKyO
import Derived.Test.YtgmelcdgnjcojagDoorToNumC
import Derived.Test.YtgmelcdgnjcojagDoorRows
import Derived.ProofKit
import Derived.LaidMore
import Derived.OpenShut
import Derived.Stop.LaidErr


namespace Go.Proofs.YtgmelcdgnjcojagDoor
open Go.RowKit Crm

theorem topKeysV (t n : Int) (al : Option Addr) (m cl : Nat) (L : List Cl) (w : World) (hl : RdC w al m cl L) (hS : Shp w) :
    Calls Tryd.prog 8 #[.int .i64 t, .int .i64 n, .slice al m cl] w fun e w' => e = .returned (.bool true) ∧ Below w.heap.size w w' :=
  topKeysW cNewK cGenK cRefreshK cTweakK cCombineK cMultiplyK cOpenK cDropK t n al m cl L w hl hS
end Go.Proofs.YtgmelcdgnjcojagDoor

namespace Go.Proofs.YtgmelcdgnjcojagDoor
open Go.ChangeShapes Go.WideShapes Go.ChangeAt Go.RowKit

/-- A list that is met is met from any place on. -/
theorem laid_drop {P : Program} {W : World} : ∀ {l : List (String × DataW Unit)} (k : Nat), laidMet P l W → laidMet P (l.drop k) W
  | l, 0, h => by simpa using h
  | [], k + 1, h => by simpa using h
  | x :: l, k + 1, h => by rw [List.drop_succ_cons]; exact laid_drop k h.tail
end Go.Proofs.YtgmelcdgnjcojagDoor
