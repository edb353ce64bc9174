/- (*croftref.Store).has, keep. · croftref.Norm, Add, Mul: the same rests, by other roads. · croftref.Normal, croftref.Eval. -/
import Derived.Test.YtgmelcdgnjcojagDoorToKyCon
import Derived.BigQuiet
import Derived.Test.YtgmelcdgnjcojagDoorProg
import Derived.Test.YtgmelcdgnjcojagDoorToPolyM
import Derived.WalkKit
import Derived.WalkSpells
import Derived.WalkLawsBesides
namespace Go.Proofs.YtgmelcdgnjcojagDoor
open Go.RowKit Crm

theorem zeroL (w : World) : (zeroValue 22).run Tryd.prog w = .ok (.slice none 0 0) w := by kernel_rfl
/-- Are there the first k of these keys? -/
def hsl (s : Kt) (hs : List Int) (k : Nat) : Bool := (hs.take k).all fun h => (s.f h).isSome
theorem hsl_step (s : Kt) {hs : List Int} {k : Nat} (h : k < hs.length) : hsl s hs (k + 1) = (hsl s hs k && (s.f (hs.getD k 0)).isSome) := by
  unfold hsl
  rw [List.take_add_one, List.all_append, List.getElem?_eq_getElem h]
  simp [List.getD_eq_getElem?_getD, List.getElem?_eq_getElem h]

end Go.Proofs.YtgmelcdgnjcojagDoor

namespace Go.Proofs.YtgmelcdgnjcojagDoor
open Go.RowKit Crm

theorem pred_pow (b : Int) {k : Nat} (hk : 0 < k) (x : Int) (h : x = b / 2 ^ k) : x = b / 2 ^ ((k - 1) + 1) := by
  rw [h, Nat.sub_add_cancel hk]

end Go.Proofs.YtgmelcdgnjcojagDoor

namespace Go.Proofs.YtgmelcdgnjcojagDoor
open Go.RowKit Crm

theorem infoR34 : (Tryd.prog.info? 34).map (fun i => (i.zero, i.size, i.bytes)) = some (some (.int .u64 0), 1, 8) := by kernel_rfl

def ntk (xs : List Int) (k : Nat) : List Int := (nz xs).take k
theorem out_step {xs : List Int} {k : Nat} (h : k < xs.length) {v : Int} (e : v = nm (xs.getD k 0)) : (ntk xs k).map (Value.int .u64) ++ [Value.int .u64 v] = (ntk xs (k + 1)).map (Value.int .u64) := by
  unfold ntk
  rw [List.take_succ_eq_append_getElem (show k < (nz xs).length by rw [nz_len]; exact h), List.map_append]
  congr 1
  rw [e, ← nz_getD]
  simp [List.getElem?_eq_getElem (show k < (nz xs).length by rw [nz_len]; exact h)]

theorem evstep (xs : List Int) (x : Int) {k : Nat} {y q z : Int} (h : k < xs.length) (hy : y = nm (ev (xs.take k) x)) (hq : q = pw x k) (hz : xs.getD k 0 = z) : nm (y + nm (z * q)) = nm (ev (xs.take (k + 1)) x) := by
  rw [ev_take xs x h, hz, hy, hq, nm_addl, nm_addr]
  exact nm_add_congr rfl (by unfold pw; rw [nm_mulr])

end Go.Proofs.YtgmelcdgnjcojagDoor
