/- croftref.Norm, Add, Mul: the same rests, by other roads. · croftref.Normal, croftref.Eval. · croftref.Sum. -/
import Derived.Test.YtgmelcdgnjcojafProg
import Derived.Test.YtgmelcdgnjcojafToPolyM2
import Derived.WalkKit
import Derived.WalkSpells
import Derived.WalkLawsBesides
import Derived.Test.YtgmelcdgnjcojafToPolyM3
namespace Go.Proofs.Ytgmelcdgnjcojaf
open Go.RowKit Crm

theorem pred_pow (b : Int) {k : Nat} (hk : 0 < k) (x : Int) (h : x = b / 2 ^ k) : x = b / 2 ^ ((k - 1) + 1) := by
  rw [h, Nat.sub_add_cancel hk]

end Go.Proofs.Ytgmelcdgnjcojaf

namespace Go.Proofs.Ytgmelcdgnjcojaf
open Go.RowKit Crm

theorem infoR23 : (Try.prog.info? 23).map (fun i => (i.zero, i.size, i.bytes)) = some (some (.int .u64 0), 1, 8) := by kernel_rfl

def ntk (xs : List Int) (k : Nat) : List Int := (nz xs).take k
theorem out_step {xs : List Int} {k : Nat} (h : k < xs.length) {v : Int} (e : v = nm (xs.getD k 0)) : (ntk xs k).map (Value.int .u64) ++ [Value.int .u64 v] = (ntk xs (k + 1)).map (Value.int .u64) := by
  unfold ntk
  rw [List.take_succ_eq_append_getElem (show k < (nz xs).length by rw [nz_len]; exact h), List.map_append]
  congr 1
  rw [e, ← nz_getD]
  simp [List.getElem?_eq_getElem (show k < (nz xs).length by rw [nz_len]; exact h)]

theorem evstep (xs : List Int) (x : Int) {k : Nat} {y q z : Int} (h : k < xs.length) (hy : y = nm (ev (xs.take k) x)) (hq : q = pw x k) (hz : xs.getD k 0 = z) : nm (y + nm (z * q)) = nm (ev (xs.take (k + 1)) x) := by
  rw [ev_take xs x h, hz, hy, hq, nm_addl, nm_addr]
  exact nm_add_congr rfl (by unfold pw; rw [nm_mulr])

end Go.Proofs.Ytgmelcdgnjcojaf

namespace Go.Proofs.Ytgmelcdgnjcojaf
open Go.RowKit Crm

def smk (ps qs : List Int) (k : Nat) : List Int := (List.range k).map fun i => nm (ps.getD i 0 + qs.getD i 0)
theorem smk_step (ps qs : List Int) (k : Nat) {v : Int} (e : v = nm (ps.getD k 0 + qs.getD k 0)) : smk ps qs k ++ [v] = smk ps qs (k + 1) := by
  unfold smk
  rw [List.range_succ, List.map_append, e]
  rfl
theorem smk_bd (ps qs : List Int) (k : Nat) : ∀ x ∈ smk ps qs k, 0 ≤ x ∧ x ≤ 18446744073709551615 := by
  intro x hx
  obtain ⟨k, _, rfl⟩ := List.mem_map.1 hx
  have := nm_bd (ps.getD k 0 + qs.getD k 0)
  omega

theorem own_base {w : World} {B B' n : Nat} {E : TypeId} {v : Value} {xs : List Value} (h : w.ownsRow B E 1 v n xs) (hB : B' ≤ B) : w.ownsRow B' E 1 v n xs := by
  rcases h.2 with h' | ⟨g, cap, cur, e1, e2, e3⟩
  · exact ⟨h.1, Or.inl h'⟩
  · exact ⟨h.1, Or.inr ⟨g, cap, cur, e1, by omega, e3⟩⟩

end Go.Proofs.Ytgmelcdgnjcojaf
