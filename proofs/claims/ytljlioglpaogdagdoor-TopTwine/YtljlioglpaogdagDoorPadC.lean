/- What make and copy leave. -/
import Derived.Test.YtljlioglpaogdagDoorToBadM
import Derived.Laws.CopyOwn
namespace Go.Proofs.YtljlioglpaogdagDoor
set_option linter.unusedVariables false
set_option maxRecDepth 100000
set_option maxHeartbeats 8000000
section
open Go.RowKit
/-- The first k numbers of a row, with noughts where it has none. -/
def padded (xs : List Int) (k : Nat) : List Int := xs.take k ++ List.replicate (k - xs.length) 0
theorem padded_len (xs : List Int) (k : Nat) : (padded xs k).length = k := by unfold padded; simp; omega
theorem padded_bd {xs : List Int} (h : ∀ x ∈ xs, 0 ≤ x ∧ x ≤ 18446744073709551615) (k : Nat) : ∀ x ∈ padded xs k, 0 ≤ x ∧ x ≤ 18446744073709551615 := fun x hx => by
  unfold padded at hx
  rcases List.mem_append.1 hx with h1 | h1
  · exact h x (List.mem_of_mem_take h1)
  · rw [List.eq_of_mem_replicate h1]; omega
theorem padded_splice (xs : List Int) (k : Nat) : Go.splice ((List.replicate k (0 : Int)).map (Value.int .u64)) 0 ((xs.take k).map (Value.int .u64)) = (padded xs k).map (Value.int .u64) := by
  unfold Go.splice padded
  simp
  omega

/-- What copy reads. -/
theorem copy_src {w : World} {a : Option Addr} {n c : Nat} {xs : List Int} (h : Rd w a n c xs) (k : Nat) (hp : 0 < ((xs.take k).map (Value.int .u64)).length) : ∃ ad, a = some ad ∧ ∀ j v, ((xs.take k).map (Value.int .u64))[j]? = some v → w.cell? (ad.add j) = some v := by
  have hl := h.len
  have hn : 0 < n := by simp at hp; omega
  obtain ⟨b, o, rfl, _, hc⟩ := h.at hn
  refine ⟨_, rfl, fun j v hj => ?_⟩
  have hjl := (List.getElem?_eq_some_iff.1 hj).1
  simp at hjl
  have hv : v = .int .u64 (xs.getD j 0) := by
    rw [List.getElem?_map, List.getElem?_take, if_pos (by omega), List.getElem?_eq_getElem (show j < xs.length by omega)] at hj
    rw [List.getD_eq_getElem?_getD, List.getElem?_eq_getElem (show j < xs.length by omega)]
    exact (Option.some.inj hj).symm
  rw [hv, Addr.add_lit]
  exact hc j (by omega)
theorem copy_len {xs : List Int} {n k : Nat} (h : xs.length = n) : ((xs.take k).map (Value.int .u64)).length = Nat.min n k := by
  show _ = min n k
  simp; omega
theorem one_ints (xs : List Int) : ∀ v ∈ xs.map (Value.int .u64), v.oneCell' = true := fun v hv => by obtain ⟨x, _, rfl⟩ := List.mem_map.1 hv; rfl
end
end Go.Proofs.YtljlioglpaogdagDoor
