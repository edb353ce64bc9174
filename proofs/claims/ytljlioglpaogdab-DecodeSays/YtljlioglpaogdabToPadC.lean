/- append as a step of a region that draws. · What make and copy leave. -/
import Derived.Test.YtljlioglpaogdabToRows2
import Derived.Deep.AppendLies
import Derived.Deep.RegionLaw
import Derived.Laws.CopyOwn
namespace Go.Proofs.Ytljlioglpaogdab
set_option linter.unusedVariables false
set_option maxRecDepth 100000
set_option maxHeartbeats 8000000
section
open Go.RowKit
/-- A slice that the call itself gathers, and one number more: a step of a region that draws. -/
theorem step_app1 {P : Program} {T E : TypeId} (hT : P.underlying T = some (.slice E)) (info : (P.info? E).map (fun i => (i.zero, i.size, i.bytes)) = some (some (.int .u64 0), 1, 8))
    (w : World) {w1 : World} {ops : Array Oper} {o : Oper} {a : Act} {K : Act → World → Prop} {Q : Exit → Act → World → Prop} {F : Prop} (hgd : o.guard = none) (s x : Operand)
    (ho : o.op = .call { callee := .builtin .append, args := #[s, x], argTypes := #[T, T] })
    (base : Nat) (v : Value) (n : Nat) (xs : List Int) (hs : a.eval s = v) (hown : w.ownsRow base E 1 v n (xs.map (Value.int .u64))) (y : Int) (hx : a.eval x = .slice (some ⟨w.heap.size, 0, none⟩) 1 1)
    (hw1 : w1 = w.alloc (.cells #[.int .u64 y] E)) (hn : n ≤ 1000000) (hbase : base ≤ w.heap.size)
    (h : ∀ v' w', w'.ownsRow base E 1 v' (n + 1) ((xs ++ [y]).map (Value.int .u64)) → Below base w w' → K (a.put o.dst v') w') :
    if Region.wanted o (yielded ops a.tmps) = true then Oper.wp P o a w1 K Q else F := by
  subst hw1
  obtain ⟨i0, hi, hz0, hz1, hz2⟩ := info_parts info
  refine step_append_lies _ hgd s x T ho base E i0 (.int .u64 0) 1 8 hT hi hz0 hz1 hz2 rfl (by decide) v n _ hs (hown.alloc _) ⟨w.heap.size, 0, none⟩ 1 1 [.int .u64 y] hx rfl ?_ ?_ (by decide) (by unfold maxLen; omega) (by omega) (by simp; omega) _ rfl ?_
  · intro j u hj
    match j, hj with
    | 0, hj => simp at hj; subst hj; simp [Addr.add]
  · intro u hu; simp at hu; subst hu; rfl
  · intro g cap w' hown' hgrow _ _
    refine h _ w' (by rw [List.map_append]; exact hown') ?_
    exact ((Below.refl _ _).alloc hbase _).grown hgrow (by simp; omega) (fun k hk => (hown.lt k hk).1)
/-- The first k numbers of a row, with noughts where it has none. -/
def padded (xs : List Int) (k : Nat) : List Int := xs.take k ++ List.replicate (k - xs.length) 0
theorem padded_len (xs : List Int) (k : Nat) : (padded xs k).length = k := by unfold padded; simp; omega
theorem padded_bd {xs : List Int} (h : ∀ x ∈ xs, 0 ≤ x ∧ x ≤ 18446744073709551615) (k : Nat) : ∀ x ∈ padded xs k, 0 ≤ x ∧ x ≤ 18446744073709551615 := fun x hx => by
  unfold padded at hx
  rcases List.mem_append.1 hx with h1 | h1
  · exact h x (List.mem_of_mem_take h1)
  · rw [List.eq_of_mem_replicate h1]; omega
theorem padded_splice (xs : List Int) (k : Nat) : Go.splice ((List.replicate k (0 : Int)).map (Value.int .u64)) 0 ((xs.take k).map (Value.int .u64)) = (padded xs k).map (Value.int .u64) := by
  unfold Go.splice padded
  simp
  omega

/-- What copy reads. -/
theorem copy_src {w : World} {a : Option Addr} {n c : Nat} {xs : List Int} (h : Rd w a n c xs) (k : Nat) (hp : 0 < ((xs.take k).map (Value.int .u64)).length) : ∃ ad, a = some ad ∧ ∀ j v, ((xs.take k).map (Value.int .u64))[j]? = some v → w.cell? (ad.add j) = some v := by
  have hl := h.len
  have hn : 0 < n := by simp at hp; omega
  obtain ⟨b, o, rfl, _, hc⟩ := h.at hn
  refine ⟨_, rfl, fun j v hj => ?_⟩
  have hjl := (List.getElem?_eq_some_iff.1 hj).1
  simp at hjl
  have hv : v = .int .u64 (xs.getD j 0) := by
    rw [List.getElem?_map, List.getElem?_take, if_pos (by omega), List.getElem?_eq_getElem (show j < xs.length by omega)] at hj
    rw [List.getD_eq_getElem?_getD, List.getElem?_eq_getElem (show j < xs.length by omega)]
    exact (Option.some.inj hj).symm
  rw [hv, Addr.add_lit]
  exact hc j (by omega)
theorem copy_len {xs : List Int} {n k : Nat} (h : xs.length = n) : ((xs.take k).map (Value.int .u64)).length = Nat.min n k := by
  show _ = min n k
  simp; omega
theorem one_ints (xs : List Int) : ∀ v ∈ xs.map (Value.int .u64), v.oneCell' = true := fun v hv => by obtain ⟨x, _, rfl⟩ := List.mem_map.1 hv; rfl
end
end Go.Proofs.Ytljlioglpaogdab
