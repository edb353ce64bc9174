/- poly.Norm, poly.Mul, poly.Eval. · shamir.Deal. -/
import Derived.Test.YtljlioglpaogdabToTrimC
import Derived.Test.YtljlioglpaogdabToPolyM3
import Derived.Test.YtljlioglpaogdabToRows2
import Derived.Test.YtljlioglpaogdabToSameC
import Derived.Deep.RegionWith
import Derived.Laws.AppendOwnNone
namespace Go.Proofs.Ytljlioglpaogdab
set_option linter.unusedVariables false
set_option maxRecDepth 100000
set_option maxHeartbeats 8000000
section
open Crm Go.RowKit
theorem cEvalOK (a : Option Addr) (n c : Nat) (xs : List Int) (x : Int) (w : World) (h : Rd w a n c xs) (hn : n ≤ 40) (hx0 : 0 ≤ x) (hx1 : x ≤ 18446744073709551615) :
    Calls Try.prog 72 #[.slice a n c, .int .u64 x] w fun e w' => e = .returned (.tuple #[.int .u64 (nm (ev xs x)), .int .i64 0]) ∧ Below w.heap.size w w' := by
  go_enter Try.func72, Try.ntmps72
  go_wp2_with (go_at_call 90; refine (cValue _ _ _ _ _ _ h hx0 hx1).mono ?_; rintro e w1 ⟨rfl, hbel⟩)
  go_ret2
  exact ⟨rfl, hbel⟩
/-- A list that is filled from its beginning on. -/
def fil (f : Nat → Int) (n k : Nat) : List Int := (List.range n).map fun i => if i < k then f i else 0
theorem fil_len (f : Nat → Int) (n k : Nat) : (fil f n k).length = n := by simp [fil]
theorem fil_zero (f : Nat → Int) (n : Nat) : List.replicate n 0 = fil f n 0 := by
  refine list_ext (by simp [fil]) fun t ht => ?_
  have : t < n := by simpa using ht
  simp [fil, this]
theorem fil_set {f : Nat → Int} {n k : Nat} {v : Int} (hv : v = f k) : (fil f n k).set k v = fil f n (k + 1) := by
  refine list_ext (by simp [fil]) fun t ht => ?_
  have htn : t < n := by simpa [fil] using ht
  rw [getD_set, fil_len]
  by_cases e : k = t
  · subst e
    rw [if_pos ⟨rfl, htn⟩, hv]
    simp [fil, htn]
  · rw [if_neg (fun h => e h.1)]
    have : (t < k + 1) = (t < k) := by apply propext; omega
    simp [fil, htn, this]
theorem fil_full (f : Nat → Int) (n : Nat) : fil f n n = (List.range n).map f := by
  refine list_ext (by simp [fil]) fun t ht => ?_
  have htn : t < n := by simpa [fil] using ht
  simp [fil, htn]
/-- One number, and a slice behind it; where it lies. -/
theorem wpList_appRB {P : Program} {T : TypeId} (hT : P.underlying T = some (.slice 28)) (info : (P.info? 28).map (fun i => (i.zero, i.size, i.bytes)) = some (some (.int .u64 0), 1, 8))
    (w : World) {ops : Array Oper} {rest : List Oper} {o : Oper} {a : Act} {Q : Exit → Act → World → Prop} (hgd : o.guard = none) (s x : Operand)
    (ho : o.op = .call { callee := .builtin .append, args := #[s, x], argTypes := #[T, T] }) (y : Int) (hy0 : 0 ≤ y) (hy1 : y ≤ 18446744073709551615)
    (a0 : Option Addr) (m c : Nat) (xs : List Int) (hR : Rd w a0 m c xs) (hs : a.eval s = .slice (some ⟨w.heap.size, 0, none⟩) 1 1) (hx : a.eval x = .slice a0 m c) (hm : m ≤ 1000)
    (h : ∀ a' c' w', Rd w' a' (m + 1) c' (y :: xs) → (∀ x, a' = some x → w.heap.size ≤ x.block) → Below w.heap.size w w' → wpList P ops Q rest (a.put o.dst (.slice a' (m + 1) c')) w') :
    wpList P ops Q (o :: rest) a (w.alloc (.cells #[.int .u64 y] 28)) := by
  obtain ⟨i0, hi, hz0, hz1, hz2⟩ := info_parts info
  have hb : Below w.heap.size w (w.alloc (.cells #[.int .u64 y] 28)) := (Below.refl _ _).alloc (Nat.le_refl _) _
  have hown : (w.alloc (.cells #[.int .u64 y] 28)).ownsRow w.heap.size 28 1 (.slice (some ⟨w.heap.size, 0, none⟩) 1 1) 1 [.int .u64 y] :=
    ⟨rfl, Or.inr ⟨_, 1, #[.int .u64 y], rfl, Nat.le_refl _, heap_alloc_new w _, Nat.le_refl _, by unfold maxLen; omega, rfl, rfl⟩⟩
  have hbd : ∀ z ∈ y :: xs, 0 ≤ z ∧ z ≤ 18446744073709551615 := by
    intro z hz
    rcases List.mem_cons.1 hz with rfl | hz
    · exact ⟨hy0, hy1⟩
    · exact hR.bd z hz
  have hl := hR.len
  cases a0 with
  | none =>
    have hc := hR.nil rfl
    have hcap := hR.cap
    obtain rfl : m = 0 := by omega
    subst hc
    obtain rfl : xs = [] := List.eq_nil_of_length_eq_zero hl
    refine wpList_append_own_none hgd s x T ho w.heap.size 28 i0 1 hT hi _ 1 _ hs hown hx ?_
    obtain ⟨a', c', e, hr, hx⟩ := Rd.own (xs := [y]) hown hbd
    rw [e]
    exact h a' c' _ hr hx hb
  | some ad =>
    refine wpList_append_own _ hgd s x T ho w.heap.size 28 i0 (.int .u64 0) 1 8 hT hi hz0 hz1 hz2 rfl (by decide) _ 1 _ hs hown ad m c (xs.map (Value.int .u64)) hx (by rw [List.length_map, hl, Nat.mul_one]) ?_ ?_ (by unfold maxLen; omega) (by omega) (by simp) ?_
    · intro j u hj
      rw [List.getElem?_map] at hj
      have hjl : j < xs.length := by
        rcases Nat.lt_or_ge j xs.length with h' | h'
        · exact h'
        · rw [List.getElem?_eq_none h'] at hj; cases hj
      rw [getD_some hjl] at hj
      simp only [Option.map_some, Option.some.injEq] at hj
      rw [← hj]
      exact (hR.below hb).cell ad rfl j (by omega)
    · intro u hu
      obtain ⟨z, _, rfl⟩ := List.mem_map.1 hu
      rfl
    · intro v' w' hown' hgrow _
      rw [Nat.add_comm] at hown'
      obtain ⟨a', c', rfl, hr, hx⟩ := Rd.own (xs := y :: xs) hown' hbd
      refine h a' c' w' hr hx (hb.grown hgrow (by simp) (fun k hk => ?_))
      simp [Value.ownBlock] at hk
      omega
end
end Go.Proofs.Ytljlioglpaogdab
