/- croftref.Pairs; slices.Equal of pairs of ints. · slices.Equal of pairs of ints. -/
import Derived.Test.YtljlioglpaogdabToRows2
import Derived.Test.YtljlioglpaogdabToTrimC
import Derived.Test.YtljlioglpaogdabSortM
import Derived.Test.YtljlioglpaogdabToSameC
import Derived.Test.YtljlioglpaogdabProg
import Derived.Deep.QuietTactic
import Derived.BigQuiet
import Derived.BigRegion
import Derived.ChangeKeysEq
namespace Go.Proofs.Ytljlioglpaogdab
set_option linter.unusedVariables false
set_option maxRecDepth 100000
set_option maxHeartbeats 8000000
section
open Crm Go.RowKit
/-- The cells of pairs. -/
def ppc (l : List (Int × Int)) : List Value := l.flatMap fun p => [.int .i64 p.1, .int .i64 p.2]
theorem ppc_get : ∀ (l : List (Int × Int)) (i : Nat), i < l.length → (ppc l)[i * 2]? = some (.int .i64 (l.getD i (0, 0)).1) ∧ (ppc l)[i * 2 + 1]? = some (.int .i64 (l.getD i (0, 0)).2)
  | [], i, h => by simp at h
  | p :: l, 0, _ => ⟨rfl, rfl⟩
  | p :: l, i + 1, h => by
    have := ppc_get l i (by simpa using h)
    have e1 : (i + 1) * 2 = i * 2 + 1 + 1 := by omega
    rw [e1]
    exact this
/-- A slice of pairs of ints that is read. -/
structure RdP (w : World) (a : Option Addr) (n c : Nat) (l : List (Int × Int)) : Prop where
  len : l.length = n
  cap : n ≤ c
  max : c ≤ maxLen
  nil : a = none → c = 0
  cell : ∀ x, a = some x → ∀ i, i < n → w.cell? (x.add (i * 2)) = some (.int .i64 (l.getD i (0, 0)).1) ∧ w.cell? (x.add (i * 2 + 1)) = some (.int .i64 (l.getD i (0, 0)).2)
theorem RdP.one {w : World} {a : Option Addr} {n c : Nat} {l : List (Int × Int)} (h : RdP w a n c l) {k : Nat} (hk : k < n) :
    ∃ b o x y, a = some ⟨b, o, none⟩ ∧ b < w.heap.size ∧ Hid (l.getD k (0, 0) = (x, y)) ∧ w.cell? ⟨b, o + k * 2, none⟩ = some (.int .i64 x) ∧ w.cell? ⟨b, o + k * 2 + 1, none⟩ = some (.int .i64 y) := by
  cases ha : a with
  | none => have := h.nil ha; have := h.cap; omega
  | some x =>
    have h0 := (h.cell x ha 0 (by omega)).1
    have hs : x.spot = none := by
      have := spot_none h0
      unfold Addr.add at this
      split at this <;> simp_all
    obtain ⟨b, o, s⟩ := x
    simp only at hs
    subst hs
    have hb := World.block_lt_of_cell? w _ h0
    rw [Addr.add_lit] at hb
    have := h.cell _ ha k hk
    rw [Addr.add_lit, Addr.add_lit, ← Nat.add_assoc] at this
    exact ⟨b, o, _, _, rfl, hb, rfl, this.1, this.2⟩
theorem RdP.below {w w' : World} {a : Option Addr} {n c : Nat} {l : List (Int × Int)} (h : RdP w a n c l) (hb : Below w.heap.size w w') : RdP w' a n c l := by
  refine ⟨h.len, h.cap, h.max, h.nil, fun x hx i hi => ?_⟩
  have := h.cell x hx i hi
  rw [hb.cell (World.block_lt_of_cell? w _ this.1), hb.cell (World.block_lt_of_cell? w _ this.2)]
  exact this
theorem RdP.own {w : World} {base n : Nat} {E : TypeId} {v : Value} {l : List (Int × Int)} (h : w.ownsRow base E 2 v n (ppc l)) (hl : l.length = n) : ∃ a c, v = .slice a n c ∧ RdP w a n c l := by
  rcases h.2 with ⟨rfl, rfl⟩ | ⟨g, cap, cur, rfl, hb', hg, h1, h2, hs, ht⟩
  · exact ⟨none, 0, rfl, ⟨hl, Nat.le_refl _, Nat.zero_le _, fun _ => rfl, by simp⟩⟩
  · refine ⟨_, _, rfl, ⟨hl, h1, h2, by simp, fun x hx i hi => ?_⟩⟩
    obtain rfl := Option.some.inj hx
    have := ppc_get l i (by omega)
    exact ⟨h.cells (g := g) rfl _ _ this.1, h.cells (g := g) rfl _ _ this.2⟩
end
end Go.Proofs.Ytljlioglpaogdab
