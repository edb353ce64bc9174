/- Slices of calls (croftlaw.Call) that are read; one that came in. -/
import Derived.Test.YtljlioglpaogdafToBadM
import Derived.Test.YtljlioglpaogdafToCheckC
import Derived.Deep.SlicePairs
import Derived.ChangeSame
import Derived.WalkKit
import Derived.ProofKit
import Derived.OpenShut
import Derived.ShutString
import Derived.ChangeOld
import Derived.Below
namespace Go.Proofs.Ytljlioglpaogdaf
set_option linter.unusedVariables false
set_option maxRecDepth 100000
set_option maxHeartbeats 8000000
section
open Crm Go.ChangeAt Go.ChangeShapes Go.RowKit Go.WideShapes
/-- A call: its kind, two handles, two numbers, draws. -/
structure Cl where
  k : Int
  g : Int
  h : Int
  a : Int
  b : Int
  ds : List Int
/-- What is known of one call, its cells at x. -/
def ClAt (w : World) (x : Addr) (c : Cl) : Prop :=
  (w.cell? x = some (.int .i64 c.k) ∧ w.cell? (x.add 1) = some (.int .i64 c.g) ∧ w.cell? (x.add 2) = some (.int .i64 c.h) ∧ w.cell? (x.add 3) = some (.int .u64 c.a) ∧ w.cell? (x.add 4) = some (.int .u64 c.b) ∧ ∃ ad q cd, w.cell? (x.add 5) = some (.slice ad q cd) ∧ Rd w ad q cd c.ds) ∧
  (-9223372036854775808 ≤ c.k ∧ c.k ≤ 9223372036854775807) ∧ (-9223372036854775808 ≤ c.g ∧ c.g ≤ 9223372036854775807) ∧ (-9223372036854775808 ≤ c.h ∧ c.h ≤ 9223372036854775807) ∧ (0 ≤ c.a ∧ c.a ≤ 18446744073709551615) ∧ (0 ≤ c.b ∧ c.b ≤ 18446744073709551615)
/-- The slice reads as the calls L. -/
structure RdC (w : World) (a : Option Addr) (n c : Nat) (L : List Cl) : Prop where
  len : L.length = n
  cap : n ≤ c
  max : c ≤ maxLen
  nil : a = none → c = 0
  cell : ∀ x, a = some x → ∀ i, (hi : i < L.length) → ClAt w (x.add (i * 6)) L[i]
theorem RdC.one {w : World} {a : Option Addr} {n c : Nat} {L : List Cl} (h : RdC w a n c L) {i : Nat} (hi : i < n) :
    ∃ b o k g x u v ad q cd ds, a = some ⟨b, o, none⟩ ∧ b < w.heap.size ∧ Hid (L[i]? = some ⟨k, g, x, u, v, ds⟩) ∧ (-9223372036854775808 ≤ k ∧ k ≤ 9223372036854775807) ∧ (-9223372036854775808 ≤ g ∧ g ≤ 9223372036854775807) ∧ (-9223372036854775808 ≤ x ∧ x ≤ 9223372036854775807) ∧ (0 ≤ u ∧ u ≤ 18446744073709551615) ∧ (0 ≤ v ∧ v ≤ 18446744073709551615) ∧ Rd w ad q cd ds ∧
      w.cell? ⟨b, o + i * 6, none⟩ = some (.int .i64 k) ∧ w.cell? ⟨b, o + i * 6 + 1, none⟩ = some (.int .i64 g) ∧ w.cell? ⟨b, o + i * 6 + 2, none⟩ = some (.int .i64 x) ∧ w.cell? ⟨b, o + i * 6 + 3, none⟩ = some (.int .u64 u) ∧ w.cell? ⟨b, o + i * 6 + 4, none⟩ = some (.int .u64 v) ∧ w.cell? ⟨b, o + i * 6 + 5, none⟩ = some (.slice ad q cd) := by
  have hl := h.len
  cases ha : a with
  | none => have := h.nil ha; have := h.cap; omega
  | some y =>
    have hc := h.cell y ha i (by omega)
    obtain ⟨⟨c0, c1, c2, c3, c4, ad, q, cd, c5, hr⟩, b0, b1, b2, b3, b4⟩ := hc
    have z0 := (h.cell y ha 0 (by omega)).1.1
    rw [Nat.zero_mul] at z0
    have hs : y.spot = none := by
      have := spot_none z0
      unfold Addr.add at this
      split at this <;> simp_all
    obtain ⟨b, o, s⟩ := y
    simp only at hs
    subst hs
    rw [Addr.add_lit] at c0 c1 c2 c3 c4 c5
    rw [Addr.add_lit] at c1 c2 c3 c4 c5
    have hb := World.block_lt_of_cell? w _ c0
    refine ⟨b, o, _, _, _, _, _, ad, q, cd, _, rfl, hb, ?_, b0, b1, b2, b3, b4, hr, c0, c1, c2, c3, c4, c5⟩
    unfold Hid
    rw [List.getElem?_eq_getElem (by omega)]
theorem RdC.below {w w' : World} {a : Option Addr} {n c : Nat} {L : List Cl} (h : RdC w a n c L) (hb : Below w.heap.size w w') : RdC w' a n c L := by
  refine ⟨h.len, h.cap, h.max, h.nil, fun x hx i hi => ?_⟩
  obtain ⟨⟨c0, c1, c2, c3, c4, ad, q, cd, c5, hr⟩, b⟩ := h.cell x hx i hi
  have e : ∀ {p : Addr} {v : Value}, w.cell? p = some v → w'.cell? p = some v := fun {p v} hc => by rw [hb.cell (World.block_lt_of_cell? w _ hc)]; exact hc
  exact ⟨⟨e c0, e c1, e c2, e c3, e c4, ad, q, cd, e c5, hr.below hb⟩, b⟩
end
end Go.Proofs.Ytljlioglpaogdaf
