/- Slices of rows of numbers that are read. -/
import Derived.Test.YtcfegjmmicgagadSlice
import Derived.Test.YtcfegjmmicgagadGaussM
namespace Go.Proofs.Ytcfegjmmicgagad
open Go.RowKit Crm

/-- The slice reads as the rows rs. -/
structure RdR (w : World) (a : Option Addr) (n c : Nat) (rs : List (List Int)) : Prop where
  len : rs.length = n
  cap : n ≤ c
  max : c ≤ maxLen
  nil : a = none → c = 0
  row : ∀ x, a = some x → ∀ i, i < n → ∃ ai ci, w.cell? (x.add i) = some (.slice ai (rs.getD i []).length ci) ∧ Rd w ai (rs.getD i []).length ci (rs.getD i [])

theorem RdR.at {w : World} {a : Option Addr} {n c : Nat} {rs : List (List Int)} (h : RdR w a n c rs) {k : Nat} (hk : k < n) :
    ∃ b o, a = some ⟨b, o, none⟩ ∧ b < w.heap.size ∧ ∀ i, i < n → ∃ ai ci, w.cell? ⟨b, o + i, none⟩ = some (.slice ai (rs.getD i []).length ci) ∧ Rd w ai (rs.getD i []).length ci (rs.getD i []) := by
  cases ha : a with
  | none => have := h.nil ha; have := h.cap; omega
  | some x =>
    obtain ⟨a0, c0, h0, _⟩ := h.row x ha 0 (by omega)
    have hs : x.spot = none := by
      have := spot_none h0
      unfold Addr.add at this
      split at this <;> simp_all
    obtain ⟨b, o, s⟩ := x
    simp only at hs
    subst hs
    refine ⟨b, o, rfl, ?_, fun i hi => by
      obtain ⟨ai, ci, h1, h2⟩ := h.row _ ha i hi
      rw [Addr.add_lit] at h1
      exact ⟨ai, ci, h1, h2⟩⟩
    have := World.block_lt_of_cell? w _ h0
    rwa [Addr.add_lit] at this

/-- One row of it, by names of its own. -/
theorem RdR.one {w : World} {a : Option Addr} {n c : Nat} {rs : List (List Int)} (h : RdR w a n c rs) {k : Nat} (hk : k < n) :
    ∃ b o ai ni ci row, a = some ⟨b, o, none⟩ ∧ b < w.heap.size ∧ Hid (rs.getD k [] = row) ∧ w.cell? ⟨b, o + k, none⟩ = some (.slice ai ni ci) ∧ Rd w ai ni ci row := by
  obtain ⟨b, o, ha, hb, hr⟩ := h.at hk
  obtain ⟨ai, ci, h1, h2⟩ := hr k hk
  exact ⟨b, o, ai, _, ci, _, ha, hb, rfl, h1, h2⟩

theorem RdR.below {w w' : World} {a : Option Addr} {n c : Nat} {rs : List (List Int)} (h : RdR w a n c rs) (hb : Below w.heap.size w w') : RdR w' a n c rs := by
  refine ⟨h.len, h.cap, h.max, h.nil, fun x hx i hi => ?_⟩
  obtain ⟨ai, ci, h1, h2⟩ := h.row x hx i hi
  exact ⟨ai, ci, by rw [hb.cell (World.block_lt_of_cell? w _ h1)]; exact h1, h2.below hb⟩

/-- The numbers of rows, by row and column. -/
def mat (rs : List (List Int)) (i j : Nat) : Int := (rs.getD i []).getD j 0
end Go.Proofs.Ytcfegjmmicgagad
