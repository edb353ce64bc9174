/- Slices of rows of numbers that are read. · A list of numbers that was gathered and is then written in place (Oc); the lists that croftref.Leads gathers (Bas). -/
import Derived.Test.YtljlioglpaogdaeToBadM
import Derived.Test.YtljlioglpaogdaeToGaussM
namespace Go.Proofs.Ytljlioglpaogdae
set_option linter.unusedVariables false
set_option maxRecDepth 100000
set_option maxHeartbeats 8000000
section
open Crm Go.RowKit
/-- The slice reads as the rows rs. -/
structure RdR (w : World) (a : Option Addr) (n c : Nat) (rs : List (List Int)) : Prop where
  len : rs.length = n
  cap : n ≤ c
  max : c ≤ maxLen
  nil : a = none → c = 0
  row : ∀ x, a = some x → ∀ i, i < n → ∃ ai ci, w.cell? (x.add i) = some (.slice ai (rs.getD i []).length ci) ∧ Rd w ai (rs.getD i []).length ci (rs.getD i [])

theorem RdR.at {w : World} {a : Option Addr} {n c : Nat} {rs : List (List Int)} (h : RdR w a n c rs) {k : Nat} (hk : k < n) :
    ∃ b o, a = some ⟨b, o, none⟩ ∧ b < w.heap.size ∧ ∀ i, i < n → ∃ ai ci, w.cell? ⟨b, o + i, none⟩ = some (.slice ai (rs.getD i []).length ci) ∧ Rd w ai (rs.getD i []).length ci (rs.getD i []) := by
  cases ha : a with
  | none => have := h.nil ha; have := h.cap; omega
  | some x =>
    obtain ⟨a0, c0, h0, _⟩ := h.row x ha 0 (by omega)
    have hs : x.spot = none := by
      have := spot_none h0
      unfold Addr.add at this
      split at this <;> simp_all
    obtain ⟨b, o, s⟩ := x
    simp only at hs
    subst hs
    refine ⟨b, o, rfl, ?_, fun i hi => by
      obtain ⟨ai, ci, h1, h2⟩ := h.row _ ha i hi
      rw [Addr.add_lit] at h1
      exact ⟨ai, ci, h1, h2⟩⟩
    have := World.block_lt_of_cell? w _ h0
    rwa [Addr.add_lit] at this

/-- One row of it, by names of its own. -/
theorem RdR.one {w : World} {a : Option Addr} {n c : Nat} {rs : List (List Int)} (h : RdR w a n c rs) {k : Nat} (hk : k < n) :
    ∃ b o ai ni ci row, a = some ⟨b, o, none⟩ ∧ b < w.heap.size ∧ Hid (rs.getD k [] = row) ∧ w.cell? ⟨b, o + k, none⟩ = some (.slice ai ni ci) ∧ Rd w ai ni ci row := by
  obtain ⟨b, o, ha, hb, hr⟩ := h.at hk
  obtain ⟨ai, ci, h1, h2⟩ := hr k hk
  exact ⟨b, o, ai, _, ci, _, ha, hb, rfl, h1, h2⟩

theorem RdR.below {w w' : World} {a : Option Addr} {n c : Nat} {rs : List (List Int)} (h : RdR w a n c rs) (hb : Below w.heap.size w w') : RdR w' a n c rs := by
  refine ⟨h.len, h.cap, h.max, h.nil, fun x hx i hi => ?_⟩
  obtain ⟨ai, ci, h1, h2⟩ := h.row x hx i hi
  exact ⟨ai, ci, by rw [hb.cell (World.block_lt_of_cell? w _ h1)]; exact h1, h2.below hb⟩
structure Oc (w : World) (B : Nat) (a : Option Addr) (r c : Nat) (L : List Int) : Prop where
  len : L.length = r
  cap : r ≤ c
  max : c ≤ maxLen
  bd : ∀ x ∈ L, 0 ≤ x ∧ x ≤ 2147483646
  nil : a = none → c = 0
  blk : ∀ x, a = some x → ∃ (g : Nat) (cur : Array Value), x = ⟨g, 0, none⟩ ∧ B ≤ g ∧ w.heap[g]? = some (.cells cur 22 (0, 0)) ∧ cur.size = c ∧ ∀ i, i < r → cur[i]? = some (.int .u64 (L.getD i 0))

theorem Oc.at_ {w : World} {B : Nat} {a : Option Addr} {r c : Nat} {L : List Int} (h : Oc w B a r c L) {k : Nat} (hk : k < r) : ∃ g, a = some ⟨g, 0, none⟩ ∧ B ≤ g ∧ g < w.heap.size ∧ w.frozen? ⟨g, k, none⟩ = false ∧ w.cell? ⟨g, k, none⟩ = some (.int .u64 (L.getD k 0)) := by
  cases ha : a with
  | none => have := h.nil ha; have := h.cap; omega
  | some x =>
    obtain ⟨g, cur, rfl, hb, hg, hs, hc⟩ := h.blk x ha
    exact ⟨g, rfl, hb, (Array.getElem?_eq_some_iff.1 hg).1, frozen_of_row w g k _ _ hg, by rw [cell_of_row w g k _ _ (0, 0) hg]; exact hc k hk⟩
theorem Oc.nbd {w : World} {B : Nat} {a : Option Addr} {r c : Nat} {L : List Int} (h : Oc w B a r c L) (k : Nat) : 0 ≤ L.getD k 0 ∧ L.getD k 0 ≤ 2147483646 := getD_bd' h.bd k
theorem Oc.below {w : World} {B : Nat} {a : Option Addr} {r c : Nat} {L : List Int} (h : Oc w B a r c L) {w' : World} (hb : Below w.heap.size w w') : Oc w' B a r c L := by
  refine ⟨h.len, h.cap, h.max, h.bd, h.nil, fun x hx => ?_⟩
  obtain ⟨g, cur, h1, h2, h3, h4⟩ := h.blk x hx
  exact ⟨g, cur, h1, h2, by rw [hb.block g (Array.getElem?_eq_some_iff.1 h3).1]; exact h3, h4⟩
theorem Oc.drew {w : World} {B : Nat} {a : Option Addr} {r c : Nat} {L : List Int} (h : Oc w B a r c L) : Oc w.drew B a r c L := ⟨h.len, h.cap, h.max, h.bd, h.nil, h.blk⟩
theorem Oc.set {w : World} {B : Nat} {a : Option Addr} {r c : Nat} {L : List Int} (h : Oc w B a r c L) {g k : Nat} (ha : a = some ⟨g, 0, none⟩) {v : Int} (hv : 0 ≤ v ∧ v ≤ 2147483646) : Oc (w.setCell ⟨g, k, none⟩ (.int .u64 v)) B a r c (L.set k v) := by
  refine ⟨by rw [List.length_set]; exact h.len, h.cap, h.max, fun x hx => ?_, h.nil, fun x hx => ?_⟩
  · rcases List.mem_or_eq_of_mem_set hx with h1 | h1
    · exact h.bd x h1
    · rw [h1]; exact hv
  · obtain ⟨g', cur, h1, h2, h3, h4, h5⟩ := h.blk x hx
    rw [ha] at hx
    obtain rfl := Option.some.inj hx
    simp only [Addr.mk.injEq, and_true] at h1
    subst h1
    refine ⟨g, _, rfl, h2, heap_setCell_same w g k _ _ _ h3, by simpa using h4, fun i hi => ?_⟩
    rw [Array.getElem?_setIfInBounds, getD_set]
    have hcp := h.cap
    have hln := h.len
    by_cases e : k = i
    · subst e; simp [h4, hln, hi]; omega
    · rw [if_neg e, if_neg (fun hh => e hh.1)]; exact h5 i hi
theorem Oc.rd {w : World} {B : Nat} {a : Option Addr} {r c : Nat} {L : List Int} (h : Oc w B a r c L) : Rd w a r c L := by
  refine ⟨h.len, h.cap, h.max, bd_u64 h.bd, h.nil, fun x hx i hi => ?_⟩
  obtain ⟨g, cur, rfl, h2, h3, h4, h5⟩ := h.blk x hx
  rw [Addr.add_lit, Nat.zero_add, cell_of_row w g i _ _ (0, 0) h3]
  exact h5 i hi
end
end Go.Proofs.Ytljlioglpaogdae
