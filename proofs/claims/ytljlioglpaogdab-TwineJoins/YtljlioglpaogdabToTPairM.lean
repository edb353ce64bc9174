/- Slices of rows of numbers that are read. · croftref.Pairs: plain facts. -/
import Derived.Test.YtljlioglpaogdabToBadM
import Derived.Test.YtljlioglpaogdabToGaussM
namespace Go.Proofs.Ytljlioglpaogdab
set_option linter.unusedVariables false
set_option maxRecDepth 100000
set_option maxHeartbeats 8000000
section
open Crm Go.RowKit
/-- The slice reads as the rows rs. -/
structure RdR (w : World) (a : Option Addr) (n c : Nat) (rs : List (List Int)) : Prop where
  len : rs.length = n
  cap : n ≤ c
  max : c ≤ maxLen
  nil : a = none → c = 0
  row : ∀ x, a = some x → ∀ i, i < n → ∃ ai ci, w.cell? (x.add i) = some (.slice ai (rs.getD i []).length ci) ∧ Rd w ai (rs.getD i []).length ci (rs.getD i [])

theorem RdR.at {w : World} {a : Option Addr} {n c : Nat} {rs : List (List Int)} (h : RdR w a n c rs) {k : Nat} (hk : k < n) :
    ∃ b o, a = some ⟨b, o, none⟩ ∧ b < w.heap.size ∧ ∀ i, i < n → ∃ ai ci, w.cell? ⟨b, o + i, none⟩ = some (.slice ai (rs.getD i []).length ci) ∧ Rd w ai (rs.getD i []).length ci (rs.getD i []) := by
  cases ha : a with
  | none => have := h.nil ha; have := h.cap; omega
  | some x =>
    obtain ⟨a0, c0, h0, _⟩ := h.row x ha 0 (by omega)
    have hs : x.spot = none := by
      have := spot_none h0
      unfold Addr.add at this
      split at this <;> simp_all
    obtain ⟨b, o, s⟩ := x
    simp only at hs
    subst hs
    refine ⟨b, o, rfl, ?_, fun i hi => by
      obtain ⟨ai, ci, h1, h2⟩ := h.row _ ha i hi
      rw [Addr.add_lit] at h1
      exact ⟨ai, ci, h1, h2⟩⟩
    have := World.block_lt_of_cell? w _ h0
    rwa [Addr.add_lit] at this

/-- One row of it, by names of its own. -/
theorem RdR.one {w : World} {a : Option Addr} {n c : Nat} {rs : List (List Int)} (h : RdR w a n c rs) {k : Nat} (hk : k < n) :
    ∃ b o ai ni ci row, a = some ⟨b, o, none⟩ ∧ b < w.heap.size ∧ Hid (rs.getD k [] = row) ∧ w.cell? ⟨b, o + k, none⟩ = some (.slice ai ni ci) ∧ Rd w ai ni ci row := by
  obtain ⟨b, o, ha, hb, hr⟩ := h.at hk
  obtain ⟨ai, ci, h1, h2⟩ := hr k hk
  exact ⟨b, o, ai, _, ci, _, ha, hb, rfl, h1, h2⟩

theorem RdR.below {w w' : World} {a : Option Addr} {n c : Nat} {rs : List (List Int)} (h : RdR w a n c rs) (hb : Below w.heap.size w w') : RdR w' a n c rs := by
  refine ⟨h.len, h.cap, h.max, h.nil, fun x hx i hi => ?_⟩
  obtain ⟨ai, ci, h1, h2⟩ := h.row x hx i hi
  exact ⟨ai, ci, by rw [hb.cell (World.block_lt_of_cell? w _ h1)]; exact h1, h2.below hb⟩
end
section
open Crm
theorem dif_yes {l : List (Int × List Int)} {n r s : Nat} {i j : Int} (hr : r < n) (hs : s < n) (ei : ta l r = i) (ej : ta l s = j) (h : nm (ev (tc l r) j) ≠ nm (ev (tc l s) i)) : Dif l n i j := ⟨r, s, hr, hs, ei, ej, h⟩
theorem dis_idx {l : List (Int × List Int)} {n r s : Nat} (hd : dis (ta l) n) (hr : r < n) (hs : s < n) (h : ta l r = ta l s) : r = s := by
  rcases Nat.lt_trichotomy r s with e | e | e
  · exact absurd h ((hd s hs).2 r e)
  · exact e
  · exact absurd h.symm ((hd r hr).2 s e)
theorem dif_no {l : List (Int × List Int)} {n r s : Nat} {i j : Int} (hd : dis (ta l) n) (hr : r < n) (hs : s < n) (ei : ta l r = i) (ej : ta l s = j) (h : nm (ev (tc l r) j) = nm (ev (tc l s) i)) : ¬ Dif l n i j := by
  rintro ⟨r', s', hr', hs', ei', ej', h'⟩
  obtain rfl := dis_idx hd hr' hr (ei'.trans ei.symm)
  obtain rfl := dis_idx hd hs' hs (ej'.trans ej.symm)
  exact h' h
theorem dif_none1 {l : List (Int × List Int)} {n : Nat} {i j : Int} (h : ∀ r, r < n → ta l r ≠ i) : ¬ Dif l n i j := by
  rintro ⟨r, s, hr, hs, ei, ej, h'⟩; exact h r hr ei
theorem dif_none2 {l : List (Int × List Int)} {n : Nat} {i j : Int} (h : ∀ r, r < n → ta l r ≠ j) : ¬ Dif l n i j := by
  rintro ⟨r, s, hr, hs, ei, ej, h'⟩; exact h s hs ej
theorem dif_bd {l : List (Int × List Int)} {n : Nat} {i j : Int} (hd : dis (ta l) n) (h : Dif l n i j) : (1 ≤ i ∧ i ≤ 9) ∧ 1 ≤ j ∧ j ≤ 9 := by
  obtain ⟨r, s, hr, hs, ei, ej, _⟩ := h
  have h1 := (hd r hr).1
  have h2 := (hd s hs).1
  omega

/-- Pairs ahead of (i, j). -/
structure Prj (l : List (Int × List Int)) (n : Nat) (i j : Int) (L : List (Int × Int)) : Prop where
  up : L.Pairwise lexp
  mem : ∀ a b, (a, b) ∈ L ↔ (a < b ∧ Dif l n a b ∧ (a < i ∨ (a = i ∧ b < j)))
theorem prj_start {l : List (Int × List Int)} {n : Nat} (hd : dis (ta l) n) : Prj l n 1 2 [] := ⟨List.Pairwise.nil, fun a b => ⟨fun h => by simp at h, fun ⟨h1, h2, h3⟩ => by have := dif_bd hd h2; omega⟩⟩
theorem prj_skip {l : List (Int × List Int)} {n : Nat} {i j : Int} {L : List (Int × Int)} (h : Prj l n i j L) (hn : ¬ Dif l n i j) : Prj l n i (j + 1) L := by
  refine ⟨h.up, fun a b => ?_⟩
  rw [h.mem]
  constructor
  · rintro ⟨h1, h2, h3⟩; exact ⟨h1, h2, by omega⟩
  · rintro ⟨h1, h2, h3⟩
    refine ⟨h1, h2, ?_⟩
    by_cases e : a = i ∧ b = j
    · obtain ⟨rfl, rfl⟩ := e; exact absurd h2 hn
    · omega
theorem prj_add {l : List (Int × List Int)} {n : Nat} {i j : Int} {L : List (Int × Int)} (h : Prj l n i j L) (hij : i < j) (hd : Dif l n i j) : Prj l n i (j + 1) (L ++ [(i, j)]) := by
  refine ⟨?_, fun a b => ?_⟩
  · rw [List.pairwise_append]
    refine ⟨h.up, by simp, fun x hx y hy => ?_⟩
    rw [List.mem_singleton] at hy
    subst hy
    obtain ⟨a, b⟩ := x
    have := ((h.mem a b).1 hx).2.2
    unfold lexp
    simp only
    omega
  · rw [List.mem_append, h.mem, List.mem_singleton, Prod.mk.injEq]
    constructor
    · rintro (⟨h1, h2, h3⟩ | ⟨rfl, rfl⟩)
      · exact ⟨h1, h2, by omega⟩
      · exact ⟨hij, hd, by omega⟩
    · rintro ⟨h1, h2, h3⟩
      by_cases e : a = i ∧ b = j
      · exact .inr e
      · exact .inl ⟨h1, h2, by omega⟩
theorem prj_next {l : List (Int × List Int)} {n : Nat} {i : Int} {L : List (Int × Int)} (hd : dis (ta l) n) (h : Prj l n i 10 L) : Prj l n (i + 1) (i + 2) L := by
  refine ⟨h.up, fun a b => ?_⟩
  rw [h.mem]
  constructor
  · rintro ⟨h1, h2, h3⟩; exact ⟨h1, h2, by omega⟩
  · rintro ⟨h1, h2, h3⟩
    have := dif_bd hd h2
    exact ⟨h1, h2, by omega⟩
theorem prj_end {l : List (Int × List Int)} {n : Nat} {j : Int} {L : List (Int × Int)} (hd : dis (ta l) n) (h : Prj l n 10 j L) : Prs l n L := by
  refine ⟨h.up, fun a b => ?_⟩
  rw [h.mem]
  constructor
  · rintro ⟨h1, h2, h3⟩; exact ⟨h1, h2⟩
  · rintro ⟨h1, h2⟩
    have := dif_bd hd h2
    exact ⟨h1, h2, by omega⟩
end
end Go.Proofs.Ytljlioglpaogdab
