/- Slices of gates (api.Gate) that are read. · circuit.shapes: a variable that start-up lays. -/
import Derived.Test.YtljlioglpaogdabDoorToShamirM
import Derived.Test.YtljlioglpaogdabDoorCircM
namespace Go.Proofs.YtljlioglpaogdabDoor
set_option linter.unusedVariables false
set_option maxRecDepth 100000
set_option maxHeartbeats 8000000
section
open Crm Go.RowKit
/-- The slice reads as the gates G. -/
structure RdG (w : World) (a : Option Addr) (n c : Nat) (G : List Gt) : Prop where
  len : G.length = n
  cap : n ≤ c
  max : c ≤ maxLen
  nil : a = none → c = 0
  bd : ∀ i, i < n → (-9223372036854775808 ≤ (gt G i).k ∧ (gt G i).k ≤ 9223372036854775807) ∧ (-9223372036854775808 ≤ (gt G i).a ∧ (gt G i).a ≤ 9223372036854775807) ∧ (-9223372036854775808 ≤ (gt G i).b ∧ (gt G i).b ≤ 9223372036854775807) ∧ 0 ≤ (gt G i).n ∧ (gt G i).n ≤ 18446744073709551615
  cell : ∀ x, a = some x → ∀ i, i < n → w.cell? (x.add (i * 4)) = some (.int .i64 (gt G i).k) ∧ w.cell? (x.add (i * 4 + 1)) = some (.int .i64 (gt G i).a) ∧ w.cell? (x.add (i * 4 + 2)) = some (.int .i64 (gt G i).b) ∧ w.cell? (x.add (i * 4 + 3)) = some (.int .u64 (gt G i).n)
theorem RdG.at {w : World} {a : Option Addr} {n c : Nat} {G : List Gt} (h : RdG w a n c G) {k : Nat} (hk : k < n) :
    ∃ b o, a = some ⟨b, o, none⟩ ∧ b < w.heap.size ∧ ∀ i, i < n → w.cell? ⟨b, o + i * 4, none⟩ = some (.int .i64 (gt G i).k) ∧ w.cell? ⟨b, o + i * 4 + 1, none⟩ = some (.int .i64 (gt G i).a) ∧ w.cell? ⟨b, o + i * 4 + 2, none⟩ = some (.int .i64 (gt G i).b) ∧ w.cell? ⟨b, o + i * 4 + 3, none⟩ = some (.int .u64 (gt G i).n) := by
  cases ha : a with
  | none => have := h.nil ha; have := h.cap; omega
  | some x =>
    have h0 := (h.cell x ha 0 (by omega)).1
    have hs : x.spot = none := by
      have := spot_none h0
      unfold Addr.add at this
      split at this <;> simp_all
    obtain ⟨b, o, s⟩ := x
    simp only at hs
    subst hs
    refine ⟨b, o, rfl, ?_, fun i hi => by have := h.cell _ ha i hi; rwa [Addr.add_lit, Addr.add_lit, Addr.add_lit, Addr.add_lit, ← Nat.add_assoc, ← Nat.add_assoc, ← Nat.add_assoc] at this⟩
    have := World.block_lt_of_cell? w _ h0
    rwa [Addr.add_lit] at this
/-- One gate of it, by names of its own. -/
theorem RdG.one {w : World} {a : Option Addr} {n c : Nat} {G : List Gt} (h : RdG w a n c G) {i : Nat} (hi : i < n) :
    ∃ b o k x y z, a = some ⟨b, o, none⟩ ∧ b < w.heap.size ∧ Hid (gt G i = ⟨k, x, y, z⟩) ∧ (-9223372036854775808 ≤ k ∧ k ≤ 9223372036854775807) ∧ (-9223372036854775808 ≤ x ∧ x ≤ 9223372036854775807) ∧ (-9223372036854775808 ≤ y ∧ y ≤ 9223372036854775807) ∧ (0 ≤ z ∧ z ≤ 18446744073709551615) ∧
      w.cell? ⟨b, o + i * 4, none⟩ = some (.int .i64 k) ∧ w.cell? ⟨b, o + i * 4 + 1, none⟩ = some (.int .i64 x) ∧ w.cell? ⟨b, o + i * 4 + 2, none⟩ = some (.int .i64 y) ∧ w.cell? ⟨b, o + i * 4 + 3, none⟩ = some (.int .u64 z) := by
  obtain ⟨b, o, ha, hb, hr⟩ := h.at hi
  obtain ⟨c1, c2, c3, c4⟩ := hr i hi
  obtain ⟨d1, d2, d3, d4⟩ := h.bd i hi
  exact ⟨b, o, _, _, _, _, ha, hb, rfl, d1, d2, d3, d4, c1, c2, c3, c4⟩
theorem RdG.below {w w' : World} {a : Option Addr} {n c : Nat} {G : List Gt} (h : RdG w a n c G) (hb : Below w.heap.size w w') : RdG w' a n c G := by
  refine ⟨h.len, h.cap, h.max, h.nil, h.bd, fun x hx i hi => ?_⟩
  obtain ⟨c1, c2, c3, c4⟩ := h.cell x hx i hi
  exact ⟨by rw [hb.cell (World.block_lt_of_cell? w _ c1)]; exact c1, by rw [hb.cell (World.block_lt_of_cell? w _ c2)]; exact c2, by rw [hb.cell (World.block_lt_of_cell? w _ c3)]; exact c3, by rw [hb.cell (World.block_lt_of_cell? w _ c4)]; exact c4⟩
theorem RdG.drew {w : World} {a : Option Addr} {n c : Nat} {G : List Gt} (h : RdG w a n c G) : RdG w.drew a n c G := ⟨h.len, h.cap, h.max, h.nil, h.bd, h.cell⟩
theorem RdG.drewN {w : World} {a : Option Addr} {n c : Nat} {G : List Gt} (h : RdG w a n c G) (q : Nat) : RdG (w.drewN q) a n c G := ⟨h.len, h.cap, h.max, h.nil, h.bd, h.cell⟩
def shw (k : Nat) : ByteArray := ([⟨#[]⟩, ⟨#[105, 110, 112, 117, 116]⟩, ⟨#[99, 111, 110, 115, 116]⟩, ⟨#[97, 100, 100]⟩, ⟨#[115, 117, 98]⟩, ⟨#[109, 117, 108]⟩, ⟨#[115, 99, 97, 108, 101]⟩] : List ByteArray).getD k ⟨#[]⟩
def shA (k : Nat) : Bool := [false, true, false, true, true, true, true].getD k false
def shB (k : Nat) : Bool := [false, false, false, true, true, true, false].getD k false
def shN (k : Nat) : Bool := [false, false, true, false, false, false, true].getD k false
/-- The shapes lie as the text lays them. -/
def Shp (w : World) : Prop := ∀ i, i < 7 → w.cell? ⟨1, i * 4, none⟩ = some (.string (shw i)) ∧ w.cell? ⟨1, i * 4 + 1, none⟩ = some (.bool (shA i)) ∧ w.cell? ⟨1, i * 4 + 2, none⟩ = some (.bool (shB i)) ∧ w.cell? ⟨1, i * 4 + 3, none⟩ = some (.bool (shN i))
theorem Shp.below {w w' : World} (h : Shp w) (hb : Below w.heap.size w w') : Shp w' := fun i hi => by
  obtain ⟨h0, h1, h2, h3⟩ := h i hi
  exact ⟨by rw [hb.cell (World.block_lt_of_cell? w _ h0)]; exact h0, by rw [hb.cell (World.block_lt_of_cell? w _ h1)]; exact h1, by rw [hb.cell (World.block_lt_of_cell? w _ h2)]; exact h2, by rw [hb.cell (World.block_lt_of_cell? w _ h3)]; exact h3⟩
theorem Shp.drewN {w : World} (h : Shp w) (q : Nat) : Shp (w.drewN q) := h
theorem Shp.lt {w : World} (h : Shp w) : 1 < w.heap.size := World.block_lt_of_cell? w _ (h 0 (by omega)).1
theorem Shp.at1 {w : World} (h : Shp w) : w.cell? ⟨1, 4, none⟩ = some (.string ⟨#[105, 110, 112, 117, 116]⟩) ∧ w.cell? ⟨1, 5, none⟩ = some (.bool true) ∧ w.cell? ⟨1, 6, none⟩ = some (.bool false) ∧ w.cell? ⟨1, 7, none⟩ = some (.bool false) := h 1 (by omega)
theorem Shp.at2 {w : World} (h : Shp w) : w.cell? ⟨1, 8, none⟩ = some (.string ⟨#[99, 111, 110, 115, 116]⟩) ∧ w.cell? ⟨1, 9, none⟩ = some (.bool false) ∧ w.cell? ⟨1, 10, none⟩ = some (.bool false) ∧ w.cell? ⟨1, 11, none⟩ = some (.bool true) := h 2 (by omega)
theorem Shp.at3 {w : World} (h : Shp w) : w.cell? ⟨1, 12, none⟩ = some (.string ⟨#[97, 100, 100]⟩) ∧ w.cell? ⟨1, 13, none⟩ = some (.bool true) ∧ w.cell? ⟨1, 14, none⟩ = some (.bool true) ∧ w.cell? ⟨1, 15, none⟩ = some (.bool false) := h 3 (by omega)
theorem Shp.at4 {w : World} (h : Shp w) : w.cell? ⟨1, 16, none⟩ = some (.string ⟨#[115, 117, 98]⟩) ∧ w.cell? ⟨1, 17, none⟩ = some (.bool true) ∧ w.cell? ⟨1, 18, none⟩ = some (.bool true) ∧ w.cell? ⟨1, 19, none⟩ = some (.bool false) := h 4 (by omega)
theorem Shp.at5 {w : World} (h : Shp w) : w.cell? ⟨1, 20, none⟩ = some (.string ⟨#[109, 117, 108]⟩) ∧ w.cell? ⟨1, 21, none⟩ = some (.bool true) ∧ w.cell? ⟨1, 22, none⟩ = some (.bool true) ∧ w.cell? ⟨1, 23, none⟩ = some (.bool false) := h 5 (by omega)
theorem Shp.at6 {w : World} (h : Shp w) : w.cell? ⟨1, 24, none⟩ = some (.string ⟨#[115, 99, 97, 108, 101]⟩) ∧ w.cell? ⟨1, 25, none⟩ = some (.bool true) ∧ w.cell? ⟨1, 26, none⟩ = some (.bool false) ∧ w.cell? ⟨1, 27, none⟩ = some (.bool true) := h 6 (by omega)
end
end Go.Proofs.YtljlioglpaogdabDoor
