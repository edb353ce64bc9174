/- circuit.shapes: a variable that start-up lays. · croftref.digits. -/
import Derived.Test.YtmpnaobjgknfkafDoorToGatesR
import Derived.Test.YtmpnaobjgknfkafDoorToOwnC
import Derived.Laws.Strings
namespace Go.Proofs.YtmpnaobjgknfkafDoor
open Go.RowKit Crm

def shw (k : Nat) : ByteArray := ([⟨#[]⟩, ⟨#[105, 110, 112, 117, 116]⟩, ⟨#[99, 111, 110, 115, 116]⟩, ⟨#[97, 100, 100]⟩, ⟨#[115, 117, 98]⟩, ⟨#[109, 117, 108]⟩, ⟨#[115, 99, 97, 108, 101]⟩] : List ByteArray).getD k ⟨#[]⟩
def shA (k : Nat) : Bool := [false, true, false, true, true, true, true].getD k false
def shB (k : Nat) : Bool := [false, false, false, true, true, true, false].getD k false
def shN (k : Nat) : Bool := [false, false, true, false, false, false, true].getD k false
/-- The shapes lie as the text lays them. -/
def Shp (w : World) : Prop := ∀ i, i < 7 → w.cell? ⟨0, i * 4, none⟩ = some (.string (shw i)) ∧ w.cell? ⟨0, i * 4 + 1, none⟩ = some (.bool (shA i)) ∧ w.cell? ⟨0, i * 4 + 2, none⟩ = some (.bool (shB i)) ∧ w.cell? ⟨0, i * 4 + 3, none⟩ = some (.bool (shN i))
theorem Shp.below {w w' : World} (h : Shp w) (hb : Below w.heap.size w w') : Shp w' := fun i hi => by
  obtain ⟨h0, h1, h2, h3⟩ := h i hi
  exact ⟨by rw [hb.cell (World.block_lt_of_cell? w _ h0)]; exact h0, by rw [hb.cell (World.block_lt_of_cell? w _ h1)]; exact h1, by rw [hb.cell (World.block_lt_of_cell? w _ h2)]; exact h2, by rw [hb.cell (World.block_lt_of_cell? w _ h3)]; exact h3⟩
theorem Shp.drewN {w : World} (h : Shp w) (q : Nat) : Shp (w.drewN q) := h
theorem Shp.lt {w : World} (h : Shp w) : 0 < w.heap.size := World.block_lt_of_cell? w _ (h 0 (by omega)).1
theorem Shp.at0 {w : World} (h : Shp w) : w.cell? ⟨0, 0, none⟩ = some (.string ⟨#[]⟩) ∧ w.cell? ⟨0, 1, none⟩ = some (.bool false) ∧ w.cell? ⟨0, 2, none⟩ = some (.bool false) ∧ w.cell? ⟨0, 3, none⟩ = some (.bool false) := h 0 (by omega)
theorem Shp.at1 {w : World} (h : Shp w) : w.cell? ⟨0, 4, none⟩ = some (.string ⟨#[105, 110, 112, 117, 116]⟩) ∧ w.cell? ⟨0, 5, none⟩ = some (.bool true) ∧ w.cell? ⟨0, 6, none⟩ = some (.bool false) ∧ w.cell? ⟨0, 7, none⟩ = some (.bool false) := h 1 (by omega)
theorem Shp.at2 {w : World} (h : Shp w) : w.cell? ⟨0, 8, none⟩ = some (.string ⟨#[99, 111, 110, 115, 116]⟩) ∧ w.cell? ⟨0, 9, none⟩ = some (.bool false) ∧ w.cell? ⟨0, 10, none⟩ = some (.bool false) ∧ w.cell? ⟨0, 11, none⟩ = some (.bool true) := h 2 (by omega)
theorem Shp.at3 {w : World} (h : Shp w) : w.cell? ⟨0, 12, none⟩ = some (.string ⟨#[97, 100, 100]⟩) ∧ w.cell? ⟨0, 13, none⟩ = some (.bool true) ∧ w.cell? ⟨0, 14, none⟩ = some (.bool true) ∧ w.cell? ⟨0, 15, none⟩ = some (.bool false) := h 3 (by omega)
theorem Shp.at4 {w : World} (h : Shp w) : w.cell? ⟨0, 16, none⟩ = some (.string ⟨#[115, 117, 98]⟩) ∧ w.cell? ⟨0, 17, none⟩ = some (.bool true) ∧ w.cell? ⟨0, 18, none⟩ = some (.bool true) ∧ w.cell? ⟨0, 19, none⟩ = some (.bool false) := h 4 (by omega)
theorem Shp.at5 {w : World} (h : Shp w) : w.cell? ⟨0, 20, none⟩ = some (.string ⟨#[109, 117, 108]⟩) ∧ w.cell? ⟨0, 21, none⟩ = some (.bool true) ∧ w.cell? ⟨0, 22, none⟩ = some (.bool true) ∧ w.cell? ⟨0, 23, none⟩ = some (.bool false) := h 5 (by omega)
theorem Shp.at6 {w : World} (h : Shp w) : w.cell? ⟨0, 24, none⟩ = some (.string ⟨#[115, 99, 97, 108, 101]⟩) ∧ w.cell? ⟨0, 25, none⟩ = some (.bool true) ∧ w.cell? ⟨0, 26, none⟩ = some (.bool false) ∧ w.cell? ⟨0, 27, none⟩ = some (.bool true) := h 6 (by omega)
end Go.Proofs.YtmpnaobjgknfkafDoor

namespace Go.Proofs.YtmpnaobjgknfkafDoor
open Go.RowKit Crm

/-- Byte i of a text. -/
def bt (s : ByteArray) (i : Nat) : Int := ((s.get! i).toNat : Int)
theorem bt_bd (s : ByteArray) (i : Nat) : 0 ≤ bt s i ∧ bt s i ≤ 255 := by
  have := (s.get! i).toNat_lt
  unfold bt
  omega
theorem bt_get (s : ByteArray) {i : Nat} (h : i < s.size) : ((s[i]'h).toNat : Int) = bt s i := by
  unfold bt
  have : s.get! i = s[i]'h := getElem!_pos s.data i h
  rw [this]
theorem bt_run {P : Program} {t : TypeId} (ht : P.underlying t = some .string) (s : ByteArray) {i : Nat} (h : i < s.size) (w : World) : (Instr.index t (.string s) (.int .i64 (i : Int))).run P w = .ok (.int .u8 (bt s i)) w := by
  rw [run_index_string w t s .i64 (i : Int) ht, dif_pos ⟨by omega, by omega⟩]
  simp only [Int.toNat_natCast]
  rw [bt_get s h]
/-- The number of the first k digits. -/
def dgn (s : ByteArray) : Nat → Int
  | 0 => 0
  | k + 1 => dgn s k * 10 + bt s k - 48
/-- The first k bytes are digits. -/
def dgs (s : ByteArray) (k : Nat) : Prop := ∀ i, i < k → 48 ≤ bt s i ∧ bt s i ≤ 57
theorem dgs_zero (s : ByteArray) : dgs s 0 := fun i hi => by omega
theorem dgs_succ {s : ByteArray} {k : Nat} (h : dgs s k) (h0 : 48 ≤ bt s k) (h1 : bt s k ≤ 57) : dgs s (k + 1) := fun i hi => by
  by_cases e : i = k
  · rw [e]; exact ⟨h0, h1⟩
  · exact h i (by omega)
theorem dgs_not {s : ByteArray} {k m : Nat} (hk : k < m) (h : bt s k < 48 ∨ 57 < bt s k) : ¬ dgs s m := fun e => by
  have := e k hk
  omega
theorem dgn_bd {s : ByteArray} : ∀ {k : Nat}, dgs s k → 0 ≤ dgn s k ∧ dgn s k < 10 ^ k
  | 0, _ => by simp [dgn]
  | k + 1, h => by
    have h1 := dgn_bd (k := k) fun i hi => h i (by omega)
    have h2 := h k (by omega)
    rw [dgn, Int.pow_succ]
    omega
theorem ten_le {k : Nat} (h : k ≤ 10) : (10 : Int) ^ k ≤ 10000000000 := by
  have : k = 0 ∨ k = 1 ∨ k = 2 ∨ k = 3 ∨ k = 4 ∨ k = 5 ∨ k = 6 ∨ k = 7 ∨ k = 8 ∨ k = 9 ∨ k = 10 := by omega
  rcases this with rfl | rfl | rfl | rfl | rfl | rfl | rfl | rfl | rfl | rfl | rfl <;> decide
/-- A number: one to ten digits, without noughts ahead. -/
def okd (s : ByteArray) : Prop := (1 ≤ s.size ∧ s.size ≤ 10) ∧ dgs s s.size ∧ ¬ (1 < s.size ∧ bt s 0 = 48)
def Dgt (s : ByteArray) (r : Int) : Prop := (okd s ∧ r = dgn s s.size) ∨ (¬ okd s ∧ r = -1)
theorem Dgt.one {s : ByteArray} {r q : Int} (h : Dgt s r) (k : Dgt s q) : r = q := by
  rcases h with ⟨h1, rfl⟩ | ⟨h1, rfl⟩ <;> rcases k with ⟨k1, rfl⟩ | ⟨k1, rfl⟩
  · rfl
  · exact absurd h1 k1
  · exact absurd k1 h1
  · rfl
theorem Dgt.bd {s : ByteArray} {r : Int} (h : Dgt s r) : -1 ≤ r ∧ r ≤ 9999999999 := by
  rcases h with ⟨h1, rfl⟩ | ⟨h1, rfl⟩
  · have := dgn_bd h1.2.1
    have := ten_le h1.1.2
    omega
  · omega

end Go.Proofs.YtmpnaobjgknfkafDoor
