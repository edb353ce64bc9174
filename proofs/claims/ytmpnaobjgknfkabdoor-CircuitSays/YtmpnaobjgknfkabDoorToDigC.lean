/- strconv.Itoa, off the shelf. · croftref.digits. -/
import Derived.Test.YtmpnaobjgknfkabDoorToShLay
import Derived.Test.YtmpnaobjgknfkabDoorToValC
import Derived.Shelf.Strconv.Itoa3
import Derived.Test.YtmpnaobjgknfkabDoorToAtsC
import Derived.Laws.Strings
namespace Go.Proofs.YtmpnaobjgknfkabDoor
open Go.RowKit Go.Shelf

/-- The table that Itoa reads. -/
def Tabs (w : World) : Prop := Lib.TabIs Tryd.prog w "internal/strconv.uint64pow10" .u64 Lib.pow10Tab
theorem Tabs.below {w w' : World} (h : Tabs w) (hb : Below w.heap.size w w') : Tabs w' := by
  unfold Tabs Lib.TabIs World.var? at h ⊢
  cases hg : Tryd.prog.globalNamed "internal/strconv.uint64pow10" with
  | none => rw [hg] at h; cases h
  | some g =>
    rw [hg] at h
    simp only [Option.bind_some] at h ⊢
    by_cases hl : g < w.heap.size
    · rw [hb.block g hl]
      exact h
    · rw [Array.getElem?_eq_none (by omega)] at h
      cases h
theorem grow_below (w : World) (k : Nat) (os : Array Obj) : Below w.heap.size w (Go.Sort.grow (w.drewN k) os) := by
  have hb := drewN_below (Below.refl w.heap.size w) k
  refine ⟨hb.os, hb.tape, hb.output, ?_, fun i hi => ?_⟩
  · have : (Go.Sort.grow (w.drewN k) os).heap = (w.drewN k).heap ++ os := rfl
    have := hb.size
    simp only [*, Array.size_append]
    omega
  · have e : (Go.Sort.grow (w.drewN k) os).heap = (w.drewN k).heap ++ os := rfl
    have := hb.size
    rw [e, Array.getElem?_append_left (by omega)]
    exact hb.block i hi
/-- A number as text. -/
def itb (n : Int) : ByteArray := ⟨(Lib.itoa n).toArray⟩
theorem sItoa (n : Int) (w : World) (h0 : -9223372036854775808 ≤ n) (h1 : n ≤ 9223372036854775807) (ht : Tabs w) :
    Calls Tryd.prog 15 #[.int .i64 n] w fun e w' => e = .returned (.string (itb n)) ∧ Below w.heap.size w w' := by
  refine (show Calls Tryd.prog 15 #[.int .i64 n] w _ from Any.strconv_Itoa Tryd.laysM171 n h0 h1 w ht).mono ?_
  rintro e w' ⟨rfl, k, os, rfl⟩
  exact ⟨rfl, grow_below w k os⟩
end Go.Proofs.YtmpnaobjgknfkabDoor

namespace Go.Proofs.YtmpnaobjgknfkabDoor
open Go.RowKit Crm

/-- Byte i of a text. -/
def bt (s : ByteArray) (i : Nat) : Int := ((s.get! i).toNat : Int)
theorem bt_bd (s : ByteArray) (i : Nat) : 0 ≤ bt s i ∧ bt s i ≤ 255 := by
  have := (s.get! i).toNat_lt
  unfold bt
  omega
theorem bt_get (s : ByteArray) {i : Nat} (h : i < s.size) : ((s[i]'h).toNat : Int) = bt s i := by
  unfold bt
  have : s.get! i = s[i]'h := getElem!_pos s.data i h
  rw [this]
theorem bt_run {P : Program} {t : TypeId} (ht : P.underlying t = some .string) (s : ByteArray) {i : Nat} (h : i < s.size) (w : World) : (Instr.index t (.string s) (.int .i64 (i : Int))).run P w = .ok (.int .u8 (bt s i)) w := by
  rw [run_index_string w t s .i64 (i : Int) ht, dif_pos ⟨by omega, by omega⟩]
  simp only [Int.toNat_natCast]
  rw [bt_get s h]
/-- The number of the first k digits. -/
def dgn (s : ByteArray) : Nat → Int
  | 0 => 0
  | k + 1 => dgn s k * 10 + bt s k - 48
/-- The first k bytes are digits. -/
def dgs (s : ByteArray) (k : Nat) : Prop := ∀ i, i < k → 48 ≤ bt s i ∧ bt s i ≤ 57
theorem dgs_zero (s : ByteArray) : dgs s 0 := fun i hi => by omega
theorem dgs_succ {s : ByteArray} {k : Nat} (h : dgs s k) (h0 : 48 ≤ bt s k) (h1 : bt s k ≤ 57) : dgs s (k + 1) := fun i hi => by
  by_cases e : i = k
  · rw [e]; exact ⟨h0, h1⟩
  · exact h i (by omega)
theorem dgs_not {s : ByteArray} {k m : Nat} (hk : k < m) (h : bt s k < 48 ∨ 57 < bt s k) : ¬ dgs s m := fun e => by
  have := e k hk
  omega
theorem dgn_bd {s : ByteArray} : ∀ {k : Nat}, dgs s k → 0 ≤ dgn s k ∧ dgn s k < 10 ^ k
  | 0, _ => by simp [dgn]
  | k + 1, h => by
    have h1 := dgn_bd (k := k) fun i hi => h i (by omega)
    have h2 := h k (by omega)
    rw [dgn, Int.pow_succ]
    omega
theorem ten_le {k : Nat} (h : k ≤ 10) : (10 : Int) ^ k ≤ 10000000000 := by
  have : k = 0 ∨ k = 1 ∨ k = 2 ∨ k = 3 ∨ k = 4 ∨ k = 5 ∨ k = 6 ∨ k = 7 ∨ k = 8 ∨ k = 9 ∨ k = 10 := by omega
  rcases this with rfl | rfl | rfl | rfl | rfl | rfl | rfl | rfl | rfl | rfl | rfl <;> decide
/-- A number: one to ten digits, without noughts ahead. -/
def okd (s : ByteArray) : Prop := (1 ≤ s.size ∧ s.size ≤ 10) ∧ dgs s s.size ∧ ¬ (1 < s.size ∧ bt s 0 = 48)
def Dgt (s : ByteArray) (r : Int) : Prop := (okd s ∧ r = dgn s s.size) ∨ (¬ okd s ∧ r = -1)
theorem Dgt.one {s : ByteArray} {r q : Int} (h : Dgt s r) (k : Dgt s q) : r = q := by
  rcases h with ⟨h1, rfl⟩ | ⟨h1, rfl⟩ <;> rcases k with ⟨k1, rfl⟩ | ⟨k1, rfl⟩
  · rfl
  · exact absurd h1 k1
  · exact absurd k1 h1
  · rfl
theorem Dgt.bd {s : ByteArray} {r : Int} (h : Dgt s r) : -1 ≤ r ∧ r ≤ 9999999999 := by
  rcases h with ⟨h1, rfl⟩ | ⟨h1, rfl⟩
  · have := dgn_bd h1.2.1
    have := ten_le h1.1.2
    omega
  · omega

end Go.Proofs.YtmpnaobjgknfkabDoor
