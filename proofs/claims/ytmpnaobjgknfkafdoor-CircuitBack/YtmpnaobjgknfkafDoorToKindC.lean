/- Texts that are compared; slices.Index of texts; pieces of slices of texts. · Package circuit: kindOf, count. -/
import Derived.Test.YtmpnaobjgknfkafDoorToNumbC
import Derived.Test.YtmpnaobjgknfkafDoorToSubC
import Derived.Test.YtmpnaobjgknfkafDoorToDigC
namespace Go.Proofs.YtmpnaobjgknfkafDoor
open Go.RowKit Crm

theorem tl_yes {x y : ByteArray} (h : x = y) : (x.toList == y.toList) = true := by rw [h]; simp
theorem tl_no {x y : ByteArray} (h : x ≠ y) : (x.toList == y.toList) = false := by
  rw [beq_eq_false_iff_ne]
  intro e
  rw [ByteArray.toList_eq, ByteArray.toList_eq] at e
  exact h (ByteArray.ext (Array.ext' e))
/-- Where a text stands among others. -/
def Ixt (L : List ByteArray) (n : Nat) (x : ByteArray) (r : Int) : Prop := (∃ k : Nat, k < n ∧ tx L k = x ∧ r = (k : Int)) ∨ ((∀ j, j < n → tx L j ≠ x) ∧ r = -1)
theorem Ixt.bd {L : List ByteArray} {n : Nat} {x : ByteArray} {r : Int} (h : Ixt L n x r) : -1 ≤ r ∧ r < (n : Int) := by
  rcases h with ⟨k, hk, _, rfl⟩ | ⟨_, rfl⟩ <;> omega

theorem RdT.take {w : World} {a : Option Addr} {n c : Nat} {L : List ByteArray} (h : RdT w a n c L) {k : Nat} (hk : k ≤ n) : RdT w a k c (L.take k) := by
  have hl := h.len
  have ht : ∀ i, i < k → tx (L.take k) i = tx L i := fun i hi => by simp [tx, List.getElem?_take_of_lt hi]
  refine ⟨by simp; omega, by have := h.cap; omega, h.max, h.nil, fun i hi => by rw [ht i hi]; exact h.bd i (by omega), fun x hx i hi => by rw [ht i hi]; exact h.cell x hx i (by omega)⟩
theorem RdT.sub1 {w : World} {g n c : Nat} {L : List ByteArray} (h : RdT w (some ⟨g, 0, none⟩) (n + 1) c L) : RdT w (subA (some ⟨g, 0, none⟩) c 1) n (c - 1) (L.drop 1) := by
  have hc := h.cap
  have hl := h.len
  obtain ⟨c', rfl⟩ : ∃ c', c = c' + 1 := ⟨c - 1, by omega⟩
  unfold subA
  by_cases e : c' + 1 = 1
  · rw [if_pos e]
    obtain rfl : c' = 0 := by omega
    obtain rfl : n = 0 := by omega
    exact ⟨by simp; omega, by omega, by unfold maxLen; omega, by simp, fun i hi => by omega, fun x hx i hi => by omega⟩
  · rw [if_neg e]
    exact h.tail
end Go.Proofs.YtmpnaobjgknfkafDoor

namespace Go.Proofs.YtmpnaobjgknfkafDoor
open Go.RowKit Crm

/-- Which kind has the word: k, or none. -/
def Knd (x : ByteArray) (k : Nat) : Prop := (1 ≤ k ∧ k < 7 ∧ shw k = x) ∨ (k = 0 ∧ ∀ j, 1 ≤ j → j < 7 → shw j ≠ x)
/-- How many hold. -/
def bn (b : Bool) : Int := if b then 1 else 0

set_option maxRecDepth 100000 in
set_option maxHeartbeats 2000000 in
theorem cKind (x : ByteArray) (w : World) (hS : Shp w) :
    Calls Tryd.prog 47 #[.string x] w fun e w' => ∃ k : Nat, e = .returned (.int .i64 k) ∧ Knd x k ∧ w' = w := by
  have slt := hS.lt
  go_enter Tryd.func47, Tryd.ntmps47
  go_wp2
  go_loopw [3] (fun v wr => ∃ k : Nat, (1 ≤ k ∧ k ≤ 7) ∧ v = .int .i64 k ∧ Hid (∀ j, 1 ≤ j → j < k → shw j ≠ x) ∧ wr = w) (fun v _ => 7 - (intOf v).toNat)
  case atStart => exact ⟨1, ⟨by omega, by omega⟩, rfl, fun j h1 h2 => by omega, rfl⟩
  case round =>
    obtain ⟨k, hk, rfl, HK, rfl⟩ := hrel
    have hkk : k = 1 ∨ k = 2 ∨ k = 3 ∨ k = 4 ∨ k = 5 ∨ k = 6 ∨ k = 7 := by omega
    rcases hkk with rfl | rfl | rfl | rfl | rfl | rfl | rfl
    · have s0 : wr.cell? ⟨0, 4, none⟩ = some (.string (shw 1)) := hS.at1.1
      obtain ⟨v, HV⟩ : ∃ v, Hid (shw 1 = v) := ⟨_, rfl⟩
      rw [HV.out] at s0
      by_cases he : v = x
      · have HN : Hid (Knd x 1) := .inl ⟨by omega, by omega, by rw [HV.out]; exact he⟩
        have hy := tl_yes he
        clear he
        go_wp2
        go_ret
        exact ⟨1, rfl, HN.out, rfl⟩
      · have HN : Hid (∀ j, 1 ≤ j → j < 2 → shw j ≠ x) := fun j h1 h2 => by
          by_cases e : j = 1
          · rw [e, HV.out]; exact he
          · exact HK.out j h1 (by omega)
        have hy := tl_no he
        clear he
        go_wp2
        go_roundw
        case rel => exact ⟨2, ⟨by omega, by omega⟩, by go_num, HN, by trivial⟩
        case measure => simp [intOf]
    · have s0 : wr.cell? ⟨0, 8, none⟩ = some (.string (shw 2)) := hS.at2.1
      obtain ⟨v, HV⟩ : ∃ v, Hid (shw 2 = v) := ⟨_, rfl⟩
      rw [HV.out] at s0
      by_cases he : v = x
      · have HN : Hid (Knd x 2) := .inl ⟨by omega, by omega, by rw [HV.out]; exact he⟩
        have hy := tl_yes he
        clear he
        go_wp2
        go_ret
        exact ⟨2, rfl, HN.out, rfl⟩
      · have HN : Hid (∀ j, 1 ≤ j → j < 3 → shw j ≠ x) := fun j h1 h2 => by
          by_cases e : j = 2
          · rw [e, HV.out]; exact he
          · exact HK.out j h1 (by omega)
        have hy := tl_no he
        clear he
        go_wp2
        go_roundw
        case rel => exact ⟨3, ⟨by omega, by omega⟩, by go_num, HN, by trivial⟩
        case measure => simp [intOf]
    · have s0 : wr.cell? ⟨0, 12, none⟩ = some (.string (shw 3)) := hS.at3.1
      obtain ⟨v, HV⟩ : ∃ v, Hid (shw 3 = v) := ⟨_, rfl⟩
      rw [HV.out] at s0
      by_cases he : v = x
      · have HN : Hid (Knd x 3) := .inl ⟨by omega, by omega, by rw [HV.out]; exact he⟩
        have hy := tl_yes he
        clear he
        go_wp2
        go_ret
        exact ⟨3, rfl, HN.out, rfl⟩
      · have HN : Hid (∀ j, 1 ≤ j → j < 4 → shw j ≠ x) := fun j h1 h2 => by
          by_cases e : j = 3
          · rw [e, HV.out]; exact he
          · exact HK.out j h1 (by omega)
        have hy := tl_no he
        clear he
        go_wp2
        go_roundw
        case rel => exact ⟨4, ⟨by omega, by omega⟩, by go_num, HN, by trivial⟩
        case measure => simp [intOf]
    · have s0 : wr.cell? ⟨0, 16, none⟩ = some (.string (shw 4)) := hS.at4.1
      obtain ⟨v, HV⟩ : ∃ v, Hid (shw 4 = v) := ⟨_, rfl⟩
      rw [HV.out] at s0
      by_cases he : v = x
      · have HN : Hid (Knd x 4) := .inl ⟨by omega, by omega, by rw [HV.out]; exact he⟩
        have hy := tl_yes he
        clear he
        go_wp2
        go_ret
        exact ⟨4, rfl, HN.out, rfl⟩
      · have HN : Hid (∀ j, 1 ≤ j → j < 5 → shw j ≠ x) := fun j h1 h2 => by
          by_cases e : j = 4
          · rw [e, HV.out]; exact he
          · exact HK.out j h1 (by omega)
        have hy := tl_no he
        clear he
        go_wp2
        go_roundw
        case rel => exact ⟨5, ⟨by omega, by omega⟩, by go_num, HN, by trivial⟩
        case measure => simp [intOf]
    · have s0 : wr.cell? ⟨0, 20, none⟩ = some (.string (shw 5)) := hS.at5.1
      obtain ⟨v, HV⟩ : ∃ v, Hid (shw 5 = v) := ⟨_, rfl⟩
      rw [HV.out] at s0
      by_cases he : v = x
      · have HN : Hid (Knd x 5) := .inl ⟨by omega, by omega, by rw [HV.out]; exact he⟩
        have hy := tl_yes he
        clear he
        go_wp2
        go_ret
        exact ⟨5, rfl, HN.out, rfl⟩
      · have HN : Hid (∀ j, 1 ≤ j → j < 6 → shw j ≠ x) := fun j h1 h2 => by
          by_cases e : j = 5
          · rw [e, HV.out]; exact he
          · exact HK.out j h1 (by omega)
        have hy := tl_no he
        clear he
        go_wp2
        go_roundw
        case rel => exact ⟨6, ⟨by omega, by omega⟩, by go_num, HN, by trivial⟩
        case measure => simp [intOf]
    · have s0 : wr.cell? ⟨0, 24, none⟩ = some (.string (shw 6)) := hS.at6.1
      obtain ⟨v, HV⟩ : ∃ v, Hid (shw 6 = v) := ⟨_, rfl⟩
      rw [HV.out] at s0
      by_cases he : v = x
      · have HN : Hid (Knd x 6) := .inl ⟨by omega, by omega, by rw [HV.out]; exact he⟩
        have hy := tl_yes he
        clear he
        go_wp2
        go_ret
        exact ⟨6, rfl, HN.out, rfl⟩
      · have HN : Hid (∀ j, 1 ≤ j → j < 7 → shw j ≠ x) := fun j h1 h2 => by
          by_cases e : j = 6
          · rw [e, HV.out]; exact he
          · exact HK.out j h1 (by omega)
        have hy := tl_no he
        clear he
        go_wp2
        go_roundw
        case rel => exact ⟨7, ⟨by omega, by omega⟩, by go_num, HN, by trivial⟩
        case measure => simp [intOf]
    · have HN : Hid (Knd x 0) := .inr ⟨rfl, HK.out⟩
      go_wp2
      go_ret
      exact ⟨0, rfl, HN.out, rfl⟩

set_option maxRecDepth 100000 in
set_option maxHeartbeats 2000000 in
theorem cCount (g : Nat) (a b c : Bool) (w : World) (h0 : w.cell? ⟨g, 0, none⟩ = some (.bool a)) (h1 : w.cell? ⟨g, 1, none⟩ = some (.bool b)) (h2 : w.cell? ⟨g, 2, none⟩ = some (.bool c)) (hg : g < w.heap.size) :
    Calls Tryd.prog 48 #[.slice (some ⟨g, 0, none⟩) 3 3] w fun e w' => e = .returned (.int .i64 (bn a + bn b + bn c)) ∧ w' = w := by
  go_enter Tryd.func48, Tryd.ntmps48
  go_wp2
  go_loopw [3, 8] (fun v i wr => wr = w ∧ ∃ k : Nat, k ≤ 3 ∧ i = .int .i64 k ∧ Hid (∃ z : Int, v = .int .i64 z ∧ (0 ≤ z ∧ z ≤ 3) ∧ z = ((if 0 < k then bn a else 0) + (if 1 < k then bn b else 0) + (if 2 < k then bn c else 0)))) (fun _ i _ => 3 - (intOf i).toNat)
  case atStart => exact ⟨rfl, 0, by omega, rfl, 0, rfl, ⟨by omega, by omega⟩, by simp⟩
  case round =>
    obtain ⟨rfl, k, hk, rfl, HV⟩ := hrel
    obtain ⟨z, rfl, hz, hv⟩ := HV.out
    have HZ : Hid (z = _) := hv
    have ba : bn a = 0 ∨ bn a = 1 := by cases a <;> simp [bn]
    have bb : bn b = 0 ∨ bn b = 1 := by cases b <;> simp [bn]
    have bc : bn c = 0 ∨ bn c = 1 := by cases c <;> simp [bn]
    have hkk : k = 0 ∨ k = 1 ∨ k = 2 ∨ k = 3 := by omega
    clear HV hv
    rcases hkk with rfl | rfl | rfl | rfl
    · have hz0 : z = 0 := by have := HZ.out; simpa using this
      subst hz0
      cases a
      · go_wp2
        go_roundw
        case rel => exact ⟨by trivial, 1, by omega, by go_num, 0, rfl, ⟨by omega, by omega⟩, by simp [bn]⟩
        case measure => simp [intOf]
      · go_wp2
        go_roundw
        case rel => exact ⟨by trivial, 1, by omega, by go_num, 1, rfl, ⟨by omega, by omega⟩, by simp [bn]⟩
        case measure => simp [intOf]
    · have hz1 : z = bn a := by have := HZ.out; simpa using this
      have hzb : z ≤ 1 := by omega
      have HZ1 : Hid (z = bn a) := hz1
      clear HZ hz1 ba bb bc
      cases b
      · go_wp2
        go_roundw
        case rel => exact ⟨by trivial, 2, by omega, by go_num, z, rfl, hz, by have := HZ1.out; simp [bn] at this ⊢; omega⟩
        case measure => simp [intOf]
      · go_wp2
        go_roundw
        case rel => exact ⟨by trivial, 2, by omega, by go_num, z + 1, rfl, ⟨by omega, by omega⟩, by have := HZ1.out; simp [bn] at this ⊢; omega⟩
        case measure => simp [intOf]
    · have hz1 : z = bn a + bn b := by have := HZ.out; simpa using this
      have hzb : z ≤ 2 := by omega
      have HZ1 : Hid (z = bn a + bn b) := hz1
      clear HZ hz1 ba bb bc
      cases c
      · go_wp2
        go_roundw
        case rel => exact ⟨by trivial, 3, by omega, by go_num, z, rfl, hz, by have := HZ1.out; simp [bn] at this ⊢; omega⟩
        case measure => simp [intOf]
      · go_wp2
        go_roundw
        case rel => exact ⟨by trivial, 3, by omega, by go_num, z + 1, rfl, ⟨by omega, by omega⟩, by have := HZ1.out; simp [bn] at this ⊢; omega⟩
        case measure => simp [intOf]
    · have hz1 : z = bn a + bn b + bn c := by have := HZ.out; simpa using this
      have HZ1 : Hid (z = bn a + bn b + bn c) := hz1
      clear HZ ba bb bc hz1
      go_wp2
      go_ret
      exact ⟨by rw [← HZ1.out]; rfl, rfl⟩
end Go.Proofs.YtmpnaobjgknfkafDoor
