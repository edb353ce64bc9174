/- croftkeep.crew, filled, shares. · croftkeep.short; short lists that a law writes out. -/
import Derived.Test.YtmpnaobjgknfkafDoorToPadC
import Derived.Test.YtmpnaobjgknfkafDoorToOpenG
import Derived.Test.YtmpnaobjgknfkafDoorToProdC
import Derived.Test.YtmpnaobjgknfkafDoorProg
import Derived.Test.YtmpnaobjgknfkafDoorToMath
namespace Go.Proofs.YtmpnaobjgknfkafDoor
open Go.RowKit Crm

/-- So many parties, of whom k may look together. -/
def Crewed (e : Ending) : Prop := ∃ k m : Nat, e = .returned (.tuple #[.int .i64 k, .int .i64 m]) ∧ k ≤ 4 ∧ 2 * k + 1 ≤ m ∧ m ≤ 9
set_option maxRecDepth 100000 in
theorem kFilledL (a : Option Addr) (n c : Nat) (xs : List Int) (k : Nat) (w : World) (h : Rd w a n c xs) (hk : k ≤ 1000) :
    Calls Tryd.prog 14 #[.slice a n c, .int .i64 k] w fun e w' => ∃ g, e = .returned (.slice (some ⟨g, 0, none⟩) k k) ∧ Rd w' (some ⟨g, 0, none⟩) k k (padded xs k) ∧ Below w.heap.size w w' := by
  obtain ⟨i0, hi, hz0, hz1, hz2⟩ := info_parts info37
  obtain ⟨P, HP⟩ : ∃ P, Hid (padded xs k = P) := ⟨_, rfl⟩
  have HPl : Hid (P.length = k) := by unfold Hid; rw [← HP.out]; exact padded_len xs k
  have HPb : Hid (∀ x ∈ P, 0 ≤ x ∧ x ≤ 18446744073709551615) := by unfold Hid; rw [← HP.out]; exact padded_bd h.bd k
  rw [HP.out]
  obtain ⟨cs, HCS⟩ : ∃ cs, Hid ((xs.take k).map (Value.int .u64) = cs) := ⟨_, rfl⟩
  obtain ⟨cu, HCU⟩ : ∃ cu, Hid ((List.replicate k (0 : Int)).map (Value.int .u64) = cu) := ⟨_, rfl⟩
  have hrl := h.len
  have hcl := copy_len (k := k) hrl
  have h1c := one_ints (xs.take k)
  have hsrcs := fun w' (hh : Rd w' a n c xs) => copy_src hh k
  have HSPL : Hid (Go.splice cu 0 cs = P.map (Value.int .u64)) := by unfold Hid; rw [← HCU.out, ← HCS.out, ← HP.out]; exact padded_splice xs k
  have hcul : cu.length = k := by rw [← HCU.out]; simp
  rw [HCS.out] at hcl h1c hsrcs
  have hcl2 : cs.length ≤ k := by rw [hcl]; exact Nat.min_le_right _ _
  go_enter Tryd.func14, Tryd.ntmps14
  go_wp2_with (first | (at_make; refine wpList_make_full _ rfl _ _ 34 rfl w.heap.size 37 i0 (.int .u64 0) 1 Tryd.underlying34 hi hz0 hz1 .i64 .i64 _ _ k rfl rfl (by omega) (by omega) (by rw [hz2]; omega) (by unfold maxLen; omega) (Nat.le_refl _) ?_; intro w3 hown hgrow; have hb3 : Blk w3 w.heap.size (List.replicate k 0) := Blk.made hown; have hbel3 : Below w.heap.size w w3 := (Below.refl _ _).grown hgrow (Nat.le_refl _) (by simp); have hrow3 := h.below hbel3; unfold Blk at hb3; rw [HCU.out] at hb3; clear hown hgrow) | (refine wpList_copy_splice rfl _ _ 34 34 rfl 37 Tryd.underlying34 (by rw [hi, Option.map_some, hz1]) (some ⟨w.heap.size, 0, none⟩) a k k n c (by rfl) (by rfl) w.heap.size 0 cu 37 hb3 cs hcl (fun hp => ⟨rfl, hsrcs w3 hrow3 hp⟩) (by omega) h1c w.heap.size w hbel3 (Nat.le_refl _) ?_; intro w4 HC4 hbel4))
  have hb4 : Blk w4 w.heap.size P := by unfold Blk; rw [← HSPL.out]; exact HC4.out
  have hr4 : Rd w4 (some ⟨w.heap.size, 0, none⟩) k k P := hb4.whole k HPl.out.symm (by unfold maxLen; omega) HPb.out
  clear HC4 hb3 hbel3 hrow3 hsrcs hcl h1c HCS HCU hcul hcl2 HSPL hb4
  go_wp2
  go_ret
  exact ⟨_, rfl, hr4, hbel4⟩

theorem kFilled (a : Option Addr) (n c : Nat) (xs : List Int) (k : Nat) (w : World) (h : Rd w a n c xs) (hk : k ≤ 4) :
    Calls Tryd.prog 14 #[.slice a n c, .int .i64 k] w fun e w' => ∃ g, e = .returned (.slice (some ⟨g, 0, none⟩) k k) ∧ Rd w' (some ⟨g, 0, none⟩) k k (padded xs k) ∧ Below w.heap.size w w' :=
  kFilledL _ _ _ _ _ _ h (by omega)

/-- Shares of all parties' numbers. -/
def shl (xs : List Int) (n : Nat) : List (Int × Int) := (List.range n).map fun (i : Nat) => ((i : Int) + 1, xs.getD i 0)
theorem shl_len (xs : List Int) (n : Nat) : (shl xs n).length = n := by simp [shl]
theorem shl_snoc (xs : List Int) (n : Nat) {x : Int} (hx : xs.getD n 0 = x) : shl xs n ++ [((n : Int) + 1, x)] = shl xs (n + 1) := by
  unfold shl
  rw [List.range_succ, List.map_append, ← hx]
  rfl
theorem shl_getD (xs : List Int) {n i : Nat} (h : i < n) : (shl xs n).getD i (0, 0) = ((i : Int) + 1, xs.getD i 0) := by simp [shl, h]

end Go.Proofs.YtmpnaobjgknfkafDoor

namespace Go.Proofs.YtmpnaobjgknfkafDoor
open Go.RowKit

theorem Rd.take {w : World} {a : Option Addr} {n c : Nat} {xs : List Int} (h : Rd w a n c xs) {k : Nat} (hk : k ≤ n) : Rd w a k c (xs.take k) := by
  refine ⟨by have := h.len; simp; omega, by have := h.cap; omega, h.max, fun x hx => h.bd x (List.mem_of_mem_take hx), h.nil, fun x hx i hi => ?_⟩
  rw [h.cell x hx i (by omega)]
  congr 2
  simp [hi]

theorem Blk.of2 (w : World) (x y : Int) : Blk (w.alloc (.cells #[.int .u64 x, .int .u64 y] 37)) w.heap.size [x, y] := heap_alloc_new w _
theorem Blk.of3 (w : World) (x y z : Int) : Blk (w.alloc (.cells #[.int .u64 x, .int .u64 y, .int .u64 z] 37)) w.heap.size [x, y, z] := heap_alloc_new w _
theorem rd_of2 (w : World) {x y : Int} (hx : 0 ≤ x ∧ x ≤ 18446744073709551615) (hy : 0 ≤ y ∧ y ≤ 18446744073709551615) : Rd (w.alloc (.cells #[.int .u64 x, .int .u64 y] 37)) (some ⟨w.heap.size, 0, none⟩) 2 2 [x, y] :=
  (Blk.of2 w x y).whole 2 rfl (by unfold maxLen; omega) (by
    intro u hu
    simp only [List.mem_cons, List.not_mem_nil, or_false] at hu
    rcases hu with rfl | rfl <;> assumption)
theorem rd_of3 (w : World) {x y z : Int} (hx : 0 ≤ x ∧ x ≤ 18446744073709551615) (hy : 0 ≤ y ∧ y ≤ 18446744073709551615) (hz : 0 ≤ z ∧ z ≤ 18446744073709551615) : Rd (w.alloc (.cells #[.int .u64 x, .int .u64 y, .int .u64 z] 37)) (some ⟨w.heap.size, 0, none⟩) 3 3 [x, y, z] :=
  (Blk.of3 w x y z).whole 3 rfl (by unfold maxLen; omega) (by
    intro u hu
    simp only [List.mem_cons, List.not_mem_nil, or_false] at hu
    rcases hu with rfl | rfl | rfl <;> assumption)
theorem below_one (w : World) (ob : Obj) : Below w.heap.size w (w.alloc ob) := (Below.refl _ _).alloc (Nat.le_refl _) _
end Go.Proofs.YtmpnaobjgknfkafDoor
