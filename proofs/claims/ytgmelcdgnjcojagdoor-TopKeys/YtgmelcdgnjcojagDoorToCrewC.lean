/- croftref.Rest. · What make and copy leave. · croftkeep.crew, filled, shares. -/
import Derived.Test.YtgmelcdgnjcojagDoorProg
import Derived.Test.YtgmelcdgnjcojagDoorToPolyM
import Derived.Laws.CopyOwn
import Derived.Test.YtgmelcdgnjcojagDoorToIntsC
import Derived.Test.YtgmelcdgnjcojagDoorToValC
namespace Go.Proofs.YtgmelcdgnjcojagDoor
open Go.RowKit

/-- A place of m. -/
def Placed (m : Nat) (e : Ending) : Prop := ∃ q : Nat, q < m ∧ e = .returned (.int .i64 q)
set_option maxRecDepth 100000 in
theorem rRest (i : Int) (m : Nat) (w : World) (hm : 0 < m) (hm2 : m ≤ 1000) :
    Calls Tryd.prog 36 #[.int .i64 i, .int .i64 m] w fun e w' => Placed m e ∧ w' = w := by
  have hm3 : ¬ (m : Int) = 0 := by omega
  have h1 : -(m : Int) < Int.tmod i m := by have := Int.lt_tmod_of_pos i (show (0 : Int) < m by omega); omega
  have h2 : Int.tmod i m < m := Int.tmod_lt_of_pos i (show (0 : Int) < m by omega)
  obtain ⟨r, hr⟩ : ∃ r, Int.tmod i m = r := ⟨_, rfl⟩
  rw [hr] at h1 h2
  by_cases h3 : r < 0
  · go_enter Tryd.func36, Tryd.ntmps36
    go_wp2
    go_ret
    exact ⟨⟨(r + m).toNat, by omega, by show Ending.returned (Value.int .i64 (r + m)) = _; rw [Int.toNat_of_nonneg (by omega)]⟩, rfl⟩
  · go_enter Tryd.func36, Tryd.ntmps36
    go_wp2
    go_ret
    exact ⟨⟨r.toNat, by omega, by show Ending.returned (Value.int .i64 r) = _; rw [Int.toNat_of_nonneg (by omega)]⟩, rfl⟩
end Go.Proofs.YtgmelcdgnjcojagDoor

namespace Go.Proofs.YtgmelcdgnjcojagDoor
open Go.RowKit

/-- The first k numbers of a row, with noughts where it has none. -/
def padded (xs : List Int) (k : Nat) : List Int := xs.take k ++ List.replicate (k - xs.length) 0
theorem padded_len (xs : List Int) (k : Nat) : (padded xs k).length = k := by unfold padded; simp; omega
theorem padded_bd {xs : List Int} (h : ∀ x ∈ xs, 0 ≤ x ∧ x ≤ 18446744073709551615) (k : Nat) : ∀ x ∈ padded xs k, 0 ≤ x ∧ x ≤ 18446744073709551615 := fun x hx => by
  unfold padded at hx
  rcases List.mem_append.1 hx with h1 | h1
  · exact h x (List.mem_of_mem_take h1)
  · rw [List.eq_of_mem_replicate h1]; omega
theorem padded_splice (xs : List Int) (k : Nat) : Go.splice ((List.replicate k (0 : Int)).map (Value.int .u64)) 0 ((xs.take k).map (Value.int .u64)) = (padded xs k).map (Value.int .u64) := by
  unfold Go.splice padded
  simp
  omega

/-- What copy reads. -/
theorem copy_src {w : World} {a : Option Addr} {n c : Nat} {xs : List Int} (h : Rd w a n c xs) (k : Nat) (hp : 0 < ((xs.take k).map (Value.int .u64)).length) : ∃ ad, a = some ad ∧ ∀ j v, ((xs.take k).map (Value.int .u64))[j]? = some v → w.cell? (ad.add j) = some v := by
  have hl := h.len
  have hn : 0 < n := by simp at hp; omega
  obtain ⟨b, o, rfl, _, hc⟩ := h.at hn
  refine ⟨_, rfl, fun j v hj => ?_⟩
  have hjl := (List.getElem?_eq_some_iff.1 hj).1
  simp at hjl
  have hv : v = .int .u64 (xs.getD j 0) := by
    rw [List.getElem?_map, List.getElem?_take, if_pos (by omega), List.getElem?_eq_getElem (show j < xs.length by omega)] at hj
    rw [List.getD_eq_getElem?_getD, List.getElem?_eq_getElem (show j < xs.length by omega)]
    exact (Option.some.inj hj).symm
  rw [hv, Addr.add_lit]
  exact hc j (by omega)
theorem copy_len {xs : List Int} {n k : Nat} (h : xs.length = n) : ((xs.take k).map (Value.int .u64)).length = Nat.min n k := by
  show _ = min n k
  simp; omega
theorem one_ints (xs : List Int) : ∀ v ∈ xs.map (Value.int .u64), v.oneCell' = true := fun v hv => by obtain ⟨x, _, rfl⟩ := List.mem_map.1 hv; rfl
end Go.Proofs.YtgmelcdgnjcojagDoor

namespace Go.Proofs.YtgmelcdgnjcojagDoor
open Go.RowKit Crm

/-- So many parties, of whom k may look together. -/
def Crewed (e : Ending) : Prop := ∃ k m : Nat, e = .returned (.tuple #[.int .i64 k, .int .i64 m]) ∧ k ≤ 4 ∧ 2 * k + 1 ≤ m ∧ m ≤ 9
set_option maxRecDepth 100000 in
theorem kCrew (t n : Int) (w : World) :
    Calls Tryd.prog 11 #[.int .i64 t, .int .i64 n] w fun e w' => Crewed e ∧ w' = w := by
  go_enter Tryd.func11, Tryd.ntmps11
  go_wp2_with fail
  refine (rRest _ 5 _ (by omega) (by omega)).mono ?_
  rintro e w1 ⟨⟨k, hk, rfl⟩, hw⟩
  have hw := hw.symm
  subst hw
  have hd2 : (9 : Int) - 2 * k = ((9 - 2 * k : Nat) : Int) := by omega
  go_wp2_with fail
  refine (rRest _ (9 - 2 * k) _ (by omega) (by omega)).mono ?_
  rintro e w1 ⟨⟨q, hq, rfl⟩, hw⟩
  have hw := hw.symm
  subst hw
  go_wp2
  go_ret2
  exact ⟨⟨k, 2 * k + 1 + q, by go_num, by omega, by omega, by omega⟩, rfl⟩

set_option maxRecDepth 100000 in
theorem kFilledL (a : Option Addr) (n c : Nat) (xs : List Int) (k : Nat) (w : World) (h : Rd w a n c xs) (hk : k ≤ 1000) :
    Calls Tryd.prog 12 #[.slice a n c, .int .i64 k] w fun e w' => ∃ g, e = .returned (.slice (some ⟨g, 0, none⟩) k k) ∧ Rd w' (some ⟨g, 0, none⟩) k k (padded xs k) ∧ Below w.heap.size w w' := by
  obtain ⟨i0, hi, hz0, hz1, hz2⟩ := info_parts info34
  obtain ⟨P, HP⟩ : ∃ P, Hid (padded xs k = P) := ⟨_, rfl⟩
  have HPl : Hid (P.length = k) := by unfold Hid; rw [← HP.out]; exact padded_len xs k
  have HPb : Hid (∀ x ∈ P, 0 ≤ x ∧ x ≤ 18446744073709551615) := by unfold Hid; rw [← HP.out]; exact padded_bd h.bd k
  rw [HP.out]
  obtain ⟨cs, HCS⟩ : ∃ cs, Hid ((xs.take k).map (Value.int .u64) = cs) := ⟨_, rfl⟩
  obtain ⟨cu, HCU⟩ : ∃ cu, Hid ((List.replicate k (0 : Int)).map (Value.int .u64) = cu) := ⟨_, rfl⟩
  have hrl := h.len
  have hcl := copy_len (k := k) hrl
  have h1c := one_ints (xs.take k)
  have hsrcs := fun w' (hh : Rd w' a n c xs) => copy_src hh k
  have HSPL : Hid (Go.splice cu 0 cs = P.map (Value.int .u64)) := by unfold Hid; rw [← HCU.out, ← HCS.out, ← HP.out]; exact padded_splice xs k
  have hcul : cu.length = k := by rw [← HCU.out]; simp
  rw [HCS.out] at hcl h1c hsrcs
  have hcl2 : cs.length ≤ k := by rw [hcl]; exact Nat.min_le_right _ _
  go_enter Tryd.func12, Tryd.ntmps12
  go_wp2_with (first | (at_make; refine wpList_make_full _ rfl _ _ 22 rfl w.heap.size 34 i0 (.int .u64 0) 1 Tryd.underlying22 hi hz0 hz1 .i64 .i64 _ _ k rfl rfl (by omega) (by omega) (by rw [hz2]; omega) (by unfold maxLen; omega) (Nat.le_refl _) ?_; intro w3 hown hgrow; have hb3 : Blk w3 w.heap.size (List.replicate k 0) := Blk.made hown; have hbel3 : Below w.heap.size w w3 := (Below.refl _ _).grown hgrow (Nat.le_refl _) (by simp); have hrow3 := h.below hbel3; unfold Blk at hb3; rw [HCU.out] at hb3; clear hown hgrow) | (refine wpList_copy_splice rfl _ _ 22 22 rfl 34 Tryd.underlying22 (by rw [hi, Option.map_some, hz1]) (some ⟨w.heap.size, 0, none⟩) a k k n c (by rfl) (by rfl) w.heap.size 0 cu 34 hb3 cs hcl (fun hp => ⟨rfl, hsrcs w3 hrow3 hp⟩) (by omega) h1c w.heap.size w hbel3 (Nat.le_refl _) ?_; intro w4 HC4 hbel4))
  have hb4 : Blk w4 w.heap.size P := by unfold Blk; rw [← HSPL.out]; exact HC4.out
  have hr4 : Rd w4 (some ⟨w.heap.size, 0, none⟩) k k P := hb4.whole k HPl.out.symm (by unfold maxLen; omega) HPb.out
  clear HC4 hb3 hbel3 hrow3 hsrcs hcl h1c HCS HCU hcul hcl2 HSPL hb4
  go_wp2
  go_ret
  exact ⟨_, rfl, hr4, hbel4⟩

theorem kFilled (a : Option Addr) (n c : Nat) (xs : List Int) (k : Nat) (w : World) (h : Rd w a n c xs) (hk : k ≤ 4) :
    Calls Tryd.prog 12 #[.slice a n c, .int .i64 k] w fun e w' => ∃ g, e = .returned (.slice (some ⟨g, 0, none⟩) k k) ∧ Rd w' (some ⟨g, 0, none⟩) k k (padded xs k) ∧ Below w.heap.size w w' :=
  kFilledL _ _ _ _ _ _ h (by omega)

/-- Shares of all parties' numbers. -/
def shl (xs : List Int) (n : Nat) : List (Int × Int) := (List.range n).map fun (i : Nat) => ((i : Int) + 1, xs.getD i 0)
theorem shl_len (xs : List Int) (n : Nat) : (shl xs n).length = n := by simp [shl]
theorem shl_snoc (xs : List Int) (n : Nat) {x : Int} (hx : xs.getD n 0 = x) : shl xs n ++ [((n : Int) + 1, x)] = shl xs (n + 1) := by
  unfold shl
  rw [List.range_succ, List.map_append, ← hx]
  rfl
theorem shl_getD (xs : List Int) {n i : Nat} (h : i < n) : (shl xs n).getD i (0, 0) = ((i : Int) + 1, xs.getD i 0) := by simp [shl, h]

end Go.Proofs.YtgmelcdgnjcojagDoor
