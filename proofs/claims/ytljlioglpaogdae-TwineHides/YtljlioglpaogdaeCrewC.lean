/- croftkeep.crew, filled, shares. -/
import Derived.Test.YtljlioglpaogdaeToCheckC
import Derived.Test.YtljlioglpaogdaePadC
namespace Go.Proofs.Ytljlioglpaogdae
set_option linter.unusedVariables false
set_option maxRecDepth 100000
set_option maxHeartbeats 8000000
section
open Crm Go.RowKit
/-- So many parties, of whom k may look together. -/
def Crewed (e : Ending) : Prop := ∃ k m : Nat, e = .returned (.tuple #[.int .i64 k, .int .i64 m]) ∧ k ≤ 4 ∧ 2 * k + 1 ≤ m ∧ m ≤ 9
theorem kCrew (t n : Int) (w : World) :
    Calls Try.prog 11 #[.int .i64 t, .int .i64 n] w fun e w' => Crewed e ∧ w' = w := by
  go_enter Try.func11, Try.ntmps11
  go_wp2_with fail
  refine (rRest _ 5 _ (by omega) (by omega)).mono ?_
  rintro e w1 ⟨⟨k, hk, rfl⟩, hw⟩
  have hw := hw.symm
  subst hw
  have hd2 : (9 : Int) - 2 * k = ((9 - 2 * k : Nat) : Int) := by omega
  go_wp2_with fail
  refine (rRest _ (9 - 2 * k) _ (by omega) (by omega)).mono ?_
  rintro e w1 ⟨⟨q, hq, rfl⟩, hw⟩
  have hw := hw.symm
  subst hw
  go_wp2
  go_ret2
  exact ⟨⟨k, 2 * k + 1 + q, by go_num, by omega, by omega, by omega⟩, rfl⟩

theorem kFilledL (a : Option Addr) (n c : Nat) (xs : List Int) (k : Nat) (w : World) (h : Rd w a n c xs) (hk : k ≤ 1000) :
    Calls Try.prog 13 #[.slice a n c, .int .i64 k] w fun e w' => ∃ g, e = .returned (.slice (some ⟨g, 0, none⟩) k k) ∧ Rd w' (some ⟨g, 0, none⟩) k k (padded xs k) ∧ Below w.heap.size w w' := by
  obtain ⟨i0, hi, hz0, hz1, hz2⟩ := info_parts info22
  obtain ⟨P, HP⟩ : ∃ P, Hid (padded xs k = P) := ⟨_, rfl⟩
  have HPl : Hid (P.length = k) := by unfold Hid; rw [← HP.out]; exact padded_len xs k
  have HPb : Hid (∀ x ∈ P, 0 ≤ x ∧ x ≤ 18446744073709551615) := by unfold Hid; rw [← HP.out]; exact padded_bd h.bd k
  rw [HP.out]
  obtain ⟨cs, HCS⟩ : ∃ cs, Hid ((xs.take k).map (Value.int .u64) = cs) := ⟨_, rfl⟩
  obtain ⟨cu, HCU⟩ : ∃ cu, Hid ((List.replicate k (0 : Int)).map (Value.int .u64) = cu) := ⟨_, rfl⟩
  have hrl := h.len
  have hcl := copy_len (k := k) hrl
  have h1c := one_ints (xs.take k)
  have hsrcs := fun w' (hh : Rd w' a n c xs) => copy_src hh k
  have HSPL : Hid (Go.splice cu 0 cs = P.map (Value.int .u64)) := by unfold Hid; rw [← HCU.out, ← HCS.out, ← HP.out]; exact padded_splice xs k
  have hcul : cu.length = k := by rw [← HCU.out]; simp
  rw [HCS.out] at hcl h1c hsrcs
  have hcl2 : cs.length ≤ k := by rw [hcl]; exact Nat.min_le_right _ _
  go_enter Try.func13, Try.ntmps13
  go_wp2_with (first | (at_make; refine wpList_make_full _ rfl _ _ 23 rfl w.heap.size 22 i0 (.int .u64 0) 1 Try.underlying23 hi hz0 hz1 .i64 .i64 _ _ k rfl rfl (by omega) (by omega) (by rw [hz2]; omega) (by unfold maxLen; omega) (Nat.le_refl _) ?_; intro w3 hown hgrow; have hb3 : Blk w3 w.heap.size (List.replicate k 0) := Blk.made hown; have hbel3 : Below w.heap.size w w3 := (Below.refl _ _).grown hgrow (Nat.le_refl _) (by simp); have hrow3 := h.below hbel3; unfold Blk at hb3; rw [HCU.out] at hb3; clear hown hgrow) | (refine wpList_copy_splice rfl _ _ 23 23 rfl 22 Try.underlying23 (by rw [hi, Option.map_some, hz1]) (some ⟨w.heap.size, 0, none⟩) a k k n c (by rfl) (by rfl) w.heap.size 0 cu 22 hb3 cs hcl (fun hp => ⟨rfl, hsrcs w3 hrow3 hp⟩) (by omega) h1c w.heap.size w hbel3 (Nat.le_refl _) ?_; intro w4 HC4 hbel4))
  have hb4 : Blk w4 w.heap.size P := by unfold Blk; rw [← HSPL.out]; exact HC4.out
  have hr4 : Rd w4 (some ⟨w.heap.size, 0, none⟩) k k P := hb4.whole k HPl.out.symm (by unfold maxLen; omega) HPb.out
  clear HC4 hb3 hbel3 hrow3 hsrcs hcl h1c HCS HCU hcul hcl2 HSPL hb4
  go_wp2
  go_ret
  exact ⟨_, rfl, hr4, hbel4⟩
end
end Go.Proofs.Ytljlioglpaogdae
