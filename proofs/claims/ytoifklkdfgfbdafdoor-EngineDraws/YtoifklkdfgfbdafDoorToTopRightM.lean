/- croftkeep.worked. · crofttop.crew, filled. · What a right circuit lets be known. -/
import Derived.Test.YtoifklkdfgfbdafDoorToTinyC
import Derived.Test.YtoifklkdfgfbdafDoorToAnyM
import Derived.Test.YtoifklkdfgfbdafDoorToRows2
namespace Go.Proofs.YtoifklkdfgfbdafDoor
open Go.RowKit Crm

theorem tnyg_ok : Cke tnyG [4] 5 1 0 := by
  refine .inr ⟨⟨by decide, by decide⟩, .inr ⟨⟨by decide, by decide⟩, .inr ⟨⟨fun i hi => ?_, fun i hi => ?_⟩, rfl⟩⟩⟩
  · have : i = 0 ∨ i = 1 ∨ i = 2 ∨ i = 3 ∨ i = 4 := by omega
    rcases this with rfl | rfl | rfl | rfl | rfl <;> (unfold okg; decide)
  · obtain rfl : i = 0 := by omega
    decide
theorem tnyg_run : Ere tnyG [4] 5 1 3 1 2 5 0 := .inr ⟨.inr ⟨tnyg_ok, .inr ⟨⟨by decide, by decide, by decide, by decide⟩, rfl⟩⟩, .inr ⟨by decide, .inr ⟨by decide, rfl⟩⟩⟩
theorem tnyg_out : otl tnyG [4] [3, 4] 1 = [19] := by decide
theorem tnyg_see : ((snl tnyG [4] 3 1 [3, 4] [1, 2, 3, 4, 5] 5 1).getD 0 []).length = 8 ∧ ((snl tnyG [4] 3 1 [3, 4] [1, 2, 3, 4, 5] 5 1).getD 0 []).getD 0 0 = 4 := by
  rw [snl_getD _ _ _ _ _ _ _ _ (by omega)]
  have e0 : esn tnyG 3 1 [3, 4] [1, 2, 3, 4, 5] 0 0 = [4] := by decide
  have e1 : esn tnyG 3 1 [3, 4] [1, 2, 3, 4, 5] 1 0 = [6] := by decide
  have e2 : (esn tnyG 3 1 [3, 4] [1, 2, 3, 4, 5] 2 0).length = 3 := by unfold esn; rw [if_neg (by decide), if_pos (by decide)]; exact tmR_len _ _ _ _ _ _
  have e3 : esn tnyG 3 1 [3, 4] [1, 2, 3, 4, 5] 3 0 = [] := rfl
  have e4 : esn tnyG 3 1 [3, 4] [1, 2, 3, 4, 5] 4 0 = [] := rfl
  have r5 : List.range 5 = [0, 1, 2, 3, 4] := rfl
  have r1 : List.range 1 = [0] := rfl
  unfold sno sng
  rw [r5, r1]
  simp only [List.flatMap_cons, List.flatMap_nil, e0, e1, e3, e4, List.append_nil]
  refine ⟨?_, rfl⟩
  simp only [List.length_append, e2, ew_len]
  rfl

set_option maxRecDepth 100000 in
set_option maxHeartbeats 4000000 in
theorem kWorked (w : World) (hS : Shp w) :
    Calls Tryd.prog 17 #[] w fun e w' => e = .returned (.bool true) ∧ Below w.heap.size w w' := by
  go_enter Tryd.func17, Tryd.ntmps17
  go_wp2_with fail
  refine (kTiny _).mono ?_
  rintro e w1 ⟨ta, tb, rfl, hg1, ho1, hb1⟩
  go_wp2_with fail
  have hb2 : Below w1.heap.size w1 (w1.alloc (.cells #[.int .u64 3, .int .u64 4] 37)) := (Below.refl _ _).alloc (Nat.le_refl _) _
  have hx : Rd (w1.alloc (.cells #[.int .u64 3, .int .u64 4] 37)) (some ⟨w1.heap.size, 0, none⟩) 2 2 [3, 4] := lit_rd (xs := [3, 4]) (heap_alloc_new w1 _) rfl (by omega) (by decide)
  have hs2 : (w1.alloc (.cells #[.int .u64 3, .int .u64 4] 37)).heap.size = w1.heap.size + 1 := by simp
  generalize w1.alloc (.cells #[.int .u64 3, .int .u64 4] 37) = w2 at *
  rw [← hs2]
  have hb3' : Below w2.heap.size w2 (w2.alloc (.cells #[.int .u64 1, .int .u64 2, .int .u64 3, .int .u64 4, .int .u64 5] 37)) := (Below.refl _ _).alloc (Nat.le_refl _) _
  have hy : Rd (w2.alloc (.cells #[.int .u64 1, .int .u64 2, .int .u64 3, .int .u64 4, .int .u64 5] 37)) (some ⟨w2.heap.size, 0, none⟩) 5 5 [1, 2, 3, 4, 5] := lit_rd (xs := [1, 2, 3, 4, 5]) (heap_alloc_new w2 _) rfl (by omega) (by decide)
  generalize w2.alloc (.cells #[.int .u64 1, .int .u64 2, .int .u64 3, .int .u64 4, .int .u64 5] 37) = w3 at *
  have hb3 := hb2.trans (hb3'.mono hb2.size)
  refine (eRun _ _ _ _ _ _ _ _ 3 1 _ _ _ _ _ _ _ _ _ (hg1.below hb3) (ho1.below hb3) (hx.below hb3') hy (by omega) (by omega) (hS.below (hb1.trans (hb3.mono hb1.size)))).mono ?_
  rintro e w4 ⟨⟨r3, hr3, hE3, _⟩ | ⟨_, a7, c7, b7, k7, rfl, hr7, hr8⟩, hb4'⟩
  · exact absurd (hE3.one tnyg_run) hr3
  rw [tnyg_out] at hr7
  have e3 : (3 : Int).toNat = 3 := rfl
  have e1 : (1 : Int).toNat = 1 := rfl
  rw [e3, e1] at hr8
  rw [e3]
  obtain ⟨b, o, ai, ni, ci, row, rfl, hbl, HR, hc, hrow⟩ := hr8.one (k := 0) (by omega)
  have hrr := HR.out
  obtain rfl : 8 = ni := by rw [← hrow.len, ← hrr]; exact tnyg_see.1.symm
  have h4 : row.getD 0 0 = 4 := by rw [← hrr]; exact tnyg_see.2
  clear hrr
  have hb4 := hb1.trans ((hb3.trans (hb4'.mono hb3.size)).mono hb1.size)
  have hk7 := hr8.cap
  have hm7 := hr8.max
  unfold maxLen at hm7
  clear hr8 hb1 hb2 hb3 hb3' hb4' hg1 ho1 hx hy hs2 HR e3 e1
  go_wp2_with fail
  have hb5' : Below w4.heap.size w4 (w4.alloc (.cells #[.int .u64 19] 37)) := (Below.refl _ _).alloc (Nat.le_refl _) _
  have hx5 : Rd (w4.alloc (.cells #[.int .u64 19] 37)) (some ⟨w4.heap.size, 0, none⟩) 1 1 [19] := lit_rd (xs := [19]) (heap_alloc_new w4 _) rfl (by omega) (by decide)
  generalize w4.alloc (.cells #[.int .u64 19] 37) = w5 at *
  refine (cSame _ _ _ _ _ _ _ _ (hr7.below hb5') hx5).mono ?_
  rintro e w6 ⟨rfl, hb6'⟩
  have hb46 := hb5'.trans (hb6'.mono hb5'.size)
  have hb6 := hb4.trans (hb46.mono hb4.size)
  have hrow6 := hrow.below hb46
  have hc6 : w6.cell? ⟨b, o + 0, none⟩ = some (.slice ai 8 ci) := by rw [hb46.cell hbl]; exact hc
  clear hb4 hb5' hb6' hx5 hr7 hrow hc
  obtain ⟨b2, o2, x2, rfl, hbl2, HX2, hx2, hcx⟩ := hrow6.one (k := 0) (by omega)
  have hx2e := HX2.out
  rw [h4] at hx2e
  subst hx2e
  have hcap6 := hrow6.cap
  have hmax6 := hrow6.max
  unfold maxLen at hmax6
  rw [Nat.add_zero] at hc6 hcx
  go_wp2
  go_ret
  exact ⟨rfl, hb6⟩
end Go.Proofs.YtoifklkdfgfbdafDoor

namespace Go.Proofs.YtoifklkdfgfbdafDoor
open Go.RowKit Crm

set_option maxRecDepth 100000 in
theorem kFilled2 (a : Option Addr) (n c : Nat) (xs : List Int) (k : Nat) (w : World) (h : Rd w a n c xs) (hk : k ≤ 2000) :
    Calls Tryd.prog 15 #[.slice a n c, .int .i64 k] w fun e w' => ∃ g, e = .returned (.slice (some ⟨g, 0, none⟩) k k) ∧ Rd w' (some ⟨g, 0, none⟩) k k (padded xs k) ∧ Below w.heap.size w w' := by
  obtain ⟨i0, hi, hz0, hz1, hz2⟩ := info_parts info37
  obtain ⟨P, HP⟩ : ∃ P, Hid (padded xs k = P) := ⟨_, rfl⟩
  have HPl : Hid (P.length = k) := by unfold Hid; rw [← HP.out]; exact padded_len xs k
  have HPb : Hid (∀ x ∈ P, 0 ≤ x ∧ x ≤ 18446744073709551615) := by unfold Hid; rw [← HP.out]; exact padded_bd h.bd k
  rw [HP.out]
  obtain ⟨cs, HCS⟩ : ∃ cs, Hid ((xs.take k).map (Value.int .u64) = cs) := ⟨_, rfl⟩
  obtain ⟨cu, HCU⟩ : ∃ cu, Hid ((List.replicate k (0 : Int)).map (Value.int .u64) = cu) := ⟨_, rfl⟩
  have hrl := h.len
  have hcl := copy_len (k := k) hrl
  have h1c := one_ints (xs.take k)
  have hsrcs := fun w' (hh : Rd w' a n c xs) => copy_src hh k
  have HSPL : Hid (Go.splice cu 0 cs = P.map (Value.int .u64)) := by unfold Hid; rw [← HCU.out, ← HCS.out, ← HP.out]; exact padded_splice xs k
  have hcul : cu.length = k := by rw [← HCU.out]; simp
  rw [HCS.out] at hcl h1c hsrcs
  have hcl2 : cs.length ≤ k := by rw [hcl]; exact Nat.min_le_right _ _
  go_enter Tryd.func15, Tryd.ntmps15
  go_wp2_with (first | (at_make; refine wpList_make_full _ rfl _ _ 34 rfl w.heap.size 37 i0 (.int .u64 0) 1 Tryd.underlying34 hi hz0 hz1 .i64 .i64 _ _ k rfl rfl (by omega) (by omega) (by rw [hz2]; omega) (by unfold maxLen; omega) (Nat.le_refl _) ?_; intro w3 hown hgrow; have hb3 : Blk w3 w.heap.size (List.replicate k 0) := Blk.made hown; have hbel3 : Below w.heap.size w w3 := (Below.refl _ _).grown hgrow (Nat.le_refl _) (by simp); have hrow3 := h.below hbel3; unfold Blk at hb3; rw [HCU.out] at hb3; clear hown hgrow) | (refine wpList_copy_splice rfl _ _ 34 34 rfl 37 Tryd.underlying34 (by rw [hi, Option.map_some, hz1]) (some ⟨w.heap.size, 0, none⟩) a k k n c (by rfl) (by rfl) w.heap.size 0 cu 37 hb3 cs hcl (fun hp => ⟨rfl, hsrcs w3 hrow3 hp⟩) (by omega) h1c w.heap.size w hbel3 (Nat.le_refl _) ?_; intro w4 HC4 hbel4))
  have hb4 : Blk w4 w.heap.size P := by unfold Blk; rw [← HSPL.out]; exact HC4.out
  have hr4 : Rd w4 (some ⟨w.heap.size, 0, none⟩) k k P := hb4.whole k HPl.out.symm (by unfold maxLen; omega) HPb.out
  clear HC4 hb3 hbel3 hrow3 hsrcs hcl h1c HCS HCU hcul hcl2 HSPL hb4
  go_wp2
  go_ret
  exact ⟨_, rfl, hr4, hbel4⟩
end Go.Proofs.YtoifklkdfgfbdafDoor

namespace Go.Proofs.YtoifklkdfgfbdafDoor
open Crm

/-- What a right circuit lets be known. -/
theorem Nde.facts {G : List Gt} {O : List Int} {N m : Nat} {n t : Int} (h : Nde G O N m n t 0) : Cke G O N m 0 ∧ ∃ n' t' : Nat, n = n' ∧ t = t' ∧ 2 * t' + 1 ≤ n' ∧ n' ≤ 9 ∧ t' ≤ 4 := by
  obtain ⟨c1, o1, o2, o3, _⟩ := h.ok
  exact ⟨c1, n.toNat, t.toNat, by omega, by omega, by omega, by omega, by omega⟩
end Go.Proofs.YtoifklkdfgfbdafDoor
