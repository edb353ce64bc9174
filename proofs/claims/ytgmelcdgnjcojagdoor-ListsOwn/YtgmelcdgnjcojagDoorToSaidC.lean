/- Package hide: its contracts (HidS: Shift; HidV: Twine). · crofttop.tiny. · crofttop.said. -/
import Derived.Test.YtgmelcdgnjcojagDoorToHidV
import Derived.Test.YtgmelcdgnjcojagDoorToCktC
import Derived.Test.YtgmelcdgnjcojagDoorToOutsC
import Derived.Test.YtgmelcdgnjcojagDoorToEnU
namespace Go.Proofs.YtgmelcdgnjcojagDoor
end Go.Proofs.YtgmelcdgnjcojagDoor

namespace Go.Proofs.YtgmelcdgnjcojagDoor
open Go.RowKit Crm

def tnyT : List Gt := [⟨1, 1, 0, 0⟩, ⟨1, 2, 0, 0⟩, ⟨6, 0, 0, 3⟩, ⟨3, 2, 1, 0⟩]
set_option maxRecDepth 100000 in
theorem tTiny (w : World) :
    Calls Tryd.prog 67 #[] w fun e w' => ∃ a b, e = .returned (.agg #[.slice a 4 4, .slice b 1 1]) ∧ RdG w' a 4 4 tnyT ∧ RdI w' b 1 1 [3] ∧ Below w.heap.size w w' := by
  go_enter Tryd.func67, Tryd.ntmps67
  go_wp2
  have h1 : CBox (w.alloc (.cells #[.slice (some ⟨w.heap.size + 1, 0, none⟩) 4 4, .slice (some ⟨w.heap.size + 1 + 1, 0, none⟩) 1 1] 26)) w.heap.size (some ⟨w.heap.size + 1, 0, none⟩) 4 4 (some ⟨w.heap.size + 1 + 1, 0, none⟩) 1 1 := CBox.new w _ _ _ _ _ _
  have b1 : Below w.heap.size w (w.alloc (.cells #[.slice (some ⟨w.heap.size + 1, 0, none⟩) 4 4, .slice (some ⟨w.heap.size + 1 + 1, 0, none⟩) 1 1] 26)) := (Below.refl _ _).alloc (Nat.le_refl _) _
  have s1 : (w.alloc (.cells #[.slice (some ⟨w.heap.size + 1, 0, none⟩) 4 4, .slice (some ⟨w.heap.size + 1 + 1, 0, none⟩) 1 1] 26)).heap.size = w.heap.size + 1 := by simp
  generalize w.alloc (.cells #[.slice (some ⟨w.heap.size + 1, 0, none⟩) 4 4, .slice (some ⟨w.heap.size + 1 + 1, 0, none⟩) 1 1] 26) = w1 at *
  rw [← s1] at h1 ⊢
  have h2 : (w1.alloc (.cells (gcs tnyT).toArray 61)).heap[w1.heap.size]? = some (.cells (gcs tnyT).toArray 61 (0, 0)) := heap_alloc_new w1 _
  have b2 : Below w1.heap.size w1 (w1.alloc (.cells (gcs tnyT).toArray 61)) := (Below.refl _ _).alloc (Nat.le_refl _) _
  have s2 : (w1.alloc (.cells (gcs tnyT).toArray 61)).heap.size = w1.heap.size + 1 := by simp
  show bodyPost _ _ _ _ _ ((w1.alloc (.cells (gcs tnyT).toArray 61)).alloc (.cells #[.int .i64 3] 3))
  generalize w1.alloc (.cells (gcs tnyT).toArray 61) = w2 at *
  rw [← s2] at h1 ⊢
  have h3 : (w2.alloc (.cells #[.int .i64 3] 3)).heap[w2.heap.size]? = some (.cells #[.int .i64 3] 3 (0, 0)) := heap_alloc_new w2 _
  have b3 : Below w2.heap.size w2 (w2.alloc (.cells #[.int .i64 3] 3)) := (Below.refl _ _).alloc (Nat.le_refl _) _
  generalize w2.alloc (.cells #[.int .i64 3] 3) = w3 at *
  have h1' := (h1.below b2 h1.lt).below b3 (h1.below b2 h1.lt).lt
  have h2' : w3.heap[w1.heap.size]? = some (.cells (gcs tnyT).toArray 61 (0, 0)) := by rw [b3.block _ (by omega)]; exact h2
  obtain ⟨d0, d1⟩ := h1'.cells
  have hbw := b1.trans ((b2.trans (b3.mono b2.size)).mono b1.size)
  have HG : RdG w3 (some ⟨w1.heap.size, 0, none⟩) 4 4 tnyT := by
    refine ⟨rfl, Nat.le_refl _, by decide, by simp, fun i hi => ?_, fun x hx i hi => ?_⟩
    · have : i = 0 ∨ i = 1 ∨ i = 2 ∨ i = 3 := by omega
      rcases this with rfl | rfl | rfl | rfl <;> decide
    · obtain rfl := Option.some.inj hx
      obtain ⟨e1, e2, e3, e4⟩ := gcs_get tnyT i hi
      simp only [Addr.add_lit, Nat.zero_add]
      refine ⟨?_, ?_, ?_, ?_⟩ <;> rw [cell_of_row w3 _ _ _ _ (0, 0) h2'] <;> simpa using by assumption
  have HO : RdI w3 (some ⟨w2.heap.size, 0, none⟩) 1 1 [3] := by
    refine ⟨rfl, Nat.le_refl _, by decide, by simp, by simp, fun x hx i hi => ?_⟩
    obtain rfl := Option.some.inj hx
    obtain rfl : i = 0 := by omega
    rw [Addr.add_lit, cell_of_row w3 _ _ _ _ (0, 0) h3]
    rfl
  refine bodyPost_ret (v := .agg #[.slice (some ⟨w1.heap.size, 0, none⟩) 4 4, .slice (some ⟨w2.heap.size, 0, none⟩) 1 1]) ?_ rfl ⟨_, _, rfl, HG, HO, hbw⟩
  simp [results, Tryd.results67, go_sem, d0, d1]
end Go.Proofs.YtgmelcdgnjcojagDoor

namespace Go.Proofs.YtgmelcdgnjcojagDoor
open Go.RowKit Crm

theorem lit_rd {w : World} {gb : Nat} {xs : List Int} {n : Nat} {E : TypeId} {z : Nat × Nat} (h : w.heap[gb]? = some (.cells (xs.map (Value.int .u64)).toArray E z)) (hl : xs.length = n) (hn : n ≤ 1000) (hb : ∀ x ∈ xs, 0 ≤ x ∧ x ≤ 18446744073709551615) : Rd w (some ⟨gb, 0, none⟩) n n xs := by
  refine ⟨hl, Nat.le_refl _, by unfold maxLen; omega, hb, by simp, fun x hx i hi => ?_⟩
  obtain rfl := Option.some.inj hx
  rw [Addr.add_lit, Nat.zero_add, cell_of_row w _ _ _ _ z h]
  simp [show i < xs.length by omega]
theorem tnyT_ok : Cke tnyT [3] 4 1 0 := by
  refine .inr ⟨⟨by decide, by decide⟩, .inr ⟨⟨by decide, by decide⟩, .inr ⟨⟨fun i hi => ?_, fun i hi => ?_⟩, rfl⟩⟩⟩
  · have : i = 0 ∨ i = 1 ∨ i = 2 ∨ i = 3 := by omega
    rcases this with rfl | rfl | rfl | rfl <;> (unfold okg; decide)
  · obtain rfl : i = 0 := by omega
    decide
theorem tnyT_run : Ere tnyT [3] 4 1 3 1 2 2 0 := .inr ⟨.inr ⟨tnyT_ok, .inr ⟨⟨by decide, by decide, by decide, by decide⟩, rfl⟩⟩, .inr ⟨by decide, .inr ⟨by decide, rfl⟩⟩⟩
theorem tnyT_out : otl tnyT [3] [5, 6] 1 = [21] := by decide
theorem tnyT_see : (snl tnyT [3] 3 1 [5, 6] [1, 2] 4 1).getD 1 [] = [7, 10, 26, 31, 36] := by decide

set_option maxRecDepth 100000 in
set_option maxHeartbeats 4000000 in
theorem tSaid (w : World) (hS : Shp w) :
    Calls Tryd.prog 28 #[] w fun e w' => e = .returned (.bool true) ∧ Below w.heap.size w w' := by
  go_enter Tryd.func28, Tryd.ntmps28
  go_wp2_with fail
  refine (tTiny _).mono ?_
  rintro e w1 ⟨ta, tb, rfl, hg1, ho1, hb1⟩
  go_wp2_with fail
  have hb2 : Below w1.heap.size w1 (w1.alloc (.cells #[.int .u64 5, .int .u64 6] 34)) := (Below.refl _ _).alloc (Nat.le_refl _) _
  have hx : Rd (w1.alloc (.cells #[.int .u64 5, .int .u64 6] 34)) (some ⟨w1.heap.size, 0, none⟩) 2 2 [5, 6] := lit_rd (xs := [5, 6]) (heap_alloc_new w1 _) rfl (by omega) (by decide)
  have hs2 : (w1.alloc (.cells #[.int .u64 5, .int .u64 6] 34)).heap.size = w1.heap.size + 1 := by simp
  generalize w1.alloc (.cells #[.int .u64 5, .int .u64 6] 34) = w2 at *
  rw [← hs2]
  have hb3' : Below w2.heap.size w2 (w2.alloc (.cells #[.int .u64 1, .int .u64 2] 34)) := (Below.refl _ _).alloc (Nat.le_refl _) _
  have hy : Rd (w2.alloc (.cells #[.int .u64 1, .int .u64 2] 34)) (some ⟨w2.heap.size, 0, none⟩) 2 2 [1, 2] := lit_rd (xs := [1, 2]) (heap_alloc_new w2 _) rfl (by omega) (by decide)
  generalize w2.alloc (.cells #[.int .u64 1, .int .u64 2] 34) = w3 at *
  have hb3 := hb2.trans (hb3'.mono hb2.size)
  refine (eRun _ _ _ _ _ _ _ _ 3 1 _ _ _ _ _ _ _ _ _ (hg1.below hb3) (ho1.below hb3) (hx.below hb3') hy (by omega) (by omega) (hS.below (hb1.trans (hb3.mono hb1.size)))).mono ?_
  rintro e w4 ⟨⟨r3, hr3, hE3, _⟩ | ⟨_, a7, c7, b7, k7, rfl, hr7, hr8⟩, hb4'⟩
  · exact absurd (hE3.one tnyT_run) hr3
  rw [tnyT_out] at hr7
  have e3 : (3 : Int).toNat = 3 := rfl
  have e1 : (1 : Int).toNat = 1 := rfl
  rw [e3, e1] at hr8
  rw [e3]
  obtain ⟨b, o, ai, ni, ci, row, rfl, hbl, HR, hc, hrow⟩ := hr8.one (k := 1) (by omega)
  have hrr := HR.out
  rw [tnyT_see] at hrr
  subst hrr
  obtain rfl : 5 = ni := hrow.len
  have hb4 := hb1.trans ((hb3.trans (hb4'.mono hb3.size)).mono hb1.size)
  have hk7 := hr8.cap
  have hm7 := hr8.max
  unfold maxLen at hm7
  clear hr8 hb1 hb2 hb3 hb3' hb4' hg1 ho1 hx hy hs2 HR e3 e1
  go_wp2_with fail
  have hb5' : Below w4.heap.size w4 (w4.alloc (.cells #[.int .u64 21] 34)) := (Below.refl _ _).alloc (Nat.le_refl _) _
  have hx5 : Rd (w4.alloc (.cells #[.int .u64 21] 34)) (some ⟨w4.heap.size, 0, none⟩) 1 1 [21] := lit_rd (xs := [21]) (heap_alloc_new w4 _) rfl (by omega) (by decide)
  generalize w4.alloc (.cells #[.int .u64 21] 34) = w5 at *
  refine (cSame _ _ _ _ _ _ _ _ (hr7.below hb5') hx5).mono ?_
  rintro e w6 ⟨rfl, hb6'⟩
  have hb46 := hb5'.trans (hb6'.mono hb5'.size)
  have hb6 := hb4.trans (hb46.mono hb4.size)
  have hrow6 := hrow.below hb46
  have hc6 : w6.cell? ⟨b, o + 1, none⟩ = some (.slice ai 5 ci) := by rw [hb46.cell hbl]; exact hc
  clear hb4 hb5' hb6' hx5 hr7 hrow hc
  go_wp2_with fail
  have hb7' : Below w6.heap.size w6 (w6.alloc (.cells #[.int .u64 7, .int .u64 10, .int .u64 26, .int .u64 31, .int .u64 36] 34)) := (Below.refl _ _).alloc (Nat.le_refl _) _
  have hx7 : Rd (w6.alloc (.cells #[.int .u64 7, .int .u64 10, .int .u64 26, .int .u64 31, .int .u64 36] 34)) (some ⟨w6.heap.size, 0, none⟩) 5 5 [7, 10, 26, 31, 36] := lit_rd (xs := [7, 10, 26, 31, 36]) (heap_alloc_new w6 _) rfl (by omega) (by decide)
  generalize w6.alloc (.cells #[.int .u64 7, .int .u64 10, .int .u64 26, .int .u64 31, .int .u64 36] 34) = w7 at *
  refine (cSame _ _ _ _ _ _ _ _ (hrow6.below hb7') hx7).mono ?_
  rintro e w8 ⟨rfl, hb8'⟩
  have hb8 := hb6.trans ((hb7'.trans (hb8'.mono hb7'.size)).mono hb6.size)
  clear hb7' hx7 hb8' hb6
  go_wp2
  go_ret
  exact ⟨rfl, hb8⟩
end Go.Proofs.YtgmelcdgnjcojagDoor
