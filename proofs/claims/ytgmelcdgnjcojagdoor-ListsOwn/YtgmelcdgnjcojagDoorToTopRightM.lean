/- croftkeep.tiny. · croftkeep.worked. · What a right circuit lets be known. -/
import Derived.Test.YtgmelcdgnjcojagDoorToCktC
import Derived.Test.YtgmelcdgnjcojagDoorToOutsC
import Derived.Test.YtgmelcdgnjcojagDoorToSaidC
import Derived.Test.YtgmelcdgnjcojagDoorToEngM
namespace Go.Proofs.YtgmelcdgnjcojagDoor
open Go.RowKit Crm

def tnyG : List Gt := [⟨1, 1, 0, 0⟩, ⟨1, 2, 0, 0⟩, ⟨5, 0, 1, 0⟩, ⟨2, 0, 0, 7⟩, ⟨3, 2, 3, 0⟩]
set_option maxRecDepth 100000 in
theorem kTiny (w : World) :
    Calls Tryd.prog 52 #[] w fun e w' => ∃ a b, e = .returned (.agg #[.slice a 5 5, .slice b 1 1]) ∧ RdG w' a 5 5 tnyG ∧ RdI w' b 1 1 [4] ∧ Below w.heap.size w w' := by
  go_enter Tryd.func52, Tryd.ntmps52
  go_wp2
  have h1 : CBox (w.alloc (.cells #[.slice (some ⟨w.heap.size + 1, 0, none⟩) 5 5, .slice (some ⟨w.heap.size + 1 + 1, 0, none⟩) 1 1] 26)) w.heap.size (some ⟨w.heap.size + 1, 0, none⟩) 5 5 (some ⟨w.heap.size + 1 + 1, 0, none⟩) 1 1 := CBox.new w _ _ _ _ _ _
  have b1 : Below w.heap.size w (w.alloc (.cells #[.slice (some ⟨w.heap.size + 1, 0, none⟩) 5 5, .slice (some ⟨w.heap.size + 1 + 1, 0, none⟩) 1 1] 26)) := (Below.refl _ _).alloc (Nat.le_refl _) _
  have s1 : (w.alloc (.cells #[.slice (some ⟨w.heap.size + 1, 0, none⟩) 5 5, .slice (some ⟨w.heap.size + 1 + 1, 0, none⟩) 1 1] 26)).heap.size = w.heap.size + 1 := by simp
  generalize w.alloc (.cells #[.slice (some ⟨w.heap.size + 1, 0, none⟩) 5 5, .slice (some ⟨w.heap.size + 1 + 1, 0, none⟩) 1 1] 26) = w1 at *
  rw [← s1] at h1 ⊢
  have h2 : (w1.alloc (.cells (gcs tnyG).toArray 61)).heap[w1.heap.size]? = some (.cells (gcs tnyG).toArray 61 (0, 0)) := heap_alloc_new w1 _
  have b2 : Below w1.heap.size w1 (w1.alloc (.cells (gcs tnyG).toArray 61)) := (Below.refl _ _).alloc (Nat.le_refl _) _
  have s2 : (w1.alloc (.cells (gcs tnyG).toArray 61)).heap.size = w1.heap.size + 1 := by simp
  show bodyPost _ _ _ _ _ ((w1.alloc (.cells (gcs tnyG).toArray 61)).alloc (.cells #[.int .i64 4] 3))
  generalize w1.alloc (.cells (gcs tnyG).toArray 61) = w2 at *
  rw [← s2] at h1 ⊢
  have h3 : (w2.alloc (.cells #[.int .i64 4] 3)).heap[w2.heap.size]? = some (.cells #[.int .i64 4] 3 (0, 0)) := heap_alloc_new w2 _
  have b3 : Below w2.heap.size w2 (w2.alloc (.cells #[.int .i64 4] 3)) := (Below.refl _ _).alloc (Nat.le_refl _) _
  generalize w2.alloc (.cells #[.int .i64 4] 3) = w3 at *
  have h1' := (h1.below b2 h1.lt).below b3 (h1.below b2 h1.lt).lt
  have h2' : w3.heap[w1.heap.size]? = some (.cells (gcs tnyG).toArray 61 (0, 0)) := by rw [b3.block _ (by omega)]; exact h2
  obtain ⟨d0, d1⟩ := h1'.cells
  have hbw := b1.trans ((b2.trans (b3.mono b2.size)).mono b1.size)
  have HG : RdG w3 (some ⟨w1.heap.size, 0, none⟩) 5 5 tnyG := by
    refine ⟨rfl, Nat.le_refl _, by decide, by simp, fun i hi => ?_, fun x hx i hi => ?_⟩
    · have : i = 0 ∨ i = 1 ∨ i = 2 ∨ i = 3 ∨ i = 4 := by omega
      rcases this with rfl | rfl | rfl | rfl | rfl <;> decide
    · obtain rfl := Option.some.inj hx
      obtain ⟨e1, e2, e3, e4⟩ := gcs_get tnyG i hi
      simp only [Addr.add_lit, Nat.zero_add]
      refine ⟨?_, ?_, ?_, ?_⟩ <;> rw [cell_of_row w3 _ _ _ _ (0, 0) h2'] <;> simpa using by assumption
  have HO : RdI w3 (some ⟨w2.heap.size, 0, none⟩) 1 1 [4] := by
    refine ⟨rfl, Nat.le_refl _, by decide, by simp, by simp, fun x hx i hi => ?_⟩
    obtain rfl := Option.some.inj hx
    obtain rfl : i = 0 := by omega
    rw [Addr.add_lit, cell_of_row w3 _ _ _ _ (0, 0) h3]
    rfl
  refine bodyPost_ret (v := .agg #[.slice (some ⟨w1.heap.size, 0, none⟩) 5 5, .slice (some ⟨w2.heap.size, 0, none⟩) 1 1]) ?_ rfl ⟨_, _, rfl, HG, HO, hbw⟩
  simp [results, Tryd.results52, go_sem, d0, d1]
end Go.Proofs.YtgmelcdgnjcojagDoor

namespace Go.Proofs.YtgmelcdgnjcojagDoor
open Go.RowKit Crm

theorem tnyg_ok : Cke tnyG [4] 5 1 0 := by
  refine .inr ⟨⟨by decide, by decide⟩, .inr ⟨⟨by decide, by decide⟩, .inr ⟨⟨fun i hi => ?_, fun i hi => ?_⟩, rfl⟩⟩⟩
  · have : i = 0 ∨ i = 1 ∨ i = 2 ∨ i = 3 ∨ i = 4 := by omega
    rcases this with rfl | rfl | rfl | rfl | rfl <;> (unfold okg; decide)
  · obtain rfl : i = 0 := by omega
    decide
theorem tnyg_run : Ere tnyG [4] 5 1 3 1 2 5 0 := .inr ⟨.inr ⟨tnyg_ok, .inr ⟨⟨by decide, by decide, by decide, by decide⟩, rfl⟩⟩, .inr ⟨by decide, .inr ⟨by decide, rfl⟩⟩⟩
theorem tnyg_out : otl tnyG [4] [3, 4] 1 = [19] := by decide
theorem tnyg_see : ((snl tnyG [4] 3 1 [3, 4] [1, 2, 3, 4, 5] 5 1).getD 0 []).length = 8 ∧ ((snl tnyG [4] 3 1 [3, 4] [1, 2, 3, 4, 5] 5 1).getD 0 []).getD 0 0 = 4 := by
  rw [snl_getD _ _ _ _ _ _ _ _ (by omega)]
  have e0 : esn tnyG 3 1 [3, 4] [1, 2, 3, 4, 5] 0 0 = [4] := by decide
  have e1 : esn tnyG 3 1 [3, 4] [1, 2, 3, 4, 5] 1 0 = [6] := by decide
  have e2 : (esn tnyG 3 1 [3, 4] [1, 2, 3, 4, 5] 2 0).length = 3 := by unfold esn; rw [if_neg (by decide), if_pos (by decide)]; exact tmR_len _ _ _ _ _ _
  have e3 : esn tnyG 3 1 [3, 4] [1, 2, 3, 4, 5] 3 0 = [] := rfl
  have e4 : esn tnyG 3 1 [3, 4] [1, 2, 3, 4, 5] 4 0 = [] := rfl
  have r5 : List.range 5 = [0, 1, 2, 3, 4] := rfl
  have r1 : List.range 1 = [0] := rfl
  unfold sno sng
  rw [r5, r1]
  simp only [List.flatMap_cons, List.flatMap_nil, e0, e1, e3, e4, List.append_nil]
  refine ⟨?_, rfl⟩
  simp only [List.length_append, e2, ew_len]
  rfl

set_option maxRecDepth 100000 in
set_option maxHeartbeats 4000000 in
theorem kWorked (w : World) (hS : Shp w) :
    Calls Tryd.prog 10 #[] w fun e w' => e = .returned (.bool true) ∧ Below w.heap.size w w' := by
  go_enter Tryd.func10, Tryd.ntmps10
  go_wp2_with fail
  refine (kTiny _).mono ?_
  rintro e w1 ⟨ta, tb, rfl, hg1, ho1, hb1⟩
  go_wp2_with fail
  have hb2 : Below w1.heap.size w1 (w1.alloc (.cells #[.int .u64 3, .int .u64 4] 34)) := (Below.refl _ _).alloc (Nat.le_refl _) _
  have hx : Rd (w1.alloc (.cells #[.int .u64 3, .int .u64 4] 34)) (some ⟨w1.heap.size, 0, none⟩) 2 2 [3, 4] := lit_rd (xs := [3, 4]) (heap_alloc_new w1 _) rfl (by omega) (by decide)
  have hs2 : (w1.alloc (.cells #[.int .u64 3, .int .u64 4] 34)).heap.size = w1.heap.size + 1 := by simp
  generalize w1.alloc (.cells #[.int .u64 3, .int .u64 4] 34) = w2 at *
  rw [← hs2]
  have hb3' : Below w2.heap.size w2 (w2.alloc (.cells #[.int .u64 1, .int .u64 2, .int .u64 3, .int .u64 4, .int .u64 5] 34)) := (Below.refl _ _).alloc (Nat.le_refl _) _
  have hy : Rd (w2.alloc (.cells #[.int .u64 1, .int .u64 2, .int .u64 3, .int .u64 4, .int .u64 5] 34)) (some ⟨w2.heap.size, 0, none⟩) 5 5 [1, 2, 3, 4, 5] := lit_rd (xs := [1, 2, 3, 4, 5]) (heap_alloc_new w2 _) rfl (by omega) (by decide)
  generalize w2.alloc (.cells #[.int .u64 1, .int .u64 2, .int .u64 3, .int .u64 4, .int .u64 5] 34) = w3 at *
  have hb3 := hb2.trans (hb3'.mono hb2.size)
  refine (eRun _ _ _ _ _ _ _ _ 3 1 _ _ _ _ _ _ _ _ _ (hg1.below hb3) (ho1.below hb3) (hx.below hb3') hy (by omega) (by omega) (hS.below (hb1.trans (hb3.mono hb1.size)))).mono ?_
  rintro e w4 ⟨⟨r3, hr3, hE3, _⟩ | ⟨_, a7, c7, b7, k7, rfl, hr7, hr8⟩, hb4'⟩
  · exact absurd (hE3.one tnyg_run) hr3
  rw [tnyg_out] at hr7
  have e3 : (3 : Int).toNat = 3 := rfl
  have e1 : (1 : Int).toNat = 1 := rfl
  rw [e3, e1] at hr8
  rw [e3]
  obtain ⟨b, o, ai, ni, ci, row, rfl, hbl, HR, hc, hrow⟩ := hr8.one (k := 0) (by omega)
  have hrr := HR.out
  obtain rfl : 8 = ni := by rw [← hrow.len, ← hrr]; exact tnyg_see.1.symm
  have h4 : row.getD 0 0 = 4 := by rw [← hrr]; exact tnyg_see.2
  clear hrr
  have hb4 := hb1.trans ((hb3.trans (hb4'.mono hb3.size)).mono hb1.size)
  have hk7 := hr8.cap
  have hm7 := hr8.max
  unfold maxLen at hm7
  clear hr8 hb1 hb2 hb3 hb3' hb4' hg1 ho1 hx hy hs2 HR e3 e1
  go_wp2_with fail
  have hb5' : Below w4.heap.size w4 (w4.alloc (.cells #[.int .u64 19] 34)) := (Below.refl _ _).alloc (Nat.le_refl _) _
  have hx5 : Rd (w4.alloc (.cells #[.int .u64 19] 34)) (some ⟨w4.heap.size, 0, none⟩) 1 1 [19] := lit_rd (xs := [19]) (heap_alloc_new w4 _) rfl (by omega) (by decide)
  generalize w4.alloc (.cells #[.int .u64 19] 34) = w5 at *
  refine (cSame _ _ _ _ _ _ _ _ (hr7.below hb5') hx5).mono ?_
  rintro e w6 ⟨rfl, hb6'⟩
  have hb46 := hb5'.trans (hb6'.mono hb5'.size)
  have hb6 := hb4.trans (hb46.mono hb4.size)
  have hrow6 := hrow.below hb46
  have hc6 : w6.cell? ⟨b, o + 0, none⟩ = some (.slice ai 8 ci) := by rw [hb46.cell hbl]; exact hc
  clear hb4 hb5' hb6' hx5 hr7 hrow hc
  obtain ⟨b2, o2, x2, rfl, hbl2, HX2, hx2, hcx⟩ := hrow6.one (k := 0) (by omega)
  have hx2e := HX2.out
  rw [h4] at hx2e
  subst hx2e
  have hcap6 := hrow6.cap
  have hmax6 := hrow6.max
  unfold maxLen at hmax6
  rw [Nat.add_zero] at hc6 hcx
  go_wp2
  go_ret
  exact ⟨rfl, hb6⟩
end Go.Proofs.YtgmelcdgnjcojagDoor

namespace Go.Proofs.YtgmelcdgnjcojagDoor
open Crm

/-- What a right circuit lets be known. -/
theorem Nde.facts {G : List Gt} {O : List Int} {N m : Nat} {n t : Int} (h : Nde G O N m n t 0) : Cke G O N m 0 ∧ ∃ n' t' : Nat, n = n' ∧ t = t' ∧ 2 * t' + 1 ≤ n' ∧ n' ≤ 9 ∧ t' ≤ 4 := by
  obtain ⟨c1, o1, o2, o3, _⟩ := h.ok
  exact ⟨c1, n.toNat, t.toNat, by omega, by omega, by omega, by omega, by omega⟩
end Go.Proofs.YtgmelcdgnjcojagDoor
