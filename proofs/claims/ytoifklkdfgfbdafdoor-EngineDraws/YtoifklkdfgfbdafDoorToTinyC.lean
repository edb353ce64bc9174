/- crofttop.tiny. · crofttop.said. · croftkeep.tiny. -/
import Derived.Test.YtoifklkdfgfbdafDoorToCktC
import Derived.Test.YtoifklkdfgfbdafDoorToPlayP
import Derived.Test.YtoifklkdfgfbdafDoorToEnU
namespace Go.Proofs.YtoifklkdfgfbdafDoor
open Go.RowKit Crm

def tnyT : List Gt := [⟨1, 1, 0, 0⟩, ⟨1, 2, 0, 0⟩, ⟨6, 0, 0, 3⟩, ⟨3, 2, 1, 0⟩]
end Go.Proofs.YtoifklkdfgfbdafDoor

namespace Go.Proofs.YtoifklkdfgfbdafDoor
open Go.RowKit Crm

theorem lit_rd {w : World} {gb : Nat} {xs : List Int} {n : Nat} {E : TypeId} {z : Nat × Nat} (h : w.heap[gb]? = some (.cells (xs.map (Value.int .u64)).toArray E z)) (hl : xs.length = n) (hn : n ≤ 1000) (hb : ∀ x ∈ xs, 0 ≤ x ∧ x ≤ 18446744073709551615) : Rd w (some ⟨gb, 0, none⟩) n n xs := by
  refine ⟨hl, Nat.le_refl _, by unfold maxLen; omega, hb, by simp, fun x hx i hi => ?_⟩
  obtain rfl := Option.some.inj hx
  rw [Addr.add_lit, Nat.zero_add, cell_of_row w _ _ _ _ z h]
  simp [show i < xs.length by omega]
theorem tnyT_ok : Cke tnyT [3] 4 1 0 := by
  refine .inr ⟨⟨by decide, by decide⟩, .inr ⟨⟨by decide, by decide⟩, .inr ⟨⟨fun i hi => ?_, fun i hi => ?_⟩, rfl⟩⟩⟩
  · have : i = 0 ∨ i = 1 ∨ i = 2 ∨ i = 3 := by omega
    rcases this with rfl | rfl | rfl | rfl <;> (unfold okg; decide)
  · obtain rfl : i = 0 := by omega
    decide
theorem tnyT_run : Ere tnyT [3] 4 1 3 1 2 2 0 := .inr ⟨.inr ⟨tnyT_ok, .inr ⟨⟨by decide, by decide, by decide, by decide⟩, rfl⟩⟩, .inr ⟨by decide, .inr ⟨by decide, rfl⟩⟩⟩
theorem tnyT_out : otl tnyT [3] [5, 6] 1 = [21] := by decide
theorem tnyT_see : (snl tnyT [3] 3 1 [5, 6] [1, 2] 4 1).getD 1 [] = [7, 10, 26, 31, 36] := by decide

end Go.Proofs.YtoifklkdfgfbdafDoor

namespace Go.Proofs.YtoifklkdfgfbdafDoor
open Go.RowKit Crm

def tnyG : List Gt := [⟨1, 1, 0, 0⟩, ⟨1, 2, 0, 0⟩, ⟨5, 0, 1, 0⟩, ⟨2, 0, 0, 7⟩, ⟨3, 2, 3, 0⟩]
set_option maxRecDepth 100000 in
theorem kTiny (w : World) :
    Calls Tryd.prog 7 #[] w fun e w' => ∃ a b, e = .returned (.agg #[.slice a 5 5, .slice b 1 1]) ∧ RdG w' a 5 5 tnyG ∧ RdI w' b 1 1 [4] ∧ Below w.heap.size w w' := by
  go_enter Tryd.func7, Tryd.ntmps7
  go_wp2
  have h1 : CBox (w.alloc (.cells #[.slice (some ⟨w.heap.size + 1, 0, none⟩) 5 5, .slice (some ⟨w.heap.size + 1 + 1, 0, none⟩) 1 1] 25)) w.heap.size (some ⟨w.heap.size + 1, 0, none⟩) 5 5 (some ⟨w.heap.size + 1 + 1, 0, none⟩) 1 1 := CBox.new w _ _ _ _ _ _
  have b1 : Below w.heap.size w (w.alloc (.cells #[.slice (some ⟨w.heap.size + 1, 0, none⟩) 5 5, .slice (some ⟨w.heap.size + 1 + 1, 0, none⟩) 1 1] 25)) := (Below.refl _ _).alloc (Nat.le_refl _) _
  have s1 : (w.alloc (.cells #[.slice (some ⟨w.heap.size + 1, 0, none⟩) 5 5, .slice (some ⟨w.heap.size + 1 + 1, 0, none⟩) 1 1] 25)).heap.size = w.heap.size + 1 := by simp
  generalize w.alloc (.cells #[.slice (some ⟨w.heap.size + 1, 0, none⟩) 5 5, .slice (some ⟨w.heap.size + 1 + 1, 0, none⟩) 1 1] 25) = w1 at *
  rw [← s1] at h1 ⊢
  have h2 : (w1.alloc (.cells (gcs tnyG).toArray 43)).heap[w1.heap.size]? = some (.cells (gcs tnyG).toArray 43 (0, 0)) := heap_alloc_new w1 _
  have b2 : Below w1.heap.size w1 (w1.alloc (.cells (gcs tnyG).toArray 43)) := (Below.refl _ _).alloc (Nat.le_refl _) _
  have s2 : (w1.alloc (.cells (gcs tnyG).toArray 43)).heap.size = w1.heap.size + 1 := by simp
  show bodyPost _ _ _ _ _ ((w1.alloc (.cells (gcs tnyG).toArray 43)).alloc (.cells #[.int .i64 4] 3))
  generalize w1.alloc (.cells (gcs tnyG).toArray 43) = w2 at *
  rw [← s2] at h1 ⊢
  have h3 : (w2.alloc (.cells #[.int .i64 4] 3)).heap[w2.heap.size]? = some (.cells #[.int .i64 4] 3 (0, 0)) := heap_alloc_new w2 _
  have b3 : Below w2.heap.size w2 (w2.alloc (.cells #[.int .i64 4] 3)) := (Below.refl _ _).alloc (Nat.le_refl _) _
  generalize w2.alloc (.cells #[.int .i64 4] 3) = w3 at *
  have h1' := (h1.below b2 h1.lt).below b3 (h1.below b2 h1.lt).lt
  have h2' : w3.heap[w1.heap.size]? = some (.cells (gcs tnyG).toArray 43 (0, 0)) := by rw [b3.block _ (by omega)]; exact h2
  obtain ⟨d0, d1⟩ := h1'.cells
  have hbw := b1.trans ((b2.trans (b3.mono b2.size)).mono b1.size)
  have HG : RdG w3 (some ⟨w1.heap.size, 0, none⟩) 5 5 tnyG := by
    refine ⟨rfl, Nat.le_refl _, by decide, by simp, fun i hi => ?_, fun x hx i hi => ?_⟩
    · have : i = 0 ∨ i = 1 ∨ i = 2 ∨ i = 3 ∨ i = 4 := by omega
      rcases this with rfl | rfl | rfl | rfl | rfl <;> decide
    · obtain rfl := Option.some.inj hx
      obtain ⟨e1, e2, e3, e4⟩ := gcs_get tnyG i hi
      simp only [Addr.add_lit, Nat.zero_add]
      refine ⟨?_, ?_, ?_, ?_⟩ <;> rw [cell_of_row w3 _ _ _ _ (0, 0) h2'] <;> simpa using by assumption
  have HO : RdI w3 (some ⟨w2.heap.size, 0, none⟩) 1 1 [4] := by
    refine ⟨rfl, Nat.le_refl _, by decide, by simp, by simp, fun x hx i hi => ?_⟩
    obtain rfl := Option.some.inj hx
    obtain rfl : i = 0 := by omega
    rw [Addr.add_lit, cell_of_row w3 _ _ _ _ (0, 0) h3]
    rfl
  refine bodyPost_ret (v := .agg #[.slice (some ⟨w1.heap.size, 0, none⟩) 5 5, .slice (some ⟨w2.heap.size, 0, none⟩) 1 1]) ?_ rfl ⟨_, _, rfl, HG, HO, hbw⟩
  simp [results, Tryd.results7, go_sem, d0, d1]
end Go.Proofs.YtoifklkdfgfbdafDoor
