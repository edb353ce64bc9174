/- croftkeep.tiny. · croftkeep.CircuitSums' closure, and slices.ContainsFunc with it: is there a product? -/
import Derived.Test.YtmpnaobjgknfkafDoorToCkDef
import Derived.Test.YtmpnaobjgknfkafDoorToOutsM
import Derived.Test.YtmpnaobjgknfkafDoorToGatesR
import Derived.Test.YtmpnaobjgknfkafDoorToOpenG
namespace Go.Proofs.YtmpnaobjgknfkafDoor
open Go.RowKit Crm

def tnyG : List Gt := [⟨1, 1, 0, 0⟩, ⟨1, 2, 0, 0⟩, ⟨5, 0, 1, 0⟩, ⟨2, 0, 0, 7⟩, ⟨3, 2, 3, 0⟩]
set_option maxRecDepth 100000 in
theorem kTiny (w : World) :
    Calls Tryd.prog 6 #[] w fun e w' => ∃ a b, e = .returned (.agg #[.slice a 5 5, .slice b 1 1]) ∧ RdG w' a 5 5 tnyG ∧ RdI w' b 1 1 [4] ∧ Below w.heap.size w w' := by
  go_enter Tryd.func6, Tryd.ntmps6
  go_wp2
  have h1 : CBox (w.alloc (.cells #[.slice (some ⟨w.heap.size + 1, 0, none⟩) 5 5, .slice (some ⟨w.heap.size + 1 + 1, 0, none⟩) 1 1] 25)) w.heap.size (some ⟨w.heap.size + 1, 0, none⟩) 5 5 (some ⟨w.heap.size + 1 + 1, 0, none⟩) 1 1 := CBox.new w _ _ _ _ _ _
  have b1 : Below w.heap.size w (w.alloc (.cells #[.slice (some ⟨w.heap.size + 1, 0, none⟩) 5 5, .slice (some ⟨w.heap.size + 1 + 1, 0, none⟩) 1 1] 25)) := (Below.refl _ _).alloc (Nat.le_refl _) _
  have s1 : (w.alloc (.cells #[.slice (some ⟨w.heap.size + 1, 0, none⟩) 5 5, .slice (some ⟨w.heap.size + 1 + 1, 0, none⟩) 1 1] 25)).heap.size = w.heap.size + 1 := by simp
  generalize w.alloc (.cells #[.slice (some ⟨w.heap.size + 1, 0, none⟩) 5 5, .slice (some ⟨w.heap.size + 1 + 1, 0, none⟩) 1 1] 25) = w1 at *
  rw [← s1] at h1 ⊢
  have h2 : (w1.alloc (.cells (gcs tnyG).toArray 43)).heap[w1.heap.size]? = some (.cells (gcs tnyG).toArray 43 (0, 0)) := heap_alloc_new w1 _
  have b2 : Below w1.heap.size w1 (w1.alloc (.cells (gcs tnyG).toArray 43)) := (Below.refl _ _).alloc (Nat.le_refl _) _
  have s2 : (w1.alloc (.cells (gcs tnyG).toArray 43)).heap.size = w1.heap.size + 1 := by simp
  show bodyPost _ _ _ _ _ ((w1.alloc (.cells (gcs tnyG).toArray 43)).alloc (.cells #[.int .i64 4] 3))
  generalize w1.alloc (.cells (gcs tnyG).toArray 43) = w2 at *
  rw [← s2] at h1 ⊢
  have h3 : (w2.alloc (.cells #[.int .i64 4] 3)).heap[w2.heap.size]? = some (.cells #[.int .i64 4] 3 (0, 0)) := heap_alloc_new w2 _
  have b3 : Below w2.heap.size w2 (w2.alloc (.cells #[.int .i64 4] 3)) := (Below.refl _ _).alloc (Nat.le_refl _) _
  generalize w2.alloc (.cells #[.int .i64 4] 3) = w3 at *
  have h1' := (h1.below b2 h1.lt).below b3 (h1.below b2 h1.lt).lt
  have h2' : w3.heap[w1.heap.size]? = some (.cells (gcs tnyG).toArray 43 (0, 0)) := by rw [b3.block _ (by omega)]; exact h2
  obtain ⟨d0, d1⟩ := h1'.cells
  have hbw := b1.trans ((b2.trans (b3.mono b2.size)).mono b1.size)
  have HG : RdG w3 (some ⟨w1.heap.size, 0, none⟩) 5 5 tnyG := by
    refine ⟨rfl, Nat.le_refl _, by decide, by simp, fun i hi => ?_, fun x hx i hi => ?_⟩
    · have : i = 0 ∨ i = 1 ∨ i = 2 ∨ i = 3 ∨ i = 4 := by omega
      rcases this with rfl | rfl | rfl | rfl | rfl <;> decide
    · obtain rfl := Option.some.inj hx
      obtain ⟨e1, e2, e3, e4⟩ := gcs_get tnyG i hi
      simp only [Addr.add_lit, Nat.zero_add]
      refine ⟨?_, ?_, ?_, ?_⟩ <;> rw [cell_of_row w3 _ _ _ _ (0, 0) h2'] <;> simpa using by assumption
  have HO : RdI w3 (some ⟨w2.heap.size, 0, none⟩) 1 1 [4] := by
    refine ⟨rfl, Nat.le_refl _, by decide, by simp, by simp, fun x hx i hi => ?_⟩
    obtain rfl := Option.some.inj hx
    obtain rfl : i = 0 := by omega
    rw [Addr.add_lit, cell_of_row w3 _ _ _ _ (0, 0) h3]
    rfl
  refine bodyPost_ret (v := .agg #[.slice (some ⟨w1.heap.size, 0, none⟩) 5 5, .slice (some ⟨w2.heap.size, 0, none⟩) 1 1]) ?_ rfl ⟨_, _, rfl, HG, HO, hbw⟩
  simp [results, Tryd.results6, go_sem, d0, d1]
end Go.Proofs.YtmpnaobjgknfkafDoor

namespace Go.Proofs.YtmpnaobjgknfkafDoor
open Go.RowKit Crm

set_option maxRecDepth 100000 in
theorem kIsMul (k x y z : Int) (w : World) :
    Calls Tryd.prog 13 #[.agg #[.int .i64 k, .int .i64 x, .int .i64 y, .int .u64 z]] w fun e w' => e = .returned (.bool (decide (k = 5))) ∧ Below w.heap.size w w' := by
  have hbA : Below w.heap.size w (w.alloc (.cells #[.int .i64 k, .int .i64 x, .int .i64 y, .int .u64 z] 43)) := (Below.refl _ _).alloc (Nat.le_refl _) _
  go_enter Tryd.func13, Tryd.ntmps13
  go_wp2
  go_ret
  exact ⟨rfl, hbA⟩

set_option maxRecDepth 100000 in
set_option maxHeartbeats 1000000 in
theorem kIndexMul (ag : Option Addr) (n cg : Nat) (G : List Gt) (w : World) (h : RdG w ag n cg G) :
    Calls Tryd.prog 28 #[.slice ag n cg, .func (.func 13) #[] #[]] w fun e w' => ((e = .returned (.int .i64 (-1)) ∧ ∀ i, i < n → (gt G i).k ≠ 5) ∨ ∃ p : Nat, p < n ∧ e = .returned (.int .i64 p)) ∧ Below w.heap.size w w' := by
  have hcap := h.cap
  have hmax := h.max
  unfold maxLen at hmax
  go_enter Tryd.func28, Tryd.ntmps28
  go_wp2
  go_loopw [8] (fun i wr => ∃ k : Nat, k ≤ n ∧ i = .int .i64 k ∧ Hid (∀ j, j < k → (gt G j).k ≠ 5) ∧ Below w.heap.size w wr) (fun i _ => n - (intOf i).toNat)
  case atStart => exact ⟨0, Nat.zero_le _, rfl, fun j hj => by omega, Below.refl _ _⟩
  case round =>
    obtain ⟨p, hp, rfl, HN, hbel⟩ := hrel
    have hs1 := hbel.size
    by_cases hlt : p < n
    · obtain ⟨b, o, k, x, y, z, rfl, hbb, HGi, hk, hx, hy, hz, c1, c2, c3, c4⟩ := (h.below hbel).one hlt
      go_wp2_with fail
      refine (kIsMul _ _ _ _ _).mono ?_
      rintro e w3 ⟨rfl, hb3⟩
      have hw3 := hbel.trans (hb3.mono hs1)
      clear hb3 hbel c1 c2 c3 c4 hx hy hz
      by_cases hk5 : k = 5
      · subst hk5
        go_wp2
        go_ret
        exact ⟨.inr ⟨p, hlt, rfl⟩, hw3⟩
      · have hkb : decide (k = 5) = false := by simpa using hk5
        have HN2 : Hid (∀ j, j < p + 1 → (gt G j).k ≠ 5) := fun j hj => by
          by_cases e : j = p
          · rw [e, HGi.out]; exact hk5
          · exact HN.out j (by omega)
        clear hk5
        go_wp2
        go_roundw
        case rel => exact ⟨p + 1, by omega, by go_num, HN2, hw3⟩
        case measure => simp [intOf]; omega
    · have hkn : p = n := by omega
      subst hkn
      go_wp2
      go_ret
      exact ⟨.inl ⟨rfl, HN.out⟩, hbel⟩

set_option maxRecDepth 100000 in
theorem kContMul (ag : Option Addr) (n cg : Nat) (G : List Gt) (w : World) (h : RdG w ag n cg G) :
    Calls Tryd.prog 12 #[.slice ag n cg, .func (.func 13) #[] #[]] w fun e w' => ((e = .returned (.bool false) ∧ ∀ i, i < n → (gt G i).k ≠ 5) ∨ e = .returned (.bool true)) ∧ Below w.heap.size w w' := by
  have hcap := h.cap
  have hmax := h.max
  unfold maxLen at hmax
  go_enter Tryd.func12, Tryd.ntmps12
  go_wp2_with fail
  refine (kIndexMul _ _ _ _ _ h).mono ?_
  rintro e w1 ⟨⟨rfl, hN⟩ | ⟨p, hp, rfl⟩, hb1⟩
  · have HN : Hid (∀ i, i < n → (gt G i).k ≠ 5) := hN
    clear hN
    go_wp2
    go_ret
    exact ⟨.inl ⟨rfl, HN.out⟩, hb1⟩
  · go_wp2
    go_ret
    exact ⟨.inr rfl, hb1⟩
end Go.Proofs.YtmpnaobjgknfkafDoor
