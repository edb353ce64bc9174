/- slices.Clone of numbers and of rows; croftref.Rest; a gathered list that is written in place. · croftkeep.short; short lists that a law writes out. -/
import Derived.Test.YtnofegdlainjaaeToOwnC
import Derived.Test.YtnofegdlainjaaeToRestC
import Derived.Test.YtnofegdlainjaaeToPadC
import Derived.Test.YtnofegdlainjaaeProg
import Derived.Test.YtnofegdlainjaaeToMath
namespace Go.Proofs.Ytnofegdlainjaae
open Go.RowKit

set_option maxHeartbeats 400000 in
set_option maxRecDepth 100000 in
theorem cClone (a : Option Addr) (n c : Nat) (xs : List Int) (w : World) (h : Rd w a n c xs) (hn : 0 < n) (hn2 : n ≤ 1000) :
    Calls Try.prog 87 #[.slice a n c] w fun e w' => ∃ v, e = .returned v ∧ w'.ownsRow w.heap.size 22 1 v n (xs.map (Value.int .u64)) ∧ Below w.heap.size w w' := by
  obtain ⟨i0, hi, hz0, hz1, hz2⟩ := info_parts infoU
  obtain ⟨b, o, rfl, hb, hc⟩ := h.at hn
  have hlen := h.len
  have hnil := fun W : World => eql_nil (P := Try.prog) W _ _ ⟨b, o, none⟩ n c Try.underlying23
  go_enter Try.func87, Try.ntmps87
  go_wp2_with (at_builtin; refine wpList_append_own _ rfl _ _ 23 rfl w.heap.size 22 i0 (.int .u64 0) 1 8 Try.underlying23 hi hz0 hz1 hz2 rfl (by decide) (.slice (some ⟨w.heap.size, 0, none⟩) 0 0) 0 [] (by rfl) (World.ownsRow_made w #[] 0 (Nat.le_refl _) (Nat.zero_le _) rfl) ⟨b, o, none⟩ n c (xs.map (Value.int .u64)) (by rfl) (by simp [hlen]) ?c1 ?c2 (by unfold maxLen; omega) (by omega) (by simp) ?_)
  case c1 =>
    intro j u hj
    have hjn : j < n := by have := (List.getElem?_eq_some_iff.1 hj).1; simp at this; omega
    have hu : u = .int .u64 (xs.getD j 0) := by
      simp [List.getElem?_eq_getElem (show j < xs.length by omega)] at hj
      rw [← hj]; simp [List.getElem?_eq_getElem (show j < xs.length by omega)]
    rw [hu, Addr.add_lit, World.cell?_of_block (w := w) (Below.heap_alloc _ _ _ hb)]
    exact hc j hjn
  case c2 => intro u hu; obtain ⟨x, _, rfl⟩ := List.mem_map.1 hu; rfl
  · intro v' w1 hown hgrow _
    have hbel : Below w.heap.size w w1 := ((Below.refl w.heap.size w).alloc (Nat.le_refl _) _).grown hgrow (by simp) (fun k hk => by simp [Value.ownBlock] at hk; omega)
    go_wp2
    go_ret
    exact ⟨_, rfl, hown, hbel⟩

end Go.Proofs.Ytnofegdlainjaae

namespace Go.Proofs.Ytnofegdlainjaae
open Go.RowKit

theorem Rd.take {w : World} {a : Option Addr} {n c : Nat} {xs : List Int} (h : Rd w a n c xs) {k : Nat} (hk : k ≤ n) : Rd w a k c (xs.take k) := by
  refine ⟨by have := h.len; simp; omega, by have := h.cap; omega, h.max, fun x hx => h.bd x (List.mem_of_mem_take hx), h.nil, fun x hx i hi => ?_⟩
  rw [h.cell x hx i (by omega)]
  congr 2
  simp [hi]

theorem Blk.of2 (w : World) (x y : Int) : Blk (w.alloc (.cells #[.int .u64 x, .int .u64 y] 22)) w.heap.size [x, y] := heap_alloc_new w _
theorem Blk.of3 (w : World) (x y z : Int) : Blk (w.alloc (.cells #[.int .u64 x, .int .u64 y, .int .u64 z] 22)) w.heap.size [x, y, z] := heap_alloc_new w _
theorem rd_of2 (w : World) {x y : Int} (hx : 0 ≤ x ∧ x ≤ 18446744073709551615) (hy : 0 ≤ y ∧ y ≤ 18446744073709551615) : Rd (w.alloc (.cells #[.int .u64 x, .int .u64 y] 22)) (some ⟨w.heap.size, 0, none⟩) 2 2 [x, y] :=
  (Blk.of2 w x y).whole 2 rfl (by unfold maxLen; omega) (by
    intro u hu
    simp only [List.mem_cons, List.not_mem_nil, or_false] at hu
    rcases hu with rfl | rfl <;> assumption)
theorem rd_of3 (w : World) {x y z : Int} (hx : 0 ≤ x ∧ x ≤ 18446744073709551615) (hy : 0 ≤ y ∧ y ≤ 18446744073709551615) (hz : 0 ≤ z ∧ z ≤ 18446744073709551615) : Rd (w.alloc (.cells #[.int .u64 x, .int .u64 y, .int .u64 z] 22)) (some ⟨w.heap.size, 0, none⟩) 3 3 [x, y, z] :=
  (Blk.of3 w x y z).whole 3 rfl (by unfold maxLen; omega) (by
    intro u hu
    simp only [List.mem_cons, List.not_mem_nil, or_false] at hu
    rcases hu with rfl | rfl | rfl <;> assumption)
theorem below_one (w : World) (ob : Obj) : Below w.heap.size w (w.alloc ob) := (Below.refl _ _).alloc (Nat.le_refl _) _
end Go.Proofs.Ytnofegdlainjaae
