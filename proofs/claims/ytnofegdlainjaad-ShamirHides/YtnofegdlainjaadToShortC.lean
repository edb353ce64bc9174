/- slices.Clone of numbers and of rows; croftref.Rest; a gathered list that is written in place. · croftkeep.short; short lists that a law writes out. -/
import Derived.Test.YtnofegdlainjaadToOwnC
import Derived.Test.YtnofegdlainjaadToRestC
import Derived.Test.YtnofegdlainjaadToPadC
import Derived.Test.YtnofegdlainjaadProg
import Derived.Test.YtnofegdlainjaadToMath
namespace Go.Proofs.Ytnofegdlainjaad
open Go.RowKit

set_option maxHeartbeats 400000 in
set_option maxRecDepth 100000 in
theorem cClone (a : Option Addr) (n c : Nat) (xs : List Int) (w : World) (h : Rd w a n c xs) (hn : 0 < n) (hn2 : n ≤ 1000) :
    Calls Try.prog 24 #[.slice a n c] w fun e w' => ∃ v, e = .returned v ∧ w'.ownsRow w.heap.size 23 1 v n (xs.map (Value.int .u64)) ∧ Below w.heap.size w w' := by
  obtain ⟨i0, hi, hz0, hz1, hz2⟩ := info_parts infoU
  obtain ⟨b, o, rfl, hb, hc⟩ := h.at hn
  have hlen := h.len
  have hnil := fun W : World => eql_nil (P := Try.prog) W _ _ ⟨b, o, none⟩ n c Try.underlying22
  go_enter Try.func24, Try.ntmps24
  go_wp2_with (at_builtin; refine wpList_append_own _ rfl _ _ 22 rfl w.heap.size 23 i0 (.int .u64 0) 1 8 Try.underlying22 hi hz0 hz1 hz2 rfl (by decide) (.slice (some ⟨w.heap.size, 0, none⟩) 0 0) 0 [] (by rfl) (World.ownsRow_made w #[] 0 (Nat.le_refl _) (Nat.zero_le _) rfl) ⟨b, o, none⟩ n c (xs.map (Value.int .u64)) (by rfl) (by simp [hlen]) ?c1 ?c2 (by unfold maxLen; omega) (by omega) (by simp) ?_)
  case c1 =>
    intro j u hj
    have hjn : j < n := by have := (List.getElem?_eq_some_iff.1 hj).1; simp at this; omega
    have hu : u = .int .u64 (xs.getD j 0) := by
      simp [List.getElem?_eq_getElem (show j < xs.length by omega)] at hj
      rw [← hj]; simp [List.getElem?_eq_getElem (show j < xs.length by omega)]
    rw [hu, Addr.add_lit, World.cell?_of_block (w := w) (Below.heap_alloc _ _ _ hb)]
    exact hc j hjn
  case c2 => intro u hu; obtain ⟨x, _, rfl⟩ := List.mem_map.1 hu; rfl
  · intro v' w1 hown hgrow _
    have hbel : Below w.heap.size w w1 := ((Below.refl w.heap.size w).alloc (Nat.le_refl _) _).grown hgrow (by simp) (fun k hk => by simp [Value.ownBlock] at hk; omega)
    go_wp2
    go_ret
    exact ⟨_, rfl, hown, hbel⟩

set_option maxHeartbeats 400000 in
set_option maxRecDepth 100000 in
theorem cCloneL (a : Option Addr) (n c B : Nat) (bs : List Value) (w : World) (h : w.ownsRow B 22 1 (.slice a n c) n bs) (h1 : ∀ u ∈ bs, u.oneCell' = true) (hn : 0 < n) (hn2 : n ≤ 1000) :
    Calls Try.prog 26 #[.slice a n c] w fun e w' => ∃ v, e = .returned v ∧ w'.ownsRow w.heap.size 22 1 v n bs ∧ Below w.heap.size w w' := by
  obtain ⟨i0, hi, hz0, hz1, hz2⟩ := info_parts infoV
  obtain ⟨g, u0, rfl, hb, hb2, _, _⟩ := own_at h hn
  have hlen : bs.length = n := by simpa using h.1
  have hcells : ∀ j u, bs[j]? = some u → w.cell? ((⟨g, 0, none⟩ : Addr).add j) = some u := fun j u hj => h.cells (g := g) rfl j u hj
  have hnil := fun W : World => eql_nil (P := Try.prog) W _ _ ⟨g, 0, none⟩ n c Try.underlying43
  go_enter Try.func26, Try.ntmps26
  go_wp2_with (at_builtin; refine wpList_append_own _ rfl _ _ 43 rfl w.heap.size 22 i0 (.slice none 0 0) 1 24 Try.underlying43 hi hz0 hz1 hz2 rfl (by decide) (.slice (some ⟨w.heap.size, 0, none⟩) 0 0) 0 [] (by rfl) (World.ownsRow_made w #[] 0 (Nat.le_refl _) (Nat.zero_le _) rfl) ⟨g, 0, none⟩ n c bs (by rfl) (by simp [hlen]) ?c1 h1 (by unfold maxLen; omega) (by omega) (by simp) ?_)
  case c1 =>
    intro j u hj
    have := hcells j u hj
    rw [Addr.add_lit] at this ⊢
    rw [World.cell?_of_block (w := w) (Below.heap_alloc _ _ _ hb2)]
    exact this
  · intro v' w1 hown hgrow _
    have hbel : Below w.heap.size w w1 := ((Below.refl w.heap.size w).alloc (Nat.le_refl _) _).grown hgrow (by simp) (fun k hk => by simp [Value.ownBlock] at hk; omega)
    go_wp2
    go_ret
    exact ⟨_, rfl, hown, hbel⟩
end Go.Proofs.Ytnofegdlainjaad

namespace Go.Proofs.Ytnofegdlainjaad
open Go.RowKit

theorem Rd.take {w : World} {a : Option Addr} {n c : Nat} {xs : List Int} (h : Rd w a n c xs) {k : Nat} (hk : k ≤ n) : Rd w a k c (xs.take k) := by
  refine ⟨by have := h.len; simp; omega, by have := h.cap; omega, h.max, fun x hx => h.bd x (List.mem_of_mem_take hx), h.nil, fun x hx i hi => ?_⟩
  rw [h.cell x hx i (by omega)]
  congr 2
  simp [hi]

set_option maxRecDepth 100000 in
theorem kShort (a : Option Addr) (n c k : Nat) (w : World) (hcap : n ≤ c) (hk : k ≤ 1000) :
    Calls Try.prog 11 #[.slice a n c, .int .i64 k] w fun e w' => e = .returned (.slice a (min k n) c) ∧ w' = w := by
  by_cases h : k ≤ n
  · have e : min k n = k := by omega
    rw [e]
    clear e
    go_enter Try.func11, Try.ntmps11
    go_wp2
    all_goals
      go_ret
      exact ⟨rfl, rfl⟩
  · have e : min k n = n := by omega
    rw [e]
    clear e
    go_enter Try.func11, Try.ntmps11
    go_wp2
    all_goals
      go_ret
      exact ⟨rfl, rfl⟩

theorem Blk.of2 (w : World) (x y : Int) : Blk (w.alloc (.cells #[.int .u64 x, .int .u64 y] 23)) w.heap.size [x, y] := heap_alloc_new w _
theorem Blk.of3 (w : World) (x y z : Int) : Blk (w.alloc (.cells #[.int .u64 x, .int .u64 y, .int .u64 z] 23)) w.heap.size [x, y, z] := heap_alloc_new w _
theorem rd_of2 (w : World) {x y : Int} (hx : 0 ≤ x ∧ x ≤ 18446744073709551615) (hy : 0 ≤ y ∧ y ≤ 18446744073709551615) : Rd (w.alloc (.cells #[.int .u64 x, .int .u64 y] 23)) (some ⟨w.heap.size, 0, none⟩) 2 2 [x, y] :=
  (Blk.of2 w x y).whole 2 rfl (by unfold maxLen; omega) (by
    intro u hu
    simp only [List.mem_cons, List.not_mem_nil, or_false] at hu
    rcases hu with rfl | rfl <;> assumption)
theorem rd_of3 (w : World) {x y z : Int} (hx : 0 ≤ x ∧ x ≤ 18446744073709551615) (hy : 0 ≤ y ∧ y ≤ 18446744073709551615) (hz : 0 ≤ z ∧ z ≤ 18446744073709551615) : Rd (w.alloc (.cells #[.int .u64 x, .int .u64 y, .int .u64 z] 23)) (some ⟨w.heap.size, 0, none⟩) 3 3 [x, y, z] :=
  (Blk.of3 w x y z).whole 3 rfl (by unfold maxLen; omega) (by
    intro u hu
    simp only [List.mem_cons, List.not_mem_nil, or_false] at hu
    rcases hu with rfl | rfl | rfl <;> assumption)
theorem below_one (w : World) (ob : Obj) : Below w.heap.size w (w.alloc ob) := (Below.refl _ _).alloc (Nat.le_refl _) _
end Go.Proofs.Ytnofegdlainjaad
