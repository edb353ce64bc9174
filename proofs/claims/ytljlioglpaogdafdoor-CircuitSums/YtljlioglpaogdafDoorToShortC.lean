/- Slices of ints that are read; shares that a call gathers. · What each call of package field answers: the rest of the sum, the difference, the product, the power, the inverse; no world is changed. · croftref.Sum. · poly.trim, poly.normal. · croftkeep.short; short lists that a law writes out. -/
import Derived.Test.YtljlioglpaogdafDoorToShamirM
import Derived.Test.YtljlioglpaogdafDoorToPolyM3
import Derived.Test.YtljlioglpaogdafDoorProg
import Derived.WalkKit
import Derived.WalkSpells
import Derived.WalkLawsBesides
namespace Go.Proofs.YtljlioglpaogdafDoor
set_option linter.unusedVariables false
set_option maxRecDepth 100000
set_option maxHeartbeats 8000000
section
open Crm Go.RowKit
/-- A slice of ints that is read. -/
structure RdI (w : World) (a : Option Addr) (n c : Nat) (xs : List Int) : Prop where
  len : xs.length = n
  cap : n ≤ c
  max : c ≤ maxLen
  bd : ∀ x ∈ xs, -9223372036854775808 ≤ x ∧ x ≤ 9223372036854775807
  nil : a = none → c = 0
  cell : ∀ x, a = some x → ∀ i, i < n → w.cell? (x.add i) = some (.int .i64 (xs.getD i 0))
theorem RdI.one {w : World} {a : Option Addr} {n c : Nat} {xs : List Int} (h : RdI w a n c xs) {k : Nat} (hk : k < n) :
    ∃ b o x, a = some ⟨b, o, none⟩ ∧ b < w.heap.size ∧ Hid (xs.getD k 0 = x) ∧ -9223372036854775808 ≤ x ∧ x ≤ 9223372036854775807 ∧ w.cell? ⟨b, o + k, none⟩ = some (.int .i64 x) := by
  cases ha : a with
  | none => have := h.nil ha; have := h.cap; omega
  | some x =>
    have h0 := h.cell x ha k hk
    have hs : x.spot = none := by
      have := spot_none (h.cell x ha 0 (by omega))
      unfold Addr.add at this
      split at this <;> simp_all
    obtain ⟨b, o, s⟩ := x
    simp only at hs
    subst hs
    rw [Addr.add_lit] at h0
    have hb := h.bd (xs.getD k 0) (getD_mem (by rw [h.len]; exact hk))
    exact ⟨b, o, _, rfl, World.block_lt_of_cell? w _ h0, rfl, hb.1, hb.2, h0⟩
theorem RdI.below {w w' : World} {a : Option Addr} {n c : Nat} {xs : List Int} (h : RdI w a n c xs) (hb : Below w.heap.size w w') : RdI w' a n c xs := by
  refine ⟨h.len, h.cap, h.max, h.bd, h.nil, fun x hx i hi => ?_⟩
  have := h.cell x hx i hi
  rw [hb.cell (World.block_lt_of_cell? w _ this)]
  exact this
theorem RdI.drewN {w : World} {a : Option Addr} {n c : Nat} {xs : List Int} (h : RdI w a n c xs) (q : Nat) : RdI (w.drewN q) a n c xs := ⟨h.len, h.cap, h.max, h.bd, h.nil, h.cell⟩
theorem RdI.take {w : World} {a : Option Addr} {n c : Nat} {xs : List Int} (h : RdI w a n c xs) {k : Nat} (hk : k ≤ n) : RdI w a k c (xs.take k) := by
  refine ⟨by have := h.len; simp; omega, by have := h.cap; omega, h.max, fun x hx => h.bd x (List.mem_of_mem_take hx), h.nil, fun x hx i hi => ?_⟩
  rw [h.cell x hx i (by omega)]
  congr 2
  simp [hi]

/-- The cells of shares. -/
def shc (l : List (Int × Int)) : List Value := l.flatMap fun p => [.int .i64 p.1, .int .u64 p.2]
theorem shc_get : ∀ (l : List (Int × Int)) (i : Nat), i < l.length → (shc l)[i * 2]? = some (.int .i64 (l.getD i (0, 0)).1) ∧ (shc l)[i * 2 + 1]? = some (.int .u64 (l.getD i (0, 0)).2)
  | [], i, h => by simp at h
  | p :: l, 0, _ => ⟨rfl, rfl⟩
  | p :: l, i + 1, h => by
    have := shc_get l i (by simpa using h)
    have e1 : (i + 1) * 2 = i * 2 + 1 + 1 := by omega
    rw [e1]
    exact this

theorem RdS.own {w : World} {base n : Nat} {E : TypeId} {v : Value} {l : List (Int × Int)} (h : w.ownsRow base E 2 v n (shc l)) (hl : l.length = n)
    (hb : ∀ i, i < n → (-9223372036854775808 ≤ (l.getD i (0, 0)).1 ∧ (l.getD i (0, 0)).1 ≤ 9223372036854775807) ∧ 0 ≤ (l.getD i (0, 0)).2 ∧ (l.getD i (0, 0)).2 ≤ 18446744073709551615) : ∃ a c, v = .slice a n c ∧ RdS w a n c l := by
  rcases h.2 with ⟨rfl, rfl⟩ | ⟨g, cap, cur, rfl, hb', hg, h1, h2, hs, ht⟩
  · exact ⟨none, 0, rfl, ⟨hl, Nat.le_refl _, Nat.zero_le _, hb, fun _ => rfl, by simp⟩⟩
  · refine ⟨_, _, rfl, ⟨hl, h1, h2, hb, by simp, fun x hx i hi => ?_⟩⟩
    obtain rfl := Option.some.inj hx
    have := shc_get l i (by omega)
    exact ⟨h.cells (g := g) rfl _ _ this.1, h.cells (g := g) rfl _ _ this.2⟩

theorem infoZ : (Tryd.prog.info? 3).map (fun i => (i.zero, i.size, i.bytes)) = some (some (.int .i64 0), 1, 8) := by kernel_rfl
/-- What append has gathered reads as the ints that it gathered. -/
theorem RdI.own {w : World} {base n : Nat} {E : TypeId} {v : Value} {L : List Int} (h : w.ownsRow base E 1 v n (zns L)) (hb : ∀ x ∈ L, -9223372036854775808 ≤ x ∧ x ≤ 9223372036854775807) : ∃ a c, v = .slice a n c ∧ RdI w a n c L := by
  have hl : L.length = n := by have := h.1; rw [zns_len] at this; omega
  rcases h.2 with ⟨rfl, rfl⟩ | ⟨g, cap, cur, rfl, hb', hg, h1, h2, hs, ht⟩
  · exact ⟨none, 0, rfl, ⟨hl, Nat.le_refl _, Nat.zero_le _, hb, fun _ => rfl, by simp⟩⟩
  · refine ⟨_, _, rfl, ⟨hl, h1, h2, hb, by simp, fun x hx i hi => ?_⟩⟩
    obtain rfl := Option.some.inj hx
    rw [Addr.add_lit, Nat.zero_add]
    exact zns_at h hi
theorem fNorm (a : Int) (w : World) (h0 : 0 ≤ a) (h1 : a ≤ 18446744073709551615) :
    Calls Tryd.prog 33 #[.int .u64 a] w fun e w' => e = .returned (.int .u64 (nm a)) ∧ w' = w := by
  go_enter Tryd.func33, Tryd.ntmps33
  go_wp2
  go_ret
  exact ⟨rfl, rfl⟩

theorem fAdd (a b : Int) (w : World) (h0 : 0 ≤ a) (h1 : a ≤ 18446744073709551615) (g0 : 0 ≤ b) (g1 : b ≤ 18446744073709551615) :
    Calls Tryd.prog 16 #[.int .u64 a, .int .u64 b] w fun e w' => e = .returned (.int .u64 (nm (a + b))) ∧ w' = w := by
  have ha := nm_bd a
  have hb := nm_bd b
  have HN : Hid (nm (a + b) = nm (nm a + nm b)) := by rw [nm_addl, nm_addr]; exact rfl
  go_enter Tryd.func16, Tryd.ntmps16
  go_wp2_with (go_at_call 33; refine (fNorm _ _ (by omega) (by omega)).mono ?_; rintro e w' ⟨rfl, rfl⟩)
  go_ret
  rw [HN.out]
  exact ⟨rfl, rfl⟩

theorem fSub (a b : Int) (w : World) (h0 : 0 ≤ a) (h1 : a ≤ 18446744073709551615) (g0 : 0 ≤ b) (g1 : b ≤ 18446744073709551615) :
    Calls Tryd.prog 46 #[.int .u64 a, .int .u64 b] w fun e w' => e = .returned (.int .u64 (nm (a - b))) ∧ w' = w := by
  have ha := nm_bd a
  have hb := nm_bd b
  have HN : Hid (nm (a - b) = nm (nm a + 2147483647 - nm b)) := by unfold nm Hid; omega
  go_enter Tryd.func46, Tryd.ntmps46
  go_wp2_with (go_at_call 33; refine (fNorm _ _ (by omega) (by omega)).mono ?_; rintro e w' ⟨rfl, rfl⟩)
  go_ret
  rw [HN.out]
  exact ⟨rfl, rfl⟩

theorem mul_bd {x y : Int} (hx : 0 ≤ x ∧ x ≤ 2147483646) (hy : 0 ≤ y ∧ y ≤ 2147483646) : 0 ≤ x * y ∧ x * y ≤ 4611686009837453316 :=
  ⟨Int.mul_nonneg hx.1 hy.1, by have := Int.mul_le_mul hx.2 hy.2 hy.1 (by omega : (0 : Int) ≤ 2147483646); omega⟩

theorem fMul (a b : Int) (w : World) (h0 : 0 ≤ a) (h1 : a ≤ 18446744073709551615) (g0 : 0 ≤ b) (g1 : b ≤ 18446744073709551615) :
    Calls Tryd.prog 47 #[.int .u64 a, .int .u64 b] w fun e w' => e = .returned (.int .u64 (nm (a * b))) ∧ w' = w := by
  have ha := nm_bd a
  have hb := nm_bd b
  have hm := mul_bd ha hb
  have HN : Hid (nm (a * b) = nm (nm a * nm b)) := by rw [nm_mull, nm_mulr]; exact rfl
  go_enter Tryd.func47, Tryd.ntmps47
  go_wp2_with (go_at_call 33; refine (fNorm _ _ (by omega) (by omega)).mono ?_; rintro e w' ⟨rfl, rfl⟩)
  go_ret
  rw [HN.out]
  exact ⟨rfl, rfl⟩
theorem own_base {w : World} {B B' n : Nat} {E : TypeId} {v : Value} {xs : List Value} (h : w.ownsRow B E 1 v n xs) (hB : B' ≤ B) : w.ownsRow B' E 1 v n xs := by
  rcases h.2 with h' | ⟨g, cap, cur, e1, e2, e3⟩
  · exact ⟨h.1, Or.inl h'⟩
  · exact ⟨h.1, Or.inr ⟨g, cap, cur, e1, by omega, e3⟩⟩
/-- The first k numbers of L are those of nz xs, the rest 0. -/
theorem info37 : (Tryd.prog.info? 37).map (fun i => (i.zero, i.size, i.bytes)) = some (some (.int .u64 0), 1, 8) := by kernel_rfl
end
section
open Go.RowKit
theorem Rd.take {w : World} {a : Option Addr} {n c : Nat} {xs : List Int} (h : Rd w a n c xs) {k : Nat} (hk : k ≤ n) : Rd w a k c (xs.take k) := by
  refine ⟨by have := h.len; simp; omega, by have := h.cap; omega, h.max, fun x hx => h.bd x (List.mem_of_mem_take hx), h.nil, fun x hx i hi => ?_⟩
  rw [h.cell x hx i (by omega)]
  congr 2
  simp [hi]

theorem Blk.of2 (w : World) (x y : Int) : Blk (w.alloc (.cells #[.int .u64 x, .int .u64 y] 37)) w.heap.size [x, y] := heap_alloc_new w _
theorem rd_of2 (w : World) {x y : Int} (hx : 0 ≤ x ∧ x ≤ 18446744073709551615) (hy : 0 ≤ y ∧ y ≤ 18446744073709551615) : Rd (w.alloc (.cells #[.int .u64 x, .int .u64 y] 37)) (some ⟨w.heap.size, 0, none⟩) 2 2 [x, y] :=
  (Blk.of2 w x y).whole 2 rfl (by unfold maxLen; omega) (by
    intro u hu
    simp only [List.mem_cons, List.not_mem_nil, or_false] at hu
    rcases hu with rfl | rfl <;> assumption)
theorem below_one (w : World) (ob : Obj) : Below w.heap.size w (w.alloc ob) := (Below.refl _ _).alloc (Nat.le_refl _) _
end
end Go.Proofs.YtljlioglpaogdafDoor
