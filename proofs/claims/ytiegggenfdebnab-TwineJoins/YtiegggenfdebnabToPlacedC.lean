/- Slices of rows of a dealing in two variables (api.Row) that are read. · poly.placed. -/
import Derived.Test.YtiegggenfdebnabToMath
import Derived.Test.YtiegggenfdebnabToShamirM
import Derived.Test.YtiegggenfdebnabProg
import Derived.Test.YtiegggenfdebnabToShares
namespace Go.Proofs.Ytiegggenfdebnab
open Go.RowKit Crm

/-- At which party a row stands; its numbers. -/
def ta (l : List (Int × List Int)) (i : Nat) : Int := (l.getD i (0, [])).1
def tc (l : List (Int × List Int)) (i : Nat) : List Int := (l.getD i (0, [])).2

/-- The slice reads as the rows l. -/
structure RdW (w : World) (a : Option Addr) (n c : Nat) (l : List (Int × List Int)) : Prop where
  len : l.length = n
  cap : n ≤ c
  max : c ≤ maxLen
  nil : a = none → c = 0
  bd : ∀ i, i < n → -9223372036854775808 ≤ ta l i ∧ ta l i ≤ 9223372036854775807
  row : ∀ x, a = some x → ∀ i, i < n → w.cell? (x.add (i * 2)) = some (.int .i64 (ta l i)) ∧ ∃ ai ci, w.cell? (x.add (i * 2 + 1)) = some (.slice ai (tc l i).length ci) ∧ Rd w ai (tc l i).length ci (tc l i)

theorem RdW.at {w : World} {a : Option Addr} {n c : Nat} {l : List (Int × List Int)} (h : RdW w a n c l) {k : Nat} (hk : k < n) :
    ∃ b o, a = some ⟨b, o, none⟩ ∧ b < w.heap.size ∧ ∀ i, i < n → w.cell? ⟨b, o + i * 2, none⟩ = some (.int .i64 (ta l i)) ∧ ∃ ai ci, w.cell? ⟨b, o + i * 2 + 1, none⟩ = some (.slice ai (tc l i).length ci) ∧ Rd w ai (tc l i).length ci (tc l i) := by
  cases ha : a with
  | none => have := h.nil ha; have := h.cap; omega
  | some x =>
    have h0 := (h.row x ha 0 (by omega)).1
    have hs : x.spot = none := by
      have := spot_none h0
      unfold Addr.add at this
      split at this <;> simp_all
    obtain ⟨b, o, s⟩ := x
    simp only at hs
    subst hs
    refine ⟨b, o, rfl, ?_, fun i hi => by have := h.row _ ha i hi; rwa [Addr.add_lit, Addr.add_lit, ← Nat.add_assoc] at this⟩
    have := World.block_lt_of_cell? w _ h0
    rwa [Addr.add_lit] at this
/-- One row of it, by names of its own. -/
theorem RdW.one {w : World} {a : Option Addr} {n c : Nat} {l : List (Int × List Int)} (h : RdW w a n c l) {k : Nat} (hk : k < n) :
    ∃ b o x ai ni ci row, a = some ⟨b, o, none⟩ ∧ b < w.heap.size ∧ Hid (ta l k = x) ∧ Hid (tc l k = row) ∧ -9223372036854775808 ≤ x ∧ x ≤ 9223372036854775807 ∧ w.cell? ⟨b, o + k * 2, none⟩ = some (.int .i64 x) ∧ w.cell? ⟨b, o + k * 2 + 1, none⟩ = some (.slice ai ni ci) ∧ Rd w ai ni ci row := by
  obtain ⟨b, o, ha, hb, hr⟩ := h.at hk
  obtain ⟨h0, ai, ci, h1, h2⟩ := hr k hk
  have := h.bd k hk
  exact ⟨b, o, _, ai, _, ci, _, ha, hb, rfl, rfl, this.1, this.2, h0, h1, h2⟩
theorem RdW.below {w w' : World} {a : Option Addr} {n c : Nat} {l : List (Int × List Int)} (h : RdW w a n c l) (hb : Below w.heap.size w w') : RdW w' a n c l := by
  refine ⟨h.len, h.cap, h.max, h.nil, h.bd, fun x hx i hi => ?_⟩
  obtain ⟨h0, ai, ci, h1, h2⟩ := h.row x hx i hi
  exact ⟨by rw [hb.cell (World.block_lt_of_cell? w _ h0)]; exact h0, ai, ci, by rw [hb.cell (World.block_lt_of_cell? w _ h1)]; exact h1, h2.below hb⟩
theorem RdW.nilW (w : World) : RdW w none 0 0 [] := ⟨rfl, Nat.le_refl _, Nat.zero_le _, fun _ => rfl, fun i hi => by omega, by simp⟩

/-- Rows that may be. -/
def Rwk (l : List (Int × List Int)) (n : Nat) : Prop := ∀ i, i < n → ((1 ≤ ta l i ∧ ta l i ≤ 9) ∧ ∀ j, j < i → ta l j ≠ ta l i) ∧ 1 ≤ (tc l i).length ∧ (tc l i).length ≤ 5
theorem rwk_zero (l : List (Int × List Int)) : Rwk l 0 := fun i hi => by omega
theorem Rwk.dis {l : List (Int × List Int)} {n : Nat} (h : Rwk l n) : dis (ta l) n := fun i hi => (h i hi).1
theorem rwk_succ {l : List (Int × List Int)} {k : Nat} {x : Int} {m : Nat} (h : Rwk l k) (hx : ta l k = x) (hm : (tc l k).length = m) (h1 : 1 ≤ x) (h9 : x ≤ 9) (m1 : 1 ≤ m) (m5 : m ≤ 5) (h3 : ∀ j, j < k → ta l j ≠ x) : Rwk l (k + 1) := by
  intro i hi
  by_cases e : i = k
  · subst e; rw [hx, hm]; exact ⟨⟨⟨h1, h9⟩, h3⟩, m1, m5⟩
  · exact h i (by omega)
end Go.Proofs.Ytiegggenfdebnab

namespace Go.Proofs.Ytiegggenfdebnab
open Go.RowKit Crm

/-- A call that tells whether p holds, and turns nothing that was there. -/
def Tells (p : Prop) (w : World) (e : Ending) (w' : World) : Prop := ∃ r : Bool, e = .returned (.bool r) ∧ (r = true ↔ p) ∧ Below w.heap.size w w'
theorem Tells.yes {p : Prop} {w w' : World} (h : p) (hb : Below w.heap.size w w') : Tells p w (.returned (.bool true)) w' := ⟨true, rfl, by simp [h], hb⟩
theorem Tells.no {p : Prop} {w w' : World} (h : ¬ p) (hb : Below w.heap.size w w') : Tells p w (.returned (.bool false)) w' := ⟨false, rfl, by simp [h], hb⟩

/-- The variable that a round makes for a share. -/
theorem cell_alloc0 (w : World) (x y : Value) (t : TypeId) : (w.alloc (.cells #[x, y] t)).cell? ⟨w.heap.size, 0, none⟩ = some x := by
  rw [cell_of_row _ _ _ #[x, y] t (0, 0) (heap_alloc_new w _)]; rfl
theorem cell_alloc1 (w : World) (x y : Value) (t : TypeId) : (w.alloc (.cells #[x, y] t)).cell? ⟨w.heap.size, 1, none⟩ = some y := by
  rw [cell_of_row _ _ _ #[x, y] t (0, 0) (heap_alloc_new w _)]; rfl

set_option maxHeartbeats 1000000 in
set_option maxRecDepth 100000 in
theorem cPlaced (a : Option Addr) (n c : Nat) (l : List (Int × Int)) (w : World) (h : RdS w a n c l) (hn : n ≤ 1000) :
    Calls Try.prog 74 #[.slice a n c] w fun e w' => Tells (okk l n) w e w' := by
  have hlen := h.len
  have hcap := h.cap
  have hmax := h.max
  unfold maxLen at hmax
  go_enter Try.func74, Try.ntmps74
  go_wp2
  go_loopw [9] (fun i wr => ∃ k : Nat, k ≤ n ∧ i = .int .i64 k ∧ Hid (okk l k) ∧ Below w.heap.size w wr) (fun i _ => n - (intOf i).toNat)
  case atStart => exact ⟨0, Nat.zero_le _, rfl, okk_zero l, Below.refl _ _⟩
  case round =>
    obtain ⟨k, hk, rfl, HK, hbel⟩ := hrel
    obtain ⟨wo, hwo⟩ : ∃ wo, wo = wr := ⟨_, rfl⟩
    subst hwo
    have hs1 := hbel.size
    by_cases hlt : k < n
    · have hR := h.below hbel
      obtain ⟨b, o, x, y, rfl, hbb, HX, HY, hx0, hx1, hy0, hy1, hcx, hcy⟩ := hR.one hlt
      by_cases hx2 : x < 1
      · have HN : Hid (¬ okk l n) := fun hk => by have := (hk k hlt).1.1; rw [HX.out] at this; omega
        go_wp2
        go_ret
        exact .no HN.out (hbel.alloc hs1 _)
      · by_cases hx3 : 2147483647 ≤ x
        · have HN : Hid (¬ okk l n) := fun hk => by have := (hk k hlt).1.2; rw [HX.out] at this; omega
          go_wp2
          go_ret
          exact .no HN.out (hbel.alloc hs1 _)
        · go_wp2
          go_loopw [27] (fun i wr => ∃ m : Nat, m ≤ k ∧ i = .int .i64 m ∧ Hid (∀ j, j < m → (l.getD j (0, 0)).1 ≠ x) ∧ Below (wo.heap.size + 1) (wo.alloc (.cells #[.int .i64 x, .int .u64 y] 60)) wr) (fun i _ => k - (intOf i).toNat)
          case atStart => exact ⟨0, Nat.zero_le _, rfl, fun j hj => by omega, Below.refl _ _⟩
          case round =>
            obtain ⟨m, hm, rfl, HM, hbm⟩ := hrel
            have hbw : Below w.heap.size w wr := (hbel.alloc hs1 _).trans (hbm.mono (by omega))
            have hs2 := hbw.size
            have hs3 : wo.heap.size + 1 ≤ wr.heap.size := by have := hbm.size; simp at this; omega
            have hcs : wr.cell? ⟨wo.heap.size, 0, none⟩ = some (.int .i64 x) := by rw [hbm.cell (by simp)]; exact cell_alloc0 _ _ _ _
            have hcs2 : ∀ ob : Obj, (wr.alloc ob).cell? ⟨wo.heap.size, 0, none⟩ = some (.int .i64 x) := fun ob => by
              rw [World.cell?_of_block (w := wr) (Below.heap_alloc _ _ _ (by simp only; omega))]; exact hcs
            by_cases hmk : m < k
            · have hR2 := h.below hbw
              obtain ⟨b', o', x', y', e', hbb', HX', HY', hx0', hx1', hy0', hy1', hcx', hcy'⟩ := hR2.one (show m < n by omega)
              simp only [Option.some.injEq, Addr.mk.injEq, and_true] at e'
              obtain ⟨rfl, rfl⟩ := e'
              by_cases hxx : x' = x
              · have HN : Hid (¬ okk l n) := fun hk => (hk k hlt).2 m hmk (by rw [HX'.out, HX.out]; exact hxx)
                have hxb : (x' == x) = true := by rw [beq_iff_eq]; exact hxx
                clear hxx
                go_wp2
                go_ret
                exact .no HN.out (hbw.alloc hs2 _)
              · have hxb : (x' == x) = false := by rw [beq_eq_false_iff_ne]; exact hxx
                have HM2 : Hid (∀ j, j < m + 1 → (l.getD j (0, 0)).1 ≠ x) := fun j hj => by
                  by_cases e : j = m
                  · rw [e, HX'.out]; exact hxx
                  · exact HM.out j (by omega)
                clear hxx
                go_wp2
                go_roundw
                case rel => exact ⟨m + 1, by omega, by go_num, HM2, hbm.alloc (by omega) _⟩
                case measure => simp [intOf]; omega
            · have hmk' : m = k := by omega
              subst hmk'
              have HK2 : Hid (okk l (m + 1)) := okk_succ HK.out HX.out (by omega) (by omega) HM.out
              go_wp2
              go_roundw
              case rel => exact ⟨m + 1, by omega, by go_num, HK2, hbw⟩
              case measure => simp [intOf]; omega
    · have hkn : k = n := by omega
      subst hkn
      go_wp2
      go_ret
      exact .yes HK.out hbel
end Go.Proofs.Ytiegggenfdebnab
