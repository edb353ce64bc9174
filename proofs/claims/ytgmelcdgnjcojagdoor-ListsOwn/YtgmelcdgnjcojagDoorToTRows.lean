/- croftref.Sum. · append as a step of a region that draws. · Slices of rows of a dealing in two variables (api.Row) that are read. -/
import Derived.Test.YtgmelcdgnjcojagDoorToRefPolyC
import Derived.Test.YtgmelcdgnjcojagDoorToGatesR
import Derived.Test.YtgmelcdgnjcojagDoorToPolyM
import Derived.Deep.AppendLies
import Derived.Deep.RegionLaw
import Derived.Test.YtgmelcdgnjcojagDoorToTrimC
namespace Go.Proofs.YtgmelcdgnjcojagDoor
open Go.RowKit Crm

def smk (ps qs : List Int) (k : Nat) : List Int := (List.range k).map fun i => nm (ps.getD i 0 + qs.getD i 0)
theorem smk_step (ps qs : List Int) (k : Nat) {v : Int} (e : v = nm (ps.getD k 0 + qs.getD k 0)) : smk ps qs k ++ [v] = smk ps qs (k + 1) := by
  unfold smk
  rw [List.range_succ, List.map_append, e]
  rfl
theorem smk_bd (ps qs : List Int) (k : Nat) : ∀ x ∈ smk ps qs k, 0 ≤ x ∧ x ≤ 18446744073709551615 := by
  intro x hx
  obtain ⟨k, _, rfl⟩ := List.mem_map.1 hx
  have := nm_bd (ps.getD k 0 + qs.getD k 0)
  omega

theorem own_base {w : World} {B B' n : Nat} {E : TypeId} {v : Value} {xs : List Value} (h : w.ownsRow B E 1 v n xs) (hB : B' ≤ B) : w.ownsRow B' E 1 v n xs := by
  rcases h.2 with h' | ⟨g, cap, cur, e1, e2, e3⟩
  · exact ⟨h.1, Or.inl h'⟩
  · exact ⟨h.1, Or.inr ⟨g, cap, cur, e1, by omega, e3⟩⟩

end Go.Proofs.YtgmelcdgnjcojagDoor

namespace Go.Proofs.YtgmelcdgnjcojagDoor
open Go.RowKit

/-- A slice that the call itself gathers, and one number more: a step of a region that draws. -/
theorem step_app1 {P : Program} {T E : TypeId} (hT : P.underlying T = some (.slice E)) (info : (P.info? E).map (fun i => (i.zero, i.size, i.bytes)) = some (some (.int .u64 0), 1, 8))
    (w : World) {w1 : World} {ops : Array Oper} {o : Oper} {a : Act} {K : Act → World → Prop} {Q : Exit → Act → World → Prop} {F : Prop} (hgd : o.guard = none) (s x : Operand)
    (ho : o.op = .call { callee := .builtin .append, args := #[s, x], argTypes := #[T, T] })
    (base : Nat) (v : Value) (n : Nat) (xs : List Int) (hs : a.eval s = v) (hown : w.ownsRow base E 1 v n (xs.map (Value.int .u64))) (y : Int) (hx : a.eval x = .slice (some ⟨w.heap.size, 0, none⟩) 1 1)
    (hw1 : w1 = w.alloc (.cells #[.int .u64 y] E)) (hn : n ≤ 1000000) (hbase : base ≤ w.heap.size)
    (h : ∀ v' w', w'.ownsRow base E 1 v' (n + 1) ((xs ++ [y]).map (Value.int .u64)) → Below base w w' → K (a.put o.dst v') w') :
    if Region.wanted o (yielded ops a.tmps) = true then Oper.wp P o a w1 K Q else F := by
  subst hw1
  obtain ⟨i0, hi, hz0, hz1, hz2⟩ := info_parts info
  refine step_append_lies _ hgd s x T ho base E i0 (.int .u64 0) 1 8 hT hi hz0 hz1 hz2 rfl (by decide) v n _ hs (hown.alloc _) ⟨w.heap.size, 0, none⟩ 1 1 [.int .u64 y] hx rfl ?_ ?_ (by decide) (by unfold maxLen; omega) (by omega) (by simp; omega) _ rfl ?_
  · intro j u hj
    match j, hj with
    | 0, hj => simp at hj; subst hj; simp [Addr.add]
  · intro u hu; simp at hu; subst hu; rfl
  · intro g cap w' hown' hgrow _ _
    refine h _ w' (by rw [List.map_append]; exact hown') ?_
    exact ((Below.refl _ _).alloc hbase _).grown hgrow (by simp; omega) (fun k hk => (hown.lt k hk).1)
end Go.Proofs.YtgmelcdgnjcojagDoor

namespace Go.Proofs.YtgmelcdgnjcojagDoor
open Go.RowKit Crm

/-- At which party a row stands; its numbers. -/
def ta (l : List (Int × List Int)) (i : Nat) : Int := (l.getD i (0, [])).1
def tc (l : List (Int × List Int)) (i : Nat) : List Int := (l.getD i (0, [])).2

/-- The slice reads as the rows l. -/
structure RdW (w : World) (a : Option Addr) (n c : Nat) (l : List (Int × List Int)) : Prop where
  len : l.length = n
  cap : n ≤ c
  max : c ≤ maxLen
  nil : a = none → c = 0
  bd : ∀ i, i < n → -9223372036854775808 ≤ ta l i ∧ ta l i ≤ 9223372036854775807
  row : ∀ x, a = some x → ∀ i, i < n → w.cell? (x.add (i * 2)) = some (.int .i64 (ta l i)) ∧ ∃ ai ci, w.cell? (x.add (i * 2 + 1)) = some (.slice ai (tc l i).length ci) ∧ Rd w ai (tc l i).length ci (tc l i)

theorem RdW.at {w : World} {a : Option Addr} {n c : Nat} {l : List (Int × List Int)} (h : RdW w a n c l) {k : Nat} (hk : k < n) :
    ∃ b o, a = some ⟨b, o, none⟩ ∧ b < w.heap.size ∧ ∀ i, i < n → w.cell? ⟨b, o + i * 2, none⟩ = some (.int .i64 (ta l i)) ∧ ∃ ai ci, w.cell? ⟨b, o + i * 2 + 1, none⟩ = some (.slice ai (tc l i).length ci) ∧ Rd w ai (tc l i).length ci (tc l i) := by
  cases ha : a with
  | none => have := h.nil ha; have := h.cap; omega
  | some x =>
    have h0 := (h.row x ha 0 (by omega)).1
    have hs : x.spot = none := by
      have := spot_none h0
      unfold Addr.add at this
      split at this <;> simp_all
    obtain ⟨b, o, s⟩ := x
    simp only at hs
    subst hs
    refine ⟨b, o, rfl, ?_, fun i hi => by have := h.row _ ha i hi; rwa [Addr.add_lit, Addr.add_lit, ← Nat.add_assoc] at this⟩
    have := World.block_lt_of_cell? w _ h0
    rwa [Addr.add_lit] at this
/-- One row of it, by names of its own. -/
theorem RdW.one {w : World} {a : Option Addr} {n c : Nat} {l : List (Int × List Int)} (h : RdW w a n c l) {k : Nat} (hk : k < n) :
    ∃ b o x ai ni ci row, a = some ⟨b, o, none⟩ ∧ b < w.heap.size ∧ Hid (ta l k = x) ∧ Hid (tc l k = row) ∧ -9223372036854775808 ≤ x ∧ x ≤ 9223372036854775807 ∧ w.cell? ⟨b, o + k * 2, none⟩ = some (.int .i64 x) ∧ w.cell? ⟨b, o + k * 2 + 1, none⟩ = some (.slice ai ni ci) ∧ Rd w ai ni ci row := by
  obtain ⟨b, o, ha, hb, hr⟩ := h.at hk
  obtain ⟨h0, ai, ci, h1, h2⟩ := hr k hk
  have := h.bd k hk
  exact ⟨b, o, _, ai, _, ci, _, ha, hb, rfl, rfl, this.1, this.2, h0, h1, h2⟩
theorem RdW.below {w w' : World} {a : Option Addr} {n c : Nat} {l : List (Int × List Int)} (h : RdW w a n c l) (hb : Below w.heap.size w w') : RdW w' a n c l := by
  refine ⟨h.len, h.cap, h.max, h.nil, h.bd, fun x hx i hi => ?_⟩
  obtain ⟨h0, ai, ci, h1, h2⟩ := h.row x hx i hi
  exact ⟨by rw [hb.cell (World.block_lt_of_cell? w _ h0)]; exact h0, ai, ci, by rw [hb.cell (World.block_lt_of_cell? w _ h1)]; exact h1, h2.below hb⟩
theorem RdW.nilW (w : World) : RdW w none 0 0 [] := ⟨rfl, Nat.le_refl _, Nat.zero_le _, fun _ => rfl, fun i hi => by omega, by simp⟩

/-- Rows that may be. -/
def Rwk (l : List (Int × List Int)) (n : Nat) : Prop := ∀ i, i < n → ((1 ≤ ta l i ∧ ta l i ≤ 9) ∧ ∀ j, j < i → ta l j ≠ ta l i) ∧ 1 ≤ (tc l i).length ∧ (tc l i).length ≤ 5
theorem rwk_zero (l : List (Int × List Int)) : Rwk l 0 := fun i hi => by omega
theorem Rwk.dis {l : List (Int × List Int)} {n : Nat} (h : Rwk l n) : dis (ta l) n := fun i hi => (h i hi).1
theorem rwk_succ {l : List (Int × List Int)} {k : Nat} {x : Int} {m : Nat} (h : Rwk l k) (hx : ta l k = x) (hm : (tc l k).length = m) (h1 : 1 ≤ x) (h9 : x ≤ 9) (m1 : 1 ≤ m) (m5 : m ≤ 5) (h3 : ∀ j, j < k → ta l j ≠ x) : Rwk l (k + 1) := by
  intro i hi
  by_cases e : i = k
  · subst e; rw [hx, hm]; exact ⟨⟨⟨h1, h9⟩, h3⟩, m1, m5⟩
  · exact h i (by omega)
end Go.Proofs.YtgmelcdgnjcojagDoor
