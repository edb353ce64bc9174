/- append as a step of a region that draws. · croftref.Mixed. · Slices of rows of a dealing in two variables (api.Row) that are read. -/
import Derived.Test.YtgmelcdgnjcojacToPolyM
import Derived.Deep.AppendLies
import Derived.Deep.RegionLaw
import Derived.Test.YtgmelcdgnjcojacToGateM
import Derived.Test.YtgmelcdgnjcojacToRefPolyC
import Derived.Test.YtgmelcdgnjcojacToAddC
namespace Go.Proofs.Ytgmelcdgnjcojac
open Go.RowKit

/-- A slice that the call itself gathers, and one number more: a step of a region that draws. -/
theorem step_app1 {P : Program} {T E : TypeId} (hT : P.underlying T = some (.slice E)) (info : (P.info? E).map (fun i => (i.zero, i.size, i.bytes)) = some (some (.int .u64 0), 1, 8))
    (w : World) {w1 : World} {ops : Array Oper} {o : Oper} {a : Act} {K : Act → World → Prop} {Q : Exit → Act → World → Prop} {F : Prop} (hgd : o.guard = none) (s x : Operand)
    (ho : o.op = .call { callee := .builtin .append, args := #[s, x], argTypes := #[T, T] })
    (base : Nat) (v : Value) (n : Nat) (xs : List Int) (hs : a.eval s = v) (hown : w.ownsRow base E 1 v n (xs.map (Value.int .u64))) (y : Int) (hx : a.eval x = .slice (some ⟨w.heap.size, 0, none⟩) 1 1)
    (hw1 : w1 = w.alloc (.cells #[.int .u64 y] E)) (hn : n ≤ 1000000) (hbase : base ≤ w.heap.size)
    (h : ∀ v' w', w'.ownsRow base E 1 v' (n + 1) ((xs ++ [y]).map (Value.int .u64)) → Below base w w' → K (a.put o.dst v') w') :
    if Region.wanted o (yielded ops a.tmps) = true then Oper.wp P o a w1 K Q else F := by
  subst hw1
  obtain ⟨i0, hi, hz0, hz1, hz2⟩ := info_parts info
  refine step_append_lies _ hgd s x T ho base E i0 (.int .u64 0) 1 8 hT hi hz0 hz1 hz2 rfl (by decide) v n _ hs (hown.alloc _) ⟨w.heap.size, 0, none⟩ 1 1 [.int .u64 y] hx rfl ?_ ?_ (by decide) (by unfold maxLen; omega) (by omega) (by simp; omega) _ rfl ?_
  · intro j u hj
    match j, hj with
    | 0, hj => simp at hj; subst hj; simp [Addr.add]
  · intro u hu; simp at hu; subst hu; rfl
  · intro g cap w' hown' hgrow _ _
    refine h _ w' (by rw [List.map_append]; exact hown') ?_
    exact ((Below.refl _ _).alloc hbase _).grown hgrow (by simp; omega) (fun k hk => (hown.lt k hk).1)
end Go.Proofs.Ytgmelcdgnjcojac

namespace Go.Proofs.Ytgmelcdgnjcojac
open Go.RowKit Crm

set_option maxRecDepth 100000 in
set_option maxHeartbeats 2000000 in
theorem rMixed (a : Option Addr) (n c : Nat) (xs : List Int) (b : Option Addr) (d : Nat) (ys : List Int) (p q r : Int) (w : World) (h : Rd w a n c xs) (g : Rd w b n d ys) (hn : n ≤ 1000) (p0 : 0 ≤ p) (p1 : p ≤ 18446744073709551615) (q0 : 0 ≤ q) (q1 : q ≤ 18446744073709551615) (r0 : 0 ≤ r) (r1 : r ≤ 18446744073709551615) :
    Calls Try.prog 51 #[.slice a n c, .slice b n d, .int .u64 p, .int .u64 q, .int .u64 r] w fun e w' => ∃ v, e = .returned v ∧ w'.ownsRow w.heap.size 23 1 v n ((mxl xs ys p q r n).map (Value.int .u64)) ∧ Below w.heap.size w w' := by
  go_enter Try.func51, Try.ntmps51
  go_wp2
  go_loopw [11, 12] (fun v i wr => ∃ k : Nat, k ≤ n ∧ i = .int .i64 k ∧ wr.ownsRow w.heap.size 23 1 v k ((mxl xs ys p q r k).map (Value.int .u64)) ∧ Below w.heap.size w wr) (fun _ i _ => n - (intOf i).toNat)
  case atStart => exact ⟨0, Nat.zero_le _, rfl, World.ownsRow_nil _ _ _ _, Below.refl _ _⟩
  case round =>
    obtain ⟨k, hk, rfl, hown, hbel⟩ := hrel
    have hs1 := hbel.size
    by_cases hlt : k < n
    · obtain ⟨b1, o1, x, rfl, hb1, HX, hx0, hx1, hcx⟩ := (h.below hbel).one hlt
      obtain ⟨b2, o2, y, rfl, hb2, HY, hy0, hy1, hcy⟩ := (g.below hbel).one hlt
      have m1 := nm_bd (p * x)
      have m2 := nm_bd (q * y)
      have m3 := nm_bd (nm (p * x) + nm (q * y))
      have HV : Hid (mxl xs ys p q r k ++ [nm (nm (nm (p * x) + nm (q * y)) + r)] = mxl xs ys p q r (k + 1)) := by
        unfold Hid
        rw [mxl_one, ← HX.out, ← HY.out]
        exact mxl_snoc xs ys p q r k
      have hk0 : (0 : Int) ≤ (k : Int) := by omega
      have hkn : (k : Int) < (n : Int) := by omega
      have hown2 : wr.drew.ownsRow w.heap.size 23 1 u11 k ((mxl xs ys p q r k).map (Value.int .u64)) := hown
      have hbel2 := hbel.drew
      go_wp2
      go_region_law (first | (refine step_app1 Try.underlying24 info23 wr.drew rfl _ _ rfl w.heap.size _ _ _ rfl hown2 (nm (nm (nm (p * x) + nm (q * y)) + r)) rfl rfl (by omega) (by exact hs1) ?_; intro v' w3 hown3 hbel3; rw [HV.out] at hown3; have hbel4 := hbel2.trans hbel3) | (go_simp; go_at_call 9; refine (rMul _ _ _ (by omega) (by omega) (by omega) (by omega)).mono ?_; rintro en w' ⟨rfl, rfl⟩) | (go_simp; go_at_call 6; refine (rAdd _ _ _ (by omega) (by omega) (by omega) (by omega)).mono ?_; rintro en w' ⟨rfl, rfl⟩))
      all_goals
        clear hown hbel hown2 hbel2 hbel3
        go_wp2
        go_roundw
        case rel => exact ⟨k + 1, by omega, by go_num, hown3, hbel4⟩
        case measure => simp [intOf]; omega
    · have hkn : k = n := by omega
      subst hkn
      go_wp2
      go_ret
      exact ⟨_, rfl, hown, hbel⟩
end Go.Proofs.Ytgmelcdgnjcojac

namespace Go.Proofs.Ytgmelcdgnjcojac
open Go.RowKit Crm

/-- At which party a row stands; its numbers. -/
def ta (l : List (Int × List Int)) (i : Nat) : Int := (l.getD i (0, [])).1
def tc (l : List (Int × List Int)) (i : Nat) : List Int := (l.getD i (0, [])).2

/-- The slice reads as the rows l. -/
structure RdW (w : World) (a : Option Addr) (n c : Nat) (l : List (Int × List Int)) : Prop where
  len : l.length = n
  cap : n ≤ c
  max : c ≤ maxLen
  nil : a = none → c = 0
  bd : ∀ i, i < n → -9223372036854775808 ≤ ta l i ∧ ta l i ≤ 9223372036854775807
  row : ∀ x, a = some x → ∀ i, i < n → w.cell? (x.add (i * 2)) = some (.int .i64 (ta l i)) ∧ ∃ ai ci, w.cell? (x.add (i * 2 + 1)) = some (.slice ai (tc l i).length ci) ∧ Rd w ai (tc l i).length ci (tc l i)

theorem RdW.at {w : World} {a : Option Addr} {n c : Nat} {l : List (Int × List Int)} (h : RdW w a n c l) {k : Nat} (hk : k < n) :
    ∃ b o, a = some ⟨b, o, none⟩ ∧ b < w.heap.size ∧ ∀ i, i < n → w.cell? ⟨b, o + i * 2, none⟩ = some (.int .i64 (ta l i)) ∧ ∃ ai ci, w.cell? ⟨b, o + i * 2 + 1, none⟩ = some (.slice ai (tc l i).length ci) ∧ Rd w ai (tc l i).length ci (tc l i) := by
  cases ha : a with
  | none => have := h.nil ha; have := h.cap; omega
  | some x =>
    have h0 := (h.row x ha 0 (by omega)).1
    have hs : x.spot = none := by
      have := spot_none h0
      unfold Addr.add at this
      split at this <;> simp_all
    obtain ⟨b, o, s⟩ := x
    simp only at hs
    subst hs
    refine ⟨b, o, rfl, ?_, fun i hi => by have := h.row _ ha i hi; rwa [Addr.add_lit, Addr.add_lit, ← Nat.add_assoc] at this⟩
    have := World.block_lt_of_cell? w _ h0
    rwa [Addr.add_lit] at this
/-- One row of it, by names of its own. -/
theorem RdW.one {w : World} {a : Option Addr} {n c : Nat} {l : List (Int × List Int)} (h : RdW w a n c l) {k : Nat} (hk : k < n) :
    ∃ b o x ai ni ci row, a = some ⟨b, o, none⟩ ∧ b < w.heap.size ∧ Hid (ta l k = x) ∧ Hid (tc l k = row) ∧ -9223372036854775808 ≤ x ∧ x ≤ 9223372036854775807 ∧ w.cell? ⟨b, o + k * 2, none⟩ = some (.int .i64 x) ∧ w.cell? ⟨b, o + k * 2 + 1, none⟩ = some (.slice ai ni ci) ∧ Rd w ai ni ci row := by
  obtain ⟨b, o, ha, hb, hr⟩ := h.at hk
  obtain ⟨h0, ai, ci, h1, h2⟩ := hr k hk
  have := h.bd k hk
  exact ⟨b, o, _, ai, _, ci, _, ha, hb, rfl, rfl, this.1, this.2, h0, h1, h2⟩
theorem RdW.below {w w' : World} {a : Option Addr} {n c : Nat} {l : List (Int × List Int)} (h : RdW w a n c l) (hb : Below w.heap.size w w') : RdW w' a n c l := by
  refine ⟨h.len, h.cap, h.max, h.nil, h.bd, fun x hx i hi => ?_⟩
  obtain ⟨h0, ai, ci, h1, h2⟩ := h.row x hx i hi
  exact ⟨by rw [hb.cell (World.block_lt_of_cell? w _ h0)]; exact h0, ai, ci, by rw [hb.cell (World.block_lt_of_cell? w _ h1)]; exact h1, h2.below hb⟩
theorem RdW.nilW (w : World) : RdW w none 0 0 [] := ⟨rfl, Nat.le_refl _, Nat.zero_le _, fun _ => rfl, fun i hi => by omega, by simp⟩

/-- Rows that may be. -/
def Rwk (l : List (Int × List Int)) (n : Nat) : Prop := ∀ i, i < n → ((1 ≤ ta l i ∧ ta l i ≤ 9) ∧ ∀ j, j < i → ta l j ≠ ta l i) ∧ 1 ≤ (tc l i).length ∧ (tc l i).length ≤ 5
theorem rwk_zero (l : List (Int × List Int)) : Rwk l 0 := fun i hi => by omega
theorem Rwk.dis {l : List (Int × List Int)} {n : Nat} (h : Rwk l n) : dis (ta l) n := fun i hi => (h i hi).1
theorem rwk_succ {l : List (Int × List Int)} {k : Nat} {x : Int} {m : Nat} (h : Rwk l k) (hx : ta l k = x) (hm : (tc l k).length = m) (h1 : 1 ≤ x) (h9 : x ≤ 9) (m1 : 1 ≤ m) (m5 : m ≤ 5) (h3 : ∀ j, j < k → ta l j ≠ x) : Rwk l (k + 1) := by
  intro i hi
  by_cases e : i = k
  · subst e; rw [hx, hm]; exact ⟨⟨⟨h1, h9⟩, h3⟩, m1, m5⟩
  · exact h i (by omega)
end Go.Proofs.Ytgmelcdgnjcojac
