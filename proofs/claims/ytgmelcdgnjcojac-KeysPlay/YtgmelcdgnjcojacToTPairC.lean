/- croftref.Join. · croftref.Pairs: plain facts. · croftref.Pairs; slices.Equal of pairs of ints. -/
import Derived.Test.YtgmelcdgnjcojacToThroughC
import Derived.Test.YtgmelcdgnjcojacToTwoC
import Derived.Test.YtgmelcdgnjcojacToTakeC
import Derived.Test.YtgmelcdgnjcojacToLstC
import Derived.Deep.AppendLies
import Derived.Deep.RegionLaw
import Derived.Test.YtgmelcdgnjcojacToTwM
import Derived.Test.YtgmelcdgnjcojacToRefPolyC
import Derived.Test.YtgmelcdgnjcojacToSortC
import Derived.Test.YtgmelcdgnjcojacToValC
namespace Go.Proofs.Ytgmelcdgnjcojac
open Go.RowKit Crm

/-- A slice of shares that the call itself gathers, and one share more: a step of a region that draws. -/
theorem step_appS {P : Program} {T E : TypeId} (hT : P.underlying T = some (.slice E)) (info : (P.info? E).map (fun i => (i.zero, i.size, i.bytes)) = some (some (.agg #[.int .i64 0, .int .u64 0]), 2, 16))
    (w : World) {w1 : World} {ops : Array Oper} {o : Oper} {a : Act} {K : Act → World → Prop} {Q : Exit → Act → World → Prop} {F : Prop} (hgd : o.guard = none) (s x : Operand)
    (ho : o.op = .call { callee := .builtin .append, args := #[s, x], argTypes := #[T, T] })
    (base : Nat) (v : Value) (n : Nat) (l : List (Int × Int)) (hs : a.eval s = v) (hown : w.ownsRow base E 2 v n (shc l)) (p q : Int) (hx : a.eval x = .slice (some ⟨w.heap.size, 0, none⟩) 1 1)
    (hw1 : w1 = w.alloc (.cells #[.int .i64 p, .int .u64 q] E)) (hn : n ≤ 1000000) (hbase : base ≤ w.heap.size)
    (h : ∀ v' w', w'.ownsRow base E 2 v' (n + 1) (shc (l ++ [(p, q)])) → Below base w w' → K (a.put o.dst v') w') :
    if Region.wanted o (yielded ops a.tmps) = true then Oper.wp P o a w1 K Q else F := by
  subst hw1
  obtain ⟨i0, hi, hz0, hz1, hz2⟩ := info_parts info
  refine step_append_lies _ hgd s x T ho base E i0 (.agg #[.int .i64 0, .int .u64 0]) 2 16 hT hi hz0 hz1 hz2 rfl (by decide) v n _ hs (hown.alloc _) ⟨w.heap.size, 0, none⟩ 1 1 [.int .i64 p, .int .u64 q] hx rfl ?_ ?_ (by decide) (by unfold maxLen; omega) (by omega) (by simp; omega) _ rfl ?_
  · intro j u hj
    match j, hj with
    | 0, hj => simp at hj; subst hj; rw [Addr.add_lit]; exact cell_alloc0 _ _ _ _
    | 1, hj => simp at hj; subst hj; rw [Addr.add_lit]; exact cell_alloc1 _ _ _ _
  · intro u hu; simp at hu; rcases hu with rfl | rfl <;> rfl
  · intro g cap w' hown' hgrow _ _
    refine h _ w' (by rw [shc_snoc]; exact hown') ?_
    exact ((Below.refl _ _).alloc hbase _).grown hgrow (by simp; omega) (fun k hk => (hown.lt k hk).1)

theorem RdW.nbd {w : World} {a : Option Addr} {n c : Nat} {l : List (Int × List Int)} (h : RdW w a n c l) {i : Nat} (hi : i < n) : ∀ x ∈ tc l i, 0 ≤ x ∧ x ≤ 18446744073709551615 := by
  obtain ⟨b, o, x, ai, ni, ci, row, _, _, _, HRow, _, _, _, _, hrow⟩ := h.one hi
  rw [HRow.out]; exact hrow.bd

/-- What Join answers. -/
def Jns (l : List (Int × List Int)) (n : Nat) (t : Int) (w : World) (e : Ending) (w' : World) : Prop := ∃ x r, e = .returned (.tuple #[.int .u64 x, .int .i64 r]) ∧ Jnd l n t x r ∧ Below w.heap.size w w'

end Go.Proofs.Ytgmelcdgnjcojac

namespace Go.Proofs.Ytgmelcdgnjcojac
open Crm

theorem dif_yes {l : List (Int × List Int)} {n r s : Nat} {i j : Int} (hr : r < n) (hs : s < n) (ei : ta l r = i) (ej : ta l s = j) (h : nm (ev (tc l r) j) ≠ nm (ev (tc l s) i)) : Dif l n i j := ⟨r, s, hr, hs, ei, ej, h⟩
theorem dis_idx {l : List (Int × List Int)} {n r s : Nat} (hd : dis (ta l) n) (hr : r < n) (hs : s < n) (h : ta l r = ta l s) : r = s := by
  rcases Nat.lt_trichotomy r s with e | e | e
  · exact absurd h ((hd s hs).2 r e)
  · exact e
  · exact absurd h.symm ((hd r hr).2 s e)
theorem dif_no {l : List (Int × List Int)} {n r s : Nat} {i j : Int} (hd : dis (ta l) n) (hr : r < n) (hs : s < n) (ei : ta l r = i) (ej : ta l s = j) (h : nm (ev (tc l r) j) = nm (ev (tc l s) i)) : ¬ Dif l n i j := by
  rintro ⟨r', s', hr', hs', ei', ej', h'⟩
  obtain rfl := dis_idx hd hr' hr (ei'.trans ei.symm)
  obtain rfl := dis_idx hd hs' hs (ej'.trans ej.symm)
  exact h' h
theorem dif_none1 {l : List (Int × List Int)} {n : Nat} {i j : Int} (h : ∀ r, r < n → ta l r ≠ i) : ¬ Dif l n i j := by
  rintro ⟨r, s, hr, hs, ei, ej, h'⟩; exact h r hr ei
theorem dif_none2 {l : List (Int × List Int)} {n : Nat} {i j : Int} (h : ∀ r, r < n → ta l r ≠ j) : ¬ Dif l n i j := by
  rintro ⟨r, s, hr, hs, ei, ej, h'⟩; exact h s hs ej
theorem dif_bd {l : List (Int × List Int)} {n : Nat} {i j : Int} (hd : dis (ta l) n) (h : Dif l n i j) : (1 ≤ i ∧ i ≤ 9) ∧ 1 ≤ j ∧ j ≤ 9 := by
  obtain ⟨r, s, hr, hs, ei, ej, _⟩ := h
  have h1 := (hd r hr).1
  have h2 := (hd s hs).1
  omega

/-- Pairs ahead of (i, j). -/
structure Prj (l : List (Int × List Int)) (n : Nat) (i j : Int) (L : List (Int × Int)) : Prop where
  up : L.Pairwise lexp
  mem : ∀ a b, (a, b) ∈ L ↔ (a < b ∧ Dif l n a b ∧ (a < i ∨ (a = i ∧ b < j)))
theorem prj_start {l : List (Int × List Int)} {n : Nat} (hd : dis (ta l) n) : Prj l n 1 2 [] := ⟨List.Pairwise.nil, fun a b => ⟨fun h => by simp at h, fun ⟨h1, h2, h3⟩ => by have := dif_bd hd h2; omega⟩⟩
theorem prj_skip {l : List (Int × List Int)} {n : Nat} {i j : Int} {L : List (Int × Int)} (h : Prj l n i j L) (hn : ¬ Dif l n i j) : Prj l n i (j + 1) L := by
  refine ⟨h.up, fun a b => ?_⟩
  rw [h.mem]
  constructor
  · rintro ⟨h1, h2, h3⟩; exact ⟨h1, h2, by omega⟩
  · rintro ⟨h1, h2, h3⟩
    refine ⟨h1, h2, ?_⟩
    by_cases e : a = i ∧ b = j
    · obtain ⟨rfl, rfl⟩ := e; exact absurd h2 hn
    · omega
theorem prj_add {l : List (Int × List Int)} {n : Nat} {i j : Int} {L : List (Int × Int)} (h : Prj l n i j L) (hij : i < j) (hd : Dif l n i j) : Prj l n i (j + 1) (L ++ [(i, j)]) := by
  refine ⟨?_, fun a b => ?_⟩
  · rw [List.pairwise_append]
    refine ⟨h.up, by simp, fun x hx y hy => ?_⟩
    rw [List.mem_singleton] at hy
    subst hy
    obtain ⟨a, b⟩ := x
    have := ((h.mem a b).1 hx).2.2
    unfold lexp
    simp only
    omega
  · rw [List.mem_append, h.mem, List.mem_singleton, Prod.mk.injEq]
    constructor
    · rintro (⟨h1, h2, h3⟩ | ⟨rfl, rfl⟩)
      · exact ⟨h1, h2, by omega⟩
      · exact ⟨hij, hd, by omega⟩
    · rintro ⟨h1, h2, h3⟩
      by_cases e : a = i ∧ b = j
      · exact .inr e
      · exact .inl ⟨h1, h2, by omega⟩
theorem prj_next {l : List (Int × List Int)} {n : Nat} {i : Int} {L : List (Int × Int)} (hd : dis (ta l) n) (h : Prj l n i 10 L) : Prj l n (i + 1) (i + 2) L := by
  refine ⟨h.up, fun a b => ?_⟩
  rw [h.mem]
  constructor
  · rintro ⟨h1, h2, h3⟩; exact ⟨h1, h2, by omega⟩
  · rintro ⟨h1, h2, h3⟩
    have := dif_bd hd h2
    exact ⟨h1, h2, by omega⟩
theorem prj_next9 {l : List (Int × List Int)} {n : Nat} {i j : Int} {L : List (Int × Int)} (hd : dis (ta l) n) (h : Prj l n i j L) (hj : 10 ≤ j) : Prj l n (i + 1) (i + 2) L := by
  refine ⟨h.up, fun a b => ?_⟩
  rw [h.mem]
  constructor
  · rintro ⟨h1, h2, h3⟩; exact ⟨h1, h2, by omega⟩
  · rintro ⟨h1, h2, h3⟩
    have := dif_bd hd h2
    exact ⟨h1, h2, by omega⟩
theorem prj_end {l : List (Int × List Int)} {n : Nat} {j : Int} {L : List (Int × Int)} (hd : dis (ta l) n) (h : Prj l n 10 j L) : Prs l n L := by
  refine ⟨h.up, fun a b => ?_⟩
  rw [h.mem]
  constructor
  · rintro ⟨h1, h2, h3⟩; exact ⟨h1, h2⟩
  · rintro ⟨h1, h2⟩
    have := dif_bd hd h2
    exact ⟨h1, h2, by omega⟩
end Go.Proofs.Ytgmelcdgnjcojac

namespace Go.Proofs.Ytgmelcdgnjcojac
open Go.RowKit Crm

/-- The cells of pairs. -/
def ppc (l : List (Int × Int)) : List Value := l.flatMap fun p => [.int .i64 p.1, .int .i64 p.2]
theorem ppc_snoc (l : List (Int × Int)) (p q : Int) : ppc l ++ [.int .i64 p, .int .i64 q] = ppc (l ++ [(p, q)]) := by simp [ppc]
theorem ppc_get : ∀ (l : List (Int × Int)) (i : Nat), i < l.length → (ppc l)[i * 2]? = some (.int .i64 (l.getD i (0, 0)).1) ∧ (ppc l)[i * 2 + 1]? = some (.int .i64 (l.getD i (0, 0)).2)
  | [], i, h => by simp at h
  | p :: l, 0, _ => ⟨rfl, rfl⟩
  | p :: l, i + 1, h => by
    have := ppc_get l i (by simpa using h)
    have e1 : (i + 1) * 2 = i * 2 + 1 + 1 := by omega
    rw [e1]
    exact this
theorem infoPair : (Try.prog.info? 69).map (fun i => (i.zero, i.size, i.bytes)) = some (some (.agg #[.int .i64 0, .int .i64 0]), 2, 16) := by kernel_rfl
theorem wrap_small {i : Nat} (h : i ≤ 100) : IntKind.u64.wrap (i : Int) = (i : Int) := by
  unfold IntKind.wrap
  simp [IntKind.signed, IntKind.bits]
  omega

end Go.Proofs.Ytgmelcdgnjcojac
