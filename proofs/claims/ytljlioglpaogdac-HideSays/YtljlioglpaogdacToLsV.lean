/- Lists of rows that a law gathers. · Lists of rows of numbers, each row the call's own, no two of them one. -/
import Derived.Test.YtljlioglpaogdacToRows2
import Derived.Test.YtljlioglpaogdacToRestC
import Derived.Test.YtljlioglpaogdacToContC
import Derived.Test.YtljlioglpaogdacProg
import Derived.Laws.CopyOwn
import Derived.Deep.AppendLies
import Derived.Deep.RegionLaw
namespace Go.Proofs.Ytljlioglpaogdac
set_option linter.unusedVariables false
set_option maxRecDepth 100000
set_option maxHeartbeats 8000000
section
open Go.RowKit
structure Lst (w : World) (B m W : Nat) (v : Value) (bs : List Value) (BB : List (List Int)) : Prop where
  own : w.ownsRow B 24 1 v m bs
  lb : BB.length = m
  row : ∀ q, q < m → ∃ g c, bs[q]? = some (.slice (some ⟨g, 0, none⟩) W c) ∧ g < w.heap.size ∧ v.ownBlock ≠ some g ∧ (BB.getD q []).length = W ∧ Rd w (some ⟨g, 0, none⟩) W c (BB.getD q [])

theorem Lst.below {w : World} {B m W : Nat} {v : Value} {bs : List Value} {BB : List (List Int)} (h : Lst w B m W v bs BB) {w' : World} (hb : Below w.heap.size w w') : Lst w' B m W v bs BB :=
  ⟨own_below h.own hb, h.lb, fun q hq => by
    obtain ⟨g, c, h1, h2, h3, h4, h5⟩ := h.row q hq
    exact ⟨g, c, h1, Nat.lt_of_lt_of_le h2 hb.size, h3, h4, h5.below hb⟩⟩
theorem Lst.len {w : World} {B m W : Nat} {v : Value} {bs : List Value} {BB : List (List Int)} (h : Lst w B m W v bs BB) : bs.length = m := by simpa using h.own.1
theorem Lst.wid {w : World} {B m W : Nat} {v : Value} {bs : List Value} {BB : List (List Int)} (h : Lst w B m W v bs BB) {q : Nat} (hq : q < m) : (BB.getD q []).length = W := by
  obtain ⟨g, c, _, _, _, h4, _⟩ := h.row q hq
  exact h4
/-- One more row. -/
theorem Lst.add {w : World} {B m W : Nat} {v : Value} {bs : List Value} {BB : List (List Int)} (h : Lst w B m W v bs BB) {w1 : World} {v' : Value} {g0 c0 : Nat} {row : List Int} (hr : Rd w (some ⟨g0, 0, none⟩) W c0 row) (hg0 : g0 < w.heap.size) (hne : v.ownBlock ≠ some g0)
    (s1 : w1.ownsRow B 24 1 v' (m + 1) (bs ++ [.slice (some ⟨g0, 0, none⟩) W c0])) (g1 : w.grownBy w1 v.ownBlock) (b1 : v'.ownBlock = v.ownBlock ∨ ∃ k, v'.ownBlock = some k ∧ w.heap.size ≤ k) :
    Lst w1 B (m + 1) W v' (bs ++ [.slice (some ⟨g0, 0, none⟩) W c0]) (BB ++ [row]) := by
  have hz := g1.size
  have hlb := h.lb
  have hlen := h.len
  have keep : ∀ g, g < w.heap.size → v.ownBlock ≠ some g → v'.ownBlock ≠ some g := fun g hg hn e => by
    rcases b1 with e1 | ⟨k, e1, hk⟩
    · exact hn (e1 ▸ e)
    · rw [e1] at e; obtain rfl := Option.some.inj e; omega
  refine ⟨s1, by simp [hlb], fun q hq => ?_⟩
  by_cases e : q < m
  · obtain ⟨g, c, h1, h2, h3, h4, h5⟩ := h.row q e
    have e2 : (BB ++ [row]).getD q [] = BB.getD q [] := by simp [List.getElem?_append_left (show q < BB.length by omega)]
    refine ⟨g, c, by rw [List.getElem?_append_left (by omega)]; exact h1, by omega, keep g h2 h3, by rw [e2]; exact h4, ?_⟩
    rw [e2]
    exact h5.grown g1 fun x hx => by obtain rfl := Option.some.inj hx; exact fun e3 => h3 e3.symm
  · have hq2 : q = m := by omega
    have e2 : (BB ++ [row]).getD q [] = row := by rw [hq2, ← hlb]; simp
    refine ⟨g0, c0, by rw [hq2, ← hlen]; simp, by omega, keep g0 hg0 hne, by rw [e2]; exact hr.len, ?_⟩
    rw [e2]
    exact hr.grown g1 fun x hx => by obtain rfl := Option.some.inj hx; exact fun e3 => hne e3.symm
end
section
open Crm Go.RowKit
/-- A list of rows that the call gathers, each row the call's own. -/
structure LsV (w : World) (B : Nat) (v : Value) (L : List Value) (rows : List (List Int)) : Prop where
  own : w.ownsRow B 24 1 v rows.length L
  len : L.length = rows.length
  row : ∀ i, i < rows.length → w.ownsRow B 23 1 (L.getD i (.slice none 0 0)) (rows.getD i []).length ((rows.getD i []).map (Value.int .u64))
  inj : ∀ i j, i < j → j < rows.length → (L.getD i (.slice none 0 0)).ownBlock = none ∨ (L.getD i (.slice none 0 0)).ownBlock ≠ (L.getD j (.slice none 0 0)).ownBlock
theorem LsV.below {w w' : World} {B : Nat} {v : Value} {L : List Value} {rows : List (List Int)} (h : LsV w B v L rows) (hb : Below w.heap.size w w') : LsV w' B v L rows :=
  ⟨own_below h.own hb, h.len, fun i hi => own_below (h.row i hi) hb, h.inj⟩
theorem LsV.drew {w : World} {B : Nat} {v : Value} {L : List Value} {rows : List (List Int)} (h : LsV w B v L rows) : LsV w.drew B v L rows := ⟨h.own, h.len, h.row, h.inj⟩
theorem LsV.drewN {w : World} {B : Nat} {v : Value} {L : List Value} {rows : List (List Int)} (h : LsV w B v L rows) (q : Nat) : LsV (w.drewN q) B v L rows := ⟨h.own, h.len, h.row, h.inj⟩
/-- When a list of other elements, or one that lies elsewhere, grows. -/
theorem LsV.grown {w w' : World} {B : Nat} {v : Value} {L : List Value} {rows : List (List Int)} {r : Option Nat} (h : LsV w B v L rows) (hg : w.grownBy w' r) (h1 : v.ownBlock = none ∨ v.ownBlock ≠ r) (h2 : ∀ i, i < rows.length → (L.getD i (.slice none 0 0)).ownBlock = none ∨ (L.getD i (.slice none 0 0)).ownBlock ≠ r) : LsV w' B v L rows :=
  ⟨h.own.kept hg h1, h.len, fun i hi => (h.row i hi).kept hg (h2 i hi), h.inj⟩
theorem own_baseV {w : World} {B B' n z : Nat} {E : TypeId} {v : Value} {xs : List Value} (h : w.ownsRow B E z v n xs) (hB : B' ≤ B) : w.ownsRow B' E z v n xs := by
  refine ⟨h.1, ?_⟩
  rcases h.2 with h1 | ⟨g, cap, cur, e, hb, h2⟩
  · exact .inl h1
  · exact .inr ⟨g, cap, cur, e, Nat.le_trans hB hb, h2⟩
/-- Its cells. -/
theorem LsV.cell {w : World} {B n c g q : Nat} {L : List Value} {rows : List (List Int)} (h : LsV w B (.slice (some ⟨g, 0, none⟩) n c) L rows) (hl : rows.length = n) (hq : q < n) : w.cell? ⟨g, q, none⟩ = some (L.getD q (.slice none 0 0)) ∧ w.frozen? ⟨g, q, none⟩ = false ∧ g < w.heap.size := by
  have ho := h.own
  rw [hl] at ho
  have hL := h.len
  obtain ⟨g', u, e1, e2, e3, e4, e5⟩ := own_at ho hq
  simp only [Option.some.injEq, Addr.mk.injEq, and_true] at e1
  subst e1
  refine ⟨?_, own_frozen ho q, e3⟩
  rw [e5, ← e4]
  simp [List.getElem?_eq_getElem (show q < L.length by omega)]
/-- One row of it. -/
theorem LsV.one {w : World} {B n q : Nat} {v : Value} {L : List Value} {rows : List (List Int)} (h : LsV w B v L rows) (hl : rows.length = n) (hq : q < n) (hb : ∀ x ∈ rows.getD q [], 0 ≤ x ∧ x ≤ 18446744073709551615) : ∃ a c, L.getD q (.slice none 0 0) = .slice a (rows.getD q []).length c ∧ Rd w a (rows.getD q []).length c (rows.getD q []) := by
  obtain ⟨a, c, e, hr, _⟩ := Rd.own (h.row q (by omega)) hb
  exact ⟨a, c, e, hr⟩
end
end Go.Proofs.Ytljlioglpaogdac
