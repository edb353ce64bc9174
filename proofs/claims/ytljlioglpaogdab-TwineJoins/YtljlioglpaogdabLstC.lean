/- Lists of rows that a law gathers. -/
import Derived.Test.YtljlioglpaogdabToBadM
import Derived.Test.YtljlioglpaogdabRestC
import Derived.Test.YtljlioglpaogdabToCheckC
import Derived.Test.YtljlioglpaogdabProg
import Derived.Laws.CopyOwn
namespace Go.Proofs.Ytljlioglpaogdab
set_option linter.unusedVariables false
set_option maxRecDepth 100000
set_option maxHeartbeats 8000000
section
open Go.RowKit
structure Lst (w : World) (B m W : Nat) (v : Value) (bs : List Value) (BB : List (List Int)) : Prop where
  own : w.ownsRow B 23 1 v m bs
  lb : BB.length = m
  row : ∀ q, q < m → ∃ g c, bs[q]? = some (.slice (some ⟨g, 0, none⟩) W c) ∧ g < w.heap.size ∧ v.ownBlock ≠ some g ∧ (BB.getD q []).length = W ∧ Rd w (some ⟨g, 0, none⟩) W c (BB.getD q [])

theorem lst_nil (w : World) (B W : Nat) : Lst w B 0 W (.slice none 0 0) [] [] := ⟨World.ownsRow_nil _ _ _ _, rfl, fun q hq => by omega⟩
theorem Lst.below {w : World} {B m W : Nat} {v : Value} {bs : List Value} {BB : List (List Int)} (h : Lst w B m W v bs BB) {w' : World} (hb : Below w.heap.size w w') : Lst w' B m W v bs BB :=
  ⟨own_below h.own hb, h.lb, fun q hq => by
    obtain ⟨g, c, h1, h2, h3, h4, h5⟩ := h.row q hq
    exact ⟨g, c, h1, Nat.lt_of_lt_of_le h2 hb.size, h3, h4, h5.below hb⟩⟩
theorem Lst.len {w : World} {B m W : Nat} {v : Value} {bs : List Value} {BB : List (List Int)} (h : Lst w B m W v bs BB) : bs.length = m := by simpa using h.own.1
theorem Lst.wid {w : World} {B m W : Nat} {v : Value} {bs : List Value} {BB : List (List Int)} (h : Lst w B m W v bs BB) {q : Nat} (hq : q < m) : (BB.getD q []).length = W := by
  obtain ⟨g, c, _, _, _, h4, _⟩ := h.row q hq
  exact h4
/-- It reads as its rows. -/
theorem Lst.rdR {w : World} {B m W : Nat} {v : Value} {bs : List Value} {BB : List (List Int)} (h : Lst w B m W v bs BB) (hm : m ≤ 1000) : ∃ a c, v = .slice a m c ∧ RdR w a m c BB := by
  rcases h.own.2 with ⟨rfl, rfl⟩ | ⟨g, cap, cur, rfl, hb, hg, h1, h2, hs, ht⟩
  · exact ⟨none, 0, rfl, h.lb, Nat.le_refl _, Nat.zero_le _, fun _ => rfl, by simp⟩
  · refine ⟨_, _, rfl, h.lb, h1, h2, by simp, fun x hx i hi => ?_⟩
    obtain rfl := Option.some.inj hx
    obtain ⟨g', c', e1, e2, e3, e4, e5⟩ := h.row i hi
    refine ⟨some ⟨g', 0, none⟩, c', ?_, by rw [e4]; exact e5⟩
    rw [e4]
    exact h.own.cells (g := g) rfl i _ e1
/-- One more row. -/
theorem Lst.add {w : World} {B m W : Nat} {v : Value} {bs : List Value} {BB : List (List Int)} (h : Lst w B m W v bs BB) {w1 : World} {v' : Value} {g0 c0 : Nat} {row : List Int} (hr : Rd w (some ⟨g0, 0, none⟩) W c0 row) (hg0 : g0 < w.heap.size) (hne : v.ownBlock ≠ some g0)
    (s1 : w1.ownsRow B 23 1 v' (m + 1) (bs ++ [.slice (some ⟨g0, 0, none⟩) W c0])) (g1 : w.grownBy w1 v.ownBlock) (b1 : v'.ownBlock = v.ownBlock ∨ ∃ k, v'.ownBlock = some k ∧ w.heap.size ≤ k) :
    Lst w1 B (m + 1) W v' (bs ++ [.slice (some ⟨g0, 0, none⟩) W c0]) (BB ++ [row]) := by
  have hz := g1.size
  have hlb := h.lb
  have hlen := h.len
  have keep : ∀ g, g < w.heap.size → v.ownBlock ≠ some g → v'.ownBlock ≠ some g := fun g hg hn e => by
    rcases b1 with e1 | ⟨k, e1, hk⟩
    · exact hn (e1 ▸ e)
    · rw [e1] at e; obtain rfl := Option.some.inj e; omega
  refine ⟨s1, by simp [hlb], fun q hq => ?_⟩
  by_cases e : q < m
  · obtain ⟨g, c, h1, h2, h3, h4, h5⟩ := h.row q e
    have e2 : (BB ++ [row]).getD q [] = BB.getD q [] := by simp [List.getElem?_append_left (show q < BB.length by omega)]
    refine ⟨g, c, by rw [List.getElem?_append_left (by omega)]; exact h1, by omega, keep g h2 h3, by rw [e2]; exact h4, ?_⟩
    rw [e2]
    exact h5.grown g1 fun x hx => by obtain rfl := Option.some.inj hx; exact fun e3 => h3 e3.symm
  · have hq2 : q = m := by omega
    have e2 : (BB ++ [row]).getD q [] = row := by rw [hq2, ← hlb]; simp
    refine ⟨g0, c0, by rw [hq2, ← hlen]; simp, by omega, keep g0 hg0 hne, by rw [e2]; exact hr.len, ?_⟩
    rw [e2]
    exact hr.grown g1 fun x hx => by obtain rfl := Option.some.inj hx; exact fun e3 => hne e3.symm
end
end Go.Proofs.Ytljlioglpaogdab
