/- croftref.Rows, rowOf, TwoNeed, number. · croftref.number: the numbers of a dealing in two variables. · Lists of rows (api.Row) that a call gathers. -/
import Derived.Test.YtgmelcdgnjcojagDoorToTRows
import Derived.Test.YtgmelcdgnjcojagDoorToPlacedC
import Derived.Test.YtgmelcdgnjcojagDoorToRefPolyC
import Derived.Test.YtgmelcdgnjcojagDoorToWireC
namespace Go.Proofs.YtgmelcdgnjcojagDoor
open Go.RowKit Crm

theorem two_cells {w : World} {g : Nat} {u v x y : Value} (h0 : w.cell? ⟨g, 0, none⟩ = some u) (h1 : w.cell? ⟨g, 1, none⟩ = some v) :
    ((w.setCell ⟨g, 0, none⟩ x).setCell ⟨g, 1, none⟩ y).cell? ⟨g, 0, none⟩ = some x ∧ ((w.setCell ⟨g, 0, none⟩ x).setCell ⟨g, 1, none⟩ y).cell? ⟨g, 1, none⟩ = some y := by
  refine ⟨?_, ?_⟩
  · rw [World.cell?_setCell_other _ _ _ _ (by simp)]
    exact World.cell?_setCell_same w _ x h0
  · exact World.cell?_setCell_same _ _ y (show (w.setCell ⟨g, 0, none⟩ x).cell? ⟨g, 1, none⟩ = some v by rw [World.cell?_setCell_other _ _ _ _ (by simp)]; exact h1)

/-- What rowOf gives. -/
def RowOf (l : List (Int × List Int)) (n : Nat) (x : Int) (w : World) (e : Ending) (w' : World) : Prop :=
  ((∃ r ai ni ci, r < n ∧ ta l r = x ∧ e = .returned (.tuple #[.agg #[.int .i64 x, .slice ai ni ci], .bool true]) ∧ Rd w' ai ni ci (tc l r)) ∨
   ((∀ r, r < n → ta l r ≠ x) ∧ e = .returned (.tuple #[.agg #[.int .i64 0, .slice none 0 0], .bool false]))) ∧ Below w.heap.size w w'

/-- How many numbers there are besides: by the loop. -/
def nd2 (t : Int) : Nat → Int
  | 0 => -1
  | k + 1 => nd2 t k + (t - k + 1)
theorem nd2_bd : ∀ t, t < 5 → ∀ k, k < 6 → k ≤ t + 1 → -1 ≤ nd2 (t : Nat) k ∧ nd2 (t : Nat) k ≤ 100 := by decide

end Go.Proofs.YtgmelcdgnjcojagDoor

namespace Go.Proofs.YtgmelcdgnjcojagDoor
open Go.RowKit Crm

/-- The secret, and what is drawn behind it. -/
def dn (s : Int) (ds : List Int) (z : Int) : Int := if z < 0 then s else ds.getD z.toNat 0
/-- Number A(i, j). -/
def A2 (s : Int) (ds : List Int) (t i j : Nat) : Int := nm (if i ≤ j then dn s ds (nd2 t i + ((j : Int) - i)) else dn s ds (nd2 t j + ((i : Int) - j)))
theorem A2_sym (s : Int) (ds : List Int) (t i j : Nat) : A2 s ds t i j = A2 s ds t j i := by
  unfold A2
  by_cases h : i ≤ j
  · by_cases h2 : j ≤ i
    · obtain rfl : i = j := by omega
      rfl
    · rw [if_pos h, if_neg h2]
  · rw [if_neg h, if_pos (by omega)]
theorem A2_bd (s : Int) (ds : List Int) (t i j : Nat) : 0 ≤ A2 s ds t i j ∧ A2 s ds t i j ≤ 2147483646 := nm_bd _
theorem A2_zero (s : Int) (ds : List Int) (t : Nat) : A2 s ds t 0 0 = nm s := by
  unfold A2 dn nd2; rfl
theorem pos_bd : ∀ t, t < 5 → ∀ j, j ≤ 4 → ∀ i, i ≤ j → j ≤ t → -1 ≤ nd2 (t : Nat) i + ((j : Int) - i) ∧ nd2 (t : Nat) i + ((j : Int) - i) < (((t + 1) * (t + 2) / 2 - 1 : Nat) : Int) := by
  intro t ht j hj i hi hjt
  have h : t = 0 ∨ t = 1 ∨ t = 2 ∨ t = 3 ∨ t = 4 := by omega
  have hj2 : j = 0 ∨ j = 1 ∨ j = 2 ∨ j = 3 ∨ j = 4 := by omega
  have hi2 : i = 0 ∨ i = 1 ∨ i = 2 ∨ i = 3 ∨ i = 4 := by omega
  rcases h with rfl | rfl | rfl | rfl | rfl <;> rcases hj2 with rfl | rfl | rfl | rfl | rfl <;> first | (exfalso; omega) | (rcases hi2 with rfl | rfl | rfl | rfl | rfl <;> first | (exfalso; omega) | decide)

end Go.Proofs.YtgmelcdgnjcojagDoor

namespace Go.Proofs.YtgmelcdgnjcojagDoor
open Go.RowKit Crm

/-- A slice of two-cell elements that the call itself gathers, and one more, with what it leaves alone. -/
theorem wpList_app2 {P : Program} {T E : TypeId} {z : Value} {by_ : Nat} (hT : P.underlying T = some (.slice E)) (info : (P.info? E).map (fun i => (i.zero, i.size, i.bytes)) = some (some z, 2, by_)) (hz : z.cells.size = 2) (hby : by_ ≤ 100)
    (w : World) {ops : Array Oper} {rest : List Oper} {o : Oper} {a : Act} {Q : Exit → Act → World → Prop} (hgd : o.guard = none) (s x : Operand)
    (ho : o.op = .call { callee := .builtin .append, args := #[s, x], argTypes := #[T, T] })
    (base : Nat) (v : Value) (n : Nat) (xs : List Value) (hs : a.eval s = v) (hown : w.ownsRow base E 2 v n xs) (p q : Value) (hp : p.oneCell' = true) (hq : q.oneCell' = true) (hx : a.eval x = .slice (some ⟨w.heap.size, 0, none⟩) 1 1)
    (hn : n ≤ 1000000) (hbase : base ≤ w.heap.size)
    (h : ∀ v' w', w'.ownsRow base E 2 v' (n + 1) (xs ++ [p, q]) → w.grownBy w' v.ownBlock → (v'.ownBlock = v.ownBlock ∨ ∃ k, v'.ownBlock = some k ∧ w.heap.size ≤ k) → wpList P ops Q rest (a.put o.dst v') w') : wpList P ops Q (o :: rest) a (w.alloc (.cells #[p, q] E)) := by
  obtain ⟨i0, hi, hz0, hz1, hz2⟩ := info_parts info
  refine wpList_append_own_at _ hgd s x T ho base E i0 z 2 by_ hT hi hz0 hz1 hz2 hz (by decide) v n _ hs (hown.alloc _) ⟨w.heap.size, 0, none⟩ 1 1 [p, q] hx rfl ?_ ?_ (by unfold maxLen; omega) ?_ (by simp; omega) ?_
  · intro j u hj
    match j, hj with
    | 0, hj => simp at hj; subst hj; rw [Addr.add_lit]; exact cell_alloc0 _ _ _ _
    | 1, hj => simp at hj; subst hj; rw [Addr.add_lit]; exact cell_alloc1 _ _ _ _
  · intro u hu; simp at hu; rcases hu with rfl | rfl <;> assumption
  · have : (n + 1) * by_ ≤ 1000001 * 100 := Nat.mul_le_mul (by omega) hby
    omega
  · intro v' w' hown' hgrow _ hat
    refine h v' w' hown' ⟨hgrow.os, hgrow.tape, hgrow.output, ?_, fun k hk hne => ?_⟩ ?_
    · have := hgrow.size; simp at this; omega
    · rw [hgrow.block k (by simp; omega) hne]; exact Below.heap_alloc _ _ _ hk
    · rcases hat with hat | hat
      · exact .inl hat
      · exact .inr ⟨_, hat, by simp⟩

/-- The cells of rows. -/
def pvc (l : List (Int × Value)) : List Value := l.flatMap fun p => [.int .i64 p.1, p.2]
theorem pvc_snoc (l : List (Int × Value)) (x : Int) (v : Value) : pvc (l ++ [(x, v)]) = pvc l ++ [.int .i64 x, v] := by simp [pvc]
theorem pvc_get : ∀ (l : List (Int × Value)) (i : Nat), i < l.length → (pvc l)[i * 2]? = some (.int .i64 (l.getD i (0, .slice none 0 0)).1) ∧ (pvc l)[i * 2 + 1]? = some (l.getD i (0, .slice none 0 0)).2
  | [], i, h => by simp at h
  | p :: l, 0, _ => ⟨rfl, rfl⟩
  | p :: l, i + 1, h => by
    have := pvc_get l i (by simpa using h)
    have e1 : (i + 1) * 2 = i * 2 + 1 + 1 := by omega
    rw [e1]
    exact this

/-- A list of rows that the call gathers, each row the call's own. -/
structure LsW (w : World) (B : Nat) (v : Value) (L : List (Int × Value)) (l : List (Int × List Int)) : Prop where
  own : w.ownsRow B 80 2 v l.length (pvc L)
  len : L.length = l.length
  at_ : ∀ i, i < l.length → (L.getD i (0, .slice none 0 0)).1 = ta l i
  row : ∀ i, i < l.length → w.ownsRow B 34 1 (L.getD i (0, .slice none 0 0)).2 (tc l i).length ((tc l i).map (Value.int .u64))
  inj : ∀ i j, i < j → j < l.length → (L.getD i (0, .slice none 0 0)).2.ownBlock = none ∨ (L.getD i (0, .slice none 0 0)).2.ownBlock ≠ (L.getD j (0, .slice none 0 0)).2.ownBlock
theorem lsw_nil (w : World) (B : Nat) : LsW w B (.slice none 0 0) [] [] := ⟨World.ownsRow_nil _ _ _ _, rfl, fun i hi => by simp at hi, fun i hi => by simp at hi, fun i j _ hj => by simp at hj⟩
theorem LsW.below {w w' : World} {B : Nat} {v : Value} {L : List (Int × Value)} {l : List (Int × List Int)} (h : LsW w B v L l) (hb : Below w.heap.size w w') : LsW w' B v L l :=
  ⟨own_below2 h.own hb, h.len, h.at_, fun i hi => own_below (h.row i hi) hb, h.inj⟩
/-- Rows, when another list of numbers grows. -/
theorem LsW.grown {w w' : World} {B : Nat} {v : Value} {L : List (Int × Value)} {l : List (Int × List Int)} {r : Option Nat} (h : LsW w B v L l) (hg : w.grownBy w' r) (h1 : v.ownBlock = none ∨ v.ownBlock ≠ r) (h2 : ∀ i, i < l.length → (L.getD i (0, .slice none 0 0)).2.ownBlock = none ∨ (L.getD i (0, .slice none 0 0)).2.ownBlock ≠ r) : LsW w' B v L l :=
  ⟨h.own.kept hg h1, h.len, h.at_, fun i hi => (h.row i hi).kept hg (h2 i hi), h.inj⟩
/-- One row more. -/
theorem LsW.add {w w' : World} {B : Nat} {v v' u : Value} {L : List (Int × Value)} {l : List (Int × List Int)} {x : Int} {row : List Int} (h : LsW w B v L l) (hr : w.ownsRow B 34 1 u row.length (row.map (Value.int .u64)))
    (hnew : ∀ i, i < l.length → (L.getD i (0, .slice none 0 0)).2.ownBlock = none ∨ (L.getD i (0, .slice none 0 0)).2.ownBlock ≠ u.ownBlock)
    (ho : w'.ownsRow B 80 2 v' (l.length + 1) (pvc L ++ [.int .i64 x, u])) (hg : w.grownBy w' v.ownBlock) : LsW w' B v' (L ++ [(x, u)]) (l ++ [(x, row)]) := by
  have hl := h.len
  have gl : ∀ i, i < l.length → (l ++ [(x, row)]).getD i (0, []) = l.getD i (0, []) := fun i hi => by simp [List.getElem?_append_left hi]
  have gL : ∀ i, i < l.length → (L ++ [(x, u)]).getD i (0, .slice none 0 0) = L.getD i (0, .slice none 0 0) := fun i hi => by simp [List.getElem?_append_left (show i < L.length by omega)]
  have gl' : (l ++ [(x, row)]).getD l.length (0, []) = (x, row) := by simp
  have gL' : (L ++ [(x, u)]).getD l.length (0, .slice none 0 0) = (x, u) := by rw [← hl]; simp
  have hE : (80 : TypeId) ≠ 34 := by decide
  refine ⟨by rw [pvc_snoc]; simpa using ho, by simp [hl], fun i hi => ?_, fun i hi => ?_, fun i j hij hj => ?_⟩
  · have hi2 : i < l.length + 1 := by simpa using hi
    unfold ta
    by_cases e : i = l.length
    · subst e; rw [gl', gL']
    · rw [gl i (by omega), gL i (by omega)]; exact h.at_ i (by omega)
  · have hi2 : i < l.length + 1 := by simpa using hi
    unfold tc
    by_cases e : i = l.length
    · subst e; rw [gl', gL']; exact hr.kept hg (own_apart h.own hr hE)
    · rw [gl i (by omega), gL i (by omega)]; exact (h.row i (by omega)).kept hg (own_apart h.own (h.row i (by omega)) hE)
  · have hj2 : j < l.length + 1 := by simpa using hj
    by_cases e : j = l.length
    · subst e; rw [gL', gL i hij]; exact hnew i hij
    · rw [gL i (by omega), gL j (by omega)]; exact h.inj i j hij (by omega)
/-- What is made later lies elsewhere. -/
theorem LsW.new {w w' : World} {B : Nat} {v u : Value} {L : List (Int × Value)} {l : List (Int × List Int)} {E : TypeId} {n z B2 : Nat} {xs : List Value} (h : LsW w B v L l) (hB : w.heap.size ≤ B2) (hu : w'.ownsRow B2 E z u n xs) : ∀ i, i < l.length → (L.getD i (0, .slice none 0 0)).2.ownBlock = none ∨ (L.getD i (0, .slice none 0 0)).2.ownBlock ≠ u.ownBlock := fun i hi => by
  cases hv : (L.getD i (0, .slice none 0 0)).2.ownBlock with
  | none => exact .inl rfl
  | some g =>
    right
    intro e
    have h1 := ((h.row i hi).lt g hv).2
    have h2 := (hu.lt g e.symm).1
    omega
/-- It reads as its rows. -/
theorem LsW.rdW {w : World} {B : Nat} {v : Value} {L : List (Int × Value)} {l : List (Int × List Int)} {n : Nat} (h : LsW w B v L l) (hn : l.length = n) (hb : ∀ i, i < n → -9223372036854775808 ≤ ta l i ∧ ta l i ≤ 9223372036854775807) (hc : ∀ i, i < n → ∀ x ∈ tc l i, 0 ≤ x ∧ x ≤ 18446744073709551615) : ∃ a c, v = .slice a n c ∧ RdW w a n c l := by
  subst hn
  rcases h.own.2 with ⟨rfl, e0⟩ | ⟨g, cap, cur, rfl, hb', hg, h1, h2, hs, ht⟩
  · exact ⟨none, 0, by rw [e0], rfl, by omega, Nat.zero_le _, fun _ => rfl, hb, by simp⟩
  · refine ⟨_, _, rfl, rfl, h1, h2, by simp, hb, fun x hx i hi => ?_⟩
    obtain rfl := Option.some.inj hx
    have hl := h.len
    have hp := pvc_get L i (by omega)
    have e0 := h.own.cells (g := g) rfl _ _ hp.1
    have e1 := h.own.cells (g := g) rfl _ _ hp.2
    obtain ⟨ai, ci, ev, hr, _⟩ := Rd.own (h.row i hi) (hc i hi)
    rw [h.at_ i hi] at e0
    rw [ev] at e1
    exact ⟨e0, ai, ci, e1, hr⟩
theorem infoRow : (Tryd.prog.info? 80).map (fun i => (i.zero, i.size, i.bytes)) = some (some (.agg #[.int .i64 0, .slice none 0 0]), 2, 32) := by kernel_rfl

/-- A row that is being filled: its box. -/
def Box (w : World) (g : Nat) (x : Int) (v : Value) : Prop := w.heap[g]? = some (.cells #[.int .i64 x, v] 80 (0, 0))
theorem Box.lt {w : World} {g : Nat} {x : Int} {v : Value} (h : Box w g x v) : g < w.heap.size := (Array.getElem?_eq_some_iff.1 h).1
theorem Box.cells {w : World} {g : Nat} {x : Int} {v : Value} (h : Box w g x v) : w.cell? ⟨g, 0, none⟩ = some (.int .i64 x) ∧ w.cell? ⟨g, 1, none⟩ = some v := by
  unfold Box at h
  rw [cell_of_row w g 0 _ _ (0, 0) h, cell_of_row w g 1 _ _ (0, 0) h]
  exact ⟨rfl, rfl⟩
theorem Box.frozen {w : World} {g : Nat} {x : Int} {v : Value} (h : Box w g x v) (i : Nat) : w.frozen? ⟨g, i, none⟩ = false := frozen_of_row w g i _ _ h
theorem Box.set {w : World} {g : Nat} {x : Int} {v : Value} (h : Box w g x v) (u : Value) : Box (w.setCell ⟨g, 1, none⟩ u) g x u := by
  have := heap_setCell_same w g 1 _ _ u h
  unfold Box
  rw [this]
  rfl
theorem Box.kept {w w' : World} {g : Nat} {x : Int} {v : Value} {r : Option Nat} (h : Box w g x v) (hg : w.grownBy w' r) (hr : r ≠ some g) : Box w' g x v := by
  unfold Box; rw [hg.block g h.lt (fun e => hr e.symm)]; exact h
/-- A row of other elements lies elsewhere. -/
theorem Box.apart {w : World} {g n z B : Nat} {x : Int} {v u : Value} {E : TypeId} {xs : List Value} (h : Box w g x v) (ho : w.ownsRow B E z u n xs) (hE : E ≠ 80) : u.ownBlock ≠ some g := by
  rcases ho.2 with ⟨rfl, _⟩ | ⟨g', cap, cur, rfl, _, hg, _⟩
  · simp [Value.ownBlock]
  · intro e
    simp [Value.ownBlock] at e
    subst e
    unfold Box at h
    rw [hg] at h
    simp only [Option.some.injEq, Obj.cells.injEq] at h
    exact hE h.2.1
theorem Box.new (w : World) (x : Int) (v : Value) : Box (w.alloc (.cells #[.int .i64 x, v] 80)) w.heap.size x v := heap_alloc_new w _
end Go.Proofs.YtgmelcdgnjcojagDoor
