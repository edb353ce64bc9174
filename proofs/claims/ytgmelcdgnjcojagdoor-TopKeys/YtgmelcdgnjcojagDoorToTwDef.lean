/- croftref.Pairs; slices.Equal of pairs of ints. · slices.Equal of pairs of ints. · What the calls of package twine answer. -/
import Derived.Test.YtgmelcdgnjcojagDoorToTPairM
import Derived.Test.YtgmelcdgnjcojagDoorToSortC
import Derived.Test.YtgmelcdgnjcojagDoorToRefPolyC
import Derived.Test.YtgmelcdgnjcojagDoorToValC
import Derived.ChangeKeysEq
import Derived.Test.YtgmelcdgnjcojagDoorToEnO
import Derived.Test.YtgmelcdgnjcojagDoorToTRows
namespace Go.Proofs.YtgmelcdgnjcojagDoor
open Go.RowKit Crm

/-- The cells of pairs. -/
def ppc (l : List (Int × Int)) : List Value := l.flatMap fun p => [.int .i64 p.1, .int .i64 p.2]
theorem ppc_snoc (l : List (Int × Int)) (p q : Int) : ppc l ++ [.int .i64 p, .int .i64 q] = ppc (l ++ [(p, q)]) := by simp [ppc]
theorem ppc_get : ∀ (l : List (Int × Int)) (i : Nat), i < l.length → (ppc l)[i * 2]? = some (.int .i64 (l.getD i (0, 0)).1) ∧ (ppc l)[i * 2 + 1]? = some (.int .i64 (l.getD i (0, 0)).2)
  | [], i, h => by simp at h
  | p :: l, 0, _ => ⟨rfl, rfl⟩
  | p :: l, i + 1, h => by
    have := ppc_get l i (by simpa using h)
    have e1 : (i + 1) * 2 = i * 2 + 1 + 1 := by omega
    rw [e1]
    exact this
theorem infoPair : (Tryd.prog.info? 136).map (fun i => (i.zero, i.size, i.bytes)) = some (some (.agg #[.int .i64 0, .int .i64 0]), 2, 16) := by kernel_rfl
theorem wrap_small {i : Nat} (h : i ≤ 100) : IntKind.u64.wrap (i : Int) = (i : Int) := by
  unfold IntKind.wrap
  simp [IntKind.signed, IntKind.bits]
  omega

end Go.Proofs.YtgmelcdgnjcojagDoor

namespace Go.Proofs.YtgmelcdgnjcojagDoor
open Go.RowKit Crm

/-- A slice of pairs of ints that is read. -/
structure RdP (w : World) (a : Option Addr) (n c : Nat) (l : List (Int × Int)) : Prop where
  len : l.length = n
  cap : n ≤ c
  max : c ≤ maxLen
  nil : a = none → c = 0
  cell : ∀ x, a = some x → ∀ i, i < n → w.cell? (x.add (i * 2)) = some (.int .i64 (l.getD i (0, 0)).1) ∧ w.cell? (x.add (i * 2 + 1)) = some (.int .i64 (l.getD i (0, 0)).2)
theorem RdP.one {w : World} {a : Option Addr} {n c : Nat} {l : List (Int × Int)} (h : RdP w a n c l) {k : Nat} (hk : k < n) :
    ∃ b o x y, a = some ⟨b, o, none⟩ ∧ b < w.heap.size ∧ Hid (l.getD k (0, 0) = (x, y)) ∧ w.cell? ⟨b, o + k * 2, none⟩ = some (.int .i64 x) ∧ w.cell? ⟨b, o + k * 2 + 1, none⟩ = some (.int .i64 y) := by
  cases ha : a with
  | none => have := h.nil ha; have := h.cap; omega
  | some x =>
    have h0 := (h.cell x ha 0 (by omega)).1
    have hs : x.spot = none := by
      have := spot_none h0
      unfold Addr.add at this
      split at this <;> simp_all
    obtain ⟨b, o, s⟩ := x
    simp only at hs
    subst hs
    have hb := World.block_lt_of_cell? w _ h0
    rw [Addr.add_lit] at hb
    have := h.cell _ ha k hk
    rw [Addr.add_lit, Addr.add_lit, ← Nat.add_assoc] at this
    exact ⟨b, o, _, _, rfl, hb, rfl, this.1, this.2⟩
theorem RdP.below {w w' : World} {a : Option Addr} {n c : Nat} {l : List (Int × Int)} (h : RdP w a n c l) (hb : Below w.heap.size w w') : RdP w' a n c l := by
  refine ⟨h.len, h.cap, h.max, h.nil, fun x hx i hi => ?_⟩
  have := h.cell x hx i hi
  rw [hb.cell (World.block_lt_of_cell? w _ this.1), hb.cell (World.block_lt_of_cell? w _ this.2)]
  exact this
theorem RdP.own {w : World} {base n : Nat} {E : TypeId} {v : Value} {l : List (Int × Int)} (h : w.ownsRow base E 2 v n (ppc l)) (hl : l.length = n) : ∃ a c, v = .slice a n c ∧ RdP w a n c l := by
  rcases h.2 with ⟨rfl, rfl⟩ | ⟨g, cap, cur, rfl, hb', hg, h1, h2, hs, ht⟩
  · exact ⟨none, 0, rfl, ⟨hl, Nat.le_refl _, Nat.zero_le _, fun _ => rfl, by simp⟩⟩
  · refine ⟨_, _, rfl, ⟨hl, h1, h2, by simp, fun x hx i hi => ?_⟩⟩
    obtain rfl := Option.some.inj hx
    have := ppc_get l i (by omega)
    exact ⟨h.cells (g := g) rfl _ _ this.1, h.cells (g := g) rfl _ _ this.2⟩

theorem cells_int : Tryd.prog.cellsOf 3 = 1 := by kernel_rfl
/-- Two pairs that are the same are equal. -/
theorem eq_pair (x y : Int) (W : World) : (Op.equalIn 10000 136 (.agg #[.int .i64 x, .int .i64 y]) (.agg #[.int .i64 x, .int .i64 y])).run Tryd.prog W = .ok true W := by
  obtain ⟨i0, hi, _, hz1, _⟩ := info_parts (P := Tryd.prog) (e := 3) (z := .int .i64 0) (size := 1) (bytes := 8) (by kernel_rfl)
  have hc : ∀ (v : Value) (d : Nat), (∃ z, v = .int .i64 z) → (Op.equalIn (d + 1) 3 v v).run Tryd.prog W = .ok true W := by
    rintro v d ⟨z, rfl⟩
    simp [Op.equalIn, run_underlying Tryd.underlying3]
  have hp : ∀ (xs : Array Value) (o : Nat) (v : Value), xs[o]? = some v → (part 3 xs o).run Tryd.prog W = .ok v W := fun xs o v hv => run_part_plain W (by kernel_rfl) hv
  rw [show (10000 : Nat) = 9999 + 1 from rfl, run_equalIn_array W 9999 _ _ Tryd.underlying136 hi, cells_int]
  show (Op.eqItems 9999 3 1 _ _ [0, 1]).run Tryd.prog W = _
  have p0 := hp #[.int .i64 x, .int .i64 y] (0 * 1) (.int .i64 x) rfl
  have p1 := hp #[.int .i64 x, .int .i64 y] (1 * 1) (.int .i64 y) rfl
  have e0 : (Op.equalIn 9999 3 (.int .i64 x) (.int .i64 x)).run Tryd.prog W = .ok true W := hc _ 9998 ⟨x, rfl⟩
  have e1 : (Op.equalIn 9999 3 (.int .i64 y) (.int .i64 y)).run Tryd.prog W = .ok true W := hc _ 9998 ⟨y, rfl⟩
  simp only [Op.eqItems, Sem.run_bind, p0, p1, e0, e1, Result.andThen_ok, Bool.not_true, Bool.false_eq_true, if_false]
  rfl

end Go.Proofs.YtgmelcdgnjcojagDoor

namespace Go.Proofs.YtgmelcdgnjcojagDoor
open Go.RowKit Crm

/-- How many numbers there are besides the secret. -/
def need2 (t : Nat) : Nat := (t + 1) * (t + 2) / 2 - 1
theorem need2_bd {t : Nat} (h : t ≤ 4) : need2 t ≤ 14 := by
  have hcase : t = 0 ∨ t = 1 ∨ t = 2 ∨ t = 3 ∨ t = 4 := by omega
  rcases hcase with rfl | rfl | rfl | rfl | rfl <;> decide
/-- What Need answers. -/
def Nds (t : Int) (w : World) (e : Ending) (w' : World) : Prop :=
  (((t < 0 ∨ 4 < t) ∧ e = .returned (.tuple #[.int .i64 0, .int .i64 1])) ∨ ∃ k : Nat, t = (k : Int) ∧ k ≤ 4 ∧ e = .returned (.tuple #[.int .i64 (need2 k : Nat), .int .i64 0])) ∧ Below w.heap.size w w'
/-- What is dealt with m draws for n parties is dealt rightly. -/
def Dwk (t n : Int) (m k : Nat) : Prop := t = (k : Int) ∧ k ≤ 4 ∧ m = need2 k ∧ (k : Int) + 1 ≤ n ∧ n ≤ 9
/-- What Deal answers. -/
def Dwl (s : Int) (ds : List Int) (t n : Int) (m : Nat) (w : World) (e : Ending) (w' : World) : Prop :=
  (((∀ k, ¬ Dwk t n m k) ∧ e = .returned (.tuple #[.slice none 0 0, .int .i64 1])) ∨ ∃ (k q : Nat) (v : Value) (L : List (Int × Value)), Dwk t n m k ∧ n = (q : Int) ∧ e = .returned (.tuple #[v, .int .i64 0]) ∧ LsW w' w.heap.size v L (dealA s ds k q)) ∧ Below w.heap.size w w'
/-- What Pairs answers. -/
def Pss (l : List (Int × List Int)) (n : Nat) (w : World) (e : Ending) (w' : World) : Prop :=
  ((¬ Rwk l n ∧ e = .returned (.tuple #[.slice none 0 0, .int .i64 5])) ∨ (Rwk l n ∧ ∃ a k c L, e = .returned (.tuple #[.slice a k c, .int .i64 0]) ∧ RdP w' a k c L ∧ Prs l n L)) ∧ Below w.heap.size w w'
/-- Rows that are dealt are read. -/
theorem deal_rd {w : World} {B : Nat} {v : Value} {L : List (Int × Value)} {s : Int} {ds : List Int} {t q : Nat} (h : LsW w B v L (dealA s ds t q)) (hq : q ≤ 9) : ∃ a c, v = .slice a q c ∧ RdW w a q c (dealA s ds t q) :=
  h.rdW (dealA_len _ _ _ _) (fun i hi => by unfold ta; rw [dealA_getD s ds t hi]; simp only; omega) (fun i hi => by unfold tc; rw [dealA_getD s ds t hi]; exact bd_u64 (rowK_bd _ _ _ _ _))
end Go.Proofs.YtgmelcdgnjcojagDoor
