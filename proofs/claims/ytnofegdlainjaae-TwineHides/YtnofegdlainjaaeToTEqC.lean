/- croftref.Pairs; slices.Equal of pairs of ints. · slices.Equal of pairs of ints. -/
import Derived.Test.YtnofegdlainjaaeToTPairM
import Derived.Test.YtnofegdlainjaaeToTRefC
import Derived.Test.YtnofegdlainjaaeToRefPolyC
import Derived.Test.YtnofegdlainjaaeToFitC
import Derived.Test.YtnofegdlainjaaeToFaceC
import Derived.ChangeKeysEq
namespace Go.Proofs.Ytnofegdlainjaae
open Go.RowKit Crm

/-- The cells of pairs. -/
def ppc (l : List (Int × Int)) : List Value := l.flatMap fun p => [.int .i64 p.1, .int .i64 p.2]
theorem ppc_snoc (l : List (Int × Int)) (p q : Int) : ppc l ++ [.int .i64 p, .int .i64 q] = ppc (l ++ [(p, q)]) := by simp [ppc]
theorem ppc_get : ∀ (l : List (Int × Int)) (i : Nat), i < l.length → (ppc l)[i * 2]? = some (.int .i64 (l.getD i (0, 0)).1) ∧ (ppc l)[i * 2 + 1]? = some (.int .i64 (l.getD i (0, 0)).2)
  | [], i, h => by simp at h
  | p :: l, 0, _ => ⟨rfl, rfl⟩
  | p :: l, i + 1, h => by
    have := ppc_get l i (by simpa using h)
    have e1 : (i + 1) * 2 = i * 2 + 1 + 1 := by omega
    rw [e1]
    exact this
theorem infoPair : (Try.prog.info? 59).map (fun i => (i.zero, i.size, i.bytes)) = some (some (.agg #[.int .i64 0, .int .i64 0]), 2, 16) := by kernel_rfl
theorem wrap_small {i : Nat} (h : i ≤ 100) : IntKind.u64.wrap (i : Int) = (i : Int) := by
  unfold IntKind.wrap
  simp [IntKind.signed, IntKind.bits]
  omega

end Go.Proofs.Ytnofegdlainjaae

namespace Go.Proofs.Ytnofegdlainjaae
open Go.RowKit Crm

/-- A slice of pairs of ints that is read. -/
structure RdP (w : World) (a : Option Addr) (n c : Nat) (l : List (Int × Int)) : Prop where
  len : l.length = n
  cap : n ≤ c
  max : c ≤ maxLen
  nil : a = none → c = 0
  cell : ∀ x, a = some x → ∀ i, i < n → w.cell? (x.add (i * 2)) = some (.int .i64 (l.getD i (0, 0)).1) ∧ w.cell? (x.add (i * 2 + 1)) = some (.int .i64 (l.getD i (0, 0)).2)
theorem RdP.one {w : World} {a : Option Addr} {n c : Nat} {l : List (Int × Int)} (h : RdP w a n c l) {k : Nat} (hk : k < n) :
    ∃ b o x y, a = some ⟨b, o, none⟩ ∧ b < w.heap.size ∧ Hid (l.getD k (0, 0) = (x, y)) ∧ w.cell? ⟨b, o + k * 2, none⟩ = some (.int .i64 x) ∧ w.cell? ⟨b, o + k * 2 + 1, none⟩ = some (.int .i64 y) := by
  cases ha : a with
  | none => have := h.nil ha; have := h.cap; omega
  | some x =>
    have h0 := (h.cell x ha 0 (by omega)).1
    have hs : x.spot = none := by
      have := spot_none h0
      unfold Addr.add at this
      split at this <;> simp_all
    obtain ⟨b, o, s⟩ := x
    simp only at hs
    subst hs
    have hb := World.block_lt_of_cell? w _ h0
    rw [Addr.add_lit] at hb
    have := h.cell _ ha k hk
    rw [Addr.add_lit, Addr.add_lit, ← Nat.add_assoc] at this
    exact ⟨b, o, _, _, rfl, hb, rfl, this.1, this.2⟩
theorem RdP.below {w w' : World} {a : Option Addr} {n c : Nat} {l : List (Int × Int)} (h : RdP w a n c l) (hb : Below w.heap.size w w') : RdP w' a n c l := by
  refine ⟨h.len, h.cap, h.max, h.nil, fun x hx i hi => ?_⟩
  have := h.cell x hx i hi
  rw [hb.cell (World.block_lt_of_cell? w _ this.1), hb.cell (World.block_lt_of_cell? w _ this.2)]
  exact this
theorem RdP.own {w : World} {base n : Nat} {E : TypeId} {v : Value} {l : List (Int × Int)} (h : w.ownsRow base E 2 v n (ppc l)) (hl : l.length = n) : ∃ a c, v = .slice a n c ∧ RdP w a n c l := by
  rcases h.2 with ⟨rfl, rfl⟩ | ⟨g, cap, cur, rfl, hb', hg, h1, h2, hs, ht⟩
  · exact ⟨none, 0, rfl, ⟨hl, Nat.le_refl _, Nat.zero_le _, fun _ => rfl, by simp⟩⟩
  · refine ⟨_, _, rfl, ⟨hl, h1, h2, by simp, fun x hx i hi => ?_⟩⟩
    obtain rfl := Option.some.inj hx
    have := ppc_get l i (by omega)
    exact ⟨h.cells (g := g) rfl _ _ this.1, h.cells (g := g) rfl _ _ this.2⟩

theorem cells_int : Try.prog.cellsOf 3 = 1 := by kernel_rfl
/-- Two pairs that are the same are equal. -/
theorem eq_pair (x y : Int) (W : World) : (Op.equalIn 10000 59 (.agg #[.int .i64 x, .int .i64 y]) (.agg #[.int .i64 x, .int .i64 y])).run Try.prog W = .ok true W := by
  obtain ⟨i0, hi, _, hz1, _⟩ := info_parts (P := Try.prog) (e := 3) (z := .int .i64 0) (size := 1) (bytes := 8) (by kernel_rfl)
  have hc : ∀ (v : Value) (d : Nat), (∃ z, v = .int .i64 z) → (Op.equalIn (d + 1) 3 v v).run Try.prog W = .ok true W := by
    rintro v d ⟨z, rfl⟩
    simp [Op.equalIn, run_underlying Try.underlying3]
  have hp : ∀ (xs : Array Value) (o : Nat) (v : Value), xs[o]? = some v → (part 3 xs o).run Try.prog W = .ok v W := fun xs o v hv => run_part_plain W (by kernel_rfl) hv
  rw [show (10000 : Nat) = 9999 + 1 from rfl, run_equalIn_array W 9999 _ _ Try.underlying59 hi, cells_int]
  show (Op.eqItems 9999 3 1 _ _ [0, 1]).run Try.prog W = _
  have p0 := hp #[.int .i64 x, .int .i64 y] (0 * 1) (.int .i64 x) rfl
  have p1 := hp #[.int .i64 x, .int .i64 y] (1 * 1) (.int .i64 y) rfl
  have e0 : (Op.equalIn 9999 3 (.int .i64 x) (.int .i64 x)).run Try.prog W = .ok true W := hc _ 9998 ⟨x, rfl⟩
  have e1 : (Op.equalIn 9999 3 (.int .i64 y) (.int .i64 y)).run Try.prog W = .ok true W := hc _ 9998 ⟨y, rfl⟩
  simp only [Op.eqItems, Sem.run_bind, p0, p1, e0, e1, Result.andThen_ok, Bool.not_true, Bool.false_eq_true, if_false]
  rfl

end Go.Proofs.Ytnofegdlainjaae
