/- croftref.Join. · croftref.Pairs; slices.Equal of pairs of ints. · slices.Equal of pairs of ints. -/
import Derived.Test.YtnofegdlainjaagDoorToTJoinM
import Derived.Test.YtnofegdlainjaagDoorToTwoC
import Derived.Test.YtnofegdlainjaagDoorToTakeC
import Derived.Test.YtnofegdlainjaagDoorToLstC
import Derived.Deep.AppendLies
import Derived.Deep.RegionLaw
import Derived.Test.YtnofegdlainjaagDoorToTPairM
import Derived.Test.YtnofegdlainjaagDoorToSumC
import Derived.Test.YtnofegdlainjaagDoorToDealC
import Derived.ChangeKeysEq
namespace Go.Proofs.YtnofegdlainjaagDoor
open Go.RowKit Crm

/-- A slice of shares that the call itself gathers, and one share more: a step of a region that draws. -/
theorem step_appS {P : Program} {T E : TypeId} (hT : P.underlying T = some (.slice E)) (info : (P.info? E).map (fun i => (i.zero, i.size, i.bytes)) = some (some (.agg #[.int .i64 0, .int .u64 0]), 2, 16))
    (w : World) {w1 : World} {ops : Array Oper} {o : Oper} {a : Act} {K : Act → World → Prop} {Q : Exit → Act → World → Prop} {F : Prop} (hgd : o.guard = none) (s x : Operand)
    (ho : o.op = .call { callee := .builtin .append, args := #[s, x], argTypes := #[T, T] })
    (base : Nat) (v : Value) (n : Nat) (l : List (Int × Int)) (hs : a.eval s = v) (hown : w.ownsRow base E 2 v n (shc l)) (p q : Int) (hx : a.eval x = .slice (some ⟨w.heap.size, 0, none⟩) 1 1)
    (hw1 : w1 = w.alloc (.cells #[.int .i64 p, .int .u64 q] E)) (hn : n ≤ 1000000) (hbase : base ≤ w.heap.size)
    (h : ∀ v' w', w'.ownsRow base E 2 v' (n + 1) (shc (l ++ [(p, q)])) → Below base w w' → K (a.put o.dst v') w') :
    if Region.wanted o (yielded ops a.tmps) = true then Oper.wp P o a w1 K Q else F := by
  subst hw1
  obtain ⟨i0, hi, hz0, hz1, hz2⟩ := info_parts info
  refine step_append_lies _ hgd s x T ho base E i0 (.agg #[.int .i64 0, .int .u64 0]) 2 16 hT hi hz0 hz1 hz2 rfl (by decide) v n _ hs (hown.alloc _) ⟨w.heap.size, 0, none⟩ 1 1 [.int .i64 p, .int .u64 q] hx rfl ?_ ?_ (by decide) (by unfold maxLen; omega) (by omega) (by simp; omega) _ rfl ?_
  · intro j u hj
    match j, hj with
    | 0, hj => simp at hj; subst hj; rw [Addr.add_lit]; exact cell_alloc0 _ _ _ _
    | 1, hj => simp at hj; subst hj; rw [Addr.add_lit]; exact cell_alloc1 _ _ _ _
  · intro u hu; simp at hu; rcases hu with rfl | rfl <;> rfl
  · intro g cap w' hown' hgrow _ _
    refine h _ w' (by rw [shc_snoc]; exact hown') ?_
    exact ((Below.refl _ _).alloc hbase _).grown hgrow (by simp; omega) (fun k hk => (hown.lt k hk).1)

theorem RdW.nbd {w : World} {a : Option Addr} {n c : Nat} {l : List (Int × List Int)} (h : RdW w a n c l) {i : Nat} (hi : i < n) : ∀ x ∈ tc l i, 0 ≤ x ∧ x ≤ 18446744073709551615 := by
  obtain ⟨b, o, x, ai, ni, ci, row, _, _, _, HRow, _, _, _, _, hrow⟩ := h.one hi
  rw [HRow.out]; exact hrow.bd

/-- What Join answers. -/
def Jns (l : List (Int × List Int)) (n : Nat) (t : Int) (w : World) (e : Ending) (w' : World) : Prop := ∃ x r, e = .returned (.tuple #[.int .u64 x, .int .i64 r]) ∧ Jnd l n t x r ∧ Below w.heap.size w w'

end Go.Proofs.YtnofegdlainjaagDoor

namespace Go.Proofs.YtnofegdlainjaagDoor
open Go.RowKit Crm

/-- The cells of pairs. -/
def ppc (l : List (Int × Int)) : List Value := l.flatMap fun p => [.int .i64 p.1, .int .i64 p.2]
theorem ppc_snoc (l : List (Int × Int)) (p q : Int) : ppc l ++ [.int .i64 p, .int .i64 q] = ppc (l ++ [(p, q)]) := by simp [ppc]
theorem ppc_get : ∀ (l : List (Int × Int)) (i : Nat), i < l.length → (ppc l)[i * 2]? = some (.int .i64 (l.getD i (0, 0)).1) ∧ (ppc l)[i * 2 + 1]? = some (.int .i64 (l.getD i (0, 0)).2)
  | [], i, h => by simp at h
  | p :: l, 0, _ => ⟨rfl, rfl⟩
  | p :: l, i + 1, h => by
    have := ppc_get l i (by simpa using h)
    have e1 : (i + 1) * 2 = i * 2 + 1 + 1 := by omega
    rw [e1]
    exact this
theorem infoPair : (Tryd.prog.info? 121).map (fun i => (i.zero, i.size, i.bytes)) = some (some (.agg #[.int .i64 0, .int .i64 0]), 2, 16) := by kernel_rfl
theorem wrap_small {i : Nat} (h : i ≤ 100) : IntKind.u64.wrap (i : Int) = (i : Int) := by
  unfold IntKind.wrap
  simp [IntKind.signed, IntKind.bits]
  omega

end Go.Proofs.YtnofegdlainjaagDoor

namespace Go.Proofs.YtnofegdlainjaagDoor
open Go.RowKit Crm

/-- A slice of pairs of ints that is read. -/
structure RdP (w : World) (a : Option Addr) (n c : Nat) (l : List (Int × Int)) : Prop where
  len : l.length = n
  cap : n ≤ c
  max : c ≤ maxLen
  nil : a = none → c = 0
  cell : ∀ x, a = some x → ∀ i, i < n → w.cell? (x.add (i * 2)) = some (.int .i64 (l.getD i (0, 0)).1) ∧ w.cell? (x.add (i * 2 + 1)) = some (.int .i64 (l.getD i (0, 0)).2)
theorem RdP.one {w : World} {a : Option Addr} {n c : Nat} {l : List (Int × Int)} (h : RdP w a n c l) {k : Nat} (hk : k < n) :
    ∃ b o x y, a = some ⟨b, o, none⟩ ∧ b < w.heap.size ∧ Hid (l.getD k (0, 0) = (x, y)) ∧ w.cell? ⟨b, o + k * 2, none⟩ = some (.int .i64 x) ∧ w.cell? ⟨b, o + k * 2 + 1, none⟩ = some (.int .i64 y) := by
  cases ha : a with
  | none => have := h.nil ha; have := h.cap; omega
  | some x =>
    have h0 := (h.cell x ha 0 (by omega)).1
    have hs : x.spot = none := by
      have := spot_none h0
      unfold Addr.add at this
      split at this <;> simp_all
    obtain ⟨b, o, s⟩ := x
    simp only at hs
    subst hs
    have hb := World.block_lt_of_cell? w _ h0
    rw [Addr.add_lit] at hb
    have := h.cell _ ha k hk
    rw [Addr.add_lit, Addr.add_lit, ← Nat.add_assoc] at this
    exact ⟨b, o, _, _, rfl, hb, rfl, this.1, this.2⟩
theorem RdP.below {w w' : World} {a : Option Addr} {n c : Nat} {l : List (Int × Int)} (h : RdP w a n c l) (hb : Below w.heap.size w w') : RdP w' a n c l := by
  refine ⟨h.len, h.cap, h.max, h.nil, fun x hx i hi => ?_⟩
  have := h.cell x hx i hi
  rw [hb.cell (World.block_lt_of_cell? w _ this.1), hb.cell (World.block_lt_of_cell? w _ this.2)]
  exact this
theorem RdP.own {w : World} {base n : Nat} {E : TypeId} {v : Value} {l : List (Int × Int)} (h : w.ownsRow base E 2 v n (ppc l)) (hl : l.length = n) : ∃ a c, v = .slice a n c ∧ RdP w a n c l := by
  rcases h.2 with ⟨rfl, rfl⟩ | ⟨g, cap, cur, rfl, hb', hg, h1, h2, hs, ht⟩
  · exact ⟨none, 0, rfl, ⟨hl, Nat.le_refl _, Nat.zero_le _, fun _ => rfl, by simp⟩⟩
  · refine ⟨_, _, rfl, ⟨hl, h1, h2, by simp, fun x hx i hi => ?_⟩⟩
    obtain rfl := Option.some.inj hx
    have := ppc_get l i (by omega)
    exact ⟨h.cells (g := g) rfl _ _ this.1, h.cells (g := g) rfl _ _ this.2⟩

theorem cells_int : Tryd.prog.cellsOf 3 = 1 := by kernel_rfl
/-- Two pairs that are the same are equal. -/
theorem eq_pair (x y : Int) (W : World) : (Op.equalIn 10000 121 (.agg #[.int .i64 x, .int .i64 y]) (.agg #[.int .i64 x, .int .i64 y])).run Tryd.prog W = .ok true W := by
  obtain ⟨i0, hi, _, hz1, _⟩ := info_parts (P := Tryd.prog) (e := 3) (z := .int .i64 0) (size := 1) (bytes := 8) (by kernel_rfl)
  have hc : ∀ (v : Value) (d : Nat), (∃ z, v = .int .i64 z) → (Op.equalIn (d + 1) 3 v v).run Tryd.prog W = .ok true W := by
    rintro v d ⟨z, rfl⟩
    simp [Op.equalIn, run_underlying Tryd.underlying3]
  have hp : ∀ (xs : Array Value) (o : Nat) (v : Value), xs[o]? = some v → (part 3 xs o).run Tryd.prog W = .ok v W := fun xs o v hv => run_part_plain W (by kernel_rfl) hv
  rw [show (10000 : Nat) = 9999 + 1 from rfl, run_equalIn_array W 9999 _ _ Tryd.underlying121 hi, cells_int]
  show (Op.eqItems 9999 3 1 _ _ [0, 1]).run Tryd.prog W = _
  have p0 := hp #[.int .i64 x, .int .i64 y] (0 * 1) (.int .i64 x) rfl
  have p1 := hp #[.int .i64 x, .int .i64 y] (1 * 1) (.int .i64 y) rfl
  have e0 : (Op.equalIn 9999 3 (.int .i64 x) (.int .i64 x)).run Tryd.prog W = .ok true W := hc _ 9998 ⟨x, rfl⟩
  have e1 : (Op.equalIn 9999 3 (.int .i64 y) (.int .i64 y)).run Tryd.prog W = .ok true W := hc _ 9998 ⟨y, rfl⟩
  simp only [Op.eqItems, Sem.run_bind, p0, p1, e0, e1, Result.andThen_ok, Bool.not_true, Bool.false_eq_true, if_false]
  rfl

end Go.Proofs.YtnofegdlainjaagDoor
