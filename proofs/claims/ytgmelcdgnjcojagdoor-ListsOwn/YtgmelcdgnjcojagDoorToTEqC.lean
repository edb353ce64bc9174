/- croftref.Pairs: plain facts. · croftref.Pairs; slices.Equal of pairs of ints. · slices.Equal of pairs of ints. -/
import Derived.Test.YtgmelcdgnjcojagDoorToBadM
import Derived.Test.YtgmelcdgnjcojagDoorToLsW
import Derived.Test.YtgmelcdgnjcojagDoorToRefPolyC
import Derived.Test.YtgmelcdgnjcojagDoorToFitC
import Derived.Test.YtgmelcdgnjcojagDoorToFaceC
import Derived.ChangeKeysEq
namespace Go.Proofs.YtgmelcdgnjcojagDoor
open Crm

theorem dif_yes {l : List (Int × List Int)} {n r s : Nat} {i j : Int} (hr : r < n) (hs : s < n) (ei : ta l r = i) (ej : ta l s = j) (h : nm (ev (tc l r) j) ≠ nm (ev (tc l s) i)) : Dif l n i j := ⟨r, s, hr, hs, ei, ej, h⟩
theorem dis_idx {l : List (Int × List Int)} {n r s : Nat} (hd : dis (ta l) n) (hr : r < n) (hs : s < n) (h : ta l r = ta l s) : r = s := by
  rcases Nat.lt_trichotomy r s with e | e | e
  · exact absurd h ((hd s hs).2 r e)
  · exact e
  · exact absurd h.symm ((hd r hr).2 s e)
theorem dif_no {l : List (Int × List Int)} {n r s : Nat} {i j : Int} (hd : dis (ta l) n) (hr : r < n) (hs : s < n) (ei : ta l r = i) (ej : ta l s = j) (h : nm (ev (tc l r) j) = nm (ev (tc l s) i)) : ¬ Dif l n i j := by
  rintro ⟨r', s', hr', hs', ei', ej', h'⟩
  obtain rfl := dis_idx hd hr' hr (ei'.trans ei.symm)
  obtain rfl := dis_idx hd hs' hs (ej'.trans ej.symm)
  exact h' h
theorem dif_none1 {l : List (Int × List Int)} {n : Nat} {i j : Int} (h : ∀ r, r < n → ta l r ≠ i) : ¬ Dif l n i j := by
  rintro ⟨r, s, hr, hs, ei, ej, h'⟩; exact h r hr ei
theorem dif_none2 {l : List (Int × List Int)} {n : Nat} {i j : Int} (h : ∀ r, r < n → ta l r ≠ j) : ¬ Dif l n i j := by
  rintro ⟨r, s, hr, hs, ei, ej, h'⟩; exact h s hs ej
theorem dif_bd {l : List (Int × List Int)} {n : Nat} {i j : Int} (hd : dis (ta l) n) (h : Dif l n i j) : (1 ≤ i ∧ i ≤ 9) ∧ 1 ≤ j ∧ j ≤ 9 := by
  obtain ⟨r, s, hr, hs, ei, ej, _⟩ := h
  have h1 := (hd r hr).1
  have h2 := (hd s hs).1
  omega

/-- Pairs ahead of (i, j). -/
structure Prj (l : List (Int × List Int)) (n : Nat) (i j : Int) (L : List (Int × Int)) : Prop where
  up : L.Pairwise lexp
  mem : ∀ a b, (a, b) ∈ L ↔ (a < b ∧ Dif l n a b ∧ (a < i ∨ (a = i ∧ b < j)))
theorem prj_start {l : List (Int × List Int)} {n : Nat} (hd : dis (ta l) n) : Prj l n 1 2 [] := ⟨List.Pairwise.nil, fun a b => ⟨fun h => by simp at h, fun ⟨h1, h2, h3⟩ => by have := dif_bd hd h2; omega⟩⟩
theorem prj_skip {l : List (Int × List Int)} {n : Nat} {i j : Int} {L : List (Int × Int)} (h : Prj l n i j L) (hn : ¬ Dif l n i j) : Prj l n i (j + 1) L := by
  refine ⟨h.up, fun a b => ?_⟩
  rw [h.mem]
  constructor
  · rintro ⟨h1, h2, h3⟩; exact ⟨h1, h2, by omega⟩
  · rintro ⟨h1, h2, h3⟩
    refine ⟨h1, h2, ?_⟩
    by_cases e : a = i ∧ b = j
    · obtain ⟨rfl, rfl⟩ := e; exact absurd h2 hn
    · omega
theorem prj_add {l : List (Int × List Int)} {n : Nat} {i j : Int} {L : List (Int × Int)} (h : Prj l n i j L) (hij : i < j) (hd : Dif l n i j) : Prj l n i (j + 1) (L ++ [(i, j)]) := by
  refine ⟨?_, fun a b => ?_⟩
  · rw [List.pairwise_append]
    refine ⟨h.up, by simp, fun x hx y hy => ?_⟩
    rw [List.mem_singleton] at hy
    subst hy
    obtain ⟨a, b⟩ := x
    have := ((h.mem a b).1 hx).2.2
    unfold lexp
    simp only
    omega
  · rw [List.mem_append, h.mem, List.mem_singleton, Prod.mk.injEq]
    constructor
    · rintro (⟨h1, h2, h3⟩ | ⟨rfl, rfl⟩)
      · exact ⟨h1, h2, by omega⟩
      · exact ⟨hij, hd, by omega⟩
    · rintro ⟨h1, h2, h3⟩
      by_cases e : a = i ∧ b = j
      · exact .inr e
      · exact .inl ⟨h1, h2, by omega⟩
theorem prj_next {l : List (Int × List Int)} {n : Nat} {i : Int} {L : List (Int × Int)} (hd : dis (ta l) n) (h : Prj l n i 10 L) : Prj l n (i + 1) (i + 2) L := by
  refine ⟨h.up, fun a b => ?_⟩
  rw [h.mem]
  constructor
  · rintro ⟨h1, h2, h3⟩; exact ⟨h1, h2, by omega⟩
  · rintro ⟨h1, h2, h3⟩
    have := dif_bd hd h2
    exact ⟨h1, h2, by omega⟩
theorem prj_next9 {l : List (Int × List Int)} {n : Nat} {i j : Int} {L : List (Int × Int)} (hd : dis (ta l) n) (h : Prj l n i j L) (hj : 10 ≤ j) : Prj l n (i + 1) (i + 2) L := by
  refine ⟨h.up, fun a b => ?_⟩
  rw [h.mem]
  constructor
  · rintro ⟨h1, h2, h3⟩; exact ⟨h1, h2, by omega⟩
  · rintro ⟨h1, h2, h3⟩
    have := dif_bd hd h2
    exact ⟨h1, h2, by omega⟩
theorem prj_end {l : List (Int × List Int)} {n : Nat} {j : Int} {L : List (Int × Int)} (hd : dis (ta l) n) (h : Prj l n 10 j L) : Prs l n L := by
  refine ⟨h.up, fun a b => ?_⟩
  rw [h.mem]
  constructor
  · rintro ⟨h1, h2, h3⟩; exact ⟨h1, h2⟩
  · rintro ⟨h1, h2⟩
    have := dif_bd hd h2
    exact ⟨h1, h2, by omega⟩
end Go.Proofs.YtgmelcdgnjcojagDoor

namespace Go.Proofs.YtgmelcdgnjcojagDoor
open Go.RowKit Crm

/-- The cells of pairs. -/
def ppc (l : List (Int × Int)) : List Value := l.flatMap fun p => [.int .i64 p.1, .int .i64 p.2]
theorem ppc_snoc (l : List (Int × Int)) (p q : Int) : ppc l ++ [.int .i64 p, .int .i64 q] = ppc (l ++ [(p, q)]) := by simp [ppc]
theorem ppc_get : ∀ (l : List (Int × Int)) (i : Nat), i < l.length → (ppc l)[i * 2]? = some (.int .i64 (l.getD i (0, 0)).1) ∧ (ppc l)[i * 2 + 1]? = some (.int .i64 (l.getD i (0, 0)).2)
  | [], i, h => by simp at h
  | p :: l, 0, _ => ⟨rfl, rfl⟩
  | p :: l, i + 1, h => by
    have := ppc_get l i (by simpa using h)
    have e1 : (i + 1) * 2 = i * 2 + 1 + 1 := by omega
    rw [e1]
    exact this
theorem infoPair : (Tryd.prog.info? 136).map (fun i => (i.zero, i.size, i.bytes)) = some (some (.agg #[.int .i64 0, .int .i64 0]), 2, 16) := by kernel_rfl
theorem wrap_small {i : Nat} (h : i ≤ 100) : IntKind.u64.wrap (i : Int) = (i : Int) := by
  unfold IntKind.wrap
  simp [IntKind.signed, IntKind.bits]
  omega

end Go.Proofs.YtgmelcdgnjcojagDoor

namespace Go.Proofs.YtgmelcdgnjcojagDoor
open Go.RowKit Crm

/-- A slice of pairs of ints that is read. -/
structure RdP (w : World) (a : Option Addr) (n c : Nat) (l : List (Int × Int)) : Prop where
  len : l.length = n
  cap : n ≤ c
  max : c ≤ maxLen
  nil : a = none → c = 0
  cell : ∀ x, a = some x → ∀ i, i < n → w.cell? (x.add (i * 2)) = some (.int .i64 (l.getD i (0, 0)).1) ∧ w.cell? (x.add (i * 2 + 1)) = some (.int .i64 (l.getD i (0, 0)).2)
theorem RdP.one {w : World} {a : Option Addr} {n c : Nat} {l : List (Int × Int)} (h : RdP w a n c l) {k : Nat} (hk : k < n) :
    ∃ b o x y, a = some ⟨b, o, none⟩ ∧ b < w.heap.size ∧ Hid (l.getD k (0, 0) = (x, y)) ∧ w.cell? ⟨b, o + k * 2, none⟩ = some (.int .i64 x) ∧ w.cell? ⟨b, o + k * 2 + 1, none⟩ = some (.int .i64 y) := by
  cases ha : a with
  | none => have := h.nil ha; have := h.cap; omega
  | some x =>
    have h0 := (h.cell x ha 0 (by omega)).1
    have hs : x.spot = none := by
      have := spot_none h0
      unfold Addr.add at this
      split at this <;> simp_all
    obtain ⟨b, o, s⟩ := x
    simp only at hs
    subst hs
    have hb := World.block_lt_of_cell? w _ h0
    rw [Addr.add_lit] at hb
    have := h.cell _ ha k hk
    rw [Addr.add_lit, Addr.add_lit, ← Nat.add_assoc] at this
    exact ⟨b, o, _, _, rfl, hb, rfl, this.1, this.2⟩
theorem RdP.below {w w' : World} {a : Option Addr} {n c : Nat} {l : List (Int × Int)} (h : RdP w a n c l) (hb : Below w.heap.size w w') : RdP w' a n c l := by
  refine ⟨h.len, h.cap, h.max, h.nil, fun x hx i hi => ?_⟩
  have := h.cell x hx i hi
  rw [hb.cell (World.block_lt_of_cell? w _ this.1), hb.cell (World.block_lt_of_cell? w _ this.2)]
  exact this
theorem RdP.own {w : World} {base n : Nat} {E : TypeId} {v : Value} {l : List (Int × Int)} (h : w.ownsRow base E 2 v n (ppc l)) (hl : l.length = n) : ∃ a c, v = .slice a n c ∧ RdP w a n c l := by
  rcases h.2 with ⟨rfl, rfl⟩ | ⟨g, cap, cur, rfl, hb', hg, h1, h2, hs, ht⟩
  · exact ⟨none, 0, rfl, ⟨hl, Nat.le_refl _, Nat.zero_le _, fun _ => rfl, by simp⟩⟩
  · refine ⟨_, _, rfl, ⟨hl, h1, h2, by simp, fun x hx i hi => ?_⟩⟩
    obtain rfl := Option.some.inj hx
    have := ppc_get l i (by omega)
    exact ⟨h.cells (g := g) rfl _ _ this.1, h.cells (g := g) rfl _ _ this.2⟩

theorem cells_int : Tryd.prog.cellsOf 3 = 1 := by kernel_rfl
/-- Two pairs that are the same are equal. -/
theorem eq_pair (x y : Int) (W : World) : (Op.equalIn 10000 136 (.agg #[.int .i64 x, .int .i64 y]) (.agg #[.int .i64 x, .int .i64 y])).run Tryd.prog W = .ok true W := by
  obtain ⟨i0, hi, _, hz1, _⟩ := info_parts (P := Tryd.prog) (e := 3) (z := .int .i64 0) (size := 1) (bytes := 8) (by kernel_rfl)
  have hc : ∀ (v : Value) (d : Nat), (∃ z, v = .int .i64 z) → (Op.equalIn (d + 1) 3 v v).run Tryd.prog W = .ok true W := by
    rintro v d ⟨z, rfl⟩
    simp [Op.equalIn, run_underlying Tryd.underlying3]
  have hp : ∀ (xs : Array Value) (o : Nat) (v : Value), xs[o]? = some v → (part 3 xs o).run Tryd.prog W = .ok v W := fun xs o v hv => run_part_plain W (by kernel_rfl) hv
  rw [show (10000 : Nat) = 9999 + 1 from rfl, run_equalIn_array W 9999 _ _ Tryd.underlying136 hi, cells_int]
  show (Op.eqItems 9999 3 1 _ _ [0, 1]).run Tryd.prog W = _
  have p0 := hp #[.int .i64 x, .int .i64 y] (0 * 1) (.int .i64 x) rfl
  have p1 := hp #[.int .i64 x, .int .i64 y] (1 * 1) (.int .i64 y) rfl
  have e0 : (Op.equalIn 9999 3 (.int .i64 x) (.int .i64 x)).run Tryd.prog W = .ok true W := hc _ 9998 ⟨x, rfl⟩
  have e1 : (Op.equalIn 9999 3 (.int .i64 y) (.int .i64 y)).run Tryd.prog W = .ok true W := hc _ 9998 ⟨y, rfl⟩
  simp only [Op.eqItems, Sem.run_bind, p0, p1, e0, e1, Result.andThen_ok, Bool.not_true, Bool.false_eq_true, if_false]
  rfl

end Go.Proofs.YtgmelcdgnjcojagDoor
