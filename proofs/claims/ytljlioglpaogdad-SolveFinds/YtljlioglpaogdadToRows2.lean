/- Slices of numbers that are read (Rd), rows of the call's own whose every number is known (Blk), and how both stand when the world goes on. · Lists that the call gathers: of columns, of rows; one more. · Slices of rows of numbers that are read. -/
import Derived.WalkKit
import Derived.WalkSpells
import Derived.WalkLawsBesides
import Derived.Deep.Draws
import Derived.Maps.AppendAt
import Derived.Test.YtljlioglpaogdadToGaussR
namespace Go.Proofs.Ytljlioglpaogdad
set_option linter.unusedVariables false
set_option maxRecDepth 100000
set_option maxHeartbeats 8000000
section
open Go.RowKit
/-- The slice reads as the numbers xs. -/
structure Rd (w : World) (a : Option Addr) (n c : Nat) (xs : List Int) : Prop where
  len : xs.length = n
  cap : n ≤ c
  max : c ≤ maxLen
  bd : ∀ x ∈ xs, 0 ≤ x ∧ x ≤ 18446744073709551615
  nil : a = none → c = 0
  cell : ∀ x, a = some x → ∀ i, i < n → w.cell? (x.add i) = some (.int .u64 (xs.getD i 0))

theorem getD_bd {xs : List Int} (h : ∀ x ∈ xs, 0 ≤ x ∧ x ≤ 18446744073709551615) (i : Nat) : 0 ≤ xs.getD i 0 ∧ xs.getD i 0 ≤ 18446744073709551615 := by
  by_cases hi : i < xs.length
  · rw [List.getD_eq_getElem?_getD, List.getElem?_eq_getElem hi]; exact h _ (List.getElem_mem hi)
  · rw [List.getD_eq_getElem?_getD, List.getElem?_eq_none (by omega)]; simp

theorem spot_none {w : World} {x : Addr} {v : Value} (h : w.cell? x = some v) : x.spot = none := by
  unfold World.cell? at h
  split at h
  · split at h
    · cases h
    · rename_i hs; cases hx : x.spot <;> simp_all
  · cases h

theorem Rd.at {w : World} {a : Option Addr} {n c : Nat} {xs : List Int} (h : Rd w a n c xs) {k : Nat} (hk : k < n) :
    ∃ b o, a = some ⟨b, o, none⟩ ∧ b < w.heap.size ∧ ∀ i, i < n → w.cell? ⟨b, o + i, none⟩ = some (.int .u64 (xs.getD i 0)) := by
  cases ha : a with
  | none => have := h.nil ha; have := h.cap; omega
  | some x =>
    have h0 := h.cell x ha 0 (by omega)
    have hs : x.spot = none := by
      have := spot_none h0
      unfold Addr.add at this
      split at this <;> simp_all
    obtain ⟨b, o, s⟩ := x
    simp only at hs
    subst hs
    refine ⟨b, o, rfl, ?_, fun i hi => by have := h.cell _ ha i hi; rwa [Addr.add_lit] at this⟩
    have := World.block_lt_of_cell? w _ h0
    rwa [Addr.add_lit] at this

/-- One number of it, by a name of its own. -/
theorem Rd.one {w : World} {a : Option Addr} {n c : Nat} {xs : List Int} (h : Rd w a n c xs) {k : Nat} (hk : k < n) :
    ∃ b o x, a = some ⟨b, o, none⟩ ∧ b < w.heap.size ∧ Hid (xs.getD k 0 = x) ∧ 0 ≤ x ∧ x ≤ 18446744073709551615 ∧ w.cell? ⟨b, o + k, none⟩ = some (.int .u64 x) := by
  obtain ⟨b, o, ha, hb, hc⟩ := h.at hk
  have := getD_bd h.bd k
  exact ⟨b, o, _, ha, hb, rfl, this.1, this.2, hc k hk⟩

theorem Rd.below {w w' : World} {a : Option Addr} {n c : Nat} {xs : List Int} (h : Rd w a n c xs) (hb : Below w.heap.size w w') : Rd w' a n c xs := by
  refine ⟨h.len, h.cap, h.max, h.bd, h.nil, fun x hx i hi => ?_⟩
  have := h.cell x hx i hi
  rw [hb.cell (World.block_lt_of_cell? w _ this)]
  exact this

theorem Rd.drew {w : World} {a : Option Addr} {n c : Nat} {xs : List Int} (h : Rd w a n c xs) : Rd w.drew a n c xs := ⟨h.len, h.cap, h.max, h.bd, h.nil, h.cell⟩
theorem Rd.drewN {w : World} {a : Option Addr} {n c : Nat} {xs : List Int} (h : Rd w a n c xs) (q : Nat) : Rd (w.drewN q) a n c xs := ⟨h.len, h.cap, h.max, h.bd, h.nil, h.cell⟩
theorem Rd.grown {w w' : World} {a : Option Addr} {n c : Nat} {xs : List Int} {r : Option Nat} (h : Rd w a n c xs) (hg : w.grownBy w' r) (hne : ∀ x, a = some x → some x.block ≠ r) : Rd w' a n c xs := by
  refine ⟨h.len, h.cap, h.max, h.bd, h.nil, fun x hx i hi => ?_⟩
  refine hg.cell (h.cell x hx i hi) ?_
  have : (x.add i).block = x.block := by unfold Addr.add; split <;> rfl
  rw [this]
  exact hne x hx

/-- The whole row g holds the numbers L; it may be written. -/
def Blk (w : World) (g : Nat) (L : List Int) : Prop := w.heap[g]? = some (.cells (L.map (Value.int .u64)).toArray 23 (0, 0))

theorem Blk.lt {w : World} {g : Nat} {L : List Int} (h : Blk w g L) : g < w.heap.size := (Array.getElem?_eq_some_iff.1 h).1
theorem Blk.cell {w : World} {g : Nat} {L : List Int} (h : Blk w g L) {i : Nat} (hi : i < L.length) : w.cell? ⟨g, i, none⟩ = some (.int .u64 (L.getD i 0)) := by
  rw [cell_of_row w g i _ _ (0, 0) h]
  simp [List.getElem?_eq_getElem hi]
theorem Blk.frozen {w : World} {g : Nat} {L : List Int} (h : Blk w g L) (i : Nat) : w.frozen? ⟨g, i, none⟩ = false := frozen_of_row w g i _ _ h
theorem Blk.set {w : World} {g : Nat} {L : List Int} (h : Blk w g L) (i : Nat) (v : Int) : Blk (w.setCell ⟨g, i, none⟩ (.int .u64 v)) g (L.set i v) := by
  have := heap_setCell_same w g i _ _ (.int .u64 v) h
  unfold Blk
  rw [this]
  simp [List.map_set]
theorem grown_set (w : World) (g i : Nat) (v : Value) : w.grownBy (w.setCell ⟨g, i, none⟩ v) (some g) :=
  ⟨rfl, rfl, rfl, by simp, fun k _ hk => heap_setCell_other w ⟨g, i, none⟩ k v (fun e => hk (by simp [e]))⟩
theorem grown_trans {a b c : World} {r : Option Nat} (h : a.grownBy b r) (k : b.grownBy c r) : a.grownBy c r :=
  ⟨k.os.trans h.os, k.tape.trans h.tape, k.output.trans h.output, Nat.le_trans h.size k.size, fun i hi hr => (k.block i (Nat.lt_of_lt_of_le hi h.size) hr).trans (h.block i hi hr)⟩
theorem grown_drew {a b : World} {r : Option Nat} (h : a.grownBy b r) : a.grownBy b.drew r := ⟨h.os, h.tape, h.output, h.size, h.block⟩
theorem Blk.below {w w' : World} {B g : Nat} {L : List Int} (h : Blk w g L) (hb : Below B w w') (hg : g < B) : Blk w' g L := by
  unfold Blk; rw [hb.block g hg]; exact h
theorem Blk.grown {w w' : World} {g : Nat} {r : Option Nat} {L : List Int} (h : Blk w g L) (hb : w.grownBy w' r) (hg : some g ≠ r) : Blk w' g L := by
  unfold Blk; rw [hb.block g h.lt hg]; exact h
theorem Blk.rd {w : World} {g : Nat} {L : List Int} (h : Blk w g L) (o n c : Nat) (hc : n ≤ c) (hm : c ≤ maxLen) (hn : o + n ≤ L.length) (hL : ∀ x ∈ L, 0 ≤ x ∧ x ≤ 18446744073709551615) : Rd w (some ⟨g, o, none⟩) n c ((L.drop o).take n) := by
  refine ⟨by simp; omega, hc, hm, fun x hx => hL x (List.mem_of_mem_drop (List.mem_of_mem_take hx)), by simp, fun x hx i hi => ?_⟩
  obtain rfl := Option.some.inj hx
  rw [Addr.add_lit, h.cell (by omega)]
  congr 2
  simp [hi]
theorem Blk.whole {w : World} {g : Nat} {L : List Int} (h : Blk w g L) (n : Nat) (hn : n = L.length) (hm : n ≤ maxLen) (hL : ∀ x ∈ L, 0 ≤ x ∧ x ≤ 18446744073709551615) : Rd w (some ⟨g, 0, none⟩) n n L := by
  have := h.rd 0 n n (Nat.le_refl _) hm (by omega) hL
  rwa [List.drop_zero, List.take_of_length_le (by omega)] at this
theorem Blk.made {w : World} {base g n : Nat} (h : w.ownsRow base 23 1 (.slice (some ⟨g, 0, none⟩) n n) n (madeCells (Value.int .u64 0).cells (n * 1)).toList) : Blk w g (List.replicate n 0) := by
  rcases h.2 with ⟨h', _⟩ | ⟨g', cap', cur, h', _, hg, _, _, hs, htake⟩
  · simp at h'
  · simp only [Value.slice.injEq, Option.some.injEq, Addr.mk.injEq, and_true, true_and] at h'
    obtain ⟨rfl, rfl⟩ := h'
    have e : (Value.int IntKind.u64 0).cells = #[Value.int .u64 0] := rfl
    rw [e, Nat.mul_one, toList_madeCells_one] at htake
    unfold Blk
    rw [hg]
    congr 2
    rw [List.take_of_length_le (by simp at hs; simp [hs])] at htake
    have : cur = (List.replicate n (Value.int .u64 0)).toArray := by rw [← htake]
    rw [this]
    simp

/-- What append has gathered reads as the numbers that it gathered. -/
theorem Rd.own {w : World} {base n : Nat} {v : Value} {xs : List Int} (h : w.ownsRow base 23 1 v n (xs.map (Value.int .u64))) (hx : ∀ x ∈ xs, 0 ≤ x ∧ x ≤ 18446744073709551615) :
    ∃ a c, v = .slice a n c ∧ Rd w a n c xs ∧ ∀ x, a = some x → base ≤ x.block := by
  have hl : xs.length = n := by simpa using h.1
  rcases h.2 with ⟨rfl, rfl⟩ | ⟨g, cap, cur, rfl, hb, hg, h1, h2, hs, ht⟩
  · exact ⟨none, 0, rfl, ⟨hl, Nat.le_refl _, Nat.zero_le _, hx, fun _ => rfl, by simp⟩, by simp⟩
  · refine ⟨_, _, rfl, ⟨hl, h1, h2, hx, by simp, fun x hx i hi => ?_⟩, fun x hx => by obtain rfl := Option.some.inj hx; exact hb⟩
    obtain rfl := Option.some.inj hx
    have := h.cells (g := g) rfl i (.int .u64 (xs.getD i 0)) (by simp [List.getElem?_eq_getElem (show i < xs.length by omega)])
    exact this

/-- A slice that the call itself gathers, and one number more. -/
theorem wpList_app1 {P : Program} {T E : TypeId} (hT : P.underlying T = some (.slice E)) (info : (P.info? E).map (fun i => (i.zero, i.size, i.bytes)) = some (some (.int .u64 0), 1, 8))
    (w : World) {ops : Array Oper} {rest : List Oper} {o : Oper} {a : Act} {Q : Exit → Act → World → Prop} (hgd : o.guard = none) (s x : Operand)
    (ho : o.op = .call { callee := .builtin .append, args := #[s, x], argTypes := #[T, T] })
    (base : Nat) (v : Value) (n : Nat) (xs : List Int) (hs : a.eval s = v) (hown : w.ownsRow base E 1 v n (xs.map (Value.int .u64))) (y : Int) (hx : a.eval x = .slice (some ⟨w.heap.size, 0, none⟩) 1 1)
    (hn : n ≤ 1000000) (hbase : base ≤ w.heap.size)
    (h : ∀ v' w', w'.ownsRow base E 1 v' (n + 1) ((xs ++ [y]).map (Value.int .u64)) → Below base w w' → wpList P ops Q rest (a.put o.dst v') w') : wpList P ops Q (o :: rest) a (w.alloc (.cells #[.int .u64 y] E)) := by
  obtain ⟨i0, hi, hz0, hz1, hz2⟩ := info_parts info
  refine wpList_append_own _ hgd s x T ho base E i0 (.int .u64 0) 1 8 hT hi hz0 hz1 hz2 rfl (by decide) v n _ hs (hown.alloc _) ⟨w.heap.size, 0, none⟩ 1 1 [.int .u64 y] hx rfl ?_ ?_ (by unfold maxLen; omega) (by omega) (by simp; omega) ?_
  · intro j u hj
    match j, hj with
    | 0, hj => simp at hj; subst hj; simp [Addr.add]
  · intro u hu; simp at hu; subst hu; rfl
  · intro v' w' hown' hgrow _
    refine h v' w' (by rw [List.map_append]; exact hown') ?_
    exact ((Below.refl _ _).alloc hbase _).grown hgrow (by simp; omega) (fun k hk => (hown.lt k hk).1)

theorem grown_below {w w' : World} (h : Below w.heap.size w w') (r : Option Nat) : w.grownBy w' r := ⟨h.os, h.tape, h.output, h.size, fun k hk _ => h.block k hk⟩
theorem own_below {w w' : World} {base n : Nat} {E : TypeId} {v : Value} {xs : List Value} (h : w.ownsRow base E 1 v n xs) (hb : Below w.heap.size w w') : w'.ownsRow base E 1 v n xs :=
  h.kept (grown_below hb none) (by cases hv : v.ownBlock <;> simp)

theorem below_grown {w0 w w' : World} {g : Nat} (h : Below w0.heap.size w0 w) (hg : w.grownBy w' (some g)) (hl : w0.heap.size ≤ g) : Below w0.heap.size w0 w' :=
  h.grown hg h.size (fun k hk => by simp at hk; omega)
/-- A list that the call gathers, of whatever one-cell elements, and one more. -/
theorem wpList_appV {P : Program} {T E : TypeId} {z : Value} {by_ : Nat} (hT : P.underlying T = some (.slice E)) (info : (P.info? E).map (fun i => (i.zero, i.size, i.bytes)) = some (some z, 1, by_)) (hz : z.cells.size = 1) (hby : by_ ≤ 100)
    (w : World) {ops : Array Oper} {rest : List Oper} {o : Oper} {a : Act} {Q : Exit → Act → World → Prop} (hgd : o.guard = none) (s x : Operand)
    (ho : o.op = .call { callee := .builtin .append, args := #[s, x], argTypes := #[T, T] })
    (base : Nat) (v : Value) (n : Nat) (xs : List Value) (hs : a.eval s = v) (hown : w.ownsRow base E 1 v n xs) (y : Value) (hy : y.oneCell' = true) (hx : a.eval x = .slice (some ⟨w.heap.size, 0, none⟩) 1 1)
    (hn : n ≤ 1000000) (hbase : base ≤ w.heap.size)
    (h : ∀ v' w', w'.ownsRow base E 1 v' (n + 1) (xs ++ [y]) → w.grownBy w' v.ownBlock → (v'.ownBlock = v.ownBlock ∨ ∃ k, v'.ownBlock = some k ∧ w.heap.size ≤ k) → wpList P ops Q rest (a.put o.dst v') w') :
    wpList P ops Q (o :: rest) a (w.alloc (.cells #[y] E)) := by
  obtain ⟨i0, hi, hz0, hz1, hz2⟩ := info_parts info
  refine wpList_append_own_at _ hgd s x T ho base E i0 z 1 by_ hT hi hz0 hz1 hz2 hz (by decide) v n _ hs (hown.alloc _) ⟨w.heap.size, 0, none⟩ 1 1 [y] hx rfl (cell_one_new _ _ _) (fun u hu => by simp at hu; subst hu; exact hy) (by unfold maxLen; omega) ?_ (by simp; omega) ?_
  · have : (n + 1) * by_ ≤ 1000001 * 100 := Nat.mul_le_mul (by omega) hby
    omega
  · intro v' w' hown' hgrow _ hat
    refine h v' w' hown' ⟨hgrow.os, hgrow.tape, hgrow.output, ?_, fun k hk hne => ?_⟩ ?_
    · have := hgrow.size; simp at this; omega
    · rw [hgrow.block k (by simp; omega) hne]; exact Below.heap_alloc _ _ _ hk
    · rcases hat with hat | hat
      · exact .inl hat
      · exact .inr ⟨_, hat, by simp⟩

theorem own_slice {w : World} {base n : Nat} {E : TypeId} {v : Value} {xs : List Value} (h : w.ownsRow base E 1 v n xs) : ∃ a c, v = .slice a n c ∧ n ≤ c := by
  rcases h.2 with ⟨rfl, rfl⟩ | ⟨g, cap, cur, rfl, _, _, hc, _⟩
  · exact ⟨none, 0, rfl, Nat.le_refl _⟩
  · exact ⟨_, _, rfl, hc⟩
/-- One element of it. -/
theorem own_at {w : World} {base n c : Nat} {E : TypeId} {a : Option Addr} {xs : List Value} (h : w.ownsRow base E 1 (.slice a n c) n xs) {k : Nat} (hk : k < n) :
    ∃ g u, a = some ⟨g, 0, none⟩ ∧ base ≤ g ∧ g < w.heap.size ∧ xs[k]? = some u ∧ w.cell? ⟨g, k, none⟩ = some u := by
  have hl : xs.length = n := by simpa using h.1
  rcases h.2 with ⟨e, rfl⟩ | ⟨g, cap, cur, e, hb, hg, h1, h2, hs, ht⟩
  · omega
  · simp only [Value.slice.injEq] at e
    obtain ⟨rfl, _, rfl⟩ := e
    have := h.cells (g := g) rfl k (xs[k]'(by omega)) (by simp [List.getElem?_eq_getElem (show k < xs.length by omega)])
    rw [Addr.add_lit] at this
    exact ⟨g, _, rfl, hb, (Array.getElem?_eq_some_iff.1 hg).1, List.getElem?_eq_getElem (by omega), by simpa using this⟩

theorem own_set {w : World} {B n c g : Nat} {E : TypeId} {xs : List Value} (h : w.ownsRow B E 1 (.slice (some ⟨g, 0, none⟩) n c) n xs) (i : Nat) (u : Value) : (w.setCell ⟨g, i, none⟩ u).ownsRow B E 1 (.slice (some ⟨g, 0, none⟩) n c) n (xs.set i u) := by
  refine ⟨by rw [List.length_set]; exact h.1, .inr ?_⟩
  rcases h.2 with ⟨e, _⟩ | ⟨g', cap, cur, e, hb, hg, h1, h2, hs, ht⟩
  · simp at e
  · simp only [Value.slice.injEq, Option.some.injEq, Addr.mk.injEq, and_true, true_and] at e
    obtain ⟨rfl, rfl⟩ := e
    refine ⟨g, c, _, rfl, hb, heap_setCell_same w g i _ _ _ hg, h1, h2, by simpa using hs, ?_⟩
    rw [← ht]
    simp [List.take_set]

theorem own_frozen {w : World} {B n c g : Nat} {E : TypeId} {xs : List Value} (h : w.ownsRow B E 1 (.slice (some ⟨g, 0, none⟩) n c) n xs) (i : Nat) : w.frozen? ⟨g, i, none⟩ = false := by
  rcases h.2 with ⟨e, _⟩ | ⟨g', cap, cur, e, hb, hg, _⟩
  · simp at e
  · simp only [Value.slice.injEq, Option.some.injEq, Addr.mk.injEq, and_true, true_and] at e
    obtain ⟨rfl, rfl⟩ := e
    exact frozen_of_row w g i _ _ hg

theorem eql_nil {P : Program} (W : World) (t e : TypeId) (a : Addr) (l c : Nat) (h : P.underlying t = some (.slice e)) : (binOp .eql t (.slice (some a) l c) (.slice none 0 0)).run P W = .ok (.bool false) W := by
  simp only [binOp]
  simp [run_equal_slice_nil W t e (some a) l c h]

/-- Columns as cells. -/
def ins (L : List Nat) : List Value := L.map fun (n : Nat) => Value.int .i64 (n : Int)
theorem ins_len (L : List Nat) : (ins L).length = L.length := by simp [ins]
theorem ins_snoc (L : List Nat) (n : Nat) : ins L ++ [.int .i64 (n : Int)] = ins (L ++ [n]) := by simp [ins]
theorem ins_at {w : World} {base n c : Nat} {E : TypeId} {a : Option Addr} {L : List Nat} (h : w.ownsRow base E 1 (.slice a n c) n (ins L)) {k : Nat} (hk : k < n) :
    ∃ g, a = some ⟨g, 0, none⟩ ∧ base ≤ g ∧ g < w.heap.size ∧ w.cell? ⟨g, k, none⟩ = some (.int .i64 ((L.getD k 0 : Nat) : Int)) := by
  have hl : L.length = n := by have := h.1; rw [ins_len] at this; omega
  obtain ⟨g, u, h1, h2, h3, h4, h5⟩ := own_at h hk
  refine ⟨g, h1, h2, h3, ?_⟩
  have : (ins L)[k]? = some (.int .i64 ((L.getD k 0 : Nat) : Int)) := by simp [ins, List.getElem?_eq_getElem (show k < L.length by omega)]
  rw [this] at h4
  rw [h5, ← Option.some.inj h4]
end
section
open Crm Go.RowKit
/-- The slice reads as the rows rs. -/
structure RdR (w : World) (a : Option Addr) (n c : Nat) (rs : List (List Int)) : Prop where
  len : rs.length = n
  cap : n ≤ c
  max : c ≤ maxLen
  nil : a = none → c = 0
  row : ∀ x, a = some x → ∀ i, i < n → ∃ ai ci, w.cell? (x.add i) = some (.slice ai (rs.getD i []).length ci) ∧ Rd w ai (rs.getD i []).length ci (rs.getD i [])

theorem RdR.at {w : World} {a : Option Addr} {n c : Nat} {rs : List (List Int)} (h : RdR w a n c rs) {k : Nat} (hk : k < n) :
    ∃ b o, a = some ⟨b, o, none⟩ ∧ b < w.heap.size ∧ ∀ i, i < n → ∃ ai ci, w.cell? ⟨b, o + i, none⟩ = some (.slice ai (rs.getD i []).length ci) ∧ Rd w ai (rs.getD i []).length ci (rs.getD i []) := by
  cases ha : a with
  | none => have := h.nil ha; have := h.cap; omega
  | some x =>
    obtain ⟨a0, c0, h0, _⟩ := h.row x ha 0 (by omega)
    have hs : x.spot = none := by
      have := spot_none h0
      unfold Addr.add at this
      split at this <;> simp_all
    obtain ⟨b, o, s⟩ := x
    simp only at hs
    subst hs
    refine ⟨b, o, rfl, ?_, fun i hi => by
      obtain ⟨ai, ci, h1, h2⟩ := h.row _ ha i hi
      rw [Addr.add_lit] at h1
      exact ⟨ai, ci, h1, h2⟩⟩
    have := World.block_lt_of_cell? w _ h0
    rwa [Addr.add_lit] at this

/-- One row of it, by names of its own. -/
theorem RdR.one {w : World} {a : Option Addr} {n c : Nat} {rs : List (List Int)} (h : RdR w a n c rs) {k : Nat} (hk : k < n) :
    ∃ b o ai ni ci row, a = some ⟨b, o, none⟩ ∧ b < w.heap.size ∧ Hid (rs.getD k [] = row) ∧ w.cell? ⟨b, o + k, none⟩ = some (.slice ai ni ci) ∧ Rd w ai ni ci row := by
  obtain ⟨b, o, ha, hb, hr⟩ := h.at hk
  obtain ⟨ai, ci, h1, h2⟩ := hr k hk
  exact ⟨b, o, ai, _, ci, _, ha, hb, rfl, h1, h2⟩

theorem RdR.below {w w' : World} {a : Option Addr} {n c : Nat} {rs : List (List Int)} (h : RdR w a n c rs) (hb : Below w.heap.size w w') : RdR w' a n c rs := by
  refine ⟨h.len, h.cap, h.max, h.nil, fun x hx i hi => ?_⟩
  obtain ⟨ai, ci, h1, h2⟩ := h.row x hx i hi
  exact ⟨ai, ci, by rw [hb.cell (World.block_lt_of_cell? w _ h1)]; exact h1, h2.below hb⟩

/-- The numbers of rows, by row and column. -/
def mat (rs : List (List Int)) (i j : Nat) : Int := (rs.getD i []).getD j 0
end
end Go.Proofs.Ytljlioglpaogdad
