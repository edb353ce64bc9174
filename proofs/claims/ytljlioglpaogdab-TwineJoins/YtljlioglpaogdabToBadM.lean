/- Slices of numbers that are read (Rd), rows of the call's own whose every number is known (Blk), and how both stand when the world goes on. · Slices of shares that are read. · NEWTON: a polynomial made share by share. Plain but for the list of shares. · Shares of a secret: plain facts. · Slices of rows of a dealing in two variables (api.Row) that are read. · Lists that the call gathers: of columns, of rows; one more. · Dealings in two variables: what Pairs and Join tell: plain facts. · Who is wrong: plain facts. -/
import Derived.WalkKit
import Derived.WalkSpells
import Derived.WalkLawsBesides
import Derived.Deep.Draws
import Derived.Test.YtljlioglpaogdabToGaussM
import Derived.Maps.AppendAt
namespace Go.Proofs.Ytljlioglpaogdab
set_option linter.unusedVariables false
set_option maxRecDepth 100000
set_option maxHeartbeats 8000000
section
open Go.RowKit
/-- The slice reads as the numbers xs. -/
structure Rd (w : World) (a : Option Addr) (n c : Nat) (xs : List Int) : Prop where
  len : xs.length = n
  cap : n ≤ c
  max : c ≤ maxLen
  bd : ∀ x ∈ xs, 0 ≤ x ∧ x ≤ 18446744073709551615
  nil : a = none → c = 0
  cell : ∀ x, a = some x → ∀ i, i < n → w.cell? (x.add i) = some (.int .u64 (xs.getD i 0))

theorem getD_bd {xs : List Int} (h : ∀ x ∈ xs, 0 ≤ x ∧ x ≤ 18446744073709551615) (i : Nat) : 0 ≤ xs.getD i 0 ∧ xs.getD i 0 ≤ 18446744073709551615 := by
  by_cases hi : i < xs.length
  · rw [List.getD_eq_getElem?_getD, List.getElem?_eq_getElem hi]; exact h _ (List.getElem_mem hi)
  · rw [List.getD_eq_getElem?_getD, List.getElem?_eq_none (by omega)]; simp

theorem spot_none {w : World} {x : Addr} {v : Value} (h : w.cell? x = some v) : x.spot = none := by
  unfold World.cell? at h
  split at h
  · split at h
    · cases h
    · rename_i hs; cases hx : x.spot <;> simp_all
  · cases h

theorem Rd.at {w : World} {a : Option Addr} {n c : Nat} {xs : List Int} (h : Rd w a n c xs) {k : Nat} (hk : k < n) :
    ∃ b o, a = some ⟨b, o, none⟩ ∧ b < w.heap.size ∧ ∀ i, i < n → w.cell? ⟨b, o + i, none⟩ = some (.int .u64 (xs.getD i 0)) := by
  cases ha : a with
  | none => have := h.nil ha; have := h.cap; omega
  | some x =>
    have h0 := h.cell x ha 0 (by omega)
    have hs : x.spot = none := by
      have := spot_none h0
      unfold Addr.add at this
      split at this <;> simp_all
    obtain ⟨b, o, s⟩ := x
    simp only at hs
    subst hs
    refine ⟨b, o, rfl, ?_, fun i hi => by have := h.cell _ ha i hi; rwa [Addr.add_lit] at this⟩
    have := World.block_lt_of_cell? w _ h0
    rwa [Addr.add_lit] at this

/-- One number of it, by a name of its own. -/
theorem Rd.one {w : World} {a : Option Addr} {n c : Nat} {xs : List Int} (h : Rd w a n c xs) {k : Nat} (hk : k < n) :
    ∃ b o x, a = some ⟨b, o, none⟩ ∧ b < w.heap.size ∧ Hid (xs.getD k 0 = x) ∧ 0 ≤ x ∧ x ≤ 18446744073709551615 ∧ w.cell? ⟨b, o + k, none⟩ = some (.int .u64 x) := by
  obtain ⟨b, o, ha, hb, hc⟩ := h.at hk
  have := getD_bd h.bd k
  exact ⟨b, o, _, ha, hb, rfl, this.1, this.2, hc k hk⟩

theorem Rd.below {w w' : World} {a : Option Addr} {n c : Nat} {xs : List Int} (h : Rd w a n c xs) (hb : Below w.heap.size w w') : Rd w' a n c xs := by
  refine ⟨h.len, h.cap, h.max, h.bd, h.nil, fun x hx i hi => ?_⟩
  have := h.cell x hx i hi
  rw [hb.cell (World.block_lt_of_cell? w _ this)]
  exact this

theorem Rd.drew {w : World} {a : Option Addr} {n c : Nat} {xs : List Int} (h : Rd w a n c xs) : Rd w.drew a n c xs := ⟨h.len, h.cap, h.max, h.bd, h.nil, h.cell⟩
theorem Rd.drewN {w : World} {a : Option Addr} {n c : Nat} {xs : List Int} (h : Rd w a n c xs) (q : Nat) : Rd (w.drewN q) a n c xs := ⟨h.len, h.cap, h.max, h.bd, h.nil, h.cell⟩
theorem Rd.grown {w w' : World} {a : Option Addr} {n c : Nat} {xs : List Int} {r : Option Nat} (h : Rd w a n c xs) (hg : w.grownBy w' r) (hne : ∀ x, a = some x → some x.block ≠ r) : Rd w' a n c xs := by
  refine ⟨h.len, h.cap, h.max, h.bd, h.nil, fun x hx i hi => ?_⟩
  refine hg.cell (h.cell x hx i hi) ?_
  have : (x.add i).block = x.block := by unfold Addr.add; split <;> rfl
  rw [this]
  exact hne x hx

/-- The whole row g holds the numbers L; it may be written. -/
def Blk (w : World) (g : Nat) (L : List Int) : Prop := w.heap[g]? = some (.cells (L.map (Value.int .u64)).toArray 28 (0, 0))

theorem Blk.lt {w : World} {g : Nat} {L : List Int} (h : Blk w g L) : g < w.heap.size := (Array.getElem?_eq_some_iff.1 h).1
theorem Blk.cell {w : World} {g : Nat} {L : List Int} (h : Blk w g L) {i : Nat} (hi : i < L.length) : w.cell? ⟨g, i, none⟩ = some (.int .u64 (L.getD i 0)) := by
  rw [cell_of_row w g i _ _ (0, 0) h]
  simp [List.getElem?_eq_getElem hi]
theorem Blk.frozen {w : World} {g : Nat} {L : List Int} (h : Blk w g L) (i : Nat) : w.frozen? ⟨g, i, none⟩ = false := frozen_of_row w g i _ _ h
theorem Blk.set {w : World} {g : Nat} {L : List Int} (h : Blk w g L) (i : Nat) (v : Int) : Blk (w.setCell ⟨g, i, none⟩ (.int .u64 v)) g (L.set i v) := by
  have := heap_setCell_same w g i _ _ (.int .u64 v) h
  unfold Blk
  rw [this]
  simp [List.map_set]
theorem grown_set (w : World) (g i : Nat) (v : Value) : w.grownBy (w.setCell ⟨g, i, none⟩ v) (some g) :=
  ⟨rfl, rfl, rfl, by simp, fun k _ hk => heap_setCell_other w ⟨g, i, none⟩ k v (fun e => hk (by simp [e]))⟩
theorem grown_trans {a b c : World} {r : Option Nat} (h : a.grownBy b r) (k : b.grownBy c r) : a.grownBy c r :=
  ⟨k.os.trans h.os, k.tape.trans h.tape, k.output.trans h.output, Nat.le_trans h.size k.size, fun i hi hr => (k.block i (Nat.lt_of_lt_of_le hi h.size) hr).trans (h.block i hi hr)⟩
theorem grown_drew {a b : World} {r : Option Nat} (h : a.grownBy b r) : a.grownBy b.drew r := ⟨h.os, h.tape, h.output, h.size, h.block⟩
theorem Blk.below {w w' : World} {B g : Nat} {L : List Int} (h : Blk w g L) (hb : Below B w w') (hg : g < B) : Blk w' g L := by
  unfold Blk; rw [hb.block g hg]; exact h
theorem Blk.grown {w w' : World} {g : Nat} {r : Option Nat} {L : List Int} (h : Blk w g L) (hb : w.grownBy w' r) (hg : some g ≠ r) : Blk w' g L := by
  unfold Blk; rw [hb.block g h.lt hg]; exact h
theorem Blk.rd {w : World} {g : Nat} {L : List Int} (h : Blk w g L) (o n c : Nat) (hc : n ≤ c) (hm : c ≤ maxLen) (hn : o + n ≤ L.length) (hL : ∀ x ∈ L, 0 ≤ x ∧ x ≤ 18446744073709551615) : Rd w (some ⟨g, o, none⟩) n c ((L.drop o).take n) := by
  refine ⟨by simp; omega, hc, hm, fun x hx => hL x (List.mem_of_mem_drop (List.mem_of_mem_take hx)), by simp, fun x hx i hi => ?_⟩
  obtain rfl := Option.some.inj hx
  rw [Addr.add_lit, h.cell (by omega)]
  congr 2
  simp [hi]
theorem Blk.whole {w : World} {g : Nat} {L : List Int} (h : Blk w g L) (n : Nat) (hn : n = L.length) (hm : n ≤ maxLen) (hL : ∀ x ∈ L, 0 ≤ x ∧ x ≤ 18446744073709551615) : Rd w (some ⟨g, 0, none⟩) n n L := by
  have := h.rd 0 n n (Nat.le_refl _) hm (by omega) hL
  rwa [List.drop_zero, List.take_of_length_le (by omega)] at this
theorem Blk.made {w : World} {base g n : Nat} (h : w.ownsRow base 28 1 (.slice (some ⟨g, 0, none⟩) n n) n (madeCells (Value.int .u64 0).cells (n * 1)).toList) : Blk w g (List.replicate n 0) := by
  rcases h.2 with ⟨h', _⟩ | ⟨g', cap', cur, h', _, hg, _, _, hs, htake⟩
  · simp at h'
  · simp only [Value.slice.injEq, Option.some.injEq, Addr.mk.injEq, and_true, true_and] at h'
    obtain ⟨rfl, rfl⟩ := h'
    have e : (Value.int IntKind.u64 0).cells = #[Value.int .u64 0] := rfl
    rw [e, Nat.mul_one, toList_madeCells_one] at htake
    unfold Blk
    rw [hg]
    congr 2
    rw [List.take_of_length_le (by simp at hs; simp [hs])] at htake
    have : cur = (List.replicate n (Value.int .u64 0)).toArray := by rw [← htake]
    rw [this]
    simp

/-- What append has gathered reads as the numbers that it gathered. -/
theorem Rd.own {w : World} {base n : Nat} {v : Value} {xs : List Int} (h : w.ownsRow base 28 1 v n (xs.map (Value.int .u64))) (hx : ∀ x ∈ xs, 0 ≤ x ∧ x ≤ 18446744073709551615) :
    ∃ a c, v = .slice a n c ∧ Rd w a n c xs ∧ ∀ x, a = some x → base ≤ x.block := by
  have hl : xs.length = n := by simpa using h.1
  rcases h.2 with ⟨rfl, rfl⟩ | ⟨g, cap, cur, rfl, hb, hg, h1, h2, hs, ht⟩
  · exact ⟨none, 0, rfl, ⟨hl, Nat.le_refl _, Nat.zero_le _, hx, fun _ => rfl, by simp⟩, by simp⟩
  · refine ⟨_, _, rfl, ⟨hl, h1, h2, hx, by simp, fun x hx i hi => ?_⟩, fun x hx => by obtain rfl := Option.some.inj hx; exact hb⟩
    obtain rfl := Option.some.inj hx
    have := h.cells (g := g) rfl i (.int .u64 (xs.getD i 0)) (by simp [List.getElem?_eq_getElem (show i < xs.length by omega)])
    exact this

/-- A slice that the call itself gathers, and one number more. -/
theorem wpList_app1 {P : Program} {T E : TypeId} (hT : P.underlying T = some (.slice E)) (info : (P.info? E).map (fun i => (i.zero, i.size, i.bytes)) = some (some (.int .u64 0), 1, 8))
    (w : World) {ops : Array Oper} {rest : List Oper} {o : Oper} {a : Act} {Q : Exit → Act → World → Prop} (hgd : o.guard = none) (s x : Operand)
    (ho : o.op = .call { callee := .builtin .append, args := #[s, x], argTypes := #[T, T] })
    (base : Nat) (v : Value) (n : Nat) (xs : List Int) (hs : a.eval s = v) (hown : w.ownsRow base E 1 v n (xs.map (Value.int .u64))) (y : Int) (hx : a.eval x = .slice (some ⟨w.heap.size, 0, none⟩) 1 1)
    (hn : n ≤ 1000000) (hbase : base ≤ w.heap.size)
    (h : ∀ v' w', w'.ownsRow base E 1 v' (n + 1) ((xs ++ [y]).map (Value.int .u64)) → Below base w w' → wpList P ops Q rest (a.put o.dst v') w') : wpList P ops Q (o :: rest) a (w.alloc (.cells #[.int .u64 y] E)) := by
  obtain ⟨i0, hi, hz0, hz1, hz2⟩ := info_parts info
  refine wpList_append_own _ hgd s x T ho base E i0 (.int .u64 0) 1 8 hT hi hz0 hz1 hz2 rfl (by decide) v n _ hs (hown.alloc _) ⟨w.heap.size, 0, none⟩ 1 1 [.int .u64 y] hx rfl ?_ ?_ (by unfold maxLen; omega) (by omega) (by simp; omega) ?_
  · intro j u hj
    match j, hj with
    | 0, hj => simp at hj; subst hj; simp [Addr.add]
  · intro u hu; simp at hu; subst hu; rfl
  · intro v' w' hown' hgrow _
    refine h v' w' (by rw [List.map_append]; exact hown') ?_
    exact ((Below.refl _ _).alloc hbase _).grown hgrow (by simp; omega) (fun k hk => (hown.lt k hk).1)

theorem grown_below {w w' : World} (h : Below w.heap.size w w') (r : Option Nat) : w.grownBy w' r := ⟨h.os, h.tape, h.output, h.size, fun k hk _ => h.block k hk⟩
theorem own_below {w w' : World} {base n : Nat} {E : TypeId} {v : Value} {xs : List Value} (h : w.ownsRow base E 1 v n xs) (hb : Below w.heap.size w w') : w'.ownsRow base E 1 v n xs :=
  h.kept (grown_below hb none) (by cases hv : v.ownBlock <;> simp)

theorem below_grown {w0 w w' : World} {g : Nat} (h : Below w0.heap.size w0 w) (hg : w.grownBy w' (some g)) (hl : w0.heap.size ≤ g) : Below w0.heap.size w0 w' :=
  h.grown hg h.size (fun k hk => by simp at hk; omega)
end
section
open Crm Go.RowKit
/-- The slice reads as the shares l: of each its At and its Y. -/
structure RdS (w : World) (a : Option Addr) (n c : Nat) (l : List (Int × Int)) : Prop where
  len : l.length = n
  cap : n ≤ c
  max : c ≤ maxLen
  bd : ∀ i, i < n → (-9223372036854775808 ≤ (l.getD i (0, 0)).1 ∧ (l.getD i (0, 0)).1 ≤ 9223372036854775807) ∧ 0 ≤ (l.getD i (0, 0)).2 ∧ (l.getD i (0, 0)).2 ≤ 18446744073709551615
  nil : a = none → c = 0
  cell : ∀ x, a = some x → ∀ i, i < n → w.cell? (x.add (i * 2)) = some (.int .i64 (l.getD i (0, 0)).1) ∧ w.cell? (x.add (i * 2 + 1)) = some (.int .u64 (l.getD i (0, 0)).2)

theorem RdS.at {w : World} {a : Option Addr} {n c : Nat} {l : List (Int × Int)} (h : RdS w a n c l) {k : Nat} (hk : k < n) :
    ∃ b o, a = some ⟨b, o, none⟩ ∧ b < w.heap.size ∧ ∀ i, i < n → w.cell? ⟨b, o + i * 2, none⟩ = some (.int .i64 (l.getD i (0, 0)).1) ∧ w.cell? ⟨b, o + i * 2 + 1, none⟩ = some (.int .u64 (l.getD i (0, 0)).2) := by
  cases ha : a with
  | none => have := h.nil ha; have := h.cap; omega
  | some x =>
    have h0 := (h.cell x ha 0 (by omega)).1
    have hs : x.spot = none := by
      have := spot_none h0
      unfold Addr.add at this
      split at this <;> simp_all
    obtain ⟨b, o, s⟩ := x
    simp only at hs
    subst hs
    refine ⟨b, o, rfl, ?_, fun i hi => by have := h.cell _ ha i hi; rwa [Addr.add_lit, Addr.add_lit, ← Nat.add_assoc] at this⟩
    have := World.block_lt_of_cell? w _ h0
    rwa [Addr.add_lit] at this

/-- One share of it, by names of its own. -/
theorem RdS.one {w : World} {a : Option Addr} {n c : Nat} {l : List (Int × Int)} (h : RdS w a n c l) {k : Nat} (hk : k < n) :
    ∃ b o x y, a = some ⟨b, o, none⟩ ∧ b < w.heap.size ∧ Hid ((l.getD k (0, 0)).1 = x) ∧ Hid ((l.getD k (0, 0)).2 = y) ∧ -9223372036854775808 ≤ x ∧ x ≤ 9223372036854775807 ∧ 0 ≤ y ∧ y ≤ 18446744073709551615 ∧ w.cell? ⟨b, o + k * 2, none⟩ = some (.int .i64 x) ∧ w.cell? ⟨b, o + k * 2 + 1, none⟩ = some (.int .u64 y) := by
  obtain ⟨b, o, ha, hb, hc⟩ := h.at hk
  have := h.bd k hk
  exact ⟨b, o, _, _, ha, hb, rfl, rfl, this.1.1, this.1.2, this.2.1, this.2.2, (hc k hk).1, (hc k hk).2⟩

theorem RdS.below {w w' : World} {a : Option Addr} {n c : Nat} {l : List (Int × Int)} (h : RdS w a n c l) (hb : Below w.heap.size w w') : RdS w' a n c l := by
  refine ⟨h.len, h.cap, h.max, h.bd, h.nil, fun x hx i hi => ?_⟩
  have := h.cell x hx i hi
  rw [hb.cell (World.block_lt_of_cell? w _ this.1), hb.cell (World.block_lt_of_cell? w _ this.2)]
  exact this

/-- The first k shares stand at places, no two at one. -/
def okk (l : List (Int × Int)) (k : Nat) : Prop := ∀ i, i < k → (1 ≤ (l.getD i (0, 0)).1 ∧ (l.getD i (0, 0)).1 ≤ 2147483646) ∧ ∀ j, j < i → (l.getD j (0, 0)).1 ≠ (l.getD i (0, 0)).1
theorem okk_zero (l : List (Int × Int)) : okk l 0 := fun i hi => by omega
theorem okk_succ {l : List (Int × Int)} {k : Nat} {x : Int} (h : okk l k) (hx : (l.getD k (0, 0)).1 = x) (h1 : 1 ≤ x) (h2 : x ≤ 2147483646) (h3 : ∀ j, j < k → (l.getD j (0, 0)).1 ≠ x) : okk l (k + 1) := by
  intro i hi
  by_cases e : i = k
  · subst e; rw [hx]; exact ⟨⟨h1, h2⟩, h3⟩
  · exact h i (by omega)
end
section
open Crm
structure NwI (l : List (Int × Int)) (n k : Nat) (S Z : List Int) : Prop where
  ls : S.length = n
  lz : Z.length = k + 1
  bs : ∀ x ∈ S, 0 ≤ x ∧ x ≤ 2147483646
  bz : ∀ x ∈ Z, 0 ≤ x ∧ x ≤ 2147483646
  s : ∀ j, j < k → nm (ev S (l.getD j (0, 0)).1) = nm (l.getD j (0, 0)).2
  z0 : ∀ j, j < k → nm (ev Z (l.getD j (0, 0)).1) = 0
  z1 : ∀ j, k ≤ j → j < n → nm (ev Z (l.getD j (0, 0)).1) ≠ 0

theorem nw_start (l : List (Int × Int)) (n : Nat) : NwI l n 0 (List.replicate n 0) [1] := by
  refine ⟨by simp, rfl, fun x hx => by rw [List.eq_of_mem_replicate hx]; omega, fun x hx => by rw [List.mem_singleton.1 hx]; omega, fun j hj => by omega, fun j hj => by omega, fun j _ _ => ?_⟩
  rw [ev, ev, Int.mul_zero]
  decide

theorem ats_apart {l : List (Int × Int)} {n i j : Nat} (h : okk l n) (hi : i < n) (hj : j < n) (hij : i ≠ j) : nm ((l.getD i (0, 0)).1 - (l.getD j (0, 0)).1) ≠ 0 := by
  have h1 := (h i hi).1
  have h2 := (h j hj).1
  have h3 : (l.getD i (0, 0)).1 ≠ (l.getD j (0, 0)).1 := by
    rcases Nat.lt_or_ge i j with hlt | hge
    · exact (h j hj).2 i hlt
    · exact fun e => (h i hi).2 j (by omega) e.symm
  unfold nm
  omega

theorem ev_pair (a b x : Int) : ev [a, b] x = a + x * b := by
  rw [ev, ev, ev, Int.mul_zero, Int.add_zero]

theorem nw_step {l : List (Int × Int)} {n k : Nat} {S Z : List Int} (h : NwI l n k S Z) (hk : k < n) (ho : okk l n) {x y t : Int} (hx : (l.getD k (0, 0)).1 = x) (hy : (l.getD k (0, 0)).2 = y)
    (ht : t = nm (nm (y - nm (ev S x)) * iv (nm (ev Z x)))) : NwI l n (k + 1) (addAt S 0 Z t (k + 1)) (cvl Z [nm (-x), 1]) := by
  have hE : nm (ev Z x) ≠ 0 := by rw [← hx]; exact h.z1 k (Nat.le_refl _) hk
  have hadd : ∀ u, nm (ev (addAt S 0 Z t (k + 1)) u) = nm (ev S u + t * ev Z u) := fun u => by rw [← h.lz]; exact addAt_ev S Z t u (by rw [h.lz, h.ls]; omega)
  have hmul : ∀ u, nm (ev (cvl Z [nm (-x), 1]) u) = nm (ev Z u * (u - x)) := fun u => by
    rw [cvl_ev]
    refine nm_mul_congr rfl ?_
    rw [ev_pair, Int.mul_one, nm_addl]
    congr 1; omega
  refine ⟨by rw [addAt_len, h.ls], by rw [cvl_len, h.lz]; simp, addAt_bd' h.bs _ _ _ _, cvl_bd _ _, ?_, ?_, ?_⟩
  · intro j hj
    rw [hadd]
    by_cases e : j = k
    · subst e
      rw [hx, hy]
      have h1 : nm (t * ev Z x) = nm (y - ev S x) := by
        rw [ht, nm_mull, Int.mul_assoc, iv_nm, ← nm_mulr, iv_mul hE, Int.mul_one, nm_nm, nm_subr]
      rw [nm_add_congr (c := ev S x) (d := y - ev S x) rfl h1]
      congr 1; omega
    · rw [nm_add_congr (c := ev S (l.getD j (0, 0)).1) (d := t * 0) rfl (nm_mul_congr rfl (h.z0 j (by omega))), Int.mul_zero, Int.add_zero]
      exact h.s j (by omega)
  · intro j hj
    rw [hmul]
    by_cases e : j = k
    · subst e
      rw [hx, Int.sub_self, Int.mul_zero]; rfl
    · rw [nm_mul_congr (c := 0) (h.z0 j (by omega)) rfl, Int.zero_mul]; rfl
  · intro j h1 h2 e
    rw [hmul] at e
    have h3 := nm_mul_zero e (h.z1 j (by omega) h2)
    rw [← hx] at h3
    exact ats_apart ho h2 hk (by omega) h3

/-- The places, one by one. -/
def ats (l : List (Int × Int)) : List Int := l.map Prod.fst
theorem ats_pair {l : List (Int × Int)} {n : Nat} (hl : l.length = n) (h : okk l n) : (ats l).Pairwise (fun a b => nm (a - b) ≠ 0) := by
  unfold ats
  rw [List.pairwise_map, List.pairwise_iff_getElem]
  intro i j hi hj hij
  have := ats_apart h (show i < n by omega) (show j < n by omega) (by omega)
  simpa [List.getElem?_eq_getElem hi, List.getElem?_eq_getElem hj] using this
theorem ats_mem {l : List (Int × Int)} {c : Int} (h : c ∈ ats l) : ∃ j, j < l.length ∧ (l.getD j (0, 0)).1 = c := by
  obtain ⟨p, hp, rfl⟩ := List.mem_map.1 h
  obtain ⟨j, hj, rfl⟩ := List.getElem_of_mem hp
  exact ⟨j, hj, by simp [List.getElem?_eq_getElem hj]⟩
theorem ats_len (l : List (Int × Int)) : (ats l).length = l.length := by simp [ats]
/-- Through the shares goes one polynomial of no more numbers than they are. -/
theorem one_through {l : List (Int × Int)} {n : Nat} {p q : List Int} (hl : l.length = n) (h : okk l n) (hp : p.length ≤ n) (hq : q.length ≤ n)
    (h1 : ∀ j, j < n → nm (ev p (l.getD j (0, 0)).1) = nm (l.getD j (0, 0)).2) (h2 : ∀ j, j < n → nm (ev q (l.getD j (0, 0)).1) = nm (l.getD j (0, 0)).2) : nrm p = nrm q := by
  refine same_poly (ats_pair hl h) (fun c hc => ?_) (by rw [ats_len]; omega) (by rw [ats_len]; omega)
  obtain ⟨j, hj, rfl⟩ := ats_mem hc
  rw [h1 j (by omega), h2 j (by omega)]
/-- The first k numbers are parties, no two of them one. -/
def dis (f : Nat → Int) (k : Nat) : Prop := ∀ i, i < k → (1 ≤ f i ∧ f i ≤ 9) ∧ ∀ j, j < i → f j ≠ f i
theorem dis_zero (f : Nat → Int) : dis f 0 := fun i hi => by omega
theorem dis_succ {f : Nat → Int} {k : Nat} {x : Int} (h : dis f k) (hx : f k = x) (h1 : 1 ≤ x) (h2 : x ≤ 9) (h3 : ∀ j, j < k → f j ≠ x) : dis f (k + 1) := by
  intro i hi
  by_cases e : i = k
  · subst e; rw [hx]; exact ⟨⟨h1, h2⟩, h3⟩
  · exact h i (by omega)
theorem dis_le {f : Nat → Int} {k m : Nat} (h : dis f k) (hm : m ≤ k) : dis f m := fun i hi => h i (by omega)
/-- No more than there are numbers. -/
theorem pigeon : ∀ (m k : Nat) (f : Nat → Int), (∀ i, i < k → 1 ≤ f i ∧ f i ≤ (m : Int)) → (∀ i, i < k → ∀ j, j < i → f j ≠ f i) → k ≤ m
  | 0, k, f, h, _ => by
    cases k with
    | zero => omega
    | succ k => have := h 0 (by omega); omega
  | m + 1, k, f, h, hd => by
    by_cases hz : ∃ i, i < k ∧ f i = (m : Int) + 1
    · obtain ⟨i, hi, he⟩ := hz
      have := pigeon m (k - 1) (fun j => if j < i then f j else f (j + 1)) (fun j hj => by
        split
        · rename_i hji
          have h1 := h j (by omega)
          have h2 := hd i hi j hji
          omega
        · have h1 := h (j + 1) (by omega)
          have h2 := hd (j + 1) (by omega) i (by omega)
          omega) (fun j hj q hq => by
        by_cases h1 : q < i
        · by_cases h2 : j < i
          · rw [if_pos h1, if_pos h2]; exact hd j (by omega) q hq
          · rw [if_pos h1, if_neg h2]; exact hd (j + 1) (by omega) q (by omega)
        · rw [if_neg h1, if_neg (by omega)]; exact hd (j + 1) (by omega) (q + 1) (by omega))
      omega
    · have := pigeon m k f (fun i hi => by
        have h1 := h i hi
        have h2 : f i ≠ (m : Int) + 1 := fun e => hz ⟨i, hi, e⟩
        omega) hd
      omega
theorem dis_nine {f : Nat → Int} {k : Nat} (h : dis f k) : k ≤ 9 := pigeon 9 k f (fun i hi => (h i hi).1) (fun i hi => (h i hi).2)

/-- At which party a share stands. -/
def fa (l : List (Int × Int)) (i : Nat) : Int := (l.getD i (0, 0)).1
theorem dis_okk {l : List (Int × Int)} {k : Nat} (h : dis (fa l) k) : okk l k := fun i hi => ⟨⟨(h i hi).1.1, by have := (h i hi).1.2; unfold fa at this; omega⟩, (h i hi).2⟩

/-- What is wrong with shares. -/
def She (l : List (Int × Int)) (n : Nat) (t r : Int) : Prop :=
  ((t < 0 ∨ 4 < t) ∧ r = 1) ∨ ((0 ≤ t ∧ t ≤ 4) ∧ ¬ dis (fa l) n ∧ r = 5) ∨ ((0 ≤ t ∧ t ≤ 4) ∧ dis (fa l) n ∧ (n : Int) ≤ t ∧ r = 4) ∨ ((0 ≤ t ∧ t ≤ 4) ∧ dis (fa l) n ∧ t < (n : Int) ∧ r = 0)
theorem She.one {l : List (Int × Int)} {n : Nat} {t r s : Int} (h : She l n t r) (k : She l n t s) : r = s := by
  rcases h with ⟨h1, h2⟩ | ⟨h1, h3, h2⟩ | ⟨h1, h3, h4, h2⟩ | ⟨h1, h3, h4, h2⟩ <;> rcases k with ⟨k1, k2⟩ | ⟨k1, k3, k2⟩ | ⟨k1, k3, k4, k2⟩ | ⟨k1, k3, k4, k2⟩ <;> first | omega | exact absurd k3 h3 | exact absurd h3 k3
theorem She.bd {l : List (Int × Int)} {n : Nat} {t r : Int} (h : She l n t r) : 0 ≤ r ∧ r ≤ 5 := by
  rcases h with ⟨_, h2⟩ | ⟨_, _, h2⟩ | ⟨_, _, _, h2⟩ | ⟨_, _, _, h2⟩ <;> omega
theorem She.ok {l : List (Int × Int)} {n : Nat} {t : Int} (h : She l n t 0) : 0 ≤ t ∧ t ≤ 4 ∧ dis (fa l) n ∧ t < (n : Int) ∧ n ≤ 9 := by
  rcases h with ⟨_, h2⟩ | ⟨_, _, h2⟩ | ⟨_, _, _, h2⟩ | ⟨h1, h3, h4, _⟩
  · omega
  · omega
  · omega
  · exact ⟨h1.1, h1.2, h3, h4, dis_nine h3⟩

/-- S has the first n shares. -/
def Hs (l : List (Int × Int)) (n : Nat) (S : List Int) : Prop := ∀ j, j < n → nm (ev S (l.getD j (0, 0)).1) = nm (l.getD j (0, 0)).2
/-- What Open tells. -/
def Opn (l : List (Int × Int)) (n : Nat) (t x r : Int) : Prop :=
  (She l n t r ∧ r ≠ 0 ∧ x = 0) ∨ (She l n t 0 ∧ ((∃ S : List Int, (S.length : Int) ≤ t + 1 ∧ Hs l n S ∧ x = nm (ev S 0) ∧ r = 0) ∨ ((∀ S : List Int, (S.length : Int) ≤ t + 1 → ¬ Hs l n S) ∧ x = 0 ∧ r = 6)))

/-- One polynomial of no more numbers than there are shares. -/
theorem hs_one {l : List (Int × Int)} {n : Nat} {S R : List Int} (ho : okk l n) (h : Hs l n S) (k : Hs l n R) (h1 : S.length ≤ n) (k1 : R.length ≤ n) : nrm S = nrm R := by
  have hw : ∀ j, j < n → ((List.range n).map fun i => l.getD i (0, 0)).getD j (0, 0) = l.getD j (0, 0) := fun j hj => by simp [hj]
  refine one_through (l := (List.range n).map fun i => l.getD i (0, 0)) (n := n) (by simp) (fun i hi => ?_) h1 k1 (fun j hj => ?_) (fun j hj => ?_)
  · rw [hw i hi]
    refine ⟨(ho i hi).1, fun j hj => ?_⟩
    rw [hw j (by omega)]
    exact (ho i hi).2 j hj
  · rw [hw j hj]; exact h j hj
  · rw [hw j hj]; exact k j hj
theorem ev_one {S R : List Int} (h : nrm S = nrm R) (x : Int) : nm (ev S x) = nm (ev R x) := by rw [← nrm_ev S, h, nrm_ev]

theorem Opn.one {l : List (Int × Int)} {n : Nat} {t x r y s : Int} (h : Opn l n t x r) (k : Opn l n t y s) : x = y ∧ r = s := by
  rcases h with ⟨h1, h2, h3⟩ | ⟨h1, h2⟩ <;> rcases k with ⟨k1, k2, k3⟩ | ⟨k1, k2⟩
  · exact ⟨by omega, h1.one k1⟩
  · exact absurd (h1.one k1) h2
  · exact absurd (k1.one h1) k2
  · obtain ⟨_, _, h4, h5, _⟩ := h1.ok
    rcases h2 with ⟨S, s1, s2, s3, s4⟩ | ⟨s1, s2, s3⟩ <;> rcases k2 with ⟨R, r1, r2, r3, r4⟩ | ⟨r1, r2, r3⟩
    · exact ⟨by rw [s3, r3]; exact ev_one (hs_one (dis_okk h4) s2 r2 (by omega) (by omega)) 0, by omega⟩
    · exact absurd s2 (r1 S s1)
    · exact absurd r2 (s1 R r1)
    · exact ⟨by omega, by omega⟩

/-- NEWTON's polynomial tells whether there is one of few numbers. -/
theorem opn_newton {l : List (Int × Int)} {n : Nat} {t : Int} {S : List Int} (h : She l n t 0) (hl : S.length = n) (hb : ∀ x ∈ S, 0 ≤ x ∧ x ≤ 2147483646) (hs : Hs l n S) :
    (((tl S n : Nat) : Int) ≤ t + 1 → Opn l n t (nm (ev (trm S) 0)) 0) ∧ (t + 1 < ((tl S n : Nat) : Int) → Opn l n t 0 6) := by
  obtain ⟨_, _, hd, h5, _⟩ := h.ok
  have e : nrm S = trm S := by unfold nrm; rw [nz_id hb]
  have hlen : (trm S).length = tl S n := by rw [trm_len, hl]
  have hst : Hs l n (trm S) := fun j hj => by rw [← e, nrm_ev]; exact hs j hj
  refine ⟨fun ht => Or.inr ⟨h, Or.inl ⟨trm S, by rw [hlen]; exact ht, hst, rfl, rfl⟩⟩, fun ht => Or.inr ⟨h, Or.inr ⟨fun R hR hr => ?_, rfl, rfl⟩⟩⟩
  have h1 := hs_one (dis_okk hd) hs hr (by omega) (by omega)
  have h2 := nrm_le R
  rw [← h1, e, hlen] at h2
  omega

/-- By what the number of party i is multiplied. -/
def Wgt (ts : List Int) (n i : Nat) (x : Int) : Prop := ∃ Q : List Int, Q.length ≤ n ∧ (∀ j, j < n → nm (ev Q (ts.getD j 0)) = if j = i then 1 else 0) ∧ x = nm (ev Q 0)
def fi (ts : List Int) (i : Nat) : Int := ts.getD i 0
theorem Wgt.one {ts : List Int} {n i : Nat} {x y : Int} (hd : dis (fi ts) n) (h : Wgt ts n i x) (k : Wgt ts n i y) : x = y := by
  obtain ⟨Q, q1, q2, rfl⟩ := h
  obtain ⟨R, r1, r2, rfl⟩ := k
  have hw : ∀ j, j < n → ((List.range n).map fun k => (ts.getD k 0, if k = i then (1 : Int) else 0)).getD j (0, 0) = (ts.getD j 0, if j = i then (1 : Int) else 0) := fun j hj => by simp [hj]
  refine ev_one (hs_one (l := (List.range n).map fun k => (ts.getD k 0, if k = i then (1 : Int) else 0)) (n := n) (fun j hj => ?_) (fun j hj => ?_) (fun j hj => ?_) q1 r1) 0
  · rw [hw j hj]
    refine ⟨⟨(hd j hj).1.1, by have := (hd j hj).1.2; unfold fi at this; simp only; omega⟩, fun q hq => ?_⟩
    rw [hw q (by omega)]
    exact (hd j hj).2 q hq
  · rw [hw j hj]
    simp only
    rw [q2 j hj]; split <;> decide
  · rw [hw j hj]
    simp only
    rw [r2 j hj]; split <;> decide
end
section
open Crm Go.RowKit
/-- At which party a row stands; its numbers. -/
def ta (l : List (Int × List Int)) (i : Nat) : Int := (l.getD i (0, [])).1
def tc (l : List (Int × List Int)) (i : Nat) : List Int := (l.getD i (0, [])).2

/-- The slice reads as the rows l. -/
structure RdW (w : World) (a : Option Addr) (n c : Nat) (l : List (Int × List Int)) : Prop where
  len : l.length = n
  cap : n ≤ c
  max : c ≤ maxLen
  nil : a = none → c = 0
  bd : ∀ i, i < n → -9223372036854775808 ≤ ta l i ∧ ta l i ≤ 9223372036854775807
  row : ∀ x, a = some x → ∀ i, i < n → w.cell? (x.add (i * 2)) = some (.int .i64 (ta l i)) ∧ ∃ ai ci, w.cell? (x.add (i * 2 + 1)) = some (.slice ai (tc l i).length ci) ∧ Rd w ai (tc l i).length ci (tc l i)

theorem RdW.at {w : World} {a : Option Addr} {n c : Nat} {l : List (Int × List Int)} (h : RdW w a n c l) {k : Nat} (hk : k < n) :
    ∃ b o, a = some ⟨b, o, none⟩ ∧ b < w.heap.size ∧ ∀ i, i < n → w.cell? ⟨b, o + i * 2, none⟩ = some (.int .i64 (ta l i)) ∧ ∃ ai ci, w.cell? ⟨b, o + i * 2 + 1, none⟩ = some (.slice ai (tc l i).length ci) ∧ Rd w ai (tc l i).length ci (tc l i) := by
  cases ha : a with
  | none => have := h.nil ha; have := h.cap; omega
  | some x =>
    have h0 := (h.row x ha 0 (by omega)).1
    have hs : x.spot = none := by
      have := spot_none h0
      unfold Addr.add at this
      split at this <;> simp_all
    obtain ⟨b, o, s⟩ := x
    simp only at hs
    subst hs
    refine ⟨b, o, rfl, ?_, fun i hi => by have := h.row _ ha i hi; rwa [Addr.add_lit, Addr.add_lit, ← Nat.add_assoc] at this⟩
    have := World.block_lt_of_cell? w _ h0
    rwa [Addr.add_lit] at this
/-- One row of it, by names of its own. -/
theorem RdW.one {w : World} {a : Option Addr} {n c : Nat} {l : List (Int × List Int)} (h : RdW w a n c l) {k : Nat} (hk : k < n) :
    ∃ b o x ai ni ci row, a = some ⟨b, o, none⟩ ∧ b < w.heap.size ∧ Hid (ta l k = x) ∧ Hid (tc l k = row) ∧ -9223372036854775808 ≤ x ∧ x ≤ 9223372036854775807 ∧ w.cell? ⟨b, o + k * 2, none⟩ = some (.int .i64 x) ∧ w.cell? ⟨b, o + k * 2 + 1, none⟩ = some (.slice ai ni ci) ∧ Rd w ai ni ci row := by
  obtain ⟨b, o, ha, hb, hr⟩ := h.at hk
  obtain ⟨h0, ai, ci, h1, h2⟩ := hr k hk
  have := h.bd k hk
  exact ⟨b, o, _, ai, _, ci, _, ha, hb, rfl, rfl, this.1, this.2, h0, h1, h2⟩
theorem RdW.below {w w' : World} {a : Option Addr} {n c : Nat} {l : List (Int × List Int)} (h : RdW w a n c l) (hb : Below w.heap.size w w') : RdW w' a n c l := by
  refine ⟨h.len, h.cap, h.max, h.nil, h.bd, fun x hx i hi => ?_⟩
  obtain ⟨h0, ai, ci, h1, h2⟩ := h.row x hx i hi
  exact ⟨by rw [hb.cell (World.block_lt_of_cell? w _ h0)]; exact h0, ai, ci, by rw [hb.cell (World.block_lt_of_cell? w _ h1)]; exact h1, h2.below hb⟩
theorem RdW.nilW (w : World) : RdW w none 0 0 [] := ⟨rfl, Nat.le_refl _, Nat.zero_le _, fun _ => rfl, fun i hi => by omega, by simp⟩

/-- Rows that may be. -/
def Rwk (l : List (Int × List Int)) (n : Nat) : Prop := ∀ i, i < n → ((1 ≤ ta l i ∧ ta l i ≤ 9) ∧ ∀ j, j < i → ta l j ≠ ta l i) ∧ 1 ≤ (tc l i).length ∧ (tc l i).length ≤ 5
theorem rwk_zero (l : List (Int × List Int)) : Rwk l 0 := fun i hi => by omega
theorem Rwk.dis {l : List (Int × List Int)} {n : Nat} (h : Rwk l n) : dis (ta l) n := fun i hi => (h i hi).1
theorem rwk_succ {l : List (Int × List Int)} {k : Nat} {x : Int} {m : Nat} (h : Rwk l k) (hx : ta l k = x) (hm : (tc l k).length = m) (h1 : 1 ≤ x) (h9 : x ≤ 9) (m1 : 1 ≤ m) (m5 : m ≤ 5) (h3 : ∀ j, j < k → ta l j ≠ x) : Rwk l (k + 1) := by
  intro i hi
  by_cases e : i = k
  · subst e; rw [hx, hm]; exact ⟨⟨⟨h1, h9⟩, h3⟩, m1, m5⟩
  · exact h i (by omega)
end
section
open Go.RowKit
/-- A list that the call gathers, of whatever one-cell elements, and one more. -/
theorem wpList_appV {P : Program} {T E : TypeId} {z : Value} {by_ : Nat} (hT : P.underlying T = some (.slice E)) (info : (P.info? E).map (fun i => (i.zero, i.size, i.bytes)) = some (some z, 1, by_)) (hz : z.cells.size = 1) (hby : by_ ≤ 100)
    (w : World) {ops : Array Oper} {rest : List Oper} {o : Oper} {a : Act} {Q : Exit → Act → World → Prop} (hgd : o.guard = none) (s x : Operand)
    (ho : o.op = .call { callee := .builtin .append, args := #[s, x], argTypes := #[T, T] })
    (base : Nat) (v : Value) (n : Nat) (xs : List Value) (hs : a.eval s = v) (hown : w.ownsRow base E 1 v n xs) (y : Value) (hy : y.oneCell' = true) (hx : a.eval x = .slice (some ⟨w.heap.size, 0, none⟩) 1 1)
    (hn : n ≤ 1000000) (hbase : base ≤ w.heap.size)
    (h : ∀ v' w', w'.ownsRow base E 1 v' (n + 1) (xs ++ [y]) → w.grownBy w' v.ownBlock → (v'.ownBlock = v.ownBlock ∨ ∃ k, v'.ownBlock = some k ∧ w.heap.size ≤ k) → wpList P ops Q rest (a.put o.dst v') w') :
    wpList P ops Q (o :: rest) a (w.alloc (.cells #[y] E)) := by
  obtain ⟨i0, hi, hz0, hz1, hz2⟩ := info_parts info
  refine wpList_append_own_at _ hgd s x T ho base E i0 z 1 by_ hT hi hz0 hz1 hz2 hz (by decide) v n _ hs (hown.alloc _) ⟨w.heap.size, 0, none⟩ 1 1 [y] hx rfl (cell_one_new _ _ _) (fun u hu => by simp at hu; subst hu; exact hy) (by unfold maxLen; omega) ?_ (by simp; omega) ?_
  · have : (n + 1) * by_ ≤ 1000001 * 100 := Nat.mul_le_mul (by omega) hby
    omega
  · intro v' w' hown' hgrow _ hat
    refine h v' w' hown' ⟨hgrow.os, hgrow.tape, hgrow.output, ?_, fun k hk hne => ?_⟩ ?_
    · have := hgrow.size; simp at this; omega
    · rw [hgrow.block k (by simp; omega) hne]; exact Below.heap_alloc _ _ _ hk
    · rcases hat with hat | hat
      · exact .inl hat
      · exact .inr ⟨_, hat, by simp⟩

theorem own_slice {w : World} {base n : Nat} {E : TypeId} {v : Value} {xs : List Value} (h : w.ownsRow base E 1 v n xs) : ∃ a c, v = .slice a n c ∧ n ≤ c := by
  rcases h.2 with ⟨rfl, rfl⟩ | ⟨g, cap, cur, rfl, _, _, hc, _⟩
  · exact ⟨none, 0, rfl, Nat.le_refl _⟩
  · exact ⟨_, _, rfl, hc⟩
/-- One element of it. -/
theorem own_at {w : World} {base n c : Nat} {E : TypeId} {a : Option Addr} {xs : List Value} (h : w.ownsRow base E 1 (.slice a n c) n xs) {k : Nat} (hk : k < n) :
    ∃ g u, a = some ⟨g, 0, none⟩ ∧ base ≤ g ∧ g < w.heap.size ∧ xs[k]? = some u ∧ w.cell? ⟨g, k, none⟩ = some u := by
  have hl : xs.length = n := by simpa using h.1
  rcases h.2 with ⟨e, rfl⟩ | ⟨g, cap, cur, e, hb, hg, h1, h2, hs, ht⟩
  · omega
  · simp only [Value.slice.injEq] at e
    obtain ⟨rfl, _, rfl⟩ := e
    have := h.cells (g := g) rfl k (xs[k]'(by omega)) (by simp [List.getElem?_eq_getElem (show k < xs.length by omega)])
    rw [Addr.add_lit] at this
    exact ⟨g, _, rfl, hb, (Array.getElem?_eq_some_iff.1 hg).1, List.getElem?_eq_getElem (by omega), by simpa using this⟩

theorem own_set {w : World} {B n c g : Nat} {E : TypeId} {xs : List Value} (h : w.ownsRow B E 1 (.slice (some ⟨g, 0, none⟩) n c) n xs) (i : Nat) (u : Value) : (w.setCell ⟨g, i, none⟩ u).ownsRow B E 1 (.slice (some ⟨g, 0, none⟩) n c) n (xs.set i u) := by
  refine ⟨by rw [List.length_set]; exact h.1, .inr ?_⟩
  rcases h.2 with ⟨e, _⟩ | ⟨g', cap, cur, e, hb, hg, h1, h2, hs, ht⟩
  · simp at e
  · simp only [Value.slice.injEq, Option.some.injEq, Addr.mk.injEq, and_true, true_and] at e
    obtain ⟨rfl, rfl⟩ := e
    refine ⟨g, c, _, rfl, hb, heap_setCell_same w g i _ _ _ hg, h1, h2, by simpa using hs, ?_⟩
    rw [← ht]
    simp [List.take_set]

theorem own_frozen {w : World} {B n c g : Nat} {E : TypeId} {xs : List Value} (h : w.ownsRow B E 1 (.slice (some ⟨g, 0, none⟩) n c) n xs) (i : Nat) : w.frozen? ⟨g, i, none⟩ = false := by
  rcases h.2 with ⟨e, _⟩ | ⟨g', cap, cur, e, hb, hg, _⟩
  · simp at e
  · simp only [Value.slice.injEq, Option.some.injEq, Addr.mk.injEq, and_true, true_and] at e
    obtain ⟨rfl, rfl⟩ := e
    exact frozen_of_row w g i _ _ hg

/-- Ints as cells. -/
def zns (L : List Int) : List Value := L.map (Value.int .i64)
theorem zns_set (L : List Int) (i : Nat) (x : Int) : (zns L).set i (.int .i64 x) = zns (L.set i x) := by simp [zns, List.map_set]
theorem zns_snoc (L : List Int) (x : Int) : zns L ++ [.int .i64 x] = zns (L ++ [x]) := by simp [zns]
theorem zns_len (L : List Int) : (zns L).length = L.length := by simp [zns]
theorem zns_at {w : World} {base n c g : Nat} {E : TypeId} {L : List Int} (h : w.ownsRow base E 1 (.slice (some ⟨g, 0, none⟩) n c) n (zns L)) {k : Nat} (hk : k < n) :
    w.cell? ⟨g, k, none⟩ = some (.int .i64 (L.getD k 0)) := by
  have hl : L.length = n := by have := h.1; rw [zns_len] at this; omega
  obtain ⟨g', u, h1, h2, h3, h4, h5⟩ := own_at h hk
  simp only [Option.some.injEq, Addr.mk.injEq, and_true] at h1
  subst h1
  rw [h5, ← h4]
  simp [zns, List.getElem?_eq_getElem (show k < L.length by omega)]
end
section
open Crm
/-- F, column by column: symmetrical, and all rows have its numbers. -/
structure TwF (l : List (Int × List Int)) (n t : Nat) (G : Nat → List Int) : Prop where
  le : ∀ j, j ≤ t → (G j).length ≤ t + 1
  sym : ∀ i j, i ≤ t → j ≤ t → nm ((G i).getD j 0) = nm ((G j).getD i 0)
  val : ∀ j, j ≤ t → ∀ r, r < n → nm (ev (G j) (ta l r)) = nm ((tc l r).getD j 0)
/-- Rows of t + 1 numbers each. -/
def Rwt (l : List (Int × List Int)) (n t : Nat) : Prop := Rwk l n ∧ ∀ i, i < n → (tc l i).length = t + 1
/-- What Join tells. -/
def Jnd (l : List (Int × List Int)) (n : Nat) (t x r : Int) : Prop :=
  ((t < 0 ∨ 4 < t) ∧ x = 0 ∧ r = 1) ∨ ∃ k : Nat, t = (k : Int) ∧ k ≤ 4 ∧
    ((¬ Rwt l n k ∧ x = 0 ∧ r = 5) ∨ (Rwt l n k ∧ n ≤ k ∧ x = 0 ∧ r = 4) ∨ (Rwt l n k ∧ k < n ∧ ((∃ G, TwF l n k G ∧ x = nm ((G 0).getD 0 0) ∧ r = 0) ∨ ((∀ G, ¬ TwF l n k G) ∧ x = 0 ∧ r = 6))))

theorem col_one {l : List (Int × List Int)} {n t : Nat} {p q : List Int} (hd : dis (ta l) n) (hn : t < n) (hp : p.length ≤ t + 1) (hq : q.length ≤ t + 1) (h : ∀ r, r < n → nm (ev p (ta l r)) = nm (ev q (ta l r))) : nrm p = nrm q := by
  have hw : ∀ j, j < n → ((List.range n).map fun i => (ta l i, ev p (ta l i))).getD j (0, 0) = (ta l j, ev p (ta l j)) := fun j hj => by simp [hj]
  refine hs_one (l := (List.range n).map fun i => (ta l i, ev p (ta l i))) (n := n) (fun j hj => ?_) (fun j hj => ?_) (fun j hj => ?_) (by omega) (by omega)
  · rw [hw j hj]
    have h1 := hd j hj
    refine ⟨⟨h1.1.1, by simp only; omega⟩, fun q hq => ?_⟩
    rw [hw q (by omega)]
    exact h1.2 q hq
  · rw [hw j hj]
  · rw [hw j hj]; exact (h j hj).symm
/-- There is but one F. -/
theorem twf_one {l : List (Int × List Int)} {n t : Nat} {G K : Nat → List Int} (hd : dis (ta l) n) (hn : t < n) (h : TwF l n t G) (k : TwF l n t K) {j : Nat} (hj : j ≤ t) : nrm (G j) = nrm (K j) :=
  col_one hd hn (h.le j hj) (k.le j hj) fun r hr => by rw [h.val j hj r hr, k.val j hj r hr]
theorem Jnd.one {l : List (Int × List Int)} {n : Nat} {t x r y s : Int} (h : Jnd l n t x r) (k : Jnd l n t y s) : x = y ∧ r = s := by
  rcases h with ⟨h1, rfl, rfl⟩ | ⟨a, rfl, ha, h⟩ <;> rcases k with ⟨k1, rfl, rfl⟩ | ⟨b, hb, hb4, k⟩
  · exact ⟨rfl, rfl⟩
  · exfalso; omega
  · exfalso; omega
  · obtain rfl : a = b := by omega
    rcases h with ⟨h1, rfl, rfl⟩ | ⟨h1, h2, rfl, rfl⟩ | ⟨h1, h2, h3⟩ <;> rcases k with ⟨k1, rfl, rfl⟩ | ⟨k1, k2, rfl, rfl⟩ | ⟨k1, k2, k3⟩
    all_goals first
      | exact ⟨rfl, rfl⟩
      | exact absurd k1 h1
      | exact absurd h1 k1
      | (exfalso; omega)
      | skip
    rcases h3 with ⟨G, g1, rfl, rfl⟩ | ⟨g1, rfl, rfl⟩ <;> rcases k3 with ⟨K, e1, rfl, rfl⟩ | ⟨e1, rfl, rfl⟩
    · have := twf_one h1.1.dis h2 g1 e1 (Nat.zero_le a)
      exact ⟨by rw [← nrm_getD, ← nrm_getD, this], rfl⟩
    · exact absurd g1 (e1 G)
    · exact absurd e1 (g1 K)
    · exact ⟨rfl, rfl⟩

/-- Rows of i and of j tell different things where they meet. -/
def Dif (l : List (Int × List Int)) (n : Nat) (i j : Int) : Prop := ∃ r s, r < n ∧ s < n ∧ ta l r = i ∧ ta l s = j ∧ nm (ev (tc l r) j) ≠ nm (ev (tc l s) i)
/-- Pairs go up. -/
def lexp (a b : Int × Int) : Prop := a.1 < b.1 ∨ (a.1 = b.1 ∧ a.2 < b.2)
/-- What Pairs tells: all pairs that don't meet, going up. -/
structure Prs (l : List (Int × List Int)) (n : Nat) (L : List (Int × Int)) : Prop where
  up : L.Pairwise lexp
  mem : ∀ i j, (i, j) ∈ L ↔ (i < j ∧ Dif l n i j)
theorem lex_ext : ∀ {L K : List (Int × Int)}, L.Pairwise lexp → K.Pairwise lexp → (∀ x, x ∈ L ↔ x ∈ K) → L = K
  | [], [], _, _, _ => rfl
  | [], b :: K, _, _, h => by have := (h b).2 (by simp); simp at this
  | a :: L, [], _, _, h => by have := (h a).1 (by simp); simp at this
  | a :: L, b :: K, hL, hK, h => by
    rw [List.pairwise_cons] at hL hK
    have e : a = b := by
      rcases List.mem_cons.1 ((h a).1 (by simp)) with e | e
      · exact e
      · rcases List.mem_cons.1 ((h b).2 (by simp)) with e' | e'
        · exact e'.symm
        · have h1 := hL.1 b e'
          have h2 := hK.1 a e
          unfold lexp at h1 h2
          exfalso; omega
    subst e
    congr 1
    refine lex_ext hL.2 hK.2 fun x => ⟨fun hx => ?_, fun hx => ?_⟩
    · rcases List.mem_cons.1 ((h x).1 (List.mem_cons_of_mem _ hx)) with e | e
      · subst e
        have := hL.1 x hx
        unfold lexp at this
        exfalso; omega
      · exact e
    · rcases List.mem_cons.1 ((h x).2 (List.mem_cons_of_mem _ hx)) with e | e
      · subst e
        have := hK.1 x hx
        unfold lexp at this
        exfalso; omega
      · exact e
theorem Prs.one {l : List (Int × List Int)} {n : Nat} {L K : List (Int × Int)} (h : Prs l n L) (k : Prs l n K) : L = K :=
  lex_ext h.up k.up fun x => by obtain ⟨i, j⟩ := x; rw [h.mem, k.mem]
/-- Who of the first k has another number than p tells. -/
def bdl (l : List (Int × Int)) (p : List Int) : Nat → List Int
  | 0 => []
  | k + 1 => if nm (ev p (l.getD k (0, 0)).1) = nm (l.getD k (0, 0)).2 then bdl l p k else bdl l p k ++ [(l.getD k (0, 0)).1]
theorem bdl_ok {l : List (Int × Int)} {p : List Int} {k : Nat} (h : nm (ev p (l.getD k (0, 0)).1) = nm (l.getD k (0, 0)).2) : bdl l p (k + 1) = bdl l p k := by rw [bdl, if_pos h]
theorem bdl_bad {l : List (Int × Int)} {p : List Int} {k : Nat} (h : ¬ nm (ev p (l.getD k (0, 0)).1) = nm (l.getD k (0, 0)).2) : bdl l p (k + 1) = bdl l p k ++ [(l.getD k (0, 0)).1] := by rw [bdl, if_neg h]
theorem bdl_le (l : List (Int × Int)) (p : List Int) : ∀ k, (bdl l p k).length ≤ k
  | 0 => by simp [bdl]
  | k + 1 => by
    have := bdl_le l p k
    rw [bdl]; split
    · omega
    · simp; omega
theorem bdl_nil (l : List (Int × Int)) (p : List Int) : ∀ k, (bdl l p k).length = 0 ↔ Hs l k p
  | 0 => ⟨fun _ j hj => by omega, fun _ => rfl⟩
  | k + 1 => by
    have ih := bdl_nil l p k
    by_cases h : nm (ev p (l.getD k (0, 0)).1) = nm (l.getD k (0, 0)).2
    · rw [bdl_ok h, ih]
      constructor
      · intro g j hj
        by_cases e : j = k
        · subst e; exact h
        · exact g j (by omega)
      · intro g j hj; exact g j (by omega)
    · rw [bdl_bad h]
      constructor
      · intro g; simp at g
      · intro g; exact absurd (g k (by omega)) h

/-- As a filter. -/
def badb (p : List Int) (q : Int × Int) : Bool := !decide (nm (ev p q.1) = nm q.2)
theorem bdl_take (l : List (Int × Int)) (p : List Int) : ∀ k, k ≤ l.length → bdl l p k = ((l.take k).filter (badb p)).map Prod.fst
  | 0, _ => by simp [bdl]
  | k + 1, h => by
    have ih := bdl_take l p k (by omega)
    have e : l.getD k (0, 0) = l[k]'(by omega) := by simp [List.getElem?_eq_getElem (show k < l.length by omega)]
    rw [List.take_succ_eq_append_getElem (show k < l.length by omega), List.filter_append, List.map_append, ← ih]
    by_cases hb : nm (ev p (l.getD k (0, 0)).1) = nm (l.getD k (0, 0)).2
    · rw [bdl_ok hb]
      rw [e] at hb
      simp [badb, hb]
    · rw [bdl_bad hb, e]
      rw [e] at hb
      simp [badb, hb]
theorem bdl_all (l : List (Int × Int)) (p : List Int) : bdl l p l.length = (l.filter (badb p)).map Prod.fst := by
  have := bdl_take l p l.length (Nat.le_refl _)
  rwa [List.take_length] at this
theorem badb_same {p q : List Int} (h : nrm p = nrm q) (x : Int × Int) : badb p x = badb q x := by
  unfold badb
  rw [ev_one h]
theorem bdl_same {p q : List Int} (h : nrm p = nrm q) (l : List (Int × Int)) : bdl l p l.length = bdl l q l.length := by
  rw [bdl_all, bdl_all]
  congr 1
  exact List.filter_congr fun x _ => badb_same h x

/-- Those that both polynomials have. -/
def both (l : List (Int × Int)) (p q : List Int) : List (Int × Int) := l.filter fun x => !badb p x && !badb q x
theorem both_len (l : List (Int × Int)) (p q : List Int) : l.length ≤ (both l p q).length + (l.filter (badb p)).length + (l.filter (badb q)).length := by
  unfold both
  induction l with
  | nil => simp
  | cons a l ih =>
    cases h1 : badb p a <;> cases h2 : badb q a <;> simp [h1, h2] <;> omega
theorem both_pair {l : List (Int × Int)} {n : Nat} (hl : l.length = n) (hd : dis (fa l) n) (p q : List Int) : (ats (both l p q)).Pairwise (fun a b => nm (a - b) ≠ 0) := by
  have h1 := ats_pair hl (dis_okk hd)
  unfold ats at h1 ⊢
  rw [List.pairwise_map] at h1 ⊢
  exact h1.filter _
/-- Two that have all shares but a few are one. -/
theorem dec_one {l : List (Int × Int)} {n t e : Nat} {p q : List Int} (hl : l.length = n) (hd : dis (fa l) n) (hn : t + 1 + 2 * e ≤ n) (hp : p.length ≤ t + 1) (hq : q.length ≤ t + 1) (h1 : (bdl l p n).length ≤ e) (h2 : (bdl l q n).length ≤ e) : nrm p = nrm q := by
  have hb := both_len l p q
  rw [← hl, bdl_all, List.length_map] at h1 h2
  have ha := ats_len (both l p q)
  refine same_poly (both_pair hl hd p q) (fun c hc => ?_) (by omega) (by omega)
  obtain ⟨x, hx, rfl⟩ := List.mem_map.1 hc
  unfold both at hx
  have hx2 := (List.mem_filter.1 hx).2
  simp only [Bool.and_eq_true, Bool.not_eq_true', badb, Bool.not_eq_false', decide_eq_true_eq] at hx2
  rw [hx2.1, hx2.2]
end
end Go.Proofs.Ytljlioglpaogdab
