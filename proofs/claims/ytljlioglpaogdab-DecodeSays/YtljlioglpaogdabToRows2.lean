/- Slices of numbers that are read (Rd), rows of the call's own whose every number is known (Blk), and how both stand when the world goes on. · Slices of shares that are read. · NEWTON: a polynomial made share by share. Plain but for the list of shares. · Shares of a secret: plain facts. · Who is wrong: plain facts. · Lists that the call gathers: of columns, of rows; one more. · Slices of rows of numbers that are read. -/
import Derived.WalkKit
import Derived.WalkSpells
import Derived.WalkLawsBesides
import Derived.Deep.Draws
import Derived.Test.YtljlioglpaogdabToGaussM
import Derived.Maps.AppendAt
namespace Go.Proofs.Ytljlioglpaogdab
set_option linter.unusedVariables false
set_option maxRecDepth 100000
set_option maxHeartbeats 8000000
section
open Go.RowKit
/-- The slice reads as the numbers xs. -/
structure Rd (w : World) (a : Option Addr) (n c : Nat) (xs : List Int) : Prop where
  len : xs.length = n
  cap : n ≤ c
  max : c ≤ maxLen
  bd : ∀ x ∈ xs, 0 ≤ x ∧ x ≤ 18446744073709551615
  nil : a = none → c = 0
  cell : ∀ x, a = some x → ∀ i, i < n → w.cell? (x.add i) = some (.int .u64 (xs.getD i 0))

theorem getD_bd {xs : List Int} (h : ∀ x ∈ xs, 0 ≤ x ∧ x ≤ 18446744073709551615) (i : Nat) : 0 ≤ xs.getD i 0 ∧ xs.getD i 0 ≤ 18446744073709551615 := by
  by_cases hi : i < xs.length
  · rw [List.getD_eq_getElem?_getD, List.getElem?_eq_getElem hi]; exact h _ (List.getElem_mem hi)
  · rw [List.getD_eq_getElem?_getD, List.getElem?_eq_none (by omega)]; simp

theorem spot_none {w : World} {x : Addr} {v : Value} (h : w.cell? x = some v) : x.spot = none := by
  unfold World.cell? at h
  split at h
  · split at h
    · cases h
    · rename_i hs; cases hx : x.spot <;> simp_all
  · cases h

theorem Rd.at {w : World} {a : Option Addr} {n c : Nat} {xs : List Int} (h : Rd w a n c xs) {k : Nat} (hk : k < n) :
    ∃ b o, a = some ⟨b, o, none⟩ ∧ b < w.heap.size ∧ ∀ i, i < n → w.cell? ⟨b, o + i, none⟩ = some (.int .u64 (xs.getD i 0)) := by
  cases ha : a with
  | none => have := h.nil ha; have := h.cap; omega
  | some x =>
    have h0 := h.cell x ha 0 (by omega)
    have hs : x.spot = none := by
      have := spot_none h0
      unfold Addr.add at this
      split at this <;> simp_all
    obtain ⟨b, o, s⟩ := x
    simp only at hs
    subst hs
    refine ⟨b, o, rfl, ?_, fun i hi => by have := h.cell _ ha i hi; rwa [Addr.add_lit] at this⟩
    have := World.block_lt_of_cell? w _ h0
    rwa [Addr.add_lit] at this

/-- One number of it, by a name of its own. -/
theorem Rd.one {w : World} {a : Option Addr} {n c : Nat} {xs : List Int} (h : Rd w a n c xs) {k : Nat} (hk : k < n) :
    ∃ b o x, a = some ⟨b, o, none⟩ ∧ b < w.heap.size ∧ Hid (xs.getD k 0 = x) ∧ 0 ≤ x ∧ x ≤ 18446744073709551615 ∧ w.cell? ⟨b, o + k, none⟩ = some (.int .u64 x) := by
  obtain ⟨b, o, ha, hb, hc⟩ := h.at hk
  have := getD_bd h.bd k
  exact ⟨b, o, _, ha, hb, rfl, this.1, this.2, hc k hk⟩

theorem Rd.below {w w' : World} {a : Option Addr} {n c : Nat} {xs : List Int} (h : Rd w a n c xs) (hb : Below w.heap.size w w') : Rd w' a n c xs := by
  refine ⟨h.len, h.cap, h.max, h.bd, h.nil, fun x hx i hi => ?_⟩
  have := h.cell x hx i hi
  rw [hb.cell (World.block_lt_of_cell? w _ this)]
  exact this

theorem Rd.drew {w : World} {a : Option Addr} {n c : Nat} {xs : List Int} (h : Rd w a n c xs) : Rd w.drew a n c xs := ⟨h.len, h.cap, h.max, h.bd, h.nil, h.cell⟩
theorem Rd.drewN {w : World} {a : Option Addr} {n c : Nat} {xs : List Int} (h : Rd w a n c xs) (q : Nat) : Rd (w.drewN q) a n c xs := ⟨h.len, h.cap, h.max, h.bd, h.nil, h.cell⟩
theorem Rd.grown {w w' : World} {a : Option Addr} {n c : Nat} {xs : List Int} {r : Option Nat} (h : Rd w a n c xs) (hg : w.grownBy w' r) (hne : ∀ x, a = some x → some x.block ≠ r) : Rd w' a n c xs := by
  refine ⟨h.len, h.cap, h.max, h.bd, h.nil, fun x hx i hi => ?_⟩
  refine hg.cell (h.cell x hx i hi) ?_
  have : (x.add i).block = x.block := by unfold Addr.add; split <;> rfl
  rw [this]
  exact hne x hx

/-- The whole row g holds the numbers L; it may be written. -/
def Blk (w : World) (g : Nat) (L : List Int) : Prop := w.heap[g]? = some (.cells (L.map (Value.int .u64)).toArray 28 (0, 0))

theorem Blk.lt {w : World} {g : Nat} {L : List Int} (h : Blk w g L) : g < w.heap.size := (Array.getElem?_eq_some_iff.1 h).1
theorem Blk.cell {w : World} {g : Nat} {L : List Int} (h : Blk w g L) {i : Nat} (hi : i < L.length) : w.cell? ⟨g, i, none⟩ = some (.int .u64 (L.getD i 0)) := by
  rw [cell_of_row w g i _ _ (0, 0) h]
  simp [List.getElem?_eq_getElem hi]
theorem Blk.frozen {w : World} {g : Nat} {L : List Int} (h : Blk w g L) (i : Nat) : w.frozen? ⟨g, i, none⟩ = false := frozen_of_row w g i _ _ h
theorem Blk.set {w : World} {g : Nat} {L : List Int} (h : Blk w g L) (i : Nat) (v : Int) : Blk (w.setCell ⟨g, i, none⟩ (.int .u64 v)) g (L.set i v) := by
  have := heap_setCell_same w g i _ _ (.int .u64 v) h
  unfold Blk
  rw [this]
  simp [List.map_set]
theorem grown_set (w : World) (g i : Nat) (v : Value) : w.grownBy (w.setCell ⟨g, i, none⟩ v) (some g) :=
  ⟨rfl, rfl, rfl, by simp, fun k _ hk => heap_setCell_other w ⟨g, i, none⟩ k v (fun e => hk (by simp [e]))⟩
theorem grown_trans {a b c : World} {r : Option Nat} (h : a.grownBy b r) (k : b.grownBy c r) : a.grownBy c r :=
  ⟨k.os.trans h.os, k.tape.trans h.tape, k.output.trans h.output, Nat.le_trans h.size k.size, fun i hi hr => (k.block i (Nat.lt_of_lt_of_le hi h.size) hr).trans (h.block i hi hr)⟩
theorem grown_drew {a b : World} {r : Option Nat} (h : a.grownBy b r) : a.grownBy b.drew r := ⟨h.os, h.tape, h.output, h.size, h.block⟩
theorem Blk.below {w w' : World} {B g : Nat} {L : List Int} (h : Blk w g L) (hb : Below B w w') (hg : g < B) : Blk w' g L := by
  unfold Blk; rw [hb.block g hg]; exact h
theorem Blk.grown {w w' : World} {g : Nat} {r : Option Nat} {L : List Int} (h : Blk w g L) (hb : w.grownBy w' r) (hg : some g ≠ r) : Blk w' g L := by
  unfold Blk; rw [hb.block g h.lt hg]; exact h
theorem Blk.rd {w : World} {g : Nat} {L : List Int} (h : Blk w g L) (o n c : Nat) (hc : n ≤ c) (hm : c ≤ maxLen) (hn : o + n ≤ L.length) (hL : ∀ x ∈ L, 0 ≤ x ∧ x ≤ 18446744073709551615) : Rd w (some ⟨g, o, none⟩) n c ((L.drop o).take n) := by
  refine ⟨by simp; omega, hc, hm, fun x hx => hL x (List.mem_of_mem_drop (List.mem_of_mem_take hx)), by simp, fun x hx i hi => ?_⟩
  obtain rfl := Option.some.inj hx
  rw [Addr.add_lit, h.cell (by omega)]
  congr 2
  simp [hi]
theorem Blk.whole {w : World} {g : Nat} {L : List Int} (h : Blk w g L) (n : Nat) (hn : n = L.length) (hm : n ≤ maxLen) (hL : ∀ x ∈ L, 0 ≤ x ∧ x ≤ 18446744073709551615) : Rd w (some ⟨g, 0, none⟩) n n L := by
  have := h.rd 0 n n (Nat.le_refl _) hm (by omega) hL
  rwa [List.drop_zero, List.take_of_length_le (by omega)] at this
theorem Blk.made {w : World} {base g n : Nat} (h : w.ownsRow base 28 1 (.slice (some ⟨g, 0, none⟩) n n) n (madeCells (Value.int .u64 0).cells (n * 1)).toList) : Blk w g (List.replicate n 0) := by
  rcases h.2 with ⟨h', _⟩ | ⟨g', cap', cur, h', _, hg, _, _, hs, htake⟩
  · simp at h'
  · simp only [Value.slice.injEq, Option.some.injEq, Addr.mk.injEq, and_true, true_and] at h'
    obtain ⟨rfl, rfl⟩ := h'
    have e : (Value.int IntKind.u64 0).cells = #[Value.int .u64 0] := rfl
    rw [e, Nat.mul_one, toList_madeCells_one] at htake
    unfold Blk
    rw [hg]
    congr 2
    rw [List.take_of_length_le (by simp at hs; simp [hs])] at htake
    have : cur = (List.replicate n (Value.int .u64 0)).toArray := by rw [← htake]
    rw [this]
    simp

/-- What append has gathered reads as the numbers that it gathered. -/
theorem Rd.own {w : World} {base n : Nat} {v : Value} {xs : List Int} (h : w.ownsRow base 28 1 v n (xs.map (Value.int .u64))) (hx : ∀ x ∈ xs, 0 ≤ x ∧ x ≤ 18446744073709551615) :
    ∃ a c, v = .slice a n c ∧ Rd w a n c xs ∧ ∀ x, a = some x → base ≤ x.block := by
  have hl : xs.length = n := by simpa using h.1
  rcases h.2 with ⟨rfl, rfl⟩ | ⟨g, cap, cur, rfl, hb, hg, h1, h2, hs, ht⟩
  · exact ⟨none, 0, rfl, ⟨hl, Nat.le_refl _, Nat.zero_le _, hx, fun _ => rfl, by simp⟩, by simp⟩
  · refine ⟨_, _, rfl, ⟨hl, h1, h2, hx, by simp, fun x hx i hi => ?_⟩, fun x hx => by obtain rfl := Option.some.inj hx; exact hb⟩
    obtain rfl := Option.some.inj hx
    have := h.cells (g := g) rfl i (.int .u64 (xs.getD i 0)) (by simp [List.getElem?_eq_getElem (show i < xs.length by omega)])
    exact this

/-- A slice that the call itself gathers, and one number more. -/
theorem wpList_app1 {P : Program} {T E : TypeId} (hT : P.underlying T = some (.slice E)) (info : (P.info? E).map (fun i => (i.zero, i.size, i.bytes)) = some (some (.int .u64 0), 1, 8))
    (w : World) {ops : Array Oper} {rest : List Oper} {o : Oper} {a : Act} {Q : Exit → Act → World → Prop} (hgd : o.guard = none) (s x : Operand)
    (ho : o.op = .call { callee := .builtin .append, args := #[s, x], argTypes := #[T, T] })
    (base : Nat) (v : Value) (n : Nat) (xs : List Int) (hs : a.eval s = v) (hown : w.ownsRow base E 1 v n (xs.map (Value.int .u64))) (y : Int) (hx : a.eval x = .slice (some ⟨w.heap.size, 0, none⟩) 1 1)
    (hn : n ≤ 1000000) (hbase : base ≤ w.heap.size)
    (h : ∀ v' w', w'.ownsRow base E 1 v' (n + 1) ((xs ++ [y]).map (Value.int .u64)) → Below base w w' → wpList P ops Q rest (a.put o.dst v') w') : wpList P ops Q (o :: rest) a (w.alloc (.cells #[.int .u64 y] E)) := by
  obtain ⟨i0, hi, hz0, hz1, hz2⟩ := info_parts info
  refine wpList_append_own _ hgd s x T ho base E i0 (.int .u64 0) 1 8 hT hi hz0 hz1 hz2 rfl (by decide) v n _ hs (hown.alloc _) ⟨w.heap.size, 0, none⟩ 1 1 [.int .u64 y] hx rfl ?_ ?_ (by unfold maxLen; omega) (by omega) (by simp; omega) ?_
  · intro j u hj
    match j, hj with
    | 0, hj => simp at hj; subst hj; simp [Addr.add]
  · intro u hu; simp at hu; subst hu; rfl
  · intro v' w' hown' hgrow _
    refine h v' w' (by rw [List.map_append]; exact hown') ?_
    exact ((Below.refl _ _).alloc hbase _).grown hgrow (by simp; omega) (fun k hk => (hown.lt k hk).1)

theorem grown_below {w w' : World} (h : Below w.heap.size w w') (r : Option Nat) : w.grownBy w' r := ⟨h.os, h.tape, h.output, h.size, fun k hk _ => h.block k hk⟩
theorem own_below {w w' : World} {base n : Nat} {E : TypeId} {v : Value} {xs : List Value} (h : w.ownsRow base E 1 v n xs) (hb : Below w.heap.size w w') : w'.ownsRow base E 1 v n xs :=
  h.kept (grown_below hb none) (by cases hv : v.ownBlock <;> simp)

theorem below_grown {w0 w w' : World} {g : Nat} (h : Below w0.heap.size w0 w) (hg : w.grownBy w' (some g)) (hl : w0.heap.size ≤ g) : Below w0.heap.size w0 w' :=
  h.grown hg h.size (fun k hk => by simp at hk; omega)
end
section
open Crm Go.RowKit
/-- The slice reads as the shares l: of each its At and its Y. -/
structure RdS (w : World) (a : Option Addr) (n c : Nat) (l : List (Int × Int)) : Prop where
  len : l.length = n
  cap : n ≤ c
  max : c ≤ maxLen
  bd : ∀ i, i < n → (-9223372036854775808 ≤ (l.getD i (0, 0)).1 ∧ (l.getD i (0, 0)).1 ≤ 9223372036854775807) ∧ 0 ≤ (l.getD i (0, 0)).2 ∧ (l.getD i (0, 0)).2 ≤ 18446744073709551615
  nil : a = none → c = 0
  cell : ∀ x, a = some x → ∀ i, i < n → w.cell? (x.add (i * 2)) = some (.int .i64 (l.getD i (0, 0)).1) ∧ w.cell? (x.add (i * 2 + 1)) = some (.int .u64 (l.getD i (0, 0)).2)

theorem RdS.at {w : World} {a : Option Addr} {n c : Nat} {l : List (Int × Int)} (h : RdS w a n c l) {k : Nat} (hk : k < n) :
    ∃ b o, a = some ⟨b, o, none⟩ ∧ b < w.heap.size ∧ ∀ i, i < n → w.cell? ⟨b, o + i * 2, none⟩ = some (.int .i64 (l.getD i (0, 0)).1) ∧ w.cell? ⟨b, o + i * 2 + 1, none⟩ = some (.int .u64 (l.getD i (0, 0)).2) := by
  cases ha : a with
  | none => have := h.nil ha; have := h.cap; omega
  | some x =>
    have h0 := (h.cell x ha 0 (by omega)).1
    have hs : x.spot = none := by
      have := spot_none h0
      unfold Addr.add at this
      split at this <;> simp_all
    obtain ⟨b, o, s⟩ := x
    simp only at hs
    subst hs
    refine ⟨b, o, rfl, ?_, fun i hi => by have := h.cell _ ha i hi; rwa [Addr.add_lit, Addr.add_lit, ← Nat.add_assoc] at this⟩
    have := World.block_lt_of_cell? w _ h0
    rwa [Addr.add_lit] at this

/-- One share of it, by names of its own. -/
theorem RdS.one {w : World} {a : Option Addr} {n c : Nat} {l : List (Int × Int)} (h : RdS w a n c l) {k : Nat} (hk : k < n) :
    ∃ b o x y, a = some ⟨b, o, none⟩ ∧ b < w.heap.size ∧ Hid ((l.getD k (0, 0)).1 = x) ∧ Hid ((l.getD k (0, 0)).2 = y) ∧ -9223372036854775808 ≤ x ∧ x ≤ 9223372036854775807 ∧ 0 ≤ y ∧ y ≤ 18446744073709551615 ∧ w.cell? ⟨b, o + k * 2, none⟩ = some (.int .i64 x) ∧ w.cell? ⟨b, o + k * 2 + 1, none⟩ = some (.int .u64 y) := by
  obtain ⟨b, o, ha, hb, hc⟩ := h.at hk
  have := h.bd k hk
  exact ⟨b, o, _, _, ha, hb, rfl, rfl, this.1.1, this.1.2, this.2.1, this.2.2, (hc k hk).1, (hc k hk).2⟩

theorem RdS.below {w w' : World} {a : Option Addr} {n c : Nat} {l : List (Int × Int)} (h : RdS w a n c l) (hb : Below w.heap.size w w') : RdS w' a n c l := by
  refine ⟨h.len, h.cap, h.max, h.bd, h.nil, fun x hx i hi => ?_⟩
  have := h.cell x hx i hi
  rw [hb.cell (World.block_lt_of_cell? w _ this.1), hb.cell (World.block_lt_of_cell? w _ this.2)]
  exact this

/-- The first k shares stand at places, no two at one. -/
def okk (l : List (Int × Int)) (k : Nat) : Prop := ∀ i, i < k → (1 ≤ (l.getD i (0, 0)).1 ∧ (l.getD i (0, 0)).1 ≤ 2147483646) ∧ ∀ j, j < i → (l.getD j (0, 0)).1 ≠ (l.getD i (0, 0)).1
end
section
open Crm
theorem ats_apart {l : List (Int × Int)} {n i j : Nat} (h : okk l n) (hi : i < n) (hj : j < n) (hij : i ≠ j) : nm ((l.getD i (0, 0)).1 - (l.getD j (0, 0)).1) ≠ 0 := by
  have h1 := (h i hi).1
  have h2 := (h j hj).1
  have h3 : (l.getD i (0, 0)).1 ≠ (l.getD j (0, 0)).1 := by
    rcases Nat.lt_or_ge i j with hlt | hge
    · exact (h j hj).2 i hlt
    · exact fun e => (h i hi).2 j (by omega) e.symm
  unfold nm
  omega

theorem ev_pair (a b x : Int) : ev [a, b] x = a + x * b := by
  rw [ev, ev, ev, Int.mul_zero, Int.add_zero]

/-- The places, one by one. -/
def ats (l : List (Int × Int)) : List Int := l.map Prod.fst
theorem ats_pair {l : List (Int × Int)} {n : Nat} (hl : l.length = n) (h : okk l n) : (ats l).Pairwise (fun a b => nm (a - b) ≠ 0) := by
  unfold ats
  rw [List.pairwise_map, List.pairwise_iff_getElem]
  intro i j hi hj hij
  have := ats_apart h (show i < n by omega) (show j < n by omega) (by omega)
  simpa [List.getElem?_eq_getElem hi, List.getElem?_eq_getElem hj] using this
theorem ats_mem {l : List (Int × Int)} {c : Int} (h : c ∈ ats l) : ∃ j, j < l.length ∧ (l.getD j (0, 0)).1 = c := by
  obtain ⟨p, hp, rfl⟩ := List.mem_map.1 h
  obtain ⟨j, hj, rfl⟩ := List.getElem_of_mem hp
  exact ⟨j, hj, by simp [List.getElem?_eq_getElem hj]⟩
theorem ats_len (l : List (Int × Int)) : (ats l).length = l.length := by simp [ats]
/-- Through the shares goes one polynomial of no more numbers than they are. -/
theorem one_through {l : List (Int × Int)} {n : Nat} {p q : List Int} (hl : l.length = n) (h : okk l n) (hp : p.length ≤ n) (hq : q.length ≤ n)
    (h1 : ∀ j, j < n → nm (ev p (l.getD j (0, 0)).1) = nm (l.getD j (0, 0)).2) (h2 : ∀ j, j < n → nm (ev q (l.getD j (0, 0)).1) = nm (l.getD j (0, 0)).2) : nrm p = nrm q := by
  refine same_poly (ats_pair hl h) (fun c hc => ?_) (by rw [ats_len]; omega) (by rw [ats_len]; omega)
  obtain ⟨j, hj, rfl⟩ := ats_mem hc
  rw [h1 j (by omega), h2 j (by omega)]
/-- The first k numbers are parties, no two of them one. -/
def dis (f : Nat → Int) (k : Nat) : Prop := ∀ i, i < k → (1 ≤ f i ∧ f i ≤ 9) ∧ ∀ j, j < i → f j ≠ f i
theorem dis_zero (f : Nat → Int) : dis f 0 := fun i hi => by omega
theorem dis_succ {f : Nat → Int} {k : Nat} {x : Int} (h : dis f k) (hx : f k = x) (h1 : 1 ≤ x) (h2 : x ≤ 9) (h3 : ∀ j, j < k → f j ≠ x) : dis f (k + 1) := by
  intro i hi
  by_cases e : i = k
  · subst e; rw [hx]; exact ⟨⟨h1, h2⟩, h3⟩
  · exact h i (by omega)
theorem dis_le {f : Nat → Int} {k m : Nat} (h : dis f k) (hm : m ≤ k) : dis f m := fun i hi => h i (by omega)
/-- No more than there are numbers. -/
theorem pigeon : ∀ (m k : Nat) (f : Nat → Int), (∀ i, i < k → 1 ≤ f i ∧ f i ≤ (m : Int)) → (∀ i, i < k → ∀ j, j < i → f j ≠ f i) → k ≤ m
  | 0, k, f, h, _ => by
    cases k with
    | zero => omega
    | succ k => have := h 0 (by omega); omega
  | m + 1, k, f, h, hd => by
    by_cases hz : ∃ i, i < k ∧ f i = (m : Int) + 1
    · obtain ⟨i, hi, he⟩ := hz
      have := pigeon m (k - 1) (fun j => if j < i then f j else f (j + 1)) (fun j hj => by
        split
        · rename_i hji
          have h1 := h j (by omega)
          have h2 := hd i hi j hji
          omega
        · have h1 := h (j + 1) (by omega)
          have h2 := hd (j + 1) (by omega) i (by omega)
          omega) (fun j hj q hq => by
        by_cases h1 : q < i
        · by_cases h2 : j < i
          · rw [if_pos h1, if_pos h2]; exact hd j (by omega) q hq
          · rw [if_pos h1, if_neg h2]; exact hd (j + 1) (by omega) q (by omega)
        · rw [if_neg h1, if_neg (by omega)]; exact hd (j + 1) (by omega) (q + 1) (by omega))
      omega
    · have := pigeon m k f (fun i hi => by
        have h1 := h i hi
        have h2 : f i ≠ (m : Int) + 1 := fun e => hz ⟨i, hi, e⟩
        omega) hd
      omega
theorem dis_nine {f : Nat → Int} {k : Nat} (h : dis f k) : k ≤ 9 := pigeon 9 k f (fun i hi => (h i hi).1) (fun i hi => (h i hi).2)

/-- At which party a share stands. -/
def fa (l : List (Int × Int)) (i : Nat) : Int := (l.getD i (0, 0)).1
theorem dis_okk {l : List (Int × Int)} {k : Nat} (h : dis (fa l) k) : okk l k := fun i hi => ⟨⟨(h i hi).1.1, by have := (h i hi).1.2; unfold fa at this; omega⟩, (h i hi).2⟩

/-- What is wrong with shares. -/
def She (l : List (Int × Int)) (n : Nat) (t r : Int) : Prop :=
  ((t < 0 ∨ 4 < t) ∧ r = 1) ∨ ((0 ≤ t ∧ t ≤ 4) ∧ ¬ dis (fa l) n ∧ r = 5) ∨ ((0 ≤ t ∧ t ≤ 4) ∧ dis (fa l) n ∧ (n : Int) ≤ t ∧ r = 4) ∨ ((0 ≤ t ∧ t ≤ 4) ∧ dis (fa l) n ∧ t < (n : Int) ∧ r = 0)
theorem She.one {l : List (Int × Int)} {n : Nat} {t r s : Int} (h : She l n t r) (k : She l n t s) : r = s := by
  rcases h with ⟨h1, h2⟩ | ⟨h1, h3, h2⟩ | ⟨h1, h3, h4, h2⟩ | ⟨h1, h3, h4, h2⟩ <;> rcases k with ⟨k1, k2⟩ | ⟨k1, k3, k2⟩ | ⟨k1, k3, k4, k2⟩ | ⟨k1, k3, k4, k2⟩ <;> first | omega | exact absurd k3 h3 | exact absurd h3 k3
theorem She.bd {l : List (Int × Int)} {n : Nat} {t r : Int} (h : She l n t r) : 0 ≤ r ∧ r ≤ 5 := by
  rcases h with ⟨_, h2⟩ | ⟨_, _, h2⟩ | ⟨_, _, _, h2⟩ | ⟨_, _, _, h2⟩ <;> omega
theorem She.ok {l : List (Int × Int)} {n : Nat} {t : Int} (h : She l n t 0) : 0 ≤ t ∧ t ≤ 4 ∧ dis (fa l) n ∧ t < (n : Int) ∧ n ≤ 9 := by
  rcases h with ⟨_, h2⟩ | ⟨_, _, h2⟩ | ⟨_, _, _, h2⟩ | ⟨h1, h3, h4, _⟩
  · omega
  · omega
  · omega
  · exact ⟨h1.1, h1.2, h3, h4, dis_nine h3⟩

/-- S has the first n shares. -/
def Hs (l : List (Int × Int)) (n : Nat) (S : List Int) : Prop := ∀ j, j < n → nm (ev S (l.getD j (0, 0)).1) = nm (l.getD j (0, 0)).2
/-- What Open tells. -/
def Opn (l : List (Int × Int)) (n : Nat) (t x r : Int) : Prop :=
  (She l n t r ∧ r ≠ 0 ∧ x = 0) ∨ (She l n t 0 ∧ ((∃ S : List Int, (S.length : Int) ≤ t + 1 ∧ Hs l n S ∧ x = nm (ev S 0) ∧ r = 0) ∨ ((∀ S : List Int, (S.length : Int) ≤ t + 1 → ¬ Hs l n S) ∧ x = 0 ∧ r = 6)))

/-- One polynomial of no more numbers than there are shares. -/
theorem hs_one {l : List (Int × Int)} {n : Nat} {S R : List Int} (ho : okk l n) (h : Hs l n S) (k : Hs l n R) (h1 : S.length ≤ n) (k1 : R.length ≤ n) : nrm S = nrm R := by
  have hw : ∀ j, j < n → ((List.range n).map fun i => l.getD i (0, 0)).getD j (0, 0) = l.getD j (0, 0) := fun j hj => by simp [hj]
  refine one_through (l := (List.range n).map fun i => l.getD i (0, 0)) (n := n) (by simp) (fun i hi => ?_) h1 k1 (fun j hj => ?_) (fun j hj => ?_)
  · rw [hw i hi]
    refine ⟨(ho i hi).1, fun j hj => ?_⟩
    rw [hw j (by omega)]
    exact (ho i hi).2 j hj
  · rw [hw j hj]; exact h j hj
  · rw [hw j hj]; exact k j hj
theorem ev_one {S R : List Int} (h : nrm S = nrm R) (x : Int) : nm (ev S x) = nm (ev R x) := by rw [← nrm_ev S, h, nrm_ev]

theorem Opn.one {l : List (Int × Int)} {n : Nat} {t x r y s : Int} (h : Opn l n t x r) (k : Opn l n t y s) : x = y ∧ r = s := by
  rcases h with ⟨h1, h2, h3⟩ | ⟨h1, h2⟩ <;> rcases k with ⟨k1, k2, k3⟩ | ⟨k1, k2⟩
  · exact ⟨by omega, h1.one k1⟩
  · exact absurd (h1.one k1) h2
  · exact absurd (k1.one h1) k2
  · obtain ⟨_, _, h4, h5, _⟩ := h1.ok
    rcases h2 with ⟨S, s1, s2, s3, s4⟩ | ⟨s1, s2, s3⟩ <;> rcases k2 with ⟨R, r1, r2, r3, r4⟩ | ⟨r1, r2, r3⟩
    · exact ⟨by rw [s3, r3]; exact ev_one (hs_one (dis_okk h4) s2 r2 (by omega) (by omega)) 0, by omega⟩
    · exact absurd s2 (r1 S s1)
    · exact absurd r2 (s1 R r1)
    · exact ⟨by omega, by omega⟩

/-- By what the number of party i is multiplied. -/
def Wgt (ts : List Int) (n i : Nat) (x : Int) : Prop := ∃ Q : List Int, Q.length ≤ n ∧ (∀ j, j < n → nm (ev Q (ts.getD j 0)) = if j = i then 1 else 0) ∧ x = nm (ev Q 0)
def fi (ts : List Int) (i : Nat) : Int := ts.getD i 0
theorem Wgt.one {ts : List Int} {n i : Nat} {x y : Int} (hd : dis (fi ts) n) (h : Wgt ts n i x) (k : Wgt ts n i y) : x = y := by
  obtain ⟨Q, q1, q2, rfl⟩ := h
  obtain ⟨R, r1, r2, rfl⟩ := k
  have hw : ∀ j, j < n → ((List.range n).map fun k => (ts.getD k 0, if k = i then (1 : Int) else 0)).getD j (0, 0) = (ts.getD j 0, if j = i then (1 : Int) else 0) := fun j hj => by simp [hj]
  refine ev_one (hs_one (l := (List.range n).map fun k => (ts.getD k 0, if k = i then (1 : Int) else 0)) (n := n) (fun j hj => ?_) (fun j hj => ?_) (fun j hj => ?_) q1 r1) 0
  · rw [hw j hj]
    refine ⟨⟨(hd j hj).1.1, by have := (hd j hj).1.2; unfold fi at this; simp only; omega⟩, fun q hq => ?_⟩
    rw [hw q (by omega)]
    exact (hd j hj).2 q hq
  · rw [hw j hj]
    simp only
    rw [q2 j hj]; split <;> decide
  · rw [hw j hj]
    simp only
    rw [r2 j hj]; split <;> decide
/-- Who of the first k has another number than p tells. -/
def bdl (l : List (Int × Int)) (p : List Int) : Nat → List Int
  | 0 => []
  | k + 1 => if nm (ev p (l.getD k (0, 0)).1) = nm (l.getD k (0, 0)).2 then bdl l p k else bdl l p k ++ [(l.getD k (0, 0)).1]
theorem bdl_ok {l : List (Int × Int)} {p : List Int} {k : Nat} (h : nm (ev p (l.getD k (0, 0)).1) = nm (l.getD k (0, 0)).2) : bdl l p (k + 1) = bdl l p k := by rw [bdl, if_pos h]
theorem bdl_bad {l : List (Int × Int)} {p : List Int} {k : Nat} (h : ¬ nm (ev p (l.getD k (0, 0)).1) = nm (l.getD k (0, 0)).2) : bdl l p (k + 1) = bdl l p k ++ [(l.getD k (0, 0)).1] := by rw [bdl, if_neg h]
theorem bdl_le (l : List (Int × Int)) (p : List Int) : ∀ k, (bdl l p k).length ≤ k
  | 0 => by simp [bdl]
  | k + 1 => by
    have := bdl_le l p k
    rw [bdl]; split
    · omega
    · simp; omega
/-- As a filter. -/
def badb (p : List Int) (q : Int × Int) : Bool := !decide (nm (ev p q.1) = nm q.2)
theorem bdl_take (l : List (Int × Int)) (p : List Int) : ∀ k, k ≤ l.length → bdl l p k = ((l.take k).filter (badb p)).map Prod.fst
  | 0, _ => by simp [bdl]
  | k + 1, h => by
    have ih := bdl_take l p k (by omega)
    have e : l.getD k (0, 0) = l[k]'(by omega) := by simp [List.getElem?_eq_getElem (show k < l.length by omega)]
    rw [List.take_succ_eq_append_getElem (show k < l.length by omega), List.filter_append, List.map_append, ← ih]
    by_cases hb : nm (ev p (l.getD k (0, 0)).1) = nm (l.getD k (0, 0)).2
    · rw [bdl_ok hb]
      rw [e] at hb
      simp [badb, hb]
    · rw [bdl_bad hb, e]
      rw [e] at hb
      simp [badb, hb]
theorem bdl_all (l : List (Int × Int)) (p : List Int) : bdl l p l.length = (l.filter (badb p)).map Prod.fst := by
  have := bdl_take l p l.length (Nat.le_refl _)
  rwa [List.take_length] at this
/-- The order of the shares is all one. -/
theorem bdl_perm {l k : List (Int × Int)} (h : l.Perm k) (p : List Int) : (bdl l p l.length).Perm (bdl k p k.length) := by
  rw [bdl_all, bdl_all]
  exact (h.filter _).map _
theorem badb_same {p q : List Int} (h : nrm p = nrm q) (x : Int × Int) : badb p x = badb q x := by
  unfold badb
  rw [ev_one h]
theorem bdl_same {p q : List Int} (h : nrm p = nrm q) (l : List (Int × Int)) : bdl l p l.length = bdl l q l.length := by
  rw [bdl_all, bdl_all]
  congr 1
  exact List.filter_congr fun x _ => badb_same h x

/-- Those that both polynomials have. -/
def both (l : List (Int × Int)) (p q : List Int) : List (Int × Int) := l.filter fun x => !badb p x && !badb q x
theorem both_len (l : List (Int × Int)) (p q : List Int) : l.length ≤ (both l p q).length + (l.filter (badb p)).length + (l.filter (badb q)).length := by
  unfold both
  induction l with
  | nil => simp
  | cons a l ih =>
    cases h1 : badb p a <;> cases h2 : badb q a <;> simp [h1, h2] <;> omega
theorem both_pair {l : List (Int × Int)} {n : Nat} (hl : l.length = n) (hd : dis (fa l) n) (p q : List Int) : (ats (both l p q)).Pairwise (fun a b => nm (a - b) ≠ 0) := by
  have h1 := ats_pair hl (dis_okk hd)
  unfold ats at h1 ⊢
  rw [List.pairwise_map] at h1 ⊢
  exact h1.filter _
/-- Two that have all shares but a few are one. -/
theorem dec_one {l : List (Int × Int)} {n t e : Nat} {p q : List Int} (hl : l.length = n) (hd : dis (fa l) n) (hn : t + 1 + 2 * e ≤ n) (hp : p.length ≤ t + 1) (hq : q.length ≤ t + 1) (h1 : (bdl l p n).length ≤ e) (h2 : (bdl l q n).length ≤ e) : nrm p = nrm q := by
  have hb := both_len l p q
  rw [← hl, bdl_all, List.length_map] at h1 h2
  have ha := ats_len (both l p q)
  refine same_poly (both_pair hl hd p q) (fun c hc => ?_) (by omega) (by omega)
  obtain ⟨x, hx, rfl⟩ := List.mem_map.1 hc
  unfold both at hx
  have hx2 := (List.mem_filter.1 hx).2
  simp only [Bool.and_eq_true, Bool.not_eq_true', badb, Bool.not_eq_false', decide_eq_true_eq] at hx2
  rw [hx2.1, hx2.2]

/-- A choice of shares, bit by bit; and the others. -/
def slt (l : List (Int × Int)) (s : Nat) : Nat → List (Int × Int)
  | 0 => []
  | k + 1 => if s / 2 ^ k % 2 = 1 then slt l s k ++ [l.getD k (0, 0)] else slt l s k
def ult (l : List (Int × Int)) (s : Nat) : Nat → List (Int × Int)
  | 0 => []
  | k + 1 => if s / 2 ^ k % 2 = 1 then ult l s k else ult l s k ++ [l.getD k (0, 0)]
theorem slt_perm (l : List (Int × Int)) (s : Nat) : ∀ k, k ≤ l.length → (slt l s k ++ ult l s k).Perm (l.take k)
  | 0, _ => by simp [slt, ult]
  | k + 1, h => by
    have ih := slt_perm l s k (by omega)
    have e : l.getD k (0, 0) = l[k]'(by omega) := by simp [List.getElem?_eq_getElem (show k < l.length by omega)]
    rw [List.take_succ_eq_append_getElem (show k < l.length by omega), slt, ult, e]
    split
    · rw [List.append_assoc]
      refine (List.Perm.append_left _ (List.perm_append_comm (l₁ := [l[k]]) (l₂ := ult l s k))).trans ?_
      rw [← List.append_assoc]
      exact List.Perm.append_right _ ih
    · rw [← List.append_assoc]
      exact List.Perm.append_right _ ih
/-- How many of the first n a test lets by. -/
def cnt (f : Nat → Bool) : Nat → Nat
  | 0 => 0
  | n + 1 => cnt f n + if f n then 1 else 0
theorem slt_congr (l : List (Int × Int)) {s u : Nat} : ∀ k, (∀ i, i < k → s / 2 ^ i % 2 = u / 2 ^ i % 2) → slt l s k = slt l u k
  | 0, _ => rfl
  | k + 1, h => by rw [slt, slt, h k (by omega), slt_congr l k fun i hi => h i (by omega)]
/-- So many of those that it lets by may be chosen. -/
theorem pick_bits (l : List (Int × Int)) (f : Nat → Bool) : ∀ n m, m ≤ cnt f n → ∃ s, s < 2 ^ n ∧ (slt l s n).length = m ∧ ∀ i, i < n → s / 2 ^ i % 2 = 1 → f i = true
  | 0, m, h => ⟨0, by simp, by simp [cnt] at h; simp [slt, h], fun i hi => by omega⟩
  | n + 1, m, h => by
    have hpow : 2 ^ (n + 1) = 2 ^ n + 2 ^ n := by rw [Nat.pow_succ]; omega
    by_cases hm : m ≤ cnt f n
    · obtain ⟨s, h1, h2, h3⟩ := pick_bits l f n m hm
      have h0 : s / 2 ^ n = 0 := Nat.div_eq_of_lt h1
      refine ⟨s, by omega, by rw [slt, h0, if_neg (by omega)]; exact h2, fun i hi hb => ?_⟩
      by_cases e : i = n
      · subst e; rw [h0] at hb; omega
      · exact h3 i (by omega) hb
    · rw [cnt] at h
      have hf : f n = true := by
        cases hf : f n with
        | true => rfl
        | false => rw [hf] at h; simp at h; omega
      rw [hf, if_pos rfl] at h
      obtain ⟨s, h1, h2, h3⟩ := pick_bits l f n (m - 1) (by omega)
      have hb : ∀ i, i < n → (s + 2 ^ n) / 2 ^ i % 2 = s / 2 ^ i % 2 := fun i hi => by
        have e : 2 ^ n = 2 ^ i * (2 * 2 ^ (n - i - 1)) := by
          rw [← Nat.pow_succ', ← Nat.pow_add]; congr 1; omega
        rw [e, Nat.add_mul_div_left _ _ (Nat.pow_pos (by omega))]
        omega
      have hn : (s + 2 ^ n) / 2 ^ n = 1 := by
        rw [Nat.add_div_right _ (Nat.pow_pos (by omega)), Nat.div_eq_of_lt h1]
      refine ⟨s + 2 ^ n, by omega, ?_, fun i hi hbi => ?_⟩
      · rw [slt, hn, if_pos rfl, slt_congr l n hb]
        simp
        omega
      · by_cases e : i = n
        · subst e; exact hf
        · rw [hb i (by omega)] at hbi
          exact h3 i (by omega) hbi
end
section
open Go.RowKit
/-- A list that the call gathers, of whatever one-cell elements, and one more. -/
theorem wpList_appV {P : Program} {T E : TypeId} {z : Value} {by_ : Nat} (hT : P.underlying T = some (.slice E)) (info : (P.info? E).map (fun i => (i.zero, i.size, i.bytes)) = some (some z, 1, by_)) (hz : z.cells.size = 1) (hby : by_ ≤ 100)
    (w : World) {ops : Array Oper} {rest : List Oper} {o : Oper} {a : Act} {Q : Exit → Act → World → Prop} (hgd : o.guard = none) (s x : Operand)
    (ho : o.op = .call { callee := .builtin .append, args := #[s, x], argTypes := #[T, T] })
    (base : Nat) (v : Value) (n : Nat) (xs : List Value) (hs : a.eval s = v) (hown : w.ownsRow base E 1 v n xs) (y : Value) (hy : y.oneCell' = true) (hx : a.eval x = .slice (some ⟨w.heap.size, 0, none⟩) 1 1)
    (hn : n ≤ 1000000) (hbase : base ≤ w.heap.size)
    (h : ∀ v' w', w'.ownsRow base E 1 v' (n + 1) (xs ++ [y]) → w.grownBy w' v.ownBlock → (v'.ownBlock = v.ownBlock ∨ ∃ k, v'.ownBlock = some k ∧ w.heap.size ≤ k) → wpList P ops Q rest (a.put o.dst v') w') :
    wpList P ops Q (o :: rest) a (w.alloc (.cells #[y] E)) := by
  obtain ⟨i0, hi, hz0, hz1, hz2⟩ := info_parts info
  refine wpList_append_own_at _ hgd s x T ho base E i0 z 1 by_ hT hi hz0 hz1 hz2 hz (by decide) v n _ hs (hown.alloc _) ⟨w.heap.size, 0, none⟩ 1 1 [y] hx rfl (cell_one_new _ _ _) (fun u hu => by simp at hu; subst hu; exact hy) (by unfold maxLen; omega) ?_ (by simp; omega) ?_
  · have : (n + 1) * by_ ≤ 1000001 * 100 := Nat.mul_le_mul (by omega) hby
    omega
  · intro v' w' hown' hgrow _ hat
    refine h v' w' hown' ⟨hgrow.os, hgrow.tape, hgrow.output, ?_, fun k hk hne => ?_⟩ ?_
    · have := hgrow.size; simp at this; omega
    · rw [hgrow.block k (by simp; omega) hne]; exact Below.heap_alloc _ _ _ hk
    · rcases hat with hat | hat
      · exact .inl hat
      · exact .inr ⟨_, hat, by simp⟩

theorem own_slice {w : World} {base n : Nat} {E : TypeId} {v : Value} {xs : List Value} (h : w.ownsRow base E 1 v n xs) : ∃ a c, v = .slice a n c ∧ n ≤ c := by
  rcases h.2 with ⟨rfl, rfl⟩ | ⟨g, cap, cur, rfl, _, _, hc, _⟩
  · exact ⟨none, 0, rfl, Nat.le_refl _⟩
  · exact ⟨_, _, rfl, hc⟩
/-- One element of it. -/
theorem own_at {w : World} {base n c : Nat} {E : TypeId} {a : Option Addr} {xs : List Value} (h : w.ownsRow base E 1 (.slice a n c) n xs) {k : Nat} (hk : k < n) :
    ∃ g u, a = some ⟨g, 0, none⟩ ∧ base ≤ g ∧ g < w.heap.size ∧ xs[k]? = some u ∧ w.cell? ⟨g, k, none⟩ = some u := by
  have hl : xs.length = n := by simpa using h.1
  rcases h.2 with ⟨e, rfl⟩ | ⟨g, cap, cur, e, hb, hg, h1, h2, hs, ht⟩
  · omega
  · simp only [Value.slice.injEq] at e
    obtain ⟨rfl, _, rfl⟩ := e
    have := h.cells (g := g) rfl k (xs[k]'(by omega)) (by simp [List.getElem?_eq_getElem (show k < xs.length by omega)])
    rw [Addr.add_lit] at this
    exact ⟨g, _, rfl, hb, (Array.getElem?_eq_some_iff.1 hg).1, List.getElem?_eq_getElem (by omega), by simpa using this⟩

theorem own_set {w : World} {B n c g : Nat} {E : TypeId} {xs : List Value} (h : w.ownsRow B E 1 (.slice (some ⟨g, 0, none⟩) n c) n xs) (i : Nat) (u : Value) : (w.setCell ⟨g, i, none⟩ u).ownsRow B E 1 (.slice (some ⟨g, 0, none⟩) n c) n (xs.set i u) := by
  refine ⟨by rw [List.length_set]; exact h.1, .inr ?_⟩
  rcases h.2 with ⟨e, _⟩ | ⟨g', cap, cur, e, hb, hg, h1, h2, hs, ht⟩
  · simp at e
  · simp only [Value.slice.injEq, Option.some.injEq, Addr.mk.injEq, and_true, true_and] at e
    obtain ⟨rfl, rfl⟩ := e
    refine ⟨g, c, _, rfl, hb, heap_setCell_same w g i _ _ _ hg, h1, h2, by simpa using hs, ?_⟩
    rw [← ht]
    simp [List.take_set]

theorem own_frozen {w : World} {B n c g : Nat} {E : TypeId} {xs : List Value} (h : w.ownsRow B E 1 (.slice (some ⟨g, 0, none⟩) n c) n xs) (i : Nat) : w.frozen? ⟨g, i, none⟩ = false := by
  rcases h.2 with ⟨e, _⟩ | ⟨g', cap, cur, e, hb, hg, _⟩
  · simp at e
  · simp only [Value.slice.injEq, Option.some.injEq, Addr.mk.injEq, and_true, true_and] at e
    obtain ⟨rfl, rfl⟩ := e
    exact frozen_of_row w g i _ _ hg

theorem eql_nil {P : Program} (W : World) (t e : TypeId) (a : Addr) (l c : Nat) (h : P.underlying t = some (.slice e)) : (binOp .eql t (.slice (some a) l c) (.slice none 0 0)).run P W = .ok (.bool false) W := by
  simp only [binOp]
  simp [run_equal_slice_nil W t e (some a) l c h]

/-- Columns as cells. -/
def ins (L : List Nat) : List Value := L.map fun (n : Nat) => Value.int .i64 (n : Int)
theorem ins_len (L : List Nat) : (ins L).length = L.length := by simp [ins]
theorem ins_snoc (L : List Nat) (n : Nat) : ins L ++ [.int .i64 (n : Int)] = ins (L ++ [n]) := by simp [ins]
theorem ins_at {w : World} {base n c : Nat} {E : TypeId} {a : Option Addr} {L : List Nat} (h : w.ownsRow base E 1 (.slice a n c) n (ins L)) {k : Nat} (hk : k < n) :
    ∃ g, a = some ⟨g, 0, none⟩ ∧ base ≤ g ∧ g < w.heap.size ∧ w.cell? ⟨g, k, none⟩ = some (.int .i64 ((L.getD k 0 : Nat) : Int)) := by
  have hl : L.length = n := by have := h.1; rw [ins_len] at this; omega
  obtain ⟨g, u, h1, h2, h3, h4, h5⟩ := own_at h hk
  refine ⟨g, h1, h2, h3, ?_⟩
  have : (ins L)[k]? = some (.int .i64 ((L.getD k 0 : Nat) : Int)) := by simp [ins, List.getElem?_eq_getElem (show k < L.length by omega)]
  rw [this] at h4
  rw [h5, ← Option.some.inj h4]
/-- Ints as cells. -/
def zns (L : List Int) : List Value := L.map (Value.int .i64)
theorem zns_set (L : List Int) (i : Nat) (x : Int) : (zns L).set i (.int .i64 x) = zns (L.set i x) := by simp [zns, List.map_set]
theorem zns_snoc (L : List Int) (x : Int) : zns L ++ [.int .i64 x] = zns (L ++ [x]) := by simp [zns]
theorem zns_len (L : List Int) : (zns L).length = L.length := by simp [zns]
theorem zns_at {w : World} {base n c g : Nat} {E : TypeId} {L : List Int} (h : w.ownsRow base E 1 (.slice (some ⟨g, 0, none⟩) n c) n (zns L)) {k : Nat} (hk : k < n) :
    w.cell? ⟨g, k, none⟩ = some (.int .i64 (L.getD k 0)) := by
  have hl : L.length = n := by have := h.1; rw [zns_len] at this; omega
  obtain ⟨g', u, h1, h2, h3, h4, h5⟩ := own_at h hk
  simp only [Option.some.injEq, Addr.mk.injEq, and_true] at h1
  subst h1
  rw [h5, ← h4]
  simp [zns, List.getElem?_eq_getElem (show k < L.length by omega)]
end
section
open Crm Go.RowKit
/-- The slice reads as the rows rs. -/
structure RdR (w : World) (a : Option Addr) (n c : Nat) (rs : List (List Int)) : Prop where
  len : rs.length = n
  cap : n ≤ c
  max : c ≤ maxLen
  nil : a = none → c = 0
  row : ∀ x, a = some x → ∀ i, i < n → ∃ ai ci, w.cell? (x.add i) = some (.slice ai (rs.getD i []).length ci) ∧ Rd w ai (rs.getD i []).length ci (rs.getD i [])

theorem RdR.at {w : World} {a : Option Addr} {n c : Nat} {rs : List (List Int)} (h : RdR w a n c rs) {k : Nat} (hk : k < n) :
    ∃ b o, a = some ⟨b, o, none⟩ ∧ b < w.heap.size ∧ ∀ i, i < n → ∃ ai ci, w.cell? ⟨b, o + i, none⟩ = some (.slice ai (rs.getD i []).length ci) ∧ Rd w ai (rs.getD i []).length ci (rs.getD i []) := by
  cases ha : a with
  | none => have := h.nil ha; have := h.cap; omega
  | some x =>
    obtain ⟨a0, c0, h0, _⟩ := h.row x ha 0 (by omega)
    have hs : x.spot = none := by
      have := spot_none h0
      unfold Addr.add at this
      split at this <;> simp_all
    obtain ⟨b, o, s⟩ := x
    simp only at hs
    subst hs
    refine ⟨b, o, rfl, ?_, fun i hi => by
      obtain ⟨ai, ci, h1, h2⟩ := h.row _ ha i hi
      rw [Addr.add_lit] at h1
      exact ⟨ai, ci, h1, h2⟩⟩
    have := World.block_lt_of_cell? w _ h0
    rwa [Addr.add_lit] at this

/-- One row of it, by names of its own. -/
theorem RdR.one {w : World} {a : Option Addr} {n c : Nat} {rs : List (List Int)} (h : RdR w a n c rs) {k : Nat} (hk : k < n) :
    ∃ b o ai ni ci row, a = some ⟨b, o, none⟩ ∧ b < w.heap.size ∧ Hid (rs.getD k [] = row) ∧ w.cell? ⟨b, o + k, none⟩ = some (.slice ai ni ci) ∧ Rd w ai ni ci row := by
  obtain ⟨b, o, ha, hb, hr⟩ := h.at hk
  obtain ⟨ai, ci, h1, h2⟩ := hr k hk
  exact ⟨b, o, ai, _, ci, _, ha, hb, rfl, h1, h2⟩

theorem RdR.below {w w' : World} {a : Option Addr} {n c : Nat} {rs : List (List Int)} (h : RdR w a n c rs) (hb : Below w.heap.size w w') : RdR w' a n c rs := by
  refine ⟨h.len, h.cap, h.max, h.nil, fun x hx i hi => ?_⟩
  obtain ⟨ai, ci, h1, h2⟩ := h.row x hx i hi
  exact ⟨ai, ci, by rw [hb.cell (World.block_lt_of_cell? w _ h1)]; exact h1, h2.below hb⟩

/-- The numbers of rows, by row and column. -/
def mat (rs : List (List Int)) (i j : Nat) : Int := (rs.getD i []).getD j 0
end
end Go.Proofs.Ytljlioglpaogdab
