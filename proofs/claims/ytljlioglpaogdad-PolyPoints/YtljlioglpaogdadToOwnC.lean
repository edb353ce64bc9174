/- Slices of numbers that are read (Rd), rows of the call's own whose every number is known (Blk), and how both stand when the world goes on. · Slices of shares that are read. · NEWTON: a polynomial made share by share. Plain but for the list of shares. · Lists that the call gathers: of columns, of rows; one more. -/
import Derived.WalkKit
import Derived.WalkSpells
import Derived.WalkLawsBesides
import Derived.Deep.Draws
import Derived.Test.YtljlioglpaogdadToPolyM3
import Derived.Maps.AppendAt
namespace Go.Proofs.Ytljlioglpaogdad
set_option linter.unusedVariables false
set_option maxRecDepth 100000
set_option maxHeartbeats 8000000
section
open Go.RowKit
/-- The slice reads as the numbers xs. -/
structure Rd (w : World) (a : Option Addr) (n c : Nat) (xs : List Int) : Prop where
  len : xs.length = n
  cap : n ≤ c
  max : c ≤ maxLen
  bd : ∀ x ∈ xs, 0 ≤ x ∧ x ≤ 18446744073709551615
  nil : a = none → c = 0
  cell : ∀ x, a = some x → ∀ i, i < n → w.cell? (x.add i) = some (.int .u64 (xs.getD i 0))

theorem getD_bd {xs : List Int} (h : ∀ x ∈ xs, 0 ≤ x ∧ x ≤ 18446744073709551615) (i : Nat) : 0 ≤ xs.getD i 0 ∧ xs.getD i 0 ≤ 18446744073709551615 := by
  by_cases hi : i < xs.length
  · rw [List.getD_eq_getElem?_getD, List.getElem?_eq_getElem hi]; exact h _ (List.getElem_mem hi)
  · rw [List.getD_eq_getElem?_getD, List.getElem?_eq_none (by omega)]; simp

theorem spot_none {w : World} {x : Addr} {v : Value} (h : w.cell? x = some v) : x.spot = none := by
  unfold World.cell? at h
  split at h
  · split at h
    · cases h
    · rename_i hs; cases hx : x.spot <;> simp_all
  · cases h

theorem Rd.at {w : World} {a : Option Addr} {n c : Nat} {xs : List Int} (h : Rd w a n c xs) {k : Nat} (hk : k < n) :
    ∃ b o, a = some ⟨b, o, none⟩ ∧ b < w.heap.size ∧ ∀ i, i < n → w.cell? ⟨b, o + i, none⟩ = some (.int .u64 (xs.getD i 0)) := by
  cases ha : a with
  | none => have := h.nil ha; have := h.cap; omega
  | some x =>
    have h0 := h.cell x ha 0 (by omega)
    have hs : x.spot = none := by
      have := spot_none h0
      unfold Addr.add at this
      split at this <;> simp_all
    obtain ⟨b, o, s⟩ := x
    simp only at hs
    subst hs
    refine ⟨b, o, rfl, ?_, fun i hi => by have := h.cell _ ha i hi; rwa [Addr.add_lit] at this⟩
    have := World.block_lt_of_cell? w _ h0
    rwa [Addr.add_lit] at this

/-- One number of it, by a name of its own. -/
theorem Rd.one {w : World} {a : Option Addr} {n c : Nat} {xs : List Int} (h : Rd w a n c xs) {k : Nat} (hk : k < n) :
    ∃ b o x, a = some ⟨b, o, none⟩ ∧ b < w.heap.size ∧ Hid (xs.getD k 0 = x) ∧ 0 ≤ x ∧ x ≤ 18446744073709551615 ∧ w.cell? ⟨b, o + k, none⟩ = some (.int .u64 x) := by
  obtain ⟨b, o, ha, hb, hc⟩ := h.at hk
  have := getD_bd h.bd k
  exact ⟨b, o, _, ha, hb, rfl, this.1, this.2, hc k hk⟩

theorem Rd.below {w w' : World} {a : Option Addr} {n c : Nat} {xs : List Int} (h : Rd w a n c xs) (hb : Below w.heap.size w w') : Rd w' a n c xs := by
  refine ⟨h.len, h.cap, h.max, h.bd, h.nil, fun x hx i hi => ?_⟩
  have := h.cell x hx i hi
  rw [hb.cell (World.block_lt_of_cell? w _ this)]
  exact this

theorem Rd.drew {w : World} {a : Option Addr} {n c : Nat} {xs : List Int} (h : Rd w a n c xs) : Rd w.drew a n c xs := ⟨h.len, h.cap, h.max, h.bd, h.nil, h.cell⟩
theorem Rd.drewN {w : World} {a : Option Addr} {n c : Nat} {xs : List Int} (h : Rd w a n c xs) (q : Nat) : Rd (w.drewN q) a n c xs := ⟨h.len, h.cap, h.max, h.bd, h.nil, h.cell⟩
theorem Rd.grown {w w' : World} {a : Option Addr} {n c : Nat} {xs : List Int} {r : Option Nat} (h : Rd w a n c xs) (hg : w.grownBy w' r) (hne : ∀ x, a = some x → some x.block ≠ r) : Rd w' a n c xs := by
  refine ⟨h.len, h.cap, h.max, h.bd, h.nil, fun x hx i hi => ?_⟩
  refine hg.cell (h.cell x hx i hi) ?_
  have : (x.add i).block = x.block := by unfold Addr.add; split <;> rfl
  rw [this]
  exact hne x hx

/-- The whole row g holds the numbers L; it may be written. -/
def Blk (w : World) (g : Nat) (L : List Int) : Prop := w.heap[g]? = some (.cells (L.map (Value.int .u64)).toArray 23 (0, 0))

theorem Blk.lt {w : World} {g : Nat} {L : List Int} (h : Blk w g L) : g < w.heap.size := (Array.getElem?_eq_some_iff.1 h).1
theorem Blk.cell {w : World} {g : Nat} {L : List Int} (h : Blk w g L) {i : Nat} (hi : i < L.length) : w.cell? ⟨g, i, none⟩ = some (.int .u64 (L.getD i 0)) := by
  rw [cell_of_row w g i _ _ (0, 0) h]
  simp [List.getElem?_eq_getElem hi]
theorem Blk.frozen {w : World} {g : Nat} {L : List Int} (h : Blk w g L) (i : Nat) : w.frozen? ⟨g, i, none⟩ = false := frozen_of_row w g i _ _ h
theorem Blk.set {w : World} {g : Nat} {L : List Int} (h : Blk w g L) (i : Nat) (v : Int) : Blk (w.setCell ⟨g, i, none⟩ (.int .u64 v)) g (L.set i v) := by
  have := heap_setCell_same w g i _ _ (.int .u64 v) h
  unfold Blk
  rw [this]
  simp [List.map_set]
theorem grown_set (w : World) (g i : Nat) (v : Value) : w.grownBy (w.setCell ⟨g, i, none⟩ v) (some g) :=
  ⟨rfl, rfl, rfl, by simp, fun k _ hk => heap_setCell_other w ⟨g, i, none⟩ k v (fun e => hk (by simp [e]))⟩
theorem grown_trans {a b c : World} {r : Option Nat} (h : a.grownBy b r) (k : b.grownBy c r) : a.grownBy c r :=
  ⟨k.os.trans h.os, k.tape.trans h.tape, k.output.trans h.output, Nat.le_trans h.size k.size, fun i hi hr => (k.block i (Nat.lt_of_lt_of_le hi h.size) hr).trans (h.block i hi hr)⟩
theorem grown_drew {a b : World} {r : Option Nat} (h : a.grownBy b r) : a.grownBy b.drew r := ⟨h.os, h.tape, h.output, h.size, h.block⟩
theorem Blk.below {w w' : World} {B g : Nat} {L : List Int} (h : Blk w g L) (hb : Below B w w') (hg : g < B) : Blk w' g L := by
  unfold Blk; rw [hb.block g hg]; exact h
theorem Blk.grown {w w' : World} {g : Nat} {r : Option Nat} {L : List Int} (h : Blk w g L) (hb : w.grownBy w' r) (hg : some g ≠ r) : Blk w' g L := by
  unfold Blk; rw [hb.block g h.lt hg]; exact h
theorem Blk.rd {w : World} {g : Nat} {L : List Int} (h : Blk w g L) (o n c : Nat) (hc : n ≤ c) (hm : c ≤ maxLen) (hn : o + n ≤ L.length) (hL : ∀ x ∈ L, 0 ≤ x ∧ x ≤ 18446744073709551615) : Rd w (some ⟨g, o, none⟩) n c ((L.drop o).take n) := by
  refine ⟨by simp; omega, hc, hm, fun x hx => hL x (List.mem_of_mem_drop (List.mem_of_mem_take hx)), by simp, fun x hx i hi => ?_⟩
  obtain rfl := Option.some.inj hx
  rw [Addr.add_lit, h.cell (by omega)]
  congr 2
  simp [hi]
theorem Blk.whole {w : World} {g : Nat} {L : List Int} (h : Blk w g L) (n : Nat) (hn : n = L.length) (hm : n ≤ maxLen) (hL : ∀ x ∈ L, 0 ≤ x ∧ x ≤ 18446744073709551615) : Rd w (some ⟨g, 0, none⟩) n n L := by
  have := h.rd 0 n n (Nat.le_refl _) hm (by omega) hL
  rwa [List.drop_zero, List.take_of_length_le (by omega)] at this
theorem Blk.made {w : World} {base g n : Nat} (h : w.ownsRow base 23 1 (.slice (some ⟨g, 0, none⟩) n n) n (madeCells (Value.int .u64 0).cells (n * 1)).toList) : Blk w g (List.replicate n 0) := by
  rcases h.2 with ⟨h', _⟩ | ⟨g', cap', cur, h', _, hg, _, _, hs, htake⟩
  · simp at h'
  · simp only [Value.slice.injEq, Option.some.injEq, Addr.mk.injEq, and_true, true_and] at h'
    obtain ⟨rfl, rfl⟩ := h'
    have e : (Value.int IntKind.u64 0).cells = #[Value.int .u64 0] := rfl
    rw [e, Nat.mul_one, toList_madeCells_one] at htake
    unfold Blk
    rw [hg]
    congr 2
    rw [List.take_of_length_le (by simp at hs; simp [hs])] at htake
    have : cur = (List.replicate n (Value.int .u64 0)).toArray := by rw [← htake]
    rw [this]
    simp

/-- What append has gathered reads as the numbers that it gathered. -/
theorem Rd.own {w : World} {base n : Nat} {v : Value} {xs : List Int} (h : w.ownsRow base 23 1 v n (xs.map (Value.int .u64))) (hx : ∀ x ∈ xs, 0 ≤ x ∧ x ≤ 18446744073709551615) :
    ∃ a c, v = .slice a n c ∧ Rd w a n c xs ∧ ∀ x, a = some x → base ≤ x.block := by
  have hl : xs.length = n := by simpa using h.1
  rcases h.2 with ⟨rfl, rfl⟩ | ⟨g, cap, cur, rfl, hb, hg, h1, h2, hs, ht⟩
  · exact ⟨none, 0, rfl, ⟨hl, Nat.le_refl _, Nat.zero_le _, hx, fun _ => rfl, by simp⟩, by simp⟩
  · refine ⟨_, _, rfl, ⟨hl, h1, h2, hx, by simp, fun x hx i hi => ?_⟩, fun x hx => by obtain rfl := Option.some.inj hx; exact hb⟩
    obtain rfl := Option.some.inj hx
    have := h.cells (g := g) rfl i (.int .u64 (xs.getD i 0)) (by simp [List.getElem?_eq_getElem (show i < xs.length by omega)])
    exact this

theorem grown_below {w w' : World} (h : Below w.heap.size w w') (r : Option Nat) : w.grownBy w' r := ⟨h.os, h.tape, h.output, h.size, fun k hk _ => h.block k hk⟩
theorem below_grown {w0 w w' : World} {g : Nat} (h : Below w0.heap.size w0 w) (hg : w.grownBy w' (some g)) (hl : w0.heap.size ≤ g) : Below w0.heap.size w0 w' :=
  h.grown hg h.size (fun k hk => by simp at hk; omega)
end
section
open Crm Go.RowKit
/-- The slice reads as the shares l: of each its At and its Y. -/
structure RdS (w : World) (a : Option Addr) (n c : Nat) (l : List (Int × Int)) : Prop where
  len : l.length = n
  cap : n ≤ c
  max : c ≤ maxLen
  bd : ∀ i, i < n → (-9223372036854775808 ≤ (l.getD i (0, 0)).1 ∧ (l.getD i (0, 0)).1 ≤ 9223372036854775807) ∧ 0 ≤ (l.getD i (0, 0)).2 ∧ (l.getD i (0, 0)).2 ≤ 18446744073709551615
  nil : a = none → c = 0
  cell : ∀ x, a = some x → ∀ i, i < n → w.cell? (x.add (i * 2)) = some (.int .i64 (l.getD i (0, 0)).1) ∧ w.cell? (x.add (i * 2 + 1)) = some (.int .u64 (l.getD i (0, 0)).2)

theorem RdS.at {w : World} {a : Option Addr} {n c : Nat} {l : List (Int × Int)} (h : RdS w a n c l) {k : Nat} (hk : k < n) :
    ∃ b o, a = some ⟨b, o, none⟩ ∧ b < w.heap.size ∧ ∀ i, i < n → w.cell? ⟨b, o + i * 2, none⟩ = some (.int .i64 (l.getD i (0, 0)).1) ∧ w.cell? ⟨b, o + i * 2 + 1, none⟩ = some (.int .u64 (l.getD i (0, 0)).2) := by
  cases ha : a with
  | none => have := h.nil ha; have := h.cap; omega
  | some x =>
    have h0 := (h.cell x ha 0 (by omega)).1
    have hs : x.spot = none := by
      have := spot_none h0
      unfold Addr.add at this
      split at this <;> simp_all
    obtain ⟨b, o, s⟩ := x
    simp only at hs
    subst hs
    refine ⟨b, o, rfl, ?_, fun i hi => by have := h.cell _ ha i hi; rwa [Addr.add_lit, Addr.add_lit, ← Nat.add_assoc] at this⟩
    have := World.block_lt_of_cell? w _ h0
    rwa [Addr.add_lit] at this

/-- One share of it, by names of its own. -/
theorem RdS.one {w : World} {a : Option Addr} {n c : Nat} {l : List (Int × Int)} (h : RdS w a n c l) {k : Nat} (hk : k < n) :
    ∃ b o x y, a = some ⟨b, o, none⟩ ∧ b < w.heap.size ∧ Hid ((l.getD k (0, 0)).1 = x) ∧ Hid ((l.getD k (0, 0)).2 = y) ∧ -9223372036854775808 ≤ x ∧ x ≤ 9223372036854775807 ∧ 0 ≤ y ∧ y ≤ 18446744073709551615 ∧ w.cell? ⟨b, o + k * 2, none⟩ = some (.int .i64 x) ∧ w.cell? ⟨b, o + k * 2 + 1, none⟩ = some (.int .u64 y) := by
  obtain ⟨b, o, ha, hb, hc⟩ := h.at hk
  have := h.bd k hk
  exact ⟨b, o, _, _, ha, hb, rfl, rfl, this.1.1, this.1.2, this.2.1, this.2.2, (hc k hk).1, (hc k hk).2⟩

theorem RdS.below {w w' : World} {a : Option Addr} {n c : Nat} {l : List (Int × Int)} (h : RdS w a n c l) (hb : Below w.heap.size w w') : RdS w' a n c l := by
  refine ⟨h.len, h.cap, h.max, h.bd, h.nil, fun x hx i hi => ?_⟩
  have := h.cell x hx i hi
  rw [hb.cell (World.block_lt_of_cell? w _ this.1), hb.cell (World.block_lt_of_cell? w _ this.2)]
  exact this

/-- The first k shares stand at places, no two at one. -/
def okk (l : List (Int × Int)) (k : Nat) : Prop := ∀ i, i < k → (1 ≤ (l.getD i (0, 0)).1 ∧ (l.getD i (0, 0)).1 ≤ 2147483646) ∧ ∀ j, j < i → (l.getD j (0, 0)).1 ≠ (l.getD i (0, 0)).1
theorem okk_zero (l : List (Int × Int)) : okk l 0 := fun i hi => by omega
theorem okk_succ {l : List (Int × Int)} {k : Nat} {x : Int} (h : okk l k) (hx : (l.getD k (0, 0)).1 = x) (h1 : 1 ≤ x) (h2 : x ≤ 2147483646) (h3 : ∀ j, j < k → (l.getD j (0, 0)).1 ≠ x) : okk l (k + 1) := by
  intro i hi
  by_cases e : i = k
  · subst e; rw [hx]; exact ⟨⟨h1, h2⟩, h3⟩
  · exact h i (by omega)
end
section
open Crm
structure NwI (l : List (Int × Int)) (n k : Nat) (S Z : List Int) : Prop where
  ls : S.length = n
  lz : Z.length = k + 1
  bs : ∀ x ∈ S, 0 ≤ x ∧ x ≤ 2147483646
  bz : ∀ x ∈ Z, 0 ≤ x ∧ x ≤ 2147483646
  s : ∀ j, j < k → nm (ev S (l.getD j (0, 0)).1) = nm (l.getD j (0, 0)).2
  z0 : ∀ j, j < k → nm (ev Z (l.getD j (0, 0)).1) = 0
  z1 : ∀ j, k ≤ j → j < n → nm (ev Z (l.getD j (0, 0)).1) ≠ 0

theorem nw_start (l : List (Int × Int)) (n : Nat) : NwI l n 0 (List.replicate n 0) [1] := by
  refine ⟨by simp, rfl, fun x hx => by rw [List.eq_of_mem_replicate hx]; omega, fun x hx => by rw [List.mem_singleton.1 hx]; omega, fun j hj => by omega, fun j hj => by omega, fun j _ _ => ?_⟩
  rw [ev, ev, Int.mul_zero]
  decide

theorem ats_apart {l : List (Int × Int)} {n i j : Nat} (h : okk l n) (hi : i < n) (hj : j < n) (hij : i ≠ j) : nm ((l.getD i (0, 0)).1 - (l.getD j (0, 0)).1) ≠ 0 := by
  have h1 := (h i hi).1
  have h2 := (h j hj).1
  have h3 : (l.getD i (0, 0)).1 ≠ (l.getD j (0, 0)).1 := by
    rcases Nat.lt_or_ge i j with hlt | hge
    · exact (h j hj).2 i hlt
    · exact fun e => (h i hi).2 j (by omega) e.symm
  unfold nm
  omega

theorem ev_pair (a b x : Int) : ev [a, b] x = a + x * b := by
  rw [ev, ev, ev, Int.mul_zero, Int.add_zero]

theorem nw_step {l : List (Int × Int)} {n k : Nat} {S Z : List Int} (h : NwI l n k S Z) (hk : k < n) (ho : okk l n) {x y t : Int} (hx : (l.getD k (0, 0)).1 = x) (hy : (l.getD k (0, 0)).2 = y)
    (ht : t = nm (nm (y - nm (ev S x)) * iv (nm (ev Z x)))) : NwI l n (k + 1) (addAt S 0 Z t (k + 1)) (cvl Z [nm (-x), 1]) := by
  have hE : nm (ev Z x) ≠ 0 := by rw [← hx]; exact h.z1 k (Nat.le_refl _) hk
  have hadd : ∀ u, nm (ev (addAt S 0 Z t (k + 1)) u) = nm (ev S u + t * ev Z u) := fun u => by rw [← h.lz]; exact addAt_ev S Z t u (by rw [h.lz, h.ls]; omega)
  have hmul : ∀ u, nm (ev (cvl Z [nm (-x), 1]) u) = nm (ev Z u * (u - x)) := fun u => by
    rw [cvl_ev]
    refine nm_mul_congr rfl ?_
    rw [ev_pair, Int.mul_one, nm_addl]
    congr 1; omega
  refine ⟨by rw [addAt_len, h.ls], by rw [cvl_len, h.lz]; simp, addAt_bd' h.bs _ _ _ _, cvl_bd _ _, ?_, ?_, ?_⟩
  · intro j hj
    rw [hadd]
    by_cases e : j = k
    · subst e
      rw [hx, hy]
      have h1 : nm (t * ev Z x) = nm (y - ev S x) := by
        rw [ht, nm_mull, Int.mul_assoc, iv_nm, ← nm_mulr, iv_mul hE, Int.mul_one, nm_nm, nm_subr]
      rw [nm_add_congr (c := ev S x) (d := y - ev S x) rfl h1]
      congr 1; omega
    · rw [nm_add_congr (c := ev S (l.getD j (0, 0)).1) (d := t * 0) rfl (nm_mul_congr rfl (h.z0 j (by omega))), Int.mul_zero, Int.add_zero]
      exact h.s j (by omega)
  · intro j hj
    rw [hmul]
    by_cases e : j = k
    · subst e
      rw [hx, Int.sub_self, Int.mul_zero]; rfl
    · rw [nm_mul_congr (c := 0) (h.z0 j (by omega)) rfl, Int.zero_mul]; rfl
  · intro j h1 h2 e
    rw [hmul] at e
    have h3 := nm_mul_zero e (h.z1 j (by omega) h2)
    rw [← hx] at h3
    exact ats_apart ho h2 hk (by omega) h3

/-- The places, one by one. -/
def ats (l : List (Int × Int)) : List Int := l.map Prod.fst
theorem ats_pair {l : List (Int × Int)} {n : Nat} (hl : l.length = n) (h : okk l n) : (ats l).Pairwise (fun a b => nm (a - b) ≠ 0) := by
  unfold ats
  rw [List.pairwise_map, List.pairwise_iff_getElem]
  intro i j hi hj hij
  have := ats_apart h (show i < n by omega) (show j < n by omega) (by omega)
  simpa [List.getElem?_eq_getElem hi, List.getElem?_eq_getElem hj] using this
theorem ats_mem {l : List (Int × Int)} {c : Int} (h : c ∈ ats l) : ∃ j, j < l.length ∧ (l.getD j (0, 0)).1 = c := by
  obtain ⟨p, hp, rfl⟩ := List.mem_map.1 h
  obtain ⟨j, hj, rfl⟩ := List.getElem_of_mem hp
  exact ⟨j, hj, by simp [List.getElem?_eq_getElem hj]⟩
theorem ats_len (l : List (Int × Int)) : (ats l).length = l.length := by simp [ats]
/-- Through the shares goes one polynomial of no more numbers than they are. -/
theorem one_through {l : List (Int × Int)} {n : Nat} {p q : List Int} (hl : l.length = n) (h : okk l n) (hp : p.length ≤ n) (hq : q.length ≤ n)
    (h1 : ∀ j, j < n → nm (ev p (l.getD j (0, 0)).1) = nm (l.getD j (0, 0)).2) (h2 : ∀ j, j < n → nm (ev q (l.getD j (0, 0)).1) = nm (l.getD j (0, 0)).2) : nrm p = nrm q := by
  refine same_poly (ats_pair hl h) (fun c hc => ?_) (by rw [ats_len]; omega) (by rw [ats_len]; omega)
  obtain ⟨j, hj, rfl⟩ := ats_mem hc
  rw [h1 j (by omega), h2 j (by omega)]
end
section
open Go.RowKit
/-- One element of it. -/
theorem own_at {w : World} {base n c : Nat} {E : TypeId} {a : Option Addr} {xs : List Value} (h : w.ownsRow base E 1 (.slice a n c) n xs) {k : Nat} (hk : k < n) :
    ∃ g u, a = some ⟨g, 0, none⟩ ∧ base ≤ g ∧ g < w.heap.size ∧ xs[k]? = some u ∧ w.cell? ⟨g, k, none⟩ = some u := by
  have hl : xs.length = n := by simpa using h.1
  rcases h.2 with ⟨e, rfl⟩ | ⟨g, cap, cur, e, hb, hg, h1, h2, hs, ht⟩
  · omega
  · simp only [Value.slice.injEq] at e
    obtain ⟨rfl, _, rfl⟩ := e
    have := h.cells (g := g) rfl k (xs[k]'(by omega)) (by simp [List.getElem?_eq_getElem (show k < xs.length by omega)])
    rw [Addr.add_lit] at this
    exact ⟨g, _, rfl, hb, (Array.getElem?_eq_some_iff.1 hg).1, List.getElem?_eq_getElem (by omega), by simpa using this⟩

/-- Ints as cells. -/
def zns (L : List Int) : List Value := L.map (Value.int .i64)
theorem zns_len (L : List Int) : (zns L).length = L.length := by simp [zns]
theorem zns_at {w : World} {base n c g : Nat} {E : TypeId} {L : List Int} (h : w.ownsRow base E 1 (.slice (some ⟨g, 0, none⟩) n c) n (zns L)) {k : Nat} (hk : k < n) :
    w.cell? ⟨g, k, none⟩ = some (.int .i64 (L.getD k 0)) := by
  have hl : L.length = n := by have := h.1; rw [zns_len] at this; omega
  obtain ⟨g', u, h1, h2, h3, h4, h5⟩ := own_at h hk
  simp only [Option.some.injEq, Addr.mk.injEq, and_true] at h1
  subst h1
  rw [h5, ← h4]
  simp [zns, List.getElem?_eq_getElem (show k < L.length by omega)]
end
end Go.Proofs.Ytljlioglpaogdad
