/- croftref.Pairs: plain facts. · Slices of rows of numbers that are read. · A list of numbers that was gathered and is then written in place (Oc); the lists that croftref.Leads gathers (Bas). · A piece of a slice: x[l:h]. -/
import Derived.Test.YtljlioglpaogdagDoorToBadM
import Derived.Test.YtljlioglpaogdagDoorToGaussM
namespace Go.Proofs.YtljlioglpaogdagDoor
set_option linter.unusedVariables false
set_option maxRecDepth 100000
set_option maxHeartbeats 8000000
section
open Crm
theorem dif_yes {l : List (Int × List Int)} {n r s : Nat} {i j : Int} (hr : r < n) (hs : s < n) (ei : ta l r = i) (ej : ta l s = j) (h : nm (ev (tc l r) j) ≠ nm (ev (tc l s) i)) : Dif l n i j := ⟨r, s, hr, hs, ei, ej, h⟩
theorem dis_idx {l : List (Int × List Int)} {n r s : Nat} (hd : dis (ta l) n) (hr : r < n) (hs : s < n) (h : ta l r = ta l s) : r = s := by
  rcases Nat.lt_trichotomy r s with e | e | e
  · exact absurd h ((hd s hs).2 r e)
  · exact e
  · exact absurd h.symm ((hd r hr).2 s e)
theorem dif_no {l : List (Int × List Int)} {n r s : Nat} {i j : Int} (hd : dis (ta l) n) (hr : r < n) (hs : s < n) (ei : ta l r = i) (ej : ta l s = j) (h : nm (ev (tc l r) j) = nm (ev (tc l s) i)) : ¬ Dif l n i j := by
  rintro ⟨r', s', hr', hs', ei', ej', h'⟩
  obtain rfl := dis_idx hd hr' hr (ei'.trans ei.symm)
  obtain rfl := dis_idx hd hs' hs (ej'.trans ej.symm)
  exact h' h
theorem dif_none1 {l : List (Int × List Int)} {n : Nat} {i j : Int} (h : ∀ r, r < n → ta l r ≠ i) : ¬ Dif l n i j := by
  rintro ⟨r, s, hr, hs, ei, ej, h'⟩; exact h r hr ei
theorem dif_none2 {l : List (Int × List Int)} {n : Nat} {i j : Int} (h : ∀ r, r < n → ta l r ≠ j) : ¬ Dif l n i j := by
  rintro ⟨r, s, hr, hs, ei, ej, h'⟩; exact h s hs ej
theorem dif_bd {l : List (Int × List Int)} {n : Nat} {i j : Int} (hd : dis (ta l) n) (h : Dif l n i j) : (1 ≤ i ∧ i ≤ 9) ∧ 1 ≤ j ∧ j ≤ 9 := by
  obtain ⟨r, s, hr, hs, ei, ej, _⟩ := h
  have h1 := (hd r hr).1
  have h2 := (hd s hs).1
  omega

/-- Pairs ahead of (i, j). -/
structure Prj (l : List (Int × List Int)) (n : Nat) (i j : Int) (L : List (Int × Int)) : Prop where
  up : L.Pairwise lexp
  mem : ∀ a b, (a, b) ∈ L ↔ (a < b ∧ Dif l n a b ∧ (a < i ∨ (a = i ∧ b < j)))
theorem prj_skip {l : List (Int × List Int)} {n : Nat} {i j : Int} {L : List (Int × Int)} (h : Prj l n i j L) (hn : ¬ Dif l n i j) : Prj l n i (j + 1) L := by
  refine ⟨h.up, fun a b => ?_⟩
  rw [h.mem]
  constructor
  · rintro ⟨h1, h2, h3⟩; exact ⟨h1, h2, by omega⟩
  · rintro ⟨h1, h2, h3⟩
    refine ⟨h1, h2, ?_⟩
    by_cases e : a = i ∧ b = j
    · obtain ⟨rfl, rfl⟩ := e; exact absurd h2 hn
    · omega
theorem prj_add {l : List (Int × List Int)} {n : Nat} {i j : Int} {L : List (Int × Int)} (h : Prj l n i j L) (hij : i < j) (hd : Dif l n i j) : Prj l n i (j + 1) (L ++ [(i, j)]) := by
  refine ⟨?_, fun a b => ?_⟩
  · rw [List.pairwise_append]
    refine ⟨h.up, by simp, fun x hx y hy => ?_⟩
    rw [List.mem_singleton] at hy
    subst hy
    obtain ⟨a, b⟩ := x
    have := ((h.mem a b).1 hx).2.2
    unfold lexp
    simp only
    omega
  · rw [List.mem_append, h.mem, List.mem_singleton, Prod.mk.injEq]
    constructor
    · rintro (⟨h1, h2, h3⟩ | ⟨rfl, rfl⟩)
      · exact ⟨h1, h2, by omega⟩
      · exact ⟨hij, hd, by omega⟩
    · rintro ⟨h1, h2, h3⟩
      by_cases e : a = i ∧ b = j
      · exact .inr e
      · exact .inl ⟨h1, h2, by omega⟩
theorem prj_next {l : List (Int × List Int)} {n : Nat} {i : Int} {L : List (Int × Int)} (hd : dis (ta l) n) (h : Prj l n i 10 L) : Prj l n (i + 1) (i + 2) L := by
  refine ⟨h.up, fun a b => ?_⟩
  rw [h.mem]
  constructor
  · rintro ⟨h1, h2, h3⟩; exact ⟨h1, h2, by omega⟩
  · rintro ⟨h1, h2, h3⟩
    have := dif_bd hd h2
    exact ⟨h1, h2, by omega⟩
theorem prj_end {l : List (Int × List Int)} {n : Nat} {j : Int} {L : List (Int × Int)} (hd : dis (ta l) n) (h : Prj l n 10 j L) : Prs l n L := by
  refine ⟨h.up, fun a b => ?_⟩
  rw [h.mem]
  constructor
  · rintro ⟨h1, h2, h3⟩; exact ⟨h1, h2⟩
  · rintro ⟨h1, h2⟩
    have := dif_bd hd h2
    exact ⟨h1, h2, by omega⟩
end
section
open Crm Go.RowKit
/-- The slice reads as the rows rs. -/
structure RdR (w : World) (a : Option Addr) (n c : Nat) (rs : List (List Int)) : Prop where
  len : rs.length = n
  cap : n ≤ c
  max : c ≤ maxLen
  nil : a = none → c = 0
  row : ∀ x, a = some x → ∀ i, i < n → ∃ ai ci, w.cell? (x.add i) = some (.slice ai (rs.getD i []).length ci) ∧ Rd w ai (rs.getD i []).length ci (rs.getD i [])

theorem RdR.at {w : World} {a : Option Addr} {n c : Nat} {rs : List (List Int)} (h : RdR w a n c rs) {k : Nat} (hk : k < n) :
    ∃ b o, a = some ⟨b, o, none⟩ ∧ b < w.heap.size ∧ ∀ i, i < n → ∃ ai ci, w.cell? ⟨b, o + i, none⟩ = some (.slice ai (rs.getD i []).length ci) ∧ Rd w ai (rs.getD i []).length ci (rs.getD i []) := by
  cases ha : a with
  | none => have := h.nil ha; have := h.cap; omega
  | some x =>
    obtain ⟨a0, c0, h0, _⟩ := h.row x ha 0 (by omega)
    have hs : x.spot = none := by
      have := spot_none h0
      unfold Addr.add at this
      split at this <;> simp_all
    obtain ⟨b, o, s⟩ := x
    simp only at hs
    subst hs
    refine ⟨b, o, rfl, ?_, fun i hi => by
      obtain ⟨ai, ci, h1, h2⟩ := h.row _ ha i hi
      rw [Addr.add_lit] at h1
      exact ⟨ai, ci, h1, h2⟩⟩
    have := World.block_lt_of_cell? w _ h0
    rwa [Addr.add_lit] at this

/-- One row of it, by names of its own. -/
theorem RdR.one {w : World} {a : Option Addr} {n c : Nat} {rs : List (List Int)} (h : RdR w a n c rs) {k : Nat} (hk : k < n) :
    ∃ b o ai ni ci row, a = some ⟨b, o, none⟩ ∧ b < w.heap.size ∧ Hid (rs.getD k [] = row) ∧ w.cell? ⟨b, o + k, none⟩ = some (.slice ai ni ci) ∧ Rd w ai ni ci row := by
  obtain ⟨b, o, ha, hb, hr⟩ := h.at hk
  obtain ⟨ai, ci, h1, h2⟩ := hr k hk
  exact ⟨b, o, ai, _, ci, _, ha, hb, rfl, h1, h2⟩

theorem RdR.below {w w' : World} {a : Option Addr} {n c : Nat} {rs : List (List Int)} (h : RdR w a n c rs) (hb : Below w.heap.size w w') : RdR w' a n c rs := by
  refine ⟨h.len, h.cap, h.max, h.nil, fun x hx i hi => ?_⟩
  obtain ⟨ai, ci, h1, h2⟩ := h.row x hx i hi
  exact ⟨ai, ci, by rw [hb.cell (World.block_lt_of_cell? w _ h1)]; exact h1, h2.below hb⟩
structure Oc (w : World) (B : Nat) (a : Option Addr) (r c : Nat) (L : List Int) : Prop where
  len : L.length = r
  cap : r ≤ c
  max : c ≤ maxLen
  bd : ∀ x ∈ L, 0 ≤ x ∧ x ≤ 2147483646
  nil : a = none → c = 0
  blk : ∀ x, a = some x → ∃ (g : Nat) (cur : Array Value), x = ⟨g, 0, none⟩ ∧ B ≤ g ∧ w.heap[g]? = some (.cells cur 34 (0, 0)) ∧ cur.size = c ∧ ∀ i, i < r → cur[i]? = some (.int .u64 (L.getD i 0))

theorem Oc.at_ {w : World} {B : Nat} {a : Option Addr} {r c : Nat} {L : List Int} (h : Oc w B a r c L) {k : Nat} (hk : k < r) : ∃ g, a = some ⟨g, 0, none⟩ ∧ B ≤ g ∧ g < w.heap.size ∧ w.frozen? ⟨g, k, none⟩ = false ∧ w.cell? ⟨g, k, none⟩ = some (.int .u64 (L.getD k 0)) := by
  cases ha : a with
  | none => have := h.nil ha; have := h.cap; omega
  | some x =>
    obtain ⟨g, cur, rfl, hb, hg, hs, hc⟩ := h.blk x ha
    exact ⟨g, rfl, hb, (Array.getElem?_eq_some_iff.1 hg).1, frozen_of_row w g k _ _ hg, by rw [cell_of_row w g k _ _ (0, 0) hg]; exact hc k hk⟩
theorem Oc.nbd {w : World} {B : Nat} {a : Option Addr} {r c : Nat} {L : List Int} (h : Oc w B a r c L) (k : Nat) : 0 ≤ L.getD k 0 ∧ L.getD k 0 ≤ 2147483646 := getD_bd' h.bd k
theorem Oc.below {w : World} {B : Nat} {a : Option Addr} {r c : Nat} {L : List Int} (h : Oc w B a r c L) {w' : World} (hb : Below w.heap.size w w') : Oc w' B a r c L := by
  refine ⟨h.len, h.cap, h.max, h.bd, h.nil, fun x hx => ?_⟩
  obtain ⟨g, cur, h1, h2, h3, h4⟩ := h.blk x hx
  exact ⟨g, cur, h1, h2, by rw [hb.block g (Array.getElem?_eq_some_iff.1 h3).1]; exact h3, h4⟩
theorem Oc.drew {w : World} {B : Nat} {a : Option Addr} {r c : Nat} {L : List Int} (h : Oc w B a r c L) : Oc w.drew B a r c L := ⟨h.len, h.cap, h.max, h.bd, h.nil, h.blk⟩
theorem Oc.set {w : World} {B : Nat} {a : Option Addr} {r c : Nat} {L : List Int} (h : Oc w B a r c L) {g k : Nat} (ha : a = some ⟨g, 0, none⟩) {v : Int} (hv : 0 ≤ v ∧ v ≤ 2147483646) : Oc (w.setCell ⟨g, k, none⟩ (.int .u64 v)) B a r c (L.set k v) := by
  refine ⟨by rw [List.length_set]; exact h.len, h.cap, h.max, fun x hx => ?_, h.nil, fun x hx => ?_⟩
  · rcases List.mem_or_eq_of_mem_set hx with h1 | h1
    · exact h.bd x h1
    · rw [h1]; exact hv
  · obtain ⟨g', cur, h1, h2, h3, h4, h5⟩ := h.blk x hx
    rw [ha] at hx
    obtain rfl := Option.some.inj hx
    simp only [Addr.mk.injEq, and_true] at h1
    subst h1
    refine ⟨g, _, rfl, h2, heap_setCell_same w g k _ _ _ h3, by simpa using h4, fun i hi => ?_⟩
    rw [Array.getElem?_setIfInBounds, getD_set]
    have hcp := h.cap
    have hln := h.len
    by_cases e : k = i
    · subst e; simp [h4, hln, hi]; omega
    · rw [if_neg e, if_neg (fun hh => e hh.1)]; exact h5 i hi
theorem Oc.rd {w : World} {B : Nat} {a : Option Addr} {r c : Nat} {L : List Int} (h : Oc w B a r c L) : Rd w a r c L := by
  refine ⟨h.len, h.cap, h.max, bd_u64 h.bd, h.nil, fun x hx i hi => ?_⟩
  obtain ⟨g, cur, rfl, h2, h3, h4, h5⟩ := h.blk x hx
  rw [Addr.add_lit, Nat.zero_add, cell_of_row w g i _ _ (0, 0) h3]
  exact h5 i hi
end
section
open Go.RowKit
/-- Where a piece lies. -/
def subA (a : Option Addr) (c lo : Nat) : Option Addr := if c = lo then a else a.map (·.add lo)
theorem Rd.sub {w : World} {a : Option Addr} {n c : Nat} {xs : List Int} (h : Rd w a n c xs) {lo k : Nat} (hk : lo + k ≤ n) : Rd w (subA a c lo) k (c - lo) ((xs.drop lo).take k) := by
  have hl := h.len
  have hc := h.cap
  have hm := h.max
  refine ⟨by simp; omega, by omega, by omega, fun x hx => h.bd x (List.mem_of_mem_drop (List.mem_of_mem_take hx)), fun e => ?_, fun x hx i hi => ?_⟩
  · unfold subA at e
    split at e
    · omega
    · cases a with
      | none => have := h.nil rfl; omega
      | some y => simp at e
  · obtain ⟨b, o, rfl, _, hcell⟩ := h.at (k := lo + i) (by omega)
    unfold subA at hx
    rw [if_neg (by omega), Option.map_some] at hx
    obtain rfl := Option.some.inj hx
    rw [Addr.add_lit, Addr.add_lit, Nat.add_assoc, hcell (lo + i) (by omega)]
    congr 2
    simp [hi]
/-- .. as a walk meets it. -/
theorem run_sub {P : Program} {T E : TypeId} (hT : P.underlying T = some (.slice E)) (hE : (P.info? E).map (·.size) = some 1) (a : Option Addr) (n c lo k : Nat) {l h : Int} (hl : l = (lo : Int)) (hh : h = (lo : Int) + (k : Int)) (hc : lo + k ≤ c) (W : World) :
    (Instr.sliceAt T (.slice a n c) (some (.int .i64 l)) (some (.int .i64 h)) none).run P W = .ok (.slice (subA a c lo) k (c - lo)) W := by
  subst hl hh
  have he : P.elem T = E := by simp [Program.elem, hT]
  have hT' : P.underlying T = some (.slice (P.elem T)) := by rw [he]; exact hT
  have e1 : ((lo : Int) + (k : Int)).toNat = lo + k := by omega
  cases hi : P.info? E with
  | none => simp [hi] at hE
  | some i =>
    have hs : i.size = 1 := by simpa [hi] using hE
    rw [run_sliceAt_slice W T _ _ _ _ hT', run_slice_lh W T a n c hT' .i64 .i64 (lo : Int) ((lo : Int) + (k : Int)) (by omega) (by omega) (by omega), he, e1]
    simp [sizeOf, typeInfo, hi, hs, sliced, subA, Result.andThen]
theorem run_subl {P : Program} {T E : TypeId} (hT : P.underlying T = some (.slice E)) (hE : (P.info? E).map (·.size) = some 1) (a : Option Addr) (n c lo : Nat) {l : Int} (hl : l = (lo : Int)) (hn : lo ≤ n) (W : World) :
    (Instr.sliceAt T (.slice a n c) (some (.int .i64 l)) none none).run P W = .ok (.slice (subA a c lo) (n - lo) (c - lo)) W := by
  subst hl
  have he : P.elem T = E := by simp [Program.elem, hT]
  have hT' : P.underlying T = some (.slice (P.elem T)) := by rw [he]; exact hT
  cases hi : P.info? E with
  | none => simp [hi] at hE
  | some i =>
    have hs : i.size = 1 := by simpa [hi] using hE
    rw [run_sliceAt_slice W T _ _ _ _ hT', run_slice_l W T a n c hT' .i64 (lo : Int) (by omega) (by omega), he]
    simp [sizeOf, typeInfo, hi, hs, sliced, subA, Result.andThen]
end
end Go.Proofs.YtljlioglpaogdagDoor
