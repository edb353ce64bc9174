/- Lists of rows of numbers, each row the call's own, no two of them one. · Two lists of rows, all rows of both the call's own, no two of them one. -/
import Derived.Test.YtljlioglpaogdabToSubC
import Derived.Test.YtljlioglpaogdabToCheckC
import Derived.Deep.AppendLies
import Derived.Deep.RegionLaw
namespace Go.Proofs.Ytljlioglpaogdab
set_option linter.unusedVariables false
set_option maxRecDepth 100000
set_option maxHeartbeats 8000000
section
open Crm Go.RowKit
/-- A list of rows that the call gathers, each row the call's own. -/
structure LsV (w : World) (B : Nat) (v : Value) (L : List Value) (rows : List (List Int)) : Prop where
  own : w.ownsRow B 23 1 v rows.length L
  len : L.length = rows.length
  row : ∀ i, i < rows.length → w.ownsRow B 28 1 (L.getD i (.slice none 0 0)) (rows.getD i []).length ((rows.getD i []).map (Value.int .u64))
  inj : ∀ i j, i < j → j < rows.length → (L.getD i (.slice none 0 0)).ownBlock = none ∨ (L.getD i (.slice none 0 0)).ownBlock ≠ (L.getD j (.slice none 0 0)).ownBlock
theorem LsV.below {w w' : World} {B : Nat} {v : Value} {L : List Value} {rows : List (List Int)} (h : LsV w B v L rows) (hb : Below w.heap.size w w') : LsV w' B v L rows :=
  ⟨own_below h.own hb, h.len, fun i hi => own_below (h.row i hi) hb, h.inj⟩
theorem LsV.drew {w : World} {B : Nat} {v : Value} {L : List Value} {rows : List (List Int)} (h : LsV w B v L rows) : LsV w.drew B v L rows := ⟨h.own, h.len, h.row, h.inj⟩
theorem LsV.drewN {w : World} {B : Nat} {v : Value} {L : List Value} {rows : List (List Int)} (h : LsV w B v L rows) (q : Nat) : LsV (w.drewN q) B v L rows := ⟨h.own, h.len, h.row, h.inj⟩
/-- When a list of other elements, or one that lies elsewhere, grows. -/
theorem LsV.grown {w w' : World} {B : Nat} {v : Value} {L : List Value} {rows : List (List Int)} {r : Option Nat} (h : LsV w B v L rows) (hg : w.grownBy w' r) (h1 : v.ownBlock = none ∨ v.ownBlock ≠ r) (h2 : ∀ i, i < rows.length → (L.getD i (.slice none 0 0)).ownBlock = none ∨ (L.getD i (.slice none 0 0)).ownBlock ≠ r) : LsV w' B v L rows :=
  ⟨h.own.kept hg h1, h.len, fun i hi => (h.row i hi).kept hg (h2 i hi), h.inj⟩
/-- Rows that are made, none of them filled. -/
theorem lsv_made {w : World} {B n : Nat} {v : Value} (h : w.ownsRow B 23 1 v n (madeCells (Value.slice none 0 0).cells (n * 1)).toList) : LsV w B v (List.replicate n (.slice none 0 0)) (List.replicate n []) := by
  have e : (Value.slice none 0 0).cells = #[Value.slice none 0 0] := rfl
  rw [e, Nat.mul_one, toList_madeCells_one] at h
  have g1 : ∀ i, (List.replicate n (Value.slice none 0 0)).getD i (.slice none 0 0) = .slice none 0 0 := fun i => by
    rw [List.getD_eq_getElem?_getD, List.getElem?_replicate]; split <;> rfl
  have g2 : ∀ i, (List.replicate n ([] : List Int)).getD i [] = [] := fun i => by
    rw [List.getD_eq_getElem?_getD, List.getElem?_replicate]; split <;> rfl
  refine ⟨by rw [List.length_replicate]; exact h, by simp, fun i _ => ?_, fun i j _ _ => by rw [g1]; exact .inl rfl⟩
  rw [g1, g2]
  exact World.ownsRow_nil _ _ _ _
theorem getD_setV {α : Type} (l : List α) (q i : Nat) (x d : α) (hq : q < l.length) : (l.set q x).getD i d = if i = q then x else l.getD i d := by
  by_cases e : i = q
  · subst e; rw [if_pos rfl]; simp [hq]
  · rw [if_neg e]; simp [show ¬ q = i from fun e' => e e'.symm]
/-- A row grows, and is laid at its place again. -/
theorem LsV.upd {w w7 : World} {B g n c q : Nat} {u' : Value} {L : List Value} {rows : List (List Int)} {row : List Int} (h : LsV w B (.slice (some ⟨g, 0, none⟩) n c) L rows) (hl : rows.length = n) (hq : q < n)
    (hr : w7.ownsRow B 28 1 u' row.length (row.map (Value.int .u64))) (hg : w.grownBy w7 (L.getD q (.slice none 0 0)).ownBlock) (hat : u'.ownBlock = (L.getD q (.slice none 0 0)).ownBlock ∨ ∃ k, u'.ownBlock = some k ∧ w.heap.size ≤ k) :
    LsV (w7.setCell ⟨g, q, none⟩ u') B (.slice (some ⟨g, 0, none⟩) n c) (L.set q u') (rows.set q row) := by
  have hL := h.len
  have hE : (23 : TypeId) ≠ 28 := by decide
  have hE' : (28 : TypeId) ≠ 23 := by decide
  have hg2 : w7.grownBy (w7.setCell ⟨g, q, none⟩ u') (some g) := grown_set _ _ _ _
  have ho7 := h.own.kept hg (own_apart (h.row q (by omega)) h.own hE')
  rw [hl] at ho7
  have hne : ∀ i, i < n → i ≠ q → (L.getD i (.slice none 0 0)).ownBlock = none ∨ (L.getD i (.slice none 0 0)).ownBlock ≠ (L.getD q (.slice none 0 0)).ownBlock := fun i hi hiq => by
    rcases Nat.lt_or_ge i q with e | e
    · exact h.inj i q e (by omega)
    · rcases h.inj q i (by omega) (by omega) with e1 | e1
      · by_cases hn : (L.getD i (.slice none 0 0)).ownBlock = none
        · exact .inl hn
        · exact .inr (by rw [e1]; exact hn)
      · exact .inr (fun e2 => e1 e2.symm)
  have hnew : ∀ i, i < n → i ≠ q → (L.getD i (.slice none 0 0)).ownBlock = none ∨ (L.getD i (.slice none 0 0)).ownBlock ≠ u'.ownBlock := fun i hi hiq => by
    rcases hat with e | ⟨k, e, hk⟩
    · rw [e]; exact hne i hi hiq
    · cases hb : (L.getD i (.slice none 0 0)).ownBlock with
      | none => exact .inl rfl
      | some p =>
        right
        rw [e]
        intro e'
        have := ((h.row i (by omega)).lt p hb).2
        simp only [Option.some.injEq] at e'
        omega
  refine ⟨by rw [List.length_set, hl]; exact own_set ho7 q u', by simp [hL], fun i hi => ?_, fun i j hij hj => ?_⟩
  · rw [List.length_set] at hi
    rw [getD_setV _ _ _ _ _ (by omega), getD_setV _ _ _ _ _ (by omega)]
    by_cases e : i = q
    · rw [if_pos e, if_pos e]
      exact hr.kept hg2 (own_apart ho7 hr hE)
    · rw [if_neg e, if_neg e]
      have h7 := (h.row i (by omega)).kept hg (hne i (by omega) e)
      exact h7.kept hg2 (own_apart ho7 h7 hE)
  · rw [List.length_set] at hj
    rw [getD_setV _ _ _ _ _ (by omega), getD_setV _ _ _ _ _ (by omega)]
    by_cases e : i = q
    · rw [if_pos e, if_neg (by omega)]
      rcases hnew j (by omega) (by omega) with e1 | e1
      · by_cases hu : u'.ownBlock = none
        · exact .inl hu
        · exact .inr (by rw [e1]; exact hu)
      · exact .inr (fun e2 => e1 e2.symm)
    · rw [if_neg e]
      by_cases e' : j = q
      · rw [if_pos e']; exact hnew i (by omega) e
      · rw [if_neg e']; exact h.inj i j hij hj
theorem own_baseV {w : World} {B B' n z : Nat} {E : TypeId} {v : Value} {xs : List Value} (h : w.ownsRow B E z v n xs) (hB : B' ≤ B) : w.ownsRow B' E z v n xs := by
  refine ⟨h.1, ?_⟩
  rcases h.2 with h1 | ⟨g, cap, cur, e, hb, h2⟩
  · exact .inl h1
  · exact .inr ⟨g, cap, cur, e, Nat.le_trans hB hb, h2⟩
theorem LsV.base {w : World} {B B' : Nat} {v : Value} {L : List Value} {rows : List (List Int)} (h : LsV w B v L rows) (hB : B' ≤ B) : LsV w B' v L rows :=
  ⟨own_baseV h.own hB, h.len, fun i hi => own_baseV (h.row i hi) hB, h.inj⟩
/-- Its cells. -/
theorem LsV.cell {w : World} {B n c g q : Nat} {L : List Value} {rows : List (List Int)} (h : LsV w B (.slice (some ⟨g, 0, none⟩) n c) L rows) (hl : rows.length = n) (hq : q < n) : w.cell? ⟨g, q, none⟩ = some (L.getD q (.slice none 0 0)) ∧ w.frozen? ⟨g, q, none⟩ = false ∧ g < w.heap.size := by
  have ho := h.own
  rw [hl] at ho
  have hL := h.len
  obtain ⟨g', u, e1, e2, e3, e4, e5⟩ := own_at ho hq
  simp only [Option.some.injEq, Addr.mk.injEq, and_true] at e1
  subst e1
  refine ⟨?_, own_frozen ho q, e3⟩
  rw [e5, ← e4]
  simp [List.getElem?_eq_getElem (show q < L.length by omega)]
/-- One row of it. -/
theorem LsV.one {w : World} {B n q : Nat} {v : Value} {L : List Value} {rows : List (List Int)} (h : LsV w B v L rows) (hl : rows.length = n) (hq : q < n) (hb : ∀ x ∈ rows.getD q [], 0 ≤ x ∧ x ≤ 18446744073709551615) : ∃ a c, L.getD q (.slice none 0 0) = .slice a (rows.getD q []).length c ∧ Rd w a (rows.getD q []).length c (rows.getD q []) := by
  obtain ⟨a, c, e, hr, _⟩ := Rd.own (h.row q (by omega)) hb
  exact ⟨a, c, e, hr⟩
/-- It reads as its rows. -/
theorem LsV.rdR {w : World} {B n : Nat} {v : Value} {L : List Value} {rows : List (List Int)} (h : LsV w B v L rows) (hl : rows.length = n) (hb : ∀ i, i < n → ∀ x ∈ rows.getD i [], 0 ≤ x ∧ x ≤ 18446744073709551615) : ∃ a c, v = .slice a n c ∧ RdR w a n c rows := by
  have ho := h.own
  rw [hl] at ho
  have hL := h.len
  rcases ho.2 with ⟨rfl, rfl⟩ | ⟨g, cap, cur, rfl, hb', hg, h1, h2, hs, ht⟩
  · exact ⟨none, 0, rfl, hl, Nat.le_refl _, Nat.zero_le _, fun _ => rfl, by simp⟩
  · refine ⟨_, _, rfl, hl, h1, h2, by simp, fun x hx i hi => ?_⟩
    obtain rfl := Option.some.inj hx
    obtain ⟨a, c, e, hr⟩ := h.one hl hi (hb i hi)
    refine ⟨a, c, ?_, hr⟩
    have := ho.cells (g := g) rfl i (L.getD i (.slice none 0 0)) (by simp [List.getElem?_eq_getElem (show i < L.length by omega)])
    rw [this, e]
/-- append of one number to a slice that the call itself gathers, a step of a region that draws; where it lies. -/
theorem step_appL {P : Program} {T E : TypeId} (hT : P.underlying T = some (.slice E)) (info : (P.info? E).map (fun i => (i.zero, i.size, i.bytes)) = some (some (.int .u64 0), 1, 8))
    (w : World) {w1 : World} {ops : Array Oper} {o : Oper} {a : Act} {K : Act → World → Prop} {Q : Exit → Act → World → Prop} {F : Prop} (hgd : o.guard = none) (s x : Operand)
    (ho : o.op = .call { callee := .builtin .append, args := #[s, x], argTypes := #[T, T] })
    (base : Nat) (v : Value) (n : Nat) (xs : List Int) (hs : a.eval s = v) (hown : w.ownsRow base E 1 v n (xs.map (Value.int .u64))) (y : Int) (hx : a.eval x = .slice (some ⟨w.heap.size, 0, none⟩) 1 1)
    (hw1 : w1 = w.alloc (.cells #[.int .u64 y] E)) (hn : n ≤ 1000000) (hbase : base ≤ w.heap.size)
    (h : ∀ g cap w', w'.ownsRow base E 1 (.slice (some ⟨g, 0, none⟩) (n + 1) cap) (n + 1) ((xs ++ [y]).map (Value.int .u64)) → w.grownBy w' v.ownBlock → ((Value.slice (some ⟨g, 0, none⟩) (n + 1) cap).ownBlock = v.ownBlock ∨ ∃ k, (Value.slice (some ⟨g, 0, none⟩) (n + 1) cap).ownBlock = some k ∧ w.heap.size ≤ k) → K (a.put o.dst (.slice (some ⟨g, 0, none⟩) (n + 1) cap)) w') :
    if Region.wanted o (yielded ops a.tmps) = true then Oper.wp P o a w1 K Q else F := by
  subst hw1
  obtain ⟨i0, hi, hz0, hz1, hz2⟩ := info_parts info
  refine step_append_lies _ hgd s x T ho base E i0 (.int .u64 0) 1 8 hT hi hz0 hz1 hz2 rfl (by decide) v n _ hs (hown.alloc _) ⟨w.heap.size, 0, none⟩ 1 1 [.int .u64 y] hx rfl ?_ ?_ (by decide) (by unfold maxLen; omega) (by omega) (by simp; omega) _ rfl ?_
  · intro j u hj
    match j, hj with
    | 0, hj => simp at hj; subst hj; simp [Addr.add]
  · intro u hu; simp at hu; subst hu; rfl
  · intro g cap w' hown' hgrow h4 _
    refine h g cap w' (by rw [List.map_append]; exact hown') ⟨hgrow.os, hgrow.tape, hgrow.output, ?_, fun k hk hne => ?_⟩ ?_
    · have := hgrow.size; simp at this; omega
    · rw [hgrow.block k (by simp; omega) hne]; exact Below.heap_alloc _ _ _ hk
    · rcases h4 with e | e
      · exact .inl (by rw [e]; rfl)
      · exact .inr ⟨g, rfl, by simp at e; omega⟩
/-- The blocks of A are none of B's. -/
def Apt (A B : List Value) : Prop := ∀ i j, (A.getD i (.slice none 0 0)).ownBlock = none ∨ (A.getD i (.slice none 0 0)).ownBlock ≠ (B.getD j (.slice none 0 0)).ownBlock
theorem Apt.symm {A B : List Value} (h : Apt A B) : Apt B A := fun i j => by
  rcases h j i with e | e
  · by_cases hb : (B.getD i (.slice none 0 0)).ownBlock = none
    · exact .inl hb
    · exact .inr (by rw [e]; exact hb)
  · exact .inr (fun e' => e e'.symm)
/-- A row of A is laid anew: where it lay, or where nothing lay. -/
theorem Apt.set {A B : List Value} {q H : Nat} {u : Value} (h : Apt A B) (hq : q < A.length) (hB : ∀ j k, (B.getD j (.slice none 0 0)).ownBlock = some k → k < H) (hu : u.ownBlock = (A.getD q (.slice none 0 0)).ownBlock ∨ ∃ k, u.ownBlock = some k ∧ H ≤ k) : Apt (A.set q u) B := fun i j => by
  rw [getD_setV _ _ _ _ _ hq]
  by_cases e : i = q
  · rw [if_pos e]
    rcases hu with hu | ⟨k, hu, hk⟩
    · rw [hu]; exact h q j
    · right
      rw [hu]
      intro e'
      have := hB j k e'.symm
      omega
  · rw [if_neg e]; exact h i j
/-- One row more in A. -/
theorem Apt.add {A B : List Value} {u : Value} (h : Apt A B) (hu : ∀ j, u.ownBlock = none ∨ u.ownBlock ≠ (B.getD j (.slice none 0 0)).ownBlock) : Apt (A ++ [u]) B := fun i j => by
  rw [List.getD_eq_getElem?_getD]
  rcases Nat.lt_trichotomy i A.length with e | e | e
  · rw [List.getElem?_append_left e, ← List.getD_eq_getElem?_getD]; exact h i j
  · rw [List.getElem?_append_right (by omega), e, Nat.sub_self]; exact hu j
  · rw [List.getElem?_eq_none (by simp; omega)]; exact .inl rfl
/-- Rows that are there lie below. -/
theorem LsV.blk {w : World} {B : Nat} {v : Value} {L : List Value} {rows : List (List Int)} (h : LsV w B v L rows) : ∀ j k, (L.getD j (.slice none 0 0)).ownBlock = some k → B ≤ k ∧ k < w.heap.size := fun j k hk => by
  rcases Nat.lt_or_ge j rows.length with hj | hj
  · exact (h.row j hj).lt k hk
  · rw [List.getD_eq_getElem?_getD, List.getElem?_eq_none (by rw [h.len]; exact hj)] at hk
    simp [Value.ownBlock] at hk
/-- One row more: the outer list grows. -/
theorem LsV.add {w w' : World} {B : Nat} {v v' u : Value} {L : List Value} {rows : List (List Int)} {row : List Int} (h : LsV w B v L rows) (hr : w.ownsRow B 28 1 u row.length (row.map (Value.int .u64)))
    (hnew : ∀ i, i < rows.length → (L.getD i (.slice none 0 0)).ownBlock = none ∨ (L.getD i (.slice none 0 0)).ownBlock ≠ u.ownBlock)
    (ho : w'.ownsRow B 23 1 v' (rows.length + 1) (L ++ [u])) (hg : w.grownBy w' v.ownBlock) : LsV w' B v' (L ++ [u]) (rows ++ [row]) := by
  have hl := h.len
  have gl : ∀ i, i < rows.length → (rows ++ [row]).getD i [] = rows.getD i [] := fun i hi => by simp [List.getElem?_append_left hi]
  have gL : ∀ i, i < rows.length → (L ++ [u]).getD i (.slice none 0 0) = L.getD i (.slice none 0 0) := fun i hi => by simp [List.getElem?_append_left (show i < L.length by omega)]
  have gl' : (rows ++ [row]).getD rows.length [] = row := by simp
  have gL' : (L ++ [u]).getD rows.length (.slice none 0 0) = u := by rw [← hl]; simp
  have hE : (23 : TypeId) ≠ 28 := by decide
  refine ⟨by simpa using ho, by simp [hl], fun i hi => ?_, fun i j hij hj => ?_⟩
  · have hi2 : i < rows.length + 1 := by simpa using hi
    by_cases e : i = rows.length
    · subst e; rw [gl', gL']; exact hr.kept hg (own_apart h.own hr hE)
    · rw [gl i (by omega), gL i (by omega)]; exact (h.row i (by omega)).kept hg (own_apart h.own (h.row i (by omega)) hE)
  · have hj2 : j < rows.length + 1 := by simpa using hj
    by_cases e : j = rows.length
    · subst e; rw [gL', gL i hij]; exact hnew i hij
    · rw [gL i (by omega), gL j (by omega)]; exact h.inj i j hij (by omega)
end
end Go.Proofs.Ytljlioglpaogdab
