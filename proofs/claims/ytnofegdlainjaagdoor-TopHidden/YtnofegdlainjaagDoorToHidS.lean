/- (*twine.square).row. · Lists of rows of numbers, each row the call's own, no two of them one. · hide.Shift. -/
import Derived.Test.YtnofegdlainjaagDoorToTwNeedC
import Derived.Test.YtnofegdlainjaagDoorToDealC
import Derived.Test.YtnofegdlainjaagDoorToCloneC
import Derived.Test.YtnofegdlainjaagDoorToTwoC
import Derived.Deep.AppendLies
import Derived.Deep.RegionLaw
import Derived.Test.YtnofegdlainjaagDoorToHidZ
namespace Go.Proofs.YtnofegdlainjaagDoor
open Go.RowKit Crm

/-- A row of the call's own, all of it. -/
theorem Blk.own {w : World} {g n B : Nat} {L : List Int} (h : Blk w g L) (hl : L.length = n) (hB : B ≤ g) (hn : n ≤ 1000) : w.ownsRow B 34 1 (.slice (some ⟨g, 0, none⟩) n n) n (L.map (Value.int .u64)) :=
  ⟨by simp [hl], .inr ⟨g, n, _, rfl, hB, h, Nat.le_refl _, by unfold maxLen; omega, by simp [hl], by rw [List.take_of_length_le (by simp [hl])]⟩⟩

set_option maxRecDepth 100000 in
set_option maxHeartbeats 1000000 in
theorem cSqRow (g : Nat) (C : List Int) (s : Int) (ds : List Int) (t x : Nat) (w : World) (h : BlkQ w g C) (hS : Sqr s ds t (t + 1) (t + 1) C) (ht : t ≤ 4) (hx : x ≤ 9) :
    Calls Tryd.prog 66 #[.pointer (some ⟨g, 0, none⟩), .int .i64 t, .int .i64 x] w fun e w' => ∃ u, e = .returned (.slice (some ⟨u, 0, none⟩) (t + 1) (t + 1)) ∧ w'.ownsRow w.heap.size 34 1 (.slice (some ⟨u, 0, none⟩) (t + 1) (t + 1)) (t + 1) ((rowK s ds t x (t + 1)).map (Value.int .u64)) ∧ Below w.heap.size w w' := by
  obtain ⟨i0, hi, hz0, hz1, hz2⟩ := info_parts info34
  have HS : Hid (Sqr s ds t (t + 1) (t + 1) C) := hS
  have hglt := h.lt
  clear hS
  obtain ⟨T, HT⟩ : ∃ T, Hid (t + 1 = T) := ⟨_, rfl⟩
  obtain ⟨F, HF⟩ : ∃ F : Nat → Int, Hid ((fun j => nm (ev (colA s ds t j) x)) = F) := ⟨_, rfl⟩
  have HRK : Hid (rowK s ds t x (t + 1) = (List.range T).map F) := by unfold Hid rowK; rw [HT.out, HF.out]
  rw [HRK.out, HT.out]
  have hT5 : T ≤ 5 := by rw [← HT.out]; omega
  have HTi : Hid ((t : Int) + 1 = (T : Int)) := by unfold Hid; rw [← HT.out]; push_cast; rfl
  go_enter Tryd.func66, Tryd.ntmps66
  go_wp2_with (at_make; refine wpList_make_full _ rfl _ _ 22 rfl w.heap.size 34 i0 (.int .u64 0) 1 Tryd.underlying22 hi hz0 hz1 .i64 .i64 _ _ T rfl rfl HTi.out HTi.out (by rw [hz2]; omega) (by unfold maxLen; omega) (Nat.le_refl _) ?_; intro w2 hown hgrow)
  have hB2 : Blk w2 w.heap.size (fil F T 0) := by rw [← fil_zero]; exact Blk.made hown
  have hb2 : Below w.heap.size w w2 := (Below.refl _ _).grown hgrow (Nat.le_refl _) (by simp)
  clear hown hgrow
  go_loopw [14] (fun i wr => ∃ k : Nat, k ≤ T ∧ i = .int .i64 k ∧ Blk wr w.heap.size (fil F T k) ∧ Below w.heap.size w wr) (fun i _ => T - (intOf i).toNat)
  case atStart => exact ⟨0, Nat.zero_le _, rfl, hB2, hb2⟩
  case round =>
    clear hB2 hb2
    obtain ⟨k, hk, rfl, hblk, hbel⟩ := hrel
    by_cases hlt : k < T
    · have hq := h.below hbel hglt
      have hql := hq.lt
      have hl := HS.out.len
      have hrd := hq.rd (k * 5) T 5 hT5 (by unfold maxLen; omega) (by omega) HS.out.bd
      have HV : Hid (nm (ev ((C.drop (k * 5)).take T) x) = F k) := by unfold Hid; rw [← HT.out, sqr_ev HS.out (by omega) (by rw [← HT.out] at hlt; omega), ← HF.out]
      have hk5 : k < 5 := by omega
      have hal : Tryd.prog.arrayLen 92 = 5 := by simp [Program.arrayLen, Tryd.underlying92]
      have HTn : Hid (((t : Int) + 1).toNat = T) := by unfold Hid; rw [HTi.out]; rfl
      have hsl : ∀ W, (Instr.sliceAt 92 (.pointer (some ⟨g, k * 5, none⟩)) none (some (.int .i64 ((t : Int) + 1))) none).run Tryd.prog W = .ok (.slice (some ⟨g, k * 5, none⟩) T 5) W := fun W => by
        rw [run_sliceAt_array_h W 92 ⟨g, k * 5, none⟩ (by simp [Program.arrayLen, Program.elem, Tryd.underlying92]) .i64 ((t : Int) + 1) (by omega) (by rw [hal]; omega), HTn.out, hal, show Tryd.prog.elem 92 = 34 from by simp [Program.elem, Tryd.underlying92]]
        go_simp
      clear hal
      go_wp2_with fail
      refine (cTwValue _ _ _ _ _ _ hrd (by omega) (by omega)).mono ?_
      rintro e w3 ⟨rfl, hb3⟩
      rw [HV.out]
      have hblk3 := hblk.below hb3 hblk.lt
      have hcell := hblk3.cell (i := k) (by rw [fil_len]; exact hlt)
      have hfz := hblk3.frozen k
      have hlt3 := hblk3.lt
      have hblk4 := hblk3.set k (F k)
      rw [fil_set rfl] at hblk4
      have hbel3 := hbel.trans (hb3.mono hbel.size)
      have Hb4 : Hid (Below w.heap.size w (w3.setCell ⟨w.heap.size, k, none⟩ (.int .u64 (F k)))) := hbel3.setCell (Nat.le_refl _) _
      clear hbel hb3 hblk hblk3 hbel3 hrd
      go_wp2
      go_roundw
      case rel => exact ⟨k + 1, by omega, by go_num, hblk4, Hb4.out⟩
      case measure => simp [intOf]; omega
    · have hkn : k = T := by omega
      subst hkn
      rw [fil_full] at hblk
      have ho := hblk.own (n := k) (B := w.heap.size) (by simp) (Nat.le_refl _) (by omega)
      go_wp2
      go_ret
      exact ⟨_, rfl, ho, hbel⟩
end Go.Proofs.YtnofegdlainjaagDoor

namespace Go.Proofs.YtnofegdlainjaagDoor
open Go.RowKit Crm

/-- A list of rows that the call gathers, each row the call's own. -/
structure LsV (w : World) (B : Nat) (v : Value) (L : List Value) (rows : List (List Int)) : Prop where
  own : w.ownsRow B 22 1 v rows.length L
  len : L.length = rows.length
  row : ∀ i, i < rows.length → w.ownsRow B 34 1 (L.getD i (.slice none 0 0)) (rows.getD i []).length ((rows.getD i []).map (Value.int .u64))
  inj : ∀ i j, i < j → j < rows.length → (L.getD i (.slice none 0 0)).ownBlock = none ∨ (L.getD i (.slice none 0 0)).ownBlock ≠ (L.getD j (.slice none 0 0)).ownBlock
theorem lsv_nil (w : World) (B : Nat) : LsV w B (.slice none 0 0) [] [] := ⟨World.ownsRow_nil _ _ _ _, rfl, fun i hi => by simp at hi, fun i j _ hj => by simp at hj⟩
theorem LsV.below {w w' : World} {B : Nat} {v : Value} {L : List Value} {rows : List (List Int)} (h : LsV w B v L rows) (hb : Below w.heap.size w w') : LsV w' B v L rows :=
  ⟨own_below h.own hb, h.len, fun i hi => own_below (h.row i hi) hb, h.inj⟩
theorem LsV.drew {w : World} {B : Nat} {v : Value} {L : List Value} {rows : List (List Int)} (h : LsV w B v L rows) : LsV w.drew B v L rows := ⟨h.own, h.len, h.row, h.inj⟩
theorem LsV.drewN {w : World} {B : Nat} {v : Value} {L : List Value} {rows : List (List Int)} (h : LsV w B v L rows) (q : Nat) : LsV (w.drewN q) B v L rows := ⟨h.own, h.len, h.row, h.inj⟩
/-- When a list of other elements, or one that lies elsewhere, grows. -/
theorem LsV.grown {w w' : World} {B : Nat} {v : Value} {L : List Value} {rows : List (List Int)} {r : Option Nat} (h : LsV w B v L rows) (hg : w.grownBy w' r) (h1 : v.ownBlock = none ∨ v.ownBlock ≠ r) (h2 : ∀ i, i < rows.length → (L.getD i (.slice none 0 0)).ownBlock = none ∨ (L.getD i (.slice none 0 0)).ownBlock ≠ r) : LsV w' B v L rows :=
  ⟨h.own.kept hg h1, h.len, fun i hi => (h.row i hi).kept hg (h2 i hi), h.inj⟩
/-- Rows that are made, none of them filled. -/
theorem lsv_made {w : World} {B n : Nat} {v : Value} (h : w.ownsRow B 22 1 v n (madeCells (Value.slice none 0 0).cells (n * 1)).toList) : LsV w B v (List.replicate n (.slice none 0 0)) (List.replicate n []) := by
  have e : (Value.slice none 0 0).cells = #[Value.slice none 0 0] := rfl
  rw [e, Nat.mul_one, toList_madeCells_one] at h
  have g1 : ∀ i, (List.replicate n (Value.slice none 0 0)).getD i (.slice none 0 0) = .slice none 0 0 := fun i => by
    rw [List.getD_eq_getElem?_getD, List.getElem?_replicate]; split <;> rfl
  have g2 : ∀ i, (List.replicate n ([] : List Int)).getD i [] = [] := fun i => by
    rw [List.getD_eq_getElem?_getD, List.getElem?_replicate]; split <;> rfl
  refine ⟨by rw [List.length_replicate]; exact h, by simp, fun i _ => ?_, fun i j _ _ => by rw [g1]; exact .inl rfl⟩
  rw [g1, g2]
  exact World.ownsRow_nil _ _ _ _
theorem getD_setV {α : Type} (l : List α) (q i : Nat) (x d : α) (hq : q < l.length) : (l.set q x).getD i d = if i = q then x else l.getD i d := by
  by_cases e : i = q
  · subst e; rw [if_pos rfl]; simp [hq]
  · rw [if_neg e]; simp [show ¬ q = i from fun e' => e e'.symm]
/-- A row grows, and is laid at its place again. -/
theorem LsV.upd {w w7 : World} {B g n c q : Nat} {u' : Value} {L : List Value} {rows : List (List Int)} {row : List Int} (h : LsV w B (.slice (some ⟨g, 0, none⟩) n c) L rows) (hl : rows.length = n) (hq : q < n)
    (hr : w7.ownsRow B 34 1 u' row.length (row.map (Value.int .u64))) (hg : w.grownBy w7 (L.getD q (.slice none 0 0)).ownBlock) (hat : u'.ownBlock = (L.getD q (.slice none 0 0)).ownBlock ∨ ∃ k, u'.ownBlock = some k ∧ w.heap.size ≤ k) :
    LsV (w7.setCell ⟨g, q, none⟩ u') B (.slice (some ⟨g, 0, none⟩) n c) (L.set q u') (rows.set q row) := by
  have hL := h.len
  have hE : (22 : TypeId) ≠ 34 := by decide
  have hE' : (34 : TypeId) ≠ 22 := by decide
  have hg2 : w7.grownBy (w7.setCell ⟨g, q, none⟩ u') (some g) := grown_set _ _ _ _
  have ho7 := h.own.kept hg (own_apart (h.row q (by omega)) h.own hE')
  rw [hl] at ho7
  have hne : ∀ i, i < n → i ≠ q → (L.getD i (.slice none 0 0)).ownBlock = none ∨ (L.getD i (.slice none 0 0)).ownBlock ≠ (L.getD q (.slice none 0 0)).ownBlock := fun i hi hiq => by
    rcases Nat.lt_or_ge i q with e | e
    · exact h.inj i q e (by omega)
    · rcases h.inj q i (by omega) (by omega) with e1 | e1
      · by_cases hn : (L.getD i (.slice none 0 0)).ownBlock = none
        · exact .inl hn
        · exact .inr (by rw [e1]; exact hn)
      · exact .inr (fun e2 => e1 e2.symm)
  have hnew : ∀ i, i < n → i ≠ q → (L.getD i (.slice none 0 0)).ownBlock = none ∨ (L.getD i (.slice none 0 0)).ownBlock ≠ u'.ownBlock := fun i hi hiq => by
    rcases hat with e | ⟨k, e, hk⟩
    · rw [e]; exact hne i hi hiq
    · cases hb : (L.getD i (.slice none 0 0)).ownBlock with
      | none => exact .inl rfl
      | some p =>
        right
        rw [e]
        intro e'
        have := ((h.row i (by omega)).lt p hb).2
        simp only [Option.some.injEq] at e'
        omega
  refine ⟨by rw [List.length_set, hl]; exact own_set ho7 q u', by simp [hL], fun i hi => ?_, fun i j hij hj => ?_⟩
  · rw [List.length_set] at hi
    rw [getD_setV _ _ _ _ _ (by omega), getD_setV _ _ _ _ _ (by omega)]
    by_cases e : i = q
    · rw [if_pos e, if_pos e]
      exact hr.kept hg2 (own_apart ho7 hr hE)
    · rw [if_neg e, if_neg e]
      have h7 := (h.row i (by omega)).kept hg (hne i (by omega) e)
      exact h7.kept hg2 (own_apart ho7 h7 hE)
  · rw [List.length_set] at hj
    rw [getD_setV _ _ _ _ _ (by omega), getD_setV _ _ _ _ _ (by omega)]
    by_cases e : i = q
    · rw [if_pos e, if_neg (by omega)]
      rcases hnew j (by omega) (by omega) with e1 | e1
      · by_cases hu : u'.ownBlock = none
        · exact .inl hu
        · exact .inr (by rw [e1]; exact hu)
      · exact .inr (fun e2 => e1 e2.symm)
    · rw [if_neg e]
      by_cases e' : j = q
      · rw [if_pos e']; exact hnew i (by omega) e
      · rw [if_neg e']; exact h.inj i j hij hj
theorem own_baseV {w : World} {B B' n z : Nat} {E : TypeId} {v : Value} {xs : List Value} (h : w.ownsRow B E z v n xs) (hB : B' ≤ B) : w.ownsRow B' E z v n xs := by
  refine ⟨h.1, ?_⟩
  rcases h.2 with h1 | ⟨g, cap, cur, e, hb, h2⟩
  · exact .inl h1
  · exact .inr ⟨g, cap, cur, e, Nat.le_trans hB hb, h2⟩
theorem LsV.base {w : World} {B B' : Nat} {v : Value} {L : List Value} {rows : List (List Int)} (h : LsV w B v L rows) (hB : B' ≤ B) : LsV w B' v L rows :=
  ⟨own_baseV h.own hB, h.len, fun i hi => own_baseV (h.row i hi) hB, h.inj⟩
/-- Its cells. -/
theorem LsV.cell {w : World} {B n c g q : Nat} {L : List Value} {rows : List (List Int)} (h : LsV w B (.slice (some ⟨g, 0, none⟩) n c) L rows) (hl : rows.length = n) (hq : q < n) : w.cell? ⟨g, q, none⟩ = some (L.getD q (.slice none 0 0)) ∧ w.frozen? ⟨g, q, none⟩ = false ∧ g < w.heap.size := by
  have ho := h.own
  rw [hl] at ho
  have hL := h.len
  obtain ⟨g', u, e1, e2, e3, e4, e5⟩ := own_at ho hq
  simp only [Option.some.injEq, Addr.mk.injEq, and_true] at e1
  subst e1
  refine ⟨?_, own_frozen ho q, e3⟩
  rw [e5, ← e4]
  simp [List.getElem?_eq_getElem (show q < L.length by omega)]
/-- One row of it. -/
theorem LsV.one {w : World} {B n q : Nat} {v : Value} {L : List Value} {rows : List (List Int)} (h : LsV w B v L rows) (hl : rows.length = n) (hq : q < n) (hb : ∀ x ∈ rows.getD q [], 0 ≤ x ∧ x ≤ 18446744073709551615) : ∃ a c, L.getD q (.slice none 0 0) = .slice a (rows.getD q []).length c ∧ Rd w a (rows.getD q []).length c (rows.getD q []) := by
  obtain ⟨a, c, e, hr, _⟩ := Rd.own (h.row q (by omega)) hb
  exact ⟨a, c, e, hr⟩
/-- It reads as its rows. -/
theorem LsV.rdR {w : World} {B n : Nat} {v : Value} {L : List Value} {rows : List (List Int)} (h : LsV w B v L rows) (hl : rows.length = n) (hb : ∀ i, i < n → ∀ x ∈ rows.getD i [], 0 ≤ x ∧ x ≤ 18446744073709551615) : ∃ a c, v = .slice a n c ∧ RdR w a n c rows := by
  have ho := h.own
  rw [hl] at ho
  have hL := h.len
  rcases ho.2 with ⟨rfl, rfl⟩ | ⟨g, cap, cur, rfl, hb', hg, h1, h2, hs, ht⟩
  · exact ⟨none, 0, rfl, hl, Nat.le_refl _, Nat.zero_le _, fun _ => rfl, by simp⟩
  · refine ⟨_, _, rfl, hl, h1, h2, by simp, fun x hx i hi => ?_⟩
    obtain rfl := Option.some.inj hx
    obtain ⟨a, c, e, hr⟩ := h.one hl hi (hb i hi)
    refine ⟨a, c, ?_, hr⟩
    have := ho.cells (g := g) rfl i (L.getD i (.slice none 0 0)) (by simp [List.getElem?_eq_getElem (show i < L.length by omega)])
    rw [this, e]
/-- append of one number to a slice that the call itself gathers, a step of a region that draws; where it lies. -/
theorem step_appL {P : Program} {T E : TypeId} (hT : P.underlying T = some (.slice E)) (info : (P.info? E).map (fun i => (i.zero, i.size, i.bytes)) = some (some (.int .u64 0), 1, 8))
    (w : World) {w1 : World} {ops : Array Oper} {o : Oper} {a : Act} {K : Act → World → Prop} {Q : Exit → Act → World → Prop} {F : Prop} (hgd : o.guard = none) (s x : Operand)
    (ho : o.op = .call { callee := .builtin .append, args := #[s, x], argTypes := #[T, T] })
    (base : Nat) (v : Value) (n : Nat) (xs : List Int) (hs : a.eval s = v) (hown : w.ownsRow base E 1 v n (xs.map (Value.int .u64))) (y : Int) (hx : a.eval x = .slice (some ⟨w.heap.size, 0, none⟩) 1 1)
    (hw1 : w1 = w.alloc (.cells #[.int .u64 y] E)) (hn : n ≤ 1000000) (hbase : base ≤ w.heap.size)
    (h : ∀ g cap w', w'.ownsRow base E 1 (.slice (some ⟨g, 0, none⟩) (n + 1) cap) (n + 1) ((xs ++ [y]).map (Value.int .u64)) → w.grownBy w' v.ownBlock → ((Value.slice (some ⟨g, 0, none⟩) (n + 1) cap).ownBlock = v.ownBlock ∨ ∃ k, (Value.slice (some ⟨g, 0, none⟩) (n + 1) cap).ownBlock = some k ∧ w.heap.size ≤ k) → K (a.put o.dst (.slice (some ⟨g, 0, none⟩) (n + 1) cap)) w') :
    if Region.wanted o (yielded ops a.tmps) = true then Oper.wp P o a w1 K Q else F := by
  subst hw1
  obtain ⟨i0, hi, hz0, hz1, hz2⟩ := info_parts info
  refine step_append_lies _ hgd s x T ho base E i0 (.int .u64 0) 1 8 hT hi hz0 hz1 hz2 rfl (by decide) v n _ hs (hown.alloc _) ⟨w.heap.size, 0, none⟩ 1 1 [.int .u64 y] hx rfl ?_ ?_ (by decide) (by unfold maxLen; omega) (by omega) (by simp; omega) _ rfl ?_
  · intro j u hj
    match j, hj with
    | 0, hj => simp at hj; subst hj; simp [Addr.add]
  · intro u hu; simp at hu; subst hu; rfl
  · intro g cap w' hown' hgrow h4 _
    refine h g cap w' (by rw [List.map_append]; exact hown') ⟨hgrow.os, hgrow.tape, hgrow.output, ?_, fun k hk hne => ?_⟩ ?_
    · have := hgrow.size; simp at this; omega
    · rw [hgrow.block k (by simp; omega) hne]; exact Below.heap_alloc _ _ _ hk
    · rcases h4 with e | e
      · exact .inl (by rw [e]; rfl)
      · exact .inr ⟨g, rfl, by simp at e; omega⟩
end Go.Proofs.YtnofegdlainjaagDoor

namespace Go.Proofs.YtnofegdlainjaagDoor
open Go.RowKit Crm

/-- The five numbers are laid. -/
theorem pw_lay (w : World) (C : List Int) : BlkP ((w.alloc (.cells #[.int .u64 0, .int .u64 0, .int .u64 0, .int .u64 0, .int .u64 0] 93)).setRow w.heap.size (C.map (Value.int .u64)).toArray) w.heap.size C ∧ Below w.heap.size w ((w.alloc (.cells #[.int .u64 0, .int .u64 0, .int .u64 0, .int .u64 0, .int .u64 0] 93)).setRow w.heap.size (C.map (Value.int .u64)).toArray) := by
  have h1 : BlkP (w.alloc (.cells #[.int .u64 0, .int .u64 0, .int .u64 0, .int .u64 0, .int .u64 0] 93)) w.heap.size pw0 := heap_alloc_new w _
  exact ⟨h1.row, below_setRow ((Below.refl _ _).alloc (Nat.le_refl _) _) (Nat.le_refl _) _⟩

set_option maxRecDepth 100000 in
set_option maxHeartbeats 2000000 in
theorem eShift (aw : Option Addr) (k cw : Nat) (who : List Int) (a b : Int) (ad : Option Addr) (q cd : Nat) (ds : List Int) (w : World) (h : RdI w aw k cw who) (ha0 : 0 ≤ a) (ha1 : a ≤ 18446744073709551615) (hb0 : 0 ≤ b) (hb1 : b ≤ 18446744073709551615) (dh : Rd w ad q cd ds) :
    Calls Tryd.prog 17 #[.slice aw k cw, .int .u64 a, .int .u64 b, .slice ad q cd] w (Hsh who k a b ds q w) := by
  obtain ⟨i0, hi, hz0, hz1, hz2⟩ := info_parts info34
  have hkc := h.cap
  have hkm := h.max
  have hqc := dh.cap
  have hqm := dh.max
  unfold maxLen at hkm hqm
  go_enter Tryd.func17, Tryd.ntmps17
  go_wp2_with fail
  refine (hDifferent _ _ _ _ _ h).mono ?_
  rintro e w1 ⟨ok, rfl, hok, hbel1⟩
  cases ok with
  | false =>
    have HE : Hid (Hse who k q 5) := .inl ⟨fun e => (by have := hok.2 e; cases this), rfl⟩
    clear hok
    go_wp2
    go_ret2
    exact ⟨.inl ⟨5, by decide, HE.out, rfl⟩, hbel1⟩
  | true =>
    have HD : Hid (dis (fi who) k) := hok.1 rfl
    have hk9 : k ≤ 9 := dis_nine HD.out
    clear hok
    by_cases hq4 : 4 < q
    · have HE : Hid (Hse who k q 1) := .inr ⟨HD.out, .inl ⟨by omega, rfl⟩⟩
      go_wp2
      go_ret2
      exact ⟨.inl ⟨1, by decide, HE.out, rfl⟩, hbel1⟩
    · by_cases hqk : q < k
      · have HE : Hid (Hse who k q 1) := .inr ⟨HD.out, .inl ⟨by omega, rfl⟩⟩
        go_wp2
        go_ret2
        exact ⟨.inl ⟨1, by decide, HE.out, rfl⟩, hbel1⟩
      · have HE : Hid (Hse who k q 0) := .inr ⟨HD.out, .inr ⟨⟨by omega, by omega⟩, rfl⟩⟩
        obtain ⟨D, HDD⟩ : ∃ D, Hid (nm (b - a) = D) := ⟨_, rfl⟩
        have hDb := nm_bd (b - a)
        rw [HDD.out] at hDb
        obtain ⟨F, HF⟩ : ∃ F : Nat → Int, Hid ((fun i => nm (ds.getD i 0 + nm (b - a) * (bl who k).getD (i + 1) 0)) = F) := ⟨_, rfl⟩
        have HSF : Hid (shf who k a b ds q = (List.range q).map F) := by unfold Hid shf; rw [HF.out]
        have HFi : Hid (∀ i x B, ds.getD i 0 = x → (bl who k).getD (i + 1) 0 = B → nm (x + nm (D * B)) = F i) := fun i x B e1 e2 => by rw [← HF.out, nm_addr]; simp only; rw [e1, e2, HDD.out]
        go_wp2_with fail
        refine (hZeros _ _ _ _ _ (h.below hbel1) HD.out).mono ?_
        rintro e w2 ⟨rfl, hbel2⟩
        have hbw2 := hbel1.trans (hbel2.mono hbel1.size)
        have hl := zr_len who k
        have Hin : Hid ((Tryd.prog.info? 93).map (·.size) = some ((zr who k).map (Value.int .u64)).toArray.size) := by unfold Hid; simp only [List.size_toArray, List.length_map, hl]; exact infoPw
        have Hne : Hid ((pw0.map (Value.int .u64)).toArray.size = ((zr who k).map (Value.int .u64)).toArray.size) := by unfold Hid; simp [hl, pw0]
        have Hon : Hid (((zr who k).map (Value.int .u64)).toArray.all (·.oneCell') = true) := pw_one _
        clear hl
        go_upto_region 6 with (refine wpList_store_row rfl 93 _ _ rfl w2.heap.size ((zr who k).map (Value.int .u64)).toArray rfl rfl 93 (pw0.map (Value.int .u64)).toArray (heap_alloc_new w2 _) Hin.out Hne.out Hon.out ?_)
        obtain ⟨hz3, hb3⟩ := pw_lay w2 (zr who k)
        generalize World.setRow _ w2.heap.size ((zr who k).map (Value.int .u64)).toArray = w3 at *
        have hbw3 := hbw2.trans (hb3.mono hbw2.size)
        have dh3 := dh.below hbw3
        clear hb3 hbw2 hbel2 hbel1 Hin Hne Hon dh
        go_wp2_with (first | (go_at_call 53; refine (fSub b a _ hb0 hb1 ha0 ha1).mono ?_; rintro e w4 ⟨rfl, hw⟩; have hw := hw.symm; subst hw; rw [HDD.out]) | (at_make; refine wpList_make_full _ rfl _ _ 22 rfl w3.heap.size 34 i0 (.int .u64 0) 1 Tryd.underlying22 hi hz0 hz1 .i64 .i64 _ _ q rfl rfl rfl rfl (by rw [hz2]; omega) (by unfold maxLen; omega) (Nat.le_refl _) ?_; intro w5 hown hgrow))
        have hB5 : Blk w5 w3.heap.size (fil F q 0) := by rw [← fil_zero]; exact Blk.made hown
        have hb5 : Below w3.heap.size w3 w5 := (Below.refl _ _).grown hgrow (Nat.le_refl _) (by simp)
        clear hown hgrow
        go_loopw [38] (fun i wr => ∃ j : Nat, j ≤ q ∧ i = .int .i64 j ∧ Blk wr w3.heap.size (fil F q j) ∧ Below w3.heap.size w3 wr) (fun i _ => q - (intOf i).toNat)
        case atStart => exact ⟨0, Nat.zero_le _, rfl, hB5, hb5⟩
        case round =>
          clear hB5 hb5
          obtain ⟨j, hj, rfl, hblk, hbel⟩ := hrel
          by_cases hlt : j < q
          · obtain ⟨bb, o, x, rfl, hbb, HX, hx0, hx1, hcx⟩ := (dh3.below hbel).one hlt
            have hz := hz3.below hbel hz3.lt
            have hzl := hz.lt
            obtain ⟨J, HJ⟩ : ∃ J : Nat, Hid (j + 1 = J) := ⟨_, rfl⟩
            have hJI : (j : Int) + 1 = (J : Int) := by rw [← HJ.out]; omega
            have hJ5 : J < 5 := by rw [← HJ.out]; omega
            have hcz := hz.cell (i := J) (by rw [zr_len]; exact hJ5)
            rw [zr_getD _ _ hJ5, ← HJ.out] at hcz
            obtain ⟨B, HB⟩ : ∃ B, Hid ((bl who k).getD (j + 1) 0 = B) := ⟨_, rfl⟩
            have hBb := getD_bd' (bl_bd who k) (j + 1)
            rw [HB.out] at hBb hcz
            rw [HJ.out] at hcz
            have hMb := nm_bd (D * B)
            have HN : Hid (nm (x + nm (D * B)) = F j) := HFi.out j x B HX.out HB.out
            have hcell := hblk.cell (i := j) (by rw [fil_len]; exact hlt)
            have hfz := hblk.frozen j
            have hlt3 := hblk.lt
            have hblk4 := hblk.set j (F j)
            rw [fil_set rfl] at hblk4
            have Hb4 : Hid (Below w3.heap.size w3 (wr.setCell ⟨w3.heap.size, j, none⟩ (.int .u64 (F j)))) := hbel.setCell (Nat.le_refl _) _
            clear hz hblk hbel
            go_wp2_with (first | (go_at_call 47; refine (fMul D B _ (by omega) (by omega) (by omega) (by omega)).mono ?_; rintro e w4 ⟨rfl, hw⟩; have hw := hw.symm; subst hw) | (go_at_call 50; refine (fAdd x (nm (D * B)) _ hx0 hx1 (by omega) (by omega)).mono ?_; rintro e w4 ⟨rfl, hw⟩; have hw := hw.symm; subst hw; rw [HN.out]))
            go_roundw
            case rel => exact ⟨j + 1, by omega, by go_num, hblk4, Hb4.out⟩
            case measure => simp [intOf]; omega
          · obtain rfl : j = q := by omega
            rw [fil_full, ← HSF.out] at hblk
            have ho := own_baseV (hblk.own (n := j) (B := w3.heap.size) (shf_len _ _ _ _ _ _) (Nat.le_refl _) (by omega)) hbw3.size
            have hbw := hbw3.trans (hbel.mono hbw3.size)
            go_wp2
            go_ret2
            exact ⟨.inr ⟨HE.out, _, rfl, ho⟩, hbw⟩
end Go.Proofs.YtnofegdlainjaagDoor
