/- Lists of rows of numbers, each row the call's own, no two of them one. · croftref.In, croftref.Ats. -/
import Derived.Test.YtfonochdnmddlabToTwoC
import Derived.Deep.AppendLies
import Derived.Deep.RegionLaw
import Derived.Test.YtfonochdnmddlabToOwnC
namespace Go.Proofs.Ytfonochdnmddlab
open Go.RowKit Crm

/-- A list of rows that the call gathers, each row the call's own. -/
structure LsV (w : World) (B : Nat) (v : Value) (L : List Value) (rows : List (List Int)) : Prop where
  own : w.ownsRow B 23 1 v rows.length L
  len : L.length = rows.length
  row : ∀ i, i < rows.length → w.ownsRow B 28 1 (L.getD i (.slice none 0 0)) (rows.getD i []).length ((rows.getD i []).map (Value.int .u64))
  inj : ∀ i j, i < j → j < rows.length → (L.getD i (.slice none 0 0)).ownBlock = none ∨ (L.getD i (.slice none 0 0)).ownBlock ≠ (L.getD j (.slice none 0 0)).ownBlock
theorem lsv_nil (w : World) (B : Nat) : LsV w B (.slice none 0 0) [] [] := ⟨World.ownsRow_nil _ _ _ _, rfl, fun i hi => by simp at hi, fun i j _ hj => by simp at hj⟩
theorem LsV.below {w w' : World} {B : Nat} {v : Value} {L : List Value} {rows : List (List Int)} (h : LsV w B v L rows) (hb : Below w.heap.size w w') : LsV w' B v L rows :=
  ⟨own_below h.own hb, h.len, fun i hi => own_below (h.row i hi) hb, h.inj⟩
theorem LsV.drew {w : World} {B : Nat} {v : Value} {L : List Value} {rows : List (List Int)} (h : LsV w B v L rows) : LsV w.drew B v L rows := ⟨h.own, h.len, h.row, h.inj⟩
theorem LsV.drewN {w : World} {B : Nat} {v : Value} {L : List Value} {rows : List (List Int)} (h : LsV w B v L rows) (q : Nat) : LsV (w.drewN q) B v L rows := ⟨h.own, h.len, h.row, h.inj⟩
/-- When a list of other elements, or one that lies elsewhere, grows. -/
theorem LsV.grown {w w' : World} {B : Nat} {v : Value} {L : List Value} {rows : List (List Int)} {r : Option Nat} (h : LsV w B v L rows) (hg : w.grownBy w' r) (h1 : v.ownBlock = none ∨ v.ownBlock ≠ r) (h2 : ∀ i, i < rows.length → (L.getD i (.slice none 0 0)).ownBlock = none ∨ (L.getD i (.slice none 0 0)).ownBlock ≠ r) : LsV w' B v L rows :=
  ⟨h.own.kept hg h1, h.len, fun i hi => (h.row i hi).kept hg (h2 i hi), h.inj⟩
/-- Rows that are made, none of them filled. -/
theorem lsv_made {w : World} {B n : Nat} {v : Value} (h : w.ownsRow B 23 1 v n (madeCells (Value.slice none 0 0).cells (n * 1)).toList) : LsV w B v (List.replicate n (.slice none 0 0)) (List.replicate n []) := by
  have e : (Value.slice none 0 0).cells = #[Value.slice none 0 0] := rfl
  rw [e, Nat.mul_one, toList_madeCells_one] at h
  have g1 : ∀ i, (List.replicate n (Value.slice none 0 0)).getD i (.slice none 0 0) = .slice none 0 0 := fun i => by
    rw [List.getD_eq_getElem?_getD, List.getElem?_replicate]; split <;> rfl
  have g2 : ∀ i, (List.replicate n ([] : List Int)).getD i [] = [] := fun i => by
    rw [List.getD_eq_getElem?_getD, List.getElem?_replicate]; split <;> rfl
  refine ⟨by rw [List.length_replicate]; exact h, by simp, fun i _ => ?_, fun i j _ _ => by rw [g1]; exact .inl rfl⟩
  rw [g1, g2]
  exact World.ownsRow_nil _ _ _ _
theorem getD_setV {α : Type} (l : List α) (q i : Nat) (x d : α) (hq : q < l.length) : (l.set q x).getD i d = if i = q then x else l.getD i d := by
  by_cases e : i = q
  · subst e; rw [if_pos rfl]; simp [hq]
  · rw [if_neg e]; simp [show ¬ q = i from fun e' => e e'.symm]
/-- A row grows, and is laid at its place again. -/
theorem LsV.upd {w w7 : World} {B g n c q : Nat} {u' : Value} {L : List Value} {rows : List (List Int)} {row : List Int} (h : LsV w B (.slice (some ⟨g, 0, none⟩) n c) L rows) (hl : rows.length = n) (hq : q < n)
    (hr : w7.ownsRow B 28 1 u' row.length (row.map (Value.int .u64))) (hg : w.grownBy w7 (L.getD q (.slice none 0 0)).ownBlock) (hat : u'.ownBlock = (L.getD q (.slice none 0 0)).ownBlock ∨ ∃ k, u'.ownBlock = some k ∧ w.heap.size ≤ k) :
    LsV (w7.setCell ⟨g, q, none⟩ u') B (.slice (some ⟨g, 0, none⟩) n c) (L.set q u') (rows.set q row) := by
  have hL := h.len
  have hE : (23 : TypeId) ≠ 28 := by decide
  have hE' : (28 : TypeId) ≠ 23 := by decide
  have hg2 : w7.grownBy (w7.setCell ⟨g, q, none⟩ u') (some g) := grown_set _ _ _ _
  have ho7 := h.own.kept hg (own_apart (h.row q (by omega)) h.own hE')
  rw [hl] at ho7
  have hne : ∀ i, i < n → i ≠ q → (L.getD i (.slice none 0 0)).ownBlock = none ∨ (L.getD i (.slice none 0 0)).ownBlock ≠ (L.getD q (.slice none 0 0)).ownBlock := fun i hi hiq => by
    rcases Nat.lt_or_ge i q with e | e
    · exact h.inj i q e (by omega)
    · rcases h.inj q i (by omega) (by omega) with e1 | e1
      · by_cases hn : (L.getD i (.slice none 0 0)).ownBlock = none
        · exact .inl hn
        · exact .inr (by rw [e1]; exact hn)
      · exact .inr (fun e2 => e1 e2.symm)
  have hnew : ∀ i, i < n → i ≠ q → (L.getD i (.slice none 0 0)).ownBlock = none ∨ (L.getD i (.slice none 0 0)).ownBlock ≠ u'.ownBlock := fun i hi hiq => by
    rcases hat with e | ⟨k, e, hk⟩
    · rw [e]; exact hne i hi hiq
    · cases hb : (L.getD i (.slice none 0 0)).ownBlock with
      | none => exact .inl rfl
      | some p =>
        right
        rw [e]
        intro e'
        have := ((h.row i (by omega)).lt p hb).2
        simp only [Option.some.injEq] at e'
        omega
  refine ⟨by rw [List.length_set, hl]; exact own_set ho7 q u', by simp [hL], fun i hi => ?_, fun i j hij hj => ?_⟩
  · rw [List.length_set] at hi
    rw [getD_setV _ _ _ _ _ (by omega), getD_setV _ _ _ _ _ (by omega)]
    by_cases e : i = q
    · rw [if_pos e, if_pos e]
      exact hr.kept hg2 (own_apart ho7 hr hE)
    · rw [if_neg e, if_neg e]
      have h7 := (h.row i (by omega)).kept hg (hne i (by omega) e)
      exact h7.kept hg2 (own_apart ho7 h7 hE)
  · rw [List.length_set] at hj
    rw [getD_setV _ _ _ _ _ (by omega), getD_setV _ _ _ _ _ (by omega)]
    by_cases e : i = q
    · rw [if_pos e, if_neg (by omega)]
      rcases hnew j (by omega) (by omega) with e1 | e1
      · by_cases hu : u'.ownBlock = none
        · exact .inl hu
        · exact .inr (by rw [e1]; exact hu)
      · exact .inr (fun e2 => e1 e2.symm)
    · rw [if_neg e]
      by_cases e' : j = q
      · rw [if_pos e']; exact hnew i (by omega) e
      · rw [if_neg e']; exact h.inj i j hij hj
theorem own_baseV {w : World} {B B' n z : Nat} {E : TypeId} {v : Value} {xs : List Value} (h : w.ownsRow B E z v n xs) (hB : B' ≤ B) : w.ownsRow B' E z v n xs := by
  refine ⟨h.1, ?_⟩
  rcases h.2 with h1 | ⟨g, cap, cur, e, hb, h2⟩
  · exact .inl h1
  · exact .inr ⟨g, cap, cur, e, Nat.le_trans hB hb, h2⟩
theorem LsV.base {w : World} {B B' : Nat} {v : Value} {L : List Value} {rows : List (List Int)} (h : LsV w B v L rows) (hB : B' ≤ B) : LsV w B' v L rows :=
  ⟨own_baseV h.own hB, h.len, fun i hi => own_baseV (h.row i hi) hB, h.inj⟩
/-- Its cells. -/
theorem LsV.cell {w : World} {B n c g q : Nat} {L : List Value} {rows : List (List Int)} (h : LsV w B (.slice (some ⟨g, 0, none⟩) n c) L rows) (hl : rows.length = n) (hq : q < n) : w.cell? ⟨g, q, none⟩ = some (L.getD q (.slice none 0 0)) ∧ w.frozen? ⟨g, q, none⟩ = false ∧ g < w.heap.size := by
  have ho := h.own
  rw [hl] at ho
  have hL := h.len
  obtain ⟨g', u, e1, e2, e3, e4, e5⟩ := own_at ho hq
  simp only [Option.some.injEq, Addr.mk.injEq, and_true] at e1
  subst e1
  refine ⟨?_, own_frozen ho q, e3⟩
  rw [e5, ← e4]
  simp [List.getElem?_eq_getElem (show q < L.length by omega)]
/-- One row of it. -/
theorem LsV.one {w : World} {B n q : Nat} {v : Value} {L : List Value} {rows : List (List Int)} (h : LsV w B v L rows) (hl : rows.length = n) (hq : q < n) (hb : ∀ x ∈ rows.getD q [], 0 ≤ x ∧ x ≤ 18446744073709551615) : ∃ a c, L.getD q (.slice none 0 0) = .slice a (rows.getD q []).length c ∧ Rd w a (rows.getD q []).length c (rows.getD q []) := by
  obtain ⟨a, c, e, hr, _⟩ := Rd.own (h.row q (by omega)) hb
  exact ⟨a, c, e, hr⟩
/-- It reads as its rows. -/
theorem LsV.rdR {w : World} {B n : Nat} {v : Value} {L : List Value} {rows : List (List Int)} (h : LsV w B v L rows) (hl : rows.length = n) (hb : ∀ i, i < n → ∀ x ∈ rows.getD i [], 0 ≤ x ∧ x ≤ 18446744073709551615) : ∃ a c, v = .slice a n c ∧ RdR w a n c rows := by
  have ho := h.own
  rw [hl] at ho
  have hL := h.len
  rcases ho.2 with ⟨rfl, rfl⟩ | ⟨g, cap, cur, rfl, hb', hg, h1, h2, hs, ht⟩
  · exact ⟨none, 0, rfl, hl, Nat.le_refl _, Nat.zero_le _, fun _ => rfl, by simp⟩
  · refine ⟨_, _, rfl, hl, h1, h2, by simp, fun x hx i hi => ?_⟩
    obtain rfl := Option.some.inj hx
    obtain ⟨a, c, e, hr⟩ := h.one hl hi (hb i hi)
    refine ⟨a, c, ?_, hr⟩
    have := ho.cells (g := g) rfl i (L.getD i (.slice none 0 0)) (by simp [List.getElem?_eq_getElem (show i < L.length by omega)])
    rw [this, e]
/-- append of one number to a slice that the call itself gathers, a step of a region that draws; where it lies. -/
theorem step_appL {P : Program} {T E : TypeId} (hT : P.underlying T = some (.slice E)) (info : (P.info? E).map (fun i => (i.zero, i.size, i.bytes)) = some (some (.int .u64 0), 1, 8))
    (w : World) {w1 : World} {ops : Array Oper} {o : Oper} {a : Act} {K : Act → World → Prop} {Q : Exit → Act → World → Prop} {F : Prop} (hgd : o.guard = none) (s x : Operand)
    (ho : o.op = .call { callee := .builtin .append, args := #[s, x], argTypes := #[T, T] })
    (base : Nat) (v : Value) (n : Nat) (xs : List Int) (hs : a.eval s = v) (hown : w.ownsRow base E 1 v n (xs.map (Value.int .u64))) (y : Int) (hx : a.eval x = .slice (some ⟨w.heap.size, 0, none⟩) 1 1)
    (hw1 : w1 = w.alloc (.cells #[.int .u64 y] E)) (hn : n ≤ 1000000) (hbase : base ≤ w.heap.size)
    (h : ∀ g cap w', w'.ownsRow base E 1 (.slice (some ⟨g, 0, none⟩) (n + 1) cap) (n + 1) ((xs ++ [y]).map (Value.int .u64)) → w.grownBy w' v.ownBlock → ((Value.slice (some ⟨g, 0, none⟩) (n + 1) cap).ownBlock = v.ownBlock ∨ ∃ k, (Value.slice (some ⟨g, 0, none⟩) (n + 1) cap).ownBlock = some k ∧ w.heap.size ≤ k) → K (a.put o.dst (.slice (some ⟨g, 0, none⟩) (n + 1) cap)) w') :
    if Region.wanted o (yielded ops a.tmps) = true then Oper.wp P o a w1 K Q else F := by
  subst hw1
  obtain ⟨i0, hi, hz0, hz1, hz2⟩ := info_parts info
  refine step_append_lies _ hgd s x T ho base E i0 (.int .u64 0) 1 8 hT hi hz0 hz1 hz2 rfl (by decide) v n _ hs (hown.alloc _) ⟨w.heap.size, 0, none⟩ 1 1 [.int .u64 y] hx rfl ?_ ?_ (by decide) (by unfold maxLen; omega) (by omega) (by simp; omega) _ rfl ?_
  · intro j u hj
    match j, hj with
    | 0, hj => simp at hj; subst hj; simp [Addr.add]
  · intro u hu; simp at hu; subst hu; rfl
  · intro g cap w' hown' hgrow h4 _
    refine h g cap w' (by rw [List.map_append]; exact hown') ⟨hgrow.os, hgrow.tape, hgrow.output, ?_, fun k hk hne => ?_⟩ ?_
    · have := hgrow.size; simp at this; omega
    · rw [hgrow.block k (by simp; omega) hne]; exact Below.heap_alloc _ _ _ hk
    · rcases h4 with e | e
      · exact .inl (by rw [e]; rfl)
      · exact .inr ⟨g, rfl, by simp at e; omega⟩
end Go.Proofs.Ytfonochdnmddlab

namespace Go.Proofs.Ytfonochdnmddlab
open Go.RowKit Crm

set_option maxRecDepth 100000 in
theorem rInY (n lo hi : Int) (w : World) (h1 : lo ≤ n) (h2 : n ≤ hi) :
    Calls Try.prog 16 #[.int .i64 n, .int .i64 lo, .int .i64 hi] w fun e w' => e = .returned (.bool true) ∧ w' = w := by
  go_enter Try.func16, Try.ntmps16
  go_wp2
  go_ret
  exact ⟨rfl, rfl⟩
set_option maxRecDepth 100000 in
theorem rInN (n lo hi : Int) (w : World) (h : n < lo ∨ hi < n) :
    Calls Try.prog 16 #[.int .i64 n, .int .i64 lo, .int .i64 hi] w fun e w' => e = .returned (.bool false) ∧ w' = w := by
  by_cases h1 : n < lo
  · clear h
    go_enter Try.func16, Try.ntmps16
    go_wp2
    go_ret
    exact ⟨rfl, rfl⟩
  · have h2 : hi < n := by omega
    have hd : decide (n ≤ hi) = false := by simp; omega
    clear h
    go_enter Try.func16, Try.ntmps16
    go_wp2
    go_ret
    exact ⟨rfl, rfl⟩

set_option maxHeartbeats 1000000 in
set_option maxRecDepth 100000 in
theorem rAts (a : Option Addr) (n c : Nat) (l : List (Int × Int)) (w : World) (h : RdS w a n c l) (hn : n ≤ 1000) :
    Calls Try.prog 75 #[.slice a n c, .int .i64 2147483646] w fun e w' => Tells (okk l n) w e w' := by
  have hlen := h.len
  have hcap := h.cap
  have hmax := h.max
  unfold maxLen at hmax
  go_enter Try.func75, Try.ntmps75
  go_wp2
  go_loopw [5] (fun i wr => ∃ k : Nat, k ≤ n ∧ i = .int .i64 k ∧ Hid (okk l k) ∧ Below w.heap.size w wr) (fun i _ => n - (intOf i).toNat)
  case atStart => exact ⟨0, Nat.zero_le _, rfl, okk_zero l, Below.refl _ _⟩
  case round =>
    obtain ⟨k, hk, rfl, HK, hbel⟩ := hrel
    by_cases hlt : k < n
    · have hR := h.below hbel
      obtain ⟨b, o, x, y, rfl, hbb, HX, HY, hx0, hx1, hy0, hy1, hcx, hcy⟩ := hR.one hlt
      by_cases hx2 : x < 1 ∨ 2147483646 < x
      · have HN : Hid (¬ okk l n) := fun hk => by have := (hk k hlt).1; rw [HX.out] at this; omega
        have HX2 : Hid (x < 1 ∨ 2147483646 < x) := hx2
        clear hx2
        go_wp2_with (go_at_call 16; refine (rInN _ _ _ _ HX2.out).mono ?_; rintro e w' ⟨rfl, rfl⟩)
        go_ret
        exact .no HN.out hbel
      · go_wp2_with (go_at_call 16; refine (rInY _ _ _ _ (by omega) (by omega)).mono ?_; rintro e w' ⟨rfl, rfl⟩)
        go_loopw [6] (fun i wr => ∃ m : Nat, m ≤ k ∧ i = .int .i64 m ∧ Hid (∀ j, j < m → (l.getD j (0, 0)).1 ≠ x) ∧ Below w.heap.size w wr) (fun i _ => k - (intOf i).toNat)
        case atStart => exact ⟨0, Nat.zero_le _, rfl, fun j hj => by omega, hbel⟩
        case round =>
          obtain ⟨m, hm, rfl, HM, hbm⟩ := hrel
          by_cases hmk : m < k
          · have hR2 := h.below hbm
            obtain ⟨b', o', x', y', e', hbb', HX', HY', hx0', hx1', hy0', hy1', hcx', hcy'⟩ := hR2.one (show m < n by omega)
            simp only [Option.some.injEq, Addr.mk.injEq, and_true] at e'
            obtain ⟨rfl, rfl⟩ := e'
            obtain ⟨b'', o'', x'', y'', e'', _, HX'', _, _, _, _, _, hcx'', _⟩ := hR2.one hlt
            simp only [Option.some.injEq, Addr.mk.injEq, and_true] at e''
            obtain ⟨rfl, rfl⟩ := e''
            have e3 : x'' = x := HX''.out.symm.trans HX.out
            subst e3
            by_cases hxx : x' = x''
            · have HN : Hid (¬ okk l n) := fun hk => (hk k hlt).2 m hmk (by rw [HX'.out, HX.out]; exact hxx)
              have hxb : (x' == x'') = true := by rw [beq_iff_eq]; exact hxx
              clear hxx
              go_wp2
              go_region
              all_goals go_wp2
              all_goals
                go_ret
                exact .no HN.out (by first | exact hbm.drew | exact hbm.drew.drew)
            · have hxb : (x' == x'') = false := by rw [beq_eq_false_iff_ne]; exact hxx
              have HM2 : Hid (∀ j, j < m + 1 → (l.getD j (0, 0)).1 ≠ x'') := fun j hj => by
                by_cases e : j = m
                · rw [e, HX'.out]; exact hxx
                · exact HM.out j (by omega)
              clear hxx
              go_wp2
              go_region
              all_goals go_wp2
              all_goals
                go_roundw
                case rel => exact ⟨m + 1, by omega, by go_num, HM2, by first | exact hbm.drew | exact hbm.drew.drew⟩
                case measure => simp [intOf]; omega
          · have hmk' : m = k := by omega
            subst hmk'
            have HK2 : Hid (okk l (m + 1)) := okk_succ HK.out HX.out (by omega) (by omega) HM.out
            go_wp2
            go_roundw
            case rel => exact ⟨m + 1, by omega, by go_num, HK2, hbm⟩
            case measure => simp [intOf]; omega
    · have hkn : k = n := by omega
      subst hkn
      go_wp2
      go_ret
      exact .yes HK.out hbel
end Go.Proofs.Ytfonochdnmddlab
