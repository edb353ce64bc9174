/- Lists of rows of numbers, each row the call's own, no two of them one. · (*croftref.Store).sums. · croftref.NewStore; (*croftref.Store).Gen, Drop, Open. -/
import Derived.Test.YtgmelcdgnjcojacToRestC
import Derived.Test.YtgmelcdgnjcojacToTwoC
import Derived.Deep.AppendLies
import Derived.Deep.RegionLaw
import Derived.Test.YtgmelcdgnjcojacToSubC
import Derived.Test.YtgmelcdgnjcojacToRDealC
import Derived.Test.YtgmelcdgnjcojacToTRows
import Derived.Test.YtgmelcdgnjcojacToTwRowC
import Derived.Deep.RegionWith
import Derived.Test.YtgmelcdgnjcojacToTakeC
namespace Go.Proofs.Ytgmelcdgnjcojac
open Go.RowKit Crm

/-- A list of rows that the call gathers, each row the call's own. -/
structure LsV (w : World) (B : Nat) (v : Value) (L : List Value) (rows : List (List Int)) : Prop where
  own : w.ownsRow B 24 1 v rows.length L
  len : L.length = rows.length
  row : ∀ i, i < rows.length → w.ownsRow B 23 1 (L.getD i (.slice none 0 0)) (rows.getD i []).length ((rows.getD i []).map (Value.int .u64))
  inj : ∀ i j, i < j → j < rows.length → (L.getD i (.slice none 0 0)).ownBlock = none ∨ (L.getD i (.slice none 0 0)).ownBlock ≠ (L.getD j (.slice none 0 0)).ownBlock
theorem lsv_nil (w : World) (B : Nat) : LsV w B (.slice none 0 0) [] [] := ⟨World.ownsRow_nil _ _ _ _, rfl, fun i hi => by simp at hi, fun i j _ hj => by simp at hj⟩
theorem LsV.below {w w' : World} {B : Nat} {v : Value} {L : List Value} {rows : List (List Int)} (h : LsV w B v L rows) (hb : Below w.heap.size w w') : LsV w' B v L rows :=
  ⟨own_below h.own hb, h.len, fun i hi => own_below (h.row i hi) hb, h.inj⟩
theorem LsV.drew {w : World} {B : Nat} {v : Value} {L : List Value} {rows : List (List Int)} (h : LsV w B v L rows) : LsV w.drew B v L rows := ⟨h.own, h.len, h.row, h.inj⟩
theorem LsV.drewN {w : World} {B : Nat} {v : Value} {L : List Value} {rows : List (List Int)} (h : LsV w B v L rows) (q : Nat) : LsV (w.drewN q) B v L rows := ⟨h.own, h.len, h.row, h.inj⟩
/-- When a list of other elements, or one that lies elsewhere, grows. -/
theorem LsV.grown {w w' : World} {B : Nat} {v : Value} {L : List Value} {rows : List (List Int)} {r : Option Nat} (h : LsV w B v L rows) (hg : w.grownBy w' r) (h1 : v.ownBlock = none ∨ v.ownBlock ≠ r) (h2 : ∀ i, i < rows.length → (L.getD i (.slice none 0 0)).ownBlock = none ∨ (L.getD i (.slice none 0 0)).ownBlock ≠ r) : LsV w' B v L rows :=
  ⟨h.own.kept hg h1, h.len, fun i hi => (h.row i hi).kept hg (h2 i hi), h.inj⟩
/-- Rows that are made, none of them filled. -/
theorem lsv_made {w : World} {B n : Nat} {v : Value} (h : w.ownsRow B 24 1 v n (madeCells (Value.slice none 0 0).cells (n * 1)).toList) : LsV w B v (List.replicate n (.slice none 0 0)) (List.replicate n []) := by
  have e : (Value.slice none 0 0).cells = #[Value.slice none 0 0] := rfl
  rw [e, Nat.mul_one, toList_madeCells_one] at h
  have g1 : ∀ i, (List.replicate n (Value.slice none 0 0)).getD i (.slice none 0 0) = .slice none 0 0 := fun i => by
    rw [List.getD_eq_getElem?_getD, List.getElem?_replicate]; split <;> rfl
  have g2 : ∀ i, (List.replicate n ([] : List Int)).getD i [] = [] := fun i => by
    rw [List.getD_eq_getElem?_getD, List.getElem?_replicate]; split <;> rfl
  refine ⟨by rw [List.length_replicate]; exact h, by simp, fun i _ => ?_, fun i j _ _ => by rw [g1]; exact .inl rfl⟩
  rw [g1, g2]
  exact World.ownsRow_nil _ _ _ _
theorem getD_setV {α : Type} (l : List α) (q i : Nat) (x d : α) (hq : q < l.length) : (l.set q x).getD i d = if i = q then x else l.getD i d := by
  by_cases e : i = q
  · subst e; rw [if_pos rfl]; simp [hq]
  · rw [if_neg e]; simp [show ¬ q = i from fun e' => e e'.symm]
/-- A row grows, and is laid at its place again. -/
theorem LsV.upd {w w7 : World} {B g n c q : Nat} {u' : Value} {L : List Value} {rows : List (List Int)} {row : List Int} (h : LsV w B (.slice (some ⟨g, 0, none⟩) n c) L rows) (hl : rows.length = n) (hq : q < n)
    (hr : w7.ownsRow B 23 1 u' row.length (row.map (Value.int .u64))) (hg : w.grownBy w7 (L.getD q (.slice none 0 0)).ownBlock) (hat : u'.ownBlock = (L.getD q (.slice none 0 0)).ownBlock ∨ ∃ k, u'.ownBlock = some k ∧ w.heap.size ≤ k) :
    LsV (w7.setCell ⟨g, q, none⟩ u') B (.slice (some ⟨g, 0, none⟩) n c) (L.set q u') (rows.set q row) := by
  have hL := h.len
  have hE : (24 : TypeId) ≠ 23 := by decide
  have hE' : (23 : TypeId) ≠ 24 := by decide
  have hg2 : w7.grownBy (w7.setCell ⟨g, q, none⟩ u') (some g) := grown_set _ _ _ _
  have ho7 := h.own.kept hg (own_apart (h.row q (by omega)) h.own hE')
  rw [hl] at ho7
  have hne : ∀ i, i < n → i ≠ q → (L.getD i (.slice none 0 0)).ownBlock = none ∨ (L.getD i (.slice none 0 0)).ownBlock ≠ (L.getD q (.slice none 0 0)).ownBlock := fun i hi hiq => by
    rcases Nat.lt_or_ge i q with e | e
    · exact h.inj i q e (by omega)
    · rcases h.inj q i (by omega) (by omega) with e1 | e1
      · by_cases hn : (L.getD i (.slice none 0 0)).ownBlock = none
        · exact .inl hn
        · exact .inr (by rw [e1]; exact hn)
      · exact .inr (fun e2 => e1 e2.symm)
  have hnew : ∀ i, i < n → i ≠ q → (L.getD i (.slice none 0 0)).ownBlock = none ∨ (L.getD i (.slice none 0 0)).ownBlock ≠ u'.ownBlock := fun i hi hiq => by
    rcases hat with e | ⟨k, e, hk⟩
    · rw [e]; exact hne i hi hiq
    · cases hb : (L.getD i (.slice none 0 0)).ownBlock with
      | none => exact .inl rfl
      | some p =>
        right
        rw [e]
        intro e'
        have := ((h.row i (by omega)).lt p hb).2
        simp only [Option.some.injEq] at e'
        omega
  refine ⟨by rw [List.length_set, hl]; exact own_set ho7 q u', by simp [hL], fun i hi => ?_, fun i j hij hj => ?_⟩
  · rw [List.length_set] at hi
    rw [getD_setV _ _ _ _ _ (by omega), getD_setV _ _ _ _ _ (by omega)]
    by_cases e : i = q
    · rw [if_pos e, if_pos e]
      exact hr.kept hg2 (own_apart ho7 hr hE)
    · rw [if_neg e, if_neg e]
      have h7 := (h.row i (by omega)).kept hg (hne i (by omega) e)
      exact h7.kept hg2 (own_apart ho7 h7 hE)
  · rw [List.length_set] at hj
    rw [getD_setV _ _ _ _ _ (by omega), getD_setV _ _ _ _ _ (by omega)]
    by_cases e : i = q
    · rw [if_pos e, if_neg (by omega)]
      rcases hnew j (by omega) (by omega) with e1 | e1
      · by_cases hu : u'.ownBlock = none
        · exact .inl hu
        · exact .inr (by rw [e1]; exact hu)
      · exact .inr (fun e2 => e1 e2.symm)
    · rw [if_neg e]
      by_cases e' : j = q
      · rw [if_pos e']; exact hnew i (by omega) e
      · rw [if_neg e']; exact h.inj i j hij hj
theorem own_baseV {w : World} {B B' n z : Nat} {E : TypeId} {v : Value} {xs : List Value} (h : w.ownsRow B E z v n xs) (hB : B' ≤ B) : w.ownsRow B' E z v n xs := by
  refine ⟨h.1, ?_⟩
  rcases h.2 with h1 | ⟨g, cap, cur, e, hb, h2⟩
  · exact .inl h1
  · exact .inr ⟨g, cap, cur, e, Nat.le_trans hB hb, h2⟩
theorem LsV.base {w : World} {B B' : Nat} {v : Value} {L : List Value} {rows : List (List Int)} (h : LsV w B v L rows) (hB : B' ≤ B) : LsV w B' v L rows :=
  ⟨own_baseV h.own hB, h.len, fun i hi => own_baseV (h.row i hi) hB, h.inj⟩
/-- Its cells. -/
theorem LsV.cell {w : World} {B n c g q : Nat} {L : List Value} {rows : List (List Int)} (h : LsV w B (.slice (some ⟨g, 0, none⟩) n c) L rows) (hl : rows.length = n) (hq : q < n) : w.cell? ⟨g, q, none⟩ = some (L.getD q (.slice none 0 0)) ∧ w.frozen? ⟨g, q, none⟩ = false ∧ g < w.heap.size := by
  have ho := h.own
  rw [hl] at ho
  have hL := h.len
  obtain ⟨g', u, e1, e2, e3, e4, e5⟩ := own_at ho hq
  simp only [Option.some.injEq, Addr.mk.injEq, and_true] at e1
  subst e1
  refine ⟨?_, own_frozen ho q, e3⟩
  rw [e5, ← e4]
  simp [List.getElem?_eq_getElem (show q < L.length by omega)]
/-- One row of it. -/
theorem LsV.one {w : World} {B n q : Nat} {v : Value} {L : List Value} {rows : List (List Int)} (h : LsV w B v L rows) (hl : rows.length = n) (hq : q < n) (hb : ∀ x ∈ rows.getD q [], 0 ≤ x ∧ x ≤ 18446744073709551615) : ∃ a c, L.getD q (.slice none 0 0) = .slice a (rows.getD q []).length c ∧ Rd w a (rows.getD q []).length c (rows.getD q []) := by
  obtain ⟨a, c, e, hr, _⟩ := Rd.own (h.row q (by omega)) hb
  exact ⟨a, c, e, hr⟩
/-- It reads as its rows. -/
theorem LsV.rdR {w : World} {B n : Nat} {v : Value} {L : List Value} {rows : List (List Int)} (h : LsV w B v L rows) (hl : rows.length = n) (hb : ∀ i, i < n → ∀ x ∈ rows.getD i [], 0 ≤ x ∧ x ≤ 18446744073709551615) : ∃ a c, v = .slice a n c ∧ RdR w a n c rows := by
  have ho := h.own
  rw [hl] at ho
  have hL := h.len
  rcases ho.2 with ⟨rfl, rfl⟩ | ⟨g, cap, cur, rfl, hb', hg, h1, h2, hs, ht⟩
  · exact ⟨none, 0, rfl, hl, Nat.le_refl _, Nat.zero_le _, fun _ => rfl, by simp⟩
  · refine ⟨_, _, rfl, hl, h1, h2, by simp, fun x hx i hi => ?_⟩
    obtain rfl := Option.some.inj hx
    obtain ⟨a, c, e, hr⟩ := h.one hl hi (hb i hi)
    refine ⟨a, c, ?_, hr⟩
    have := ho.cells (g := g) rfl i (L.getD i (.slice none 0 0)) (by simp [List.getElem?_eq_getElem (show i < L.length by omega)])
    rw [this, e]
/-- append of one number to a slice that the call itself gathers, a step of a region that draws; where it lies. -/
theorem step_appL {P : Program} {T E : TypeId} (hT : P.underlying T = some (.slice E)) (info : (P.info? E).map (fun i => (i.zero, i.size, i.bytes)) = some (some (.int .u64 0), 1, 8))
    (w : World) {w1 : World} {ops : Array Oper} {o : Oper} {a : Act} {K : Act → World → Prop} {Q : Exit → Act → World → Prop} {F : Prop} (hgd : o.guard = none) (s x : Operand)
    (ho : o.op = .call { callee := .builtin .append, args := #[s, x], argTypes := #[T, T] })
    (base : Nat) (v : Value) (n : Nat) (xs : List Int) (hs : a.eval s = v) (hown : w.ownsRow base E 1 v n (xs.map (Value.int .u64))) (y : Int) (hx : a.eval x = .slice (some ⟨w.heap.size, 0, none⟩) 1 1)
    (hw1 : w1 = w.alloc (.cells #[.int .u64 y] E)) (hn : n ≤ 1000000) (hbase : base ≤ w.heap.size)
    (h : ∀ g cap w', w'.ownsRow base E 1 (.slice (some ⟨g, 0, none⟩) (n + 1) cap) (n + 1) ((xs ++ [y]).map (Value.int .u64)) → w.grownBy w' v.ownBlock → ((Value.slice (some ⟨g, 0, none⟩) (n + 1) cap).ownBlock = v.ownBlock ∨ ∃ k, (Value.slice (some ⟨g, 0, none⟩) (n + 1) cap).ownBlock = some k ∧ w.heap.size ≤ k) → K (a.put o.dst (.slice (some ⟨g, 0, none⟩) (n + 1) cap)) w') :
    if Region.wanted o (yielded ops a.tmps) = true then Oper.wp P o a w1 K Q else F := by
  subst hw1
  obtain ⟨i0, hi, hz0, hz1, hz2⟩ := info_parts info
  refine step_append_lies _ hgd s x T ho base E i0 (.int .u64 0) 1 8 hT hi hz0 hz1 hz2 rfl (by decide) v n _ hs (hown.alloc _) ⟨w.heap.size, 0, none⟩ 1 1 [.int .u64 y] hx rfl ?_ ?_ (by decide) (by unfold maxLen; omega) (by omega) (by simp; omega) _ rfl ?_
  · intro j u hj
    match j, hj with
    | 0, hj => simp at hj; subst hj; simp [Addr.add]
  · intro u hu; simp at hu; subst hu; rfl
  · intro g cap w' hown' hgrow h4 _
    refine h g cap w' (by rw [List.map_append]; exact hown') ⟨hgrow.os, hgrow.tape, hgrow.output, ?_, fun k hk hne => ?_⟩ ?_
    · have := hgrow.size; simp at this; omega
    · rw [hgrow.block k (by simp; omega) hne]; exact Below.heap_alloc _ _ _ hk
    · rcases h4 with e | e
      · exact .inl (by rw [e]; rfl)
      · exact .inr ⟨g, rfl, by simp at e; omega⟩
end Go.Proofs.Ytgmelcdgnjcojac

namespace Go.Proofs.Ytgmelcdgnjcojac
open Go.RowKit Crm

/-- How many draws the first i parties take. -/
def kat (t : Nat) (sec : Bool) (i : Nat) : Nat := if sec then i * (t + 1) else i * t
theorem kat_le {t i n : Nat} {sec : Bool} (h : i ≤ n) : kat t sec i ≤ kat t sec n := by
  unfold kat
  split <;> exact Nat.mul_le_mul_right _ h
theorem kat_succ (t : Nat) (sec : Bool) (i : Nat) : kat t sec (i + 1) = kat t sec i + (if sec then 1 else 0) + t := by
  unfold kat
  cases sec <;> simp [Nat.add_mul] <;> omega
theorem kat_max {t n : Nat} (sec : Bool) (ht : t ≤ 4) (hn : n ≤ 9) : kat t sec n ≤ 45 := by
  unfold kat
  split
  · exact Nat.mul_le_mul hn (show t + 1 ≤ 5 by omega)
  · exact Nat.le_trans (Nat.mul_le_mul hn ht) (by omega)
theorem kdr_true (t : Nat) (ds : List Int) (i : Nat) : kdr t true ds i = ds.getD (kat t true i) 0 :: (ds.drop (kat t true i + 1)).take t := rfl
theorem kdr_fals (t : Nat) (ds : List Int) (i : Nat) : kdr t false ds i = 0 :: (ds.drop (kat t false i)).take t := rfl
theorem infoU1 : (Try.prog.info? 23).map (·.size) = some 1 := by kernel_rfl

set_option maxRecDepth 100000 in
set_option maxHeartbeats 4000000 in
theorem rSums (p : Nat) (G : Nat → Prop) (s : Kt) (a : Option Addr) (m c : Nat) (ds : List Int) (sec : Bool) (w : World) (h : Stx 55 w p G s) (r : Rd w a m c ds) (hm : m = kat s.t sec s.n) :
    Calls Try.prog 49 #[.pointer (some ⟨p, 0, none⟩), .slice a m c, .bool sec] w fun e w' => ∃ v, e = .returned v ∧ w'.ownsRow w.heap.size 23 1 v s.n ((ksm s.n s.t sec ds s.n).map (Value.int .u64)) ∧ Below w.heap.size w w' := by
  obtain ⟨i0, hi, hz0, hz1, hz2⟩ := info_parts info23
  have hw := h.wf
  have ht4 := hw.t4
  have hn9 := hw.n9
  have hnt := hw.nt
  have hcap := r.cap
  have hmax := r.max
  unfold maxLen at hmax
  have HM : Hid (m = kat s.t sec s.n) := hm
  have hm45 : m ≤ 45 := by rw [hm]; exact kat_max sec ht4 hn9
  clear hm
  obtain ⟨n, HN⟩ : ∃ n, Hid (s.n = n) := ⟨_, rfl⟩
  obtain ⟨t, HT⟩ : ∃ t, Hid (s.t = t) := ⟨_, rfl⟩
  rw [HN.out] at hn9 hnt HM ⊢
  rw [HT.out] at ht4 hnt HM ⊢
  have hc0 : ∀ w', Below w.heap.size w w' → w'.cell? ⟨p, 0, none⟩ = some (.int .i64 (n : Int)) ∧ w'.cell? ⟨p, 1, none⟩ = some (.int .i64 (t : Int)) ∧ p < w'.heap.size := fun w' hb => by
    obtain ⟨⟨b, V, hS, _⟩, _⟩ := h.same hb
    have := hS.four
    rw [HN.out, HT.out] at this
    exact ⟨this.1, this.2.1, hS.lt⟩
  have HC : Hid (∀ w', Below w.heap.size w w' → w'.cell? ⟨p, 0, none⟩ = some (.int .i64 (n : Int)) ∧ w'.cell? ⟨p, 1, none⟩ = some (.int .i64 (t : Int)) ∧ p < w'.heap.size) := hc0
  clear hc0 h hw
  obtain ⟨c0, c1, hpl⟩ := HC.out w (Below.refl _ _)
  go_enter Try.func49, Try.ntmps49
  go_wp2_with (at_make; refine wpList_make_full _ rfl _ _ 24 rfl w.heap.size 23 i0 (.int .u64 0) 1 Try.underlying24 hi hz0 hz1 .i64 .i64 _ _ n rfl rfl rfl rfl (by rw [hz2]; omega) (by unfold maxLen; omega) (Nat.le_refl _) ?_; intro w2 hown hgrow)
  have ho2 : w2.ownsRow w.heap.size 23 1 (.slice (some ⟨w.heap.size, 0, none⟩) n n) n ((ksm n t sec ds 0).map (Value.int .u64)) := (Blk.made hown).own (by simp) (Nat.le_refl _) (by omega)
  have hb2 : Below w.heap.size w w2 := (Below.refl _ _).grown hgrow (Nat.le_refl _) (by simp)
  clear hown hgrow
  go_loopw [7, 8, 9] (fun v q j wr => ∃ i A : Nat, i ≤ n ∧ j = .int .i64 i ∧ q = .int .i64 A ∧ Hid (kat t sec i = A) ∧ A ≤ 45 ∧ wr.ownsRow w.heap.size 23 1 v n ((ksm n t sec ds i).map (Value.int .u64)) ∧ Below w.heap.size w wr) (fun _ _ j _ => n - (intOf j).toNat)
  case atStart => exact ⟨0, 0, Nat.zero_le _, rfl, rfl, by unfold Hid kat; split <;> simp, by omega, ho2, hb2⟩
  case round =>
    clear ho2 hb2 c0 c1 hpl
    obtain ⟨i, A, hin, rfl, rfl, HA, hA45, hown, hbel⟩ := hrel
    obtain ⟨c0, c1, hpl⟩ := HC.out wr hbel
    have hs1 := hbel.size
    by_cases hlt : i < n
    · have hlti : (i : Int) < (n : Int) := by omega
      have hAm : kat t sec (i + 1) ≤ m := by rw [HM.out]; exact kat_le (by omega)
      have HNX := kat_succ t sec i
      rw [HNX, HA.out] at hAm
      have rr := r.below hbel
      have HD2 : Hid (mxl (ksm n t sec ds i) (dl (kdr t sec ds i) n) 1 1 0 n = ksm n t sec ds (i + 1)) := rfl
      obtain ⟨u, c', rfl, hru, _⟩ := Rd.own hown (bd_u64 (ksm_ksh n t sec ds i).bd)
      cases sec with
      | true =>
        simp only [if_true] at hAm HNX
        obtain ⟨bb, o, x, rfl, hbb, HX, hx0, hx1, hcx⟩ := rr.one (show A < m by omega)
        have HKD : Hid (kdr t true ds i = x :: (ds.drop (A + 1)).take t) := by unfold Hid; rw [kdr_true, HA.out, HX.out]
        have hrs := rr.sub (lo := A + 1) (k := t) (by omega)
        obtain ⟨sa, HSA⟩ : ∃ sa, Hid (subA (some ⟨bb, o, none⟩) c (A + 1) = sa) := ⟨_, rfl⟩
        have hsl : ∀ W, (Instr.sliceAt 24 (.slice (some ⟨bb, o, none⟩) m c) (some (.int .i64 ((A : Int) + 1))) (some (.int .i64 ((A : Int) + 1 + (t : Int)))) none).run Try.prog W = .ok (.slice sa t (c - (A + 1))) W := fun W => by
          rw [← HSA.out]
          exact run_sub Try.underlying24 infoU1 _ m c (A + 1) t (by push_cast; rfl) (by push_cast; rfl) (by omega) W
        rw [HSA.out] at hrs
        have hw1 : IntKind.i64.wrap ((A : Int) + 1 + (t : Int)) = (A : Int) + 1 + (t : Int) := by rw [IntKind.wrap_i64]; omega
        have HNXT : Hid (kat t true (i + 1) = A + 1 + t) := by unfold Hid; rw [HNX, HA.out]
        have hAi : (A : Int) < (m : Int) := by omega
        have hA0 : (0 : Int) ≤ (A : Int) := by omega
        have HRS : Hid (∀ w', Below wr.heap.size wr w' → Rd w' sa t (c - (A + 1)) ((ds.drop (A + 1)).take t)) := fun w' hb => hrs.below hb
        clear rr hrs
        go_wp2
        go_region_with (go_at_call 64; refine (rDealt x _ _ _ ((ds.drop (A + 1)).take t) n _ (HRS.out _ (Below.refl _ _).drew) hx0 hx1 ht4 hn9).mono ?_; rintro e w3 ⟨a3, c3, rfl, hr3, hb3⟩; rw [← HKD.out] at hr3)
        all_goals
          have hb4 : Below wr.heap.size wr w3 := ((Below.refl _ _).drew).trans (hb3.mono (Nat.le_refl _))
          have hru3 := hru.below hb4
          have hbel3 := hbel.trans (hb4.mono hs1)
          obtain ⟨d0, d1, hpl3⟩ := HC.out w3 hbel3
          clear hb3 hb4 hown
          go_wp2_with fail
          refine (rMixed _ _ _ _ _ _ _ _ _ _ _ hru3 hr3 (by omega) (by omega) (by omega) (by omega) (by omega) (by omega) (by omega)).mono ?_
          rintro e w5 ⟨v5, rfl, ho5, hb5⟩
          rw [HD2.out] at ho5
          have ho6 := own_baseV ho5 hbel3.size
          have hbel5 := hbel3.trans (hb5.mono hbel3.size)
          clear ho5 hb5 d0 d1 hpl3
          go_wp2
          go_roundw
          case rel => exact ⟨i + 1, A + 1 + t, by omega, by go_num, by go_num, HNXT, by omega, ho6, hbel5⟩
          case measure => simp [intOf]; omega
      | false =>
        simp only [Bool.false_eq_true, if_false, Nat.add_zero] at hAm HNX
        have HKD : Hid (kdr t false ds i = 0 :: (ds.drop A).take t) := by unfold Hid; rw [kdr_fals, HA.out]
        have hrs := rr.sub (lo := A) (k := t) (by omega)
        obtain ⟨sa, HSA⟩ : ∃ sa, Hid (subA a c A = sa) := ⟨_, rfl⟩
        have hsl : ∀ W, (Instr.sliceAt 24 (.slice a m c) (some (.int .i64 (A : Int))) (some (.int .i64 ((A : Int) + (t : Int)))) none).run Try.prog W = .ok (.slice sa t (c - A)) W := fun W => by
          rw [← HSA.out]
          exact run_sub Try.underlying24 infoU1 _ m c A t rfl rfl (by omega) W
        rw [HSA.out] at hrs
        have hw1 : IntKind.i64.wrap ((A : Int) + (t : Int)) = (A : Int) + (t : Int) := by rw [IntKind.wrap_i64]; omega
        have HNXT : Hid (kat t false (i + 1) = A + t) := by unfold Hid; rw [HNX, HA.out]
        have HRS : Hid (∀ w', Below wr.heap.size wr w' → Rd w' sa t (c - A) ((ds.drop A).take t)) := fun w' hb => hrs.below hb
        clear rr hrs
        go_wp2
        go_region_with (go_at_call 64; refine (rDealt 0 _ _ _ ((ds.drop A).take t) n _ (HRS.out _ (Below.refl _ _).drew) (by omega) (by omega) ht4 hn9).mono ?_; rintro e w3 ⟨a3, c3, rfl, hr3, hb3⟩; rw [← HKD.out] at hr3)
        all_goals
          have hb4 : Below wr.heap.size wr w3 := ((Below.refl _ _).drew).trans (hb3.mono (Nat.le_refl _))
          have hru3 := hru.below hb4
          have hbel3 := hbel.trans (hb4.mono hs1)
          obtain ⟨d0, d1, hpl3⟩ := HC.out w3 hbel3
          clear hb3 hb4 hown
          go_wp2_with fail
          refine (rMixed _ _ _ _ _ _ _ _ _ _ _ hru3 hr3 (by omega) (by omega) (by omega) (by omega) (by omega) (by omega) (by omega)).mono ?_
          rintro e w5 ⟨v5, rfl, ho5, hb5⟩
          rw [HD2.out] at ho5
          have ho6 := own_baseV ho5 hbel3.size
          have hbel5 := hbel3.trans (hb5.mono hbel3.size)
          clear ho5 hb5 d0 d1 hpl3
          go_wp2
          go_roundw
          case rel => exact ⟨i + 1, A + t, by omega, by go_num, by go_num, HNXT, by omega, ho6, hbel5⟩
          case measure => simp [intOf]; omega
    · obtain rfl : i = n := by omega
      have hnn : ¬ ((i : Int) < (i : Int)) := by omega
      go_wp2
      go_ret
      exact ⟨_, rfl, hown, hbel⟩
end Go.Proofs.Ytgmelcdgnjcojac

namespace Go.Proofs.Ytgmelcdgnjcojac
open Go.RowKit Crm

theorem hsl_one (s : Kt) (x : Int) : hsl s [x] 1 = (s.f x).isSome := by simp [hsl]
theorem hsl_two (s : Kt) (x y : Int) : hsl s [x, y] 2 = ((s.f x).isSome && (s.f y).isSome) := by simp [hsl]

set_option maxRecDepth 100000 in
set_option maxHeartbeats 2000000 in
theorem rGen (p : Nat) (G : Nat → Prop) (s : Kt) (a : Option Addr) (m c : Nat) (ds : List Int) (w : World) (h : Stx 55 w p G s) (r : Rd w a m c ds) (hlast : s.last ≤ 1000000) :
    Calls Try.prog 19 #[.pointer (some ⟨p, 0, none⟩), .slice a m c] w (Kde 55 p G (kgen s ds) w) := by
  have hw := h.wf
  have ht4 := hw.t4
  have hn9 := hw.n9
  have hnt := hw.nt
  have hcap := r.cap
  have hmax := r.max
  have hlen := r.len
  unfold maxLen at hmax
  have HH : Hid (Stx 55 w p G s) := h
  obtain ⟨⟨b, V, hS, _⟩, hGl⟩ := h
  obtain ⟨c0, c1, c2, c3⟩ := hS.four
  have hpl := hS.lt
  clear hS hw
  obtain ⟨n, HN⟩ : ∃ n, Hid (s.n = n) := ⟨_, rfl⟩
  obtain ⟨t, HT⟩ : ∃ t, Hid (s.t = t) := ⟨_, rfl⟩
  rw [HN.out] at c0 hn9 hnt
  rw [HT.out] at c1 ht4 hnt
  obtain ⟨T1, HT1⟩ : ∃ T1, Hid (t + 1 = T1) := ⟨_, rfl⟩
  have hT1 : (t : Int) + 1 = (T1 : Int) := by rw [← HT1.out]; omega
  obtain ⟨M, HM⟩ : ∃ M, Hid (n * T1 = M) := ⟨_, rfl⟩
  have hMI : (n : Int) * (T1 : Int) = (M : Int) := by rw [← HM.out]; push_cast; rfl
  have hM45 : M ≤ 45 := by rw [← HM.out]; exact Nat.mul_le_mul hn9 (show T1 ≤ 5 by rw [← HT1.out]; omega)
  have hw1 : IntKind.i64.wrap ((T1 : Int)) = (T1 : Int) := by rw [IntKind.wrap_i64]; rw [← hT1]; omega
  have hw2 : IntKind.i64.wrap ((M : Int)) = (M : Int) := by rw [IntKind.wrap_i64]; omega
  have HMK : Hid (s.n * (s.t + 1) = M) := by unfold Hid; rw [HN.out, HT.out, HT1.out, HM.out]
  by_cases hm : m = M
  · subst hm
    have HG : Hid (kgen s ds = kadd s (ksm s.n s.t true ds s.n)) := if_pos (by rw [hlen, HMK.out])
    have HK : Hid (m = kat s.t true s.n) := HMK.out.symm
    have hmm : ((m : Int) != (m : Int)) = false := by simp
    go_enter Try.func19, Try.ntmps19
    go_wp2
    go_quiet (fail)
    have hb1 : Below w.heap.size w (w.drewN nq) := drewN_below (Below.refl _ _) nq
    generalize w.drewN nq = w1 at *
    have h1 := HH.out.same hb1
    clear c0 c1 c2 c3 hpl
    go_wp2_with fail
    refine (rSums p G s a m c ds true _ h1 (r.below hb1) HK.out).mono ?_
    rintro e w2 ⟨v, rfl, ho2, hb2⟩
    obtain ⟨a2, c2, rfl, hr2, hx2⟩ := Rd.own ho2 (bd_u64 (ksm_bd _ _ _ _ _))
    have hG2 := gnx_new (G := G) hr2 (by rw [HN.out]; omega) hx2
    have h2 := h1.below hb2
    clear ho2 hx2
    go_wp2_with fail
    refine (rKeep p _ s a2 c2 _ _ h2 hr2 (ksm_bd _ _ _ _ _) hG2 hlast).mono ?_
    intro e w3 hK
    have HR : Hid (Kde 55 p G (kgen s ds) w e w3) := by unfold Hid; rw [HG.out]; exact (hK.behind hb2 h1.2).after hb1 hGl
    obtain ⟨rfl, _, _⟩ := hK
    clear h2 hr2 hG2
    rw [← HG.out]
    go_wp2
    go_ret2
    rw [HG.out]
    exact HG.out ▸ HR.out
  · have HG : Hid (kgen s ds = (0, 1, s)) := if_neg (by rw [hlen, HMK.out]; exact hm)
    have hmm : ((m : Int) != (M : Int)) = true := by rw [bne_iff_ne]; omega
    clear hm
    go_enter Try.func19, Try.ntmps19
    go_wp2
    go_quiet (fail)
    have hb1 : Below w.heap.size w (w.drewN nq) := drewN_below (Below.refl _ _) nq
    generalize w.drewN nq = w1 at *
    go_wp2
    go_ret2
    rw [HG.out]
    exact ⟨rfl, HH.out.below hb1, Tch.of_below hb1⟩
end Go.Proofs.Ytgmelcdgnjcojac
