/- Rows by party: the table that package twine makes of rows. · twine.byParty. · (*twine.parties).both, apart. -/
import Derived.Test.YtnofegdlainjaagDoorToJoinC
import Derived.Laws.Rows
import Derived.Laws.Tables
import Derived.Laws.CopyOwn
import Derived.Test.YtnofegdlainjaagDoorToLsV
import Derived.Test.YtnofegdlainjaagDoorToTEqC
namespace Go.Proofs.YtnofegdlainjaagDoor
open Go.RowKit Crm

/-- No row. -/
def nil10 : List Value := List.replicate 10 (.slice none 0 0)
/-- Block g holds the table S. -/
def BlkV (w : World) (g : Nat) (S : List Value) : Prop := w.heap[g]? = some (.cells S.toArray 113 (0, 0))
theorem BlkV.lt {w : World} {g : Nat} {S : List Value} (h : BlkV w g S) : g < w.heap.size := (Array.getElem?_eq_some_iff.1 h).1
theorem BlkV.cell {w : World} {g : Nat} {S : List Value} (h : BlkV w g S) {i : Nat} {v : Value} (hi : S[i]? = some v) : w.cell? ⟨g, i, none⟩ = some v := by
  rw [cell_of_row w g i _ _ (0, 0) h]
  simpa using hi
theorem BlkV.frozen {w : World} {g : Nat} {S : List Value} (h : BlkV w g S) (i : Nat) : w.frozen? ⟨g, i, none⟩ = false := frozen_of_row w g i _ _ h
theorem BlkV.set {w : World} {g : Nat} {S : List Value} (h : BlkV w g S) (i : Nat) (v : Value) : BlkV (w.setCell ⟨g, i, none⟩ v) g (S.set i v) := by
  have := heap_setCell_same w g i _ _ v h
  unfold BlkV
  rw [this]
  simp
theorem BlkV.below {w w' : World} {B g : Nat} {S : List Value} (h : BlkV w g S) (hb : Below B w w') (hg : g < B) : BlkV w' g S := by
  unfold BlkV; rw [hb.block g hg]; exact h
theorem BlkV.other {w : World} {g g' i : Nat} {S : List Value} {v : Value} (h : BlkV w g S) (hg : g' ≠ g) : BlkV (w.setCell ⟨g', i, none⟩ v) g S := by
  unfold BlkV; rw [heap_setCell_other w ⟨g', i, none⟩ g v (fun e => hg e.symm)]; exact h

/-- The table has the first k rows of l, each at its party. -/
structure Pt (w : World) (l : List (Int × List Int)) (k : Nat) (S : List Value) : Prop where
  len : S.length = 10
  row : ∀ p : Nat, p < 10 → ∃ a m c, S[p]? = some (.slice a m c) ∧ m ≤ 5 ∧ ((m = 0 ∧ ∀ r, r < k → ta l r ≠ (p : Int)) ∨ (∃ r, r < k ∧ ta l r = (p : Int) ∧ 1 ≤ m ∧ Rd w a m c (tc l r)))
  rwk : Rwk l k
theorem Pt.below {w w' : World} {l : List (Int × List Int)} {k : Nat} {S : List Value} (h : Pt w l k S) (hb : Below w.heap.size w w') : Pt w' l k S := by
  refine ⟨h.len, fun p hp => ?_, h.rwk⟩
  obtain ⟨a, m, c, h1, h2, h3⟩ := h.row p hp
  refine ⟨a, m, c, h1, h2, ?_⟩
  rcases h3 with h3 | ⟨r, r1, r2, r3, r4⟩
  · exact .inl h3
  · exact .inr ⟨r, r1, r2, r3, r4.below hb⟩
theorem pt_start (w : World) (l : List (Int × List Int)) : Pt w l 0 nil10 :=
  ⟨rfl, fun p hp => ⟨none, 0, 0, by unfold nil10; rw [List.getElem?_replicate, if_pos hp], by omega, .inl ⟨rfl, fun r hr => by omega⟩⟩, rwk_zero l⟩
theorem pt_step {w : World} {l : List (Int × List Int)} {k p m c c0 : Nat} {S : List Value} {a a0 : Option Addr} (h : Pt w l k S) (hp : ta l k = (p : Int)) (h1 : 1 ≤ p) (h9 : p ≤ 9) (hr : Rd w a m c (tc l k)) (m1 : 1 ≤ m) (m5 : m ≤ 5) (hS : S[p]? = some (.slice a0 0 c0)) : Pt w l (k + 1) (S.set p (.slice a m c)) := by
  have hno : ∀ r, r < k → ta l r ≠ (p : Int) := by
    obtain ⟨a', m', c', e1, e2, e3⟩ := h.row p (by omega)
    rw [hS] at e1
    simp only [Option.some.injEq, Value.slice.injEq] at e1
    obtain ⟨rfl, rfl, rfl⟩ := e1
    rcases e3 with e3 | ⟨r, _, _, e4, _⟩
    · exact e3.2
    · omega
  have hl := h.len
  refine ⟨by rw [List.length_set]; exact hl, fun q hq => ?_, rwk_succ h.rwk hp hr.len (by omega) (by omega) m1 m5 hno⟩
  by_cases e : q = p
  · subst e
    exact ⟨a, m, c, by rw [List.getElem?_set_self (by omega)], m5, .inr ⟨k, by omega, hp, m1, hr⟩⟩
  · obtain ⟨a', m', c', e1, e2, e3⟩ := h.row q hq
    refine ⟨a', m', c', by rw [List.getElem?_set_ne (fun e' => e e'.symm)]; exact e1, e2, ?_⟩
    rcases e3 with ⟨e3, e4⟩ | ⟨r, e3, e4, e5, e6⟩
    · refine .inl ⟨e3, fun r hr => ?_⟩
      by_cases er : r = k
      · rw [er, hp]; omega
      · exact e4 r (by omega)
    · exact .inr ⟨r, by omega, e4, e5, e6⟩
theorem pt_twice {w : World} {l : List (Int × List Int)} {k n p m c : Nat} {S : List Value} {a : Option Addr} (h : Pt w l k S) (hk : k < n) (hp : ta l k = (p : Int)) (h9 : p ≤ 9) (hS : S[p]? = some (.slice a m c)) (hm : 0 < m) : ¬ Rwk l n := fun hR => by
  obtain ⟨a', m', c', e1, e2, e3⟩ := h.row p (by omega)
  rw [hS] at e1
  simp only [Option.some.injEq, Value.slice.injEq] at e1
  obtain ⟨rfl, rfl, rfl⟩ := e1
  rcases e3 with e3 | ⟨r, e4, e5, _, _⟩
  · omega
  · exact (hR k hk).1.2 r e4 (by rw [e5, hp])
theorem nil10_one : (nil10.toArray.all (·.oneCell')) = true := by
  rw [Array.all_eq_true_iff_forall_mem]
  intro v hv
  obtain rfl := List.eq_of_mem_replicate (show v ∈ List.replicate 10 _ from (by simpa [nil10] using hv : v ∈ nil10))
  rfl
theorem Pt.one {w : World} {l : List (Int × List Int)} {k : Nat} {S : List Value} (h : Pt w l k S) : (S.toArray.all (·.oneCell')) = true := by
  rw [Array.all_eq_true_iff_forall_mem]
  intro v hv
  obtain ⟨i, hi, rfl⟩ := List.getElem_of_mem (show v ∈ S by simpa using hv)
  obtain ⟨a, m, c, h1, _⟩ := h.row i (by have := h.len; omega)
  rw [List.getElem?_eq_getElem hi] at h1
  rw [Option.some.inj h1]
  rfl
theorem Pt.size {w : World} {l : List (Int × List Int)} {k : Nat} {S : List Value} (h : Pt w l k S) : S.toArray.size = 10 := by simpa using h.len
/-- What byParty answers. -/
def Byp (l : List (Int × List Int)) (n : Nat) (w : World) (e : Ending) (w' : World) : Prop :=
  ((∃ S, Pt w' l n S ∧ e = .returned (.tuple #[.agg S.toArray, .bool true])) ∨ (¬ Rwk l n ∧ e = .returned (.tuple #[.agg nil10.toArray, .bool false]))) ∧ Below w.heap.size w w'
end Go.Proofs.YtnofegdlainjaagDoor

namespace Go.Proofs.YtnofegdlainjaagDoor
open Go.RowKit Crm

theorem results_two {P : Program} {fn : Func} {p q : Tmp} {ty : TypeId} (h : fn.results = #[.cell p ty, .tmp q]) {tmps : Array Value} {w : World} {g : Nat} {v u : Value} (hl : (loadVar ty ⟨g, 0, none⟩).run P w = .ok v w)
    (hp : tmps.getD p undef = .pointer (some ⟨g, 0, none⟩)) (hq : tmps.getD q undef = u) : (results fn tmps).run P w = .ok (.tuple #[v, u]) w := by
  have hp' : tmps[p]?.getD undef = .pointer (some ⟨g, 0, none⟩) := by simpa using hp
  have hq' : tmps[q]?.getD undef = u := by simpa using hq
  simp [results, h, hp', hq', asAddr, hl]
theorem infoPt : (Tryd.prog.info? 113).map (·.size) = some 10 := by kernel_rfl
theorem by_new (w : World) : BlkV ((w.alloc (.cells nil10.toArray 113)).alloc (.cells nil10.toArray 113)) w.heap.size nil10 ∧ BlkV ((w.alloc (.cells nil10.toArray 113)).alloc (.cells nil10.toArray 113)) (w.heap.size + 1) nil10 ∧ Below w.heap.size w ((w.alloc (.cells nil10.toArray 113)).alloc (.cells nil10.toArray 113)) := by
  have h1 : BlkV (w.alloc (.cells nil10.toArray 113)) w.heap.size nil10 := heap_alloc_new w _
  have h2 : BlkV ((w.alloc (.cells nil10.toArray 113)).alloc (.cells nil10.toArray 113)) (w.alloc (.cells nil10.toArray 113)).heap.size nil10 := heap_alloc_new _ _
  have e : (w.alloc (.cells nil10.toArray 113)).heap.size = w.heap.size + 1 := by simp
  rw [e] at h2
  exact ⟨h1.below ((Below.refl _ _).alloc (Nat.le_refl _) _) h1.lt, h2, ((Below.refl _ _).alloc (Nat.le_refl _) _).alloc (by simp) _⟩

set_option maxRecDepth 100000 in
set_option maxHeartbeats 1000000 in
theorem cByParty (a : Option Addr) (n c : Nat) (l : List (Int × List Int)) (w : World) (h : RdW w a n c l) :
    Calls Tryd.prog 68 #[.slice a n c] w fun e w' => Byp l n w e w' := by
  have hcap := h.cap
  have hmax := h.max
  unfold maxLen at hmax
  go_enter Tryd.func68, Tryd.ntmps68
  go_wp2
  go_loopw [9] (fun i wr => ∃ (k : Nat) (S : List Value), k ≤ n ∧ i = .int .i64 k ∧ BlkV wr w.heap.size nil10 ∧ BlkV wr (w.heap.size + 1) S ∧ Hid (Pt w l k S) ∧ Below w.heap.size w wr) (fun i _ => n - (intOf i).toNat)
  case atStart => exact ⟨0, nil10, Nat.zero_le _, rfl, (by_new w).1, (by_new w).2.1, pt_start w l, (by_new w).2.2⟩
  case round =>
    obtain ⟨k, S, hk, rfl, hB0, hB1, HP, hbel⟩ := hrel
    have hs1 := hbel.size
    by_cases hlt : k < n
    · obtain ⟨b, o, x, ai, ni, ci, row, rfl, hbb, HX, HRow, hx0, hx1, hcx0, hcr0, hrow⟩ := h.one hlt
      have hcx := hcx0
      rw [← hbel.cell (p := ⟨b, o + k * 2, none⟩) hbb] at hcx
      have hcr := hcr0
      rw [← hbel.cell (p := ⟨b, o + k * 2 + 1, none⟩) hbb] at hcr
      have hnl := hrow.len
      have hnc := hrow.cap
      have hnm := hrow.max
      unfold maxLen at hnm
      have hbA0 : Below wr.heap.size wr (wr.alloc (.cells #[.int .i64 x, .slice ai ni ci] 80)) := (Below.refl _ _).alloc (Nat.le_refl _) _
      have hbA := hbel.trans (hbA0.mono hs1)
      have hA0 := hB0.below hbA0 hB0.lt
      have hA1 := hB1.below hbA0 hB1.lt
      have hcA0 := cell_alloc0 wr (.int .i64 x) (.slice ai ni ci) 80
      have hcA1 := cell_alloc1 wr (.int .i64 x) (.slice ai ni ci) 80
      have hbZ := below_setRow hbA (Nat.le_refl _) nil10.toArray
      have HZ : Hid (_ = _) := run_loadVar_row (P := Tryd.prog) _ w.heap.size 113 113 nil10.toArray (0, 0) _ (setRow_heap _ w.heap.size _ nil10.toArray _ (0, 0) hA0) Tryd.underlying113 rfl infoPt
      clear hbA0 hB0 hB1
      by_cases hx2 : x < 1
      · have HN : Hid (¬ Rwk l n) := fun hk => by have := (hk k hlt).1.1; rw [HX.out] at this; omega
        go_wp2_with (refine wpList_store_row rfl 113 _ _ rfl w.heap.size nil10.toArray rfl rfl 113 nil10.toArray hA0 infoPt rfl nil10_one ?_)
        exact bodyPost_ret (v := .tuple #[.agg nil10.toArray, .bool false]) (results_two Tryd.results68 HZ.out rfl rfl) rfl ⟨.inr ⟨HN.out, rfl⟩, hbZ⟩
      · by_cases hx9 : 9 < x
        · have HN : Hid (¬ Rwk l n) := fun hk => by have := (hk k hlt).1.1; rw [HX.out] at this; omega
          go_wp2_with (refine wpList_store_row rfl 113 _ _ rfl w.heap.size nil10.toArray rfl rfl 113 nil10.toArray hA0 infoPt rfl nil10_one ?_)
          exact bodyPost_ret (v := .tuple #[.agg nil10.toArray, .bool false]) (results_two Tryd.results68 HZ.out rfl rfl) rfl ⟨.inr ⟨HN.out, rfl⟩, hbZ⟩
        · obtain ⟨p, rfl⟩ : ∃ p : Nat, x = p := ⟨x.toNat, by omega⟩
          obtain ⟨a0, m0, c0, hS0, hm5, hm0⟩ := HP.out.row p (by omega)
          have hcS := hA1.cell hS0
          have hltA := hA1.lt
          by_cases hm : 0 < m0
          · have HN : Hid (¬ Rwk l n) := pt_twice HP.out hlt HX.out (by omega) hS0 hm
            clear hm0
            go_wp2_with (refine wpList_store_row rfl 113 _ _ rfl w.heap.size nil10.toArray rfl rfl 113 nil10.toArray hA0 infoPt rfl nil10_one ?_)
            exact bodyPost_ret (v := .tuple #[.agg nil10.toArray, .bool false]) (results_two Tryd.results68 HZ.out rfl rfl) rfl ⟨.inr ⟨HN.out, rfl⟩, hbZ⟩
          · obtain rfl : m0 = 0 := by omega
            clear hm0 hm hm5
            by_cases hn1 : ni < 1
            · have HN : Hid (¬ Rwk l n) := fun hk => by have := (hk k hlt).2; rw [HRow.out, hnl] at this; omega
              go_wp2_with (refine wpList_store_row rfl 113 _ _ rfl w.heap.size nil10.toArray rfl rfl 113 nil10.toArray hA0 infoPt rfl nil10_one ?_)
              exact bodyPost_ret (v := .tuple #[.agg nil10.toArray, .bool false]) (results_two Tryd.results68 HZ.out rfl rfl) rfl ⟨.inr ⟨HN.out, rfl⟩, hbZ⟩
            · by_cases hn5 : 5 < ni
              · have HN : Hid (¬ Rwk l n) := fun hk => by have := (hk k hlt).2; rw [HRow.out, hnl] at this; omega
                go_wp2_with (refine wpList_store_row rfl 113 _ _ rfl w.heap.size nil10.toArray rfl rfl 113 nil10.toArray hA0 infoPt rfl nil10_one ?_)
                exact bodyPost_ret (v := .tuple #[.agg nil10.toArray, .bool false]) (results_two Tryd.results68 HZ.out rfl rfl) rfl ⟨.inr ⟨HN.out, rfl⟩, hbZ⟩
              · have HP2 : Hid (Pt w l (k + 1) (S.set p (.slice ai ni ci))) := pt_step HP.out HX.out (by omega) (by omega) (by rw [HRow.out]; exact hrow) (by omega) (by omega) hS0
                have hfz := hA1.frozen p
                have Hs1 : Hid (BlkV _ _ _) := hA1.set p (.slice ai ni ci)
                have Hs0 : Hid (BlkV _ _ _) := hA0.other (g' := w.heap.size + 1) (i := p) (v := .slice ai ni ci) (by omega)
                have Hsb : Hid (Below _ _ _) := hbA.setCell (p := ⟨w.heap.size + 1, p, none⟩) (by simp) (.slice ai ni ci)
                clear hA0 hA1 hbA hbZ HZ hS0 hbel
                go_wp2
                go_roundw
                case rel => exact ⟨k + 1, _, by omega, by go_num, Hs0.out, Hs1.out, HP2, Hsb.out⟩
                case measure => simp [intOf]; omega
    · have hkn : k = n := by omega
      subst hkn
      have hsz := HP.out.size
      have hin : (Tryd.prog.info? 113).map (·.size) = some S.toArray.size := by rw [hsz]; exact infoPt
      have hon := HP.out.one
      have hne : nil10.toArray.size = S.toArray.size := by rw [hsz]; rfl
      have hbZ := below_setRow hbel (Nat.le_refl _) S.toArray
      have HZ : Hid (_ = _) := run_loadVar_row (P := Tryd.prog) _ w.heap.size 113 113 S.toArray (0, 0) _ (setRow_heap _ w.heap.size _ S.toArray _ (0, 0) hB0) Tryd.underlying113 rfl hin
      have HE : Hid (Byp l k w (.returned (.tuple #[.agg S.toArray, .bool true])) (wr.setRow w.heap.size S.toArray)) := ⟨.inl ⟨S, HP.out.below hbZ, rfl⟩, hbZ⟩
      have Hin : Hid (_ = _) := hin
      have Hne : Hid (_ = _) := hne
      have Hon : Hid (_ = _) := hon
      clear hsz hin hne hon hbZ
      go_wp2_with (first | (refine wpList_load_row rfl 113 _ rfl (w.heap.size + 1) rfl 113 S.toArray (0, 0) _ hB1 Tryd.underlying113 rfl Hin.out ?_) | (refine wpList_store_row rfl 113 _ _ rfl w.heap.size S.toArray rfl rfl 113 nil10.toArray hB0 Hin.out Hne.out Hon.out ?_))
      exact bodyPost_ret (v := .tuple #[.agg S.toArray, .bool true]) (results_two Tryd.results68 HZ.out rfl rfl) rfl HE.out
end Go.Proofs.YtnofegdlainjaagDoor

namespace Go.Proofs.YtnofegdlainjaagDoor
open Go.RowKit Crm

set_option maxRecDepth 100000 in
theorem cBoth (g i j : Nat) (S : List Value) (a b : Option Addr) (m k c d : Nat) (w : World) (h : BlkV w g S) (hi : S[i]? = some (.slice a m c)) (hj : S[j]? = some (.slice b k d)) (hi9 : i < 10) (hj9 : j < 10) :
    Calls Tryd.prog 94 #[.pointer (some ⟨g, 0, none⟩), .int .i64 i, .int .i64 j] w fun e w' => e = .returned (.bool (decide (0 < m) && decide (0 < k))) ∧ w' = w := by
  have ci := h.cell hi
  have cj := h.cell hj
  have hlt := h.lt
  by_cases hm : 0 < m
  · by_cases hk : 0 < k
    · go_enter Tryd.func94, Tryd.ntmps94
      go_wp2
      go_ret
      simp [hm, hk]
    · obtain rfl : k = 0 := by omega
      go_enter Tryd.func94, Tryd.ntmps94
      go_wp2
      go_ret
      simp
  · obtain rfl : m = 0 := by omega
    go_enter Tryd.func94, Tryd.ntmps94
    go_wp2
    go_ret
    simp

theorem cBothY (g i j : Nat) (S : List Value) (a b : Option Addr) (m k c d : Nat) (w : World) (h : BlkV w g S) (hi : S[i]? = some (.slice a m c)) (hj : S[j]? = some (.slice b k d)) (hi9 : i < 10) (hj9 : j < 10) (hm : 0 < m) (hk : 0 < k) :
    Calls Tryd.prog 94 #[.pointer (some ⟨g, 0, none⟩), .int .i64 i, .int .i64 j] w fun e w' => e = .returned (.bool true) ∧ w' = w := by
  refine (cBoth g i j S a b m k c d w h hi hj hi9 hj9).mono ?_
  rintro e w' ⟨rfl, rfl⟩
  simp [hm, hk]
theorem cBothN (g i j : Nat) (S : List Value) (a b : Option Addr) (m k c d : Nat) (w : World) (h : BlkV w g S) (hi : S[i]? = some (.slice a m c)) (hj : S[j]? = some (.slice b k d)) (hi9 : i < 10) (hj9 : j < 10) (hm : m = 0 ∨ k = 0) :
    Calls Tryd.prog 94 #[.pointer (some ⟨g, 0, none⟩), .int .i64 i, .int .i64 j] w fun e w' => e = .returned (.bool false) ∧ w' = w := by
  refine (cBoth g i j S a b m k c d w h hi hj hi9 hj9).mono ?_
  rintro e w' ⟨rfl, rfl⟩
  rcases hm with rfl | rfl <;> simp
set_option maxRecDepth 100000 in
theorem cTwEvalQ (a : Option Addr) (n c : Nat) (xs : List Int) (x : Int) (w : World) (h : Rd w a n c xs) (hn : n ≤ 40) (hx0 : 0 ≤ x) (hx1 : x ≤ 18446744073709551615) :
    Calls Tryd.prog 45 #[.slice a n c, .int .u64 x] w fun e w' => e = .returned (.tuple #[.int .u64 (nm (ev xs x)), .int .i64 0]) ∧ ∃ q, w' = w.drewN q := by
  go_enter Tryd.func45, Tryd.ntmps45
  go_wp2_with (go_at_call 73; refine (cValueQ _ _ _ _ _ _ h hx0 hx1).mono ?_; rintro e w1 ⟨rfl, q, rfl⟩)
  go_ret2
  exact ⟨rfl, q, rfl⟩
set_option maxRecDepth 100000 in
theorem cTwValueQ (a : Option Addr) (n c : Nat) (xs : List Int) (x : Nat) (w : World) (h : Rd w a n c xs) (hn : n ≤ 40) (hx : x ≤ 100) :
    Calls Tryd.prog 90 #[.slice a n c, .int .i64 x] w fun e w' => e = .returned (.int .u64 (nm (ev xs x))) ∧ ∃ q, w' = w.drewN q := by
  go_enter Tryd.func90, Tryd.ntmps90
  go_wp2_with fail
  refine (cTwEvalQ _ _ _ _ _ _ h hn (by omega) (by omega)).mono ?_
  rintro e w1 ⟨rfl, q, rfl⟩
  go_wp2
  go_ret
  exact ⟨rfl, q, rfl⟩
theorem BlkV.drewN {w : World} {g : Nat} {S : List Value} (h : BlkV w g S) (q : Nat) : BlkV (w.drewN q) g S := h

theorem prj_start0 {l : List (Int × List Int)} {n : Nat} (hd : dis (ta l) n) : Prj l n 0 1 [] := ⟨List.Pairwise.nil, fun a b => ⟨fun h => by simp at h, fun ⟨h1, h2, h3⟩ => by have := dif_bd hd h2; omega⟩⟩

set_option maxRecDepth 100000 in
set_option maxHeartbeats 2000000 in
theorem cApart (g n : Nat) (l : List (Int × List Int)) (S : List Value) (w : World) (h : BlkV w g S) (hP : Pt w l n S) :
    Calls Tryd.prog 70 #[.pointer (some ⟨g, 0, none⟩)] w fun e w' => ∃ v L, e = .returned v ∧ w'.ownsRow w.heap.size 121 2 v L.length (ppc L) ∧ L.length ≤ 1000 ∧ Prs l n L ∧ Below w.heap.size w w' := by
  have HK : Hid (Rwk l n) := hP.rwk
  have HP0 : Hid (Pt w l n S) := hP
  have hg := h.lt
  clear hP
  go_enter Tryd.func70, Tryd.ntmps70
  go_wp2
  go_loopw [3, 6] (fun v q wr => ∃ (i : Nat) (L : List (Int × Int)), i ≤ 10 ∧ q = .int .i64 i ∧ wr.ownsRow w.heap.size 121 2 v L.length (ppc L) ∧ L.length ≤ 10 * i ∧ Hid (Prj l n i ((i : Int) + 1) L) ∧ Below w.heap.size w wr) (fun _ q _ => 10 - (intOf q).toNat)
  case atStart => exact ⟨0, [], by omega, rfl, World.ownsRow_nil _ _ _ _, by simp, prj_start0 HK.out.dis, Below.refl _ _⟩
  case round =>
    obtain ⟨i, L, hi, rfl, hown, hLl, HP, hbel⟩ := hrel
    by_cases hi10 : i < 10
    · have hid : decide ((i : Int) < 10) = true := decide_eq_true (by omega)
      go_wp2
      go_loopw [3, 5] (fun v q wr => ∃ (j : Nat) (L : List (Int × Int)), i + 1 ≤ j ∧ j ≤ 10 ∧ q = .int .i64 j ∧ wr.ownsRow w.heap.size 121 2 v L.length (ppc L) ∧ L.length ≤ 10 * i + j ∧ Hid (Prj l n i j L) ∧ Below w.heap.size w wr) (fun _ q _ => 10 - (intOf q).toNat)
      case atStart => exact ⟨i + 1, L, by omega, by omega, by go_num, hown, by omega, by push_cast; exact HP, hbel⟩
      case round =>
        clear hown hLl HP hbel
        obtain ⟨j, L, hj1, hj, rfl, hown, hLl, HP, hbel⟩ := hrel
        have hsw := hbel.size
        by_cases hj10 : j < 10
        · have hBr := h.below hbel hg
          have HPr := HP0.out.below hbel
          obtain ⟨ai, mi, ci, hSi, hmi, hri⟩ := HPr.row i (by omega)
          obtain ⟨aj, mj, cj, hSj, hmj, hrj⟩ := HPr.row j (by omega)
          have cei := hBr.cell hSi
          have cej := hBr.cell hSj
          have hgr := hBr.lt
          rcases hri with ⟨hz, hno⟩ | ⟨r, hr, her, hm1, hrdi⟩
          · have HP2 : Hid (Prj l n i ((j : Int) + 1) L) := prj_skip HP.out (dif_none1 hno)
            have HZ : Hid (mi = 0 ∨ mj = 0) := .inl hz
            clear hno hrj hz HPr
            go_wp2_with fail
            go_quiet ((go_at_call 94; exact Calls.quiet_of_same (cBothN _ _ _ _ _ _ _ _ _ _ _ (hBr.drewN _) hSi hSj (by omega) (by omega) HZ.out)))
            all_goals
              go_wp2
              go_roundw
              case rel => exact ⟨j + 1, L, by omega, by omega, by go_num, hown, by omega, by push_cast; exact HP2, drewN_below hbel _⟩
              case measure => simp [intOf]; omega
          · rcases hrj with ⟨hz, hno⟩ | ⟨s, hs, hes, hk1, hrdj⟩
            · have HP2 : Hid (Prj l n i ((j : Int) + 1) L) := prj_skip HP.out (dif_none2 hno)
              have HZ : Hid (mi = 0 ∨ mj = 0) := .inr hz
              clear hno hz HPr her hrdi
              go_wp2_with fail
              go_quiet ((go_at_call 94; exact Calls.quiet_of_same (cBothN _ _ _ _ _ _ _ _ _ _ _ (hBr.drewN _) hSi hSj (by omega) (by omega) HZ.out)))
              all_goals
                go_wp2
                go_roundw
                case rel => exact ⟨j + 1, L, by omega, by omega, by go_num, hown, by omega, by push_cast; exact HP2, drewN_below hbel _⟩
                case measure => simp [intOf]; omega
            · have HER : Hid (ta l r = (i : Int)) := her
              have HES : Hid (ta l s = (j : Int)) := hes
              clear her hes HPr
              by_cases hev : nm (ev (tc l r) (j : Int)) = nm (ev (tc l s) (i : Int))
              · have hmb : (nm (ev (tc l r) (j : Int)) != nm (ev (tc l s) (i : Int))) = false := by rw [hev]; simp
                have HP2 : Hid (Prj l n i ((j : Int) + 1) L) := prj_skip HP.out (dif_no HK.out.dis hr hs HER.out HES.out hev)
                clear hev
                go_wp2_with fail
                go_quiet ((first | (go_at_call 94; exact Calls.quiet_of_same (cBothY _ _ _ _ _ _ _ _ _ _ _ (hBr.drewN _) hSi hSj (by omega) (by omega) (by omega) (by omega))) | (go_at_call 90; first | exact Calls.quiet_of (cTwValueQ _ _ _ _ _ _ (hrdi.drewN _) (by omega) (by omega)) | exact Calls.quiet_of (cTwValueQ _ _ _ _ _ _ (hrdj.drewN _) (by omega) (by omega)))))
                all_goals
                  go_wp2
                  go_roundw
                  case rel => exact ⟨j + 1, L, by omega, by omega, by go_num, hown, by omega, by push_cast; exact HP2, drewN_below hbel _⟩
                  case measure => simp [intOf]; omega
              · have hmb : (nm (ev (tc l r) (j : Int)) != nm (ev (tc l s) (i : Int))) = true := by rw [bne_iff_ne]; exact hev
                have HP2 : Hid (Prj l n i ((j : Int) + 1) (L ++ [((i : Int), (j : Int))])) := prj_add HP.out (by omega) (dif_yes hr hs HER.out HES.out hev)
                have HLl : Hid ((L ++ [((i : Int), (j : Int))]).length = L.length + 1) := by unfold Hid; simp
                clear hev
                go_wp2_with fail
                go_quiet ((first | (go_at_call 94; exact Calls.quiet_of_same (cBothY _ _ _ _ _ _ _ _ _ _ _ (hBr.drewN _) hSi hSj (by omega) (by omega) (by omega) (by omega))) | (go_at_call 90; first | exact Calls.quiet_of (cTwValueQ _ _ _ _ _ _ (hrdi.drewN _) (by omega) (by omega)) | exact Calls.quiet_of (cTwValueQ _ _ _ _ _ _ (hrdj.drewN _) (by omega) (by omega)))))
                have hownD : (wr.drewN nq).ownsRow w.heap.size 121 2 u3 L.length (ppc L) := hown
                have hbwD := drewN_below hbel nq
                have hsD : w.heap.size ≤ (wr.drewN nq).heap.size := hsw
                generalize wr.drewN nq = wD at *
                obtain ⟨NL, HNL⟩ : ∃ NL, Hid (L.length = NL) := ⟨_, rfl⟩
                rw [HNL.out] at hownD hLl HLl
                clear hown hbel hsw hrdi hrdj cei cej hBr hSi hSj
                go_wp2_with (at_builtin; refine wpList_app2 Tryd.underlying117 infoPair rfl (by omega) _ rfl _ _ rfl w.heap.size _ _ _ rfl hownD (.int .i64 i) (.int .i64 j) rfl rfl rfl (by omega) hsD ?_; intro v7 w7 hown7 hgr7 _; rw [ppc_snoc] at hown7; have hb7 := hbwD.grown hgr7 hsD (fun q hq => (hownD.lt q hq).1); clear hgr7 hownD hbwD)
                go_roundw
                case rel => exact ⟨j + 1, _, by omega, by omega, by go_num, by rw [HLl.out]; exact hown7, by rw [HLl.out]; omega, by push_cast; exact HP2, hb7⟩
                case measure => simp [intOf]; omega
        · have hj2 : j = 10 := by omega
          subst hj2
          have HP2 : Hid (Prj l n ((i : Int) + 1) ((i : Int) + 2) L) := prj_next HK.out.dis HP.out
          go_wp2
          go_roundw
          case rel => exact ⟨i + 1, L, by omega, by go_num, hown, by omega, by have := HP2.out; push_cast; rw [show (i : Int) + 1 + 1 = (i : Int) + 2 by omega]; exact this, hbel⟩
          case measure => simp [intOf]; omega
    · have hi2 : i = 10 := by omega
      subst hi2
      have HE : Hid (Prs l n L) := prj_end HK.out.dis HP.out
      go_wp2
      go_ret
      exact ⟨_, L, rfl, hown, by omega, HE.out, hbel⟩
end Go.Proofs.YtnofegdlainjaagDoor
