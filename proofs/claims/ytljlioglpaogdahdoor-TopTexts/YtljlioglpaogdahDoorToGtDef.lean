/- slices.Repeat of one number. · The parties' draw and see. · shamir.Deal: what it tells is the caller's own. · croftkeep.short; short lists that a law writes out. · The parties' deal. · croftref.Wire. · What the calls of package gate answer. -/
import Derived.Test.YtljlioglpaogdahDoorToRNumC
import Derived.Test.YtljlioglpaogdahDoorToCrewC
import Derived.Test.YtljlioglpaogdahDoorToGRightC
import Derived.Deep.RegionLaw
import Derived.Test.YtljlioglpaogdahDoorToEnP
import Derived.Test.YtljlioglpaogdahDoorSlice
import Derived.Test.YtljlioglpaogdahDoorProg
import Derived.Deep.RegionHeld3
import Derived.Test.YtljlioglpaogdahDoorToWhoseC
import Derived.BigQuiet
import Derived.Test.YtljlioglpaogdahDoorToThroughC
namespace Go.Proofs.YtljlioglpaogdahDoor
set_option linter.unusedVariables false
set_option maxRecDepth 100000
set_option maxHeartbeats 8000000
section
open Crm Go.RowKit
/-- A row of which the first k are x. -/
def rpl (x : Int) (n k : Nat) : List Int := (List.range n).map fun i => if i < k then x else 0
theorem rpl_len (x : Int) (n k : Nat) : (rpl x n k).length = n := by simp [rpl]
theorem rpl_zero (x : Int) (n : Nat) : List.replicate n (0 : Int) = rpl x n 0 := by
  apply List.ext_getElem?
  intro i
  by_cases hi : i < n
  · simp [rpl, hi]
  · simp [rpl, hi]
theorem rpl_full (x : Int) (n : Nat) : rpl x n n = List.replicate n x := by
  apply List.ext_getElem?
  intro i
  by_cases hi : i < n
  · simp [rpl, hi]
  · simp [rpl, hi]
theorem rpl_splice (x : Int) (n k m : Nat) (h : k + m ≤ n) : Go.splice ((rpl x n k).map (Value.int .u64)) k ((List.replicate m x).map (Value.int .u64)) = (rpl x n (k + m)).map (Value.int .u64) := by
  apply List.ext_getElem?
  intro i
  unfold Go.splice
  rw [List.length_map, List.length_replicate]
  have hl : ((rpl x n k).map (Value.int .u64)).length = n := by rw [List.length_map, rpl_len]
  rcases Nat.lt_or_ge i k with e | e
  · rw [List.getElem?_append_left (by rw [List.length_take, hl]; omega), List.getElem?_take, if_pos e]
    simp [rpl, e, show i < n by omega, show i < k + m by omega]
  · rw [List.getElem?_append_right (by rw [List.length_take, hl]; omega), List.length_take, hl, Nat.min_eq_left (by omega)]
    rcases Nat.lt_or_ge i (k + m) with e2 | e2
    · rw [List.getElem?_append_left (by simp; omega)]
      simp [rpl, show i - k < m by omega, show i < n by omega, e2]
    · rw [List.getElem?_append_right (by simp; omega), List.length_map, List.length_replicate, List.getElem?_drop, show k + m + (i - k - m) = i by omega]
      by_cases hi : i < n
      · simp [rpl, hi, show ¬ i < k by omega, show ¬ i < k + m by omega]
      · simp [rpl, hi]
theorem run_subh {P : Program} {T E : TypeId} (hT : P.underlying T = some (.slice E)) (hE : (P.info? E).map (·.size) = some 1) (a : Option Addr) (n c k : Nat) (hz : a = none → c = 0) (hc : k ≤ c) (W : World) :
    (Instr.sliceAt T (.slice a n c) none (some (.int .i64 (k : Int))) none).run P W = .ok (.slice a k c) W := by
  have he : P.elem T = E := by simp [Program.elem, hT]
  have hT' : P.underlying T = some (.slice (P.elem T)) := by rw [he]; exact hT
  cases hi : P.info? E with
  | none => simp [hi] at hE
  | some i =>
    have hs : i.size = 1 := by simpa [hi] using hE
    rw [run_sliceAt_slice W T _ _ _ _ hT', run_slice_h W T a n c hT' .i64 (k : Int) (by omega) (by omega), he]
    cases a with
    | none => simp [sizeOf, typeInfo, hi, hs, sliced, Result.andThen]
    | some x => simp [sizeOf, typeInfo, hi, hs, sliced, Result.andThen, Addr.add]

theorem zMul64 (n : Nat) (w : World) (hn : n ≤ 9) :
    Calls Tryd.prog 75 #[.int .u64 1, .int .u64 (n : Int)] w fun e w' => e = .returned (.tuple #[.int .u64 0, .int .u64 (n : Int)]) ∧ w' = w := by
  match n, hn with
  | 0, _ => go_enter Tryd.func75, Tryd.ntmps75; go_wp2; go_ret2; exact ⟨rfl, rfl⟩
  | 1, _ => go_enter Tryd.func75, Tryd.ntmps75; go_wp2; go_ret2; exact ⟨rfl, rfl⟩
  | 2, _ => go_enter Tryd.func75, Tryd.ntmps75; go_wp2; go_ret2; exact ⟨rfl, rfl⟩
  | 3, _ => go_enter Tryd.func75, Tryd.ntmps75; go_wp2; go_ret2; exact ⟨rfl, rfl⟩
  | 4, _ => go_enter Tryd.func75, Tryd.ntmps75; go_wp2; go_ret2; exact ⟨rfl, rfl⟩
  | 5, _ => go_enter Tryd.func75, Tryd.ntmps75; go_wp2; go_ret2; exact ⟨rfl, rfl⟩
  | 6, _ => go_enter Tryd.func75, Tryd.ntmps75; go_wp2; go_ret2; exact ⟨rfl, rfl⟩
  | 7, _ => go_enter Tryd.func75, Tryd.ntmps75; go_wp2; go_ret2; exact ⟨rfl, rfl⟩
  | 8, _ => go_enter Tryd.func75, Tryd.ntmps75; go_wp2; go_ret2; exact ⟨rfl, rfl⟩
  | 9, _ => go_enter Tryd.func75, Tryd.ntmps75; go_wp2; go_ret2; exact ⟨rfl, rfl⟩

theorem zMul (n : Nat) (w : World) (hn : n ≤ 9) :
    Calls Tryd.prog 53 #[.int .u64 1, .int .u64 (n : Int)] w fun e w' => e = .returned (.tuple #[.int .u64 0, .int .u64 (n : Int)]) ∧ w' = w := by
  go_enter Tryd.func53, Tryd.ntmps53
  go_wp2_with (go_at_call 75; refine (zMul64 n _ hn).mono ?_; rintro e w3 ⟨rfl, hw⟩; have hw := hw.symm; subst hw)
  go_ret2
  exact ⟨rfl, rfl⟩

theorem infoRpt : (Tryd.prog.info? 42).map (·.size) = some 1 := by kernel_rfl

theorem zRepeat (a : Option Addr) (c : Nat) (x : Int) (n : Nat) (w : World) (h : Rd w a 1 c [x]) (hn1 : 1 ≤ n) (hn : n ≤ 9) :
    Calls Tryd.prog 36 #[.slice a 1 c, .int .i64 (n : Int)] w fun e w' => ∃ v, e = .returned v ∧ w'.ownsRow w.heap.size 42 1 v n ((List.replicate n x).map (Value.int .u64)) ∧ Below w.heap.size w w' := by
  obtain ⟨i0, hi, hz0, hz1, hz2⟩ := info_parts info42
  obtain ⟨C1, HC1⟩ : ∃ C1, Hid ((List.replicate 1 x).map (Value.int .u64) = C1) := ⟨_, rfl⟩
  have HC1l : Hid (C1.length = 1) := by unfold Hid; rw [← HC1.out]; rfl
  have HC1o : Hid (∀ v ∈ C1, v.oneCell' = true) := by unfold Hid; rw [← HC1.out]; exact one_ints _
  have HC1c : Hid (∀ w2, Rd w2 a 1 c [x] → ∃ ad, a = some ad ∧ ∀ j v, C1[j]? = some v → w2.cell? (ad.add j) = some v) := fun w2 h2 => by
    obtain ⟨b, o, rfl, _, hc⟩ := h2.at (k := 0) (by omega)
    refine ⟨_, rfl, fun j v hj => ?_⟩
    have hjl := (List.getElem?_eq_some_iff.1 hj).1
    rw [HC1l.out] at hjl
    obtain rfl : j = 0 := by omega
    rw [← HC1.out] at hj
    simp at hj
    subst hj
    rw [Addr.add_lit]
    exact hc 0 (by omega)
  go_enter Tryd.func36, Tryd.ntmps36
  go_wp2_with (first | (go_at_call 53; refine (zMul n _ hn).mono ?_; rintro e w3 ⟨rfl, hw⟩; have hw := hw.symm; subst hw) | (at_make; refine wpList_make_full _ rfl _ _ 26 rfl w.heap.size 42 i0 (.int .u64 0) 1 Tryd.underlying26 hi hz0 hz1 .i64 .i64 _ _ n rfl rfl (by omega) (by omega) (by rw [hz2]; omega) (by unfold maxLen; omega) (Nat.le_refl _) ?_; intro w2 hown hgrow; have hB2 : Blk w2 w.heap.size (rpl x n 0) := (by rw [← rpl_zero]; exact Blk.made hown); have hb2 : Below w.heap.size w w2 := (Below.refl _ _).grown hgrow (Nat.le_refl _) (by simp); clear hown hgrow) | (refine Go.wpList_copy_splice rfl _ _ _ _ rfl 42 Tryd.underlying26 infoRpt _ _ _ _ _ _ rfl rfl w.heap.size 0 ((rpl x n 0).map (Value.int .u64)) 42 hB2 C1 (by rw [HC1l.out]; exact (Nat.min_eq_left hn1).symm) (fun _ => ⟨rfl, HC1c.out _ (h.below hb2)⟩) (by rw [HC1l.out, List.length_map, rpl_len]; omega) HC1o.out w.heap.size w hb2 (Nat.le_refl _) ?_; intro w4 hB4 hb4; rw [HC1l.out]))
  have hB5 : Blk w4 w.heap.size (rpl x n 1) := by
    have := hB4.out
    rw [← HC1.out, rpl_splice x n 0 1 (by omega)] at this
    exact this
  clear hB4 hB2 hb2 HC1 HC1l HC1o HC1c
  have hd1 : decide ((n : Int) < 0) = false := by simp
  have hd2 : decide ((9223372036854775807 : Int) < (n : Int)) = false := by simp; omega
  rw [hd1, hd2]
  clear hd1 hd2
  go_loopw [8] (fun v wr => ∃ k : Nat, 1 ≤ k ∧ k ≤ n ∧ v = .int .i64 k ∧ Blk wr w.heap.size (rpl x n k) ∧ Below w.heap.size w wr) (fun v _ => n - (intOf v).toNat)
  case atStart => exact ⟨1, Nat.le_refl _, hn1, rfl, hB5, hb4⟩
  case round =>
    clear hB5 hb4
    obtain ⟨k, hk1, hk, rfl, hblk, hbel⟩ := hrel
    have hgl := hblk.lt
    by_cases hlt : k < n
    · obtain ⟨m, HM⟩ : ∃ m, Hid (Nat.min k (n - k) = m) := ⟨_, rfl⟩
      have hm1 : 1 ≤ m ∧ m ≤ k ∧ k + m ≤ n := by have h1 := HM.out; have h2 : min k (n - k) = m := h1; omega
      obtain ⟨C2, HC2⟩ : ∃ C2, Hid ((List.replicate m x).map (Value.int .u64) = C2) := ⟨_, rfl⟩
      have HC2l : Hid (C2.length = m) := by unfold Hid; rw [← HC2.out]; simp
      have HC2o : Hid (∀ v ∈ C2, v.oneCell' = true) := by unfold Hid; rw [← HC2.out]; exact one_ints _
      have HC2c : Hid (∀ j v, C2[j]? = some v → wr.drew.cell? (Addr.add ⟨w.heap.size, 0, none⟩ j) = some v) := fun j v hj => by
        have hjl := (List.getElem?_eq_some_iff.1 hj).1
        rw [HC2l.out] at hjl
        rw [← HC2.out] at hj
        simp [hjl] at hj
        subst hj
        rw [Addr.add_lit, Nat.zero_add]
        have := hblk.cell (i := j) (by rw [rpl_len]; omega)
        have e : (rpl x n k).getD j 0 = x := by simp [rpl, show j < n by omega, show j < k by omega]
        rw [e] at this
        exact this
      have HB6 : Hid (∀ w6 : World, Hid (w6.heap[w.heap.size]? = some (.cells (Go.splice ((rpl x n k).map (Value.int .u64)) k C2).toArray 42 (0, 0))) → Blk w6 w.heap.size (rpl x n (k + m))) := fun w6 h6 => by
        have := h6.out
        rw [← HC2.out, rpl_splice x n k m hm1.2.2] at this
        exact this
      have e1 : ∀ W, (Instr.sliceAt 26 (.slice (some ⟨w.heap.size, 0, none⟩) n n) (some (.int .i64 (k : Int))) none none).run Tryd.prog W = .ok (.slice (some ⟨w.heap.size, k, none⟩) (n - k) (n - k)) W := fun W => by
        have := run_subl (P := Tryd.prog) Tryd.underlying26 infoRpt (some ⟨w.heap.size, 0, none⟩) n n k rfl hk W
        rw [this, subA, if_neg (by omega), Option.map_some, Addr.add_lit, Nat.zero_add]
      have e2 : ∀ W, (Instr.sliceAt 26 (.slice (some ⟨w.heap.size, 0, none⟩) n n) none (some (.int .i64 (k : Int))) none).run Tryd.prog W = .ok (.slice (some ⟨w.heap.size, 0, none⟩) k n) W := fun W => run_subh Tryd.underlying26 infoRpt (some ⟨w.heap.size, 0, none⟩) n n k (fun e => by simp at e) hk W
      have hwk : IntKind.i64.wrap ((k : Int) + (m : Int)) = (k : Int) + (m : Int) := by rw [IntKind.wrap_i64]; omega
      have hblkD : Blk wr.drew w.heap.size (rpl x n k) := hblk
      have hbelD := hbel.drew
      go_wp2
      go_region_law (refine Go.step_copy_splice rfl _ _ _ _ rfl 42 Tryd.underlying26 infoRpt (some ⟨w.heap.size, k, none⟩) (some ⟨w.heap.size, 0, none⟩) (n - k) (n - k) k n (by simp [Act.eval, Act.put]) (by simp [Act.eval, Act.put]) w.heap.size k ((rpl x n k).map (Value.int .u64)) 42 hblkD C2 (by rw [HC2l.out]; exact HM.out.symm) (fun _ => ⟨rfl, _, rfl, HC2c.out⟩) (by rw [HC2l.out, List.length_map, rpl_len]; omega) HC2o.out w.heap.size w hbelD (Nat.le_refl _) ?_; intro w6 hB6 hb6; have hB7 := HB6.out w6 hB6; clear hB6; rw [HC2l.out])
      all_goals
        clear hblkD hbelD hblk hbel HB6 HC2c HC2o
        go_simp
        go_roundw
        case rel =>
          refine ⟨_, _, _, _, _, _, _, _, _, _, _, _, _, _, ?_, rfl⟩
          exact ⟨k + m, by omega, by omega, by go_num, hB7, hb6⟩
        case measure => simp [intOf]; omega
    · have hkn : k = n := by omega
      subst hkn
      rw [rpl_full] at hblk
      have ho : wr.ownsRow w.heap.size 42 1 (.slice (some ⟨w.heap.size, 0, none⟩) k k) k ((List.replicate k x).map (Value.int .u64)) :=
        ⟨by simp, .inr ⟨w.heap.size, k, _, rfl, Nat.le_refl _, hblk, Nat.le_refl _, by unfold maxLen; omega, by simp, by simp⟩⟩
      go_wp2
      go_ret
      exact ⟨_, rfl, ho, hbel⟩
theorem eDraw (gp n t : Nat) (vi vW vS : Value) (ad : Option Addr) (d cd k : Nat) (w : World) (h : PBox w gp n t vi (.slice ad d cd) vW vS) (hz : ad = none → cd = 0) (hk : k ≤ d) (hc : d ≤ cd) :
    Calls Tryd.prog 52 #[.pointer (some ⟨gp, 0, none⟩), .int .i64 (k : Int)] w fun e w' => e = .returned (.slice ad k cd) ∧ w' = w.setCell ⟨gp, 3, none⟩ (.slice (subA ad cd k) (d - k) (cd - k)) := by
  obtain ⟨_, _, _, d3, _, _⟩ := h.cells
  have hf := h.frozen 3
  have hlt := h.lt
  obtain ⟨X, HX⟩ : ∃ X, Hid (subA ad cd k = X) := ⟨_, rfl⟩
  have e1 : ∀ W, (Instr.sliceAt 26 (.slice ad d cd) none (some (.int .i64 (k : Int))) none).run Tryd.prog W = .ok (.slice ad k cd) W := fun W => run_subh Tryd.underlying26 infoRpt ad d cd k hz (by omega) W
  have e2 : ∀ W, (Instr.sliceAt 26 (.slice ad d cd) (some (.int .i64 (k : Int))) none none).run Tryd.prog W = .ok (.slice X (d - k) (cd - k)) W := fun W => by rw [← HX.out]; exact run_subl Tryd.underlying26 infoRpt ad d cd k rfl hk W
  rw [HX.out]
  clear h
  go_enter Tryd.func52, Tryd.ntmps52
  go_wp2
  go_ret
  exact ⟨rfl, rfl⟩

theorem eSee {w wr : World} {gp gs n t j m c lo hi : Nat} {vi vd vW : Value} {Ls LW : List Value} {S X : Nat → List Int} {W : List (List Int)} {a : Option Addr} (h : PSt w wr gp gs n t vi vd Ls (sgx S X n j) vW LW W lo hi) (hj : j < n) (hr : Rd wr a m c (X j)) (hm : 0 < m) (hm9 : m ≤ 9) (hl : (S j).length ≤ 5000) :
    Calls Tryd.prog 41 #[.pointer (some ⟨gp, 0, none⟩), .int .i64 (j : Int), .slice a m c] wr fun e w' => e = .returned (.tuple #[]) ∧ Seen w wr gs j (Ls.getD j (.slice none 0 0)) (S j) (X j) w' := by
  have hgl := sgx_len S X n j
  obtain ⟨dg, fg, lg⟩ := h.sen.seen.cell hgl hj
  have hrow := h.sen.seen.row j (by rw [hgl]; exact hj)
  rw [sgx_getD _ _ hj] at hrow
  obtain ⟨u, HU⟩ : ∃ u, Hid (Ls.getD j (.slice none 0 0) = u) := ⟨_, rfl⟩
  rw [HU.out] at dg hrow ⊢
  obtain ⟨l, Hl⟩ : ∃ l, Hid ((S j).length = l) := ⟨_, rfl⟩
  rw [Hl.out] at hrow hl
  have hrowD : wr.drew.ownsRow w.heap.size 42 1 u l ((S j).map (Value.int .u64)) := hrow
  obtain ⟨ua, uc, rfl, huc⟩ := own_slice hrow
  have hsw := h.sen.bel.size
  obtain ⟨_, _, _, _, _, d5⟩ := h.box.cells
  have hlp := h.box.lt
  have hxl := hr.len
  obtain ⟨Y, HY⟩ : ∃ Y, Hid (X j = Y) := ⟨_, rfl⟩
  obtain ⟨Z, HZ⟩ : ∃ Z, Hid (S j = Z) := ⟨_, rfl⟩
  rw [HY.out] at hr hxl ⊢
  rw [HZ.out] at hrow hrowD ⊢
  obtain ⟨b3, o3, rfl, _, _⟩ := hr.at (k := 0) hm
  have HST : Hid (∀ w7, wr.drew.grownBy w7 (Value.slice ua l uc).ownBlock → (∃ x, w7.cell? ⟨gs, j, none⟩ = some x) ∧ w7.frozen? ⟨gs, j, none⟩ = false ∧ gp < w7.heap.size ∧ w7.cell? ⟨gp, 5, none⟩ = some (.slice (some ⟨gs, 0, none⟩) n n)) := fun w7 hg => by
    have hsd : wr.drew.ownsRow w.heap.size 26 1 (.slice (some ⟨gs, 0, none⟩) n n) (sgx S X n j).length Ls := h.sen.seen.own
    have ho7 := hsd.kept hg (own_apart hrowD hsd (by decide))
    rw [hgl] at ho7
    obtain ⟨g', x, e1, _, _, _, e5⟩ := own_at ho7 hj
    simp only [Option.some.injEq, Addr.mk.injEq, and_true] at e1
    subst e1
    have hb7 := h.box.drew.grown hg (h.box.drew.off' hrowD eUP)
    exact ⟨⟨x, e5⟩, own_frozen ho7 j, hb7.lt, hb7.cells.2.2.2.2.2⟩
  have HUP : Hid (∀ g7 cap7 w7, w7.ownsRow w.heap.size 42 1 (.slice (some ⟨g7, 0, none⟩) (l + m) cap7) (l + m) ((Z ++ Y).map (Value.int .u64)) → wr.drew.grownBy w7 (Value.slice ua l uc).ownBlock → ((Value.slice (some ⟨g7, 0, none⟩) (l + m) cap7).ownBlock = (Value.slice ua l uc).ownBlock ∨ ∃ k, (Value.slice (some ⟨g7, 0, none⟩) (l + m) cap7).ownBlock = some k ∧ wr.drew.heap.size ≤ k) →
      Seen w wr gs j (.slice ua l uc) Z Y (w7.setCell ⟨gs, j, none⟩ (.slice (some ⟨g7, 0, none⟩) (l + m) cap7))) := fun g7 cap7 w7 ho hg hat => by
    have hlen : (Z ++ Y).length = l + m := by rw [List.length_append, hxl, ← HZ.out, Hl.out]
    exact ⟨w7, _, rfl, by rw [hlen]; exact ho, ⟨hg.os, hg.tape, hg.output, hg.size, hg.block⟩, hat⟩
  have hj0 : (0 : Int) ≤ (j : Int) := by omega
  have hjni : (j : Int) < (n : Int) := by omega
  clear h hrow
  go_enter Tryd.func41, Tryd.ntmps41
  go_region_law (refine step_appM Tryd.underlying26 info42 wr.drew rfl _ _ rfl w.heap.size _ _ _ rfl hrowD b3 o3 m c Y hr.drew rfl hm (by omega) (by exact hsw) ?_; intro g7 cap7 w7 ho7 hgr7 hat7; obtain ⟨⟨xx, dd⟩, ff, lp7, dp7⟩ := HST.out w7 hgr7; have hl7 := World.block_lt_of_cell? w7 _ dd; have HE : Hid (Seen _ _ _ _ _ _ _ _) := HUP.out g7 cap7 w7 ho7 hgr7 hat7; clear ho7 hgr7 hat7)
  all_goals
    clear HST HUP hrowD
    go_wp2
    exact bodyPost_end (v := .tuple #[]) (by simp [results, Tryd.results41, go_sem]) rfl ⟨rfl, HE.out⟩
theorem cDealB (s : Int) (a : Option Addr) (m c : Nat) (xs : List Int) (n : Nat) (w : World) (h : Rd w a m c xs) (hs0 : 0 ≤ s) (hs1 : s ≤ 18446744073709551615) (hm : m ≤ 4) (hn : m < n) (hn9 : n ≤ 9) :
    Calls Tryd.prog 51 #[.int .u64 s, .slice a m c, .int .i64 n] w fun e w' => ∃ v, e = .returned (.tuple #[v, .int .i64 0]) ∧ w'.ownsRow w.heap.size 42 1 v n ((dl (s :: xs) n).map (Value.int .u64)) ∧ Below w.heap.size w w' := by
  obtain ⟨i0, hi, hz0, hz1, hz2⟩ := info_parts info42
  have hlen := h.len
  go_enter Tryd.func51, Tryd.ntmps51
  go_wp2_with (first | (at_builtin; refine wpList_appR Tryd.underlying26 info42 _ rfl _ _ rfl s hs0 hs1 a m c xs h rfl rfl (by omega) ?_; intro a1 c1 w1 hr1 hb1) | (at_make; refine wpList_make_full _ rfl _ _ 26 rfl w1.heap.size 42 i0 (.int .u64 0) 1 Tryd.underlying26 hi hz0 hz1 .i64 .i64 _ _ n rfl rfl (by omega) (by omega) (by rw [hz2]; omega) (by unfold maxLen; omega) (Nat.le_refl _) ?_; intro w2 hown hgrow))
  have hs1 := hb1.size
  have hB2 : Blk w2 w1.heap.size (fil (dlf (s :: xs)) n 0) := by rw [← fil_zero]; exact Blk.made hown
  have hb2 : Below w1.heap.size w1 w2 := (Below.refl _ _).grown hgrow (Nat.le_refl _) (by simp)
  have hb12 : Below w.heap.size w w2 := hb1.trans (hb2.mono hs1)
  clear hown hgrow
  go_loopw [32] (fun i wr => ∃ k : Nat, k ≤ n ∧ i = .int .i64 k ∧ Blk wr w1.heap.size (fil (dlf (s :: xs)) n k) ∧ Below w1.heap.size w1 wr ∧ Below w.heap.size w wr) (fun i _ => n - (intOf i).toNat)
  case atStart => exact ⟨0, Nat.zero_le _, rfl, hB2, hb2, hb12⟩
  case round =>
    clear hB2 hb2 hb12
    obtain ⟨k, hk, rfl, hblk, hbe1, hbel⟩ := hrel
    by_cases hlt : k < n
    · have hr := hr1.below hbe1
      have HF : Hid (nm (ev (s :: xs) ((k : Int) + 1)) = dlf (s :: xs) k) := rfl
      go_wp2_with fail
      refine (cEvalOK _ _ _ _ _ _ hr (by omega) (by omega) (by omega)).mono ?_
      rintro e w3 ⟨rfl, hb3⟩
      rw [HF.out]
      have hblk3 := hblk.below hb3 hblk.lt
      have hcell := hblk3.cell (i := k) (by rw [fil_len]; exact hlt)
      have hfz := hblk3.frozen k
      have hlt3 := hblk3.lt
      have hblk4 := hblk3.set k (dlf (s :: xs) k)
      rw [fil_set rfl] at hblk4
      have hbe3 := hbe1.trans (hb3.mono hbe1.size)
      have hbel3 := hbel.trans (hb3.mono hbel.size)
      have Hb4 : Hid (Below w1.heap.size w1 (w3.setCell ⟨w1.heap.size, k, none⟩ (.int .u64 (dlf (s :: xs) k)))) := hbe3.setCell (Nat.le_refl _) _
      have Hb5 : Hid (Below w.heap.size w (w3.setCell ⟨w1.heap.size, k, none⟩ (.int .u64 (dlf (s :: xs) k)))) := hbel3.setCell hs1 _
      clear hbe1 hbel hb3 hblk hblk3 hbe3 hbel3 hr
      go_wp2
      go_roundw
      case rel => exact ⟨k + 1, by omega, by go_num, hblk4, Hb4.out, Hb5.out⟩
      case measure => simp [intOf]; omega
    · have hkn : k = n := by omega
      subst hkn
      have hr : wr.ownsRow w.heap.size 42 1 (.slice (some ⟨w1.heap.size, 0, none⟩) k k) k ((dl (s :: xs) k).map (Value.int .u64)) := by
        rw [fil_full] at hblk
        exact ⟨by rw [List.length_map, dl_len, Nat.mul_one], .inr ⟨_, k, _, rfl, hs1, hblk, Nat.le_refl _, by unfold maxLen; omega, by simp, by rw [List.toList_toArray, Nat.mul_one, List.take_of_length_le (by simp)]; rfl⟩⟩
      go_wp2
      go_ret2
      exact ⟨_, rfl, hr, hbel⟩
end
section
open Go.RowKit
theorem Rd.take {w : World} {a : Option Addr} {n c : Nat} {xs : List Int} (h : Rd w a n c xs) {k : Nat} (hk : k ≤ n) : Rd w a k c (xs.take k) := by
  refine ⟨by have := h.len; simp; omega, by have := h.cap; omega, h.max, fun x hx => h.bd x (List.mem_of_mem_take hx), h.nil, fun x hx i hi => ?_⟩
  rw [h.cell x hx i (by omega)]
  congr 2
  simp [hi]
end
section
open Crm Go.RowKit
/-- What a gate leaves: its numbers, what is seen of it, what is left of the inputs and the draws. -/
def Pgt (G : List Gt) (n t : Nat) (ins ds : List Int) (q d : Nat) (w : World) (gp gs i : Nat) (vW : Value) (LW : List Value) (u : Value) (w' : World) : Prop :=
  ∃ (vi vd : Value) (Ls : List Value) (lo hi : Nat), PSt w w' gp gs n t vi vd Ls (sgl G n t ins ds (i + 1)) vW LW (ewr G n t ins ds i) lo hi ∧ Lft w ins q (ci G (i + 1)) vi ∧ Lft w ds d (dwn G n t (i + 1)) vd ∧ w'.ownsRow w.heap.size 42 1 u n ((ew G n t ins ds i).map (Value.int .u64)) ∧ Btw lo hi u ∧ ∀ p b, (LW.getD p (.slice none 0 0)).ownBlock = some b → b < lo
theorem Lft.nil {w : World} {xs : List Int} {q k : Nat} {a : Option Addr} {n c : Nat} (h : Rd w a n c (xs.drop k)) (hv : n = q - k) : Lft w xs q k (.slice a n c) := by
  subst hv
  exact ⟨a, c, rfl, h⟩
theorem rd_lit1 (w : World) {x : Int} (hx : 0 ≤ x ∧ x ≤ 18446744073709551615) : Rd (w.alloc (.cells #[.int .u64 x] 42)) (some ⟨w.heap.size, 0, none⟩) 1 1 [x] := by
  refine ⟨rfl, Nat.le_refl _, by unfold maxLen; omega, fun z hz => by rw [List.mem_singleton.1 hz]; exact hx, by simp, fun y hy i hi => ?_⟩
  obtain rfl := Option.some.inj hy
  obtain rfl : i = 0 := by omega
  rw [Addr.add_lit, cell_of_row _ _ _ _ 42 (0, 0) (heap_alloc_new w _)]
  rfl

theorem eDeal {G : List Gt} {n t : Nat} {ins ds : List Int} {w wr : World} {gp gs i N q d lo hh : Nat} {vi vd vW : Value} {Ls LW : List Value} (h : PSt w wr gp gs n t vi vd Ls (sgl G n t ins ds i) vW LW (ewr G n t ins ds i) lo hh)
    (hvi : Lft w ins q (ci G i) vi) (hvd : Lft w ds d (dwn G n t i) vd) (hg : (gt G i).k = 1) (hi : i < N) (hN : N ≤ 30) (hq : q = ci G N) (hd : d = dwn G n t N) (hn : 2 * t + 1 ≤ n) (hn9 : n ≤ 9) :
    Calls Tryd.prog 35 #[.pointer (some ⟨gp, 0, none⟩)] wr fun e w' => ∃ u, e = .returned u ∧ Pgt G n t ins ds q d w gp gs i vW LW u w' := by
  obtain ⟨a1, c1, rfl, r1⟩ := hvi
  obtain ⟨a2, c2, rfl, r2⟩ := hvd
  have hC : ci G i < q := by rw [hq]; exact ci_lt hi hg
  have hD : dwn G n t i + t ≤ d := by
    have e : dwn G n t (i + 1) = dwn G n t i + t := by rw [dwn, if_pos hg]
    rw [← e, hd]
    exact dwn_mono G n t (by omega)
  have HE : Hid (ew G n t ins ds i = dl (ins.getD (ci G i) 0 :: edr G n t ds i t) n) := ew_in hg
  have HC2 : Hid (ci G (i + 1) = ci G i + 1) := ci_in hg
  have HD2 : Hid (dwn G n t (i + 1) = dwn G n t i + t) := by unfold Hid; rw [dwn, if_pos hg]
  obtain ⟨C, HC⟩ : ∃ C, Hid (ci G i = C) := ⟨_, rfl⟩
  obtain ⟨D, HD⟩ : ∃ D, Hid (dwn G n t i = D) := ⟨_, rfl⟩
  rw [HC.out] at hC r1 HE HC2 h
  rw [HD.out] at hD r2 HD2 h
  have HED : Hid ((ds.drop D).take t = edr G n t ds i t) := by unfold Hid edr; rw [HD.out]
  obtain ⟨M, HM⟩ : ∃ M, Hid (q - C = M) := ⟨_, rfl⟩
  obtain ⟨K, HK⟩ : ∃ K, Hid (d - D = K) := ⟨_, rfl⟩
  have hM : 1 ≤ M := by have := HM.out; omega
  have hK : t ≤ K := by have := HK.out; omega
  rw [HM.out] at r1
  rw [HK.out] at r2
  obtain ⟨b, o, x, rfl, hbb, HX, hx0, hx1, hcx⟩ := (r1.below h.sen.bel).one (k := 0) hM
  rw [Nat.add_zero] at hcx
  have HX0 : Hid (ins.getD C 0 = x) := by unfold Hid; rw [← HX.out]; simp
  rw [HX0.out] at HE
  rw [HM.out, HK.out] at h
  have hcap1 := r1.cap
  have hcap2 := r2.cap
  have r1' := r1.sub (lo := 1) (k := M - 1) (by omega)
  have r2' := r2.sub (lo := t) (k := K - t) (by omega)
  have r3 := r2.take hK
  rw [HED.out] at r3
  obtain ⟨X1, HX1⟩ : ∃ X1, Hid (subA (some ⟨b, o, none⟩) c1 1 = X1) := ⟨_, rfl⟩
  obtain ⟨X2, HX2⟩ : ∃ X2, Hid (subA a2 c2 t = X2) := ⟨_, rfl⟩
  rw [HX1.out] at r1'
  rw [HX2.out] at r2'
  have e1 : ∀ W, (Instr.sliceAt 26 (.slice (some ⟨b, o, none⟩) M c1) (some (.int .i64 1)) none none).run Tryd.prog W = .ok (.slice X1 (M - 1) (c1 - 1)) W := fun W => by rw [← HX1.out]; exact run_subl Tryd.underlying26 infoRpt (some ⟨b, o, none⟩) M c1 1 rfl hM W
  obtain ⟨d0, d1, d2, d3, d4, d5⟩ := h.box.cells
  have hlp := h.box.lt
  have hfz := h.box.frozen 2
  have hP2 := h.turn (w' := wr.setCell ⟨gp, 2, none⟩ (.slice X1 (M - 1) (c1 - 1))) (grown_set _ _ _ _) (h.box.set2 _)
  have hlp2 : gp < (wr.setCell ⟨gp, 2, none⟩ (.slice X1 (M - 1) (c1 - 1))).heap.size := hP2.box.lt
  go_enter Tryd.func35, Tryd.ntmps35
  go_upto_region 3 with fail
  generalize wr.setCell ⟨gp, 2, none⟩ (.slice X1 (M - 1) (c1 - 1)) = W2 at *
  clear d0 d1 d2 d3 d4 d5 hlp hfz h hcx hbb e1
  obtain ⟨f0, f1, _, _, _, _⟩ := hP2.box.cells
  have hP2D := hP2.drew
  have HP3 : Hid (∀ w3, w3 = W2.drew.setCell ⟨gp, 3, none⟩ (.slice X2 (K - t) (c2 - t)) → PSt w w3 gp gs n t (.slice X1 (M - 1) (c1 - 1)) (.slice X2 (K - t) (c2 - t)) Ls (sgx (sng G n t ins ds i) (esn G n t ins ds i) n 0) vW LW (ewr G n t ins ds i) lo hh) := fun w3 e => by
    subst e
    rw [← sgl_first]
    exact hP2D.turn (grown_set _ _ _ _) (hP2D.box.set3 _)
  have HT4 : Hid (t ≤ 4 ∧ t < n) := ⟨by omega, by omega⟩
  go_region_held3 (fun w' => w'.cell? ⟨gp, 0, none⟩ = some (.int .i64 (n : Int)) ∧ w'.cell? ⟨gp, 1, none⟩ = some (.int .i64 (t : Int))) (go_keep) (first | (go_at_call 52; refine (eDraw gp n t _ _ _ a2 K c2 t _ hP2D.box r2.nil hK hcap2).mono ?_; rintro en w3 ⟨rfl, hw3⟩; rw [HX2.out] at hw3; have hP3 := HP3.out w3 hw3; clear hw3; obtain ⟨g0, g1, _, _, _, _⟩ := hP3.box.cells; have hl3 := hP3.box.lt) | (go_at_call 51; refine (cDealB x a2 t c2 _ n _ (r3.below hP3.sen.bel) hx0 hx1 HT4.out.1 HT4.out.2 hn9).mono ?_; rintro en w5 ⟨v, rfl, ho, hb5⟩; have hP5 := hP3.fresh (by omega) hb5; obtain ⟨i0, i1, _, _, _, _⟩ := hP5.box.cells; have hl5 := hP5.box.lt))
  all_goals
    obtain ⟨gv, cv, rfl, _, _, hcv, hcv2⟩ := own_atZ ho (by omega)
    unfold maxLen at hcv2
    rw [← HE.out] at ho
    have HBt : Hid (Btw w3.heap.size w5.heap.size (.slice (some ⟨gv, 0, none⟩) n cv)) := fun b hb => ho.lt b hb
    have ho5 := own_baseV ho hP3.sen.bel.size
    have HLW : Hid (∀ p b, (LW.getD p (.slice none 0 0)).ownBlock = some b → b < w3.heap.size) := fun p b hb => (hP3.sen.wires.blk p b hb).2
    have HV1 : Hid (Lft w ins q (ci G (i + 1)) (.slice X1 (M - 1) (c1 - 1))) := by
      unfold Hid
      rw [HC2.out]
      refine Lft.nil ?_ (by have := HM.out; omega)
      rw [List.drop_drop, List.take_of_length_le (by have := r1.len; simp at this; simp; omega)] at r1'
      exact r1'
    have HV2 : Hid (Lft w ds d (dwn G n t (i + 1)) (.slice X2 (K - t) (c2 - t))) := by
      unfold Hid
      rw [HD2.out]
      refine Lft.nil ?_ (by have := HK.out; omega)
      rw [List.drop_drop, List.take_of_length_le (by have := r2.len; simp at this; simp; omega)] at r2'
      exact r2'
    clear ho hb5 hP3 r1 r2 r3 r1' r2' hP2 hP2D HP3 g0 g1 hl3 i0 i1 hl5 f0 f1
    go_wp2
    go_loopw [39] (fun s wq => ∃ (j : Nat) (Ls : List Value), j ≤ n ∧ s = .int .i64 j ∧ PSt w wq gp gs n t (.slice X1 (M - 1) (c1 - 1)) (.slice X2 (K - t) (c2 - t)) Ls (sgx (sng G n t ins ds i) (esn G n t ins ds i) n j) vW LW (ewr G n t ins ds i) w3.heap.size w5.heap.size ∧ wq.ownsRow w.heap.size 42 1 (.slice (some ⟨gv, 0, none⟩) n cv) n ((ew G n t ins ds i).map (Value.int .u64))) (fun s _ => n - (intOf s).toNat)
    case atStart => exact ⟨0, Ls, Nat.zero_le _, rfl, hP5, ho5⟩
    case round =>
      clear hP5 ho5
      obtain ⟨j, Ls, hj, rfl, hP, ho⟩ := hrel
      by_cases hjn : j < n
      · obtain ⟨a6, c6, e6, hr6, _⟩ := Rd.own ho (bd_u64 (ew_bd _ _ _ _ _ _))
        simp only [Value.slice.injEq, true_and] at e6
        obtain ⟨rfl, rfl⟩ := e6
        obtain ⟨b6, o6, y, eb, hb6, HY, hy0, hy1, hcy⟩ := hr6.one hjn
        simp only [Option.some.injEq, Addr.mk.injEq, and_true] at eb
        obtain ⟨rfl, rfl⟩ := eb
        rw [Nat.zero_add] at hcy
        have HES : Hid (esn G n t ins ds i j = [y]) := by unfold Hid esn; rw [if_pos hg, HY.out]
        have hbA : Below wr.heap.size wr (wr.alloc (.cells #[.int .u64 y] 42)) := (Below.refl _ _).alloc (Nat.le_refl _) _
        have hPA := hP.below hbA
        have hoA := own_below ho hbA
        have rA := rd_lit1 wr ⟨hy0, hy1⟩
        have hsb := sng_bound G n t ins ds i j hn9
        go_wp2_with fail
        generalize wr.alloc (.cells #[.int .u64 y] 42) = wA at *
        refine (eSee hPA hjn (by rw [HES.out]; exact rA) (by omega) (by omega) (by omega)).mono ?_
        rintro e w8 ⟨rfl, hs⟩
        obtain ⟨⟨Ls', hP'⟩, hkeep⟩ := hPA.seen hjn hs
        have ho' := hkeep _ _ _ _ _ _ hoA HBt.out
        clear hP hPA ho hoA hr6 hcy hs hkeep hbA rA
        go_wp2
        go_roundw
        case rel => exact ⟨j + 1, Ls', by omega, by go_num, hP', ho'⟩
        case measure => simp [intOf]; omega
      · have hjn2 : j = n := by omega
        subst hjn2
        rw [sgl_next] at hP
        go_wp2
        go_ret
        exact ⟨_, rfl, _, _, Ls, _, _, hP, HV1.out, HV2.out, ho, HBt.out, HLW.out⟩
/-- Slices of which the lengths are read. -/
structure RdL (w : World) (g k : Nat) (ns : List Nat) : Prop where
  len : ns.length = k
  lt : g < w.heap.size
  cell : ∀ i, i < k → ∃ ai ci, w.cell? ⟨g, i, none⟩ = some (.slice ai (ns.getD i 0) ci)
theorem rdL_one (w : World) (a : Option Addr) (n c : Nat) (E : TypeId) : RdL (w.alloc (.cells #[.slice a n c] E)) w.heap.size 1 [n] := by
  refine ⟨rfl, by simp, fun i hi => ?_⟩
  obtain rfl : i = 0 := by omega
  exact ⟨a, c, by rw [cell_of_row _ _ 0 _ E (0, 0) (heap_alloc_new w _)]; rfl⟩
theorem rdL_two (w : World) (a : Option Addr) (n c : Nat) (b : Option Addr) (m d : Nat) (E : TypeId) : RdL (w.alloc (.cells #[.slice a n c, .slice b m d] E)) w.heap.size 2 [n, m] := by
  refine ⟨rfl, by simp, fun i hi => ?_⟩
  match i, hi with
  | 0, _ => exact ⟨a, c, by rw [cell_of_row _ _ 0 _ E (0, 0) (heap_alloc_new w _)]; rfl⟩
  | 1, _ => exact ⟨b, d, by rw [cell_of_row _ _ 1 _ E (0, 0) (heap_alloc_new w _)]; rfl⟩
theorem RdL.below {w w' : World} {g k : Nat} {ns : List Nat} (h : RdL w g k ns) (hb : Below w.heap.size w w') : RdL w' g k ns := by
  refine ⟨h.len, Nat.lt_of_lt_of_le h.lt hb.size, fun i hi => ?_⟩
  obtain ⟨a, c, e⟩ := h.cell i hi
  exact ⟨a, c, by rw [hb.cell (World.block_lt_of_cell? w _ e)]; exact e⟩
/-- Lists of 1 to 9 numbers, all as long. -/
def Wk (ns : List Nat) (k : Nat) : Prop := (1 ≤ ns.getD 0 0 ∧ ns.getD 0 0 ≤ 9) ∧ ∀ i, i < k → ns.getD i 0 = ns.getD 0 0
/-- Wires that may be. -/
def Wr1 (n : Nat) : Prop := 1 ≤ n ∧ n ≤ 9
def Wr2 (n m : Nat) : Prop := (1 ≤ n ∧ n ≤ 9) ∧ m = n
theorem wk_one (n : Nat) : Wk [n] 1 ↔ Wr1 n := by
  unfold Wk Wr1
  constructor
  · intro h; exact h.1
  · intro h
    refine ⟨h, fun i hi => ?_⟩
    obtain rfl : i = 0 := by omega
    rfl
theorem wk_two (n m : Nat) : Wk [n, m] 2 ↔ Wr2 n m := by
  unfold Wk Wr2
  constructor
  · intro h; exact ⟨h.1, h.2 1 (by omega)⟩
  · intro h
    refine ⟨h.1, fun i hi => ?_⟩
    match i, hi with
    | 0, _ => rfl
    | 1, _ => exact h.2
theorem len_two {n m : Nat} (h0 : n ≤ 9223372036854775807) (h1 : m ≤ 9223372036854775807) : ∀ i, [n, m].getD i 0 ≤ 9223372036854775807
  | 0 => h0
  | 1 => h1
  | i + 2 => by simp
theorem len_one {n : Nat} (h0 : n ≤ 9223372036854775807) : ∀ i, [n].getD i 0 ≤ 9223372036854775807
  | 0 => h0
  | i + 1 => by simp
/-- What Add, Sub, Scale, Plus answer. -/
def Gts (ok : Prop) (L : List Int) (n : Nat) (w : World) (e : Ending) (w' : World) : Prop :=
  ((¬ ok ∧ e = .returned (.tuple #[.slice none 0 0, .int .i64 5])) ∨ (ok ∧ ∃ v, e = .returned (.tuple #[v, .int .i64 0]) ∧ w'.ownsRow w.heap.size 42 1 v n (L.map (Value.int .u64)))) ∧ Below w.heap.size w w'
/-- What is wrong with what is multiplied. -/
def Gme (t : Int) (n m q : Nat) (r : Int) : Prop :=
  ((t < 0 ∨ 4 < t) ∧ r = 1) ∨ ((0 ≤ t ∧ t ≤ 4) ∧ ((¬ Wr2 n m ∧ r = 5) ∨ (Wr2 n m ∧ (((n : Int) < 2 * t + 1 ∧ r = 4) ∨ (2 * t + 1 ≤ (n : Int) ∧ (((q : Int) ≠ (n : Int) * t ∧ r = 1) ∨ ((q : Int) = (n : Int) * t ∧ r = 0)))))))
theorem Gme.one {t : Int} {n m q : Nat} {r s : Int} (h : Gme t n m q r) (k : Gme t n m q s) : r = s := by
  rcases h with ⟨h1, rfl⟩ | ⟨h1, h2⟩ <;> rcases k with ⟨k1, rfl⟩ | ⟨k1, k2⟩
  · rfl
  · exfalso; omega
  · exfalso; omega
  · rcases h2 with ⟨h2, rfl⟩ | ⟨h2, h3⟩ <;> rcases k2 with ⟨k2, rfl⟩ | ⟨k2, k3⟩
    · rfl
    · exact absurd k2 h2
    · exact absurd h2 k2
    · rcases h3 with ⟨h3, rfl⟩ | ⟨h3, ⟨h4, rfl⟩ | ⟨h4, rfl⟩⟩ <;> rcases k3 with ⟨k3, rfl⟩ | ⟨k3, ⟨k4, rfl⟩ | ⟨k4, rfl⟩⟩
      all_goals first
        | rfl
        | (exfalso; omega)
        | exact absurd k4 h4
        | exact absurd h4 k4
theorem Gme.ok {t : Int} {n m q : Nat} (h : Gme t n m q 0) : ∃ k : Nat, t = (k : Int) ∧ k ≤ 4 ∧ 1 ≤ n ∧ n ≤ 9 ∧ m = n ∧ 2 * k + 1 ≤ n ∧ q = n * k := by
  rcases h with ⟨_, h⟩ | ⟨h1, ⟨_, h⟩ | ⟨h2, ⟨_, h⟩ | ⟨h3, ⟨_, h⟩ | ⟨h4, _⟩⟩⟩⟩
  · omega
  · omega
  · omega
  · omega
  · obtain ⟨k, rfl⟩ : ∃ k : Nat, t = k := ⟨t.toNat, by omega⟩
    refine ⟨k, rfl, by omega, h2.1.1, h2.1.2, h2.2, by omega, ?_⟩
    have : ((q : Nat) : Int) = ((n * k : Nat) : Int) := by rw [h4]; push_cast; rfl
    omega
/-- What Mul answers. -/
def Gtm (t : Int) (xs ys ds : List Int) (n m q : Nat) (w : World) (e : Ending) (w' : World) : Prop :=
  ((∃ r, r ≠ 0 ∧ Gme t n m q r ∧ e = .returned (.tuple #[.slice none 0 0, .slice none 0 0, .int .i64 r])) ∨
   (Gme t n m q 0 ∧ ∃ v u L, e = .returned (.tuple #[v, u, .int .i64 0]) ∧ w'.ownsRow w.heap.size 42 1 v n ((tmO t.toNat xs ys ds n n).map (Value.int .u64)) ∧ LsV w' w.heap.size u L (tmG t.toNat xs ys ds n))) ∧ Below w.heap.size w w'
end
end Go.Proofs.YtljlioglpaogdahDoor
