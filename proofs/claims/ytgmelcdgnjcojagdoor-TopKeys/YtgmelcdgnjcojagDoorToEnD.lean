/- slices.Repeat of one number. · The parties' draw and see. · shamir.Deal: what it tells is the caller's own. -/
import Derived.Test.YtgmelcdgnjcojagDoorToTellsM
import Derived.Test.YtgmelcdgnjcojagDoorToCrewC
import Derived.Test.YtgmelcdgnjcojagDoorToPlayM
import Derived.Deep.RegionLaw
import Derived.Test.YtgmelcdgnjcojagDoorToEnP
namespace Go.Proofs.YtgmelcdgnjcojagDoor
open Go.RowKit Crm

/-- A row of which the first k are x. -/
def rpl (x : Int) (n k : Nat) : List Int := (List.range n).map fun i => if i < k then x else 0
theorem rpl_len (x : Int) (n k : Nat) : (rpl x n k).length = n := by simp [rpl]
theorem rpl_zero (x : Int) (n : Nat) : List.replicate n (0 : Int) = rpl x n 0 := by
  apply List.ext_getElem?
  intro i
  by_cases hi : i < n
  · simp [rpl, hi]
  · simp [rpl, hi]
theorem rpl_full (x : Int) (n : Nat) : rpl x n n = List.replicate n x := by
  apply List.ext_getElem?
  intro i
  by_cases hi : i < n
  · simp [rpl, hi]
  · simp [rpl, hi]
theorem rpl_splice (x : Int) (n k m : Nat) (h : k + m ≤ n) : Go.splice ((rpl x n k).map (Value.int .u64)) k ((List.replicate m x).map (Value.int .u64)) = (rpl x n (k + m)).map (Value.int .u64) := by
  apply List.ext_getElem?
  intro i
  unfold Go.splice
  rw [List.length_map, List.length_replicate]
  have hl : ((rpl x n k).map (Value.int .u64)).length = n := by rw [List.length_map, rpl_len]
  rcases Nat.lt_or_ge i k with e | e
  · rw [List.getElem?_append_left (by rw [List.length_take, hl]; omega), List.getElem?_take, if_pos e]
    simp [rpl, e, show i < n by omega, show i < k + m by omega]
  · rw [List.getElem?_append_right (by rw [List.length_take, hl]; omega), List.length_take, hl, Nat.min_eq_left (by omega)]
    rcases Nat.lt_or_ge i (k + m) with e2 | e2
    · rw [List.getElem?_append_left (by simp; omega)]
      simp [rpl, show i - k < m by omega, show i < n by omega, e2]
    · rw [List.getElem?_append_right (by simp; omega), List.length_map, List.length_replicate, List.getElem?_drop, show k + m + (i - k - m) = i by omega]
      by_cases hi : i < n
      · simp [rpl, hi, show ¬ i < k by omega, show ¬ i < k + m by omega]
      · simp [rpl, hi]
theorem run_subh {P : Program} {T E : TypeId} (hT : P.underlying T = some (.slice E)) (hE : (P.info? E).map (·.size) = some 1) (a : Option Addr) (n c k : Nat) (hz : a = none → c = 0) (hc : k ≤ c) (W : World) :
    (Instr.sliceAt T (.slice a n c) none (some (.int .i64 (k : Int))) none).run P W = .ok (.slice a k c) W := by
  have he : P.elem T = E := by simp [Program.elem, hT]
  have hT' : P.underlying T = some (.slice (P.elem T)) := by rw [he]; exact hT
  cases hi : P.info? E with
  | none => simp [hi] at hE
  | some i =>
    have hs : i.size = 1 := by simpa [hi] using hE
    rw [run_sliceAt_slice W T _ _ _ _ hT', run_slice_h W T a n c hT' .i64 (k : Int) (by omega) (by omega), he]
    cases a with
    | none => simp [sizeOf, typeInfo, hi, hs, sliced, Result.andThen]
    | some x => simp [sizeOf, typeInfo, hi, hs, sliced, Result.andThen, Addr.add]

set_option maxRecDepth 100000 in
set_option maxHeartbeats 2000000 in
theorem zMul64 (n : Nat) (w : World) (hn : n ≤ 9) :
    Calls Tryd.prog 115 #[.int .u64 1, .int .u64 (n : Int)] w fun e w' => e = .returned (.tuple #[.int .u64 0, .int .u64 (n : Int)]) ∧ w' = w := by
  match n, hn with
  | 0, _ => go_enter Tryd.func115, Tryd.ntmps115; go_wp2; go_ret2; exact ⟨rfl, rfl⟩
  | 1, _ => go_enter Tryd.func115, Tryd.ntmps115; go_wp2; go_ret2; exact ⟨rfl, rfl⟩
  | 2, _ => go_enter Tryd.func115, Tryd.ntmps115; go_wp2; go_ret2; exact ⟨rfl, rfl⟩
  | 3, _ => go_enter Tryd.func115, Tryd.ntmps115; go_wp2; go_ret2; exact ⟨rfl, rfl⟩
  | 4, _ => go_enter Tryd.func115, Tryd.ntmps115; go_wp2; go_ret2; exact ⟨rfl, rfl⟩
  | 5, _ => go_enter Tryd.func115, Tryd.ntmps115; go_wp2; go_ret2; exact ⟨rfl, rfl⟩
  | 6, _ => go_enter Tryd.func115, Tryd.ntmps115; go_wp2; go_ret2; exact ⟨rfl, rfl⟩
  | 7, _ => go_enter Tryd.func115, Tryd.ntmps115; go_wp2; go_ret2; exact ⟨rfl, rfl⟩
  | 8, _ => go_enter Tryd.func115, Tryd.ntmps115; go_wp2; go_ret2; exact ⟨rfl, rfl⟩
  | 9, _ => go_enter Tryd.func115, Tryd.ntmps115; go_wp2; go_ret2; exact ⟨rfl, rfl⟩

set_option maxRecDepth 100000 in
theorem zMul (n : Nat) (w : World) (hn : n ≤ 9) :
    Calls Tryd.prog 109 #[.int .u64 1, .int .u64 (n : Int)] w fun e w' => e = .returned (.tuple #[.int .u64 0, .int .u64 (n : Int)]) ∧ w' = w := by
  go_enter Tryd.func109, Tryd.ntmps109
  go_wp2_with (go_at_call 115; refine (zMul64 n _ hn).mono ?_; rintro e w3 ⟨rfl, hw⟩; have hw := hw.symm; subst hw)
  go_ret2
  exact ⟨rfl, rfl⟩

theorem infoRpt : (Tryd.prog.info? 34).map (·.size) = some 1 := by kernel_rfl

set_option maxRecDepth 100000 in
set_option maxHeartbeats 600000 in
theorem zRepeat (a : Option Addr) (c : Nat) (x : Int) (n : Nat) (w : World) (h : Rd w a 1 c [x]) (hn1 : 1 ≤ n) (hn : n ≤ 9) :
    Calls Tryd.prog 92 #[.slice a 1 c, .int .i64 (n : Int)] w fun e w' => ∃ v, e = .returned v ∧ w'.ownsRow w.heap.size 34 1 v n ((List.replicate n x).map (Value.int .u64)) ∧ Below w.heap.size w w' := by
  obtain ⟨i0, hi, hz0, hz1, hz2⟩ := info_parts info34
  obtain ⟨C1, HC1⟩ : ∃ C1, Hid ((List.replicate 1 x).map (Value.int .u64) = C1) := ⟨_, rfl⟩
  have HC1l : Hid (C1.length = 1) := by unfold Hid; rw [← HC1.out]; rfl
  have HC1o : Hid (∀ v ∈ C1, v.oneCell' = true) := by unfold Hid; rw [← HC1.out]; exact one_ints _
  have HC1c : Hid (∀ w2, Rd w2 a 1 c [x] → ∃ ad, a = some ad ∧ ∀ j v, C1[j]? = some v → w2.cell? (ad.add j) = some v) := fun w2 h2 => by
    obtain ⟨b, o, rfl, _, hc⟩ := h2.at (k := 0) (by omega)
    refine ⟨_, rfl, fun j v hj => ?_⟩
    have hjl := (List.getElem?_eq_some_iff.1 hj).1
    rw [HC1l.out] at hjl
    obtain rfl : j = 0 := by omega
    rw [← HC1.out] at hj
    simp at hj
    subst hj
    rw [Addr.add_lit]
    exact hc 0 (by omega)
  go_enter Tryd.func92, Tryd.ntmps92
  go_wp2_with (first | (go_at_call 109; refine (zMul n _ hn).mono ?_; rintro e w3 ⟨rfl, hw⟩; have hw := hw.symm; subst hw) | (at_make; refine wpList_make_full _ rfl _ _ 22 rfl w.heap.size 34 i0 (.int .u64 0) 1 Tryd.underlying22 hi hz0 hz1 .i64 .i64 _ _ n rfl rfl (by omega) (by omega) (by rw [hz2]; omega) (by unfold maxLen; omega) (Nat.le_refl _) ?_; intro w2 hown hgrow; have hB2 : Blk w2 w.heap.size (rpl x n 0) := (by rw [← rpl_zero]; exact Blk.made hown); have hb2 : Below w.heap.size w w2 := (Below.refl _ _).grown hgrow (Nat.le_refl _) (by simp); clear hown hgrow) | (refine Go.wpList_copy_splice rfl _ _ _ _ rfl 34 Tryd.underlying22 infoRpt _ _ _ _ _ _ rfl rfl w.heap.size 0 ((rpl x n 0).map (Value.int .u64)) 34 hB2 C1 (by rw [HC1l.out]; exact (Nat.min_eq_left hn1).symm) (fun _ => ⟨rfl, HC1c.out _ (h.below hb2)⟩) (by rw [HC1l.out, List.length_map, rpl_len]; omega) HC1o.out w.heap.size w hb2 (Nat.le_refl _) ?_; intro w4 hB4 hb4; rw [HC1l.out]))
  have hB5 : Blk w4 w.heap.size (rpl x n 1) := by
    have := hB4.out
    rw [← HC1.out, rpl_splice x n 0 1 (by omega)] at this
    exact this
  clear hB4 hB2 hb2 HC1 HC1l HC1o HC1c
  have hd1 : decide ((n : Int) < 0) = false := by simp
  have hd2 : decide ((9223372036854775807 : Int) < (n : Int)) = false := by simp; omega
  rw [hd1, hd2]
  clear hd1 hd2
  go_loopw [8] (fun v wr => ∃ k : Nat, 1 ≤ k ∧ k ≤ n ∧ v = .int .i64 k ∧ Blk wr w.heap.size (rpl x n k) ∧ Below w.heap.size w wr) (fun v _ => n - (intOf v).toNat)
  case atStart => exact ⟨1, Nat.le_refl _, hn1, rfl, hB5, hb4⟩
  case round =>
    clear hB5 hb4
    obtain ⟨k, hk1, hk, rfl, hblk, hbel⟩ := hrel
    have hgl := hblk.lt
    by_cases hlt : k < n
    · obtain ⟨m, HM⟩ : ∃ m, Hid (Nat.min k (n - k) = m) := ⟨_, rfl⟩
      have hm1 : 1 ≤ m ∧ m ≤ k ∧ k + m ≤ n := by have h1 := HM.out; have h2 : min k (n - k) = m := h1; omega
      obtain ⟨C2, HC2⟩ : ∃ C2, Hid ((List.replicate m x).map (Value.int .u64) = C2) := ⟨_, rfl⟩
      have HC2l : Hid (C2.length = m) := by unfold Hid; rw [← HC2.out]; simp
      have HC2o : Hid (∀ v ∈ C2, v.oneCell' = true) := by unfold Hid; rw [← HC2.out]; exact one_ints _
      have HC2c : Hid (∀ j v, C2[j]? = some v → wr.drew.cell? (Addr.add ⟨w.heap.size, 0, none⟩ j) = some v) := fun j v hj => by
        have hjl := (List.getElem?_eq_some_iff.1 hj).1
        rw [HC2l.out] at hjl
        rw [← HC2.out] at hj
        simp [hjl] at hj
        subst hj
        rw [Addr.add_lit, Nat.zero_add]
        have := hblk.cell (i := j) (by rw [rpl_len]; omega)
        have e : (rpl x n k).getD j 0 = x := by simp [rpl, show j < n by omega, show j < k by omega]
        rw [e] at this
        exact this
      have HB6 : Hid (∀ w6 : World, Hid (w6.heap[w.heap.size]? = some (.cells (Go.splice ((rpl x n k).map (Value.int .u64)) k C2).toArray 34 (0, 0))) → Blk w6 w.heap.size (rpl x n (k + m))) := fun w6 h6 => by
        have := h6.out
        rw [← HC2.out, rpl_splice x n k m hm1.2.2] at this
        exact this
      have e1 : ∀ W, (Instr.sliceAt 22 (.slice (some ⟨w.heap.size, 0, none⟩) n n) (some (.int .i64 (k : Int))) none none).run Tryd.prog W = .ok (.slice (some ⟨w.heap.size, k, none⟩) (n - k) (n - k)) W := fun W => by
        have := run_subl (P := Tryd.prog) Tryd.underlying22 infoRpt (some ⟨w.heap.size, 0, none⟩) n n k rfl hk W
        rw [this, subA, if_neg (by omega), Option.map_some, Addr.add_lit, Nat.zero_add]
      have e2 : ∀ W, (Instr.sliceAt 22 (.slice (some ⟨w.heap.size, 0, none⟩) n n) none (some (.int .i64 (k : Int))) none).run Tryd.prog W = .ok (.slice (some ⟨w.heap.size, 0, none⟩) k n) W := fun W => run_subh Tryd.underlying22 infoRpt (some ⟨w.heap.size, 0, none⟩) n n k (fun e => by simp at e) hk W
      have hwk : IntKind.i64.wrap ((k : Int) + (m : Int)) = (k : Int) + (m : Int) := by rw [IntKind.wrap_i64]; omega
      have hblkD : Blk wr.drew w.heap.size (rpl x n k) := hblk
      have hbelD := hbel.drew
      go_wp2
      go_region_law (refine Go.step_copy_splice rfl _ _ _ _ rfl 34 Tryd.underlying22 infoRpt (some ⟨w.heap.size, k, none⟩) (some ⟨w.heap.size, 0, none⟩) (n - k) (n - k) k n (by simp [Act.eval, Act.put]) (by simp [Act.eval, Act.put]) w.heap.size k ((rpl x n k).map (Value.int .u64)) 34 hblkD C2 (by rw [HC2l.out]; exact HM.out.symm) (fun _ => ⟨rfl, _, rfl, HC2c.out⟩) (by rw [HC2l.out, List.length_map, rpl_len]; omega) HC2o.out w.heap.size w hbelD (Nat.le_refl _) ?_; intro w6 hB6 hb6; have hB7 := HB6.out w6 hB6; clear hB6; rw [HC2l.out])
      all_goals
        clear hblkD hbelD hblk hbel HB6 HC2c HC2o
        go_simp
        go_roundw
        case rel =>
          refine ⟨_, _, _, _, _, _, _, _, _, _, _, _, _, _, ?_, rfl⟩
          exact ⟨k + m, by omega, by omega, by go_num, hB7, hb6⟩
        case measure => simp [intOf]; omega
    · have hkn : k = n := by omega
      subst hkn
      rw [rpl_full] at hblk
      have ho : wr.ownsRow w.heap.size 34 1 (.slice (some ⟨w.heap.size, 0, none⟩) k k) k ((List.replicate k x).map (Value.int .u64)) :=
        ⟨by simp, .inr ⟨w.heap.size, k, _, rfl, Nat.le_refl _, hblk, Nat.le_refl _, by unfold maxLen; omega, by simp, by simp⟩⟩
      go_wp2
      go_ret
      exact ⟨_, rfl, ho, hbel⟩
end Go.Proofs.YtgmelcdgnjcojagDoor

namespace Go.Proofs.YtgmelcdgnjcojagDoor
open Go.RowKit Crm

set_option maxRecDepth 100000 in
set_option maxHeartbeats 2000000 in
theorem eDraw (gp n t : Nat) (vi vW vS : Value) (ad : Option Addr) (d cd k : Nat) (w : World) (h : PBox w gp n t vi (.slice ad d cd) vW vS) (hz : ad = none → cd = 0) (hk : k ≤ d) (hc : d ≤ cd) :
    Calls Tryd.prog 108 #[.pointer (some ⟨gp, 0, none⟩), .int .i64 (k : Int)] w fun e w' => e = .returned (.slice ad k cd) ∧ w' = w.setCell ⟨gp, 3, none⟩ (.slice (subA ad cd k) (d - k) (cd - k)) := by
  obtain ⟨_, _, _, d3, _, _⟩ := h.cells
  have hf := h.frozen 3
  have hlt := h.lt
  obtain ⟨X, HX⟩ : ∃ X, Hid (subA ad cd k = X) := ⟨_, rfl⟩
  have e1 : ∀ W, (Instr.sliceAt 22 (.slice ad d cd) none (some (.int .i64 (k : Int))) none).run Tryd.prog W = .ok (.slice ad k cd) W := fun W => run_subh Tryd.underlying22 infoRpt ad d cd k hz (by omega) W
  have e2 : ∀ W, (Instr.sliceAt 22 (.slice ad d cd) (some (.int .i64 (k : Int))) none none).run Tryd.prog W = .ok (.slice X (d - k) (cd - k)) W := fun W => by rw [← HX.out]; exact run_subl Tryd.underlying22 infoRpt ad d cd k rfl hk W
  rw [HX.out]
  clear h
  go_enter Tryd.func108, Tryd.ntmps108
  go_wp2
  go_ret
  exact ⟨rfl, rfl⟩

set_option maxRecDepth 100000 in
set_option maxHeartbeats 4000000 in
theorem eSee {w wr : World} {gp gs n t j m c lo hi : Nat} {vi vd vW : Value} {Ls LW : List Value} {S X : Nat → List Int} {W : List (List Int)} {a : Option Addr} (h : PSt w wr gp gs n t vi vd Ls (sgx S X n j) vW LW W lo hi) (hj : j < n) (hr : Rd wr a m c (X j)) (hm : 0 < m) (hm9 : m ≤ 9) (hl : (S j).length ≤ 5000) :
    Calls Tryd.prog 95 #[.pointer (some ⟨gp, 0, none⟩), .int .i64 (j : Int), .slice a m c] wr fun e w' => e = .returned (.tuple #[]) ∧ Seen w wr gs j (Ls.getD j (.slice none 0 0)) (S j) (X j) w' := by
  have hgl := sgx_len S X n j
  obtain ⟨dg, fg, lg⟩ := h.sen.seen.cell hgl hj
  have hrow := h.sen.seen.row j (by rw [hgl]; exact hj)
  rw [sgx_getD _ _ hj] at hrow
  obtain ⟨u, HU⟩ : ∃ u, Hid (Ls.getD j (.slice none 0 0) = u) := ⟨_, rfl⟩
  rw [HU.out] at dg hrow ⊢
  obtain ⟨l, Hl⟩ : ∃ l, Hid ((S j).length = l) := ⟨_, rfl⟩
  rw [Hl.out] at hrow hl
  have hrowD : wr.drew.ownsRow w.heap.size 34 1 u l ((S j).map (Value.int .u64)) := hrow
  obtain ⟨ua, uc, rfl, huc⟩ := own_slice hrow
  have hsw := h.sen.bel.size
  obtain ⟨_, _, _, _, _, d5⟩ := h.box.cells
  have hlp := h.box.lt
  have hxl := hr.len
  obtain ⟨Y, HY⟩ : ∃ Y, Hid (X j = Y) := ⟨_, rfl⟩
  obtain ⟨Z, HZ⟩ : ∃ Z, Hid (S j = Z) := ⟨_, rfl⟩
  rw [HY.out] at hr hxl ⊢
  rw [HZ.out] at hrow hrowD ⊢
  obtain ⟨b3, o3, rfl, _, _⟩ := hr.at (k := 0) hm
  have HST : Hid (∀ w7, wr.drew.grownBy w7 (Value.slice ua l uc).ownBlock → (∃ x, w7.cell? ⟨gs, j, none⟩ = some x) ∧ w7.frozen? ⟨gs, j, none⟩ = false ∧ gp < w7.heap.size ∧ w7.cell? ⟨gp, 5, none⟩ = some (.slice (some ⟨gs, 0, none⟩) n n)) := fun w7 hg => by
    have hsd : wr.drew.ownsRow w.heap.size 22 1 (.slice (some ⟨gs, 0, none⟩) n n) (sgx S X n j).length Ls := h.sen.seen.own
    have ho7 := hsd.kept hg (own_apart hrowD hsd (by decide))
    rw [hgl] at ho7
    obtain ⟨g', x, e1, _, _, _, e5⟩ := own_at ho7 hj
    simp only [Option.some.injEq, Addr.mk.injEq, and_true] at e1
    subst e1
    have hb7 := h.box.drew.grown hg (h.box.drew.off' hrowD eUP)
    exact ⟨⟨x, e5⟩, own_frozen ho7 j, hb7.lt, hb7.cells.2.2.2.2.2⟩
  have HUP : Hid (∀ g7 cap7 w7, w7.ownsRow w.heap.size 34 1 (.slice (some ⟨g7, 0, none⟩) (l + m) cap7) (l + m) ((Z ++ Y).map (Value.int .u64)) → wr.drew.grownBy w7 (Value.slice ua l uc).ownBlock → ((Value.slice (some ⟨g7, 0, none⟩) (l + m) cap7).ownBlock = (Value.slice ua l uc).ownBlock ∨ ∃ k, (Value.slice (some ⟨g7, 0, none⟩) (l + m) cap7).ownBlock = some k ∧ wr.drew.heap.size ≤ k) →
      Seen w wr gs j (.slice ua l uc) Z Y (w7.setCell ⟨gs, j, none⟩ (.slice (some ⟨g7, 0, none⟩) (l + m) cap7))) := fun g7 cap7 w7 ho hg hat => by
    have hlen : (Z ++ Y).length = l + m := by rw [List.length_append, hxl, ← HZ.out, Hl.out]
    exact ⟨w7, _, rfl, by rw [hlen]; exact ho, ⟨hg.os, hg.tape, hg.output, hg.size, hg.block⟩, hat⟩
  have hj0 : (0 : Int) ≤ (j : Int) := by omega
  have hjni : (j : Int) < (n : Int) := by omega
  clear h hrow
  go_enter Tryd.func95, Tryd.ntmps95
  go_region_law (refine step_appM Tryd.underlying22 info34 wr.drew rfl _ _ rfl w.heap.size _ _ _ rfl hrowD b3 o3 m c Y hr.drew rfl hm (by omega) (by exact hsw) ?_; intro g7 cap7 w7 ho7 hgr7 hat7; obtain ⟨⟨xx, dd⟩, ff, lp7, dp7⟩ := HST.out w7 hgr7; have hl7 := World.block_lt_of_cell? w7 _ dd; have HE : Hid (Seen _ _ _ _ _ _ _ _) := HUP.out g7 cap7 w7 ho7 hgr7 hat7; clear ho7 hgr7 hat7)
  all_goals
    clear HST HUP hrowD
    go_wp2
    exact bodyPost_end (v := .tuple #[]) (by simp [results, Tryd.results95, go_sem]) rfl ⟨rfl, HE.out⟩
end Go.Proofs.YtgmelcdgnjcojagDoor

namespace Go.Proofs.YtgmelcdgnjcojagDoor
open Go.RowKit Crm

set_option maxRecDepth 100000 in
set_option maxHeartbeats 1000000 in
theorem cDealB (s : Int) (a : Option Addr) (m c : Nat) (xs : List Int) (n : Nat) (w : World) (h : Rd w a m c xs) (hs0 : 0 ≤ s) (hs1 : s ≤ 18446744073709551615) (hm : m ≤ 4) (hn : m < n) (hn9 : n ≤ 9) :
    Calls Tryd.prog 13 #[.int .u64 s, .slice a m c, .int .i64 n] w fun e w' => ∃ v, e = .returned (.tuple #[v, .int .i64 0]) ∧ w'.ownsRow w.heap.size 34 1 v n ((dl (s :: xs) n).map (Value.int .u64)) ∧ Below w.heap.size w w' := by
  obtain ⟨i0, hi, hz0, hz1, hz2⟩ := info_parts info34
  have hlen := h.len
  go_enter Tryd.func13, Tryd.ntmps13
  go_wp2_with (first | (at_builtin; refine wpList_appR Tryd.underlying22 info34 _ rfl _ _ rfl s hs0 hs1 a m c xs h rfl rfl (by omega) ?_; intro a1 c1 w1 hr1 hb1) | (at_make; refine wpList_make_full _ rfl _ _ 22 rfl w1.heap.size 34 i0 (.int .u64 0) 1 Tryd.underlying22 hi hz0 hz1 .i64 .i64 _ _ n rfl rfl (by omega) (by omega) (by rw [hz2]; omega) (by unfold maxLen; omega) (Nat.le_refl _) ?_; intro w2 hown hgrow))
  have hs1 := hb1.size
  have hB2 : Blk w2 w1.heap.size (fil (dlf (s :: xs)) n 0) := by rw [← fil_zero]; exact Blk.made hown
  have hb2 : Below w1.heap.size w1 w2 := (Below.refl _ _).grown hgrow (Nat.le_refl _) (by simp)
  have hb12 : Below w.heap.size w w2 := hb1.trans (hb2.mono hs1)
  clear hown hgrow
  go_loopw [32] (fun i wr => ∃ k : Nat, k ≤ n ∧ i = .int .i64 k ∧ Blk wr w1.heap.size (fil (dlf (s :: xs)) n k) ∧ Below w1.heap.size w1 wr ∧ Below w.heap.size w wr) (fun i _ => n - (intOf i).toNat)
  case atStart => exact ⟨0, Nat.zero_le _, rfl, hB2, hb2, hb12⟩
  case round =>
    clear hB2 hb2 hb12
    obtain ⟨k, hk, rfl, hblk, hbe1, hbel⟩ := hrel
    by_cases hlt : k < n
    · have hr := hr1.below hbe1
      have HF : Hid (nm (ev (s :: xs) ((k : Int) + 1)) = dlf (s :: xs) k) := rfl
      go_wp2_with fail
      refine (cEvalOK _ _ _ _ _ _ hr (by omega) (by omega) (by omega)).mono ?_
      rintro e w3 ⟨rfl, hb3⟩
      rw [HF.out]
      have hblk3 := hblk.below hb3 hblk.lt
      have hcell := hblk3.cell (i := k) (by rw [fil_len]; exact hlt)
      have hfz := hblk3.frozen k
      have hlt3 := hblk3.lt
      have hblk4 := hblk3.set k (dlf (s :: xs) k)
      rw [fil_set rfl] at hblk4
      have hbe3 := hbe1.trans (hb3.mono hbe1.size)
      have hbel3 := hbel.trans (hb3.mono hbel.size)
      have Hb4 : Hid (Below w1.heap.size w1 (w3.setCell ⟨w1.heap.size, k, none⟩ (.int .u64 (dlf (s :: xs) k)))) := hbe3.setCell (Nat.le_refl _) _
      have Hb5 : Hid (Below w.heap.size w (w3.setCell ⟨w1.heap.size, k, none⟩ (.int .u64 (dlf (s :: xs) k)))) := hbel3.setCell hs1 _
      clear hbe1 hbel hb3 hblk hblk3 hbe3 hbel3 hr
      go_wp2
      go_roundw
      case rel => exact ⟨k + 1, by omega, by go_num, hblk4, Hb4.out, Hb5.out⟩
      case measure => simp [intOf]; omega
    · have hkn : k = n := by omega
      subst hkn
      have hr : wr.ownsRow w.heap.size 34 1 (.slice (some ⟨w1.heap.size, 0, none⟩) k k) k ((dl (s :: xs) k).map (Value.int .u64)) := by
        rw [fil_full] at hblk
        exact ⟨by rw [List.length_map, dl_len, Nat.mul_one], .inr ⟨_, k, _, rfl, hs1, hblk, Nat.le_refl _, by unfold maxLen; omega, by simp, by rw [List.toList_toArray, Nat.mul_one, List.take_of_length_le (by simp)]; rfl⟩⟩
      go_wp2
      go_ret2
      exact ⟨_, rfl, hr, hbel⟩
end Go.Proofs.YtgmelcdgnjcojagDoor
