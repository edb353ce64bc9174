/- slices.Repeat of one number. -/
import Derived.Test.YtljlioglpaogdagDoorToOpenC
import Derived.Test.YtljlioglpaogdagDoorPadC
import Derived.Test.YtljlioglpaogdagDoorToSubC
import Derived.Deep.RegionLaw
namespace Go.Proofs.YtljlioglpaogdagDoor
set_option linter.unusedVariables false
set_option maxRecDepth 100000
set_option maxHeartbeats 8000000
section
open Crm Go.RowKit
/-- A row of which the first k are x. -/
def rpl (x : Int) (n k : Nat) : List Int := (List.range n).map fun i => if i < k then x else 0
theorem rpl_len (x : Int) (n k : Nat) : (rpl x n k).length = n := by simp [rpl]
theorem rpl_zero (x : Int) (n : Nat) : List.replicate n (0 : Int) = rpl x n 0 := by
  apply List.ext_getElem?
  intro i
  by_cases hi : i < n
  · simp [rpl, hi]
  · simp [rpl, hi]
theorem rpl_full (x : Int) (n : Nat) : rpl x n n = List.replicate n x := by
  apply List.ext_getElem?
  intro i
  by_cases hi : i < n
  · simp [rpl, hi]
  · simp [rpl, hi]
theorem rpl_splice (x : Int) (n k m : Nat) (h : k + m ≤ n) : Go.splice ((rpl x n k).map (Value.int .u64)) k ((List.replicate m x).map (Value.int .u64)) = (rpl x n (k + m)).map (Value.int .u64) := by
  apply List.ext_getElem?
  intro i
  unfold Go.splice
  rw [List.length_map, List.length_replicate]
  have hl : ((rpl x n k).map (Value.int .u64)).length = n := by rw [List.length_map, rpl_len]
  rcases Nat.lt_or_ge i k with e | e
  · rw [List.getElem?_append_left (by rw [List.length_take, hl]; omega), List.getElem?_take, if_pos e]
    simp [rpl, e, show i < n by omega, show i < k + m by omega]
  · rw [List.getElem?_append_right (by rw [List.length_take, hl]; omega), List.length_take, hl, Nat.min_eq_left (by omega)]
    rcases Nat.lt_or_ge i (k + m) with e2 | e2
    · rw [List.getElem?_append_left (by simp; omega)]
      simp [rpl, show i - k < m by omega, show i < n by omega, e2]
    · rw [List.getElem?_append_right (by simp; omega), List.length_map, List.length_replicate, List.getElem?_drop, show k + m + (i - k - m) = i by omega]
      by_cases hi : i < n
      · simp [rpl, hi, show ¬ i < k by omega, show ¬ i < k + m by omega]
      · simp [rpl, hi]
theorem run_subh {P : Program} {T E : TypeId} (hT : P.underlying T = some (.slice E)) (hE : (P.info? E).map (·.size) = some 1) (a : Option Addr) (n c k : Nat) (hz : a = none → c = 0) (hc : k ≤ c) (W : World) :
    (Instr.sliceAt T (.slice a n c) none (some (.int .i64 (k : Int))) none).run P W = .ok (.slice a k c) W := by
  have he : P.elem T = E := by simp [Program.elem, hT]
  have hT' : P.underlying T = some (.slice (P.elem T)) := by rw [he]; exact hT
  cases hi : P.info? E with
  | none => simp [hi] at hE
  | some i =>
    have hs : i.size = 1 := by simpa [hi] using hE
    rw [run_sliceAt_slice W T _ _ _ _ hT', run_slice_h W T a n c hT' .i64 (k : Int) (by omega) (by omega), he]
    cases a with
    | none => simp [sizeOf, typeInfo, hi, hs, sliced, Result.andThen]
    | some x => simp [sizeOf, typeInfo, hi, hs, sliced, Result.andThen, Addr.add]

theorem zMul64 (n : Nat) (w : World) (hn : n ≤ 9) :
    Calls Tryd.prog 115 #[.int .u64 1, .int .u64 (n : Int)] w fun e w' => e = .returned (.tuple #[.int .u64 0, .int .u64 (n : Int)]) ∧ w' = w := by
  match n, hn with
  | 0, _ => go_enter Tryd.func115, Tryd.ntmps115; go_wp2; go_ret2; exact ⟨rfl, rfl⟩
  | 1, _ => go_enter Tryd.func115, Tryd.ntmps115; go_wp2; go_ret2; exact ⟨rfl, rfl⟩
  | 2, _ => go_enter Tryd.func115, Tryd.ntmps115; go_wp2; go_ret2; exact ⟨rfl, rfl⟩
  | 3, _ => go_enter Tryd.func115, Tryd.ntmps115; go_wp2; go_ret2; exact ⟨rfl, rfl⟩
  | 4, _ => go_enter Tryd.func115, Tryd.ntmps115; go_wp2; go_ret2; exact ⟨rfl, rfl⟩
  | 5, _ => go_enter Tryd.func115, Tryd.ntmps115; go_wp2; go_ret2; exact ⟨rfl, rfl⟩
  | 6, _ => go_enter Tryd.func115, Tryd.ntmps115; go_wp2; go_ret2; exact ⟨rfl, rfl⟩
  | 7, _ => go_enter Tryd.func115, Tryd.ntmps115; go_wp2; go_ret2; exact ⟨rfl, rfl⟩
  | 8, _ => go_enter Tryd.func115, Tryd.ntmps115; go_wp2; go_ret2; exact ⟨rfl, rfl⟩
  | 9, _ => go_enter Tryd.func115, Tryd.ntmps115; go_wp2; go_ret2; exact ⟨rfl, rfl⟩

theorem zMul (n : Nat) (w : World) (hn : n ≤ 9) :
    Calls Tryd.prog 109 #[.int .u64 1, .int .u64 (n : Int)] w fun e w' => e = .returned (.tuple #[.int .u64 0, .int .u64 (n : Int)]) ∧ w' = w := by
  go_enter Tryd.func109, Tryd.ntmps109
  go_wp2_with (go_at_call 115; refine (zMul64 n _ hn).mono ?_; rintro e w3 ⟨rfl, hw⟩; have hw := hw.symm; subst hw)
  go_ret2
  exact ⟨rfl, rfl⟩

theorem infoRpt : (Tryd.prog.info? 34).map (·.size) = some 1 := by kernel_rfl

theorem zRepeat (a : Option Addr) (c : Nat) (x : Int) (n : Nat) (w : World) (h : Rd w a 1 c [x]) (hn1 : 1 ≤ n) (hn : n ≤ 9) :
    Calls Tryd.prog 92 #[.slice a 1 c, .int .i64 (n : Int)] w fun e w' => ∃ v, e = .returned v ∧ w'.ownsRow w.heap.size 34 1 v n ((List.replicate n x).map (Value.int .u64)) ∧ Below w.heap.size w w' := by
  obtain ⟨i0, hi, hz0, hz1, hz2⟩ := info_parts info34
  obtain ⟨C1, HC1⟩ : ∃ C1, Hid ((List.replicate 1 x).map (Value.int .u64) = C1) := ⟨_, rfl⟩
  have HC1l : Hid (C1.length = 1) := by unfold Hid; rw [← HC1.out]; rfl
  have HC1o : Hid (∀ v ∈ C1, v.oneCell' = true) := by unfold Hid; rw [← HC1.out]; exact one_ints _
  have HC1c : Hid (∀ w2, Rd w2 a 1 c [x] → ∃ ad, a = some ad ∧ ∀ j v, C1[j]? = some v → w2.cell? (ad.add j) = some v) := fun w2 h2 => by
    obtain ⟨b, o, rfl, _, hc⟩ := h2.at (k := 0) (by omega)
    refine ⟨_, rfl, fun j v hj => ?_⟩
    have hjl := (List.getElem?_eq_some_iff.1 hj).1
    rw [HC1l.out] at hjl
    obtain rfl : j = 0 := by omega
    rw [← HC1.out] at hj
    simp at hj
    subst hj
    rw [Addr.add_lit]
    exact hc 0 (by omega)
  go_enter Tryd.func92, Tryd.ntmps92
  go_wp2_with (first | (go_at_call 109; refine (zMul n _ hn).mono ?_; rintro e w3 ⟨rfl, hw⟩; have hw := hw.symm; subst hw) | (at_make; refine wpList_make_full _ rfl _ _ 22 rfl w.heap.size 34 i0 (.int .u64 0) 1 Tryd.underlying22 hi hz0 hz1 .i64 .i64 _ _ n rfl rfl (by omega) (by omega) (by rw [hz2]; omega) (by unfold maxLen; omega) (Nat.le_refl _) ?_; intro w2 hown hgrow; have hB2 : Blk w2 w.heap.size (rpl x n 0) := (by rw [← rpl_zero]; exact Blk.made hown); have hb2 : Below w.heap.size w w2 := (Below.refl _ _).grown hgrow (Nat.le_refl _) (by simp); clear hown hgrow) | (refine Go.wpList_copy_splice rfl _ _ _ _ rfl 34 Tryd.underlying22 infoRpt _ _ _ _ _ _ rfl rfl w.heap.size 0 ((rpl x n 0).map (Value.int .u64)) 34 hB2 C1 (by rw [HC1l.out]; exact (Nat.min_eq_left hn1).symm) (fun _ => ⟨rfl, HC1c.out _ (h.below hb2)⟩) (by rw [HC1l.out, List.length_map, rpl_len]; omega) HC1o.out w.heap.size w hb2 (Nat.le_refl _) ?_; intro w4 hB4 hb4; rw [HC1l.out]))
  have hB5 : Blk w4 w.heap.size (rpl x n 1) := by
    have := hB4.out
    rw [← HC1.out, rpl_splice x n 0 1 (by omega)] at this
    exact this
  clear hB4 hB2 hb2 HC1 HC1l HC1o HC1c
  have hd1 : decide ((n : Int) < 0) = false := by simp
  have hd2 : decide ((9223372036854775807 : Int) < (n : Int)) = false := by simp; omega
  rw [hd1, hd2]
  clear hd1 hd2
  go_loopw [8] (fun v wr => ∃ k : Nat, 1 ≤ k ∧ k ≤ n ∧ v = .int .i64 k ∧ Blk wr w.heap.size (rpl x n k) ∧ Below w.heap.size w wr) (fun v _ => n - (intOf v).toNat)
  case atStart => exact ⟨1, Nat.le_refl _, hn1, rfl, hB5, hb4⟩
  case round =>
    clear hB5 hb4
    obtain ⟨k, hk1, hk, rfl, hblk, hbel⟩ := hrel
    have hgl := hblk.lt
    by_cases hlt : k < n
    · obtain ⟨m, HM⟩ : ∃ m, Hid (Nat.min k (n - k) = m) := ⟨_, rfl⟩
      have hm1 : 1 ≤ m ∧ m ≤ k ∧ k + m ≤ n := by have h1 := HM.out; have h2 : min k (n - k) = m := h1; omega
      obtain ⟨C2, HC2⟩ : ∃ C2, Hid ((List.replicate m x).map (Value.int .u64) = C2) := ⟨_, rfl⟩
      have HC2l : Hid (C2.length = m) := by unfold Hid; rw [← HC2.out]; simp
      have HC2o : Hid (∀ v ∈ C2, v.oneCell' = true) := by unfold Hid; rw [← HC2.out]; exact one_ints _
      have HC2c : Hid (∀ j v, C2[j]? = some v → wr.drew.cell? (Addr.add ⟨w.heap.size, 0, none⟩ j) = some v) := fun j v hj => by
        have hjl := (List.getElem?_eq_some_iff.1 hj).1
        rw [HC2l.out] at hjl
        rw [← HC2.out] at hj
        simp [hjl] at hj
        subst hj
        rw [Addr.add_lit, Nat.zero_add]
        have := hblk.cell (i := j) (by rw [rpl_len]; omega)
        have e : (rpl x n k).getD j 0 = x := by simp [rpl, show j < n by omega, show j < k by omega]
        rw [e] at this
        exact this
      have HB6 : Hid (∀ w6 : World, Hid (w6.heap[w.heap.size]? = some (.cells (Go.splice ((rpl x n k).map (Value.int .u64)) k C2).toArray 34 (0, 0))) → Blk w6 w.heap.size (rpl x n (k + m))) := fun w6 h6 => by
        have := h6.out
        rw [← HC2.out, rpl_splice x n k m hm1.2.2] at this
        exact this
      have e1 : ∀ W, (Instr.sliceAt 22 (.slice (some ⟨w.heap.size, 0, none⟩) n n) (some (.int .i64 (k : Int))) none none).run Tryd.prog W = .ok (.slice (some ⟨w.heap.size, k, none⟩) (n - k) (n - k)) W := fun W => by
        have := run_subl (P := Tryd.prog) Tryd.underlying22 infoRpt (some ⟨w.heap.size, 0, none⟩) n n k rfl hk W
        rw [this, subA, if_neg (by omega), Option.map_some, Addr.add_lit, Nat.zero_add]
      have e2 : ∀ W, (Instr.sliceAt 22 (.slice (some ⟨w.heap.size, 0, none⟩) n n) none (some (.int .i64 (k : Int))) none).run Tryd.prog W = .ok (.slice (some ⟨w.heap.size, 0, none⟩) k n) W := fun W => run_subh Tryd.underlying22 infoRpt (some ⟨w.heap.size, 0, none⟩) n n k (fun e => by simp at e) hk W
      have hwk : IntKind.i64.wrap ((k : Int) + (m : Int)) = (k : Int) + (m : Int) := by rw [IntKind.wrap_i64]; omega
      have hblkD : Blk wr.drew w.heap.size (rpl x n k) := hblk
      have hbelD := hbel.drew
      go_wp2
      go_region_law (refine Go.step_copy_splice rfl _ _ _ _ rfl 34 Tryd.underlying22 infoRpt (some ⟨w.heap.size, k, none⟩) (some ⟨w.heap.size, 0, none⟩) (n - k) (n - k) k n (by simp [Act.eval, Act.put]) (by simp [Act.eval, Act.put]) w.heap.size k ((rpl x n k).map (Value.int .u64)) 34 hblkD C2 (by rw [HC2l.out]; exact HM.out.symm) (fun _ => ⟨rfl, _, rfl, HC2c.out⟩) (by rw [HC2l.out, List.length_map, rpl_len]; omega) HC2o.out w.heap.size w hbelD (Nat.le_refl _) ?_; intro w6 hB6 hb6; have hB7 := HB6.out w6 hB6; clear hB6; rw [HC2l.out])
      all_goals
        clear hblkD hbelD hblk hbel HB6 HC2c HC2o
        go_simp
        go_roundw
        case rel =>
          refine ⟨_, _, _, _, _, _, _, _, _, _, _, _, _, _, ?_, rfl⟩
          exact ⟨k + m, by omega, by omega, by go_num, hB7, hb6⟩
        case measure => simp [intOf]; omega
    · have hkn : k = n := by omega
      subst hkn
      rw [rpl_full] at hblk
      have ho : wr.ownsRow w.heap.size 34 1 (.slice (some ⟨w.heap.size, 0, none⟩) k k) k ((List.replicate k x).map (Value.int .u64)) :=
        ⟨by simp, .inr ⟨w.heap.size, k, _, rfl, Nat.le_refl _, hblk, Nat.le_refl _, by unfold maxLen; omega, by simp, by simp⟩⟩
      go_wp2
      go_ret
      exact ⟨_, rfl, ho, hbel⟩
end
end Go.Proofs.YtljlioglpaogdagDoor
