/- twine.Need, value, allHave. · (*twine.square).row. · (*croftref.Store).sums. -/
import Derived.Test.YtgmelcdgnjcojagDoorToTwSqM
import Derived.Test.YtgmelcdgnjcojagDoorToFaceC
import Derived.Test.YtgmelcdgnjcojagDoorToEnR
import Derived.Test.YtgmelcdgnjcojagDoorToRefPolyC
import Derived.Test.YtgmelcdgnjcojagDoorToNewtonM
import Derived.Test.YtgmelcdgnjcojagDoorToTRows
import Derived.Test.YtgmelcdgnjcojagDoorToPlacedC
import Derived.Test.YtgmelcdgnjcojagDoorToGateM
import Derived.Test.YtgmelcdgnjcojagDoorToWireC
import Derived.Deep.RegionWith
namespace Go.Proofs.YtgmelcdgnjcojagDoor
open Go.RowKit Crm

set_option maxRecDepth 100000 in
theorem cTwNeed (t : Int) (w : World) : Calls Tryd.prog 40 #[.int .i64 t] w fun e w' => Nds t w e w' := by
  by_cases h1 : t < 0
  · have HT : Hid (t < 0 ∨ 4 < t) := .inl h1
    go_enter Tryd.func40, Tryd.ntmps40
    go_wp2
    go_ret2
    exact ⟨.inl ⟨HT.out, rfl⟩, Below.refl _ _⟩
  · by_cases h2 : 4 < t
    · have HT : Hid (t < 0 ∨ 4 < t) := .inr h2
      go_enter Tryd.func40, Tryd.ntmps40
      go_wp2
      go_ret2
      exact ⟨.inl ⟨HT.out, rfl⟩, Below.refl _ _⟩
    · have hk : t = 0 ∨ t = 1 ∨ t = 2 ∨ t = 3 ∨ t = 4 := by omega
      clear h1 h2
      rcases hk with rfl | rfl | rfl | rfl | rfl
      · go_enter Tryd.func40, Tryd.ntmps40
        go_wp2
        go_ret2
        exact ⟨.inr ⟨0, rfl, by omega, rfl⟩, Below.refl _ _⟩
      · go_enter Tryd.func40, Tryd.ntmps40
        go_wp2
        go_ret2
        exact ⟨.inr ⟨1, rfl, by omega, rfl⟩, Below.refl _ _⟩
      · go_enter Tryd.func40, Tryd.ntmps40
        go_wp2
        go_ret2
        exact ⟨.inr ⟨2, rfl, by omega, rfl⟩, Below.refl _ _⟩
      · go_enter Tryd.func40, Tryd.ntmps40
        go_wp2
        go_ret2
        exact ⟨.inr ⟨3, rfl, by omega, rfl⟩, Below.refl _ _⟩
      · go_enter Tryd.func40, Tryd.ntmps40
        go_wp2
        go_ret2
        exact ⟨.inr ⟨4, rfl, by omega, rfl⟩, Below.refl _ _⟩

set_option maxRecDepth 100000 in
theorem cTwValue (a : Option Addr) (n c : Nat) (xs : List Int) (x : Nat) (w : World) (h : Rd w a n c xs) (hn : n ≤ 40) (hx : x ≤ 100) :
    Calls Tryd.prog 100 #[.slice a n c, .int .i64 x] w fun e w' => e = .returned (.int .u64 (nm (ev xs x))) ∧ Below w.heap.size w w' := by
  go_enter Tryd.func100, Tryd.ntmps100
  go_wp2_with fail
  refine (cEvalOK _ _ _ _ _ _ h hn (by omega) (by omega)).mono ?_
  rintro e w1 ⟨rfl, hb1⟩
  go_wp2
  go_ret
  exact ⟨rfl, hb1⟩

set_option maxRecDepth 100000 in
set_option maxHeartbeats 1000000 in
theorem cAllHave (a : Option Addr) (n c : Nat) (l : List (Int × List Int)) (k : Nat) (w : World) (h : RdW w a n c l) :
    Calls Tryd.prog 77 #[.slice a n c, .int .i64 k] w fun e w' => Tells (∀ i, i < n → (tc l i).length = k) w e w' := by
  have hcap := h.cap
  have hmax := h.max
  unfold maxLen at hmax
  go_enter Tryd.func77, Tryd.ntmps77
  go_wp2
  go_loopw [9] (fun i wr => ∃ q : Nat, q ≤ n ∧ i = .int .i64 q ∧ Hid (∀ i, i < q → (tc l i).length = k) ∧ Below w.heap.size w wr) (fun i _ => n - (intOf i).toNat)
  case atStart => exact ⟨0, Nat.zero_le _, rfl, fun i hi => by omega, Below.refl _ _⟩
  case round =>
    obtain ⟨q, hq, rfl, HQ, hbel⟩ := hrel
    have hs1 := hbel.size
    by_cases hlt : q < n
    · obtain ⟨b, o, x, ai, ni, ci, row, rfl, hbb, HX, HRow, hx0, hx1, hcx, hcr, hrow⟩ := (h.below hbel).one hlt
      have hnl := hrow.len
      have hnc := hrow.cap
      have hnm := hrow.max
      unfold maxLen at hnm
      have HNL : Hid ((tc l q).length = ni) := by unfold Hid; rw [HRow.out]; exact hnl
      have hbA := hbel.alloc hs1 (.cells #[.int .i64 x, .slice ai ni ci] 80)
      have hcA1 := cell_alloc1 wr (.int .i64 x) (.slice ai ni ci) 80
      by_cases hni : ni = k
      · have hnb : ((ni : Int) != (k : Int)) = false := by rw [bne_eq_false_iff_eq]; omega
        have HQ2 : Hid (∀ i, i < q + 1 → (tc l i).length = k) := fun i hi => by
          by_cases e : i = q
          · rw [e, HNL.out]; exact hni
          · exact HQ.out i (by omega)
        clear hni
        go_wp2
        go_roundw
        case rel => exact ⟨q + 1, by omega, by go_num, HQ2, hbA⟩
        case measure => simp [intOf]; omega
      · have hnb : ((ni : Int) != (k : Int)) = true := by rw [bne_iff_ne]; omega
        have HN : Hid (¬ ∀ i, i < n → (tc l i).length = k) := fun hh => hni (by have := hh q hlt; rw [HNL.out] at this; exact this)
        clear hni
        go_wp2
        go_ret
        exact .no HN.out hbA
    · have hqn : q = n := by omega
      subst hqn
      go_wp2
      go_ret
      exact .yes HQ.out hbel
end Go.Proofs.YtgmelcdgnjcojagDoor

namespace Go.Proofs.YtgmelcdgnjcojagDoor
open Go.RowKit Crm

/-- A row of the call's own, all of it. -/
theorem Blk.own {w : World} {g n B : Nat} {L : List Int} (h : Blk w g L) (hl : L.length = n) (hB : B ≤ g) (hn : n ≤ 1000) : w.ownsRow B 34 1 (.slice (some ⟨g, 0, none⟩) n n) n (L.map (Value.int .u64)) :=
  ⟨by simp [hl], .inr ⟨g, n, _, rfl, hB, h, Nat.le_refl _, by unfold maxLen; omega, by simp [hl], by rw [List.take_of_length_le (by simp [hl])]⟩⟩

set_option maxRecDepth 100000 in
set_option maxHeartbeats 1000000 in
theorem cSqRow (g : Nat) (C : List Int) (s : Int) (ds : List Int) (t x : Nat) (w : World) (h : BlkQ w g C) (hS : Sqr s ds t (t + 1) (t + 1) C) (ht : t ≤ 4) (hx : x ≤ 9) :
    Calls Tryd.prog 74 #[.pointer (some ⟨g, 0, none⟩), .int .i64 t, .int .i64 x] w fun e w' => ∃ u, e = .returned (.slice (some ⟨u, 0, none⟩) (t + 1) (t + 1)) ∧ w'.ownsRow w.heap.size 34 1 (.slice (some ⟨u, 0, none⟩) (t + 1) (t + 1)) (t + 1) ((rowK s ds t x (t + 1)).map (Value.int .u64)) ∧ Below w.heap.size w w' := by
  obtain ⟨i0, hi, hz0, hz1, hz2⟩ := info_parts info34
  have HS : Hid (Sqr s ds t (t + 1) (t + 1) C) := hS
  have hglt := h.lt
  clear hS
  obtain ⟨T, HT⟩ : ∃ T, Hid (t + 1 = T) := ⟨_, rfl⟩
  obtain ⟨F, HF⟩ : ∃ F : Nat → Int, Hid ((fun j => nm (ev (colA s ds t j) x)) = F) := ⟨_, rfl⟩
  have HRK : Hid (rowK s ds t x (t + 1) = (List.range T).map F) := by unfold Hid rowK; rw [HT.out, HF.out]
  rw [HRK.out, HT.out]
  have hT5 : T ≤ 5 := by rw [← HT.out]; omega
  have HTi : Hid ((t : Int) + 1 = (T : Int)) := by unfold Hid; rw [← HT.out]; push_cast; rfl
  go_enter Tryd.func74, Tryd.ntmps74
  go_wp2_with (at_make; refine wpList_make_full _ rfl _ _ 22 rfl w.heap.size 34 i0 (.int .u64 0) 1 Tryd.underlying22 hi hz0 hz1 .i64 .i64 _ _ T rfl rfl HTi.out HTi.out (by rw [hz2]; omega) (by unfold maxLen; omega) (Nat.le_refl _) ?_; intro w2 hown hgrow)
  have hB2 : Blk w2 w.heap.size (fil F T 0) := by rw [← fil_zero]; exact Blk.made hown
  have hb2 : Below w.heap.size w w2 := (Below.refl _ _).grown hgrow (Nat.le_refl _) (by simp)
  clear hown hgrow
  go_loopw [14] (fun i wr => ∃ k : Nat, k ≤ T ∧ i = .int .i64 k ∧ Blk wr w.heap.size (fil F T k) ∧ Below w.heap.size w wr) (fun i _ => T - (intOf i).toNat)
  case atStart => exact ⟨0, Nat.zero_le _, rfl, hB2, hb2⟩
  case round =>
    clear hB2 hb2
    obtain ⟨k, hk, rfl, hblk, hbel⟩ := hrel
    by_cases hlt : k < T
    · have hq := h.below hbel hglt
      have hql := hq.lt
      have hl := HS.out.len
      have hrd := hq.rd (k * 5) T 5 hT5 (by unfold maxLen; omega) (by omega) HS.out.bd
      have HV : Hid (nm (ev ((C.drop (k * 5)).take T) x) = F k) := by unfold Hid; rw [← HT.out, sqr_ev HS.out (by omega) (by rw [← HT.out] at hlt; omega), ← HF.out]
      have hk5 : k < 5 := by omega
      have hal : Tryd.prog.arrayLen 102 = 5 := by simp [Program.arrayLen, Tryd.underlying102]
      have HTn : Hid (((t : Int) + 1).toNat = T) := by unfold Hid; rw [HTi.out]; rfl
      have hsl : ∀ W, (Instr.sliceAt 102 (.pointer (some ⟨g, k * 5, none⟩)) none (some (.int .i64 ((t : Int) + 1))) none).run Tryd.prog W = .ok (.slice (some ⟨g, k * 5, none⟩) T 5) W := fun W => by
        rw [run_sliceAt_array_h W 102 ⟨g, k * 5, none⟩ (by simp [Program.arrayLen, Program.elem, Tryd.underlying102]) .i64 ((t : Int) + 1) (by omega) (by rw [hal]; omega), HTn.out, hal, show Tryd.prog.elem 102 = 34 from by simp [Program.elem, Tryd.underlying102]]
        go_simp
      clear hal
      go_wp2_with fail
      refine (cTwValue _ _ _ _ _ _ hrd (by omega) (by omega)).mono ?_
      rintro e w3 ⟨rfl, hb3⟩
      rw [HV.out]
      have hblk3 := hblk.below hb3 hblk.lt
      have hcell := hblk3.cell (i := k) (by rw [fil_len]; exact hlt)
      have hfz := hblk3.frozen k
      have hlt3 := hblk3.lt
      have hblk4 := hblk3.set k (F k)
      rw [fil_set rfl] at hblk4
      have hbel3 := hbel.trans (hb3.mono hbel.size)
      have Hb4 : Hid (Below w.heap.size w (w3.setCell ⟨w.heap.size, k, none⟩ (.int .u64 (F k)))) := hbel3.setCell (Nat.le_refl _) _
      clear hbel hb3 hblk hblk3 hbel3 hrd
      go_wp2
      go_roundw
      case rel => exact ⟨k + 1, by omega, by go_num, hblk4, Hb4.out⟩
      case measure => simp [intOf]; omega
    · have hkn : k = T := by omega
      subst hkn
      rw [fil_full] at hblk
      have ho := hblk.own (n := k) (B := w.heap.size) (by simp) (Nat.le_refl _) (by omega)
      go_wp2
      go_ret
      exact ⟨_, rfl, ho, hbel⟩
end Go.Proofs.YtgmelcdgnjcojagDoor

namespace Go.Proofs.YtgmelcdgnjcojagDoor
open Go.RowKit Crm

/-- How many draws the first i parties take. -/
def kat (t : Nat) (sec : Bool) (i : Nat) : Nat := if sec then i * (t + 1) else i * t
theorem kat_le {t i n : Nat} {sec : Bool} (h : i ≤ n) : kat t sec i ≤ kat t sec n := by
  unfold kat
  split <;> exact Nat.mul_le_mul_right _ h
theorem kat_succ (t : Nat) (sec : Bool) (i : Nat) : kat t sec (i + 1) = kat t sec i + (if sec then 1 else 0) + t := by
  unfold kat
  cases sec <;> simp [Nat.add_mul] <;> omega
theorem kat_max {t n : Nat} (sec : Bool) (ht : t ≤ 4) (hn : n ≤ 9) : kat t sec n ≤ 45 := by
  unfold kat
  split
  · exact Nat.mul_le_mul hn (show t + 1 ≤ 5 by omega)
  · exact Nat.le_trans (Nat.mul_le_mul hn ht) (by omega)
theorem kdr_true (t : Nat) (ds : List Int) (i : Nat) : kdr t true ds i = ds.getD (kat t true i) 0 :: (ds.drop (kat t true i + 1)).take t := rfl
theorem kdr_fals (t : Nat) (ds : List Int) (i : Nat) : kdr t false ds i = 0 :: (ds.drop (kat t false i)).take t := rfl
theorem infoU1 : (Tryd.prog.info? 34).map (·.size) = some 1 := by kernel_rfl

end Go.Proofs.YtgmelcdgnjcojagDoor
