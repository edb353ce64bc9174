/- gate.dealAll. · (*shamir.parties).join, shamir.Check. · shamir.Check. -/
import Derived.Test.YtgmelcdgnjcojagDoorToGateC
import Derived.Test.YtgmelcdgnjcojagDoorToNewtonM
import Derived.Test.YtgmelcdgnjcojagDoorToWireC
import Derived.Test.YtgmelcdgnjcojagDoorToTrimC
import Derived.Test.YtgmelcdgnjcojagDoorToPlacedC
namespace Go.Proofs.YtgmelcdgnjcojagDoor
open Go.RowKit Crm

theorem infoVg : (Tryd.prog.info? 22).map (fun i => (i.zero, i.size, i.bytes)) = some (some (.slice none 0 0), 1, 24) := by kernel_rfl
theorem infoSg : (Tryd.prog.info? 34).map (·.size) = some 1 := by kernel_rfl

/-- A number of one row is written. -/
theorem LsV.put {w : World} {B g n c q i : Nat} {z : Int} {v : Value} {L : List Value} {rows : List (List Int)} (h : LsV w B v L rows) (hq : q < rows.length) (hu : L.getD q (.slice none 0 0) = .slice (some ⟨g, 0, none⟩) n c) (hn : (rows.getD q []).length = n) :
    LsV (w.setCell ⟨g, i, none⟩ (.int .u64 z)) B v L (rows.set q ((rows.getD q []).set i z)) := by
  have hg : w.grownBy (w.setCell ⟨g, i, none⟩ (.int .u64 z)) (some g) := grown_set _ _ _ _
  have hrq := h.row q hq
  rw [hu, hn] at hrq
  have hE : (34 : TypeId) ≠ 22 := by decide
  refine ⟨by rw [List.length_set]; exact h.own.kept hg (own_apart hrq h.own hE), by simp [h.len], fun j hj => ?_, fun j k hjk hk => by rw [List.length_set] at hk; exact h.inj j k hjk hk⟩
  rw [List.length_set] at hj
  rw [getD_setV _ _ _ _ _ hq]
  by_cases e : j = q
  · subst e
    rw [if_pos rfl, hu, List.length_set, hn, List.map_set]
    exact own_set hrq i _
  · rw [if_neg e]
    refine (h.row j hj).kept hg ?_
    have eb : (L.getD q (.slice none 0 0)).ownBlock = some g := by rw [hu]; rfl
    rcases Nat.lt_or_ge j q with e1 | e1
    · rcases h.inj j q e1 hq with e2 | e2
      · exact .inl e2
      · exact .inr (by rw [← eb]; exact e2)
    · rcases h.inj q j (by omega) hj with e2 | e2
      · rw [eb] at e2; cases e2
      · exact .inr (by rw [← eb]; exact fun e3 => e2 e3.symm)

/-- Rows that are made one by one. -/
def mkr (n i : Nat) : List (List Int) := (List.range n).map fun p => if p < i then List.replicate n 0 else []
theorem mkr_len (n i : Nat) : (mkr n i).length = n := by simp [mkr]
theorem mkr_zero (n : Nat) : List.replicate n [] = mkr n 0 := by
  apply List.ext_getElem?
  intro i
  by_cases hi : i < n
  · simp [mkr, hi]
  · simp [mkr, hi]
theorem mkr_set (n i : Nat) : (mkr n i).set i (List.replicate n 0) = mkr n (i + 1) := by
  apply List.ext_getElem?
  intro q
  rw [List.getElem?_set]
  by_cases hq : q < n
  · by_cases e : i = q
    · subst e; simp [mkr, hq]
    · have : (q < i + 1) = (q < i) := by apply propext; omega
      simp [mkr, hq, e, this]
  · by_cases e : i = q
    · subst e; simp [mkr, hq]
    · simp [mkr, hq, e]
/-- What party i deals. -/
def pdC (t : Nat) (ps ds : List Int) (i : Nat) : List Int := ps.getD i 0 :: (ds.drop (i * t)).take t
/-- What party p was dealt by the first i. -/
def gdr (t : Nat) (ps ds : List Int) (n i p : Nat) : List Int := fil (fun s => dlf (pdC t ps ds s) p) n i
theorem gdr_len (t : Nat) (ps ds : List Int) (n i p : Nat) : (gdr t ps ds n i p).length = n := fil_len _ _ _
def gdi (t : Nat) (ps ds : List Int) (n i : Nat) : List (List Int) := (List.range n).map fun p => gdr t ps ds n i p
theorem gdi_len (t : Nat) (ps ds : List Int) (n i : Nat) : (gdi t ps ds n i).length = n := by simp [gdi]
theorem mkr_full (t : Nat) (ps ds : List Int) (n : Nat) : mkr n n = gdi t ps ds n 0 := by
  unfold mkr gdi gdr
  refine List.map_congr_left fun p hp => ?_
  rw [if_pos (List.mem_range.1 hp), fil_zero]
def gdj (t : Nat) (ps ds : List Int) (n i j : Nat) : List (List Int) := (List.range n).map fun p => gdr t ps ds n (if p < j then i + 1 else i) p
theorem gdj_len (t : Nat) (ps ds : List Int) (n i j : Nat) : (gdj t ps ds n i j).length = n := by simp [gdj]
theorem gdj_zero (t : Nat) (ps ds : List Int) (n i : Nat) : gdj t ps ds n i 0 = gdi t ps ds n i := by simp [gdj, gdi]
theorem gdj_full (t : Nat) (ps ds : List Int) (n i : Nat) : gdj t ps ds n i n = gdi t ps ds n (i + 1) := by
  unfold gdj gdi
  refine List.map_congr_left fun p hp => ?_
  rw [if_pos (List.mem_range.1 hp)]
theorem gdj_getD (t : Nat) (ps ds : List Int) {n i j : Nat} (h : j < n) : (gdj t ps ds n i j).getD j [] = gdr t ps ds n i j := by simp [gdj, h]
theorem gdj_set (t : Nat) (ps ds : List Int) {n i j : Nat} : (gdj t ps ds n i j).set j ((gdr t ps ds n i j).set i (dlf (pdC t ps ds i) j)) = gdj t ps ds n i (j + 1) := by
  have e0 : (gdr t ps ds n i j).set i (dlf (pdC t ps ds i) j) = gdr t ps ds n (i + 1) j := fil_set rfl
  rw [e0]
  apply List.ext_getElem?
  intro q
  rw [List.getElem?_set]
  by_cases hq : q < n
  · by_cases e : j = q
    · subst e; simp [gdj, hq]
    · have : (q < j + 1) = (q < j) := by apply propext; omega
      simp [gdj, hq, e, this]
  · by_cases e : j = q
    · subst e; simp [gdj, hq]
    · simp [gdj, hq, e]

set_option maxRecDepth 100000 in
set_option maxHeartbeats 4000000 in
theorem cDealAll (t : Nat) (a : Option Addr) (n c : Nat) (ps : List Int) (e0 : Option Addr) (m f : Nat) (ds : List Int) (w : World) (h : Rd w a n c ps) (k : Rd w e0 m f ds) (ht : t ≤ 4) (hn1 : 2 * t + 1 ≤ n) (hn9 : n ≤ 9) (hm : m = n * t) :
    Calls Tryd.prog 55 #[.int .i64 t, .slice a n c, .slice e0 m f] w fun e w' => ∃ u L, e = .returned u ∧ LsV w' w.heap.size u L (gdi t ps ds n n) ∧ Below w.heap.size w w' := by
  obtain ⟨i0, hi, hz0, hz1, hz2⟩ := info_parts infoVg
  obtain ⟨j0, hj, hy0, hy1, hy2⟩ := info_parts info34
  have HM : Hid (m = n * t) := hm
  clear hm
  go_enter Tryd.func55, Tryd.ntmps55
  go_wp2_with (at_make; refine wpList_make_full _ rfl _ _ 36 rfl w.heap.size 22 i0 (.slice none 0 0) 1 Tryd.underlying36 hi hz0 hz1 .i64 .i64 _ _ n rfl rfl (by omega) (by omega) (by rw [hz2]; omega) (by unfold maxLen; omega) (Nat.le_refl _) ?_; intro w1 hown hgrow)
  have hb1 : Below w.heap.size w w1 := (Below.refl _ _).grown hgrow (Nat.le_refl _) (by simp)
  have hL1 := lsv_made hown
  rw [mkr_zero n] at hL1
  clear hown hgrow
  go_loopw [22] (fun q wr => ∃ (i : Nat) (L : List Value), i ≤ n ∧ q = .int .i64 i ∧ LsV wr w.heap.size (.slice (some ⟨w.heap.size, 0, none⟩) n n) L (mkr n i) ∧ Below w.heap.size w wr) (fun q _ => n - (intOf q).toNat)
  case atStart => exact ⟨0, _, Nat.zero_le _, rfl, hL1, hb1⟩
  case round =>
    clear hL1 hb1
    obtain ⟨i, L, hi', rfl, hL, hbel⟩ := hrel
    by_cases hlt : i < n
    · have hsw := hbel.size
      have hgl := mkr_len n i
      have HST : Hid (∀ w7, Below wr.heap.size wr w7 → (∃ x, w7.cell? ⟨w.heap.size, i, none⟩ = some x) ∧ w7.frozen? ⟨w.heap.size, i, none⟩ = false) := fun w7 hg => by
        obtain ⟨dg, fg, lg⟩ := (hL.below hg).cell hgl hlt
        exact ⟨⟨_, dg⟩, fg⟩
      have HUP : Hid (∀ w7, w7.ownsRow wr.heap.size 34 1 (.slice (some ⟨wr.heap.size, 0, none⟩) n n) n (madeCells (Value.int .u64 0).cells (n * 1)).toList → Below wr.heap.size wr w7 → LsV (w7.setCell ⟨w.heap.size, i, none⟩ (.slice (some ⟨wr.heap.size, 0, none⟩) n n)) w.heap.size (.slice (some ⟨w.heap.size, 0, none⟩) n n) (L.set i (.slice (some ⟨wr.heap.size, 0, none⟩) n n)) (mkr n (i + 1)) ∧ Below w.heap.size w (w7.setCell ⟨w.heap.size, i, none⟩ (.slice (some ⟨wr.heap.size, 0, none⟩) n n))) := fun w7 ho hb => by
        have hB := Blk.made ho
        have ho2 := hB.mine (B := w.heap.size) (by simp) hsw (show n ≤ 1000 by omega)
        have hu := hL.upd (q := i) (row := List.replicate n 0) (u' := .slice (some ⟨wr.heap.size, 0, none⟩) n n) hgl hlt (by rw [List.length_replicate]; exact ho2) (grown_below hb _) (.inr ⟨_, rfl, Nat.le_refl _⟩)
        rw [mkr_set] at hu
        exact ⟨hu, (hbel.trans (hb.mono hsw)).setCell (p := ⟨w.heap.size, i, none⟩) (Nat.le_refl _) _⟩
      clear hL hbel
      go_wp2_with (at_make; refine wpList_make_full _ rfl _ _ 22 rfl wr.heap.size 34 j0 (.int .u64 0) 1 Tryd.underlying22 hj hy0 hy1 .i64 .i64 _ _ n rfl rfl (by omega) (by omega) (by rw [hy2]; omega) (by unfold maxLen; omega) (Nat.le_refl _) ?_; intro w2 hown hgrow; have hb2 : Below wr.heap.size wr w2 := ((Below.refl _ _).grown hgrow (Nat.le_refl _) (by simp)); obtain ⟨⟨xx, dd⟩, ff⟩ := HST.out w2 hb2; have hl7 := World.block_lt_of_cell? w2 _ dd; have HE : Hid (_ ∧ _) := HUP.out w2 hown hb2; clear hown hgrow hb2)
      clear HST HUP
      go_roundw
      case rel => exact ⟨i + 1, _, by omega, by go_num, HE.out.1, HE.out.2⟩
      case measure => simp [intOf]; omega
    · have hin : i = n := by omega
      subst hin
      obtain ⟨wo, hwo⟩ : ∃ wo, wo = wr := ⟨_, rfl⟩
      subst hwo
      rw [mkr_full t ps ds] at hL
      go_wp2
      go_loopw [33] (fun q wr => ∃ (s : Nat) (L : List Value), s ≤ i ∧ q = .int .i64 s ∧ LsV wr w.heap.size (.slice (some ⟨w.heap.size, 0, none⟩) i i) L (gdi t ps ds i s) ∧ Below w.heap.size w wr) (fun q _ => i - (intOf q).toNat)
      case atStart => exact ⟨0, L, Nat.zero_le _, rfl, hL, hbel⟩
      case round =>
        clear hL hbel
        obtain ⟨s, L, hs, rfl, hL, hbel⟩ := hrel
        obtain ⟨w2, hw2⟩ : ∃ w2, w2 = wr := ⟨_, rfl⟩
        subst hw2
        by_cases hlt2 : s < i
        · have hsw := hbel.size
          obtain ⟨P, HP⟩ : ∃ P, Hid (s * t = P) := ⟨_, rfl⟩
          have hP : (s : Int) * (t : Int) = (P : Int) := by rw [← HP.out]; push_cast; rfl
          have hP2 : ((s : Int) + 1) * (t : Int) = (P : Int) + (t : Int) := by rw [Int.add_mul, Int.one_mul, hP]
          have hPm : P + t ≤ m := by
            have h1 : (s + 1) * t ≤ i * t := Nat.mul_le_mul_right t hlt2
            rw [Nat.add_mul, Nat.one_mul, HP.out, ← HM.out] at h1
            exact h1
          have hm36 : m ≤ 36 := by rw [HM.out]; exact Nat.le_trans (Nat.mul_le_mul hn9 ht) (by omega)
          have hkc := k.cap
          obtain ⟨b1, o1, x, rfl, hb1, HX, hx0, hx1, hcx⟩ := (h.below hbel).one hlt2
          have hrk := ((k.below hbel).sub (lo := P) (k := t) hPm)
          obtain ⟨X, HX2⟩ : ∃ X, Hid (subA e0 f P = X) := ⟨_, rfl⟩
          rw [HX2.out] at hrk
          have hsl : ∀ W, (Instr.sliceAt 22 (.slice e0 m f) (some (.int .i64 (P : Int))) (some (.int .i64 ((P : Int) + (t : Int)))) none).run Tryd.prog W = .ok (.slice X t (f - P)) W := fun W => by rw [← HX2.out]; exact run_sub Tryd.underlying22 infoSg e0 m f P t rfl rfl (by omega) W
          have HPC : Hid (x :: (ds.drop P).take t = pdC t ps ds s) := by unfold Hid pdC; rw [HX.out, HP.out]
          have HLT : Hid (∀ p, p < i → ∀ gg, (L.getD p (.slice none 0 0)).ownBlock = some gg → gg < w2.heap.size) := fun p hp gg hgg => ((hL.row p (by rw [gdi_len]; exact hp)).lt gg hgg).2
          go_wp2_with fail
          refine (cDealOK _ _ _ _ _ _ _ hrk (by omega) (by omega) ht (by omega) hn9).mono ?_
          rintro e w3 ⟨g3, rfl, hr3, hg3, hb3⟩
          rw [HPC.out] at hr3
          have hL3 := hL.below hb3
          have hbw3 := hbel.trans (hb3.mono hsw)
          rw [← gdj_zero] at hL3
          clear hrk hsl HPC hL hbel hb3 hP hP2 HX2 hcx
          go_wp2
          go_loopw [55] (fun q wr => ∃ (j : Nat), j ≤ i ∧ q = .int .i64 j ∧ LsV wr w.heap.size (.slice (some ⟨w.heap.size, 0, none⟩) i i) L (gdj t ps ds i s j) ∧ Rd wr (some ⟨g3, 0, none⟩) i i (dl (pdC t ps ds s) i) ∧ Below w.heap.size w wr) (fun q _ => i - (intOf q).toNat)
          case atStart => exact ⟨0, Nat.zero_le _, rfl, hL3, hr3, hbw3⟩
          case round =>
            clear hL3 hr3 hbw3
            obtain ⟨j, hj', rfl, hL, hr, hbel⟩ := hrel
            by_cases hji : j < i
            · have hgl := gdj_len t ps ds i s j
              obtain ⟨dg, fg, lg⟩ := hL.cell hgl hji
              have hrow := hL.row j (by rw [hgl]; exact hji)
              rw [gdj_getD t ps ds hji, gdr_len] at hrow
              obtain ⟨z, HZ⟩ : ∃ z, Hid (dlf (pdC t ps ds s) j = z) := ⟨_, rfl⟩
              obtain ⟨b3, o3, z', e3, hb3', HZ', hz0', hz1', hcz⟩ := hr.one hji
              simp only [Option.some.injEq, Addr.mk.injEq, and_true] at e3
              obtain ⟨rfl, rfl⟩ := e3
              rw [Nat.zero_add] at hcz
              obtain rfl : z = z' := by rw [← HZ.out, ← HZ'.out, dl_getD _ hji]
              obtain ⟨ua, uc, hu, huc⟩ := own_slice hrow
              rw [hu] at hrow dg
              obtain ⟨gu, yy, rfl, hgu0, hgu1, _, hcu⟩ := own_at hrow hlt2
              have hfu := own_frozen hrow s
              have hne : gu < w2.heap.size := HLT.out j hji gu (by rw [hu]; rfl)
              have HL' : Hid (LsV (wr.setCell ⟨gu, s, none⟩ (.int .u64 z)) w.heap.size (.slice (some ⟨w.heap.size, 0, none⟩) i i) L (gdj t ps ds i s (j + 1))) := by
                have h1 := hL.put (i := s) (z := z) (by rw [hgl]; exact hji) hu (by rw [gdj_getD t ps ds hji, gdr_len])
                rw [gdj_getD t ps ds hji, ← HZ.out, gdj_set] at h1
                rw [← HZ.out]
                exact h1
              have HR' : Hid (Rd (wr.setCell ⟨gu, s, none⟩ (.int .u64 z)) (some ⟨g3, 0, none⟩) i i (dl (pdC t ps ds s) i)) := hr.grown (grown_set _ _ _ _) (fun x hx => by
                obtain rfl := Option.some.inj hx
                simp only [ne_eq, Option.some.injEq]
                omega)
              have HB' : Hid (Below w.heap.size w (wr.setCell ⟨gu, s, none⟩ (.int .u64 z))) := hbel.setCell hgu0 _
              clear hL hr hbel hrow hu
              go_wp2
              go_roundw
              case rel => exact ⟨j + 1, by omega, by go_num, HL'.out, HR'.out, HB'.out⟩
              case measure => simp [intOf]; omega
            · have hji2 : j = i := by omega
              subst hji2
              rw [gdj_full] at hL
              go_wp2
              go_roundw
              case rel => exact ⟨s + 1, L, by omega, by go_num, hL, hbel⟩
              case measure => simp [intOf]; omega
        · have hsi : s = i := by omega
          subst hsi
          go_wp2
          go_ret
          exact ⟨_, L, rfl, hL, hbel⟩
end Go.Proofs.YtgmelcdgnjcojagDoor

namespace Go.Proofs.YtgmelcdgnjcojagDoor
open Go.RowKit Crm

/-- Row g holds the marks M. -/
def BlkB (w : World) (g : Nat) (M : List Bool) : Prop := w.heap[g]? = some (.cells (M.map Value.bool).toArray 151 (0, 0))
theorem BlkB.lt {w : World} {g : Nat} {M : List Bool} (h : BlkB w g M) : g < w.heap.size := (Array.getElem?_eq_some_iff.1 h).1
theorem BlkB.cell {w : World} {g : Nat} {M : List Bool} (h : BlkB w g M) {i : Nat} (hi : i < M.length) : w.cell? ⟨g, i, none⟩ = some (.bool (M.getD i false)) := by
  rw [cell_of_row w g i _ _ (0, 0) h]
  simp [List.getElem?_eq_getElem hi]
theorem BlkB.frozen {w : World} {g : Nat} {M : List Bool} (h : BlkB w g M) (i : Nat) : w.frozen? ⟨g, i, none⟩ = false := frozen_of_row w g i _ _ h
theorem BlkB.set {w : World} {g : Nat} {M : List Bool} (h : BlkB w g M) (i : Nat) (v : Bool) : BlkB (w.setCell ⟨g, i, none⟩ (.bool v)) g (M.set i v) := by
  have := heap_setCell_same w g i _ _ (.bool v) h
  unfold BlkB
  rw [this]
  simp [List.map_set]
theorem BlkB.below {w w' : World} {B g : Nat} {M : List Bool} (h : BlkB w g M) (hb : Below B w w') (hg : g < B) : BlkB w' g M := by
  unfold BlkB; rw [hb.block g hg]; exact h

set_option maxRecDepth 100000 in
theorem cJoinO (g : Nat) (x : Int) (w : World) (h : x < 1 ∨ 9 < x) :
    Calls Tryd.prog 96 #[.pointer (some ⟨g, 0, none⟩), .int .i64 x] w fun e w' => e = .returned (.bool false) ∧ w' = w := by
  by_cases h1 : x < 1
  · clear h
    go_enter Tryd.func96, Tryd.ntmps96
    go_wp2
    go_ret
    exact ⟨rfl, rfl⟩
  · have h2 : 9 < x := by omega
    clear h
    go_enter Tryd.func96, Tryd.ntmps96
    go_wp2
    go_ret
    exact ⟨rfl, rfl⟩
set_option maxRecDepth 100000 in
theorem cJoinN (g k : Nat) (M : List Bool) (w : World) (h : BlkB w g M) (hM : M.length = 10) (h1 : 1 ≤ k) (h9 : k ≤ 9) (hk : M.getD k false = true) :
    Calls Tryd.prog 96 #[.pointer (some ⟨g, 0, none⟩), .int .i64 k] w fun e w' => e = .returned (.bool false) ∧ w' = w := by
  have hc := h.cell (i := k) (by omega)
  rw [hk] at hc
  have hlt := h.lt
  go_enter Tryd.func96, Tryd.ntmps96
  go_wp2
  go_ret
  exact ⟨rfl, rfl⟩
set_option maxRecDepth 100000 in
theorem cJoinY (g k : Nat) (M : List Bool) (w : World) (h : BlkB w g M) (hM : M.length = 10) (h1 : 1 ≤ k) (h9 : k ≤ 9) (hk : M.getD k false = false) :
    Calls Tryd.prog 96 #[.pointer (some ⟨g, 0, none⟩), .int .i64 k] w fun e w' => e = .returned (.bool true) ∧ w' = w.setCell ⟨g, k, none⟩ (.bool true) := by
  have hc := h.cell (i := k) (by omega)
  rw [hk] at hc
  have hlt := h.lt
  have hfz := h.frozen k
  go_enter Tryd.func96, Tryd.ntmps96
  go_wp2
  go_ret
  exact ⟨rfl, rfl⟩
end Go.Proofs.YtgmelcdgnjcojagDoor

namespace Go.Proofs.YtgmelcdgnjcojagDoor
open Go.RowKit Crm

/-- M marks who has come. -/
structure Mk (f : Nat → Int) (k : Nat) (M : List Bool) : Prop where
  len : M.length = 10
  mark : ∀ p : Nat, 1 ≤ p → p ≤ 9 → (M.getD p false = true ↔ ∃ j, j < k ∧ f j = (p : Int))
  dis : dis f k
theorem mk_start (f : Nat → Int) : Mk f 0 (List.replicate 10 false) := by
  refine ⟨rfl, fun p _ h9 => ?_, dis_zero f⟩
  have : (List.replicate 10 false).getD p false = false := by
    rw [List.getD_eq_getElem?_getD, List.getElem?_replicate]; split <;> rfl
  rw [this]
  constructor
  · intro h; cases h
  · rintro ⟨j, hj, _⟩; omega
theorem mk_step {f : Nat → Int} {k : Nat} {M : List Bool} {p : Nat} (h : Mk f k M) (hp : f k = (p : Int)) (h1 : 1 ≤ p) (h9 : p ≤ 9) (hm : M.getD p false = false) : Mk f (k + 1) (M.set p true) := by
  have hno : ∀ j, j < k → f j ≠ (p : Int) := fun j hj e => by
    have := (h.mark p h1 h9).2 ⟨j, hj, e⟩
    rw [hm] at this; cases this
  refine ⟨by rw [List.length_set]; exact h.len, fun q q1 q9 => ?_, dis_succ h.dis hp (by omega) (by omega) hno⟩
  have hl := h.len
  by_cases e : q = p
  · subst e
    have : (M.set q true).getD q false = true := by simp [show q < M.length by omega]
    rw [this]
    exact ⟨fun _ => ⟨k, by omega, hp⟩, fun _ => rfl⟩
  · have : (M.set p true).getD q false = M.getD q false := by
      simp [show ¬ p = q from fun e' => e e'.symm]
    rw [this, h.mark q q1 q9]
    constructor
    · rintro ⟨j, hj, e⟩; exact ⟨j, by omega, e⟩
    · rintro ⟨j, hj, e'⟩
      by_cases ej : j = k
      · subst ej; rw [hp] at e'; omega
      · exact ⟨j, by omega, e'⟩
theorem mk_twice {f : Nat → Int} {k n : Nat} {M : List Bool} {p : Nat} (h : Mk f k M) (hk : k < n) (hp : f k = (p : Int)) (h1 : 1 ≤ p) (h9 : p ≤ 9) (hm : M.getD p false = true) : ¬ Go.Proofs.YtgmelcdgnjcojagDoor.dis f n := fun hd => by
  obtain ⟨j, hj, e⟩ := (h.mark p h1 h9).1 hm
  exact (hd k hk).2 j hj (by rw [e, hp])
theorem mk_out {f : Nat → Int} {k n : Nat} {x : Int} (hk : k < n) (hx : f k = x) (h : x < 1 ∨ 9 < x) : ¬ Go.Proofs.YtgmelcdgnjcojagDoor.dis f n := fun hd => by
  have := (hd k hk).1
  omega

set_option maxRecDepth 100000 in
theorem cCheckA (a : Option Addr) (n c : Nat) (t : Int) (w : World) (h : t < 0 ∨ 4 < t) :
    Calls Tryd.prog 71 #[.int .i64 t, .slice a n c] w fun e w' => e = .returned (.int .i64 1) ∧ w' = w := by
  by_cases h1 : t < 0
  · clear h
    go_enter Tryd.func71, Tryd.ntmps71
    go_wp2
    go_ret
    exact ⟨rfl, rfl⟩
  · have h2 : 4 < t := by omega
    clear h
    go_enter Tryd.func71, Tryd.ntmps71
    go_wp2
    go_ret
    exact ⟨rfl, rfl⟩

set_option maxRecDepth 100000 in
set_option maxHeartbeats 1000000 in
theorem cCheckB (a : Option Addr) (n c : Nat) (l : List (Int × Int)) (t : Int) (w : World) (h : RdS w a n c l) (ht0 : 0 ≤ t) (ht4 : t ≤ 4) :
    Calls Tryd.prog 71 #[.int .i64 t, .slice a n c] w fun e w' => ∃ r, e = .returned (.int .i64 r) ∧ She l n t r ∧ Below w.heap.size w w' := by
  have hcap := h.cap
  have hmax := h.max
  unfold maxLen at hmax
  go_enter Tryd.func71, Tryd.ntmps71
  go_wp2
  go_loopw [16] (fun i wr => ∃ (k : Nat) (M : List Bool), k ≤ n ∧ i = .int .i64 k ∧ Hid (Mk (fa l) k M) ∧ BlkB wr w.heap.size M ∧ Below w.heap.size w wr) (fun i _ => n - (intOf i).toNat)
  case atStart => exact ⟨0, _, Nat.zero_le _, rfl, mk_start _, heap_alloc_new w _, (Below.refl _ _).alloc (Nat.le_refl _) _⟩
  case round =>
    obtain ⟨k, M, hk, rfl, HM, hB, hbel⟩ := hrel
    have hs1 := hbel.size
    have hlM := HM.out.len
    by_cases hlt : k < n
    · obtain ⟨b, o, x, y, rfl, hbb, HX, HY, hx0, hx1, hy0, hy1, hcx, hcy⟩ := (h.below hbel).one hlt
      have hcA0 := cell_alloc0 wr (.int .i64 x) (.int .u64 y) 68
      have hB2 : BlkB (wr.alloc (.cells #[.int .i64 x, .int .u64 y] 68)) w.heap.size M := hB.below ((Below.refl _ _).alloc (Nat.le_refl _) _) hB.lt
      have hbel2 := hbel.alloc hs1 (.cells #[.int .i64 x, .int .u64 y] 68)
      go_wp2_with fail
      generalize wr.alloc (.cells #[.int .i64 x, .int .u64 y] 68) = W at *
      clear hcx hcy hB hbel
      by_cases hx : x < 1 ∨ 9 < x
      · have HN : Hid (She l n t 5) := Or.inr (Or.inl ⟨⟨ht0, ht4⟩, mk_out hlt HX.out hx, rfl⟩)
        refine (cJoinO _ _ _ hx).mono ?_
        rintro e w' ⟨rfl, hw⟩
        have hw := hw.symm
        subst hw
        clear hx
        go_wp2
        go_ret
        exact ⟨5, rfl, HN.out, hbel2⟩
      · obtain ⟨p, rfl⟩ : ∃ p : Nat, x = p := ⟨x.toNat, by omega⟩
        cases hm : M.getD p false with
        | true =>
          have HN : Hid (She l n t 5) := Or.inr (Or.inl ⟨⟨ht0, ht4⟩, mk_twice HM.out hlt HX.out (by omega) (by omega) hm, rfl⟩)
          refine (cJoinN _ _ _ _ hB2 hlM (by omega) (by omega) hm).mono ?_
          rintro e w' ⟨rfl, hw⟩
          have hw := hw.symm
          subst hw
          clear hm
          go_wp2
          go_ret
          exact ⟨5, rfl, HN.out, hbel2⟩
        | false =>
          have HM2 : Hid (Mk (fa l) (k + 1) (M.set p true)) := mk_step HM.out HX.out (by omega) (by omega) hm
          refine (cJoinY _ _ _ _ hB2 hlM (by omega) (by omega) hm).mono ?_
          rintro e w' ⟨rfl, rfl⟩
          have hB3 := hB2.set p true
          have hbel3 := below_grown hbel2 (grown_set W w.heap.size p (.bool true)) (Nat.le_refl _)
          generalize W.setCell ⟨w.heap.size, p, none⟩ (.bool true) = W3 at *
          clear hm
          go_wp2
          go_roundw
          case rel => exact ⟨k + 1, _, by omega, by go_num, HM2, hB3, hbel3⟩
          case measure => simp [intOf]; omega
    · have hkn : k = n := by omega
      subst hkn
      by_cases hkt : (k : Int) ≤ t
      · have HN : Hid (She l k t 4) := Or.inr (Or.inr (Or.inl ⟨⟨ht0, ht4⟩, HM.out.dis, hkt, rfl⟩))
        go_wp2
        go_ret
        exact ⟨4, rfl, HN.out, hbel⟩
      · have HN : Hid (She l k t 0) := Or.inr (Or.inr (Or.inr ⟨⟨ht0, ht4⟩, HM.out.dis, by omega, rfl⟩))
        go_wp2
        go_ret
        exact ⟨0, rfl, HN.out, hbel⟩

theorem cCheckS (a : Option Addr) (n c : Nat) (l : List (Int × Int)) (t : Int) (w : World) (h : RdS w a n c l) :
    Calls Tryd.prog 71 #[.int .i64 t, .slice a n c] w fun e w' => ∃ r, e = .returned (.int .i64 r) ∧ She l n t r ∧ Below w.heap.size w w' := by
  by_cases ht : t < 0 ∨ 4 < t
  · refine (cCheckA _ _ _ _ _ ht).mono ?_
    rintro e w' ⟨rfl, rfl⟩
    exact ⟨1, rfl, Or.inl ⟨ht, rfl⟩, Below.refl _ _⟩
  · exact cCheckB _ _ _ _ _ _ h (by omega) (by omega)
end Go.Proofs.YtgmelcdgnjcojagDoor
