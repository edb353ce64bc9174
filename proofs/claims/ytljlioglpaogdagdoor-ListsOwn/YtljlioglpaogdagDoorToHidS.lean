/- hide.zeros. · hide.Shift. -/
import Derived.Test.YtljlioglpaogdagDoorToHidQ
import Derived.Test.YtljlioglpaogdagDoorToShortC
import Derived.Deep.RegionWith
import Derived.Deep.Cut
import Derived.Laws.Rows
import Derived.Laws.Tables
import Derived.Laws.CopyOwn
import Derived.Test.YtljlioglpaogdagDoorToOpenC
import Derived.Test.YtljlioglpaogdagDoorToTimesC
import Derived.Test.YtljlioglpaogdagDoorToLsV2
namespace Go.Proofs.YtljlioglpaogdagDoor
set_option linter.unusedVariables false
set_option maxRecDepth 100000
set_option maxHeartbeats 8000000
section
open Crm Go.RowKit
/-- Block g holds the five numbers C. -/
def BlkP (w : World) (g : Nat) (C : List Int) : Prop := w.heap[g]? = some (.cells (C.map (Value.int .u64)).toArray 103 (0, 0))
theorem BlkP.lt {w : World} {g : Nat} {C : List Int} (h : BlkP w g C) : g < w.heap.size := (Array.getElem?_eq_some_iff.1 h).1
theorem BlkP.cell {w : World} {g : Nat} {C : List Int} (h : BlkP w g C) {i : Nat} (hi : i < C.length) : w.cell? ⟨g, i, none⟩ = some (.int .u64 (C.getD i 0)) := by
  rw [cell_of_row w g i _ _ (0, 0) h]
  simp [List.getElem?_eq_getElem hi]
theorem BlkP.frozen {w : World} {g : Nat} {C : List Int} (h : BlkP w g C) (i : Nat) : w.frozen? ⟨g, i, none⟩ = false := frozen_of_row w g i _ _ h
theorem BlkP.set {w : World} {g : Nat} {C : List Int} (h : BlkP w g C) (i : Nat) (v : Int) : BlkP (w.setCell ⟨g, i, none⟩ (.int .u64 v)) g (C.set i v) := by
  have := heap_setCell_same w g i _ _ (.int .u64 v) h
  unfold BlkP
  rw [this]
  simp [List.map_set]
theorem BlkP.below {w w' : World} {B g : Nat} {C : List Int} (h : BlkP w g C) (hb : Below B w w') (hg : g < B) : BlkP w' g C := by
  unfold BlkP; rw [hb.block g hg]; exact h
theorem BlkP.other {w : World} {g g' i : Nat} {C : List Int} {v : Value} (h : BlkP w g C) (hg : g' ≠ g) : BlkP (w.setCell ⟨g', i, none⟩ v) g C := by
  unfold BlkP; rw [heap_setCell_other w ⟨g', i, none⟩ g v (fun e => hg e.symm)]; exact h
theorem infoPw : (Tryd.prog.info? 103).map (·.size) = some 5 := by kernel_rfl
theorem pw_one (C : List Int) : (C.map (Value.int .u64)).toArray.all (·.oneCell') = true := by
  rw [Array.all_eq_true_iff_forall_mem]
  intro v hv
  obtain ⟨x, _, rfl⟩ := List.mem_map.1 (show v ∈ C.map (Value.int .u64) by simpa using hv)
  rfl
def pw0 : List Int := [0, 0, 0, 0, 0]
def pw1 : List Int := [1, 0, 0, 0, 0]
theorem pw_new (w : World) {A : World} (hA : A = ((w.alloc (.cells #[.int .u64 0, .int .u64 0, .int .u64 0, .int .u64 0, .int .u64 0] 103)).alloc (.cells #[.int .u64 1, .int .u64 0, .int .u64 0, .int .u64 0, .int .u64 0] 103))) : BlkP A w.heap.size pw0 ∧ BlkP A (w.heap.size + 1) pw1 ∧ Below w.heap.size w A := by
  subst hA
  have h1 : BlkP (w.alloc (.cells #[.int .u64 0, .int .u64 0, .int .u64 0, .int .u64 0, .int .u64 0] 103)) w.heap.size pw0 := heap_alloc_new w _
  have h2 : BlkP ((w.alloc (.cells #[.int .u64 0, .int .u64 0, .int .u64 0, .int .u64 0, .int .u64 0] 103)).alloc (.cells #[.int .u64 1, .int .u64 0, .int .u64 0, .int .u64 0, .int .u64 0] 103)) (w.alloc (.cells #[.int .u64 0, .int .u64 0, .int .u64 0, .int .u64 0, .int .u64 0] 103)).heap.size pw1 := heap_alloc_new _ _
  have e : (w.alloc (.cells #[.int .u64 0, .int .u64 0, .int .u64 0, .int .u64 0, .int .u64 0] 103)).heap.size = w.heap.size + 1 := by simp
  rw [e] at h2
  exact ⟨h1.below ((Below.refl _ _).alloc (Nat.le_refl _) _) h1.lt, h2, ((Below.refl _ _).alloc (Nat.le_refl _) _).alloc (by simp) _⟩
theorem BlkP.row {w : World} {g : Nat} {C D : List Int} (h : BlkP w g C) : BlkP (w.setRow g (D.map (Value.int .u64)).toArray) g D := setRow_heap _ _ _ _ _ _ h
theorem hZeros (a : Option Addr) (k c : Nat) (who : List Int) (w : World) (h : RdI w a k c who) (hd : dis (fi who) k) :
    Calls Tryd.prog 58 #[.slice a k c] w fun e w' => e = .returned (.agg ((zr who k).map (Value.int .u64)).toArray) ∧ Below w.heap.size w w' := by
  have hcap := h.cap
  have hmax := h.max
  unfold maxLen at hmax
  have HD : Hid (dis (fi who) k) := hd
  clear hd
  go_enter Tryd.func58, Tryd.ntmps58
  go_upto_region 2 with fail
  generalize hW : ((w.alloc (.cells #[.int .u64 0, .int .u64 0, .int .u64 0, .int .u64 0, .int .u64 0] 103)).alloc (.cells #[.int .u64 1, .int .u64 0, .int .u64 0, .int .u64 0, .int .u64 0] 103)) = w0
  obtain ⟨hq0, hq1, hbq⟩ := pw_new w hW.symm
  clear hW
  go_wp2
  go_loopw [12] (fun v wr => ∃ j : Nat, j ≤ k ∧ v = .int .i64 j ∧ BlkP wr w.heap.size pw0 ∧ BlkP wr (w.heap.size + 1) (zr who j) ∧ Below w.heap.size w wr) (fun v _ => k - (intOf v).toNat)
  case atStart => exact ⟨0, Nat.zero_le _, rfl, hq0, hq1, hbq⟩
  case round =>
    clear hq0 hq1 hbq
    obtain ⟨j, hj, rfl, hq0, hq1, hbel⟩ := hrel
    by_cases hlt : j < k
    · obtain ⟨b, o, x, rfl, hbb, HX, hx0, hx1, hcx⟩ := (h.below hbel).one hlt
      have hd := (HD.out j hlt).1
      have hdx : fi who j = x := HX.out
      rw [hdx] at hd
      obtain ⟨hd1, hd9⟩ := hd
      clear hdx
      have HNZ : Hid (nm x ≠ 0) := by unfold Hid; rw [nm_small (by omega) (by omega)]; omega
      have hib := iv_bd x
      obtain ⟨y, HY⟩ : ∃ y, Hid (iv x = y) := ⟨_, rfl⟩
      rw [HY.out] at hib
      have HYw : Hid (iv (who.getD j 0) = y) := by unfold Hid; rw [HX.out]; exact HY.out
      have hwx : IntKind.u64.wrap x = x := by rw [IntKind.wrap_u64]; omega
      rw [← zm_start] at hq1
      obtain ⟨wo, hwo⟩ : ∃ q, q = wr := ⟨_, rfl⟩
      subst hwo
      go_wp2_with (go_at_call 87; refine (fInv1 x _ (by omega) (by omega) HNZ.out).mono ?_; rintro e w3 ⟨rfl, hw⟩; have hw := hw.symm; subst hw; rw [HY.out])
      go_loopw [8] (fun v wr => ∃ i : Nat, i ≤ 4 ∧ v = .int .i64 i ∧ BlkP wr w.heap.size pw0 ∧ BlkP wr (w.heap.size + 1) (zm who j i) ∧ Below w.heap.size w wr) (fun v _ => (intOf v).toNat)
      case atStart => exact ⟨4, Nat.le_refl _, rfl, hq0, hq1, hbel⟩
      case round =>
        clear hq0 hq1 hbel
        obtain ⟨i, hi, rfl, hq0, hq1, hbel⟩ := hrel
        by_cases hi0 : 0 < i
        · obtain ⟨i, rfl⟩ : ∃ q, i = q + 1 := ⟨i - 1, by omega⟩
          have hl := zm_len who j (i + 1)
          have hlt1 := hq1.lt
          have c1 := hq1.cell (i := i + 1) (by omega)
          have c0 := hq1.cell (i := i) (by omega)
          have f1 := hq1.frozen (i + 1)
          have HS := hq1.set (i + 1) (nm ((zm who j (i + 1)).getD (i + 1) 0 - nm ((zm who j (i + 1)).getD i 0 * iv (who.getD j 0))))
          rw [zm_step who j (by omega), HYw.out] at HS
          have hb1 := getD_bd' (zm_bd who j (i + 1)) (i + 1)
          have hb0 := getD_bd' (zm_bd who j (i + 1)) i
          obtain ⟨u, HU⟩ : ∃ u, Hid ((zm who j (i + 1)).getD (i + 1) 0 = u) := ⟨_, rfl⟩
          obtain ⟨v, HV⟩ : ∃ v, Hid ((zm who j (i + 1)).getD i 0 = v) := ⟨_, rfl⟩
          rw [HU.out] at c1 HS hb1
          rw [HV.out] at c0 HS hb0
          have hm := nm_bd (v * y)
          have HS1 : Hid (BlkP _ _ _) := HS
          have HS0 : Hid (BlkP _ _ _) := hq0.other (g' := w.heap.size + 1) (i := i + 1) (v := .int .u64 (nm (u - nm (v * y)))) (by omega)
          have HBl : Hid (Below _ _ _) := hbel.setCell (p := ⟨w.heap.size + 1, i + 1, none⟩) (by simp) (.int .u64 (nm (u - nm (v * y))))
          clear HS hq0 hq1 hbel
          obtain ⟨m, HMm⟩ : ∃ m, Hid (i + 1 = m) := ⟨_, rfl⟩
          have hmi : (m : Int) - 1 = (i : Int) := by have := HMm.out; omega
          have hm4 : m ≤ 4 := by have := HMm.out; omega
          rw [HMm.out] at c1 f1 HS0 HS1 HBl hi hi0 ⊢
          have hw1 : IntKind.i64.wrap (i : Int) = (i : Int) := by rw [IntKind.wrap_i64]; omega
          have hw2 : IntKind.i64.wrap ((m : Int) - 1) = (i : Int) := by rw [hmi]; exact hw1
          have hi4 : (i : Int) < 5 := by omega
          have hi5 : (m : Int) < 5 := by omega
          go_wp2
          go_region_with (first | (go_at_call 49; refine (fMul _ _ _ (by omega) (by omega) (by omega) (by omega)).mono ?_; rintro e w' ⟨rfl, rfl⟩) | (go_at_call 59; refine (fSub _ _ _ (by omega) (by omega) (by omega) (by omega)).mono ?_; rintro e w' ⟨rfl, rfl⟩))
          all_goals
            go_wp2
            go_roundw
            case rel => exact ⟨i, by omega, by go_num, HS0.out, HS1.out, HBl.out.drew⟩
            case measure => have := HMm.out; simp [intOf]; omega
        · obtain rfl : i = 0 := by omega
          rw [zm_end] at hq1
          go_wp2
          go_roundw
          case rel => exact ⟨j + 1, by omega, by go_num, hq0, hq1, hbel⟩
          case measure => simp [intOf]; omega
    · obtain rfl : j = k := by omega
      have hl := zr_len who j
      have Hin : Hid ((Tryd.prog.info? 103).map (·.size) = some ((zr who j).map (Value.int .u64)).toArray.size) := by unfold Hid; simp only [List.size_toArray, List.length_map, hl]; exact infoPw
      have Hne : Hid ((pw0.map (Value.int .u64)).toArray.size = ((zr who j).map (Value.int .u64)).toArray.size) := by unfold Hid; simp [hl, pw0]
      have Hon : Hid (((zr who j).map (Value.int .u64)).toArray.all (·.oneCell') = true) := pw_one _
      have hbZ := below_setRow hbel (Nat.le_refl _) ((zr who j).map (Value.int .u64)).toArray
      have HZ : Hid (_ = _) := setRow_heap _ w.heap.size _ ((zr who j).map (Value.int .u64)).toArray _ (0, 0) hq0
      clear hl
      go_wp2_with (first | (refine wpList_load_row rfl 103 _ rfl (w.heap.size + 1) rfl 103 ((zr who j).map (Value.int .u64)).toArray (0, 0) _ hq1 Tryd.underlying103 rfl Hin.out ?_) | (refine wpList_store_row rfl 103 _ _ rfl w.heap.size ((zr who j).map (Value.int .u64)).toArray rfl rfl 103 (pw0.map (Value.int .u64)).toArray hq0 Hin.out Hne.out Hon.out ?_))
      exact bodyPost_ret (v := .agg ((zr who j).map (Value.int .u64)).toArray) (results_cell_row Tryd.results58 _ _ w.heap.size 103 _ (0, 0) _ rfl HZ.out Tryd.underlying103 rfl Hin.out) rfl ⟨rfl, hbZ⟩
/-- The five numbers are laid. -/
theorem pw_lay (w : World) (C : List Int) : BlkP ((w.alloc (.cells #[.int .u64 0, .int .u64 0, .int .u64 0, .int .u64 0, .int .u64 0] 103)).setRow w.heap.size (C.map (Value.int .u64)).toArray) w.heap.size C ∧ Below w.heap.size w ((w.alloc (.cells #[.int .u64 0, .int .u64 0, .int .u64 0, .int .u64 0, .int .u64 0] 103)).setRow w.heap.size (C.map (Value.int .u64)).toArray) := by
  have h1 : BlkP (w.alloc (.cells #[.int .u64 0, .int .u64 0, .int .u64 0, .int .u64 0, .int .u64 0] 103)) w.heap.size pw0 := heap_alloc_new w _
  exact ⟨h1.row, below_setRow ((Below.refl _ _).alloc (Nat.le_refl _) _) (Nat.le_refl _) _⟩

theorem eShift (aw : Option Addr) (k cw : Nat) (who : List Int) (a b : Int) (ad : Option Addr) (q cd : Nat) (ds : List Int) (w : World) (h : RdI w aw k cw who) (ha0 : 0 ≤ a) (ha1 : a ≤ 18446744073709551615) (hb0 : 0 ≤ b) (hb1 : b ≤ 18446744073709551615) (dh : Rd w ad q cd ds) :
    Calls Tryd.prog 18 #[.slice aw k cw, .int .u64 a, .int .u64 b, .slice ad q cd] w (Hsh who k a b ds q w) := by
  obtain ⟨i0, hi, hz0, hz1, hz2⟩ := info_parts info34
  have hkc := h.cap
  have hkm := h.max
  have hqc := dh.cap
  have hqm := dh.max
  unfold maxLen at hkm hqm
  go_enter Tryd.func18, Tryd.ntmps18
  go_wp2_with fail
  refine (hDifferent _ _ _ _ _ h).mono ?_
  rintro e w1 ⟨ok, rfl, hok, hbel1⟩
  cases ok with
  | false =>
    have HE : Hid (Hse who k q 5) := .inl ⟨fun e => (by have := hok.2 e; cases this), rfl⟩
    clear hok
    go_wp2
    go_ret2
    exact ⟨.inl ⟨5, by decide, HE.out, rfl⟩, hbel1⟩
  | true =>
    have HD : Hid (dis (fi who) k) := hok.1 rfl
    have hk9 : k ≤ 9 := dis_nine HD.out
    clear hok
    by_cases hq4 : 4 < q
    · have HE : Hid (Hse who k q 1) := .inr ⟨HD.out, .inl ⟨by omega, rfl⟩⟩
      go_wp2
      go_ret2
      exact ⟨.inl ⟨1, by decide, HE.out, rfl⟩, hbel1⟩
    · by_cases hqk : q < k
      · have HE : Hid (Hse who k q 1) := .inr ⟨HD.out, .inl ⟨by omega, rfl⟩⟩
        go_wp2
        go_ret2
        exact ⟨.inl ⟨1, by decide, HE.out, rfl⟩, hbel1⟩
      · have HE : Hid (Hse who k q 0) := .inr ⟨HD.out, .inr ⟨⟨by omega, by omega⟩, rfl⟩⟩
        obtain ⟨D, HDD⟩ : ∃ D, Hid (nm (b - a) = D) := ⟨_, rfl⟩
        have hDb := nm_bd (b - a)
        rw [HDD.out] at hDb
        obtain ⟨F, HF⟩ : ∃ F : Nat → Int, Hid ((fun i => nm (ds.getD i 0 + nm (b - a) * (bl who k).getD (i + 1) 0)) = F) := ⟨_, rfl⟩
        have HSF : Hid (shf who k a b ds q = (List.range q).map F) := by unfold Hid shf; rw [HF.out]
        have HFi : Hid (∀ i x B, ds.getD i 0 = x → (bl who k).getD (i + 1) 0 = B → nm (x + nm (D * B)) = F i) := fun i x B e1 e2 => by rw [← HF.out, nm_addr]; simp only; rw [e1, e2, HDD.out]
        go_wp2_with fail
        refine (hZeros _ _ _ _ _ (h.below hbel1) HD.out).mono ?_
        rintro e w2 ⟨rfl, hbel2⟩
        have hbw2 := hbel1.trans (hbel2.mono hbel1.size)
        have hl := zr_len who k
        have Hin : Hid ((Tryd.prog.info? 103).map (·.size) = some ((zr who k).map (Value.int .u64)).toArray.size) := by unfold Hid; simp only [List.size_toArray, List.length_map, hl]; exact infoPw
        have Hne : Hid ((pw0.map (Value.int .u64)).toArray.size = ((zr who k).map (Value.int .u64)).toArray.size) := by unfold Hid; simp [hl, pw0]
        have Hon : Hid (((zr who k).map (Value.int .u64)).toArray.all (·.oneCell') = true) := pw_one _
        clear hl
        go_upto_region 6 with (refine wpList_store_row rfl 103 _ _ rfl w2.heap.size ((zr who k).map (Value.int .u64)).toArray rfl rfl 103 (pw0.map (Value.int .u64)).toArray (heap_alloc_new w2 _) Hin.out Hne.out Hon.out ?_)
        obtain ⟨hz3, hb3⟩ := pw_lay w2 (zr who k)
        generalize World.setRow _ w2.heap.size ((zr who k).map (Value.int .u64)).toArray = w3 at *
        have hbw3 := hbw2.trans (hb3.mono hbw2.size)
        have dh3 := dh.below hbw3
        clear hb3 hbw2 hbel2 hbel1 Hin Hne Hon dh
        go_wp2_with (first | (go_at_call 59; refine (fSub b a _ hb0 hb1 ha0 ha1).mono ?_; rintro e w4 ⟨rfl, hw⟩; have hw := hw.symm; subst hw; rw [HDD.out]) | (at_make; refine wpList_make_full _ rfl _ _ 22 rfl w3.heap.size 34 i0 (.int .u64 0) 1 Tryd.underlying22 hi hz0 hz1 .i64 .i64 _ _ q rfl rfl rfl rfl (by rw [hz2]; omega) (by unfold maxLen; omega) (Nat.le_refl _) ?_; intro w5 hown hgrow))
        have hB5 : Blk w5 w3.heap.size (fil F q 0) := by rw [← fil_zero]; exact Blk.made hown
        have hb5 : Below w3.heap.size w3 w5 := (Below.refl _ _).grown hgrow (Nat.le_refl _) (by simp)
        clear hown hgrow
        go_loopw [38] (fun i wr => ∃ j : Nat, j ≤ q ∧ i = .int .i64 j ∧ Blk wr w3.heap.size (fil F q j) ∧ Below w3.heap.size w3 wr) (fun i _ => q - (intOf i).toNat)
        case atStart => exact ⟨0, Nat.zero_le _, rfl, hB5, hb5⟩
        case round =>
          clear hB5 hb5
          obtain ⟨j, hj, rfl, hblk, hbel⟩ := hrel
          by_cases hlt : j < q
          · obtain ⟨bb, o, x, rfl, hbb, HX, hx0, hx1, hcx⟩ := (dh3.below hbel).one hlt
            have hz := hz3.below hbel hz3.lt
            have hzl := hz.lt
            obtain ⟨J, HJ⟩ : ∃ J : Nat, Hid (j + 1 = J) := ⟨_, rfl⟩
            have hJI : (j : Int) + 1 = (J : Int) := by rw [← HJ.out]; omega
            have hJ5 : J < 5 := by rw [← HJ.out]; omega
            have hcz := hz.cell (i := J) (by rw [zr_len]; exact hJ5)
            rw [zr_getD _ _ hJ5, ← HJ.out] at hcz
            obtain ⟨B, HB⟩ : ∃ B, Hid ((bl who k).getD (j + 1) 0 = B) := ⟨_, rfl⟩
            have hBb := getD_bd' (bl_bd who k) (j + 1)
            rw [HB.out] at hBb hcz
            rw [HJ.out] at hcz
            have hMb := nm_bd (D * B)
            have HN : Hid (nm (x + nm (D * B)) = F j) := HFi.out j x B HX.out HB.out
            have hcell := hblk.cell (i := j) (by rw [fil_len]; exact hlt)
            have hfz := hblk.frozen j
            have hlt3 := hblk.lt
            have hblk4 := hblk.set j (F j)
            rw [fil_set rfl] at hblk4
            have Hb4 : Hid (Below w3.heap.size w3 (wr.setCell ⟨w3.heap.size, j, none⟩ (.int .u64 (F j)))) := hbel.setCell (Nat.le_refl _) _
            clear hz hblk hbel
            go_wp2_with (first | (go_at_call 49; refine (fMul D B _ (by omega) (by omega) (by omega) (by omega)).mono ?_; rintro e w4 ⟨rfl, hw⟩; have hw := hw.symm; subst hw) | (go_at_call 45; refine (fAdd x (nm (D * B)) _ hx0 hx1 (by omega) (by omega)).mono ?_; rintro e w4 ⟨rfl, hw⟩; have hw := hw.symm; subst hw; rw [HN.out]))
            go_roundw
            case rel => exact ⟨j + 1, by omega, by go_num, hblk4, Hb4.out⟩
            case measure => simp [intOf]; omega
          · obtain rfl : j = q := by omega
            rw [fil_full, ← HSF.out] at hblk
            have ho := own_baseV (hblk.own (n := j) (B := w3.heap.size) (shf_len _ _ _ _ _ _) (Nat.le_refl _) (by omega)) hbw3.size
            have hbw := hbw3.trans (hbel.mono hbw3.size)
            go_wp2
            go_ret2
            exact ⟨.inr ⟨HE.out, _, rfl, ho⟩, hbw⟩
end
end Go.Proofs.YtljlioglpaogdagDoor
