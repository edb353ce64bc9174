/- hide.zeros. · hide.Shift. · hide.Twine. · twine.fill. -/
import Derived.Test.YtljlioglpaogdagDoorToTwByM
import Derived.Test.YtljlioglpaogdagDoorToEnDef
import Derived.Test.YtljlioglpaogdagDoorToCheckC
import Derived.Deep.RegionWith
import Derived.Deep.Cut
import Derived.Laws.Rows
import Derived.Laws.Tables
import Derived.Laws.CopyOwn
import Derived.Test.YtljlioglpaogdagDoorToOpenC
import Derived.Test.YtljlioglpaogdagDoorToLsV2
namespace Go.Proofs.YtljlioglpaogdagDoor
set_option linter.unusedVariables false
set_option maxRecDepth 100000
set_option maxHeartbeats 8000000
section
open Crm Go.RowKit
/-- Block g holds the five numbers C. -/
def BlkP (w : World) (g : Nat) (C : List Int) : Prop := w.heap[g]? = some (.cells (C.map (Value.int .u64)).toArray 103 (0, 0))
theorem BlkP.lt {w : World} {g : Nat} {C : List Int} (h : BlkP w g C) : g < w.heap.size := (Array.getElem?_eq_some_iff.1 h).1
theorem BlkP.cell {w : World} {g : Nat} {C : List Int} (h : BlkP w g C) {i : Nat} (hi : i < C.length) : w.cell? ⟨g, i, none⟩ = some (.int .u64 (C.getD i 0)) := by
  rw [cell_of_row w g i _ _ (0, 0) h]
  simp [List.getElem?_eq_getElem hi]
theorem BlkP.frozen {w : World} {g : Nat} {C : List Int} (h : BlkP w g C) (i : Nat) : w.frozen? ⟨g, i, none⟩ = false := frozen_of_row w g i _ _ h
theorem BlkP.set {w : World} {g : Nat} {C : List Int} (h : BlkP w g C) (i : Nat) (v : Int) : BlkP (w.setCell ⟨g, i, none⟩ (.int .u64 v)) g (C.set i v) := by
  have := heap_setCell_same w g i _ _ (.int .u64 v) h
  unfold BlkP
  rw [this]
  simp [List.map_set]
theorem BlkP.below {w w' : World} {B g : Nat} {C : List Int} (h : BlkP w g C) (hb : Below B w w') (hg : g < B) : BlkP w' g C := by
  unfold BlkP; rw [hb.block g hg]; exact h
theorem BlkP.other {w : World} {g g' i : Nat} {C : List Int} {v : Value} (h : BlkP w g C) (hg : g' ≠ g) : BlkP (w.setCell ⟨g', i, none⟩ v) g C := by
  unfold BlkP; rw [heap_setCell_other w ⟨g', i, none⟩ g v (fun e => hg e.symm)]; exact h
theorem infoPw : (Tryd.prog.info? 103).map (·.size) = some 5 := by kernel_rfl
theorem pw_one (C : List Int) : (C.map (Value.int .u64)).toArray.all (·.oneCell') = true := by
  rw [Array.all_eq_true_iff_forall_mem]
  intro v hv
  obtain ⟨x, _, rfl⟩ := List.mem_map.1 (show v ∈ C.map (Value.int .u64) by simpa using hv)
  rfl
def pw0 : List Int := [0, 0, 0, 0, 0]
def pw1 : List Int := [1, 0, 0, 0, 0]
theorem pw_new (w : World) {A : World} (hA : A = ((w.alloc (.cells #[.int .u64 0, .int .u64 0, .int .u64 0, .int .u64 0, .int .u64 0] 103)).alloc (.cells #[.int .u64 1, .int .u64 0, .int .u64 0, .int .u64 0, .int .u64 0] 103))) : BlkP A w.heap.size pw0 ∧ BlkP A (w.heap.size + 1) pw1 ∧ Below w.heap.size w A := by
  subst hA
  have h1 : BlkP (w.alloc (.cells #[.int .u64 0, .int .u64 0, .int .u64 0, .int .u64 0, .int .u64 0] 103)) w.heap.size pw0 := heap_alloc_new w _
  have h2 : BlkP ((w.alloc (.cells #[.int .u64 0, .int .u64 0, .int .u64 0, .int .u64 0, .int .u64 0] 103)).alloc (.cells #[.int .u64 1, .int .u64 0, .int .u64 0, .int .u64 0, .int .u64 0] 103)) (w.alloc (.cells #[.int .u64 0, .int .u64 0, .int .u64 0, .int .u64 0, .int .u64 0] 103)).heap.size pw1 := heap_alloc_new _ _
  have e : (w.alloc (.cells #[.int .u64 0, .int .u64 0, .int .u64 0, .int .u64 0, .int .u64 0] 103)).heap.size = w.heap.size + 1 := by simp
  rw [e] at h2
  exact ⟨h1.below ((Below.refl _ _).alloc (Nat.le_refl _) _) h1.lt, h2, ((Below.refl _ _).alloc (Nat.le_refl _) _).alloc (by simp) _⟩
theorem BlkP.row {w : World} {g : Nat} {C D : List Int} (h : BlkP w g C) : BlkP (w.setRow g (D.map (Value.int .u64)).toArray) g D := setRow_heap _ _ _ _ _ _ h
theorem hZeros (a : Option Addr) (k c : Nat) (who : List Int) (w : World) (h : RdI w a k c who) (hd : dis (fi who) k) :
    Calls Tryd.prog 58 #[.slice a k c] w fun e w' => e = .returned (.agg ((zr who k).map (Value.int .u64)).toArray) ∧ Below w.heap.size w w' := by
  have hcap := h.cap
  have hmax := h.max
  unfold maxLen at hmax
  have HD : Hid (dis (fi who) k) := hd
  clear hd
  go_enter Tryd.func58, Tryd.ntmps58
  go_upto_region 2 with fail
  generalize hW : ((w.alloc (.cells #[.int .u64 0, .int .u64 0, .int .u64 0, .int .u64 0, .int .u64 0] 103)).alloc (.cells #[.int .u64 1, .int .u64 0, .int .u64 0, .int .u64 0, .int .u64 0] 103)) = w0
  obtain ⟨hq0, hq1, hbq⟩ := pw_new w hW.symm
  clear hW
  go_wp2
  go_loopw [12] (fun v wr => ∃ j : Nat, j ≤ k ∧ v = .int .i64 j ∧ BlkP wr w.heap.size pw0 ∧ BlkP wr (w.heap.size + 1) (zr who j) ∧ Below w.heap.size w wr) (fun v _ => k - (intOf v).toNat)
  case atStart => exact ⟨0, Nat.zero_le _, rfl, hq0, hq1, hbq⟩
  case round =>
    clear hq0 hq1 hbq
    obtain ⟨j, hj, rfl, hq0, hq1, hbel⟩ := hrel
    by_cases hlt : j < k
    · obtain ⟨b, o, x, rfl, hbb, HX, hx0, hx1, hcx⟩ := (h.below hbel).one hlt
      have hd := (HD.out j hlt).1
      have hdx : fi who j = x := HX.out
      rw [hdx] at hd
      obtain ⟨hd1, hd9⟩ := hd
      clear hdx
      have HNZ : Hid (nm x ≠ 0) := by unfold Hid; rw [nm_small (by omega) (by omega)]; omega
      have hib := iv_bd x
      obtain ⟨y, HY⟩ : ∃ y, Hid (iv x = y) := ⟨_, rfl⟩
      rw [HY.out] at hib
      have HYw : Hid (iv (who.getD j 0) = y) := by unfold Hid; rw [HX.out]; exact HY.out
      have hwx : IntKind.u64.wrap x = x := by rw [IntKind.wrap_u64]; omega
      rw [← zm_start] at hq1
      obtain ⟨wo, hwo⟩ : ∃ q, q = wr := ⟨_, rfl⟩
      subst hwo
      go_wp2_with (go_at_call 87; refine (fInv1 x _ (by omega) (by omega) HNZ.out).mono ?_; rintro e w3 ⟨rfl, hw⟩; have hw := hw.symm; subst hw; rw [HY.out])
      go_loopw [8] (fun v wr => ∃ i : Nat, i ≤ 4 ∧ v = .int .i64 i ∧ BlkP wr w.heap.size pw0 ∧ BlkP wr (w.heap.size + 1) (zm who j i) ∧ Below w.heap.size w wr) (fun v _ => (intOf v).toNat)
      case atStart => exact ⟨4, Nat.le_refl _, rfl, hq0, hq1, hbel⟩
      case round =>
        clear hq0 hq1 hbel
        obtain ⟨i, hi, rfl, hq0, hq1, hbel⟩ := hrel
        by_cases hi0 : 0 < i
        · obtain ⟨i, rfl⟩ : ∃ q, i = q + 1 := ⟨i - 1, by omega⟩
          have hl := zm_len who j (i + 1)
          have hlt1 := hq1.lt
          have c1 := hq1.cell (i := i + 1) (by omega)
          have c0 := hq1.cell (i := i) (by omega)
          have f1 := hq1.frozen (i + 1)
          have HS := hq1.set (i + 1) (nm ((zm who j (i + 1)).getD (i + 1) 0 - nm ((zm who j (i + 1)).getD i 0 * iv (who.getD j 0))))
          rw [zm_step who j (by omega), HYw.out] at HS
          have hb1 := getD_bd' (zm_bd who j (i + 1)) (i + 1)
          have hb0 := getD_bd' (zm_bd who j (i + 1)) i
          obtain ⟨u, HU⟩ : ∃ u, Hid ((zm who j (i + 1)).getD (i + 1) 0 = u) := ⟨_, rfl⟩
          obtain ⟨v, HV⟩ : ∃ v, Hid ((zm who j (i + 1)).getD i 0 = v) := ⟨_, rfl⟩
          rw [HU.out] at c1 HS hb1
          rw [HV.out] at c0 HS hb0
          have hm := nm_bd (v * y)
          have HS1 : Hid (BlkP _ _ _) := HS
          have HS0 : Hid (BlkP _ _ _) := hq0.other (g' := w.heap.size + 1) (i := i + 1) (v := .int .u64 (nm (u - nm (v * y)))) (by omega)
          have HBl : Hid (Below _ _ _) := hbel.setCell (p := ⟨w.heap.size + 1, i + 1, none⟩) (by simp) (.int .u64 (nm (u - nm (v * y))))
          clear HS hq0 hq1 hbel
          obtain ⟨m, HMm⟩ : ∃ m, Hid (i + 1 = m) := ⟨_, rfl⟩
          have hmi : (m : Int) - 1 = (i : Int) := by have := HMm.out; omega
          have hm4 : m ≤ 4 := by have := HMm.out; omega
          rw [HMm.out] at c1 f1 HS0 HS1 HBl hi hi0 ⊢
          have hw1 : IntKind.i64.wrap (i : Int) = (i : Int) := by rw [IntKind.wrap_i64]; omega
          have hw2 : IntKind.i64.wrap ((m : Int) - 1) = (i : Int) := by rw [hmi]; exact hw1
          have hi4 : (i : Int) < 5 := by omega
          have hi5 : (m : Int) < 5 := by omega
          go_wp2
          go_region_with (first | (go_at_call 49; refine (fMul _ _ _ (by omega) (by omega) (by omega) (by omega)).mono ?_; rintro e w' ⟨rfl, rfl⟩) | (go_at_call 59; refine (fSub _ _ _ (by omega) (by omega) (by omega) (by omega)).mono ?_; rintro e w' ⟨rfl, rfl⟩))
          all_goals
            go_wp2
            go_roundw
            case rel => exact ⟨i, by omega, by go_num, HS0.out, HS1.out, HBl.out.drew⟩
            case measure => have := HMm.out; simp [intOf]; omega
        · obtain rfl : i = 0 := by omega
          rw [zm_end] at hq1
          go_wp2
          go_roundw
          case rel => exact ⟨j + 1, by omega, by go_num, hq0, hq1, hbel⟩
          case measure => simp [intOf]; omega
    · obtain rfl : j = k := by omega
      have hl := zr_len who j
      have Hin : Hid ((Tryd.prog.info? 103).map (·.size) = some ((zr who j).map (Value.int .u64)).toArray.size) := by unfold Hid; simp only [List.size_toArray, List.length_map, hl]; exact infoPw
      have Hne : Hid ((pw0.map (Value.int .u64)).toArray.size = ((zr who j).map (Value.int .u64)).toArray.size) := by unfold Hid; simp [hl, pw0]
      have Hon : Hid (((zr who j).map (Value.int .u64)).toArray.all (·.oneCell') = true) := pw_one _
      have hbZ := below_setRow hbel (Nat.le_refl _) ((zr who j).map (Value.int .u64)).toArray
      have HZ : Hid (_ = _) := setRow_heap _ w.heap.size _ ((zr who j).map (Value.int .u64)).toArray _ (0, 0) hq0
      clear hl
      go_wp2_with (first | (refine wpList_load_row rfl 103 _ rfl (w.heap.size + 1) rfl 103 ((zr who j).map (Value.int .u64)).toArray (0, 0) _ hq1 Tryd.underlying103 rfl Hin.out ?_) | (refine wpList_store_row rfl 103 _ _ rfl w.heap.size ((zr who j).map (Value.int .u64)).toArray rfl rfl 103 (pw0.map (Value.int .u64)).toArray hq0 Hin.out Hne.out Hon.out ?_))
      exact bodyPost_ret (v := .agg ((zr who j).map (Value.int .u64)).toArray) (results_cell_row Tryd.results58 _ _ w.heap.size 103 _ (0, 0) _ rfl HZ.out Tryd.underlying103 rfl Hin.out) rfl ⟨rfl, hbZ⟩
/-- The five numbers are laid. -/
theorem pw_lay (w : World) (C : List Int) : BlkP ((w.alloc (.cells #[.int .u64 0, .int .u64 0, .int .u64 0, .int .u64 0, .int .u64 0] 103)).setRow w.heap.size (C.map (Value.int .u64)).toArray) w.heap.size C ∧ Below w.heap.size w ((w.alloc (.cells #[.int .u64 0, .int .u64 0, .int .u64 0, .int .u64 0, .int .u64 0] 103)).setRow w.heap.size (C.map (Value.int .u64)).toArray) := by
  have h1 : BlkP (w.alloc (.cells #[.int .u64 0, .int .u64 0, .int .u64 0, .int .u64 0, .int .u64 0] 103)) w.heap.size pw0 := heap_alloc_new w _
  exact ⟨h1.row, below_setRow ((Below.refl _ _).alloc (Nat.le_refl _) _) (Nat.le_refl _) _⟩
theorem eTwine (aw : Option Addr) (k cw : Nat) (who : List Int) (t : Int) (a b : Int) (ad : Option Addr) (q cd : Nat) (ds : List Int) (w : World) (h : RdI w aw k cw who) (ht0 : -9223372036854775808 ≤ t) (ht1 : t ≤ 9223372036854775807) (ha0 : 0 ≤ a) (ha1 : a ≤ 18446744073709551615) (hb0 : 0 ≤ b) (hb1 : b ≤ 18446744073709551615) (dh : Rd w ad q cd ds) :
    Calls Tryd.prog 44 #[.slice aw k cw, .int .i64 t, .int .u64 a, .int .u64 b, .slice ad q cd] w (Htw who k t a b ds q w) := by
  obtain ⟨i0, hi, hz0, hz1, hz2⟩ := info_parts info34
  have hkc := h.cap
  have hkm := h.max
  have hqc := dh.cap
  have hqm := dh.max
  unfold maxLen at hkm hqm
  go_enter Tryd.func44, Tryd.ntmps44
  go_wp2_with fail
  refine (hDifferent _ _ _ _ _ h).mono ?_
  rintro e w1 ⟨ok, rfl, hok, hbel1⟩
  cases ok with
  | false =>
    have HE : Hid (Hte who k t q 5) := .inl ⟨fun e => (by have := hok.2 e; cases this), rfl⟩
    clear hok
    go_wp2
    go_ret2
    exact ⟨.inl ⟨5, by decide, HE.out, rfl⟩, hbel1⟩
  | true =>
    have HD : Hid (dis (fi who) k) := hok.1 rfl
    have hk9 : k ≤ 9 := dis_nine HD.out
    clear hok
    go_wp2_with fail
    refine (cTwNeed t _).mono ?_
    rintro e w2 ⟨⟨ht, rfl⟩ | ⟨t, rfl, ht4, rfl⟩, hbel2⟩
    · have HE : Hid (Hte who k t q 1) := .inr ⟨HD.out, .inl ⟨fun e => by have := e.1; omega, rfl⟩⟩
      have hbw2 := hbel1.trans (hbel2.mono hbel1.size)
      clear ht
      go_wp2
      go_ret2
      exact ⟨.inl ⟨1, by decide, HE.out, rfl⟩, hbw2⟩
    · have hbw2 := hbel1.trans (hbel2.mono hbel1.size)
      obtain ⟨M, HM⟩ : ∃ M, Hid (need2 t = M) := ⟨_, rfl⟩
      have hMb := need2_bd ht4
      rw [HM.out] at hMb ⊢
      clear hbel1 hbel2 ht0 ht1
      by_cases hok : k ≤ t ∧ q = M
      · obtain ⟨hkt, rfl⟩ := hok
        have HE : Hid (Hte who k t q 0) := .inr ⟨HD.out, .inr ⟨⟨by omega, by omega, by rw [Int.toNat_natCast]; exact HM.out.symm⟩, rfl⟩⟩
        have hqq : ((q : Int) != (q : Int)) = false := by simp
        obtain ⟨D, HDD⟩ : ∃ D, Hid (nm (b - a) = D) := ⟨_, rfl⟩
        have hDb := nm_bd (b - a)
        rw [HDD.out] at hDb
        obtain ⟨F, HF⟩ : ∃ F : Nat → Int, Hid ((fun p => twf who k a b ds p ((hpl t).getD p (0, 0))) = F) := ⟨_, rfl⟩
        have HSF : Hid (twl who k a b ds t q = (List.range q).map F) := by unfold Hid twl; rw [HF.out]
        have HFi : Hid (∀ p x (I J : Nat) Bi Bj, ds.getD p 0 = x → (hpl t).getD p (0, 0) = (I, J) → (bl who k).getD I 0 = Bi → (bl who k).getD J 0 = Bj → nm (x + nm (D * nm (Bi * Bj))) = F p) := fun p x I J Bi Bj e1 e2 e3 e4 => by rw [← HF.out, nm_addr]; simp only; rw [e2]; unfold twf; simp only; rw [e1, e3, e4, HDD.out]
        go_wp2_with fail
        refine (hZeros _ _ _ _ _ (h.below hbw2) HD.out).mono ?_
        rintro e w3 ⟨rfl, hbel3⟩
        have hbw3 := hbw2.trans (hbel3.mono hbw2.size)
        have hl := zr_len who k
        have Hin : Hid ((Tryd.prog.info? 103).map (·.size) = some ((zr who k).map (Value.int .u64)).toArray.size) := by unfold Hid; simp only [List.size_toArray, List.length_map, hl]; exact infoPw
        have Hne : Hid ((pw0.map (Value.int .u64)).toArray.size = ((zr who k).map (Value.int .u64)).toArray.size) := by unfold Hid; simp [hl, pw0]
        have Hon : Hid (((zr who k).map (Value.int .u64)).toArray.all (·.oneCell') = true) := pw_one _
        clear hl
        go_upto_region 9 with (refine wpList_store_row rfl 103 _ _ rfl w3.heap.size ((zr who k).map (Value.int .u64)).toArray rfl rfl 103 (pw0.map (Value.int .u64)).toArray (heap_alloc_new w3 _) Hin.out Hne.out Hon.out ?_)
        obtain ⟨hz4, hb4⟩ := pw_lay w3 (zr who k)
        generalize World.setRow _ w3.heap.size ((zr who k).map (Value.int .u64)).toArray = w4 at *
        have hbw4 := hbw3.trans (hb4.mono hbw3.size)
        have dh4 := dh.below hbw4
        clear hb4 hbw2 hbw3 hbel3 Hin Hne Hon dh
        go_wp2_with (first | (go_at_call 59; refine (fSub b a _ hb0 hb1 ha0 ha1).mono ?_; rintro e w5 ⟨rfl, hw⟩; have hw := hw.symm; subst hw; rw [HDD.out]) | (at_make; refine wpList_make_full _ rfl _ _ 22 rfl w4.heap.size 34 i0 (.int .u64 0) 1 Tryd.underlying22 hi hz0 hz1 .i64 .i64 _ _ q rfl rfl rfl rfl (by rw [hz2]; omega) (by unfold maxLen; omega) (Nat.le_refl _) ?_; intro w5 hown hgrow) | fail)
        have hB5 : Blk w5 w4.heap.size (fil F q 0) := by rw [← fil_zero]; exact Blk.made hown
        have hb5 : Below w4.heap.size w4 w5 := (Below.refl _ _).grown hgrow (Nat.le_refl _) (by simp)
        clear hown hgrow
        refine (hPlaces t _ ht4).mono ?_
        rintro e w6 ⟨a6, c6, rfl, hr6, hn6, hb6⟩
        rw [HM.out] at hr6 ⊢
        have hB6 := hB5.below hb6 hB5.lt
        have hb7 := hb5.trans (hb6.mono hb5.size)
        have HN6 : Hid (∀ x, a6 = some x → some x.block ≠ some w4.heap.size) := fun x hx e => by
          have h1 := hn6 x hx
          have h2 := hB5.lt
          have h3 := Option.some.inj e
          omega
        have hr6c := hr6.cap
        have hr6m := hr6.max
        unfold maxLen at hr6m
        clear hB5 hb5 hb6 hn6
        go_wp2
        go_loopw [52] (fun i wr => ∃ p : Nat, p ≤ q ∧ i = .int .i64 p ∧ Blk wr w4.heap.size (fil F q p) ∧ Below w4.heap.size w4 wr ∧ w6.grownBy wr (some w4.heap.size)) (fun i _ => q - (intOf i).toNat)
        case atStart => exact ⟨0, Nat.zero_le _, rfl, hB6, hb7, World.grownBy.refl _ _⟩
        case round =>
          clear hB6 hb7
          obtain ⟨p, hp, rfl, hblk, hbel, hgr⟩ := hrel
          by_cases hlt : p < q
          · obtain ⟨I, J, HIJ, hIJ2, hI4, hJ4⟩ := hpi_bd ht4 (p := p) (by rw [HM.out]; exact hlt)
            obtain ⟨b2, o2, x2, y2, rfl, hbb2, HXY, hcx2, hcy2⟩ := (hr6.grown hgr HN6.out).one hlt
            obtain ⟨rfl, rfl⟩ : x2 = (I : Int) ∧ y2 = (J : Int) := by
              have := HXY.out.symm.trans hIJ2
              simpa using this
            have hbA0 : Below wr.heap.size wr (wr.alloc (.cells #[.int .i64 (I : Int), .int .i64 (J : Int)] 136)) := (Below.refl _ _).alloc (Nat.le_refl _) _
            have hbA := hbel.trans (hbA0.mono hbel.size)
            have hblkA := hblk.below hbA0 hblk.lt
            have hgrA := grown_trans hgr (grown_below hbA0 (some w4.heap.size))
            have hcA0 := cell_alloc0 wr (.int .i64 (I : Int)) (.int .i64 (J : Int)) 136
            have hcA1 := cell_alloc1 wr (.int .i64 (I : Int)) (.int .i64 (J : Int)) 136
            have hzA := hz4.below hbA hz4.lt
            have hzl := hzA.lt
            have hcI := hzA.cell (i := I) (by rw [zr_len]; omega)
            have hcJ := hzA.cell (i := J) (by rw [zr_len]; omega)
            rw [zr_getD _ _ (by omega)] at hcI hcJ
            obtain ⟨Bi, HBi⟩ : ∃ B, Hid ((bl who k).getD I 0 = B) := ⟨_, rfl⟩
            obtain ⟨Bj, HBj⟩ : ∃ B, Hid ((bl who k).getD J 0 = B) := ⟨_, rfl⟩
            have hBi := getD_bd' (bl_bd who k) I
            have hBj := getD_bd' (bl_bd who k) J
            rw [HBi.out] at hBi hcI
            rw [HBj.out] at hBj hcJ
            have hMi := nm_bd (Bi * Bj)
            have dhA := dh4.below hbA
            have hsA : (wr.alloc (.cells #[.int .i64 (I : Int), .int .i64 (J : Int)] 136)).heap.size = wr.heap.size + 1 := by simp
            have hwl : wr.heap.size < (wr.alloc (.cells #[.int .i64 (I : Int), .int .i64 (J : Int)] 136)).heap.size := by omega
            clear hsA hbA0 hbel hblk hgr hzA hIJ2
            have HIJ' : Hid ((hpl t).getD p (0, 0) = (I, J)) := HIJ
            clear HIJ HXY
            go_upto_region 14 with fail
            generalize wr.alloc (.cells #[.int .i64 (I : Int), .int .i64 (J : Int)] 136) = wA at *
            clear hcx2 hcy2
            go_quiet ((go_at_call 49; exact Calls.quiet_of_same (fMul _ _ _ (by omega) (by omega) (by omega) (by omega))))
            have hblkD : Blk (wA.drewN nq) w4.heap.size (fil F q p) := hblkA
            have hbD := drewN_below hbA nq
            have hgrD : w6.grownBy (wA.drewN nq) (some w4.heap.size) := ⟨hgrA.os, hgrA.tape, hgrA.output, hgrA.size, hgrA.block⟩
            have dhD := dhA.drewN nq
            generalize wA.drewN nq = wD at *
            clear hblkA hbA hgrA dhA hcA0 hcA1 hcI hcJ
            obtain ⟨bb, o, x, rfl, hbb, HX, hx0, hx1, hcx⟩ := dhD.one hlt
            have hMb2 := nm_bd (D * nm (Bi * Bj))
            have HN : Hid (nm (x + nm (D * nm (Bi * Bj))) = F p) := HFi.out p x I J Bi Bj HX.out HIJ'.out HBi.out HBj.out
            have hcell := hblkD.cell (i := p) (by rw [fil_len]; exact hlt)
            have hfz := hblkD.frozen p
            have hltD := hblkD.lt
            have hS := hblkD.set p (F p)
            rw [fil_set rfl] at hS
            have Hblk4 : Hid (Blk (wD.setCell ⟨w4.heap.size, p, none⟩ (.int .u64 (F p))) w4.heap.size (fil F q (p + 1))) := hS
            have Hb4 : Hid (Below w4.heap.size w4 (wD.setCell ⟨w4.heap.size, p, none⟩ (.int .u64 (F p)))) := hbD.setCell (Nat.le_refl _) _
            have Hg4 : Hid (w6.grownBy (wD.setCell ⟨w4.heap.size, p, none⟩ (.int .u64 (F p))) (some w4.heap.size)) := grown_trans hgrD (grown_set _ _ _ _)
            clear hS hblkD hbD hgrD dhD
            have hp0 : (0 : Int) ≤ (p : Int) := by omega
            have hpq : (p : Int) < (q : Int) := by omega
            go_wp2
            go_region_with (first | (go_at_call 49; refine (fMul _ _ _ (by omega) (by omega) (by omega) (by omega)).mono ?_; rintro e w' ⟨rfl, rfl⟩) | (go_at_call 45; refine (fAdd _ _ _ (by omega) (by omega) (by omega) (by omega)).mono ?_; rintro e w' ⟨rfl, rfl⟩; rw [HN.out]))
            all_goals
              go_wp2
              go_roundw
              case rel => exact ⟨p + 1, by omega, by go_num, Hblk4.out, Hb4.out.drew, grown_drew Hg4.out⟩
              case measure => simp [intOf]; omega
          · obtain rfl : p = q := by omega
            rw [fil_full, ← HSF.out] at hblk
            have ho := own_baseV (hblk.own (n := p) (B := w4.heap.size) (twl_len _ _ _ _ _ _ _) (Nat.le_refl _) (by omega)) hbw4.size
            have hbw := hbw4.trans (hbel.mono hbw4.size)
            go_wp2
            go_ret2
            exact ⟨.inr ⟨HE.out, _, rfl, by rw [Int.toNat_natCast]; exact ho⟩, hbw⟩
      · have HE : Hid (Hte who k t q 1) := .inr ⟨HD.out, .inl ⟨fun e => hok ⟨by omega, by have := e.2.2; rw [Int.toNat_natCast, HM.out] at this; exact this⟩, rfl⟩⟩
        by_cases hkt : (t : Int) < (k : Int)
        · clear hok
          go_wp2
          go_ret2
          exact ⟨.inl ⟨1, by decide, HE.out, rfl⟩, hbw2⟩
        · have hqM : ((q : Int) != (M : Int)) = true := by rw [bne_iff_ne]; exact fun e => hok ⟨by omega, by omega⟩
          clear hok
          go_wp2
          go_ret2
          exact ⟨.inl ⟨1, by decide, HE.out, rfl⟩, hbw2⟩
theorem infoSq : (Tryd.prog.info? 123).map (·.size) = some 25 := by kernel_rfl
theorem sq_new (w : World) {A : World} (hA : A = (w.alloc (.cells #[.int .u64 0, .int .u64 0, .int .u64 0, .int .u64 0, .int .u64 0, .int .u64 0, .int .u64 0, .int .u64 0, .int .u64 0, .int .u64 0, .int .u64 0, .int .u64 0, .int .u64 0, .int .u64 0, .int .u64 0, .int .u64 0, .int .u64 0, .int .u64 0, .int .u64 0, .int .u64 0, .int .u64 0, .int .u64 0, .int .u64 0, .int .u64 0, .int .u64 0] 123)).alloc (.cells #[.int .u64 0, .int .u64 0, .int .u64 0, .int .u64 0, .int .u64 0, .int .u64 0, .int .u64 0, .int .u64 0, .int .u64 0, .int .u64 0, .int .u64 0, .int .u64 0, .int .u64 0, .int .u64 0, .int .u64 0, .int .u64 0, .int .u64 0, .int .u64 0, .int .u64 0, .int .u64 0, .int .u64 0, .int .u64 0, .int .u64 0, .int .u64 0, .int .u64 0] 123)) : BlkQ A w.heap.size (List.replicate 25 0) ∧ BlkQ A (w.heap.size + 1) (List.replicate 25 0) ∧ Below w.heap.size w A ∧ A.heap.size = w.heap.size + 2 := by
  subst hA
  have h1 : BlkQ (w.alloc (.cells #[.int .u64 0, .int .u64 0, .int .u64 0, .int .u64 0, .int .u64 0, .int .u64 0, .int .u64 0, .int .u64 0, .int .u64 0, .int .u64 0, .int .u64 0, .int .u64 0, .int .u64 0, .int .u64 0, .int .u64 0, .int .u64 0, .int .u64 0, .int .u64 0, .int .u64 0, .int .u64 0, .int .u64 0, .int .u64 0, .int .u64 0, .int .u64 0, .int .u64 0] 123)) w.heap.size (List.replicate 25 0) := heap_alloc_new w _
  have h2 : BlkQ ((w.alloc (.cells #[.int .u64 0, .int .u64 0, .int .u64 0, .int .u64 0, .int .u64 0, .int .u64 0, .int .u64 0, .int .u64 0, .int .u64 0, .int .u64 0, .int .u64 0, .int .u64 0, .int .u64 0, .int .u64 0, .int .u64 0, .int .u64 0, .int .u64 0, .int .u64 0, .int .u64 0, .int .u64 0, .int .u64 0, .int .u64 0, .int .u64 0, .int .u64 0, .int .u64 0] 123)).alloc (.cells #[.int .u64 0, .int .u64 0, .int .u64 0, .int .u64 0, .int .u64 0, .int .u64 0, .int .u64 0, .int .u64 0, .int .u64 0, .int .u64 0, .int .u64 0, .int .u64 0, .int .u64 0, .int .u64 0, .int .u64 0, .int .u64 0, .int .u64 0, .int .u64 0, .int .u64 0, .int .u64 0, .int .u64 0, .int .u64 0, .int .u64 0, .int .u64 0, .int .u64 0] 123)) (w.alloc (.cells #[.int .u64 0, .int .u64 0, .int .u64 0, .int .u64 0, .int .u64 0, .int .u64 0, .int .u64 0, .int .u64 0, .int .u64 0, .int .u64 0, .int .u64 0, .int .u64 0, .int .u64 0, .int .u64 0, .int .u64 0, .int .u64 0, .int .u64 0, .int .u64 0, .int .u64 0, .int .u64 0, .int .u64 0, .int .u64 0, .int .u64 0, .int .u64 0, .int .u64 0] 123)).heap.size (List.replicate 25 0) := heap_alloc_new _ _
  have e : (w.alloc (.cells #[.int .u64 0, .int .u64 0, .int .u64 0, .int .u64 0, .int .u64 0, .int .u64 0, .int .u64 0, .int .u64 0, .int .u64 0, .int .u64 0, .int .u64 0, .int .u64 0, .int .u64 0, .int .u64 0, .int .u64 0, .int .u64 0, .int .u64 0, .int .u64 0, .int .u64 0, .int .u64 0, .int .u64 0, .int .u64 0, .int .u64 0, .int .u64 0, .int .u64 0] 123)).heap.size = w.heap.size + 1 := by simp
  rw [e] at h2
  exact ⟨h1.below ((Below.refl _ _).alloc (Nat.le_refl _) _) h1.lt, h2, ((Below.refl _ _).alloc (Nat.le_refl _) _).alloc (by simp) _, by simp⟩

theorem cFill (s : Int) (a : Option Addr) (m c : Nat) (ds : List Int) (t : Nat) (w : World) (h : Rd w a m c ds) (hs0 : 0 ≤ s) (hs1 : s ≤ 18446744073709551615) (ht : t ≤ 4) (hm : m = need2 t) :
    Calls Tryd.prog 73 #[.int .u64 s, .int .i64 t, .slice a m c] w fun e w' => (∃ C, e = .returned (.agg (C.map (Value.int .u64)).toArray) ∧ Sqr s ds t (t + 1) (t + 1) C) ∧ Below w.heap.size w w' := by
  have hm14 : m ≤ 14 := by rw [hm]; exact need2_bd ht
  have HM : Hid (m = need2 t) := hm
  have hdl := h.len
  clear hm
  go_enter Tryd.func73, Tryd.ntmps73
  go_upto_region 2 with fail
  generalize hW : (w.alloc (.cells #[.int .u64 0, .int .u64 0, .int .u64 0, .int .u64 0, .int .u64 0, .int .u64 0, .int .u64 0, .int .u64 0, .int .u64 0, .int .u64 0, .int .u64 0, .int .u64 0, .int .u64 0, .int .u64 0, .int .u64 0, .int .u64 0, .int .u64 0, .int .u64 0, .int .u64 0, .int .u64 0, .int .u64 0, .int .u64 0, .int .u64 0, .int .u64 0, .int .u64 0] 123)).alloc (.cells #[.int .u64 0, .int .u64 0, .int .u64 0, .int .u64 0, .int .u64 0, .int .u64 0, .int .u64 0, .int .u64 0, .int .u64 0, .int .u64 0, .int .u64 0, .int .u64 0, .int .u64 0, .int .u64 0, .int .u64 0, .int .u64 0, .int .u64 0, .int .u64 0, .int .u64 0, .int .u64 0, .int .u64 0, .int .u64 0, .int .u64 0, .int .u64 0, .int .u64 0] 123) = w0
  obtain ⟨hq0, hq1, hb0, hz0⟩ := sq_new w hW.symm
  have HZ0 : Hid (w0.heap.size = w.heap.size + 2) := hz0
  clear hW hz0
  have hr0 := h.below hb0
  go_wp2_with (at_builtin; refine wpList_appRB Tryd.underlying22 info34 _ rfl _ _ rfl s hs0 hs1 a m c ds hr0 rfl rfl (by omega) ?_; intro a1 c1 w1 hr1 ha1 hb1)
  have hp0 := hq0.below hb1 hq0.lt
  have hp1 := hq1.below hb1 hq1.lt
  have hbw1 := hb0.trans (hb1.mono hb0.size)
  obtain ⟨X, HX⟩ : ∃ X, Hid (s :: ds = X) := ⟨_, rfl⟩
  rw [HX.out] at hr1
  clear hq0 hq1 hb0 hb1 hr0
  have HA1 : Hid (∀ x, a1 = some x → w.heap.size + 2 ≤ x.block) := fun x hx => by rw [← HZ0.out]; exact ha1 x hx
  clear ha1
  go_loopw [8, 17] (fun v i wr => ∃ (k q cc : Nat) (aa : Option Addr) (C : List Int), k ≤ t + 1 ∧ i = .int .i64 k ∧ q ≤ m + 1 ∧ Hid ((q : Int) = nd2 t k + 1) ∧ v = .slice aa (m + 1 - q) cc ∧ Rd wr aa (m + 1 - q) cc (X.drop q) ∧ Hid (∀ x, aa = some x → w.heap.size + 2 ≤ x.block) ∧ BlkQ wr w.heap.size (List.replicate 25 0) ∧ BlkQ wr (w.heap.size + 1) C ∧ Hid (Sqr s ds t k k C) ∧ Below w.heap.size w wr) (fun _ i _ => t + 1 - (intOf i).toNat)
  case atStart => exact ⟨0, 0, c1, a1, _, Nat.zero_le _, rfl, Nat.zero_le _, rfl, rfl, hr1, HA1, hp0, hp1, sqr_start s ds t, hbw1⟩
  case round =>
    clear hr1 HA1 hp0 hp1 hbw1
    obtain ⟨k, q, cc, aa, C, hk, rfl, hq, HQ, rfl, hrd, HA, hp0, hp1, HS, hbel⟩ := hrel
    by_cases hkt : k < t + 1
    · have hkd : decide ((k : Int) < (t : Int) + 1) = true := decide_eq_true (by omega)
      go_wp2
      go_loopw [8, 10] (fun v i wr => ∃ (j q cc : Nat) (aa : Option Addr) (C : List Int), k ≤ j ∧ j ≤ t + 1 ∧ i = .int .i64 j ∧ q ≤ m + 1 ∧ Hid ((q : Int) = nd2 t k + ((j : Int) - k) + 1) ∧ v = .slice aa (m + 1 - q) cc ∧ Rd wr aa (m + 1 - q) cc (X.drop q) ∧ Hid (∀ x, aa = some x → w.heap.size + 2 ≤ x.block) ∧ BlkQ wr w.heap.size (List.replicate 25 0) ∧ BlkQ wr (w.heap.size + 1) C ∧ Hid (Sqr s ds t k j C) ∧ Below w.heap.size w wr) (fun _ i _ => t + 1 - (intOf i).toNat)
      case atStart => exact ⟨k, q, cc, aa, C, Nat.le_refl _, by omega, rfl, hq, by have := HQ.out; unfold Hid; omega, rfl, hrd, HA, hp0, hp1, HS, hbel⟩
      case round =>
        clear HQ hrd HA hp0 hp1 HS hbel hq
        obtain ⟨j, q, cc, aa, C, hkj, hj, rfl, hq, HQ, rfl, hrd, HA, hp0, hp1, HS, hbel⟩ := hrel
        have hsw := hbel.size
        by_cases hjt : j ≤ t
        · have hpb := (pos_bd t (by omega) j (by omega) k (by omega) (by omega)).2
          have hqm : q < m + 1 := by have := HQ.out; have := HM.out; unfold need2 at this; omega
          clear hpb
          obtain ⟨r, hr⟩ : ∃ r, m + 1 - q = r + 1 := ⟨m - q, by omega⟩
          rw [hr] at hrd
          rw [hr]
          have hcp := hrd.cap
          obtain ⟨cd, rfl⟩ : ∃ cd, cc = cd + 1 := ⟨cc - 1, by omega⟩
          obtain ⟨b, o, y, rfl, hbb, HY, hy0, hy1, hcy⟩ := hrd.one (show 0 < r + 1 by omega)
          have hb2 := HA.out _ rfl
          have HV : Hid (y = dn s ds (nd2 t k + ((j : Int) - k))) := by
            unfold Hid
            rw [← HY.out, ← dn_cons HQ.out, HX.out]
            simp
          have HS2 : Hid (Sqr s ds t k (j + 1) ((C.set (k * 5 + j) y).set (j * 5 + k) y)) := sqr_step HS.out ht hkj hjt HV.out hy0 hy1
          have hl := HS.out.len
          have hlt1 := hp1.lt
          have c1 := hp1.cell (i := k * 5 + j) (by omega)
          have f1 := hp1.frozen (k * 5 + j)
          have hp2 := hp1.set (k * 5 + j) y
          have c2 := hp2.cell (i := j * 5 + k) (by simp; omega)
          have f2 := hp2.frozen (j * 5 + k)
          rw [Nat.add_zero] at hcy
          have hj4 : j < 5 := by omega
          have hk4 : k < 5 := by omega
          have HR : Hid (m + 1 - q = r + 1) := hr
          have H0 : Hid (BlkQ (((wr.setCell ⟨w.heap.size + 1, k * 5 + j, none⟩ (.int .u64 y)).setCell ⟨w.heap.size + 1, j * 5 + k, none⟩ (.int .u64 y)).drew) w.heap.size (List.replicate 25 0)) := (hp0.other (g' := w.heap.size + 1) (i := k * 5 + j) (v := .int .u64 y) (by omega)).other (g' := w.heap.size + 1) (i := j * 5 + k) (v := .int .u64 y) (by omega)
          have H1 : Hid (BlkQ (((wr.setCell ⟨w.heap.size + 1, k * 5 + j, none⟩ (.int .u64 y)).setCell ⟨w.heap.size + 1, j * 5 + k, none⟩ (.int .u64 y)).drew) (w.heap.size + 1) ((C.set (k * 5 + j) y).set (j * 5 + k) y)) := hp2.set (j * 5 + k) y
          have HBl : Hid (Below w.heap.size w (((wr.setCell ⟨w.heap.size + 1, k * 5 + j, none⟩ (.int .u64 y)).setCell ⟨w.heap.size + 1, j * 5 + k, none⟩ (.int .u64 y)).drew)) := ((hbel.setCell (p := ⟨w.heap.size + 1, k * 5 + j, none⟩) (by simp) (.int .u64 y)).setCell (p := ⟨w.heap.size + 1, j * 5 + k, none⟩) (by simp) (.int .u64 y)).drew
          have HRd : Hid (Rd (((wr.setCell ⟨w.heap.size + 1, k * 5 + j, none⟩ (.int .u64 y)).setCell ⟨w.heap.size + 1, j * 5 + k, none⟩ (.int .u64 y)).drew) (some ⟨b, o, none⟩) (r + 1) (cd + 1) (X.drop q)) := ((hrd.grown (grown_set wr (w.heap.size + 1) (k * 5 + j) (.int .u64 y)) (fun x hx => by obtain rfl := Option.some.inj hx; simp only [ne_eq, Option.some.injEq]; simp only at hb2; omega)).grown (grown_set _ (w.heap.size + 1) (j * 5 + k) (.int .u64 y)) (fun x hx => by obtain rfl := Option.some.inj hx; simp only [ne_eq, Option.some.injEq]; simp only at hb2; omega)).drew
          clear hr hrd hp0 hp1 hp2 hbel
          go_wp2
          go_region
          all_goals
            generalize ((wr.setCell ⟨w.heap.size + 1, k * 5 + j, none⟩ (.int .u64 y)).setCell ⟨w.heap.size + 1, j * 5 + k, none⟩ (.int .u64 y)).drew = W3 at *
            clear c1 c2 f1 f2 hcy HY HV HS
            go_wp2
          have e1 : m + 1 - (q + 1) = r := by have := HR.out; omega
          have hT := HRd.out.tail (a := if cd = 0 then some ⟨b, o, none⟩ else some ⟨b, o + 1, none⟩) ⟨fun hr0 => by rw [if_neg (by omega)], by split <;> simp⟩
          rw [List.drop_drop] at hT
          refine ⟨⟨j + 1, q + 1, cd, _, _, by omega, by omega, by go_num, by omega, ?_, by rw [e1], by rw [e1]; exact hT, ?_, H0.out, H1.out, HS2, HBl.out⟩, by simp [intOf]; omega⟩
          · have := HQ.out
            unfold Hid
            push_cast
            omega
          · intro x hx
            split at hx
            · obtain rfl := Option.some.inj hx; exact hb2
            · obtain rfl := Option.some.inj hx; exact hb2
        · have hj2 : j = t + 1 := by omega
          subst hj2
          have HQ2 : Hid ((q : Int) = nd2 t (k + 1) + 1) := by
            have := HQ.out
            unfold Hid
            rw [nd2]
            push_cast at this
            omega
          have HS2 : Hid (Sqr s ds t (k + 1) (k + 1) C) := sqr_row HS.out (by omega)
          go_wp2
          go_roundw
          case rel => exact ⟨k + 1, q, cc, aa, C, by omega, by go_num, hq, HQ2, rfl, hrd, HA, hp0, hp1, HS2, hbel⟩
          case measure => simp [intOf]; omega
    · have hkt2 : k = t + 1 := by omega
      subst hkt2
      have hl := HS.out.len
      have Hin : Hid ((Tryd.prog.info? 123).map (·.size) = some (C.map (Value.int .u64)).toArray.size) := by unfold Hid; simp only [List.size_toArray, List.length_map, hl]; exact infoSq
      have Hne : Hid (((List.replicate 25 (0 : Int)).map (Value.int .u64)).toArray.size = (C.map (Value.int .u64)).toArray.size) := by unfold Hid; simp [hl]
      have Hon : Hid ((C.map (Value.int .u64)).toArray.all (·.oneCell') = true) := by
        unfold Hid
        rw [Array.all_eq_true_iff_forall_mem]
        intro v hv
        obtain ⟨x, _, rfl⟩ := List.mem_map.1 (show v ∈ C.map (Value.int .u64) by simpa using hv)
        rfl
      have hbZ := below_setRow hbel (Nat.le_refl _) (C.map (Value.int .u64)).toArray
      have HZ : Hid (_ = _) := setRow_heap _ w.heap.size _ (C.map (Value.int .u64)).toArray _ (0, 0) hp0
      clear hl hrd HA HQ
      go_wp2_with (first | (refine wpList_load_row rfl 123 _ rfl (w.heap.size + 1) rfl 123 (C.map (Value.int .u64)).toArray (0, 0) _ hp1 Tryd.underlying123 rfl Hin.out ?_) | (refine wpList_store_row rfl 123 _ _ rfl w.heap.size (C.map (Value.int .u64)).toArray rfl rfl 123 ((List.replicate 25 (0 : Int)).map (Value.int .u64)).toArray hp0 Hin.out Hne.out Hon.out ?_))
      exact bodyPost_ret (v := .agg (C.map (Value.int .u64)).toArray) (results_cell_row Tryd.results73 _ _ w.heap.size 123 _ (0, 0) _ rfl HZ.out Tryd.underlying123 rfl Hin.out) rfl ⟨⟨C, rfl, HS.out⟩, hbZ⟩
end
end Go.Proofs.YtljlioglpaogdagDoor
