/- hide.Shift. · hide.places. · hide.Twine. -/
import Derived.Test.YtgmelcdgnjcojagDoorToHidD
import Derived.Test.YtgmelcdgnjcojagDoorToHidW
import Derived.Test.YtgmelcdgnjcojagDoorToEnR
import Derived.Test.YtgmelcdgnjcojagDoorToRStB
import Derived.Test.YtgmelcdgnjcojagDoorToWireC
import Derived.Test.YtgmelcdgnjcojagDoorToTEqC
import Derived.Test.YtgmelcdgnjcojagDoorToLsW
import Derived.Deep.RegionWith
namespace Go.Proofs.YtgmelcdgnjcojagDoor
open Go.RowKit Crm

/-- The five numbers are laid. -/
theorem pw_lay (w : World) (C : List Int) : BlkP ((w.alloc (.cells #[.int .u64 0, .int .u64 0, .int .u64 0, .int .u64 0, .int .u64 0] 103)).setRow w.heap.size (C.map (Value.int .u64)).toArray) w.heap.size C ∧ Below w.heap.size w ((w.alloc (.cells #[.int .u64 0, .int .u64 0, .int .u64 0, .int .u64 0, .int .u64 0] 103)).setRow w.heap.size (C.map (Value.int .u64)).toArray) := by
  have h1 : BlkP (w.alloc (.cells #[.int .u64 0, .int .u64 0, .int .u64 0, .int .u64 0, .int .u64 0] 103)) w.heap.size pw0 := heap_alloc_new w _
  exact ⟨h1.row, below_setRow ((Below.refl _ _).alloc (Nat.le_refl _) _) (Nat.le_refl _) _⟩

set_option maxRecDepth 100000 in
set_option maxHeartbeats 2000000 in
theorem eShift (aw : Option Addr) (k cw : Nat) (who : List Int) (a b : Int) (ad : Option Addr) (q cd : Nat) (ds : List Int) (w : World) (h : RdI w aw k cw who) (ha0 : 0 ≤ a) (ha1 : a ≤ 18446744073709551615) (hb0 : 0 ≤ b) (hb1 : b ≤ 18446744073709551615) (dh : Rd w ad q cd ds) :
    Calls Tryd.prog 18 #[.slice aw k cw, .int .u64 a, .int .u64 b, .slice ad q cd] w (Hsh who k a b ds q w) := by
  obtain ⟨i0, hi, hz0, hz1, hz2⟩ := info_parts info34
  have hkc := h.cap
  have hkm := h.max
  have hqc := dh.cap
  have hqm := dh.max
  unfold maxLen at hkm hqm
  go_enter Tryd.func18, Tryd.ntmps18
  go_wp2_with fail
  refine (hDifferent _ _ _ _ _ h).mono ?_
  rintro e w1 ⟨ok, rfl, hok, hbel1⟩
  cases ok with
  | false =>
    have HE : Hid (Hse who k q 5) := .inl ⟨fun e => (by have := hok.2 e; cases this), rfl⟩
    clear hok
    go_wp2
    go_ret2
    exact ⟨.inl ⟨5, by decide, HE.out, rfl⟩, hbel1⟩
  | true =>
    have HD : Hid (dis (fi who) k) := hok.1 rfl
    have hk9 : k ≤ 9 := dis_nine HD.out
    clear hok
    by_cases hq4 : 4 < q
    · have HE : Hid (Hse who k q 1) := .inr ⟨HD.out, .inl ⟨by omega, rfl⟩⟩
      go_wp2
      go_ret2
      exact ⟨.inl ⟨1, by decide, HE.out, rfl⟩, hbel1⟩
    · by_cases hqk : q < k
      · have HE : Hid (Hse who k q 1) := .inr ⟨HD.out, .inl ⟨by omega, rfl⟩⟩
        go_wp2
        go_ret2
        exact ⟨.inl ⟨1, by decide, HE.out, rfl⟩, hbel1⟩
      · have HE : Hid (Hse who k q 0) := .inr ⟨HD.out, .inr ⟨⟨by omega, by omega⟩, rfl⟩⟩
        obtain ⟨D, HDD⟩ : ∃ D, Hid (nm (b - a) = D) := ⟨_, rfl⟩
        have hDb := nm_bd (b - a)
        rw [HDD.out] at hDb
        obtain ⟨F, HF⟩ : ∃ F : Nat → Int, Hid ((fun i => nm (ds.getD i 0 + nm (b - a) * (bl who k).getD (i + 1) 0)) = F) := ⟨_, rfl⟩
        have HSF : Hid (shf who k a b ds q = (List.range q).map F) := by unfold Hid shf; rw [HF.out]
        have HFi : Hid (∀ i x B, ds.getD i 0 = x → (bl who k).getD (i + 1) 0 = B → nm (x + nm (D * B)) = F i) := fun i x B e1 e2 => by rw [← HF.out, nm_addr]; simp only; rw [e1, e2, HDD.out]
        go_wp2_with fail
        refine (hZeros _ _ _ _ _ (h.below hbel1) HD.out).mono ?_
        rintro e w2 ⟨rfl, hbel2⟩
        have hbw2 := hbel1.trans (hbel2.mono hbel1.size)
        have hl := zr_len who k
        have Hin : Hid ((Tryd.prog.info? 103).map (·.size) = some ((zr who k).map (Value.int .u64)).toArray.size) := by unfold Hid; simp only [List.size_toArray, List.length_map, hl]; exact infoPw
        have Hne : Hid ((pw0.map (Value.int .u64)).toArray.size = ((zr who k).map (Value.int .u64)).toArray.size) := by unfold Hid; simp [hl, pw0]
        have Hon : Hid (((zr who k).map (Value.int .u64)).toArray.all (·.oneCell') = true) := pw_one _
        clear hl
        go_upto_region 6 with (refine wpList_store_row rfl 103 _ _ rfl w2.heap.size ((zr who k).map (Value.int .u64)).toArray rfl rfl 103 (pw0.map (Value.int .u64)).toArray (heap_alloc_new w2 _) Hin.out Hne.out Hon.out ?_)
        obtain ⟨hz3, hb3⟩ := pw_lay w2 (zr who k)
        generalize World.setRow _ w2.heap.size ((zr who k).map (Value.int .u64)).toArray = w3 at *
        have hbw3 := hbw2.trans (hb3.mono hbw2.size)
        have dh3 := dh.below hbw3
        clear hb3 hbw2 hbel2 hbel1 Hin Hne Hon dh
        go_wp2_with (first | (go_at_call 59; refine (fSub b a _ hb0 hb1 ha0 ha1).mono ?_; rintro e w4 ⟨rfl, hw⟩; have hw := hw.symm; subst hw; rw [HDD.out]) | (at_make; refine wpList_make_full _ rfl _ _ 22 rfl w3.heap.size 34 i0 (.int .u64 0) 1 Tryd.underlying22 hi hz0 hz1 .i64 .i64 _ _ q rfl rfl rfl rfl (by rw [hz2]; omega) (by unfold maxLen; omega) (Nat.le_refl _) ?_; intro w5 hown hgrow))
        have hB5 : Blk w5 w3.heap.size (fil F q 0) := by rw [← fil_zero]; exact Blk.made hown
        have hb5 : Below w3.heap.size w3 w5 := (Below.refl _ _).grown hgrow (Nat.le_refl _) (by simp)
        clear hown hgrow
        go_loopw [38] (fun i wr => ∃ j : Nat, j ≤ q ∧ i = .int .i64 j ∧ Blk wr w3.heap.size (fil F q j) ∧ Below w3.heap.size w3 wr) (fun i _ => q - (intOf i).toNat)
        case atStart => exact ⟨0, Nat.zero_le _, rfl, hB5, hb5⟩
        case round =>
          clear hB5 hb5
          obtain ⟨j, hj, rfl, hblk, hbel⟩ := hrel
          by_cases hlt : j < q
          · obtain ⟨bb, o, x, rfl, hbb, HX, hx0, hx1, hcx⟩ := (dh3.below hbel).one hlt
            have hz := hz3.below hbel hz3.lt
            have hzl := hz.lt
            obtain ⟨J, HJ⟩ : ∃ J : Nat, Hid (j + 1 = J) := ⟨_, rfl⟩
            have hJI : (j : Int) + 1 = (J : Int) := by rw [← HJ.out]; omega
            have hJ5 : J < 5 := by rw [← HJ.out]; omega
            have hcz := hz.cell (i := J) (by rw [zr_len]; exact hJ5)
            rw [zr_getD _ _ hJ5, ← HJ.out] at hcz
            obtain ⟨B, HB⟩ : ∃ B, Hid ((bl who k).getD (j + 1) 0 = B) := ⟨_, rfl⟩
            have hBb := getD_bd' (bl_bd who k) (j + 1)
            rw [HB.out] at hBb hcz
            rw [HJ.out] at hcz
            have hMb := nm_bd (D * B)
            have HN : Hid (nm (x + nm (D * B)) = F j) := HFi.out j x B HX.out HB.out
            have hcell := hblk.cell (i := j) (by rw [fil_len]; exact hlt)
            have hfz := hblk.frozen j
            have hlt3 := hblk.lt
            have hblk4 := hblk.set j (F j)
            rw [fil_set rfl] at hblk4
            have Hb4 : Hid (Below w3.heap.size w3 (wr.setCell ⟨w3.heap.size, j, none⟩ (.int .u64 (F j)))) := hbel.setCell (Nat.le_refl _) _
            clear hz hblk hbel
            go_wp2_with (first | (go_at_call 49; refine (fMul D B _ (by omega) (by omega) (by omega) (by omega)).mono ?_; rintro e w4 ⟨rfl, hw⟩; have hw := hw.symm; subst hw) | (go_at_call 45; refine (fAdd x (nm (D * B)) _ hx0 hx1 (by omega) (by omega)).mono ?_; rintro e w4 ⟨rfl, hw⟩; have hw := hw.symm; subst hw; rw [HN.out]))
            go_roundw
            case rel => exact ⟨j + 1, by omega, by go_num, hblk4, Hb4.out⟩
            case measure => simp [intOf]; omega
          · obtain rfl : j = q := by omega
            rw [fil_full, ← HSF.out] at hblk
            have ho := own_baseV (hblk.own (n := j) (B := w3.heap.size) (shf_len _ _ _ _ _ _) (Nat.le_refl _) (by omega)) hbw3.size
            have hbw := hbw3.trans (hbel.mono hbw3.size)
            go_wp2
            go_ret2
            exact ⟨.inr ⟨HE.out, _, rfl, ho⟩, hbw⟩
end Go.Proofs.YtgmelcdgnjcojagDoor

namespace Go.Proofs.YtgmelcdgnjcojagDoor
open Go.RowKit Crm

/-- What is left of pairs when the first is taken. -/
theorem RdP.tail {w : World} {b o n c : Nat} {p : Int × Int} {l : List (Int × Int)} {a : Option Addr} (h : RdP w (some ⟨b, o, none⟩) (n + 1) (c + 1) (p :: l)) (ha : (0 < n → a = some ⟨b, o + 2, none⟩) ∧ a ≠ none) : RdP w a n c l := by
  have h1 := h.cap
  have h2 := h.max
  refine ⟨by have := h.len; simpa using this, by omega, by omega, fun e => absurd e ha.2, fun x hx i hi => ?_⟩
  rw [ha.1 (by omega)] at hx
  obtain rfl := Option.some.inj hx
  have := h.cell _ rfl (i + 1) (by omega)
  rw [Addr.add_lit, Addr.add_lit] at this ⊢
  rw [show o + 2 + i * 2 = o + (i + 1) * 2 by omega, show o + 2 + (i * 2 + 1) = o + ((i + 1) * 2 + 1) by omega]
  exact this

theorem RdP.grown {w w' : World} {a : Option Addr} {n c : Nat} {l : List (Int × Int)} {r : Option Nat} (h : RdP w a n c l) (hg : w.grownBy w' r) (hne : ∀ x, a = some x → some x.block ≠ r) : RdP w' a n c l := by
  refine ⟨h.len, h.cap, h.max, h.nil, fun x hx i hi => ?_⟩
  have hb : ∀ k, (x.add k).block = x.block := fun k => by unfold Addr.add; split <;> rfl
  have := h.cell x hx i hi
  exact ⟨hg.cell this.1 (by rw [hb]; exact hne x hx), hg.cell this.2 (by rw [hb]; exact hne x hx)⟩

theorem own_ge {w : World} {B g o n m c z : Nat} {E : TypeId} {xs : List Value} (h : w.ownsRow B E z (.slice (some ⟨g, o, none⟩) n c) m xs) : B ≤ g := by
  rcases h.2 with ⟨e, _⟩ | ⟨g', cap, cur, e, hb', _⟩
  · cases e
  · simp only [Value.slice.injEq, Option.some.injEq, Addr.mk.injEq] at e
    rw [e.1.1]
    exact hb'

set_option maxRecDepth 100000 in
set_option maxHeartbeats 2000000 in
theorem hPlaces (t : Nat) (w : World) (ht : t ≤ 4) :
    Calls Tryd.prog 80 #[.int .i64 t] w fun e w' => ∃ a c, e = .returned (.slice a (need2 t) c) ∧ RdP w' a (need2 t) c (hpi t) ∧ (∀ x, a = some x → w.heap.size ≤ x.block) ∧ Below w.heap.size w w' := by
  obtain ⟨M, HM⟩ : ∃ M, Hid (need2 t = M) := ⟨_, rfl⟩
  have hM : M ≤ 14 := by rw [← HM.out]; exact need2_bd ht
  rw [HM.out]
  go_enter Tryd.func80, Tryd.ntmps80
  go_wp2
  go_loopw [3, 8] (fun v i wr => ∃ k p : Nat, k ≤ t + 1 ∧ i = .int .i64 k ∧ Hid (pf t k k = p) ∧ p ≤ M + 1 ∧ wr.ownsRow w.heap.size 136 2 v p (ppc (fpt t p)) ∧ Below w.heap.size w wr) (fun _ i _ => t + 1 - (intOf i).toNat)
  case atStart => exact ⟨0, 0, Nat.zero_le _, rfl, rfl, Nat.zero_le _, World.ownsRow_nil _ _ _ _, Below.refl _ _⟩
  case round =>
    obtain ⟨k, p, hk, rfl, HP, hp, hown, hbel⟩ := hrel
    by_cases hkt : k < t + 1
    · have hkd : decide ((k : Int) < (t : Int) + 1) = true := decide_eq_true (by omega)
      obtain ⟨wo, hwo⟩ : ∃ q, q = wr := ⟨_, rfl⟩
      subst hwo
      go_wp2
      go_loopw [3, 5] (fun v i wr => ∃ j p : Nat, k ≤ j ∧ j ≤ t + 1 ∧ i = .int .i64 j ∧ Hid (pf t k j = p) ∧ p ≤ M + 1 ∧ wr.ownsRow w.heap.size 136 2 v p (ppc (fpt t p)) ∧ Below w.heap.size w wr) (fun _ i _ => t + 1 - (intOf i).toNat)
      case atStart => exact ⟨k, p, Nat.le_refl _, by omega, rfl, HP, hp, hown, hbel⟩
      case round =>
        clear HP hp hown hbel
        obtain ⟨j, p, hkj, hj, rfl, HP, hp, hown, hbel⟩ := hrel
        have hs := hbel.size
        by_cases hjt : j ≤ t
        · have hlt := pf_lt ht hkj hjt
          rw [HP.out, HM.out] at hlt
          have HP2 : Hid (pf t k (j + 1) = p + 1) := by unfold Hid; rw [pf_step ht hkj hjt, HP.out]
          have HF : Hid (fpt t p ++ [((k : Int), (j : Int))] = fpt t (p + 1)) := by unfold Hid; rw [← HP.out]; exact fpt_step ht hkj hjt
          have hjti : (j : Int) ≤ (t : Int) := by omega
          go_wp2_with (at_builtin; refine wpList_app2 Tryd.underlying132 infoPair rfl (by omega) _ rfl _ _ rfl w.heap.size _ _ _ rfl hown (.int .i64 k) (.int .i64 j) rfl rfl rfl (by omega) hs ?_; intro v7 w7 hown7 hgr7 _; rw [ppc_snoc, HF.out] at hown7; have hb7 := hbel.grown hgr7 hs (fun q hq => (hown.lt q hq).1); clear hgr7 hown hbel)
          go_roundw
          case rel => exact ⟨j + 1, p + 1, by omega, by omega, by go_num, HP2, by omega, hown7, hb7⟩
          case measure => simp [intOf]; omega
        · obtain rfl : j = t + 1 := by omega
          have HP2 : Hid (pf t (k + 1) (k + 1) = p) := by unfold Hid; rw [← pf_row]; exact HP.out
          have hjn : ¬ (((t + 1 : Nat) : Int) ≤ (t : Int)) := by omega
          go_wp2
          go_roundw
          case rel => exact ⟨k + 1, p, by omega, by go_num, HP2, hp, hown, hbel⟩
          case measure => simp [intOf]; omega
    · obtain rfl : k = t + 1 := by omega
      obtain rfl : p = M + 1 := by rw [← HP.out, pf_end ht, HM.out]
      have e1 : fpt t (M + 1) = (0, 0) :: hpi t := by rw [← HM.out]; exact fpt_full ht
      rw [e1] at hown
      obtain ⟨a, c, rfl, hr⟩ := RdP.own hown (by rw [List.length_cons, hpi_len ht, HM.out])
      have hc := hr.cap
      have hcm := hr.max
      unfold maxLen at hcm
      obtain ⟨cd, rfl⟩ : ∃ q, c = q + 1 := ⟨c - 1, by omega⟩
      obtain ⟨b, o, x, y, rfl, hbb, _, _, _⟩ := hr.one (show 0 < M + 1 by omega)
      have hob2 := own_ge hown
      clear hown e1
      by_cases hcd : cd = 0
      · subst hcd
        obtain rfl : M = 0 := by omega
        have hr2 := hr.tail (a := some ⟨b, o, none⟩) ⟨fun h0 => by omega, by simp⟩
        go_wp2
        go_ret
        exact ⟨_, _, rfl, hr2, fun x hx => by obtain rfl := Option.some.inj hx; exact hob2, hbel⟩
      · have hr2 := hr.tail (a := some ⟨b, o + 2, none⟩) ⟨fun h0 => rfl, by simp⟩
        go_wp2
        go_ret
        exact ⟨_, _, rfl, hr2, fun x hx => by obtain rfl := Option.some.inj hx; exact hob2, hbel⟩
end Go.Proofs.YtgmelcdgnjcojagDoor

namespace Go.Proofs.YtgmelcdgnjcojagDoor
open Go.RowKit Crm

set_option maxRecDepth 100000 in
set_option maxHeartbeats 4000000 in
theorem eTwine (aw : Option Addr) (k cw : Nat) (who : List Int) (t : Int) (a b : Int) (ad : Option Addr) (q cd : Nat) (ds : List Int) (w : World) (h : RdI w aw k cw who) (ht0 : -9223372036854775808 ≤ t) (ht1 : t ≤ 9223372036854775807) (ha0 : 0 ≤ a) (ha1 : a ≤ 18446744073709551615) (hb0 : 0 ≤ b) (hb1 : b ≤ 18446744073709551615) (dh : Rd w ad q cd ds) :
    Calls Tryd.prog 44 #[.slice aw k cw, .int .i64 t, .int .u64 a, .int .u64 b, .slice ad q cd] w (Htw who k t a b ds q w) := by
  obtain ⟨i0, hi, hz0, hz1, hz2⟩ := info_parts info34
  have hkc := h.cap
  have hkm := h.max
  have hqc := dh.cap
  have hqm := dh.max
  unfold maxLen at hkm hqm
  go_enter Tryd.func44, Tryd.ntmps44
  go_wp2_with fail
  refine (hDifferent _ _ _ _ _ h).mono ?_
  rintro e w1 ⟨ok, rfl, hok, hbel1⟩
  cases ok with
  | false =>
    have HE : Hid (Hte who k t q 5) := .inl ⟨fun e => (by have := hok.2 e; cases this), rfl⟩
    clear hok
    go_wp2
    go_ret2
    exact ⟨.inl ⟨5, by decide, HE.out, rfl⟩, hbel1⟩
  | true =>
    have HD : Hid (dis (fi who) k) := hok.1 rfl
    have hk9 : k ≤ 9 := dis_nine HD.out
    clear hok
    go_wp2_with fail
    refine (cTwNeed t _).mono ?_
    rintro e w2 ⟨⟨ht, rfl⟩ | ⟨t, rfl, ht4, rfl⟩, hbel2⟩
    · have HE : Hid (Hte who k t q 1) := .inr ⟨HD.out, .inl ⟨fun e => by have := e.1; omega, rfl⟩⟩
      have hbw2 := hbel1.trans (hbel2.mono hbel1.size)
      clear ht
      go_wp2
      go_ret2
      exact ⟨.inl ⟨1, by decide, HE.out, rfl⟩, hbw2⟩
    · have hbw2 := hbel1.trans (hbel2.mono hbel1.size)
      obtain ⟨M, HM⟩ : ∃ M, Hid (need2 t = M) := ⟨_, rfl⟩
      have hMb := need2_bd ht4
      rw [HM.out] at hMb ⊢
      clear hbel1 hbel2 ht0 ht1
      by_cases hok : k ≤ t ∧ q = M
      · obtain ⟨hkt, rfl⟩ := hok
        have HE : Hid (Hte who k t q 0) := .inr ⟨HD.out, .inr ⟨⟨by omega, by omega, by rw [Int.toNat_natCast]; exact HM.out.symm⟩, rfl⟩⟩
        have hqq : ((q : Int) != (q : Int)) = false := by simp
        obtain ⟨D, HDD⟩ : ∃ D, Hid (nm (b - a) = D) := ⟨_, rfl⟩
        have hDb := nm_bd (b - a)
        rw [HDD.out] at hDb
        obtain ⟨F, HF⟩ : ∃ F : Nat → Int, Hid ((fun p => twf who k a b ds p ((hpl t).getD p (0, 0))) = F) := ⟨_, rfl⟩
        have HSF : Hid (twl who k a b ds t q = (List.range q).map F) := by unfold Hid twl; rw [HF.out]
        have HFi : Hid (∀ p x (I J : Nat) Bi Bj, ds.getD p 0 = x → (hpl t).getD p (0, 0) = (I, J) → (bl who k).getD I 0 = Bi → (bl who k).getD J 0 = Bj → nm (x + nm (D * nm (Bi * Bj))) = F p) := fun p x I J Bi Bj e1 e2 e3 e4 => by rw [← HF.out, nm_addr]; simp only; rw [e2]; unfold twf; simp only; rw [e1, e3, e4, HDD.out]
        go_wp2_with fail
        refine (hZeros _ _ _ _ _ (h.below hbw2) HD.out).mono ?_
        rintro e w3 ⟨rfl, hbel3⟩
        have hbw3 := hbw2.trans (hbel3.mono hbw2.size)
        have hl := zr_len who k
        have Hin : Hid ((Tryd.prog.info? 103).map (·.size) = some ((zr who k).map (Value.int .u64)).toArray.size) := by unfold Hid; simp only [List.size_toArray, List.length_map, hl]; exact infoPw
        have Hne : Hid ((pw0.map (Value.int .u64)).toArray.size = ((zr who k).map (Value.int .u64)).toArray.size) := by unfold Hid; simp [hl, pw0]
        have Hon : Hid (((zr who k).map (Value.int .u64)).toArray.all (·.oneCell') = true) := pw_one _
        clear hl
        go_upto_region 9 with (refine wpList_store_row rfl 103 _ _ rfl w3.heap.size ((zr who k).map (Value.int .u64)).toArray rfl rfl 103 (pw0.map (Value.int .u64)).toArray (heap_alloc_new w3 _) Hin.out Hne.out Hon.out ?_)
        obtain ⟨hz4, hb4⟩ := pw_lay w3 (zr who k)
        generalize World.setRow _ w3.heap.size ((zr who k).map (Value.int .u64)).toArray = w4 at *
        have hbw4 := hbw3.trans (hb4.mono hbw3.size)
        have dh4 := dh.below hbw4
        clear hb4 hbw2 hbw3 hbel3 Hin Hne Hon dh
        go_wp2_with (first | (go_at_call 59; refine (fSub b a _ hb0 hb1 ha0 ha1).mono ?_; rintro e w5 ⟨rfl, hw⟩; have hw := hw.symm; subst hw; rw [HDD.out]) | (at_make; refine wpList_make_full _ rfl _ _ 22 rfl w4.heap.size 34 i0 (.int .u64 0) 1 Tryd.underlying22 hi hz0 hz1 .i64 .i64 _ _ q rfl rfl rfl rfl (by rw [hz2]; omega) (by unfold maxLen; omega) (Nat.le_refl _) ?_; intro w5 hown hgrow) | fail)
        have hB5 : Blk w5 w4.heap.size (fil F q 0) := by rw [← fil_zero]; exact Blk.made hown
        have hb5 : Below w4.heap.size w4 w5 := (Below.refl _ _).grown hgrow (Nat.le_refl _) (by simp)
        clear hown hgrow
        refine (hPlaces t _ ht4).mono ?_
        rintro e w6 ⟨a6, c6, rfl, hr6, hn6, hb6⟩
        rw [HM.out] at hr6 ⊢
        have hB6 := hB5.below hb6 hB5.lt
        have hb7 := hb5.trans (hb6.mono hb5.size)
        have HN6 : Hid (∀ x, a6 = some x → some x.block ≠ some w4.heap.size) := fun x hx e => by
          have h1 := hn6 x hx
          have h2 := hB5.lt
          have h3 := Option.some.inj e
          omega
        have hr6c := hr6.cap
        have hr6m := hr6.max
        unfold maxLen at hr6m
        clear hB5 hb5 hb6 hn6
        go_wp2
        go_loopw [52] (fun i wr => ∃ p : Nat, p ≤ q ∧ i = .int .i64 p ∧ Blk wr w4.heap.size (fil F q p) ∧ Below w4.heap.size w4 wr ∧ w6.grownBy wr (some w4.heap.size)) (fun i _ => q - (intOf i).toNat)
        case atStart => exact ⟨0, Nat.zero_le _, rfl, hB6, hb7, World.grownBy.refl _ _⟩
        case round =>
          clear hB6 hb7
          obtain ⟨p, hp, rfl, hblk, hbel, hgr⟩ := hrel
          by_cases hlt : p < q
          · obtain ⟨I, J, HIJ, hIJ2, hI4, hJ4⟩ := hpi_bd ht4 (p := p) (by rw [HM.out]; exact hlt)
            obtain ⟨b2, o2, x2, y2, rfl, hbb2, HXY, hcx2, hcy2⟩ := (hr6.grown hgr HN6.out).one hlt
            obtain ⟨rfl, rfl⟩ : x2 = (I : Int) ∧ y2 = (J : Int) := by
              have := HXY.out.symm.trans hIJ2
              simpa using this
            have hbA0 : Below wr.heap.size wr (wr.alloc (.cells #[.int .i64 (I : Int), .int .i64 (J : Int)] 136)) := (Below.refl _ _).alloc (Nat.le_refl _) _
            have hbA := hbel.trans (hbA0.mono hbel.size)
            have hblkA := hblk.below hbA0 hblk.lt
            have hgrA := grown_trans hgr (grown_below hbA0 (some w4.heap.size))
            have hcA0 := cell_alloc0 wr (.int .i64 (I : Int)) (.int .i64 (J : Int)) 136
            have hcA1 := cell_alloc1 wr (.int .i64 (I : Int)) (.int .i64 (J : Int)) 136
            have hzA := hz4.below hbA hz4.lt
            have hzl := hzA.lt
            have hcI := hzA.cell (i := I) (by rw [zr_len]; omega)
            have hcJ := hzA.cell (i := J) (by rw [zr_len]; omega)
            rw [zr_getD _ _ (by omega)] at hcI hcJ
            obtain ⟨Bi, HBi⟩ : ∃ B, Hid ((bl who k).getD I 0 = B) := ⟨_, rfl⟩
            obtain ⟨Bj, HBj⟩ : ∃ B, Hid ((bl who k).getD J 0 = B) := ⟨_, rfl⟩
            have hBi := getD_bd' (bl_bd who k) I
            have hBj := getD_bd' (bl_bd who k) J
            rw [HBi.out] at hBi hcI
            rw [HBj.out] at hBj hcJ
            have hMi := nm_bd (Bi * Bj)
            have dhA := dh4.below hbA
            have hsA : (wr.alloc (.cells #[.int .i64 (I : Int), .int .i64 (J : Int)] 136)).heap.size = wr.heap.size + 1 := by simp
            have hwl : wr.heap.size < (wr.alloc (.cells #[.int .i64 (I : Int), .int .i64 (J : Int)] 136)).heap.size := by omega
            clear hsA hbA0 hbel hblk hgr hzA hIJ2
            have HIJ' : Hid ((hpl t).getD p (0, 0) = (I, J)) := HIJ
            clear HIJ HXY
            go_upto_region 14 with fail
            generalize wr.alloc (.cells #[.int .i64 (I : Int), .int .i64 (J : Int)] 136) = wA at *
            clear hcx2 hcy2
            go_quiet ((go_at_call 49; exact Calls.quiet_of_same (fMul _ _ _ (by omega) (by omega) (by omega) (by omega))))
            have hblkD : Blk (wA.drewN nq) w4.heap.size (fil F q p) := hblkA
            have hbD := drewN_below hbA nq
            have hgrD : w6.grownBy (wA.drewN nq) (some w4.heap.size) := ⟨hgrA.os, hgrA.tape, hgrA.output, hgrA.size, hgrA.block⟩
            have dhD := dhA.drewN nq
            generalize wA.drewN nq = wD at *
            clear hblkA hbA hgrA dhA hcA0 hcA1 hcI hcJ
            obtain ⟨bb, o, x, rfl, hbb, HX, hx0, hx1, hcx⟩ := dhD.one hlt
            have hMb2 := nm_bd (D * nm (Bi * Bj))
            have HN : Hid (nm (x + nm (D * nm (Bi * Bj))) = F p) := HFi.out p x I J Bi Bj HX.out HIJ'.out HBi.out HBj.out
            have hcell := hblkD.cell (i := p) (by rw [fil_len]; exact hlt)
            have hfz := hblkD.frozen p
            have hltD := hblkD.lt
            have hS := hblkD.set p (F p)
            rw [fil_set rfl] at hS
            have Hblk4 : Hid (Blk (wD.setCell ⟨w4.heap.size, p, none⟩ (.int .u64 (F p))) w4.heap.size (fil F q (p + 1))) := hS
            have Hb4 : Hid (Below w4.heap.size w4 (wD.setCell ⟨w4.heap.size, p, none⟩ (.int .u64 (F p)))) := hbD.setCell (Nat.le_refl _) _
            have Hg4 : Hid (w6.grownBy (wD.setCell ⟨w4.heap.size, p, none⟩ (.int .u64 (F p))) (some w4.heap.size)) := grown_trans hgrD (grown_set _ _ _ _)
            clear hS hblkD hbD hgrD dhD
            have hp0 : (0 : Int) ≤ (p : Int) := by omega
            have hpq : (p : Int) < (q : Int) := by omega
            go_wp2
            go_region_with (first | (go_at_call 49; refine (fMul _ _ _ (by omega) (by omega) (by omega) (by omega)).mono ?_; rintro e w' ⟨rfl, rfl⟩) | (go_at_call 45; refine (fAdd _ _ _ (by omega) (by omega) (by omega) (by omega)).mono ?_; rintro e w' ⟨rfl, rfl⟩; rw [HN.out]))
            all_goals
              go_wp2
              go_roundw
              case rel => exact ⟨p + 1, by omega, by go_num, Hblk4.out, Hb4.out.drew, grown_drew Hg4.out⟩
              case measure => simp [intOf]; omega
          · obtain rfl : p = q := by omega
            rw [fil_full, ← HSF.out] at hblk
            have ho := own_baseV (hblk.own (n := p) (B := w4.heap.size) (twl_len _ _ _ _ _ _ _) (Nat.le_refl _) (by omega)) hbw4.size
            have hbw := hbw4.trans (hbel.mono hbw4.size)
            go_wp2
            go_ret2
            exact ⟨.inr ⟨HE.out, _, rfl, by rw [Int.toNat_natCast]; exact ho⟩, hbw⟩
      · have HE : Hid (Hte who k t q 1) := .inr ⟨HD.out, .inl ⟨fun e => hok ⟨by omega, by have := e.2.2; rw [Int.toNat_natCast, HM.out] at this; exact this⟩, rfl⟩⟩
        by_cases hkt : (t : Int) < (k : Int)
        · clear hok
          go_wp2
          go_ret2
          exact ⟨.inl ⟨1, by decide, HE.out, rfl⟩, hbw2⟩
        · have hqM : ((q : Int) != (M : Int)) = true := by rw [bne_iff_ne]; exact fun e => hok ⟨by omega, by omega⟩
          clear hok
          go_wp2
          go_ret2
          exact ⟨.inl ⟨1, by decide, HE.out, rfl⟩, hbw2⟩
end Go.Proofs.YtgmelcdgnjcojagDoor
