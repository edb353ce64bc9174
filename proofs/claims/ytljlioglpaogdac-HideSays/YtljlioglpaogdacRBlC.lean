/- croftref.Who, Blind. -/
import Derived.Test.YtljlioglpaogdacToHidQ
import Derived.Test.YtljlioglpaogdacToContC
import Derived.Test.YtljlioglpaogdacToRefProdC
import Derived.Test.YtljlioglpaogdacToRefWC
import Derived.Deep.DeepCutAuto
namespace Go.Proofs.Ytljlioglpaogdac
set_option linter.unusedVariables false
set_option maxRecDepth 100000
set_option maxHeartbeats 8000000
section
open Crm Go.RowKit
theorem rWho (a : Option Addr) (n c : Nat) (ts : List Int) (w : World) (h : RdI w a n c ts) :
    Calls Try.prog 8 #[.slice a n c] w fun e w' => Tells (dis (fi ts) n) w e w' := by
  have hcap := h.cap
  have hmax := h.max
  unfold maxLen at hmax
  by_cases h0 : n = 0
  · subst h0
    go_enter Try.func8, Try.ntmps8
    go_wp2
    go_ret
    exact ⟨true, rfl, ⟨fun _ => dis_zero _, fun _ => rfl⟩, Below.refl _ _⟩
  · go_enter Try.func8, Try.ntmps8
    go_wp2_with fail
    refine (rParties _ _ _ _ _ h).mono ?_
    rintro e w1 ⟨ok, rfl, hok, hb⟩
    have HOK : Hid (ok = true ↔ dis (fi ts) n) := ⟨fun e => (hok.1 e).2, fun e => hok.2 ⟨by omega, e⟩⟩
    clear hok
    have hn0 : ((n : Int) == 0) = false := by rw [beq_eq_false_iff_ne]; omega
    go_wp2
    go_ret
    exact ⟨ok, rfl, HOK.out, hb⟩

theorem rBlind (a : Option Addr) (k c : Nat) (who : List Int) (i : Nat) (w : World) (h : RdI w a k c who) (hk : k ≤ 9) (hw : dis (fi who) k) (hi : i ≤ 100) :
    Calls Try.prog 10 #[.slice a k c, .int .i64 (i : Int)] w fun e w' => e = .returned (.int .u64 ((bl who k).getD i 0)) ∧ Below w.heap.size w w' := by
  have hcap := h.cap
  have HW : Hid (dis (fi who) k) := hw
  clear hw
  obtain ⟨X, HXX⟩ : ∃ X, Hid ((bl who k).getD i 0 = X) := ⟨_, rfl⟩
  rw [HXX.out]
  have hb0 := below_one w (.cells #[.int .u64 1] 23)
  have r0 : Rd (w.alloc (.cells #[.int .u64 1] 23)) (some ⟨w.heap.size, 0, none⟩) 1 1 (bl who 0) := (Blk.lit1 w 1).whole 1 rfl (by unfold maxLen; omega) (fun u hu => by rw [List.mem_singleton.1 hu]; omega)
  go_enter Try.func10, Try.ntmps10
  go_upto_region 2 with fail
  generalize w.alloc (.cells #[.int .u64 1] 23) = w0 at *
  go_wp2
  go_loopw [5, 6] (fun p v wr => ∃ (j : Nat) (aP : Option Addr) (cP : Nat), j ≤ k ∧ v = .int .i64 j ∧ p = .slice aP (j + 1) cP ∧ Rd wr aP (j + 1) cP (bl who j) ∧ Below w.heap.size w wr) (fun _ v _ => k - (intOf v).toNat)
  case atStart => exact ⟨0, _, _, Nat.zero_le _, rfl, rfl, r0, hb0⟩
  case round =>
    clear r0 hb0
    obtain ⟨j, aP, cP, hj, rfl, rfl, hr, hbel⟩ := hrel
    have hcP := hr.cap
    have hmP := hr.max
    unfold maxLen at hmP
    by_cases hlt : j < k
    · obtain ⟨b, o, x, rfl, hbb, HX, hx0, hx1, hcx⟩ := (h.below hbel).one hlt
      have hd := (HW.out j hlt).1
      have hdx : fi who j = x := HX.out
      rw [hdx] at hd
      obtain ⟨hd1, hd9⟩ := hd
      have hnz : nm x ≠ 0 := by rw [nm_small (by omega) (by omega)]; omega
      have HNZ : Hid (nm x ≠ 0) := hnz
      have hib := iv_bd x
      have hyb := nm_bd (-(iv x))
      have HBN : Hid (∀ q, q < j + 1 → nm (who.getD q 0) ≠ 0) := fun q hq => dis_nz HW.out q (by omega)
      have HN1 : Hid (Nml (bl who j)) := bl_nml fun q hq => HBN.out q (by omega)
      have HY : Hid (nm (-(iv (who.getD j 0))) = nm (-(iv x))) := by unfold Hid; rw [HX.out]
      obtain ⟨y, HYy⟩ : ∃ y, Hid (nm (-(iv x)) = y) := ⟨_, rfl⟩
      have HYZ : Hid (y ≠ 0) := fun e => by
        rw [← HYy.out] at e
        have e2 : nm (iv x) = 0 := by unfold nm at e ⊢; omega
        have hi' := iv_mul HNZ.out
        rw [← nm_mull, e2, Int.zero_mul] at hi'
        exact absurd hi' (by decide)
      rw [HYy.out] at hyb
      have HN2 : Hid (Nml [1, y]) := ⟨fun z hz => by
        rcases List.mem_cons.1 hz with rfl | hz
        · decide
        · rw [List.mem_singleton.1 hz]; exact hyb, fun _ => HYZ.out⟩
      have HT1 : Hid (tl (nz (bl who j)) (j + 1) = j + 1) := by unfold Hid; have := tl_nrm HN1.out; rw [bl_len] at this; exact this
      have HT2 : Hid (tl (nz [1, y]) 2 = 2) := tl_nrm HN2.out
      have HCV : Hid (cvl (nrm (bl who j)) (nrm [1, y]) = bl who (j + 1)) := by unfold Hid; rw [nrm_id HN1.out, nrm_id HN2.out, bl, HY.out, HYy.out]
      have r2 := rd_of2 wr (x := 1) (y := y) (by omega) ⟨hyb.1, by omega⟩
      have hb2 := below_one wr (.cells #[.int .u64 1, .int .u64 y] 23)
      have hru := hr.below hb2
      have hb3 := hbel.trans (hb2.mono hbel.size)
      have hwx : IntKind.u64.wrap x = x := by rw [IntKind.wrap_u64]; omega
      clear hnz
      go_wp2_with (first | (go_at_call 41; refine (rInv x _ (by omega) (by omega) HNZ.out).mono ?_; rintro e w3 ⟨rfl, hw⟩; have hw := hw.symm; subst hw) | (go_at_call 7; refine (rNeg (iv x) _ (by omega) (by omega)).mono ?_; rintro e w3 ⟨rfl, hw⟩; have hw := hw.symm; subst hw; rw [HYy.out]) | fail)
      generalize wr.alloc (.cells #[.int .u64 1, .int .u64 y] 23) = w2 at *
      refine (rProduct1 _ _ _ _ _ _ _ _ _ hru r2 (by omega) (by omega) (by rw [HT1.out]; omega) (by rw [HT2.out]; omega)).mono ?_
      rintro e w4 ⟨a4, c4, rfl, hr4, hb4, _⟩
      rw [HCV.out, HT1.out, HT2.out] at hr4
      rw [HT1.out, HT2.out]
      have hb5 := hb3.trans (hb4.mono hb3.size)
      clear hr hru r2 hb2 hb3 hb4 hbel
      go_wp2
      go_roundw
      case rel => exact ⟨j + 1, a4, c4, by omega, by go_num, rfl, hr4, hb5⟩
      case measure => simp [intOf]; omega
    · have hjk : j = k := by omega
      subst hjk
      by_cases hik : i < j + 1
      · obtain ⟨b, o, x, rfl, hbb, HX, hx0, hx1, hcx⟩ := hr.one hik
        obtain rfl : X = x := HXX.out.symm.trans HX.out
        have hi0 : (0 : Int) ≤ (i : Int) := by omega
        have hij : (i : Int) < (j : Int) + 1 := by omega
        go_wp2
        go_ret
        exact ⟨rfl, hbel⟩
      · have hz : (bl who j).getD i 0 = 0 := getD_big (by rw [bl_len]; omega)
        obtain rfl : X = 0 := HXX.out.symm.trans hz
        clear hz
        have hij : ¬ ((i : Int) < (j : Int) + 1) := by omega
        go_wp2
        go_ret
        exact ⟨rfl, hbel⟩
end
end Go.Proofs.Ytljlioglpaogdac
