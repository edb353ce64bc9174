/- The walk of croftlaw.HideSays. -/
import Derived.Test.YtljlioglpaogdacToHidV
import Derived.Test.YtljlioglpaogdacRBlC
import Derived.Test.YtljlioglpaogdacStepC
import Derived.Test.YtljlioglpaogdacToContC
import Derived.Deep.RegionLaw
import Derived.Deep.RegionWith
import Derived.Deep.DeepCutAuto
import Derived.Deep.CutBlock
import Derived.Deep.CutRange
namespace Go.Proofs.Ytljlioglpaogdac
set_option linter.unusedVariables false
set_option maxRecDepth 100000
set_option maxHeartbeats 8000000
section
open Crm Go.RowKit
theorem hideSaysW (aw : Option Addr) (k cw : Nat) (who : List Int) (t : Int) (a b : Int) (ad : Option Addr) (q cd : Nat) (ds : List Int) (w : World) (hho : RdI w aw k cw who) (ht0 : -9223372036854775808 ≤ t) (ht1 : t ≤ 9223372036854775807) (ha0 : 0 ≤ a) (ha1 : a ≤ 18446744073709551615) (hb0 : 0 ≤ b) (hb1 : b ≤ 18446744073709551615) (dh : Rd w ad q cd ds) :
    Calls Try.prog 3 #[.slice aw k cw, .int .i64 t, .int .u64 a, .int .u64 b, .slice ad q cd] w fun e w' => e = .returned (.bool true) ∧ Below w.heap.size w w' := by
  have hkc := hho.cap
  have hkm := hho.max
  have hqc := dh.cap
  have hqm := dh.max
  unfold maxLen at hkm hqm
  obtain ⟨D, HDD⟩ : ∃ D, Hid (nm (b + nm (-a)) = D) := ⟨_, rfl⟩
  have hDb := nm_bd (b + nm (-a))
  rw [HDD.out] at hDb
  have hnb := nm_bd (-a)
  go_enter Try.func3, Try.ntmps3
  go_upto_block 0 with (first | (go_at_call 7; refine (rNeg a _ ha0 ha1).mono ?_; rintro e w3 ⟨rfl, hw⟩; have hw := hw.symm; subst hw) | (go_at_call 6; refine (rAdd b (nm (-a)) _ hb0 hb1 (by omega) (by omega)).mono ?_; rintro e w3 ⟨rfl, hw⟩; have hw := hw.symm; subst hw; rw [HDD.out]))
  go_cut [11, 13, 14, 15] from 25 to 58 (fun s11 s13 s14 s15 wx => ∃ r, s11 = .int .i64 r ∧ Hid (Hse who k q r) ∧ Hid (Gth (wls who k a b ds q r) wx s13) ∧ Below w.heap.size w wx)
  case first =>
    go_wp2_with fail
    refine (rWho _ _ _ _ _ hho).mono ?_
    rintro e w1 ⟨ok, rfl, hok, hbel1⟩
    cases ok with
    | false =>
      have HE : Hid (Hse who k q 5) := .inl ⟨fun e => (by have := hok.2 e; cases this), rfl⟩
      clear hok
      go_wp2
      go_meet
      case rel => exact ⟨5, rfl, HE, gth_nil _, hbel1⟩
    | true =>
      have HD : Hid (dis (fi who) k) := hok.1 rfl
      have hk9 : k ≤ 9 := dis_nine HD.out
      clear hok
      by_cases hq4 : 4 < q
      · have HE : Hid (Hse who k q 1) := .inr ⟨HD.out, .inl ⟨by omega, rfl⟩⟩
        go_wp2
        go_meet
        case rel => exact ⟨1, rfl, HE, gth_nil _, hbel1⟩
      · by_cases hqk : q < k
        · have HE : Hid (Hse who k q 1) := .inr ⟨HD.out, .inl ⟨by omega, rfl⟩⟩
          go_wp2
          go_meet
          case rel => exact ⟨1, rfl, HE, gth_nil _, hbel1⟩
        · have HE : Hid (Hse who k q 0) := .inr ⟨HD.out, .inr ⟨⟨by omega, by omega⟩, rfl⟩⟩
          have HSN : Hid (∀ i x, ds.getD i 0 = x → nm (x + nm (D * (bl who k).getD (i + 1) 0)) = nm (ds.getD i 0 + nm (b - a) * (bl who k).getD (i + 1) 0)) := fun i x e => by rw [e, ← HDD.out]; exact shf_num _ _ _ _
          go_wp2
          go_loopw [13, 27] (fun v i wr => ∃ j : Nat, j ≤ q ∧ i = .int .i64 j ∧ wr.ownsRow w1.heap.size 23 1 v j ((shf who k a b ds j).map (Value.int .u64)) ∧ Below w1.heap.size w1 wr) (fun _ i _ => q - (intOf i).toNat)
          case atStart => exact ⟨0, Nat.zero_le _, rfl, World.ownsRow_nil _ _ _ _, Below.refl _ _⟩
          case round =>
            obtain ⟨j, hj, rfl, hown, hbel⟩ := hrel
            have hs := hbel.size
            have hbw := hbel1.trans (hbel.mono hbel1.size)
            by_cases hlt : j < q
            · obtain ⟨bb, o, x, rfl, hbb, HX, hx0, hx1, hcx⟩ := (dh.below hbw).one hlt
              obtain ⟨B, HB⟩ : ∃ B, Hid ((bl who k).getD (j + 1) 0 = B) := ⟨_, rfl⟩
              have hBb := getD_bd' (bl_bd who k) (j + 1)
              rw [HB.out] at hBb
              have hMb := nm_bd (D * B)
              have HN : Hid (nm (x + nm (D * B)) = nm (ds.getD j 0 + nm (b - a) * (bl who k).getD (j + 1) 0)) := by unfold Hid; rw [← HB.out]; exact HSN.out j x HX.out
              have HS2 : Hid (shf who k a b ds j ++ [nm (x + nm (D * B))] = shf who k a b ds (j + 1)) := by unfold Hid; rw [HN.out]; exact shf_snoc _ _ _ _ _ _
              obtain ⟨J, HJ⟩ : ∃ J : Nat, Hid (j + 1 = J) := ⟨_, rfl⟩
              have hJI : (j : Int) + 1 = (J : Int) := by rw [← HJ.out]; omega
              go_wp2_with (first | (go_at_call 10; refine (rBlind _ k _ who J _ (hho.below hbw) hk9 HD.out (by have := HJ.out; omega)).mono ?_; rintro e w3 ⟨rfl, hb3⟩; rw [← HJ.out, HB.out]; have hown3 := own_below hown hb3; have hbel3 := hbel.trans (hb3.mono hs); clear hb3) | (go_at_call 9; refine (rMul D B _ (by omega) (by omega) (by omega) (by omega)).mono ?_; rintro e w4 ⟨rfl, hw⟩; have hw := hw.symm; subst hw) | (go_at_call 6; refine (rAdd x (nm (D * B)) _ hx0 hx1 (by omega) (by omega)).mono ?_; rintro e w4 ⟨rfl, hw⟩; have hw := hw.symm; subst hw) | (at_builtin; refine wpList_app1 Try.underlying24 info23 _ rfl _ _ rfl w1.heap.size _ _ _ rfl hown3 (nm (x + nm (D * B))) rfl (by omega) hbel3.size ?_; intro v7 w7 hown7 hbel7; rw [HS2.out] at hown7; have hbel8 := hbel3.trans hbel7; clear hbel7))
              go_roundw
              case rel => exact ⟨j + 1, by omega, by go_num, hown7, hbel8⟩
              case measure => simp [intOf]; omega
            · have hjq : j = q := by omega
              subst hjq
              have HG : Hid (Gth (wls who k a b ds j 0) wr _) := gth_own hown (shf_len _ _ _ _ _ _) (bd_u64 (shf_bd _ _ _ _ _ _))
              go_wp2
              go_meet
              case rel => exact ⟨0, rfl, HE, HG, hbw⟩
  case rest =>
    obtain ⟨r, rfl, HE, HG, hbel⟩ := hcut
    obtain ⟨w2, hw2⟩ : ∃ x, x = wc := ⟨_, rfl⟩
    subst hw2
    obtain ⟨aG, cG, rfl, hrG⟩ := HG.out
    clear HG
    go_wp2_with fail
    refine (eShift _ _ _ _ _ _ _ _ _ _ _ (hho.below hbel) ha0 ha1 hb0 hb1 (dh.below hbel)).mono ?_
    intro e w3 hh
    have hb3' := hh.2
    obtain ⟨a3, c3, rfl, hr3⟩ := hh.rd HE.out
    have hb3 := hbel.trans (hb3'.mono hbel.size)
    have hrG3 := hrG.below hb3'
    clear hh hrG hbel hb3'
    go_wp2_with fail
    refine (cSame _ _ _ _ _ _ _ _ hr3 hrG3).mono ?_
    rintro e w4 ⟨rfl, hb4'⟩
    have hb4 := hb3.trans (hb4'.mono hb3.size)
    clear hr3 hrG3 hb3 hb4' HE
    go_upto_block 3 with fail
    go_cut [11, 13, 18, 19, 20] from 76 to 132 (fun s11 s13 s18 s19 s20 wx => ∃ r, s11 = .int .i64 r ∧ Hid (Hte who k t q r) ∧ Hid (Gth (wlt who k t a b ds q r) wx s13) ∧ Below w.heap.size w wx)
    case first =>
      go_wp2_with fail
      refine (rWho _ _ _ _ _ (hho.below hb4)).mono ?_
      rintro e w1 ⟨ok, rfl, hok, hb5'⟩
      have hbel1 := hb4.trans (hb5'.mono hb4.size)
      clear hb5'
      cases ok with
      | false =>
        have HE : Hid (Hte who k t q 5) := .inl ⟨fun e => (by have := hok.2 e; cases this), rfl⟩
        clear hok
        go_wp2
        go_meet
        case rel => exact ⟨5, rfl, HE, gth_nil _, hbel1⟩
      | true =>
        have HD : Hid (dis (fi who) k) := hok.1 rfl
        have hk9 : k ≤ 9 := dis_nine HD.out
        clear hok
        by_cases ht : 0 ≤ t ∧ t ≤ 4
        · obtain ⟨t, rfl⟩ : ∃ t' : Nat, t = t' := ⟨t.toNat, by omega⟩
          have ht4 : t ≤ 4 := by omega
          have hti : (t : Int) ≤ 4 := by omega
          have htz : (0 : Int) ≤ (t : Int) := by omega
          obtain ⟨M, HM⟩ : ∃ M, Hid (need2 t = M) := ⟨_, rfl⟩
          have hMb := need2_bd ht4
          rw [HM.out] at hMb
          have HMX : Hid ((if (0 : Int) < (if (4 : Int) < (t : Int) then 4 else (t : Int)) then (if (4 : Int) < (t : Int) then 4 else (t : Int)) else 0) = (t : Int)) := by
            unfold Hid
            rw [if_neg (show ¬ (4 : Int) < (t : Int) by omega)]
            split <;> omega
          have HNE : Hid (((t + 1) * (t + 2) / 2 - 1 : Nat) = M) := HM.out
          by_cases hok : k ≤ t ∧ q = M
          · obtain ⟨hkt, rfl⟩ := hok
            have HE : Hid (Hte who k t q 0) := .inr ⟨HD.out, .inr ⟨⟨ht, by omega, by rw [Int.toNat_natCast]; exact HM.out.symm⟩, rfl⟩⟩
            have hqq : ((q : Int) != (q : Int)) = false := by simp
            have HSN : Hid (∀ x B, nm (x + nm (D * nm B)) = nm (x + nm (b - a) * nm B)) := fun x B => by rw [← HDD.out]; exact twl_num _ _ _ _
            go_wp2_with (first | (go_at_call 13; refine (rInY _ _ _ _ htz hti).mono ?_; rintro e w3 ⟨rfl, hw⟩; have hw := hw.symm; subst hw) | (go_at_call 14; rw [HMX.out]; refine (rTwoNeed t _ ht4).mono ?_; rintro e w3 ⟨rfl, hw⟩; have hw := hw.symm; subst hw; rw [HNE.out]))
            go_loopw [13, 18, 19] (fun v p i wr => ∃ i' : Nat, i' ≤ t + 1 ∧ i = .int .i64 i' ∧ p = .int .i64 (pp t i' i' : Int) ∧ wr.ownsRow w1.heap.size 23 1 v (pp t i' i') ((twl who k a b ds t (pp t i' i')).map (Value.int .u64)) ∧ Below w1.heap.size w1 wr) (fun _ _ i _ => t + 1 - (intOf i).toNat)
            case atStart => exact ⟨0, Nat.zero_le _, rfl, rfl, World.ownsRow_nil _ _ _ _, Below.refl _ _⟩
            case round =>
              obtain ⟨i, hi, rfl, rfl, hown, hbel⟩ := hrel
              by_cases hlt : i ≤ t
              · have hlti : (i : Int) ≤ (t : Int) := by omega
                obtain ⟨wo, hwo⟩ : ∃ x, x = wr := ⟨_, rfl⟩
                subst hwo
                go_wp2
                go_loopw [13, 18, 20] (fun v p j wr => ∃ j' : Nat, i ≤ j' ∧ j' ≤ t + 1 ∧ j = .int .i64 j' ∧ p = .int .i64 (pp t i j' : Int) ∧ wr.ownsRow w1.heap.size 23 1 v (pp t i j') ((twl who k a b ds t (pp t i j')).map (Value.int .u64)) ∧ Below w1.heap.size w1 wr) (fun _ _ j _ => t + 1 - (intOf j).toNat)
                case atStart => exact ⟨i, Nat.le_refl _, by omega, rfl, rfl, hown, hbel⟩
                case round =>
                  clear hown hbel
                  obtain ⟨j, hij, hj, rfl, rfl, hown, hbel⟩ := hrel
                  have hple := pp_le ht4 hlt hij hj
                  by_cases hjt : j ≤ t
                  · have hjti : (j : Int) ≤ (t : Int) := by omega
                    by_cases h0 : 0 < i + j
                    · have h0i : (0 : Int) < (i : Int) + (j : Int) := by omega
                      have HPS : Hid (pp t i (j + 1) = pp t i j + 1) := pp_step ht4 hij hjt h0
                      have hplt := pp_lt ht4 hij hjt h0
                      rw [HM.out] at hplt
                      have HTS : Hid (twl who k a b ds t (pp t i j) ++ [nm (ds.getD (pp t i j) 0 + nm (b - a) * nm ((bl who k).getD i 0 * (bl who k).getD j 0))] = twl who k a b ds t (pp t i (j + 1))) := twl_step ht4 hij hjt h0
                      obtain ⟨p, HPP⟩ : ∃ p, Hid (pp t i j = p) := ⟨_, rfl⟩
                      rw [HPP.out] at hown HPS hplt HTS hple ⊢
                      have hbw := hbel1.trans (hbel.mono hbel1.size)
                      obtain ⟨bb, o, x, rfl, hbb, HX, hx0, hx1, hcx⟩ := (dh.below hbw).one hplt
                      obtain ⟨Bi, HBi⟩ : ∃ B, Hid ((bl who k).getD i 0 = B) := ⟨_, rfl⟩
                      obtain ⟨Bj, HBj⟩ : ∃ B, Hid ((bl who k).getD j 0 = B) := ⟨_, rfl⟩
                      have hBi := getD_bd' (bl_bd who k) i
                      have hBj := getD_bd' (bl_bd who k) j
                      rw [HBi.out] at hBi HTS
                      rw [HBj.out] at hBj HTS
                      rw [HX.out, ← HSN.out] at HTS
                      have hM1 := nm_bd (Bi * Bj)
                      have hM2 := nm_bd (D * nm (Bi * Bj))
                      have hbs := hbel.size
                      have HALL : Hid (∀ w', Below wr.heap.size wr w' → w'.cell? ⟨bb, o + p, none⟩ = some (.int .u64 x) ∧ bb < w'.heap.size) := fun w' hb => ⟨by rw [hb.cell hbb]; exact hcx, Nat.lt_of_lt_of_le hbb hb.size⟩
                      have HRD : Hid (∀ w', Below wr.heap.size wr w' → RdI w' aw k cw who) := fun w' hb => (hho.below hbw).below hb
                      have HOW : Hid (∀ w', Below wr.heap.size wr w' → ∀ v, wr.ownsRow w1.heap.size 23 1 v p ((twl who k a b ds t p).map (Value.int .u64)) → w'.ownsRow w1.heap.size 23 1 v p ((twl who k a b ds t p).map (Value.int .u64))) := fun w' hb v ho => own_below ho hb
                      have hcur : Below wr.heap.size wr wr.drew := (Below.refl _ _).drew
                      have hp0 : (0 : Int) ≤ (p : Int) := by omega
                      have hpq : (p : Int) < (q : Int) := by omega
                      go_upto_region 25 with fail
                      go_region_law (first | (refine step_app1 Try.underlying24 info23 _ rfl _ _ rfl w1.heap.size _ p (twl who k a b ds t p) rfl (HOW.out _ hcur _ hown) (nm (x + nm (D * nm (Bi * Bj)))) (by simp [Act.eval]) rfl (by omega) (Nat.le_trans hbs hcur.size) ?_; intro v7 w7 hown7 hbel7; rw [HTS.out] at hown7) | (go_simp; go_at_call_of 10 (Value.int .i64 (i : Int)); refine (rBlind _ k _ who i _ (HRD.out _ hcur) hk9 HD.out (by omega)).mono ?_; rintro e w3 ⟨rfl, hb⟩; rw [HBi.out]; have hcur := hcur.trans (hb.mono hcur.size); obtain ⟨hc3, hl3⟩ := HALL.out _ hcur; clear hb) | (go_simp; go_at_call_of 10 (Value.int .i64 (j : Int)); refine (rBlind _ k _ who j _ (HRD.out _ hcur) hk9 HD.out (by omega)).mono ?_; rintro e w4 ⟨rfl, hb⟩; rw [HBj.out]; have hcur := hcur.trans (hb.mono hcur.size); obtain ⟨hc4, hl4⟩ := HALL.out _ hcur; clear hb) | (go_simp; go_at_call_of 9 (Value.int .u64 Bi); refine (rMul Bi Bj _ (by omega) (by omega) (by omega) (by omega)).mono ?_; rintro e w5 ⟨rfl, hw⟩; have hw := hw.symm; subst hw) | (go_simp; go_at_call_of 9 (Value.int .u64 D); refine (rMul D (nm (Bi * Bj)) _ (by omega) (by omega) (by omega) (by omega)).mono ?_; rintro e w5 ⟨rfl, hw⟩; have hw := hw.symm; subst hw) | (go_simp; go_at_call 6; refine (rAdd x (nm (D * nm (Bi * Bj))) _ hx0 hx1 (by omega) (by omega)).mono ?_; rintro e w5 ⟨rfl, hw⟩; have hw := hw.symm; subst hw))
                      all_goals
                        have hbel8 := (hbel.trans (hcur.mono hbs)).trans hbel7
                        clear HALL HRD HOW hown hbel hcur hcx hbel7 hbb
                        go_wp2
                        go_roundw
                        case rel => exact ⟨j + 1, by omega, by omega, by go_num, by rw [HPS.out]; go_num, by rw [HPS.out] at hown7 ⊢; exact hown7, hbel8⟩
                        case measure => simp [intOf]; omega
                    · have hi0 : i = 0 := by omega
                      have hj0 : j = 0 := by omega
                      subst hi0 hj0
                      have h0n : ¬ ((0 : Int) < ((0 : Nat) : Int) + ((0 : Nat) : Int)) := by omega
                      have HPF : Hid (pp t 0 (0 + 1) = pp t 0 0) := pp_first t
                      go_wp2
                      go_roundw
                      case rel => exact ⟨0 + 1, by omega, by omega, by go_num, by rw [HPF.out], by rw [HPF.out]; exact hown, hbel⟩
                      case measure => simp [intOf]
                  · obtain rfl : j = t + 1 := by omega
                    have HPR : Hid (pp t i (t + 1) = pp t (i + 1) (i + 1)) := pp_row t i
                    rw [HPR.out] at hown ⊢
                    have hjn : ¬ (((t + 1 : Nat) : Int) ≤ (t : Int)) := by omega
                    go_wp2
                    go_roundw
                    case rel => exact ⟨i + 1, by omega, by go_num, rfl, hown, hbel⟩
                    case measure => simp [intOf]; omega
              · obtain rfl : i = t + 1 := by omega
                have hin : ¬ (((t + 1 : Nat) : Int) ≤ (t : Int)) := by omega
                rw [pp_end ht4, HM.out] at hown
                have hbw := hbel1.trans (hbel.mono hbel1.size)
                have HG : Hid (Gth (wlt who k (t : Int) a b ds q 0) wr _) := gth_own (L := twl who k a b ds (t : Int).toNat q) hown (twl_len _ _ _ _ _ _ _) (bd_u64 (twl_bd _ _ _ _ _ _ _))
                go_wp2
                go_meet
                case rel => exact ⟨0, rfl, HE, HG, hbw⟩
          · have HE : Hid (Hte who k t q 1) := .inr ⟨HD.out, .inl ⟨fun e => hok ⟨by omega, by have := e.2.2; rw [Int.toNat_natCast, HM.out] at this; exact this⟩, rfl⟩⟩
            by_cases hkt : (t : Int) < (k : Int)
            · clear hok
              go_wp2_with (first | (go_at_call 13; refine (rInY _ _ _ _ htz hti).mono ?_; rintro e w3 ⟨rfl, hw⟩; have hw := hw.symm; subst hw) | (go_at_call 14; rw [HMX.out]; refine (rTwoNeed t _ ht4).mono ?_; rintro e w3 ⟨rfl, hw⟩; have hw := hw.symm; subst hw; rw [HNE.out]))
              go_meet
              case rel => exact ⟨1, rfl, HE, gth_nil _, hbel1⟩
            · have hqM : ((q : Int) != (M : Int)) = true := by rw [bne_iff_ne]; exact fun e => hok ⟨by omega, by omega⟩
              clear hok
              go_wp2_with (first | (go_at_call 13; refine (rInY _ _ _ _ htz hti).mono ?_; rintro e w3 ⟨rfl, hw⟩; have hw := hw.symm; subst hw) | (go_at_call 14; rw [HMX.out]; refine (rTwoNeed t _ ht4).mono ?_; rintro e w3 ⟨rfl, hw⟩; have hw := hw.symm; subst hw; rw [HNE.out]))
              go_meet
              case rel => exact ⟨1, rfl, HE, gth_nil _, hbel1⟩
        · have HE : Hid (Hte who k t q 1) := .inr ⟨HD.out, .inl ⟨fun e => ht e.1, rfl⟩⟩
          have HT : Hid (t < 0 ∨ 4 < t) := by unfold Hid; omega
          clear ht
          go_wp2_with (go_at_call 13; refine (rInN _ _ _ _ HT.out).mono ?_; rintro e w3 ⟨rfl, hw⟩; have hw := hw.symm; subst hw)
          go_meet
          case rel => exact ⟨1, rfl, HE, gth_nil _, hbel1⟩
    case rest =>
      obtain ⟨r, rfl, HE, HG, hbel⟩ := hcut
      obtain ⟨w6, hw6⟩ : ∃ x, x = wc := ⟨_, rfl⟩
      subst hw6
      obtain ⟨aG, cG, rfl, hrG⟩ := HG.out
      clear HG hb4
      go_wp2_with fail
      refine (eTwine _ _ _ _ _ _ _ _ _ _ _ _ (hho.below hbel) ht0 ht1 ha0 ha1 hb0 hb1 (dh.below hbel)).mono ?_
      intro e w7 hh
      have hb7' := hh.2
      obtain ⟨a3, c3, rfl, hr3⟩ := hh.rd HE.out
      have hb7 := hbel.trans (hb7'.mono hbel.size)
      have hrG3 := hrG.below hb7'
      clear hh hrG hbel hb7'
      go_wp2_with fail
      refine (cSame _ _ _ _ _ _ _ _ hr3 hrG3).mono ?_
      rintro e w8 ⟨rfl, hb8'⟩
      have hb8 := hb7.trans (hb8'.mono hb7.size)
      clear hr3 hrG3 hb7 hb8' HE
      go_wp2
      go_ret
      exact ⟨rfl, hb8⟩
end
end Go.Proofs.Ytljlioglpaogdac
