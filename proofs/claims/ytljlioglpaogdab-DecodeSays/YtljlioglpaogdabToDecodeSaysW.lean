/- croftref.Decode, Robust. · The walk of croftlaw.DecodeSays. -/
import Derived.Test.YtljlioglpaogdabToBwM
import Derived.Test.YtljlioglpaogdabToMissC
import Derived.Test.YtljlioglpaogdabToDecC
import Derived.Test.YtljlioglpaogdabToTwoC
import Derived.Test.YtljlioglpaogdabToEqIC
namespace Go.Proofs.Ytljlioglpaogdab
set_option linter.unusedVariables false
set_option maxRecDepth 100000
set_option maxHeartbeats 8000000
section
open Crm Go.RowKit
theorem bit_int (s k : Nat) : ((s : Int) / 2 ^ k).tmod 2 = ((s / 2 ^ k % 2 : Nat) : Int) := by
  have e : (s : Int) / 2 ^ k = ((s / 2 ^ k : Nat) : Int) := by norm_cast
  rw [e]
  exact Int.ofNat_tmod _ _ ▸ rfl
theorem slt_yes {l : List (Int × Int)} {s k : Nat} {x y : Int} (hb : s / 2 ^ k % 2 = 1) (hx : (l.getD k (0, 0)).1 = x) (hy : (l.getD k (0, 0)).2 = y) : slt l s (k + 1) = slt l s k ++ [(x, y)] ∧ ult l s (k + 1) = ult l s k := by
  rw [slt, ult, if_pos hb, if_pos hb, ← hx, ← hy]; exact ⟨rfl, rfl⟩
theorem slt_no {l : List (Int × Int)} {s k : Nat} {x y : Int} (hb : ¬ s / 2 ^ k % 2 = 1) (hx : (l.getD k (0, 0)).1 = x) (hy : (l.getD k (0, 0)).2 = y) : slt l s (k + 1) = slt l s k ∧ ult l s (k + 1) = ult l s k ++ [(x, y)] := by
  rw [slt, ult, if_neg hb, if_neg hb, ← hx, ← hy]; exact ⟨rfl, rfl⟩

theorem bd_list {l : List (Int × Int)} {n : Nat} {Q : Int × Int → Prop} (h : ∀ x ∈ l, Q x) (hl : l.length = n) : ∀ i, i < n → Q (l.getD i (0, 0)) := fun i hi => by
  have e : l.getD i (0, 0) = l[i]'(by omega) := by simp [List.getElem?_eq_getElem (show i < l.length by omega)]
  rw [e]; exact h _ (List.getElem_mem _)
theorem mem_list {l : List (Int × Int)} {n : Nat} {Q : Int × Int → Prop} (h : ∀ i, i < n → Q (l.getD i (0, 0))) (hl : l.length = n) : ∀ x ∈ l, Q x := fun x hx => by
  obtain ⟨i, hi, e⟩ := List.getElem_of_mem hx
  have := h i (by omega)
  have e2 : l.getD i (0, 0) = l[i] := by simp [List.getElem?_eq_getElem hi]
  rw [e2, e] at this; exact this

theorem rDecodeL (t e : Nat) (a : Option Addr) (n c : Nat) (l : List (Int × Int)) (w : World) (h : RdS w a n c l) (hd : dis (fa l) n) (ht : t ≤ 4) (he : e ≤ 4) (hn : t + 1 + 2 * e ≤ n) :
    Calls Try.prog 9 #[.int .i64 t, .int .i64 e, .slice a n c] w fun en w' => Dcs l n t e w en w' := by
  have hn9 := dis_nine hd
  have HD : Hid (dis (fa l) n) := hd
  clear hd
  obtain ⟨S, HSn⟩ : ∃ S : Nat, Hid (S = 2 ^ n) := ⟨_, rfl⟩
  have hSi : (2 : Int) ^ n = (S : Int) := by rw [HSn.out]; norm_cast
  have hS5 : S ≤ 512 := by rw [HSn.out]; exact Nat.pow_le_pow_right (n := 2) (by omega) hn9
  go_enter Try.func9, Try.ntmps9
  go_wp2_with fail
  refine (rShares _ _ _ _ _ _ h).mono ?_
  rintro en w1 ⟨r, rfl, hS, hb1⟩
  have hr : r = 0 := by
    rcases hS with ⟨h1, _⟩ | ⟨_, h1, _⟩ | ⟨_, _, h1, _⟩ | ⟨_, _, _, h1⟩
    · omega
    · exact absurd HD.out h1
    · omega
    · exact h1
  subst hr
  clear hS
  go_wp2_with (go_at_call 16; refine (rInY _ _ _ _ (by omega) (by omega)).mono ?_; rintro en w' ⟨rfl, hw⟩; have hw := hw.symm; subst hw)
  go_loopw [10] (fun i wr => ∃ s : Nat, s ≤ S ∧ i = .int .i64 s ∧ Hid (Nope l n t e s) ∧ Below w.heap.size w wr) (fun i _ => S - (intOf i).toNat)
  case atStart => exact ⟨0, Nat.zero_le _, rfl, nope_zero _ _ _ _, hb1⟩
  case round =>
    obtain ⟨s, hs, rfl, HN, hbel⟩ := hrel
    obtain ⟨wo, hwo⟩ : ∃ wo, wo = wr := ⟨_, rfl⟩
    subst hwo
    by_cases hlt : s < S
    · have hs1 := hbel.size
      go_wp2
      go_loopw [11, 12, 13] (fun v1 v2 i wr => ∃ k : Nat, k ≤ n ∧ i = .int .i64 k ∧ Two wr wo.heap.size 73 v1 v2 (slt l s k) (ult l s k) ∧ Below wo.heap.size wo wr) (fun _ _ i _ => n - (intOf i).toNat)
      case atStart => exact ⟨0, Nat.zero_le _, rfl, Two.start _ _ _, Below.refl _ _⟩
      case round =>
        obtain ⟨k, hk, rfl, hT, hb2⟩ := hrel
        have hs2 := hb2.size
        have hul := ult_le l s k
        have hbw := hbel.trans (hb2.mono hs1)
        by_cases hkn : k < n
        · obtain ⟨b, o, x, y, rfl, hbb, HX, HY, hx0, hx1, hy0, hy1, hcx, hcy⟩ := (h.below hbw).one hkn
          by_cases hbit : s / 2 ^ k % 2 = 1
          · have hbb2 : (((s : Int) / 2 ^ k).tmod 2 == 1) = true := by rw [bit_int, hbit]; rfl
            obtain ⟨e1, e2⟩ := slt_yes hbit HX.out HY.out
            have HT2 : Hid (∀ v' w', w'.ownsRow wo.heap.size 73 2 v' ((slt l s k).length + 1) (shc (slt l s k ++ [(x, y)])) → wr.grownBy w' u11.ownBlock → (v'.ownBlock = u11.ownBlock ∨ ∃ k, v'.ownBlock = some k ∧ wr.heap.size ≤ k) → Two w' wo.heap.size 73 v' u12 (slt l s (k + 1)) (ult l s (k + 1))) := by
              intro v' w' g1 g2 g3
              rw [e1, e2]
              exact hT.add g1 g2 g3
            have hown := hT.o1
            obtain ⟨N1, HN1⟩ : ∃ N1, Hid ((slt l s k).length = N1) := ⟨_, rfl⟩
            rw [HN1.out] at hown hul HT2
            clear hbit e1 e2
            go_wp2_with (at_builtin; refine wpList_appS2 Try.underlying22 infoSh _ rfl _ _ rfl wo.heap.size _ _ _ rfl hown _ _ rfl (by omega) (by omega) ?_; intro v' w7 hown7 hgr7 hat7; have hT7 := HT2.out v' w7 hown7 hgr7 hat7; have hb7 := hb2.grown hgr7 hs2 (fun j hj => (hown.lt j hj).1); clear hown7 hgr7 hat7)
            go_roundw
            case rel => exact ⟨k + 1, by omega, by go_num, hT7, hb7⟩
            case measure => simp [intOf]; omega
          · have hbb2 : (((s : Int) / 2 ^ k).tmod 2 == 1) = false := by
              rw [bit_int, beq_eq_false_iff_ne]; omega
            obtain ⟨e1, e2⟩ := slt_no hbit HX.out HY.out
            have HT2 : Hid (∀ v' w', w'.ownsRow wo.heap.size 73 2 v' ((ult l s k).length + 1) (shc (ult l s k ++ [(x, y)])) → wr.grownBy w' u12.ownBlock → (v'.ownBlock = u12.ownBlock ∨ ∃ k, v'.ownBlock = some k ∧ wr.heap.size ≤ k) → Two w' wo.heap.size 73 u11 v' (slt l s (k + 1)) (ult l s (k + 1))) := by
              intro v' w' g1 g2 g3
              rw [e1, e2]
              exact (hT.swap.add g1 g2 g3).swap
            have hown := hT.o2
            obtain ⟨N1, HN1⟩ : ∃ N1, Hid ((ult l s k).length = N1) := ⟨_, rfl⟩
            rw [HN1.out] at hown hul HT2
            clear hbit e1 e2
            go_wp2_with (at_builtin; refine wpList_appS2 Try.underlying22 infoSh _ rfl _ _ rfl wo.heap.size _ _ _ rfl hown _ _ rfl (by omega) (by omega) ?_; intro v' w7 hown7 hgr7 hat7; have hT7 := HT2.out v' w7 hown7 hgr7 hat7; have hb7 := hb2.grown hgr7 hs2 (fun j hj => (hown.lt j hj).1); clear hown7 hgr7 hat7)
            go_roundw
            case rel => exact ⟨k + 1, by omega, by go_num, hT7, hb7⟩
            case measure => simp [intOf]; omega
        · have hkn' : k = n := by omega
          subst hkn'
          have hl := h.len
          have hbd := mem_list (Q := fun p => (-9223372036854775808 ≤ p.1 ∧ p.1 ≤ 9223372036854775807) ∧ 0 ≤ p.2 ∧ p.2 ≤ 18446744073709551615) h.bd hl
          have hbj : ∀ x ∈ jn l s k, (-9223372036854775808 ≤ x.1 ∧ x.1 ≤ 9223372036854775807) ∧ 0 ≤ x.2 ∧ x.2 ≤ 18446744073709551615 := fun x hx => hbd x ((jn_perm hl s).mem_iff.1 hx)
          obtain ⟨a1, c1, rfl, hr1⟩ := RdS.own hT.o1 rfl (bd_list (fun x hx => hbj x (List.mem_append_left _ hx)) rfl)
          obtain ⟨a2, c2, rfl, hr2⟩ := RdS.own hT.o2 rfl (bd_list (fun x hx => hbj x (List.mem_append_right _ hx)) rfl)
          have hown1 := hT.o1
          have HJB : Hid (∀ i, i < k → (-9223372036854775808 ≤ ((jn l s k).getD i (0, 0)).1 ∧ ((jn l s k).getD i (0, 0)).1 ≤ 9223372036854775807) ∧ 0 ≤ ((jn l s k).getD i (0, 0)).2 ∧ ((jn l s k).getD i (0, 0)).2 ≤ 18446744073709551615) := bd_list hbj (jn_len hl s)
          have HJL : Hid ((jn l s k).length = k) := jn_len hl s
          have HJD : Hid (dis (fa (jn l s k)) k) := dis_perm hl (jn_perm hl s) HD.out
          have HJE : Hid (slt l s k ++ ult l s k = jn l s k) := rfl
          obtain ⟨N1, HN1⟩ : ∃ N1, Hid ((slt l s k).length = N1) := ⟨_, rfl⟩
          obtain ⟨N2, HN2⟩ : ∃ N2, Hid ((ult l s k).length = N2) := ⟨_, rfl⟩
          rw [HN1.out] at hown1 hul hr1 ⊢
          rw [HN2.out] at hul hr2 ⊢
          have HNN : Hid (N1 + N2 = k) := hul
          clear hT hr1 hbd hbj
          by_cases hN1 : N1 = t + 1
          · subst hN1
            clear hul
            have hN2 : t + 1 + N2 ≤ 1000 := by have := HNN.out; omega
            go_wp2_with (at_builtin; refine wpList_appSS Try.underlying22 infoSh rfl _ _ rfl wo.heap.size _ _ _ rfl hown1 _ _ _ _ hr2 rfl hN2 hs2 ?_; intro v3 w3 hown3 hb3; rw [HNN.out, HJE.out] at hown3; obtain ⟨a3, c3, rfl, hr3⟩ := RdS.own hown3 HJL.out HJB.out; clear hown3 hown1 hr2)
            have hb3w := hbw.trans (hb3.mono hs1)
            refine (rFitO _ _ _ _ t _ hr3 HJD.out (by omega)).mono ?_
            rintro en w4 ⟨q, aq, cq, B, ab, cb, rfl, hoq, hql, hHs, hNm, hob, hO, hb4⟩
            have hb4w := hb3w.trans (hb4.mono hb3w.size)
            have hs4 := hb4.size
            have hbl := bdl_le (jn l s k) q k
            by_cases hbe : (bdl (jn l s k) q k).length ≤ e
            · have HDc : Hid (Dcd l k t e (pdn q (t + 1)) B 0) := jn_found h.len HD.out ht he hn hql hbe hO
              have HBb : Hid (∀ x ∈ B, -9223372036854775808 ≤ x ∧ x ≤ 9223372036854775807) := bdl_bd HJD.out hO
              have HQb : Hid (∀ x ∈ q, 0 ≤ x ∧ x ≤ 2147483646) := hNm.bd
              obtain ⟨NB, HNB⟩ : ∃ NB, Hid ((bdl (jn l s k) q k).length = NB) := ⟨_, rfl⟩
              obtain ⟨LQ, HLQ⟩ : ∃ LQ, Hid (q.length = LQ) := ⟨_, rfl⟩
              have hoq2 : w4.ownsRow w3.heap.size 28 1 (.slice aq q.length cq) q.length ((pad0 q q.length).map (Value.int .u64)) := by rw [pad0_self]; exact hoq
              rw [HLQ.out] at hoq2 hql ⊢
              rw [HNB.out] at hob hbl hbe ⊢
              have hbq3 := hb4
              clear hoq hHs hNm hO hb3 hb4 hr3
              have hbe2 : decide (e < NB) = false := decide_eq_false (by omega)
              obtain ⟨wq, hwq⟩ : ∃ wq, wq = w4 := ⟨_, rfl⟩
              subst hwq
              go_wp2
              go_loopw [14] (fun v wr => ∃ j : Nat, LQ ≤ j ∧ j ≤ t + 1 ∧ slen v = j ∧ wr.ownsRow w3.heap.size 28 1 v j ((pad0 q j).map (Value.int .u64)) ∧ wr.ownsRow w3.heap.size 3 1 (.slice ab NB cb) NB (zns B) ∧ Below w3.heap.size w3 wr ∧ Below w.heap.size w wr) (fun v _ => t + 1 - slen v)
              case atStart => exact ⟨LQ, Nat.le_refl _, hql, rfl, hoq2, hob, hbq3, hb4w⟩
              case round =>
                clear hoq2 hob hbq3 hb4w
                obtain ⟨j, hj1, hj2, hsl, hop, hobr, hb5, hb5w⟩ := hrel
                obtain ⟨ap, cp, rfl, hcp⟩ := own_slice hop
                have hs5 := hb5.size
                by_cases hjt : j < t + 1
                · have HP : Hid ((pad0 q j).map (Value.int .u64) ++ [.int .u64 0] = (pad0 q (j + 1)).map (Value.int .u64)) := by
                    unfold Hid
                    rw [← pad0_snoc (show q.length ≤ j by rw [HLQ.out]; exact hj1), List.map_append]; rfl
                  have hap := own_apart hop hobr (by decide)
                  have HAP : Hid (_ ∨ _) := hap
                  clear hap
                  go_wp2_with (at_builtin; refine wpList_appV Try.underlying23 infoU rfl (by omega) _ rfl _ _ rfl w3.heap.size _ _ _ rfl hop (.int .u64 0) rfl rfl (by omega) hs5 ?_; intro v' w7 hown7 hgr7 _; rw [HP.out] at hown7; have hob7 := hobr.kept hgr7 HAP.out; have hb7 := hb5.grown hgr7 hs5 (fun i hi => (hop.lt i hi).1); have hb7w := hb5w.grown hgr7 hb5w.size (fun i hi => Nat.le_trans hb3w.size (hop.lt i hi).1); obtain ⟨a7, c7, rfl, _⟩ := own_slice hown7; clear hgr7 hop hobr hb5 hb5w)
                  go_roundw
                  case rel => exact ⟨j + 1, by omega, by omega, rfl, hown7, hob7, hb7, hb7w⟩
                  case measure => simp [slen]; omega
                · have hjt2 : j = t + 1 := by omega
                  subst hjt2
                  rw [pad0_pdn HQb.out (by rw [HLQ.out]; exact hql)] at hop
                  obtain ⟨a6, c6, e6, hrP, _⟩ := Rd.own hop (bd_u64 (pdn_bd q (t + 1)))
                  simp only [Value.slice.injEq, true_and] at e6
                  obtain ⟨rfl, rfl⟩ := e6
                  obtain ⟨a8, c8, e8, hrB⟩ := RdI.own hobr HBb.out
                  simp only [Value.slice.injEq, true_and] at e8
                  obtain ⟨rfl, rfl⟩ := e8
                  clear hop hobr hb5
                  go_wp2
                  go_ret3
                  exact ⟨_, B, 0, _, _, _, _, _, _, rfl, HDc.out, hrP, hrB, hb5w⟩
            · have HN3 : Hid (Nope l k t e (s + 1)) := nope_bad h.len HD.out HN.out HN1.out hql hHs (by omega)
              obtain ⟨NB, HNB⟩ : ∃ NB, Hid ((bdl (jn l s k) q k).length = NB) := ⟨_, rfl⟩
              obtain ⟨LQ, HLQ⟩ : ∃ LQ, Hid (q.length = LQ) := ⟨_, rfl⟩
              rw [HLQ.out, HNB.out]
              rw [HNB.out] at hbl hbe
              clear hoq hHs hNm hO hob hb3 hb4 hr3
              have hbe2 : (e : Int) < (NB : Int) := by omega
              go_wp2
              go_roundw
              case rel => exact ⟨s + 1, by omega, by go_num, HN3, hb4w⟩
              case measure => simp [intOf]; omega
          · have hN1b : (((N1 : Nat) : Int) != (t : Int) + 1) = true := by rw [bne_iff_ne]; omega
            have HN3 : Hid (Nope l k t e (s + 1)) := nope_skip HN.out (by rw [HN1.out]; exact hN1)
            go_wp2
            go_roundw
            case rel => exact ⟨s + 1, by omega, by go_num, HN3, hbw⟩
            case measure => simp [intOf]; omega
    · have hsn : s = S := by omega
      have HF : Hid (∀ p, ¬ Few l n t e p) := by have h1 := HN.out; rw [hsn, HSn.out] at h1; exact nope_end h1 hn
      have HDc : Hid (Dcd l n t e [] [] 6) := .inr (.inr (.inr (.inr ⟨⟨⟨by omega, by omega⟩, HD.out⟩, ⟨by omega, by omega⟩, by omega, HF.out, rfl, rfl, rfl⟩)))
      clear HF
      go_wp2
      go_ret3
      exact ⟨_, _, 6, _, _, _, _, _, _, rfl, HDc.out, nil_rd _, nil_rdI _, hbel⟩

theorem rDecode (t e : Int) (a : Option Addr) (n c : Nat) (l : List (Int × Int)) (w : World) (h : RdS w a n c l) :
    Calls Try.prog 9 #[.int .i64 t, .int .i64 e, .slice a n c] w fun en w' => Dcs l n t e w en w' := by
  have hcap := h.cap
  have hmax := h.max
  unfold maxLen at hmax
  by_cases hok : Shd l n t ∧ (0 ≤ e ∧ e ≤ 4) ∧ t + 1 + 2 * e ≤ (n : Int)
  · obtain ⟨hS, he, hn⟩ := hok
    have ht := hS.1
    obtain ⟨k, rfl⟩ : ∃ k : Nat, t = k := ⟨t.toNat, by omega⟩
    obtain ⟨d, rfl⟩ : ∃ d : Nat, e = d := ⟨e.toNat, by omega⟩
    exact rDecodeL _ _ _ _ _ _ _ h hS.2 (by omega) (by omega) (by omega)
  · have HOK : Hid (¬ (Shd l n t ∧ (0 ≤ e ∧ e ≤ 4) ∧ t + 1 + 2 * e ≤ (n : Int))) := hok
    clear hok
    go_enter Try.func9, Try.ntmps9
    go_wp2_with fail
    refine (rShares _ _ _ _ _ _ h).mono ?_
    rintro en w1 ⟨r, rfl, hS, hb1⟩
    by_cases hr : r = 0 ∨ r = 4
    · have HS : Hid (Shd l n t) := hS.shd hr
      have hS1 := (hS.shd hr).1
      clear hS
      by_cases he : e < 0 ∨ 4 < e
      · have HE : Hid (e < 0 ∨ 4 < e) := he
        have HDc : Hid (Dcd l n t e [] [] 1) := .inr (.inl ⟨HS.out, he, rfl, rfl, rfl⟩)
        clear he
        rcases hr with rfl | rfl
        all_goals
          go_wp2_with (go_at_call 16; refine (rInN _ _ _ _ HE.out).mono ?_; rintro en w' ⟨rfl, hw⟩; have hw := hw.symm; subst hw)
          go_ret3
          exact ⟨_, _, 1, _, _, _, _, _, _, rfl, HDc.out, nil_rd _, nil_rdI _, hb1⟩
      · have hn : (n : Int) < t + 1 + 2 * e := by
          refine Int.not_le.1 fun hh => HOK.out ⟨HS.out, ⟨by omega, by omega⟩, hh⟩
        have HDc : Hid (Dcd l n t e [] [] 4) := .inr (.inr (.inl ⟨HS.out, ⟨by omega, by omega⟩, hn, rfl, rfl, rfl⟩))
        rcases hr with rfl | rfl
        all_goals
          go_wp2_with (go_at_call 16; refine (rInY _ _ _ _ (by omega) (by omega)).mono ?_; rintro en w' ⟨rfl, hw⟩; have hw := hw.symm; subst hw)
          go_ret3
          exact ⟨_, _, 4, _, _, _, _, _, _, rfl, HDc.out, nil_rd _, nil_rdI _, hb1⟩
    · have HDc : Hid (Dcd l n t e [] [] r) := .inl ⟨⟨hS, fun e => hr (.inl e), fun e => hr (.inr e)⟩, rfl, rfl⟩
      have hr0 : (r != 0) = true := by rw [bne_iff_ne]; omega
      have hr4 : (r != 4) = true := by rw [bne_iff_ne]; omega
      clear hr hS
      go_wp2
      go_ret3
      exact ⟨_, _, r, _, _, _, _, _, _, rfl, HDc.out, nil_rd _, nil_rdI _, hb1⟩

theorem rRobust (t : Int) (a : Option Addr) (n c : Nat) (l : List (Int × Int)) (w : World) (h : RdS w a n c l) :
    Calls Try.prog 11 #[.int .i64 t, .slice a n c] w fun en w' => Ros l n t w en w' := by
  go_enter Try.func11, Try.ntmps11
  go_wp2_with fail
  refine (rShares _ _ _ _ _ _ h).mono ?_
  rintro en w1 ⟨r, rfl, hS, hb1⟩
  by_cases hr : r = 0
  · subst hr
    have HS : Hid (She l n t 0) := hS
    obtain ⟨t0, t4, hd, htn, hn9⟩ := hS.ok
    clear hd hS
    go_wp2
    go_loopw [8] (fun i wr => ∃ k : Nat, k ≤ 4 ∧ i = .int .i64 k ∧ (t + 1 + 2 * (k : Int) ≤ (n : Int)) ∧ wr = w1) (fun i _ => 4 - (intOf i).toNat)
    case atStart => exact ⟨0, by omega, rfl, by omega, rfl⟩
    case round =>
      obtain ⟨k, hk, rfl, hkn, hw⟩ := hrel
      have hw := hw.symm
      subst hw
      by_cases hk4 : k < 4 ∧ t + 1 + 2 * ((k : Int) + 1) ≤ (n : Int)
      · obtain ⟨h1, h2⟩ := hk4
        go_wp2
        go_roundw
        case rel => exact ⟨k + 1, by omega, by go_num, by omega, by trivial⟩
        case measure => simp [intOf]; omega
      · have HM : Hid ((k : Int) = mayb n t) := by unfold Hid mayb; omega
        have hk5 : ¬ (k < 4) ∨ (k < 4 ∧ ¬ (t + 1 + 2 * ((k : Int) + 1) ≤ (n : Int))) := by omega
        have HR : Hid (Calls Try.prog 9 #[.int .i64 t, .int .i64 k, .slice a n c] w1 fun en w' => Dcs l n t k w1 en w') := rDecode _ _ _ _ _ _ _ (h.below hb1)
        clear hk4
        rcases hk5 with hk5 | ⟨hk5, hk6⟩
        all_goals
          go_wp2_with fail
          refine HR.out.mono ?_
          rintro en w2 ⟨P, B, s, a1, k1, c1, a2, k2, c2, rfl, hD, hrP, hrB, hb2⟩
          rw [HM.out] at hD
          have hb12 := hb1.trans (hb2.mono hb1.size)
          by_cases hs : s = 0
          · subst hs
            have HD : Hid (Dcd l n t (mayb n t) P B 0) := hD
            obtain ⟨hPl, hPb⟩ := dcd_head hD
            have hk1 := hrP.len
            obtain ⟨b, o, x, rfl, hbb, HX, hx0, hx1, hcx⟩ := hrP.one (show 0 < k1 by omega)
            rw [Nat.add_zero] at hcx
            have hk0 : (0 : Int) < (k1 : Int) := by omega
            have HXn : Hid (nm x = x) := by
              have := getD_bd' hPb 0
              rw [HX.out] at this
              exact nm_small this.1 this.2
            have HN : Hid (Rob l n t x B 0) := .inr ⟨HS.out, P, B, 0, HD.out, .inr ⟨rfl, HX.out.symm, rfl, rfl⟩⟩
            clear hD hPb hb2 HR
            go_wp2_with (go_at_call 41; refine (rNorm _ _ (by omega) (by omega)).mono ?_; rintro en w' ⟨rfl, hw⟩; have hw := hw.symm; subst hw; rw [HXn.out])
            go_ret3
            exact ⟨x, B, 0, _, _, _, rfl, HN.out, hrB, hb12⟩
          · have hsb : (s != 0) = true := by rw [bne_iff_ne]; exact hs
            have HN : Hid (Rob l n t 0 [] s) := .inr ⟨HS.out, P, B, s, hD, .inl ⟨hs, rfl, rfl, rfl⟩⟩
            clear hD hs hb2 HR
            go_wp2
            go_ret3
            exact ⟨0, [], s, _, _, _, rfl, HN.out, nil_rdI _, hb12⟩
  · have hrb : (r != 0) = true := by rw [bne_iff_ne]; exact hr
    have HN : Hid (Rob l n t 0 [] r) := .inl ⟨hS, hr, rfl, rfl⟩
    clear hr hS
    go_wp2
    go_ret3
    exact ⟨0, [], r, _, _, _, rfl, HN.out, nil_rdI _, hb1⟩
theorem decodeSaysW (t e : Int) (a : Option Addr) (n c : Nat) (l : List (Int × Int)) (w : World) (h : RdS w a n c l) :
    Calls Try.prog 3 #[.int .i64 t, .int .i64 e, .slice a n c] w fun en w' => en = .returned (.bool true) ∧ Below w.heap.size w w' := by
  have hl := h.len
  go_enter Try.func3, Try.ntmps3
  go_wp2_with fail
  refine (cDecode _ _ _ _ _ _ _ h).mono ?_
  rintro en w1 ⟨P, B, r, a1, k1, c1, a2, k2, c2, rfl, hD1, hrP1, hrB1, hb1⟩
  have HD1 : Hid (Dcd l n t e P B r) := hD1
  clear hD1
  go_wp2_with fail
  refine (rDecode _ _ _ _ _ _ _ (h.below hb1)).mono ?_
  rintro en w2 ⟨P', B', r', a3, k3, c3, a4, k4, c4, rfl, hD2, hrP2, hrB2, hb2⟩
  obtain ⟨rfl, rfl, rfl⟩ := HD1.out.one hl hD2
  have hw2 := hb1.trans (hb2.mono hb1.size)
  have hrP1 := hrP1.below hb2
  have hrB1 := hrB1.below hb2
  clear HD1 hD2 hb1 hb2
  go_wp2_with fail
  refine (cOpenD _ _ _ _ _ _ (h.below hw2)).mono ?_
  rintro en w3 ⟨x, C, s, a5, k5, c5, rfl, hR1, hrC1, hb3⟩
  have HR1 : Hid (Rob l n t x C s) := hR1
  have hw3 := hw2.trans (hb3.mono hw2.size)
  have hrP1 := hrP1.below hb3
  have hrB1 := hrB1.below hb3
  have hrP2 := hrP2.below hb3
  have hrB2 := hrB2.below hb3
  clear hR1 hb3 hw2
  go_wp2_with fail
  refine (rRobust _ _ _ _ _ _ (h.below hw3)).mono ?_
  rintro en w4 ⟨x', C', s', a6, k6, c6, rfl, hR2, hrC2, hb4⟩
  obtain ⟨rfl, rfl, rfl⟩ := HR1.out.one hl hR2
  have hw4 := hw3.trans (hb4.mono hw3.size)
  have hrP1 := hrP1.below hb4
  have hrB1 := hrB1.below hb4
  have hrP2 := hrP2.below hb4
  have hrB2 := hrB2.below hb4
  have hrC1 := hrC1.below hb4
  clear HR1 hR2 hb4 hw3
  go_wp2_with fail
  refine (cSame _ _ _ _ _ _ _ _ hrP1 hrP2).mono ?_
  rintro en w5 ⟨rfl, hb5⟩
  have hw5 := hw4.trans (hb5.mono hw4.size)
  have hrB1 := hrB1.below hb5
  have hrB2 := hrB2.below hb5
  have hrC1 := hrC1.below hb5
  have hrC2 := hrC2.below hb5
  clear hrP1 hrP2 hb5 hw4
  go_wp2_with fail
  refine (zSame _ _ _ _ _ _ _ _ hrB1 hrB2).mono ?_
  rintro en w6 ⟨rfl, hb6⟩
  have hw6 := hw5.trans (hb6.mono hw5.size)
  have hrC1 := hrC1.below hb6
  have hrC2 := hrC2.below hb6
  clear hrB1 hrB2 hb6 hw5
  go_wp2_with fail
  refine (zSame _ _ _ _ _ _ _ _ hrC1 hrC2).mono ?_
  rintro en w7 ⟨rfl, hb7⟩
  have hw7 := hw6.trans (hb7.mono hw6.size)
  clear hrC1 hrC2 hb7 hw6
  go_wp2
  go_ret
  exact ⟨rfl, hw7⟩
end
end Go.Proofs.Ytljlioglpaogdab
