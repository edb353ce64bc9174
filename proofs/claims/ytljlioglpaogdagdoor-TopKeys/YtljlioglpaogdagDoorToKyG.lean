/- Package keys: New, Tweak, Combine, Multiply, Shares, Drop. · Package keys: Gen. -/
import Derived.Test.YtljlioglpaogdagDoorToRStG
import Derived.Test.YtljlioglpaogdagDoorToBadM
import Derived.Test.YtljlioglpaogdagDoorToRestC
import Derived.Test.YtljlioglpaogdagDoorToLsW
import Derived.Test.YtljlioglpaogdagDoorToRStB
namespace Go.Proofs.YtljlioglpaogdagDoor
set_option linter.unusedVariables false
set_option maxRecDepth 100000
set_option maxHeartbeats 8000000
section
open Crm Go.RowKit
theorem cNewK : KcNew := by
  intro n t w hn ht
  have hmm := @run_makeMap Tryd.prog
  unfold i64r at hn ht
  by_cases h0 : t < 0
  · have HB : Hid (¬ ((0 ≤ t ∧ t ≤ 4) ∧ n ≤ 9 ∧ 2 * t + 1 ≤ n)) := by unfold Hid; omega
    go_enter Tryd.func21, Tryd.ntmps21
    go_wp2
    go_ret2
    exact ⟨.inl ⟨HB.out, rfl⟩, Below.refl _ _⟩
  by_cases h1 : 4 < t
  · have HB : Hid (¬ ((0 ≤ t ∧ t ≤ 4) ∧ n ≤ 9 ∧ 2 * t + 1 ≤ n)) := by unfold Hid; omega
    go_enter Tryd.func21, Tryd.ntmps21
    go_wp2
    go_ret2
    exact ⟨.inl ⟨HB.out, rfl⟩, Below.refl _ _⟩
  by_cases h2 : n < 2 * t + 1
  · have HB : Hid (¬ ((0 ≤ t ∧ t ≤ 4) ∧ n ≤ 9 ∧ 2 * t + 1 ≤ n)) := by unfold Hid; omega
    go_enter Tryd.func21, Tryd.ntmps21
    go_wp2
    go_ret2
    exact ⟨.inl ⟨HB.out, rfl⟩, Below.refl _ _⟩
  by_cases h3 : 9 < n
  · have HB : Hid (¬ ((0 ≤ t ∧ t ≤ 4) ∧ n ≤ 9 ∧ 2 * t + 1 ≤ n)) := by unfold Hid; omega
    go_enter Tryd.func21, Tryd.ntmps21
    go_wp2
    go_ret2
    exact ⟨.inl ⟨HB.out, rfl⟩, Below.refl _ _⟩
  obtain ⟨t', rfl⟩ : ∃ k : Nat, t = k := ⟨t.toNat, by omega⟩
  obtain ⟨n', rfl⟩ : ∃ k : Nat, n = k := ⟨n.toNat, by omega⟩
  have ht4 : t' ≤ 4 := by omega
  have hn9 : n' ≤ 9 := by omega
  have hnt : 2 * t' + 1 ≤ n' := by omega
  obtain ⟨hX, hB⟩ := sto_new w ht4 hn9 hnt 107 rfl
  have HX : Hid (Stx _ _ _ _ _) := hX
  have HB : Hid (Below _ _ _) := hB
  clear hX hB
  go_enter Tryd.func21, Tryd.ntmps21
  go_wp2
  go_ret2
  exact ⟨.inr ⟨n', t', _, _, rfl, rfl, ht4, hn9, hnt, rfl, HX.out, fun i hi => hi.1⟩, HB.out⟩

theorem cTweakK : KcTweak := by
  intro p G s x u w h hx hu0 hu1 hlast
  have HH : Hid (Kst w p G s) := h
  have hn9 := h.wf.n9
  have hnt := h.wf.nt
  have hGl := h.lt
  obtain ⟨⟨b, V, hS, _⟩, _⟩ := h
  obtain ⟨c0, c1, c2, c3⟩ := hS.four
  have hpl := hS.lt
  have hM := hS.map
  rcases hS.val x with ⟨fx, vx⟩ | ⟨l, ax, cx, fx, vx, rx⟩
  · have HE : Hid (kmix s x x 1 0 u = (0, 4, s)) := by unfold Hid kmix; rw [fx]
    have HV : Hid (V x = none) := vx
    clear hS fx vx
    go_enter Tryd.func47, Tryd.ntmps47
    go_wp2_with (at_lookup; refine wpList_lookK _ rfl _ _ 105 rfl 22 Tryd.underlying105 _ (zeroL _) b s.cnt V rfl hM x rfl hx ?_; rw [HV.out]; simp only [Option.getD_none, Option.isSome_none])
    go_ret2
    rw [HE.out]
    exact ⟨rfl, HH.out.below (Below.refl _ _), Tch.refl _ _⟩
  · have HE : Hid (kmix s x x 1 0 u = kadd s (mxl l l 1 0 u s.n)) := by unfold Hid kmix; rw [fx]
    have HV : Hid (V x = some (.slice ax s.n cx)) := vx
    clear hS fx vx
    go_enter Tryd.func47, Tryd.ntmps47
    go_wp2_with (at_lookup; refine wpList_lookK _ rfl _ _ 105 rfl 22 Tryd.underlying105 _ (zeroL _) b s.cnt V rfl hM x rfl hx ?_; rw [HV.out]; simp only [Option.getD_some, Option.isSome_some])
    refine (cGPlus _ _ _ _ _ _ rx hu0 hu1).mono ?_
    rintro e w1 ⟨⟨hbad, _⟩ | ⟨_, v1, rfl, ho1⟩, hb1⟩
    · exact absurd ⟨by omega, by omega⟩ hbad
    obtain ⟨a1, k1, rfl, hr1, hx1⟩ := Rd.own ho1 (bd_u64 (mxl_bd _ _ _ _ _ _))
    have hG1 := gnx_new (G := G) hr1 (by omega) hx1
    have h1 := HH.out.below hb1
    clear ho1 hx1 c0 c1 c2 c3 hpl hM
    go_wp2_with fail
    refine (cKeepK p _ s _ _ _ _ h1 hr1 (mxl_bd _ _ _ _ _ _) hG1 hlast).mono ?_
    intro e w2 hK
    have HR : Hid (Kke p G (kadd s (mxl l l 1 0 u s.n)) w e w2) := Kde.behind hb1 hK hGl
    obtain ⟨rfl, _, _⟩ := hK
    clear h1 hr1 hG1 hb1
    go_wp2
    go_ret2
    rw [HE.out]
    exact HR.out

theorem cCombineK : KcCombine := by
  intro p G s g x u v w h hg hx hu0 hu1 hv0 hv1 hlast
  have hn9 := h.wf.n9
  have hnt := h.wf.nt
  have hGl := h.lt
  go_enter Tryd.func48, Tryd.ntmps48
  go_wp2_with fail
  refine (cBothK p G s g x w h hg hx).mono ?_
  rintro e w1 ⟨⟨hno, v1, u1, rfl⟩ | ⟨l, m, ag, cg, ax, cx, fg, fx, rfl, rg, rx⟩, hb1⟩
  · have HE : Hid (kmix s g x u v 0 = (0, 4, s)) := by
      unfold Hid kmix
      rcases hno with e | e
      · rw [e]
      · rw [e]; cases s.f g <;> rfl
    clear hno
    go_wp2
    go_ret2
    rw [HE.out]
    exact ⟨rfl, h.below hb1, Tch.of_below hb1⟩
  · have HE : Hid (kmix s g x u v 0 = kadd s (mxl l m u v 0 s.n)) := by unfold Hid kmix; rw [fg, fx]
    clear fg fx
    go_wp2_with fail
    refine (cGScale _ _ _ _ _ _ rg hu0 hu1).mono ?_
    rintro e w2 ⟨⟨hbad, _⟩ | ⟨_, v2, rfl, ho2⟩, hb2⟩
    · exact absurd ⟨by omega, by omega⟩ hbad
    obtain ⟨a2, k2, rfl, hr2, _⟩ := Rd.own ho2 (bd_u64 (mxl_bd _ _ _ _ _ _))
    have rx2 := rx.below hb2
    clear ho2 rx rg
    go_wp2_with fail
    refine (cGScale _ _ _ _ _ _ rx2 hv0 hv1).mono ?_
    rintro e w3 ⟨⟨hbad, _⟩ | ⟨_, v3, rfl, ho3⟩, hb3⟩
    · exact absurd ⟨by omega, by omega⟩ hbad
    obtain ⟨a3, k3, rfl, hr3, _⟩ := Rd.own ho3 (bd_u64 (mxl_bd _ _ _ _ _ _))
    have hr2' := hr2.below hb3
    clear ho3 rx2 hr2
    go_wp2_with fail
    refine (cGAdd _ _ _ _ _ _ _ _ _ hr2' hr3).mono ?_
    rintro e w4 ⟨⟨hbad, _⟩ | ⟨_, v4, rfl, ho4⟩, hb4⟩
    · exact absurd ⟨⟨by omega, by omega⟩, rfl⟩ hbad
    rw [mxl_two] at ho4
    have hb13 := hb1.trans ((hb2.trans (hb3.mono hb2.size)).mono hb1.size)
    have hb14 := hb13.trans (hb4.mono hb13.size)
    obtain ⟨a4, k4, rfl, hr4, hx4⟩ := Rd.own ho4 (bd_u64 (mxl_bd _ _ _ _ _ _))
    have hG4 := gnx_new (G := G) hr4 (by omega) (fun y hy => Nat.le_trans hb13.size (hx4 y hy))
    have h4 := h.below hb14
    clear ho4 hx4 hr2' hr3 hb1 hb2 hb3 hb4 hb13
    go_wp2_with fail
    refine (cKeepK p _ s _ _ _ _ h4 hr4 (mxl_bd _ _ _ _ _ _) hG4 hlast).mono ?_
    intro e w5 hK
    have HR : Hid (Kke p G (kadd s (mxl l m u v 0 s.n)) w e w5) := Kde.behind hb14 hK hGl
    obtain ⟨rfl, _, _⟩ := hK
    clear h4 hr4 hG4 hb14
    go_wp2
    go_ret2
    rw [HE.out]
    exact HR.out

theorem cMultiplyK : KcMultiply := by
  intro p G s g x ad q cd ds w h hg hx r hlast
  have ht4 := h.wf.t4
  have hn9 := h.wf.n9
  have hnt := h.wf.nt
  have hGl := h.lt
  have hlen := r.len
  go_enter Tryd.func50, Tryd.ntmps50
  go_wp2_with fail
  refine (cBothK p G s g x w h hg hx).mono ?_
  rintro e w1 ⟨⟨hno, v1, u1, rfl⟩ | ⟨l, m, ag, cg, ax, cx, fg, fx, rfl, rg, rx⟩, hb1⟩
  · have HE : Hid (kmul s g x ds = (0, 4, s)) := by
      unfold Hid kmul
      rcases hno with e | e
      · rw [e]
      · rw [e]; cases s.f g <;> rfl
    clear hno
    go_wp2
    go_ret2
    rw [HE.out]
    exact ⟨rfl, h.below hb1, Tch.of_below hb1⟩
  · obtain ⟨⟨b, V, hS, _⟩, _⟩ := h.same hb1
    obtain ⟨c0, c1, c2, c3⟩ := hS.four
    have hpl := hS.lt
    have rd := r.below hb1
    have HK : Hid (kmul s g x ds = if ds.length = s.n * s.t then kadd s (tmO s.t l m ds s.n s.n) else (0, 1, s)) := by unfold Hid kmul; rw [fg, fx]
    clear hS fg fx
    go_wp2_with fail
    refine (cGMul _ _ _ _ _ _ _ _ _ _ _ _ _ _ rg rx rd).mono ?_
    rintro e w2 ⟨⟨ε, hε, hG, rfl⟩ | ⟨hG, v2, u2, L2, rfl, ho2, _⟩, hb2⟩
    · have hb12 := hb1.trans (hb2.mono hb1.size)
      obtain ⟨rfl, hne⟩ : ε = 1 ∧ ds.length ≠ s.n * s.t := by
        rcases hG with ⟨h1, _⟩ | ⟨_, ⟨h1, _⟩ | ⟨_, ⟨h1, _⟩ | ⟨_, ⟨h1, e1⟩ | ⟨_, e1⟩⟩⟩⟩
        · exfalso; omega
        · exact absurd ⟨⟨by omega, by omega⟩, rfl⟩ h1
        · exfalso; omega
        · refine ⟨e1, fun e => h1 ?_⟩
          rw [← hlen, e]; push_cast; rfl
        · exact absurd e1 hε
      have HE : Hid (kmul s g x ds = (0, 1, s)) := by unfold Hid; rw [HK.out, if_neg hne]
      clear hG hne hε c0 c1 c2 c3 hpl rg rx rd
      go_wp2
      go_ret2
      rw [HE.out]
      exact ⟨rfl, h.below hb12, Tch.of_below hb12⟩
    · obtain ⟨k, hk, _, _, _, _, _, hq⟩ := hG.ok
      obtain rfl : k = s.t := by omega
      have HE : Hid (kmul s g x ds = kadd s (tmO s.t l m ds s.n s.n)) := by unfold Hid; rw [HK.out, if_pos (by rw [hlen]; exact hq)]
      have e0 : ((s.t : Int)).toNat = s.t := rfl
      rw [e0] at ho2
      obtain ⟨a2, k2, rfl, hr2, hx2⟩ := Rd.own ho2 (bd_u64 (tmO_bd' _ _ _ _ _ _))
      have hb12 := hb1.trans (hb2.mono hb1.size)
      have hG2 := gnx_new (G := G) hr2 (by omega) (fun y hy => Nat.le_trans hb1.size (hx2 y hy))
      have h2 := h.below hb12
      clear ho2 hx2 hG hk hq e0 c0 c1 c2 c3 hpl rg rx rd hb1 hb2
      go_wp2_with fail
      refine (cKeepK p _ s _ _ _ _ h2 hr2 (tmO_bd' _ _ _ _ _ _) hG2 hlast).mono ?_
      intro e w5 hK
      have HR : Hid (Kke p G (kadd s (tmO s.t l m ds s.n s.n)) w e w5) := Kde.behind hb12 hK hGl
      obtain ⟨rfl, _, _⟩ := hK
      clear h2 hr2 hG2 hb12
      go_wp2
      go_ret2
      rw [HE.out]
      exact HR.out

theorem cDropK : KcDrop := by
  intro p G s x w h hx
  have HH : Hid (Kst w p G s) := h
  obtain ⟨⟨b, V, hS, hF⟩, hGl⟩ := h
  obtain ⟨c0, c1, c2, c3⟩ := hS.four
  have hpl := hS.lt
  have hM := hS.map
  rcases hS.val x with ⟨fx, vx⟩ | ⟨l, ax, cx, fx, vx, rx⟩
  · have HE : Hid (kdrp s x = (4, s)) := by unfold Hid kdrp; rw [fx]
    have HV : Hid (V x = none) := vx
    clear hS fx vx
    go_enter Tryd.func51, Tryd.ntmps51
    go_wp2_with (at_lookup; refine wpList_lookK _ rfl _ _ 105 rfl 22 Tryd.underlying105 _ (zeroL _) b s.cnt V rfl hM x rfl hx ?_; rw [HV.out]; simp only [Option.getD_none, Option.isSome_none])
    go_ret
    rw [HE.out]
    exact ⟨rfl, HH.out.below (Below.refl _ _), Tch.refl _ _⟩
  · have HE : Hid (kdrp s x = (0, kout s x)) := by unfold Hid kdrp; rw [fx]
    have HF : Hid (s.f x = some l) := fx
    have HV : Hid (V x = some (.slice ax s.n cx)) := vx
    have HS : Hid (Sto 107 w p b V s) := hS
    clear hS fx vx rx
    go_enter Tryd.func51, Tryd.ntmps51
    go_wp2_with (first | (at_lookup; refine wpList_lookK _ rfl _ _ 105 rfl 22 Tryd.underlying105 _ (zeroL _) b s.cnt V rfl hM x rfl hx ?_; rw [HV.out]; simp only [Option.getD_some, Option.isSome_some]) | (at_delete; refine wpList_delK _ rfl _ _ 105 rfl 22 Tryd.underlying105 b s.cnt V rfl hM x rfl hx ?_; intro w2 hM2 hgr2))
    have hk : ∀ i, i < w.heap.size → i ≠ b → w2.heap[i]? = w.heap[i]? := fun i hi hne => hgr2.block i hi (by simpa using hne)
    have HP := HS.out.out HF.out hM2 hk
    have HR : Hid (Kkt p G (0, kout s x) w (.returned (.int .i64 0)) w2) := by
      refine ⟨rfl, ⟨⟨b, _, HP, fun i hi => .inl ?_⟩, Gnx.lt hGl hgr2.size⟩, ⟨hgr2.os, hgr2.tape, hgr2.output, hgr2.size, fun i hi hn => hk i hi (fun e => hn (hF _ (.inr (.inl e))))⟩⟩
      rcases hi with rfl | rfl | ⟨hh, a', m, c', e, rfl⟩
      · exact hF _ (.inl rfl)
      · exact hF _ (.inr (.inl rfl))
      · unfold mset at e
        split at e
        · cases e
        · exact hF _ (.inr (.inr ⟨hh, a', m, c', e, rfl⟩))
    clear hM hM2 hgr2 hk HP c0 c1 c2 c3 hpl hF hGl
    go_wp2
    go_ret
    rw [HE.out]
    exact HR.out
theorem take_own (ds : List Int) (A t : Nat) : ((((ds.drop A).take (t + 1)).drop 1).take t) = (ds.drop (A + 1)).take t := by
  rw [List.drop_take, List.drop_drop, List.take_take]
  congr 1
  omega
theorem take_first {ds : List Int} {A t : Nat} : ((ds.drop A).take (t + 1)).getD 0 0 = ds.getD A 0 := by
  simp [List.getD_eq_getElem?_getD]

theorem cGenK : KcGen := by
  intro p G s a m c ds w h r hlast
  obtain ⟨i0, hi, hz0, hz1, hz2⟩ := info_parts info34
  have hw := h.wf
  have ht4 := hw.t4
  have hn9 := hw.n9
  have hnt := hw.nt
  have hcap := r.cap
  have hmax := r.max
  have hlen := r.len
  unfold maxLen at hmax
  have hGl := h.lt
  have HH : Hid (∀ w', Below w.heap.size w w' → Kst w' p G s) := fun w' hb => h.same hb
  obtain ⟨n, HN⟩ : ∃ n, Hid (s.n = n) := ⟨_, rfl⟩
  obtain ⟨t, HT⟩ : ∃ t, Hid (s.t = t) := ⟨_, rfl⟩
  rw [HN.out] at hn9 hnt
  rw [HT.out] at ht4 hnt
  have HC : Hid (∀ w', Below w.heap.size w w' → w'.cell? ⟨p, 0, none⟩ = some (.int .i64 (n : Int)) ∧ w'.cell? ⟨p, 1, none⟩ = some (.int .i64 (t : Int)) ∧ p < w'.heap.size) := fun w' hb => by
    obtain ⟨⟨b, V, hS, _⟩, _⟩ := HH.out w' hb
    have := hS.four
    rw [HN.out, HT.out] at this
    exact ⟨this.1, this.2.1, hS.lt⟩
  clear h hw
  obtain ⟨c0, c1, hpl⟩ := HC.out w (Below.refl _ _)
  obtain ⟨T1, HT1⟩ : ∃ T1, Hid (t + 1 = T1) := ⟨_, rfl⟩
  have hT1 : (t : Int) + 1 = (T1 : Int) := by rw [← HT1.out]; omega
  have hT5 : 1 ≤ T1 ∧ T1 ≤ 5 := by rw [← HT1.out]; omega
  obtain ⟨M, HM⟩ : ∃ M, Hid (n * T1 = M) := ⟨_, rfl⟩
  have hMI : (n : Int) * (T1 : Int) = (M : Int) := by rw [← HM.out]; push_cast; rfl
  have hM45 : M ≤ 45 := by rw [← HM.out]; exact Nat.mul_le_mul hn9 (show T1 ≤ 5 by omega)
  have hw1 : IntKind.i64.wrap ((T1 : Int)) = (T1 : Int) := by rw [IntKind.wrap_i64]; omega
  have hw2 : IntKind.i64.wrap ((M : Int)) = (M : Int) := by rw [IntKind.wrap_i64]; omega
  have HMK : Hid (s.n * (s.t + 1) = M) := by unfold Hid; rw [HN.out, HT.out, HT1.out, HM.out]
  have hn0 : ((n : Int) == 0) = false := by rw [beq_eq_false_iff_ne]; omega
  by_cases hm : m = M
  · subst hm
    have HG : Hid (kgen s ds = kadd s (ksm s.n s.t true ds s.n)) := if_pos (by rw [hlen, HMK.out])
    have hmm : ((m : Int) != (m : Int)) = false := by simp
    go_enter Tryd.func22, Tryd.ntmps22
    go_wp2_with (at_make; refine wpList_make_full _ rfl _ _ 22 rfl w.heap.size 34 i0 (.int .u64 0) 1 Tryd.underlying22 hi hz0 hz1 .i64 .i64 _ _ n rfl rfl rfl rfl (by rw [hz2]; omega) (by unfold maxLen; omega) (Nat.le_refl _) ?_; intro w2 hown hgrow; have hb2 : Below w.heap.size w w2 := (Below.refl _ _).grown hgrow (Nat.le_refl _) (by simp); obtain ⟨d0, d1, hpl2⟩ := HC.out w2 hb2)
    have ho2 : w2.ownsRow w.heap.size 34 1 (.slice (some ⟨w.heap.size, 0, none⟩) n n) n ((ksm n t true ds 0).map (Value.int .u64)) := (Blk.made hown).own (by simp) (Nat.le_refl _) (by omega)
    clear hown hgrow d0 d1 hpl2
    go_loopw [7, 40] (fun v j wr => ∃ i : Nat, i ≤ n ∧ j = .int .i64 i ∧ wr.ownsRow w.heap.size 34 1 v n ((ksm n t true ds i).map (Value.int .u64)) ∧ Below w.heap.size w wr) (fun _ j _ => n - (intOf j).toNat)
    case atStart => exact ⟨0, Nat.zero_le _, rfl, ho2, hb2⟩
    case round =>
      clear ho2 hb2 c0 c1 hpl
      obtain ⟨i, hin, rfl, hown, hbel⟩ := hrel
      obtain ⟨c0, c1, hpl⟩ := HC.out wr hbel
      have hs1 := hbel.size
      by_cases hlt : i < n
      · have hlti : (i : Int) < (n : Int) := by omega
        obtain ⟨A, HA⟩ : ∃ A, Hid (i * T1 = A) := ⟨_, rfl⟩
        have hAI : (i : Int) * (T1 : Int) = (A : Int) := by rw [← HA.out]; push_cast; rfl
        have hBI : ((i : Int) + 1) * (T1 : Int) = (A : Int) + (T1 : Int) := by rw [Int.add_mul, hAI, Int.one_mul]
        have hAm : A + T1 ≤ m := by
          rw [← HA.out, ← HM.out]
          have := Nat.mul_le_mul_right T1 (show i + 1 ≤ n by omega)
          rw [Nat.add_mul, Nat.one_mul] at this
          exact this
        have rr := r.below hbel
        have HD2 : Hid (mxl (ksm n t true ds i) (dl (kdr t true ds i) n) 1 1 0 n = ksm n t true ds (i + 1)) := rfl
        obtain ⟨u, c', rfl, hru, _⟩ := Rd.own hown (bd_u64 (ksm_ksh n t true ds i).bd)
        have hrs := rr.sub (lo := A) (k := T1) hAm
        obtain ⟨sa, HSA⟩ : ∃ sa, Hid (subA a c A = sa) := ⟨_, rfl⟩
        have hsl : ∀ W, (Instr.sliceAt 22 (.slice a m c) (some (.int .i64 (A : Int))) (some (.int .i64 ((A : Int) + (T1 : Int)))) none).run Tryd.prog W = .ok (.slice sa T1 (c - A)) W := fun W => by
          rw [← HSA.out]
          exact run_sub Tryd.underlying22 infoU1 _ m c A T1 rfl rfl (by omega) W
        rw [HSA.out] at hrs
        obtain ⟨L, HL⟩ : ∃ L, Hid ((ds.drop A).take T1 = L) := ⟨_, rfl⟩
        rw [HL.out] at hrs
        obtain ⟨C, HC2⟩ : ∃ C, Hid (c - A = C) := ⟨_, rfl⟩
        rw [HC2.out] at hrs hsl
        have hrt := hrs.sub (lo := 1) (k := t) (by rw [← HT1.out]; omega)
        have hlT := hrs.len
        obtain ⟨bb, o, x, rfl, hbb, HX, hx0, hx1, hcx⟩ := hrs.one (show 0 < T1 by omega)
        obtain ⟨sb, HSB⟩ : ∃ sb, Hid (subA (some ⟨bb, o, none⟩) C 1 = sb) := ⟨_, rfl⟩
        have hsl2 : ∀ W, (Instr.sliceAt 22 (.slice (some ⟨bb, o, none⟩) T1 C) (some (.int .i64 1)) none none).run Tryd.prog W = .ok (.slice sb t (C - 1)) W := fun W => by
          rw [← HSB.out]
          have e := run_subl Tryd.underlying22 infoU1 (some ⟨bb, o, none⟩) T1 C 1 (l := 1) rfl (by omega) W
          rw [show T1 - 1 = t by rw [← HT1.out]; omega] at e
          exact e
        rw [HSB.out] at hrt
        have HKD : Hid (kdr t true ds i = x :: (L.drop 1).take t) := by
          unfold Hid
          have e : kat t true i = A := by unfold kat; rw [if_pos rfl, HT1.out, HA.out]
          rw [kdr_true, e, ← HX.out, ← HL.out, ← HT1.out, take_own, take_first]
        rw [Nat.add_zero] at hcx
        have hcC := hrs.cap
        have hcM := hrs.max
        unfold maxLen at hcM
        have h0T : (0 : Int) < (T1 : Int) := by omega
        have HRU : Hid (Rd wr u n c' (ksm n t true ds i)) := hru
        have HRT : Hid (Rd wr sb t (C - 1) ((L.drop 1).take t)) := hrt
        have HCW : Hid (∀ w0, Kst w0 p G s → Rd w0 u n c' (ksm n t true ds i) → Rd w0 sb t (C - 1) ((L.drop 1).take t) → Calls Tryd.prog 61 #[.pointer (some ⟨p, 0, none⟩), .slice u n c', .int .u64 x, .slice sb t (C - 1)] w0 fun e w' => ∃ v, e = .returned v ∧ w'.ownsRow w0.heap.size 34 1 v n ((ksm n t true ds (i + 1)).map (Value.int .u64)) ∧ Below w0.heap.size w0 w') := fun w0 k0 k1 k2 => by
          have e := cWith p G s u c' (ksm n t true ds i) x sb (C - 1) ((L.drop 1).take t) w0 k0
          rw [HN.out, HT.out, ← HKD.out, HD2.out] at e
          exact e k1 hx0 hx1 k2
        clear rr hrs hown hru hrt hlT c0 c1 hpl
        go_wp2_with fail
        go_region_with (go_at_call 61; refine (HCW.out _ (HH.out _ hbel.drew) HRU.out.drew HRT.out.drew).mono ?_; rintro e w3 ⟨v3, rfl, ho3, hb3⟩)
        all_goals
          have hb4 : Below wr.heap.size wr w3 := ((Below.refl _ _).drew).trans (hb3.mono (Nat.le_refl _))
          have hbel3 := hbel.trans (hb4.mono hs1)
          have ho6 := own_baseV ho3 hs1
          clear hb3 hb4 ho3 hbel hsl hsl2 hcx hbb
          go_wp2
          go_roundw
          case rel => exact ⟨i + 1, by omega, by go_num, ho6, hbel3⟩
          case measure => simp [intOf]; omega
      · obtain rfl : i = n := by omega
        have hnn : ¬ ((i : Int) < (i : Int)) := by omega
        obtain ⟨u, c', rfl, hru, hxu⟩ := Rd.own hown (bd_u64 (ksm_ksh i t true ds i).bd)
        have hGu : ∀ y, u = some y → Gnx G w wr y.block := gnx_new (G := G) hru (by omega) hxu
        have hK := (HH.out w (Below.refl _ _)).below hbel
        clear hown hxu
        have hru2 : Rd wr u s.n c' (ksm s.n s.t true ds s.n) := by rw [HN.out, HT.out]; exact hru
        have HCK : Hid (Calls Tryd.prog 62 #[.pointer (some ⟨p, 0, none⟩), .slice u s.n c'] wr (Kke p (Gnx G w wr) (kadd s (ksm s.n s.t true ds s.n)) wr)) := cKeepK p (Gnx G w wr) s u c' _ wr hK hru2 (ksm_bd _ _ _ _ _) hGu hlast
        have HCZ : Hid (∀ Z, s.n = Z → Calls Tryd.prog 62 #[.pointer (some ⟨p, 0, none⟩), .slice u Z c'] wr (Kke p (Gnx G w wr) (kadd s (ksm s.n s.t true ds s.n)) wr)) := fun Z e => by rw [← e]; exact HCK.out
        clear hru hru2 hGu hK c0 c1 hpl HCK
        go_wp2_with fail
        refine (HCZ.out _ HN.out).mono ?_
        intro e w3 hK
        have HR : Hid (Kke p G (kadd s (ksm s.n s.t true ds s.n)) w e w3) := Kde.behind hbel hK hGl
        obtain ⟨rfl, _, _⟩ := hK
        clear HCZ hbel
        go_wp2
        go_ret2
        rw [HG.out]
        exact HR.out
  · have HG : Hid (kgen s ds = (0, 1, s)) := if_neg (by rw [hlen, HMK.out]; exact hm)
    have hmm : ((m : Int) != (M : Int)) = true := by rw [bne_iff_ne]; omega
    clear hm
    go_enter Tryd.func22, Tryd.ntmps22
    go_wp2
    go_ret2
    rw [HG.out]
    exact ⟨rfl, (HH.out w (Below.refl _ _)).below (Below.refl _ _), Tch.refl _ _⟩
end
end Go.Proofs.YtljlioglpaogdagDoor
