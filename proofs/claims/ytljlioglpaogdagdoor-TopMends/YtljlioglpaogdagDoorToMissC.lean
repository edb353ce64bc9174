/- poly.Div. · decode.misses. -/
import Derived.Test.YtljlioglpaogdagDoorToDivC
import Derived.Test.YtljlioglpaogdagDoorToSubC
import Derived.Test.YtljlioglpaogdagDoorToPlaceT
import Derived.Test.YtljlioglpaogdagDoorToEqIC
namespace Go.Proofs.YtljlioglpaogdagDoor
set_option linter.unusedVariables false
set_option maxRecDepth 100000
set_option maxHeartbeats 8000000
section
open Crm Go.RowKit
theorem tl_small {xs : List Int} {n p : Nat} (h : ∀ t, p ≤ t → t < n → xs.getD t 0 = 0) : tl xs n ≤ p := by
  rcases Nat.lt_or_ge p (tl xs n) with hlt | hge
  · have h1 := tl_top xs n (by omega)
    have h2 := tl_le xs n
    exact absurd (h (tl xs n - 1) (by omega) (by omega)) h1
  · exact hge

/-- What is left of a division when it is done. -/
theorem div_done {X D Q A : List Int} {n N M : Nat} (hX : X.length = n) (hN : N = tl (nz X) n) (hM : 0 < M) (hD : D.length = M) (h : DivI (nz X) D Q A N M (N - (M - 1)) 0) :
    Nml Q ∧ Nml (A.take (tl A N)) ∧ (A.take (tl A N)).length = tl A N ∧ tl A N < M ∧ ∀ t, nm (pc Q D t Q.length + (A.take (tl A N)).getD t 0) = nm (X.getD t 0) := by
  have hNn : N ≤ n := by rw [hN]; exact tl_le _ _
  have hla : A.length = n := by rw [h.la, nz_len, hX]
  have htl := tl_le A N
  have hlen : (A.take (tl A N)).length = tl A N := by simp; omega
  have hsm : tl A N ≤ M - 1 := tl_small fun t h1 h2 => h.hi t (by omega) h2
  refine ⟨⟨h.bq, fun hq => ?_⟩, ⟨fun x hx => h.ba x (List.mem_of_mem_take hx), fun hr => ?_⟩, hlen, by omega, fun t => ?_⟩
  · rw [h.lq] at hq ⊢; exact h.top hq
  · rw [hlen] at hr ⊢; rw [take_getD, if_pos (by omega)]; exact tl_top A N hr
  · rw [h.lq, ← nz_getD]
    have hr : (A.take (tl A N)).getD t 0 = if t < N then A.getD t 0 else 0 := by
      rw [take_getD]
      by_cases h1 : t < tl A N
      · rw [if_pos h1, if_pos (by omega)]
      · rw [if_neg h1]
        by_cases h2 : t < N
        · rw [if_pos h2, tl_above A N t (by omega) h2]
        · rw [if_neg h2]
    rw [hr]
    have hb := getD_bd' (nz_bd' X) t
    by_cases h2 : t < N
    · rw [if_pos h2, Int.add_comm, h.eq t h2, nm_small hb.1 hb.2]
    · rw [if_neg h2, Int.add_zero]
      have e1 : pc Q D t (N - (M - 1)) = 0 := by
        by_cases h3 : M ≤ N + 1
        · exact pc_far Q D t _ (by omega)
        · rw [show N - (M - 1) = 0 by omega]; rfl
      rw [e1]
      by_cases h3 : t < n
      · rw [tl_above (nz X) n t (by omega) h3]; rfl
      · rw [getD_big (show (nz X).length ≤ t by rw [nz_len]; omega)]; rfl

theorem cDivOK (a : Option Addr) (n c : Nat) (xs : List Int) (b : Option Addr) (m d : Nat) (ys : List Int) (w : World) (h : Rd w a n c xs) (g : Rd w b m d ys) (hn : n ≤ 40) (hm : m ≤ 40) (hy : 0 < tl (nz ys) m) :
    Calls Tryd.prog 112 #[.slice a n c, .slice b m d] w fun e w' => ∃ Q R aq ar cq cr, e = .returned (.tuple #[.slice aq Q.length cq, .slice ar R.length cr, .int .i64 0]) ∧ Rd w' aq Q.length cq Q ∧ Rd w' ar R.length cr R ∧ Nml Q ∧ Nml R ∧
      R.length < (nrm ys).length ∧ Q.length ≤ 40 ∧ (∀ t, nm (pc Q (nrm ys) t Q.length + R.getD t 0) = nm (xs.getD t 0)) ∧ Below w.heap.size w w' := by
  have hn1 := tl_le (nz xs) n
  have hm1 := tl_le (nz ys) m
  have hlx := h.len
  have hly := g.len
  have hlny : (nrm ys).length = tl (nz ys) m := by rw [nrm_len, hly]
  have HT : Hid (0 < tl (nz xs) n → (nz xs).getD (tl (nz xs) n - 1) 0 ≠ 0) := tl_top (nz xs) n
  obtain ⟨N, HN⟩ : ∃ N, Hid (tl (nz xs) n = N) := ⟨_, rfl⟩
  obtain ⟨M, HM⟩ : ∃ M, Hid (tl (nz ys) m = M) := ⟨_, rfl⟩
  rw [HN.out] at hn1 HT
  rw [HM.out] at hm1 hy hlny
  have HD : Hid (nm ((nrm ys).getD (M - 1) 0) ≠ 0) := by
    have h1 := (nrm_Nml ys).top (by omega)
    have h2 := getD_bd' (nrm_Nml ys).bd (M - 1)
    unfold Hid
    rw [nm_small h2.1 h2.2, ← hlny]
    exact h1
  have hMb : ((M : Int) == 0) = false := by rw [beq_eq_false_iff_ne]; omega
  go_enter Tryd.func112, Tryd.ntmps112
  go_wp2_with fail
  refine (cNormal _ _ _ _ _ g (by omega)).mono ?_
  rintro e w1 ⟨rfl, hr1, hb1⟩
  rw [HM.out]
  go_wp2_with fail
  refine (cNormal _ _ _ _ _ (h.below hb1) (by omega)).mono ?_
  rintro e w2 ⟨rfl, hr2, hb2⟩
  rw [HN.out]
  have hb12 : Below w.heap.size w w2 := hb1.trans (hb2.mono hb1.size)
  have hsz := hb1.size
  have hlt := hr1.lt
  have r1 := (hr1.below hb2 hr1.lt).nrm hly (by omega)
  rw [HM.out] at r1
  go_wp2_with fail
  refine (cDivide _ _ _ _ _ _ _ _ _ hr2 (nz_bd' xs) (by rw [nz_len]; omega) (by omega) (by omega) r1 (fun x hx => by obtain rfl := Option.some.inj hx; simp only; omega) (by omega) (by omega) HD.out HT.out).mono ?_
  rintro e w3 ⟨Q, A, rfl, hI, hq, ha, hg⟩
  obtain ⟨d1, d2, d3, d4, d5⟩ := div_done hlx HN.out.symm hy hlny hI
  have hlq : Q.length = N - (M - 1) := hI.lq
  have hbel3 := below_grown hb12 hg hsz
  have R1 : Rd w3 (some ⟨w2.heap.size, 0, none⟩) Q.length Q.length Q := by
    have := hq.rd 0 Q.length Q.length (Nat.le_refl _) (by unfold maxLen; omega) (by omega) (bd_u64 d1.bd)
    rwa [List.drop_zero, List.take_of_length_le (by omega)] at this
  have R2 : Rd w3 (some ⟨w1.heap.size, 0, none⟩) (A.take (tl A N)).length n (A.take (tl A N)) := by
    have hla : A.length = n := by rw [hI.la, nz_len, hlx]
    have ht := tl_le A N
    have := ha.rd 0 (tl A N) n (by omega) (by unfold maxLen; omega) (by omega) (bd_u64 hI.ba)
    rw [List.drop_zero] at this
    rw [d3]
    exact this
  have H : Hid (Nml Q ∧ Nml (A.take (tl A N)) ∧ (A.take (tl A N)).length < (nrm ys).length ∧ Q.length ≤ 40 ∧ (∀ t, nm (pc Q (nrm ys) t Q.length + (A.take (tl A N)).getD t 0) = nm (xs.getD t 0))) :=
    ⟨d1, d2, by omega, by omega, d5⟩
  rw [← hlq]
  obtain ⟨T, hT⟩ : ∃ T, T = tl A N := ⟨_, rfl⟩
  obtain ⟨R, hR⟩ : ∃ R, R = A.take (tl A N) := ⟨_, rfl⟩
  rw [← hR] at R2 H d3
  rw [← hT] at d3 ⊢
  rw [← d3]
  clear hT hR
  clear d1 d2 d3 d4 d5 hI hq ha hg hr1 hr2 hb1 hb2 r1 hlq
  go_wp2
  go_ret3
  obtain ⟨k1, k2, k3, k4, k5⟩ := H.out
  exact ⟨Q, R, _, _, _, _, rfl, R1, R2, k1, k2, k3, k4, k5, hbel3⟩
theorem cMisses (ap : Option Addr) (m cp : Nat) (p : List Int) (a : Option Addr) (n c : Nat) (l : List (Int × Int)) (w : World) (hp : Rd w ap m cp p) (h : RdS w a n c l) (hm : m ≤ 40) (hd : dis (fa l) n) :
    Calls Tryd.prog 99 #[.slice ap m cp, .slice a n c] w fun e w' => ∃ (B : List Int) (ab : Option Addr) (cb : Nat), e = .returned (.slice ab (bdl l p n).length cb) ∧
      w'.ownsRow w.heap.size 3 1 (.slice ab (bdl l p n).length cb) (bdl l p n).length (zns B) ∧ OuI (bdl l p n) B (bdl l p n).length ∧ Below w.heap.size w w' := by
  have hn9 := dis_nine hd
  have HD : Hid (dis (fa l) n) := hd
  clear hd
  have hcap := h.cap
  have hmax := h.max
  unfold maxLen at hmax
  go_enter Tryd.func99, Tryd.ntmps99
  go_wp2
  go_loopw [5, 12] (fun v i wr => ∃ k : Nat, k ≤ n ∧ i = .int .i64 k ∧ wr.ownsRow w.heap.size 3 1 v (bdl l p k).length (zns (bdl l p k)) ∧ Below w.heap.size w wr) (fun _ i _ => n - (intOf i).toNat)
  case atStart => exact ⟨0, Nat.zero_le _, rfl, World.ownsRow_nil _ _ _ _, Below.refl _ _⟩
  case round =>
    obtain ⟨k, hk, rfl, hown, hbel⟩ := hrel
    have hs3 := hbel.size
    have hbk := bdl_le l p k
    by_cases hlt : k < n
    · obtain ⟨b, o, x, y, rfl, hbb, HX, HY, hx0, hx1, hy0, hy1, hcx, hcy⟩ := (h.below hbel).one hlt
      have hx9 := (HD.out k hlt).1
      unfold fa at hx9
      rw [HX.out] at hx9
      have hx1 := hx9.1
      have hx9 := hx9.2
      have hcA0 := cell_alloc0 wr (.int .i64 x) (.int .u64 y) 68
      have hcA1 := cell_alloc1 wr (.int .i64 x) (.int .u64 y) 68
      have hbA : Below w.heap.size w (wr.alloc (.cells #[.int .i64 x, .int .u64 y] 68)) := hbel.alloc hs3 _
      have hownA : (wr.alloc (.cells #[.int .i64 x, .int .u64 y] 68)).ownsRow w.heap.size 3 1 u5 (bdl l p k).length (zns (bdl l p k)) := hown.alloc _
      have hszA : (wr.alloc (.cells #[.int .i64 x, .int .u64 y] 68)).heap.size = wr.heap.size + 1 := by simp
      have hsA : w.heap.size ≤ (wr.alloc (.cells #[.int .i64 x, .int .u64 y] 68)).heap.size := by omega
      have hltA : wr.heap.size < (wr.alloc (.cells #[.int .i64 x, .int .u64 y] 68)).heap.size := by omega
      go_wp2_with fail
      generalize wr.alloc (.cells #[.int .i64 x, .int .u64 y] 68) = wd at *
      clear hszA
      have hpA := hp.below hbA
      refine (cEvalOK _ _ _ _ _ _ hpA (by omega) (by omega) (by omega)).mono ?_
      rintro e w2 ⟨rfl, hb2⟩
      have hcB0 : w2.cell? ⟨wr.heap.size, 0, none⟩ = some (.int .i64 x) := by rw [hb2.cell hltA]; exact hcA0
      have hcB1 : w2.cell? ⟨wr.heap.size, 1, none⟩ = some (.int .u64 y) := by rw [hb2.cell hltA]; exact hcA1
      have hownB := own_below hownA hb2
      have hbB := hbA.trans (hb2.mono hbA.size)
      have hsB := hbB.size
      clear hcx hcy hown hbel hcA0 hcA1 hbA hownA hpA hb2
      by_cases hm : nm (ev p x) = nm y
      · have hmb : (nm (ev p x) != nm y) = false := by rw [hm]; simp
        have HB : Hid (bdl l p (k + 1) = bdl l p k) := bdl_ok (by rw [HX.out, HY.out]; exact hm)
        clear hm
        go_wp2_with (go_at_call 37; refine (fNorm _ _ (by omega) (by omega)).mono ?_; rintro e w3 ⟨rfl, hw⟩; have hw := hw.symm; subst hw)
        go_roundw
        case rel => exact ⟨k + 1, by omega, by go_num, by rw [HB.out]; exact hownB, hbB⟩
        case measure => simp [intOf]; omega
      · have hmb : (nm (ev p x) != nm y) = true := by rw [bne_iff_ne]; exact hm
        have HB : Hid (bdl l p (k + 1) = bdl l p k ++ [x]) := by
          have := bdl_bad (l := l) (p := p) (k := k) (by rw [HX.out, HY.out]; exact hm)
          rwa [HX.out] at this
        clear hm
        go_wp2_with (first | (go_at_call 37; refine (fNorm _ _ (by omega) (by omega)).mono ?_; rintro e w3 ⟨rfl, hw⟩; have hw := hw.symm; subst hw) | (at_builtin; refine wpList_appV Tryd.underlying24 infoZ rfl (by omega) _ rfl _ _ rfl w.heap.size _ _ _ rfl hownB (.int .i64 x) rfl rfl (by omega) hsB ?_; intro v' w7 hown7 hgr7 _; rw [zns_snoc, ← HB.out] at hown7; have hlB : (bdl l p k).length + 1 = (bdl l p (k + 1)).length := (by rw [HB.out]; simp); rw [hlB] at hown7; have hbel7 := hbB.grown hgr7 hsB (fun j hj => (hownB.lt j hj).1); clear hgr7 hownB hbB hlB))
        go_roundw
        case rel => exact ⟨k + 1, by omega, by go_num, hown7, hbel7⟩
        case measure => simp [intOf]; omega
    · have hkn : k = n := by omega
      subst hkn
      obtain ⟨ab, cb, rfl, hcb⟩ := own_slice hown
      obtain ⟨NB, HNB⟩ : ∃ NB, Hid ((bdl l p k).length = NB) := ⟨_, rfl⟩
      rw [HNB.out] at hown hcb hbk ⊢
      go_wp2_with fail
      refine (zSorts _ _ _ _ _ hown (by omega)).mono ?_
      rintro e w3 ⟨rfl, B, hO, hown3, hgr3⟩
      have hlt2 := hown.lt
      have hb3 : Below w.heap.size w w3 := hbel.grown hgr3 hs3 (fun j hj => (hlt2 j hj).1)
      have HO : Hid (OuI (bdl l p k) B NB) := hO
      clear hown hgr3 hlt2 hO hbel
      go_wp2
      go_ret
      refine ⟨B, ab, cb, ?_, ?_, ?_, hb3⟩
      · rw [HNB.out]; rfl
      · rw [HNB.out]; exact hown3
      · rw [HNB.out]; exact HO.out
end
end Go.Proofs.YtljlioglpaogdagDoor
