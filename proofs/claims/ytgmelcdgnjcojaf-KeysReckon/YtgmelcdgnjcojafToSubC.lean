/- croftkeep.KeysReckon: the walk. · (*croftref.Store).has, keep. · A piece of a slice: x[l:h]. -/
import Derived.Test.YtgmelcdgnjcojafToKeyD
import Derived.Test.YtgmelcdgnjcojafToTkC
import Derived.Test.YtgmelcdgnjcojafToGaussM
import Derived.Test.YtgmelcdgnjcojafToKrMap
import Derived.BigQuiet
import Derived.Test.YtgmelcdgnjcojafToPolyM3
namespace Go.Proofs.Ytgmelcdgnjcojaf
open Go.RowKit Crm

/-- The store at pk has state s. -/
def Kq (w0 : World) (pk : Nat) (s : Kt) (wr : World) : Prop := ∃ Gk : Nat → Prop, Kst wr pk Gk s ∧ (∀ i, Gk i → w0.heap.size ≤ i) ∧ Below w0.heap.size w0 wr
theorem Kq.bel {w0 wr : World} {pk : Nat} {s : Kt} (h : Kq w0 pk s wr) : Below w0.heap.size w0 wr := by
  obtain ⟨_, _, _, h⟩ := h
  exact h
theorem Kq.same {w0 wr w' : World} {pk : Nat} {s : Kt} (h : Kq w0 pk s wr) (hb : Below wr.heap.size wr w') : Kq w0 pk s w' := by
  obtain ⟨Gk, h1, h2, h3⟩ := h
  exact ⟨Gk, h1.same hb, h2, h3.trans (hb.mono h3.size)⟩
theorem Kq.k {w0 w : World} {pk N : Nat} {s : Kt} {args : Array Value} {r : Int × Int × Kt} (J : Kq w0 pk s w) (hc : ∀ G, Kst w pk G s → Calls Try.prog N args w (Kke pk G r w)) : Calls Try.prog N args w fun e w' => e = .returned (.tuple #[.int .i64 r.1, .int .i64 r.2.1]) ∧ Kq w0 pk r.2.2 w' := by
  obtain ⟨Gk, h1, h2, h3⟩ := J
  exact (hc Gk h1).mono fun e w' ⟨e1, e2, e3⟩ => ⟨e1, Gnx Gk w w', e2, Gnx.ge h2 h3.size, e3.below h3 h2 h3.size⟩
theorem Kq.kt {w0 w : World} {pk N : Nat} {s : Kt} {args : Array Value} {r : Int × Kt} (J : Kq w0 pk s w) (hc : ∀ G, Kst w pk G s → Calls Try.prog N args w (Kkt pk G r w)) : Calls Try.prog N args w fun e w' => e = .returned (.int .i64 r.1) ∧ Kq w0 pk r.2 w' := by
  obtain ⟨Gk, h1, h2, h3⟩ := J
  exact (hc Gk h1).mono fun e w' ⟨e1, e2, e3⟩ => ⟨e1, Gnx Gk w w', e2, Gnx.ge h2 h3.size, e3.below h3 h2 h3.size⟩
theorem Kq.kr {w0 w : World} {pk N : Nat} {s : Kt} {args : Array Value} {Q : Ending → World → Prop} (J : Kq w0 pk s w) (hc : ∀ G, Kst w pk G s → Calls Try.prog N args w Q) : Calls Try.prog N args w Q := by
  obtain ⟨Gk, h1, _⟩ := J
  exact hc Gk h1
theorem Kq.new {w0 w : World} {pk : Nat} {G : Nat → Prop} {s : Kt} (h : Kst w pk G s) (hG : ∀ i, G i → w0.heap.size ≤ i) (hb : Below w0.heap.size w0 w) : Kq w0 pk s w := ⟨G, h, hG, hb⟩

/-- The map's entries are what the keys have. -/
theorem vat_krG (v1 v2 v3 v4 v5 : Int) : krG v1 v2 v3 v4 v5 true true true true true = vat [v1, v2, v3, v4, v5] := by
  funext k
  unfold krG vat
  by_cases h1 : k = 1
  · subst h1; rfl
  by_cases h2 : k = 2
  · subst h2; rfl
  by_cases h3 : k = 3
  · subst h3; rfl
  by_cases h4 : k = 4
  · subst h4; rfl
  by_cases h5 : k = 5
  · subst h5; rfl
  rw [if_neg h1, if_neg h2, if_neg h3, if_neg h4, if_neg h5, if_neg (by simp; omega)]

set_option maxRecDepth 100000 in
set_option maxHeartbeats 20000000 in
theorem keysReckonW (qNew : KcNew) (qGen : KcGen) (qRefresh : KcRefresh) (qTweak : KcTweak) (qCombine : KcCombine) (qMultiply : KcMultiply) (qOpen : KcOpen) (qDrop : KcDrop)
    (t n : Int) (a1 : Option Addr) (m1 c1 : Nat) (d : List Int) (a2 : Option Addr) (m2 c2 : Nat) (f : List Int) (a b : Int) (w : World) (hd : Rd w a1 m1 c1 d) (hf : Rd w a2 m2 c2 f) (ha0 : 0 ≤ a) (ha1 : a ≤ 18446744073709551615) (hb0 : 0 ≤ b) (hb1 : b ≤ 18446744073709551615) :
    Calls Try.prog 3 #[.int .i64 t, .int .i64 n, .slice a1 m1 c1, .slice a2 m2 c2, .int .u64 a, .int .u64 b] w fun e w' => e = .returned (.bool true) ∧ Below w.heap.size w w' := by
  have hmm := @run_makeMap Try.prog
  go_enter Try.func3, Try.ntmps3
  go_wp2_with fail
  refine (qNew 1 0 _ ⟨by omega, by omega⟩ ⟨by omega, by omega⟩).mono ?_
  rintro e w1 ⟨⟨hbad, _⟩ | ⟨n2, t2, pj, Gj, e1, e2, _, _, _, rfl, hK, hGk⟩, hbw1⟩
  · exact absurd ⟨by omega, by omega, by omega⟩ hbad
  obtain rfl : n2 = 1 := by omega
  obtain rfl : t2 = 0 := by omega
  have hq1 := Kq.new hK hGk hbw1
  have hbA : Below w1.heap.size w1 (w1.alloc (.cells #[.int .u64 9] 23)) := (Below.refl _ _).alloc (Nat.le_refl _) _
  have hqA := hq1.same hbA
  have r9 : Rd (w1.alloc (.cells #[.int .u64 9] 23)) (some ⟨w1.heap.size, 0, none⟩) 1 1 [9] := (Blk.lit1 w1 9).whole 1 rfl (by unfold maxLen; omega) (fun u hu => by rw [List.mem_singleton.1 hu]; omega)
  obtain ⟨s1, HE1, HA1⟩ : ∃ s1, Hid (kgen (k0 1 0) [9] = (1, 0, s1)) ∧ Hid (Kab s1 1 0 [9]) := by
    obtain ⟨s1, e, h⟩ := (k0_ab (n := 1) (t := 0) (by omega) (by omega) (by omega)).gen (by simp) (ds := [9]) rfl
    exact ⟨s1, by unfold Hid; simpa using e, h⟩
  clear hK hGk hbw1 hq1 hbA e1 e2
  go_wp2_with fail
  generalize w1.alloc (.cells #[.int .u64 9] 23) = wA at *
  refine (hqA.k (fun G hG => qGen pj G (k0 1 0) _ _ _ _ _ hG r9 (by show 0 ≤ 1000000; omega))).mono ?_
  rintro e w2 ⟨rfl, hq2⟩
  rw [HE1.out] at hq2 ⊢
  clear hqA r9
  go_wp2_with fail
  refine (hq2.kr (fun G hG => qOpen pj G s1 1 _ hG ⟨by omega, by omega⟩)).mono ?_
  rintro e w3 ⟨y, r, rfl, hO, hb3⟩
  obtain ⟨rfl, rfl⟩ := HA1.out.told (by omega) (by simp) hO
  have hbw3 := (hq2.same hb3).bel
  clear hq2 hb3 hO
  have h99 : ([9] : List Int).getD ((1 : Int) - 1).toNat 0 = 9 := rfl
  rw [h99]
  go_wp2_with fail
  refine (kCrew t n _).mono ?_
  rintro e w3' ⟨⟨t', n', rfl, ht4, hnt, hn9⟩, hw⟩
  have hw := hw.symm
  subst hw
  go_wp2_with fail
  refine (qNew (n' : Int) (t' : Int) _ ⟨by omega, by omega⟩ ⟨by omega, by omega⟩).mono ?_
  rintro e w4 ⟨⟨hbad, _⟩ | ⟨n2, t2, pk, Gk, e1, e2, _, _, _, rfl, hK, hGk⟩, hb4⟩
  · exact absurd ⟨by omega, by omega, by omega⟩ hbad
  obtain rfl : n' = n2 := by omega
  obtain rfl : t' = t2 := by omega
  have hq4 := Kq.new hK (fun i g => Nat.le_trans hbw3.size (hGk i g)) (hbw3.trans (hb4.mono hbw3.size))
  clear hK hGk hb4 e1 e2 hbw3
  obtain ⟨T1, HT1⟩ : ∃ T1, Hid (t' + 1 = T1) := ⟨_, rfl⟩
  have hT1 : (t' : Int) + 1 = (T1 : Int) := by rw [← HT1.out]; omega
  obtain ⟨M, HM⟩ : ∃ M, Hid (n' * T1 = M) := ⟨_, rfl⟩
  have hMI : (n' : Int) * (T1 : Int) = (M : Int) := by rw [← HM.out]; push_cast; rfl
  have hM45 : M ≤ 45 := by rw [← HM.out]; exact Nat.mul_le_mul hn9 (show T1 ≤ 5 by rw [← HT1.out]; omega)
  obtain ⟨P, HP⟩ : ∃ P, Hid (n' * t' = P) := ⟨_, rfl⟩
  have hPI : (n' : Int) * (t' : Int) = (P : Int) := by rw [← HP.out]; push_cast; rfl
  have hP45 : P ≤ 36 := by rw [← HP.out]; exact Nat.mul_le_mul hn9 ht4
  have HL1 : Hid ((padded d M).length = n' * (t' + 1)) := by unfold Hid; rw [padded_len, HT1.out, HM.out]
  have HL2 : Hid ((padded f M).length = n' * (t' + 1)) := by unfold Hid; rw [padded_len, HT1.out, HM.out]
  have HL3 : Hid ((padded d P).length = n' * t') := by unfold Hid; rw [padded_len, HP.out]
  obtain ⟨v1, HV1⟩ : ∃ v, Hid (ksv t' true (padded d M) n' = v) := ⟨_, rfl⟩
  obtain ⟨v2, HV2⟩ : ∃ v, Hid (ksv t' true (padded f M) n' = v) := ⟨_, rfl⟩
  have hv1 := (ksm_ksh n' t' true (padded d M) n').val
  have hv2 := (ksm_ksh n' t' true (padded f M) n').val
  rw [HV1.out] at hv1
  rw [HV2.out] at hv2
  obtain ⟨s2, HE2, HA2⟩ : ∃ s', Hid (kgen (k0 n' t') (padded d M) = (1, 0, s')) ∧ Hid (Kab s' n' t' [v1]) := by
    obtain ⟨s', e, h⟩ := (k0_ab ht4 hn9 hnt).gen (by simp) HL1.out
    rw [HV1.out] at h
    exact ⟨s', by unfold Hid; simpa using e, h⟩
  obtain ⟨s3, HE3, HA3⟩ : ∃ s', Hid (kgen s2 (padded f M) = (2, 0, s')) ∧ Hid (Kab s' n' t' [v1, v2]) := by
    obtain ⟨s', e, h⟩ := HA2.out.gen (by simp) HL2.out
    rw [HV2.out] at h
    exact ⟨s', by unfold Hid; simpa using e, h⟩
  obtain ⟨s4, HE4, HA4⟩ : ∃ s', Hid (kmix s3 1 1 1 0 a = (3, 0, s')) ∧ Hid (Kab s' n' t' [v1, v2, nm (v1 + a)]) := by
    obtain ⟨s', e, h⟩ := HA3.out.mix (by simp) (g := 1) (k := 1) (by omega) (by simp) (by omega) (by simp) 1 0 a
    exact ⟨s', by unfold Hid; simpa using e, by unfold Hid; simpa using h⟩
  obtain ⟨s5, HE5, HA5⟩ : ∃ s', Hid (kmix s4 1 2 a b 0 = (4, 0, s')) ∧ Hid (Kab s' n' t' [v1, v2, nm (v1 + a), nm (nm (a * v1) + nm (b * v2))]) := by
    obtain ⟨s', e, h⟩ := HA4.out.mix (by simp) (g := 1) (k := 2) (by omega) (by simp) (by omega) (by simp) a b 0
    refine ⟨s', by unfold Hid; simpa using e, ?_⟩
    unfold Hid
    rw [nm_addl, nm_addr]
    simpa using h
  obtain ⟨s6, HE6, HA6⟩ : ∃ s', Hid (kmul s5 1 2 (padded d P) = (5, 0, s')) ∧ Hid (Kab s' n' t' [v1, v2, nm (v1 + a), nm (nm (a * v1) + nm (b * v2)), nm (v1 * v2)]) := by
    obtain ⟨s', e, h⟩ := HA5.out.mul (by simp) (g := 1) (k := 2) (by omega) (by simp) (by omega) (by simp) HL3.out
    exact ⟨s', by unfold Hid; simpa using e, by unfold Hid; simpa using h⟩
  obtain ⟨s7, HE7, HA7⟩ : ∃ s', Hid (krfr s6 2 (padded d P) = (0, s')) ∧ Hid (Kab s' n' t' [v1, v2, nm (v1 + a), nm (nm (a * v1) + nm (b * v2)), nm (v1 * v2)]) := by
    obtain ⟨s', e, h⟩ := HA6.out.rfr (k := 2) (by omega) (by simp) HL3.out
    exact ⟨s', e, h⟩
  have hi1 : i64r 1 := ⟨by omega, by omega⟩
  have hi2 : i64r 2 := ⟨by omega, by omega⟩
  have HI1 : Hid (i64r 1) := hi1
  have HI2 : Hid (i64r 2) := hi2
  have hls : (k0 n' t').last ≤ 1000000 ∧ s2.last ≤ 1000000 ∧ s3.last ≤ 1000000 ∧ s4.last ≤ 1000000 ∧ s5.last ≤ 1000000 := by
    refine ⟨Nat.zero_le _, ?_, ?_, ?_, ?_⟩
    · rw [HA2.out.el]; simp
    · rw [HA3.out.el]; simp
    · rw [HA4.out.el]; simp
    · rw [HA5.out.el]; simp
  have HLS : Hid (_ ∧ _) := hls
  clear hi1 hi2 hls
  go_wp2_with fail
  refine (kFilledL _ _ _ _ M _ (hd.below hq4.bel) (by omega)).mono ?_
  rintro e w5 ⟨g5, rfl, hr5, hb5⟩
  have hq5 := hq4.same hb5
  clear hq4 hb5
  go_wp2_with fail
  refine (hq5.k (fun G hG => qGen pk G _ _ _ _ _ _ hG hr5 HLS.out.1)).mono ?_
  rintro e w6 ⟨rfl, hq6⟩
  rw [HE2.out] at hq6 ⊢
  clear hq5 hr5
  go_wp2_with fail
  refine (kFilledL _ _ _ _ M _ (hf.below hq6.bel) (by omega)).mono ?_
  rintro e w7 ⟨g7, rfl, hr7, hb7⟩
  have hq7 := hq6.same hb7
  clear hq6 hb7
  go_wp2_with fail
  refine (hq7.k (fun G hG => qGen pk G _ _ _ _ _ _ hG hr7 HLS.out.2.1)).mono ?_
  rintro e w8 ⟨rfl, hq8⟩
  rw [HE3.out] at hq8 ⊢
  clear hq7 hr7
  go_wp2_with fail
  refine (hq8.kr (fun G hG => qOpen pk G s3 1 _ hG HI1.out)).mono ?_
  rintro e w9 ⟨y, r, rfl, hO, hb9⟩
  obtain ⟨hy, rfl⟩ := HA3.out.told (by omega) (by simp) hO
  have hy1 : v1 = y := hy.symm
  subst hy1
  have hq9 := hq8.same hb9
  clear hq8 hb9 hO hy
  go_wp2_with fail
  refine (hq9.kr (fun G hG => qOpen pk G s3 2 _ hG HI2.out)).mono ?_
  rintro e w10 ⟨y, r, rfl, hO, hb10⟩
  obtain ⟨hy, rfl⟩ := HA3.out.told (by omega) (by simp) hO
  have hy2 : v2 = y := hy.symm
  subst hy2
  have hq10 := hq9.same hb10
  clear hq9 hb10 hO hy
  go_wp2_with fail
  refine (hq10.k (fun G hG => qTweak pk G s3 1 a _ hG HI1.out ha0 ha1 HLS.out.2.2.1)).mono ?_
  rintro e w11 ⟨rfl, hq11⟩
  rw [HE4.out] at hq11 ⊢
  clear hq10
  go_wp2_with fail
  refine (hq11.k (fun G hG => qCombine pk G s4 1 2 a b _ hG HI1.out HI2.out ha0 ha1 hb0 hb1 HLS.out.2.2.2.1)).mono ?_
  rintro e w12 ⟨rfl, hq12⟩
  rw [HE5.out] at hq12 ⊢
  clear hq11
  go_wp2_with fail
  refine (kFilledL _ _ _ _ P _ (hd.below hq12.bel) (by omega)).mono ?_
  rintro e w13 ⟨g13, rfl, hr13, hb13⟩
  have hq13 := hq12.same hb13
  clear hq12 hb13
  go_wp2_with fail
  refine (hq13.k (fun G hG => qMultiply pk G s5 1 2 _ _ _ _ _ hG HI1.out HI2.out hr13 HLS.out.2.2.2.2)).mono ?_
  rintro e w14 ⟨rfl, hq14⟩
  rw [HE6.out] at hq14 ⊢
  clear hq13 hr13
  go_wp2_with fail
  refine (kFilledL _ _ _ _ P _ (hd.below hq14.bel) (by omega)).mono ?_
  rintro e w15 ⟨g15, rfl, hr15, hb15⟩
  have hq15 := hq14.same hb15
  clear hq14 hb15
  go_wp2_with fail
  refine (hq15.kt (fun G hG => qRefresh pk G s6 2 _ _ _ _ _ hG HI2.out hr15)).mono ?_
  rintro e w16 ⟨rfl, hq16⟩
  rw [HE7.out] at hq16 ⊢
  clear hq15 hr15
  go_upto_region 25 with fail
  have hn3 := nm_bd (v1 + a)
  have hn4 := nm_bd (nm (a * v1) + nm (b * v2))
  have hn5 := nm_bd (v1 * v2)
  obtain ⟨V, HV⟩ : ∃ V, Hid ([v1, v2, nm (v1 + a), nm (nm (a * v1) + nm (b * v2)), nm (v1 * v2)] = V) := ⟨_, rfl⟩
  have HA : Hid (Kab s7 n' t' V) := by unfold Hid; rw [← HV.out]; exact HA7.out
  have HVl : Hid (V.length = 5) := by unfold Hid; rw [← HV.out]; rfl
  refine krReg (v1 := v1) (v2 := v2) (va := a) (vb := b) (Nat.le_of_ble_eq_true rfl) rfl rfl rfl rfl rfl rfl rfl rfl rfl hv1 hv2 ⟨ha0, ha1⟩ ⟨hb0, hb1⟩ ?_
  unfold Hid
  intro w17 hM17 hb17
  rw [vat_krG, HV.out] at hM17
  have HT : Tkp w pk w16.heap.size s7 (vat V) w17 := by
    obtain ⟨Gk, h1, h2, h3⟩ := hq16
    exact ⟨Gk, h1.same hb17, by rw [HA.out.ec, HVl.out]; exact hM17, fun g => by have := h1.lt _ g; omega, h2, h3.size, HA.out.vl, h3.trans (hb17.mono h3.size)⟩
  have HVL : Hid (Kvl s7 (vat V)) := HA.out.vl
  have HWF : Hid (Kwf s7) := HA.out.wf
  obtain ⟨bm, HBM⟩ : ∃ bm, Hid (w16.heap.size = bm) := ⟨_, rfl⟩
  rw [HBM.out] at HT ⊢
  clear hM17 hb17 hq16
  go_simp
  have hMl := HT.map
  go_wp2_with (at_range; refine wpList_rangeU _ rfl _ 40 rfl 23 Try.underlying40 bm _ (vat V) rfl hMl ?_; intro w18 hR18 hg18 hs18; have hTr := HT.range hR18 hg18; clear hR18 hg18 hs18)
  clear hMl
  obtain ⟨rb, HRB⟩ : ∃ rb, Hid (w17.heap.size = rb) := ⟨_, rfl⟩
  rw [HRB.out] at hTr ⊢
  obtain ⟨HD1, HD2⟩ : Hid (kdrp s7 1 = (0, kout s7 1)) ∧ Hid (kdrp (kout s7 1) 1 = (4, kout s7 1)) := HA.out.drp (k := 1) (by omega) (by rw [HVl.out]; omega)
  have HC5 : Hid (s7.cnt = 5) := by unfold Hid; rw [HA.out.ec, HVl.out]
  go_simp
  go_loopw [30] (fun _ wr => ∃ cnt, Tkr w pk bm rb s7 (vat V) cnt wr) (fun _ wr => wr.rangeLeft bm rb)
  case atStart => exact ⟨_, hTr⟩
  case round =>
    clear hTr HT
    obtain ⟨cnt, hR⟩ := hrel
    go_wp2_with (at_next; refine wpList_nextU _ rfl _ rfl bm rb _ cnt (vat V) rfl hR.rng ?_ ?_)
    · have hTe := hR.off HVL.out
      have hMe := hTe.map
      rw [HC5.out] at hMe
      have hQe : Kq w pk s7 wr := by
        obtain ⟨Gk, h1, _, _, h4, _, _, h7⟩ := hTe
        exact ⟨Gk, h1, h4, h7⟩
      clear hTe hR
      have hLn := hMe.len (t := 40) Try.underlying40 3
      have h55 : ((5 : Nat) : Int) = 5 := rfl
      rw [h55] at hLn
      clear hMe h55
      go_wp2_with fail
      rw [hLn]
      go_wp2_with fail
      refine (hQe.kt (fun G hG => qDrop pk G s7 1 _ hG HI1.out)).mono ?_
      rintro e w20 ⟨rfl, hQ20⟩
      rw [HD1.out] at hQ20 ⊢
      clear hQe hLn
      go_wp2_with fail
      refine (hQ20.kt (fun G hG => qDrop pk G (kout s7 1) 1 _ hG HI1.out)).mono ?_
      rintro e w21 ⟨rfl, hQ21⟩
      rw [HD2.out] at hQ21 ⊢
      have hbw21 := hQ21.bel
      clear hQ20 hQ21
      go_wp2
      go_ret
      exact ⟨rfl, hbw21⟩
    · intro x c wn cnt' hxr hgx hRn hltc hgn _ hen
      have HXR : Hid (i64r x) := hxr
      have HGX : Hid (vat V x = some c) := hgx
      have hR2 := hR.next hRn hgn
      have HCL : Hid (cnt = wr.rangeLeft bm rb) := hR.rng.left.symm
      clear hRn hgn hgx hxr hR
      go_wp2_with fail
      refine (hR2.kr (fun G hG => qOpen pk G s7 x _ hG HXR.out)).mono ?_
      rintro e w6 ⟨y, r, rfl, hO, hb6⟩
      obtain ⟨l, hf⟩ : ∃ l, s7.f x = some l := by
        rcases HVL.out x with ⟨_, e⟩ | ⟨l, _, e, _⟩
        · rw [HGX.out] at e; cases e
        · exact ⟨l, e⟩
      obtain ⟨e1, rfl⟩ := HVL.out.told HWF.out hf hO
      obtain rfl : c = y := by rw [HGX.out] at e1; exact Option.some.inj e1
      have hR3 := hR2.same hb6
      have hcc : (c != c) = false := by simp
      clear hR2 hb6 hf hO e1 hen
      go_wp2
      go_roundw
      case rel => exact ⟨cnt', hR3⟩
      case measure => rw [hR3.rng.left, ← HCL.out]; exact hltc
end Go.Proofs.Ytgmelcdgnjcojaf

namespace Go.Proofs.Ytgmelcdgnjcojaf
open Go.RowKit Crm

theorem zeroL (w : World) : (zeroValue 22).run Try.prog w = .ok (.slice none 0 0) w := by kernel_rfl
/-- Are there the first k of these keys? -/
def hsl (s : Kt) (hs : List Int) (k : Nat) : Bool := (hs.take k).all fun h => (s.f h).isSome
theorem hsl_step (s : Kt) {hs : List Int} {k : Nat} (h : k < hs.length) : hsl s hs (k + 1) = (hsl s hs k && (s.f (hs.getD k 0)).isSome) := by
  unfold hsl
  rw [List.take_add_one, List.all_append, List.getElem?_eq_getElem h]
  simp [List.getD_eq_getElem?_getD, List.getElem?_eq_getElem h]

end Go.Proofs.Ytgmelcdgnjcojaf

namespace Go.Proofs.Ytgmelcdgnjcojaf
open Go.RowKit

/-- Where a piece lies. -/
def subA (a : Option Addr) (c lo : Nat) : Option Addr := if c = lo then a else a.map (·.add lo)
theorem Rd.sub {w : World} {a : Option Addr} {n c : Nat} {xs : List Int} (h : Rd w a n c xs) {lo k : Nat} (hk : lo + k ≤ n) : Rd w (subA a c lo) k (c - lo) ((xs.drop lo).take k) := by
  have hl := h.len
  have hc := h.cap
  have hm := h.max
  refine ⟨by simp; omega, by omega, by omega, fun x hx => h.bd x (List.mem_of_mem_drop (List.mem_of_mem_take hx)), fun e => ?_, fun x hx i hi => ?_⟩
  · unfold subA at e
    split at e
    · omega
    · cases a with
      | none => have := h.nil rfl; omega
      | some y => simp at e
  · obtain ⟨b, o, rfl, _, hcell⟩ := h.at (k := lo + i) (by omega)
    unfold subA at hx
    rw [if_neg (by omega), Option.map_some] at hx
    obtain rfl := Option.some.inj hx
    rw [Addr.add_lit, Addr.add_lit, Nat.add_assoc, hcell (lo + i) (by omega)]
    congr 2
    simp [hi]
/-- .. as a walk meets it. -/
theorem run_sub {P : Program} {T E : TypeId} (hT : P.underlying T = some (.slice E)) (hE : (P.info? E).map (·.size) = some 1) (a : Option Addr) (n c lo k : Nat) {l h : Int} (hl : l = (lo : Int)) (hh : h = (lo : Int) + (k : Int)) (hc : lo + k ≤ c) (W : World) :
    (Instr.sliceAt T (.slice a n c) (some (.int .i64 l)) (some (.int .i64 h)) none).run P W = .ok (.slice (subA a c lo) k (c - lo)) W := by
  subst hl hh
  have he : P.elem T = E := by simp [Program.elem, hT]
  have hT' : P.underlying T = some (.slice (P.elem T)) := by rw [he]; exact hT
  have e1 : ((lo : Int) + (k : Int)).toNat = lo + k := by omega
  cases hi : P.info? E with
  | none => simp [hi] at hE
  | some i =>
    have hs : i.size = 1 := by simpa [hi] using hE
    rw [run_sliceAt_slice W T _ _ _ _ hT', run_slice_lh W T a n c hT' .i64 .i64 (lo : Int) ((lo : Int) + (k : Int)) (by omega) (by omega) (by omega), he, e1]
    simp [sizeOf, typeInfo, hi, hs, sliced, subA, Result.andThen]
theorem run_subl {P : Program} {T E : TypeId} (hT : P.underlying T = some (.slice E)) (hE : (P.info? E).map (·.size) = some 1) (a : Option Addr) (n c lo : Nat) {l : Int} (hl : l = (lo : Int)) (hn : lo ≤ n) (W : World) :
    (Instr.sliceAt T (.slice a n c) (some (.int .i64 l)) none none).run P W = .ok (.slice (subA a c lo) (n - lo) (c - lo)) W := by
  subst hl
  have he : P.elem T = E := by simp [Program.elem, hT]
  have hT' : P.underlying T = some (.slice (P.elem T)) := by rw [he]; exact hT
  cases hi : P.info? E with
  | none => simp [hi] at hE
  | some i =>
    have hs : i.size = 1 := by simpa [hi] using hE
    rw [run_sliceAt_slice W T _ _ _ _ hT', run_slice_l W T a n c hT' .i64 (lo : Int) (by omega) (by omega), he]
    simp [sizeOf, typeInfo, hi, hs, sliced, subA, Result.andThen]
end Go.Proofs.Ytgmelcdgnjcojaf
