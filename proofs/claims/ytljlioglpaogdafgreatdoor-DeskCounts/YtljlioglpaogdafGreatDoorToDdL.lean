/- (*desk.desk).answer: vTwk. (Print of wip/tpl/gen/mkda.py.) · What desk.keyCommand's closure of vComb does. (Print of wip/tpl/gen/mkdd.py.) · (*desk.desk).answer: vComb. (Print of wip/tpl/gen/mkda.py.) · What desk.keyCommand's closure of vMult does. (Print of wip/tpl/gen/mkdd.py.) · (*desk.desk).answer: vMult. (Print of wip/tpl/gen/mkda.py.) · (*desk.desk).answer: vKey. (Print of wip/tpl/gen/mkda.py.) · What desk.keyCommand's closure of vDrop does. (Print of wip/tpl/gen/mkdd.py.) · (*desk.desk).answer: vDrop. (Print of wip/tpl/gen/mkda.py.) · Package desk: lay, and the verb circuit of answer. -/
import Derived.Test.YtljlioglpaogdafGreatDoorToDdK5
import Derived.Test.YtljlioglpaogdafGreatDoorToDskF
import Derived.Deep.RegionHeld3
namespace Go.Proofs.YtljlioglpaogdafGreatDoor
set_option linter.unusedVariables false
set_option maxRecDepth 100000
set_option maxHeartbeats 8000000
section
open Crm Go.RowKit
theorem dAnsTwk (w0 w : World) (p : Nat) (G : Nat → Prop) (T : ByteArray) (S : Option Kt) (a : Option Addr) (n c : Nat) (l : List ByteArray) (h : Dbc w0 w p G T S) (r : RdT w a n c l) (hn : n ≤ 70000) (hTz : T.size ≤ 2048) (hlast : ∀ s, S = some s → s.last ≤ 1000000) (hT : Tabs w0) (hS : Shp w0) (hDs : Dsp w0) :
    Calls Tryz.prog 14 #[.pointer (some ⟨p, 0, none⟩), .string vTwk, .slice a n c] w (Dle w0 p G T S vTwk l w) := by
  obtain ⟨v, HV⟩ : ∃ v, Hid (vTwk = v) := ⟨_, rfl⟩
  have q_vCirc : (v.toList == [99, 105, 114, 99, 117, 105, 116]) = false := by rw [← HV.out]; decide +kernel
  have q_vWork : (v.toList == [119, 111, 114, 107]) = false := by rw [← HV.out]; decide +kernel
  rw [HV.out]
  have hlen := r.len
  have hcap := r.cap
  have hmax := r.max
  unfold maxLen at hmax
  have hpl := h.plt
  have H : Hid (Dbc w0 w p G T S) := h
  have HT : Hid (∀ w', Below w.heap.size w w' → Tabs w' ∧ Shp w' ∧ Dsp w') := fun w' hb => ⟨hT.below (h.bel.trans (hb.mono h.bel.size)), hS.below (h.bel.trans (hb.mono h.bel.size)), hDs.below (h.bel.trans (hb.mono h.bel.size))⟩
  have HSQ : Hid (∀ le mo, Shq v le mo → le = 2 ∧ mo = false) := fun le mo hq => shq_vTwk (by rw [HV.out]; exact hq)
  have HFT : Hid (Fit3 l n 2 false ↔ Syn vTwk l) := fit_vTwk hlen
  clear h
  go_enter Tryz.func14, Tryz.ntmps14
  go_wp2_with fail
  refine (dShape v _ (HT.out _ (Below.refl _ _)).2.2).mono ?_
  rintro e w1 ⟨wd, le, mo, rfl, hq, hb1⟩
  obtain ⟨rfl, rfl⟩ := HSQ.out le mo hq
  clear hq
  go_wp2_with fail
  refine (dRead wd 2 false _ _ _ l _ (r.below hb1) (by omega)).mono ?_
  rintro e w2 ⟨⟨hno, u, rfl⟩ | ⟨hok, g, rfl, hg, hB⟩, hb2⟩
  · have hb12 := hb1.trans (hb2.mono hb1.size)
    have HD : Hid (Dln T S v l (erB 3) T S) := by rw [← HV.out]; exact .inl ⟨fun hs => hno (HFT.out.2 hs), rfl, rfl, rfl⟩
    obtain ⟨hTb, _⟩ := HT.out _ hb12
    clear hno
    go_wp2_with fail
    refine (dFail 3 _ (by omega) (by omega) hTb).mono ?_
    rintro e wz ⟨rfl, hbz⟩
    have hbw := hb12.trans (hbz.mono hb12.size)
    obtain ⟨X, HX⟩ : ∃ X, Hid (erB 3 = X) := ⟨_, rfl⟩
    rw [HX.out] at HD ⊢
    clear hbz hTb
    go_wp2
    go_ret
    exact Dle.quiet H.out hbw HD.out
  · have hb12 := hb1.trans (hb2.mono hb1.size)
    have hs1 := hb1.size
    have HSY : Hid (Syn vTwk l) := HFT.out.1 hok
    have HNB : Hid (∀ x ∈ nba l, 0 ≤ x ∧ x ≤ 9999999999) := nba_bd (by rw [hlen]; exact hok.1)
    obtain ⟨N, HNN⟩ : ∃ N, Hid (nba l = N) := ⟨_, rfl⟩
    have e0 : nbl l n = N := by rw [← HNN.out, ← hlen]; rfl
    have hNl : N.length = n := by rw [← HNN.out, nba_len]; exact hlen
    have HKN : Hid (Fit3 l n 2 false) := hok
    rw [e0] at hB
    rw [HNN.out] at HNB
    clear hok e0
    have q0 : (v.toList == [103, 101, 110]) = false := by rw [← HV.out]; decide +kernel
    have q1 : (v.toList == [114, 101, 102, 114, 101, 115, 104]) = false := by rw [← HV.out]; decide +kernel
    have q2 : (v.toList == [116, 119, 101, 97, 107]) = true := by rw [← HV.out]; decide +kernel
    have HND : Hid (n = 2) := HKN.out.len
    go_wp2_with fail
    refine (dKcTwk v _ _ _ _ q0 q1 q2).mono ?_
    rintro e w3 ⟨rfl, hw3⟩
    obtain ⟨hb3, hc3⟩ := box_new w2 (.slice (some ⟨g, 0, none⟩) n n)
    rw [← hw3] at hb3 hc3
    clear hw3
    have hb13 := hb12.trans (hb3.mono hb12.size)
    have hB3 := hB.belowB hb3
    have hgl := hB.lt
    obtain ⟨gb, HGB⟩ : ∃ gb, Hid (w2.heap.size = gb) := ⟨_, rfl⟩
    have hs2 := hb12.size
    rw [HGB.out] at hc3 hgl hs2 ⊢
    have hs3 := hb13.size
    have hnf := fun W => neq_func W (.func 50) #[] #[.pointer (some ⟨gb, 0, none⟩)]
    clear hB hb3
    obtain ⟨q, hq1, ⟨hS, rfl⟩ | ⟨s, b, hS, rfl, hst⟩⟩ := (H.out.same hb13).row
    · subst hS
      have hc1 : w3.cell? ⟨p, 1, none⟩ = some (.pointer none) := by rw [cell_of_row w3 p _ _ _ (0, 0) hq1]; rfl
      have hpl1 := (H.out.same hb13).plt
      clear hq1
      have HD : Hid (Dln T none v l (erB 4) T none) := by rw [← HV.out]; exact .inr ⟨HSY.out, by unfold Dac; rw [if_neg (by decide), if_neg (by decide), if_neg (by decide), if_neg (by decide), if_neg (by decide), if_neg (by decide)]; exact ⟨rfl, .inl ⟨rfl, rfl, rfl⟩⟩⟩
      obtain ⟨hTb, _⟩ := HT.out _ hb13
      go_wp2_with fail
      refine (dFail 4 _ (by omega) (by omega) hTb).mono ?_
      rintro e wz ⟨rfl, hbz⟩
      have hbw := hb13.trans (hbz.mono hb13.size)
      obtain ⟨X, HX⟩ : ∃ X, Hid (erB 4 = X) := ⟨_, rfl⟩
      rw [HX.out] at HD ⊢
      clear hbz hTb
      go_wp2
      go_ret
      exact Dle.quiet H.out hbw HD.out
    · subst hS
      have hc1 : w3.cell? ⟨p, 1, none⟩ = some (.pointer (some ⟨b, 0, none⟩)) := by rw [cell_of_row w3 p _ _ _ (0, 0) hq1]; rfl
      have hpl1 := (H.out.same hb13).plt
      have HRW : Hid (w.heap[p]? = some (.cells #[.string T, .pointer (some ⟨b, 0, none⟩)] 34 (0, 0))) := by unfold Hid; rw [← hb13.block p hpl]; exact hq1
      have HGG : Hid (∀ x, w.heap.size ≤ x → ¬ G x) := fun x hx e => by have h2 := H.out.lt _ e; omega
      have hls := hlast s rfl
      have HDK : Hid (∀ out s', Dky vTwk N s out s' → Dln T (some s) v l out T (some s')) := fun out s' hd => by rw [← HV.out]; exact .inr ⟨HSY.out, by unfold Dac; rw [if_neg (by decide), if_neg (by decide), if_neg (by decide), if_neg (by decide), if_neg (by decide), if_neg (by decide)]; exact ⟨rfl, .inr ⟨s, s', rfl, rfl, by rw [HNN.out]; exact hd⟩⟩⟩
      have hbel3 := (H.out.same hb13).bel
      clear hq1 hlast
      go_wp2_with fail
      refine (dKeyTwk w0 _ b gb g G s n N hst hc3 hB3 hNl HNB.out HND.out (by omega) (HGG.out gb hs2) (HGG.out g (by omega)) H.out.low hbel3 hT hls).mono ?_
      intro e w4 hk
      have HL : Hid (Dle w0 p G T (some s) v l w e w4) := Dle.key H.out HRW.out hb13 (by rw [HV.out] at hk; exact hk) (fun out s' hd => HDK.out out s' (by rw [HV.out]; exact hd))
      obtain ⟨out, s', rfl, _⟩ := hk
      clear hc1 hst hB3 hc3
      go_wp2
      go_ret
      exact HL.out
theorem dKeyComb (w0 w : World) (b gb g : Nat) (G : Nat → Prop) (s : Kt) (k : Nat) (N : List Int) (hst : Kst w b G s) (hc : w.cell? ⟨gb, 0, none⟩ = some (.slice (some ⟨g, 0, none⟩) k k)) (hB : Blk w g N) (hlen : N.length = k) (hN : ∀ x ∈ N, 0 ≤ x ∧ x ≤ 9999999999) (hk : k = 4) (hk5 : k ≤ 100000) (hgbG : ¬ G gb) (hgG : ¬ G g) (hlow : ∀ i, G i → w0.heap.size ≤ i) (hbel : Below w0.heap.size w0 w) (hT : Tabs w0) (hlast : s.last ≤ 1000000) :
    Calls Tryz.prog 52 #[.pointer (some ⟨b, 0, none⟩), .pointer (some ⟨gb, 0, none⟩)] w (Kdl b G s vComb N w) := by
  have HN : Hid (∀ x ∈ N, 0 ≤ x ∧ x ≤ 9999999999) := hN
  have hR : Rd w (some ⟨g, 0, none⟩) k k N := hB.whole k hlen.symm (by unfold maxLen; omega) (fun x hx => by have := hN x hx; omega)
  have hgbl : gb < w.heap.size := World.block_lt_of_cell? w ⟨gb, 0, none⟩ hc
  have hgl : g < w.heap.size := hB.lt
  have HGL : Hid (∀ i, G i → i < w.heap.size) := hst.lt
  clear hN
  obtain ⟨x0, HX0⟩ : ∃ x, Hid (N.getD 0 0 = x) := ⟨_, rfl⟩
  have cx0 : w.cell? ⟨g, 0, none⟩ = some (.int .u64 x0) := by rw [← HX0.out]; exact hB.cell (by omega)
  have hx0 : 0 ≤ x0 ∧ x0 ≤ 9999999999 := by
    rw [← HX0.out]
    exact HN.out _ (by rw [List.getD_eq_getElem?_getD, List.getElem?_eq_getElem (show 0 < N.length by omega)]; exact List.getElem_mem _)
  have hu0 : IntKind.i64.wrap x0 = x0 := by rw [IntKind.wrap_i64]; omega
  have hk0 : (0 : Int) < (k : Int) := by omega
  have hkn0 : 0 < k := by omega
  obtain ⟨x1, HX1⟩ : ∃ x, Hid (N.getD 1 0 = x) := ⟨_, rfl⟩
  have cx1 : w.cell? ⟨g, 1, none⟩ = some (.int .u64 x1) := by rw [← HX1.out]; exact hB.cell (by omega)
  have hx1 : 0 ≤ x1 ∧ x1 ≤ 9999999999 := by
    rw [← HX1.out]
    exact HN.out _ (by rw [List.getD_eq_getElem?_getD, List.getElem?_eq_getElem (show 1 < N.length by omega)]; exact List.getElem_mem _)
  have hu1 : IntKind.i64.wrap x1 = x1 := by rw [IntKind.wrap_i64]; omega
  have hk1 : (1 : Int) < (k : Int) := by omega
  have hkn1 : 1 < k := by omega
  obtain ⟨x2, HX2⟩ : ∃ x, Hid (N.getD 2 0 = x) := ⟨_, rfl⟩
  have cx2 : w.cell? ⟨g, 2, none⟩ = some (.int .u64 x2) := by rw [← HX2.out]; exact hB.cell (by omega)
  have hx2 : 0 ≤ x2 ∧ x2 ≤ 9999999999 := by
    rw [← HX2.out]
    exact HN.out _ (by rw [List.getD_eq_getElem?_getD, List.getElem?_eq_getElem (show 2 < N.length by omega)]; exact List.getElem_mem _)
  have hu2 : IntKind.i64.wrap x2 = x2 := by rw [IntKind.wrap_i64]; omega
  have hk2 : (2 : Int) < (k : Int) := by omega
  have hkn2 : 2 < k := by omega
  obtain ⟨x3, HX3⟩ : ∃ x, Hid (N.getD 3 0 = x) := ⟨_, rfl⟩
  have cx3 : w.cell? ⟨g, 3, none⟩ = some (.int .u64 x3) := by rw [← HX3.out]; exact hB.cell (by omega)
  have hx3 : 0 ≤ x3 ∧ x3 ≤ 9999999999 := by
    rw [← HX3.out]
    exact HN.out _ (by rw [List.getD_eq_getElem?_getD, List.getElem?_eq_getElem (show 3 < N.length by omega)]; exact List.getElem_mem _)
  have hu3 : IntKind.i64.wrap x3 = x3 := by rw [IntKind.wrap_i64]; omega
  have hk3 : (3 : Int) < (k : Int) := by omega
  have hkn3 : 3 < k := by omega
  have HAL : Hid (∀ w', Tch w w' G → w'.cell? ⟨gb, 0, none⟩ = some (.slice (some ⟨g, 0, none⟩) k k) ∧ w'.cell? ⟨g, 0, none⟩ = some (.int .u64 x0) ∧ w'.cell? ⟨g, 1, none⟩ = some (.int .u64 x1) ∧ w'.cell? ⟨g, 2, none⟩ = some (.int .u64 x2) ∧ w'.cell? ⟨g, 3, none⟩ = some (.int .u64 x3) ∧ gb < w'.heap.size ∧ g < w'.heap.size ∧ Tabs w' ∧ Rd w' (some ⟨g, 0, none⟩) k k N) := fun w' ht => by
    have hb := ht.below hbel hlow hbel.size
    have e1 : ∀ o, w'.cell? ⟨gb, o, none⟩ = w.cell? ⟨gb, o, none⟩ := fun o => cell_block (ht.block gb hgbl hgbG)
    have e2 : ∀ o, w'.cell? ⟨g, o, none⟩ = w.cell? ⟨g, o, none⟩ := fun o => cell_block (ht.block g hgl hgG)
    exact ⟨by rw [e1]; exact hc, by rw [e2]; exact cx0, by rw [e2]; exact cx1, by rw [e2]; exact cx2, by rw [e2]; exact cx3, Nat.lt_of_lt_of_le hgbl ht.size, Nat.lt_of_lt_of_le hgl ht.size, hT.below hb, hR.tch0 ht (fun x hx => by obtain rfl := Option.some.inj hx; exact hgG)⟩
  have HDK : Hid (Dky vComb N s (sad [(kmix s x0 x1 x2 x3 0).1] (kmix s x0 x1 x2 x3 0).2.1) (kmix s x0 x1 x2 x3 0).2.2) := by unfold Hid Dky; rw [if_neg (by decide), if_neg (by decide), if_neg (by decide), if_pos rfl]; unfold Dkh; rw [HX0.out, HX1.out, HX2.out, HX3.out]; exact ⟨rfl, rfl⟩
  have HRB : Hid (0 ≤ (kmix s x0 x1 x2 x3 0).1 ∧ (kmix s x0 x1 x2 x3 0).1 ≤ 9223372036854775807 ∧ -9223372036854775808 ≤ (kmix s x0 x1 x2 x3 0).2.1 ∧ (kmix s x0 x1 x2 x3 0).2.1 ≤ 9223372036854775807) := kmix_rb _ _ _ _ _ hlast
  have H : Hid (Kst w b G s) := hst
  have HD : Hid (Tch w w.drew G) := Tch.of_below (Below.refl _ _).drew
  obtain ⟨y0, y1, y2, y3, y4, y5, y6, y7, y8⟩ := HAL.out w (Tch.refl _ _)
  obtain ⟨z0, z1, z2, z3, z4, z5, z6, z7, z8⟩ := HAL.out w.drew HD.out
  clear hst hB hR
  go_enter Tryz.func52, Tryz.ntmps52
  go_wp2
  go_region_held3 (fun w' => w'.cell? ⟨gb, 0, none⟩ = some (.slice (some ⟨g, 0, none⟩) k k) ∧ w'.cell? ⟨g, 0, none⟩ = some (.int .u64 x0) ∧ w'.cell? ⟨g, 1, none⟩ = some (.int .u64 x1) ∧ w'.cell? ⟨g, 2, none⟩ = some (.int .u64 x2) ∧ w'.cell? ⟨g, 3, none⟩ = some (.int .u64 x3)) (go_keep) (first | (go_at_call 53; refine (cCombineK b G s x0 x1 x2 x3 _ (H.out.same ((Below.refl _ _).drew)) ⟨by omega, by omega⟩ ⟨by omega, by omega⟩ (by omega) (by omega) (by omega) (by omega) hlast).mono ?_; intro e w3 hK; obtain ⟨rfl, hK1, hK2⟩ := Kke.behind ((Below.refl _ _).drew) hK HGL.out; obtain ⟨t0, t1, t2, t3, t4, t5, t6, t7, t8⟩ := HAL.out w3 hK2) | (go_at_call 45; refine (dTellH _ _ _ HRB.out.1 HRB.out.2.1 HRB.out.2.2.1 HRB.out.2.2.2 t7).mono ?_; rintro e w4 ⟨rfl, hb4⟩; have hT4 := hK2.same (Tch.of_below hb4); obtain ⟨o0, o1, o2, o3, o4, o5, o6, o7, o8⟩ := HAL.out w4 hT4))
  all_goals
    have HB4 : Hid (Kst w4 b (Gnx G w w4) (kmix s x0 x1 x2 x3 0).2.2) := Stx.mono (Stx.same hK1 hb4) (fun i g => g.elim .inl (fun g => .inr ⟨g.1, Nat.lt_of_lt_of_le g.2 hb4.size⟩)) (Gnx.lt HGL.out hT4.size)
    clear hK1
    go_wp2
    go_ret
    exact ⟨_, _, rfl, HDK.out, HB4.out, hT4⟩
theorem dAnsComb (w0 w : World) (p : Nat) (G : Nat → Prop) (T : ByteArray) (S : Option Kt) (a : Option Addr) (n c : Nat) (l : List ByteArray) (h : Dbc w0 w p G T S) (r : RdT w a n c l) (hn : n ≤ 70000) (hTz : T.size ≤ 2048) (hlast : ∀ s, S = some s → s.last ≤ 1000000) (hT : Tabs w0) (hS : Shp w0) (hDs : Dsp w0) :
    Calls Tryz.prog 14 #[.pointer (some ⟨p, 0, none⟩), .string vComb, .slice a n c] w (Dle w0 p G T S vComb l w) := by
  obtain ⟨v, HV⟩ : ∃ v, Hid (vComb = v) := ⟨_, rfl⟩
  have q_vCirc : (v.toList == [99, 105, 114, 99, 117, 105, 116]) = false := by rw [← HV.out]; decide +kernel
  have q_vWork : (v.toList == [119, 111, 114, 107]) = false := by rw [← HV.out]; decide +kernel
  rw [HV.out]
  have hlen := r.len
  have hcap := r.cap
  have hmax := r.max
  unfold maxLen at hmax
  have hpl := h.plt
  have H : Hid (Dbc w0 w p G T S) := h
  have HT : Hid (∀ w', Below w.heap.size w w' → Tabs w' ∧ Shp w' ∧ Dsp w') := fun w' hb => ⟨hT.below (h.bel.trans (hb.mono h.bel.size)), hS.below (h.bel.trans (hb.mono h.bel.size)), hDs.below (h.bel.trans (hb.mono h.bel.size))⟩
  have HSQ : Hid (∀ le mo, Shq v le mo → le = 4 ∧ mo = false) := fun le mo hq => shq_vComb (by rw [HV.out]; exact hq)
  have HFT : Hid (Fit3 l n 4 false ↔ Syn vComb l) := fit_vComb hlen
  clear h
  go_enter Tryz.func14, Tryz.ntmps14
  go_wp2_with fail
  refine (dShape v _ (HT.out _ (Below.refl _ _)).2.2).mono ?_
  rintro e w1 ⟨wd, le, mo, rfl, hq, hb1⟩
  obtain ⟨rfl, rfl⟩ := HSQ.out le mo hq
  clear hq
  go_wp2_with fail
  refine (dRead wd 4 false _ _ _ l _ (r.below hb1) (by omega)).mono ?_
  rintro e w2 ⟨⟨hno, u, rfl⟩ | ⟨hok, g, rfl, hg, hB⟩, hb2⟩
  · have hb12 := hb1.trans (hb2.mono hb1.size)
    have HD : Hid (Dln T S v l (erB 3) T S) := by rw [← HV.out]; exact .inl ⟨fun hs => hno (HFT.out.2 hs), rfl, rfl, rfl⟩
    obtain ⟨hTb, _⟩ := HT.out _ hb12
    clear hno
    go_wp2_with fail
    refine (dFail 3 _ (by omega) (by omega) hTb).mono ?_
    rintro e wz ⟨rfl, hbz⟩
    have hbw := hb12.trans (hbz.mono hb12.size)
    obtain ⟨X, HX⟩ : ∃ X, Hid (erB 3 = X) := ⟨_, rfl⟩
    rw [HX.out] at HD ⊢
    clear hbz hTb
    go_wp2
    go_ret
    exact Dle.quiet H.out hbw HD.out
  · have hb12 := hb1.trans (hb2.mono hb1.size)
    have hs1 := hb1.size
    have HSY : Hid (Syn vComb l) := HFT.out.1 hok
    have HNB : Hid (∀ x ∈ nba l, 0 ≤ x ∧ x ≤ 9999999999) := nba_bd (by rw [hlen]; exact hok.1)
    obtain ⟨N, HNN⟩ : ∃ N, Hid (nba l = N) := ⟨_, rfl⟩
    have e0 : nbl l n = N := by rw [← HNN.out, ← hlen]; rfl
    have hNl : N.length = n := by rw [← HNN.out, nba_len]; exact hlen
    have HKN : Hid (Fit3 l n 4 false) := hok
    rw [e0] at hB
    rw [HNN.out] at HNB
    clear hok e0
    have q0 : (v.toList == [103, 101, 110]) = false := by rw [← HV.out]; decide +kernel
    have q1 : (v.toList == [114, 101, 102, 114, 101, 115, 104]) = false := by rw [← HV.out]; decide +kernel
    have q2 : (v.toList == [116, 119, 101, 97, 107]) = false := by rw [← HV.out]; decide +kernel
    have q3 : (v.toList == [99, 111, 109, 98, 105, 110, 101]) = true := by rw [← HV.out]; decide +kernel
    have HND : Hid (n = 4) := HKN.out.len
    go_wp2_with fail
    refine (dKcComb v _ _ _ _ q0 q1 q2 q3).mono ?_
    rintro e w3 ⟨rfl, hw3⟩
    obtain ⟨hb3, hc3⟩ := box_new w2 (.slice (some ⟨g, 0, none⟩) n n)
    rw [← hw3] at hb3 hc3
    clear hw3
    have hb13 := hb12.trans (hb3.mono hb12.size)
    have hB3 := hB.belowB hb3
    have hgl := hB.lt
    obtain ⟨gb, HGB⟩ : ∃ gb, Hid (w2.heap.size = gb) := ⟨_, rfl⟩
    have hs2 := hb12.size
    rw [HGB.out] at hc3 hgl hs2 ⊢
    have hs3 := hb13.size
    have hnf := fun W => neq_func W (.func 52) #[] #[.pointer (some ⟨gb, 0, none⟩)]
    clear hB hb3
    obtain ⟨q, hq1, ⟨hS, rfl⟩ | ⟨s, b, hS, rfl, hst⟩⟩ := (H.out.same hb13).row
    · subst hS
      have hc1 : w3.cell? ⟨p, 1, none⟩ = some (.pointer none) := by rw [cell_of_row w3 p _ _ _ (0, 0) hq1]; rfl
      have hpl1 := (H.out.same hb13).plt
      clear hq1
      have HD : Hid (Dln T none v l (erB 4) T none) := by rw [← HV.out]; exact .inr ⟨HSY.out, by unfold Dac; rw [if_neg (by decide), if_neg (by decide), if_neg (by decide), if_neg (by decide), if_neg (by decide), if_neg (by decide)]; exact ⟨rfl, .inl ⟨rfl, rfl, rfl⟩⟩⟩
      obtain ⟨hTb, _⟩ := HT.out _ hb13
      go_wp2_with fail
      refine (dFail 4 _ (by omega) (by omega) hTb).mono ?_
      rintro e wz ⟨rfl, hbz⟩
      have hbw := hb13.trans (hbz.mono hb13.size)
      obtain ⟨X, HX⟩ : ∃ X, Hid (erB 4 = X) := ⟨_, rfl⟩
      rw [HX.out] at HD ⊢
      clear hbz hTb
      go_wp2
      go_ret
      exact Dle.quiet H.out hbw HD.out
    · subst hS
      have hc1 : w3.cell? ⟨p, 1, none⟩ = some (.pointer (some ⟨b, 0, none⟩)) := by rw [cell_of_row w3 p _ _ _ (0, 0) hq1]; rfl
      have hpl1 := (H.out.same hb13).plt
      have HRW : Hid (w.heap[p]? = some (.cells #[.string T, .pointer (some ⟨b, 0, none⟩)] 34 (0, 0))) := by unfold Hid; rw [← hb13.block p hpl]; exact hq1
      have HGG : Hid (∀ x, w.heap.size ≤ x → ¬ G x) := fun x hx e => by have h2 := H.out.lt _ e; omega
      have hls := hlast s rfl
      have HDK : Hid (∀ out s', Dky vComb N s out s' → Dln T (some s) v l out T (some s')) := fun out s' hd => by rw [← HV.out]; exact .inr ⟨HSY.out, by unfold Dac; rw [if_neg (by decide), if_neg (by decide), if_neg (by decide), if_neg (by decide), if_neg (by decide), if_neg (by decide)]; exact ⟨rfl, .inr ⟨s, s', rfl, rfl, by rw [HNN.out]; exact hd⟩⟩⟩
      have hbel3 := (H.out.same hb13).bel
      clear hq1 hlast
      go_wp2_with fail
      refine (dKeyComb w0 _ b gb g G s n N hst hc3 hB3 hNl HNB.out HND.out (by omega) (HGG.out gb hs2) (HGG.out g (by omega)) H.out.low hbel3 hT hls).mono ?_
      intro e w4 hk
      have HL : Hid (Dle w0 p G T (some s) v l w e w4) := Dle.key H.out HRW.out hb13 (by rw [HV.out] at hk; exact hk) (fun out s' hd => HDK.out out s' (by rw [HV.out]; exact hd))
      obtain ⟨out, s', rfl, _⟩ := hk
      clear hc1 hst hB3 hc3
      go_wp2
      go_ret
      exact HL.out
theorem dKeyMult (w0 w : World) (b gb g : Nat) (G : Nat → Prop) (s : Kt) (k : Nat) (N : List Int) (hst : Kst w b G s) (hc : w.cell? ⟨gb, 0, none⟩ = some (.slice (some ⟨g, 0, none⟩) k k)) (hB : Blk w g N) (hlen : N.length = k) (hN : ∀ x ∈ N, 0 ≤ x ∧ x ≤ 9999999999) (hk : 2 ≤ k) (hk5 : k ≤ 100000) (hgbG : ¬ G gb) (hgG : ¬ G g) (hlow : ∀ i, G i → w0.heap.size ≤ i) (hbel : Below w0.heap.size w0 w) (hT : Tabs w0) (hlast : s.last ≤ 1000000) :
    Calls Tryz.prog 54 #[.pointer (some ⟨b, 0, none⟩), .pointer (some ⟨gb, 0, none⟩)] w (Kdl b G s vMult N w) := by
  have HN : Hid (∀ x ∈ N, 0 ≤ x ∧ x ≤ 9999999999) := hN
  have hR : Rd w (some ⟨g, 0, none⟩) k k N := hB.whole k hlen.symm (by unfold maxLen; omega) (fun x hx => by have := hN x hx; omega)
  have hgbl : gb < w.heap.size := World.block_lt_of_cell? w ⟨gb, 0, none⟩ hc
  have hgl : g < w.heap.size := hB.lt
  have HGL : Hid (∀ i, G i → i < w.heap.size) := hst.lt
  clear hN
  obtain ⟨x0, HX0⟩ : ∃ x, Hid (N.getD 0 0 = x) := ⟨_, rfl⟩
  have cx0 : w.cell? ⟨g, 0, none⟩ = some (.int .u64 x0) := by rw [← HX0.out]; exact hB.cell (by omega)
  have hx0 : 0 ≤ x0 ∧ x0 ≤ 9999999999 := by
    rw [← HX0.out]
    exact HN.out _ (by rw [List.getD_eq_getElem?_getD, List.getElem?_eq_getElem (show 0 < N.length by omega)]; exact List.getElem_mem _)
  have hu0 : IntKind.i64.wrap x0 = x0 := by rw [IntKind.wrap_i64]; omega
  have hk0 : (0 : Int) < (k : Int) := by omega
  have hkn0 : 0 < k := by omega
  obtain ⟨x1, HX1⟩ : ∃ x, Hid (N.getD 1 0 = x) := ⟨_, rfl⟩
  have cx1 : w.cell? ⟨g, 1, none⟩ = some (.int .u64 x1) := by rw [← HX1.out]; exact hB.cell (by omega)
  have hx1 : 0 ≤ x1 ∧ x1 ≤ 9999999999 := by
    rw [← HX1.out]
    exact HN.out _ (by rw [List.getD_eq_getElem?_getD, List.getElem?_eq_getElem (show 1 < N.length by omega)]; exact List.getElem_mem _)
  have hu1 : IntKind.i64.wrap x1 = x1 := by rw [IntKind.wrap_i64]; omega
  have hk1 : (1 : Int) < (k : Int) := by omega
  have hkn1 : 1 < k := by omega
  have HAL : Hid (∀ w', Tch w w' G → w'.cell? ⟨gb, 0, none⟩ = some (.slice (some ⟨g, 0, none⟩) k k) ∧ w'.cell? ⟨g, 0, none⟩ = some (.int .u64 x0) ∧ w'.cell? ⟨g, 1, none⟩ = some (.int .u64 x1) ∧ gb < w'.heap.size ∧ g < w'.heap.size ∧ Tabs w' ∧ Rd w' (some ⟨g, 0, none⟩) k k N) := fun w' ht => by
    have hb := ht.below hbel hlow hbel.size
    have e1 : ∀ o, w'.cell? ⟨gb, o, none⟩ = w.cell? ⟨gb, o, none⟩ := fun o => cell_block (ht.block gb hgbl hgbG)
    have e2 : ∀ o, w'.cell? ⟨g, o, none⟩ = w.cell? ⟨g, o, none⟩ := fun o => cell_block (ht.block g hgl hgG)
    exact ⟨by rw [e1]; exact hc, by rw [e2]; exact cx0, by rw [e2]; exact cx1, Nat.lt_of_lt_of_le hgbl ht.size, Nat.lt_of_lt_of_le hgl ht.size, hT.below hb, hR.tch0 ht (fun x hx => by obtain rfl := Option.some.inj hx; exact hgG)⟩
  obtain ⟨N1, HN1⟩ : ∃ N1, Hid (N.drop 2 = N1) := ⟨_, rfl⟩
  have HDK : Hid (Dky vMult N s (sad [(kmul s x0 x1 N1).1] (kmul s x0 x1 N1).2.1) (kmul s x0 x1 N1).2.2) := by unfold Hid Dky; rw [if_neg (by decide), if_neg (by decide), if_neg (by decide), if_neg (by decide), if_pos rfl]; unfold Dkh; rw [HX0.out, HX1.out, HN1.out]; exact ⟨rfl, rfl⟩
  have HRB : Hid (0 ≤ (kmul s x0 x1 N1).1 ∧ (kmul s x0 x1 N1).1 ≤ 9223372036854775807 ∧ -9223372036854775808 ≤ (kmul s x0 x1 N1).2.1 ∧ (kmul s x0 x1 N1).2.1 ≤ 9223372036854775807) := kmul_rb _ _ _ hlast
  obtain ⟨sa, HSA⟩ : ∃ sa, Hid (subA (some ⟨g, 0, none⟩) k 2 = sa) := ⟨_, rfl⟩
  have hsl : ∀ W, (Instr.sliceAt 53 (.slice (some ⟨g, 0, none⟩) k k) (some (.int .i64 2)) none none).run Tryz.prog W = .ok (.slice sa (k - 2) (k - 2)) W := fun W => by
    rw [← HSA.out]
    exact run_subl Tryz.underlying53 infoU1 _ k k 2 rfl (by omega) W
  have HSR : Hid (∀ w', Rd w' (some ⟨g, 0, none⟩) k k N → Rd w' sa (k - 2) (k - 2) N1) := fun w' hr => by
    have e := hr.sub (lo := 2) (k := k - 2) (by omega)
    rw [HSA.out, HN1.out, List.take_of_length_le (by rw [← HN1.out, List.length_drop, hlen]; exact Nat.le_refl _)] at e
    exact e
  have hlk : (2 : Int) ≤ (k : Int) := by omega
  have H : Hid (Kst w b G s) := hst
  have HD : Hid (Tch w w.drew G) := Tch.of_below (Below.refl _ _).drew
  obtain ⟨y0, y1, y2, y3, y4, y5, y6⟩ := HAL.out w (Tch.refl _ _)
  obtain ⟨z0, z1, z2, z3, z4, z5, z6⟩ := HAL.out w.drew HD.out
  clear hst hB hR
  go_enter Tryz.func54, Tryz.ntmps54
  go_wp2
  go_region_held3 (fun w' => w'.cell? ⟨gb, 0, none⟩ = some (.slice (some ⟨g, 0, none⟩) k k) ∧ w'.cell? ⟨g, 0, none⟩ = some (.int .u64 x0) ∧ w'.cell? ⟨g, 1, none⟩ = some (.int .u64 x1)) (go_keep) (first | (go_at_call 55; refine (cMultiplyK b G s x0 x1 _ _ _ N1 _ (H.out.same ((Below.refl _ _).drew)) ⟨by omega, by omega⟩ ⟨by omega, by omega⟩ (HSR.out _ z6) hlast).mono ?_; intro e w3 hK; obtain ⟨rfl, hK1, hK2⟩ := Kke.behind ((Below.refl _ _).drew) hK HGL.out; obtain ⟨t0, t1, t2, t3, t4, t5, t6⟩ := HAL.out w3 hK2) | (go_at_call 45; refine (dTellH _ _ _ HRB.out.1 HRB.out.2.1 HRB.out.2.2.1 HRB.out.2.2.2 t5).mono ?_; rintro e w4 ⟨rfl, hb4⟩; have hT4 := hK2.same (Tch.of_below hb4); obtain ⟨o0, o1, o2, o3, o4, o5, o6⟩ := HAL.out w4 hT4))
  all_goals
    have HB4 : Hid (Kst w4 b (Gnx G w w4) (kmul s x0 x1 N1).2.2) := Stx.mono (Stx.same hK1 hb4) (fun i g => g.elim .inl (fun g => .inr ⟨g.1, Nat.lt_of_lt_of_le g.2 hb4.size⟩)) (Gnx.lt HGL.out hT4.size)
    clear hK1
    go_wp2
    go_ret
    exact ⟨_, _, rfl, HDK.out, HB4.out, hT4⟩
theorem dAnsMult (w0 w : World) (p : Nat) (G : Nat → Prop) (T : ByteArray) (S : Option Kt) (a : Option Addr) (n c : Nat) (l : List ByteArray) (h : Dbc w0 w p G T S) (r : RdT w a n c l) (hn : n ≤ 70000) (hTz : T.size ≤ 2048) (hlast : ∀ s, S = some s → s.last ≤ 1000000) (hT : Tabs w0) (hS : Shp w0) (hDs : Dsp w0) :
    Calls Tryz.prog 14 #[.pointer (some ⟨p, 0, none⟩), .string vMult, .slice a n c] w (Dle w0 p G T S vMult l w) := by
  obtain ⟨v, HV⟩ : ∃ v, Hid (vMult = v) := ⟨_, rfl⟩
  have q_vCirc : (v.toList == [99, 105, 114, 99, 117, 105, 116]) = false := by rw [← HV.out]; decide +kernel
  have q_vWork : (v.toList == [119, 111, 114, 107]) = false := by rw [← HV.out]; decide +kernel
  rw [HV.out]
  have hlen := r.len
  have hcap := r.cap
  have hmax := r.max
  unfold maxLen at hmax
  have hpl := h.plt
  have H : Hid (Dbc w0 w p G T S) := h
  have HT : Hid (∀ w', Below w.heap.size w w' → Tabs w' ∧ Shp w' ∧ Dsp w') := fun w' hb => ⟨hT.below (h.bel.trans (hb.mono h.bel.size)), hS.below (h.bel.trans (hb.mono h.bel.size)), hDs.below (h.bel.trans (hb.mono h.bel.size))⟩
  have HSQ : Hid (∀ le mo, Shq v le mo → le = 2 ∧ mo = true) := fun le mo hq => shq_vMult (by rw [HV.out]; exact hq)
  have HFT : Hid (Fit3 l n 2 true ↔ Syn vMult l) := fit_vMult hlen
  clear h
  go_enter Tryz.func14, Tryz.ntmps14
  go_wp2_with fail
  refine (dShape v _ (HT.out _ (Below.refl _ _)).2.2).mono ?_
  rintro e w1 ⟨wd, le, mo, rfl, hq, hb1⟩
  obtain ⟨rfl, rfl⟩ := HSQ.out le mo hq
  clear hq
  go_wp2_with fail
  refine (dRead wd 2 true _ _ _ l _ (r.below hb1) (by omega)).mono ?_
  rintro e w2 ⟨⟨hno, u, rfl⟩ | ⟨hok, g, rfl, hg, hB⟩, hb2⟩
  · have hb12 := hb1.trans (hb2.mono hb1.size)
    have HD : Hid (Dln T S v l (erB 3) T S) := by rw [← HV.out]; exact .inl ⟨fun hs => hno (HFT.out.2 hs), rfl, rfl, rfl⟩
    obtain ⟨hTb, _⟩ := HT.out _ hb12
    clear hno
    go_wp2_with fail
    refine (dFail 3 _ (by omega) (by omega) hTb).mono ?_
    rintro e wz ⟨rfl, hbz⟩
    have hbw := hb12.trans (hbz.mono hb12.size)
    obtain ⟨X, HX⟩ : ∃ X, Hid (erB 3 = X) := ⟨_, rfl⟩
    rw [HX.out] at HD ⊢
    clear hbz hTb
    go_wp2
    go_ret
    exact Dle.quiet H.out hbw HD.out
  · have hb12 := hb1.trans (hb2.mono hb1.size)
    have hs1 := hb1.size
    have HSY : Hid (Syn vMult l) := HFT.out.1 hok
    have HNB : Hid (∀ x ∈ nba l, 0 ≤ x ∧ x ≤ 9999999999) := nba_bd (by rw [hlen]; exact hok.1)
    obtain ⟨N, HNN⟩ : ∃ N, Hid (nba l = N) := ⟨_, rfl⟩
    have e0 : nbl l n = N := by rw [← HNN.out, ← hlen]; rfl
    have hNl : N.length = n := by rw [← HNN.out, nba_len]; exact hlen
    have HKN : Hid (Fit3 l n 2 true) := hok
    rw [e0] at hB
    rw [HNN.out] at HNB
    clear hok e0
    have q0 : (v.toList == [103, 101, 110]) = false := by rw [← HV.out]; decide +kernel
    have q1 : (v.toList == [114, 101, 102, 114, 101, 115, 104]) = false := by rw [← HV.out]; decide +kernel
    have q2 : (v.toList == [116, 119, 101, 97, 107]) = false := by rw [← HV.out]; decide +kernel
    have q3 : (v.toList == [99, 111, 109, 98, 105, 110, 101]) = false := by rw [← HV.out]; decide +kernel
    have q4 : (v.toList == [109, 117, 108, 116, 105, 112, 108, 121]) = true := by rw [← HV.out]; decide +kernel
    have HND : Hid (2 ≤ n) := HKN.out.2.1
    go_wp2_with fail
    refine (dKcMult v _ _ _ _ q0 q1 q2 q3 q4).mono ?_
    rintro e w3 ⟨rfl, hw3⟩
    obtain ⟨hb3, hc3⟩ := box_new w2 (.slice (some ⟨g, 0, none⟩) n n)
    rw [← hw3] at hb3 hc3
    clear hw3
    have hb13 := hb12.trans (hb3.mono hb12.size)
    have hB3 := hB.belowB hb3
    have hgl := hB.lt
    obtain ⟨gb, HGB⟩ : ∃ gb, Hid (w2.heap.size = gb) := ⟨_, rfl⟩
    have hs2 := hb12.size
    rw [HGB.out] at hc3 hgl hs2 ⊢
    have hs3 := hb13.size
    have hnf := fun W => neq_func W (.func 54) #[] #[.pointer (some ⟨gb, 0, none⟩)]
    clear hB hb3
    obtain ⟨q, hq1, ⟨hS, rfl⟩ | ⟨s, b, hS, rfl, hst⟩⟩ := (H.out.same hb13).row
    · subst hS
      have hc1 : w3.cell? ⟨p, 1, none⟩ = some (.pointer none) := by rw [cell_of_row w3 p _ _ _ (0, 0) hq1]; rfl
      have hpl1 := (H.out.same hb13).plt
      clear hq1
      have HD : Hid (Dln T none v l (erB 4) T none) := by rw [← HV.out]; exact .inr ⟨HSY.out, by unfold Dac; rw [if_neg (by decide), if_neg (by decide), if_neg (by decide), if_neg (by decide), if_neg (by decide), if_neg (by decide)]; exact ⟨rfl, .inl ⟨rfl, rfl, rfl⟩⟩⟩
      obtain ⟨hTb, _⟩ := HT.out _ hb13
      go_wp2_with fail
      refine (dFail 4 _ (by omega) (by omega) hTb).mono ?_
      rintro e wz ⟨rfl, hbz⟩
      have hbw := hb13.trans (hbz.mono hb13.size)
      obtain ⟨X, HX⟩ : ∃ X, Hid (erB 4 = X) := ⟨_, rfl⟩
      rw [HX.out] at HD ⊢
      clear hbz hTb
      go_wp2
      go_ret
      exact Dle.quiet H.out hbw HD.out
    · subst hS
      have hc1 : w3.cell? ⟨p, 1, none⟩ = some (.pointer (some ⟨b, 0, none⟩)) := by rw [cell_of_row w3 p _ _ _ (0, 0) hq1]; rfl
      have hpl1 := (H.out.same hb13).plt
      have HRW : Hid (w.heap[p]? = some (.cells #[.string T, .pointer (some ⟨b, 0, none⟩)] 34 (0, 0))) := by unfold Hid; rw [← hb13.block p hpl]; exact hq1
      have HGG : Hid (∀ x, w.heap.size ≤ x → ¬ G x) := fun x hx e => by have h2 := H.out.lt _ e; omega
      have hls := hlast s rfl
      have HDK : Hid (∀ out s', Dky vMult N s out s' → Dln T (some s) v l out T (some s')) := fun out s' hd => by rw [← HV.out]; exact .inr ⟨HSY.out, by unfold Dac; rw [if_neg (by decide), if_neg (by decide), if_neg (by decide), if_neg (by decide), if_neg (by decide), if_neg (by decide)]; exact ⟨rfl, .inr ⟨s, s', rfl, rfl, by rw [HNN.out]; exact hd⟩⟩⟩
      have hbel3 := (H.out.same hb13).bel
      clear hq1 hlast
      go_wp2_with fail
      refine (dKeyMult w0 _ b gb g G s n N hst hc3 hB3 hNl HNB.out HND.out (by omega) (HGG.out gb hs2) (HGG.out g (by omega)) H.out.low hbel3 hT hls).mono ?_
      intro e w4 hk
      have HL : Hid (Dle w0 p G T (some s) v l w e w4) := Dle.key H.out HRW.out hb13 (by rw [HV.out] at hk; exact hk) (fun out s' hd => HDK.out out s' (by rw [HV.out]; exact hd))
      obtain ⟨out, s', rfl, _⟩ := hk
      clear hc1 hst hB3 hc3
      go_wp2
      go_ret
      exact HL.out
theorem dAnsKey (w0 w : World) (p : Nat) (G : Nat → Prop) (T : ByteArray) (S : Option Kt) (a : Option Addr) (n c : Nat) (l : List ByteArray) (h : Dbc w0 w p G T S) (r : RdT w a n c l) (hn : n ≤ 70000) (hTz : T.size ≤ 2048) (hlast : ∀ s, S = some s → s.last ≤ 1000000) (hT : Tabs w0) (hS : Shp w0) (hDs : Dsp w0) :
    Calls Tryz.prog 14 #[.pointer (some ⟨p, 0, none⟩), .string vKey, .slice a n c] w (Dle w0 p G T S vKey l w) := by
  obtain ⟨v, HV⟩ : ∃ v, Hid (vKey = v) := ⟨_, rfl⟩
  have q_vCirc : (v.toList == [99, 105, 114, 99, 117, 105, 116]) = false := by rw [← HV.out]; decide +kernel
  have q_vWork : (v.toList == [119, 111, 114, 107]) = false := by rw [← HV.out]; decide +kernel
  rw [HV.out]
  have hlen := r.len
  have hcap := r.cap
  have hmax := r.max
  unfold maxLen at hmax
  have hpl := h.plt
  have H : Hid (Dbc w0 w p G T S) := h
  have HT : Hid (∀ w', Below w.heap.size w w' → Tabs w' ∧ Shp w' ∧ Dsp w') := fun w' hb => ⟨hT.below (h.bel.trans (hb.mono h.bel.size)), hS.below (h.bel.trans (hb.mono h.bel.size)), hDs.below (h.bel.trans (hb.mono h.bel.size))⟩
  have HSQ : Hid (∀ le mo, Shq v le mo → le = 1 ∧ mo = false) := fun le mo hq => shq_vKey (by rw [HV.out]; exact hq)
  have HFT : Hid (Fit3 l n 1 false ↔ Syn vKey l) := fit_vKey hlen
  clear h
  go_enter Tryz.func14, Tryz.ntmps14
  go_wp2_with fail
  refine (dShape v _ (HT.out _ (Below.refl _ _)).2.2).mono ?_
  rintro e w1 ⟨wd, le, mo, rfl, hq, hb1⟩
  obtain ⟨rfl, rfl⟩ := HSQ.out le mo hq
  clear hq
  go_wp2_with fail
  refine (dRead wd 1 false _ _ _ l _ (r.below hb1) (by omega)).mono ?_
  rintro e w2 ⟨⟨hno, u, rfl⟩ | ⟨hok, g, rfl, hg, hB⟩, hb2⟩
  · have hb12 := hb1.trans (hb2.mono hb1.size)
    have HD : Hid (Dln T S v l (erB 3) T S) := by rw [← HV.out]; exact .inl ⟨fun hs => hno (HFT.out.2 hs), rfl, rfl, rfl⟩
    obtain ⟨hTb, _⟩ := HT.out _ hb12
    clear hno
    go_wp2_with fail
    refine (dFail 3 _ (by omega) (by omega) hTb).mono ?_
    rintro e wz ⟨rfl, hbz⟩
    have hbw := hb12.trans (hbz.mono hb12.size)
    obtain ⟨X, HX⟩ : ∃ X, Hid (erB 3 = X) := ⟨_, rfl⟩
    rw [HX.out] at HD ⊢
    clear hbz hTb
    go_wp2
    go_ret
    exact Dle.quiet H.out hbw HD.out
  · have hb12 := hb1.trans (hb2.mono hb1.size)
    have hs1 := hb1.size
    have HSY : Hid (Syn vKey l) := HFT.out.1 hok
    have HNB : Hid (∀ x ∈ nba l, 0 ≤ x ∧ x ≤ 9999999999) := nba_bd (by rw [hlen]; exact hok.1)
    obtain ⟨N, HNN⟩ : ∃ N, Hid (nba l = N) := ⟨_, rfl⟩
    have e0 : nbl l n = N := by rw [← HNN.out, ← hlen]; rfl
    have hNl : N.length = n := by rw [← HNN.out, nba_len]; exact hlen
    have HKN : Hid (Fit3 l n 1 false) := hok
    rw [e0] at hB
    rw [HNN.out] at HNB
    clear hok e0
    have q0 : (v.toList == [103, 101, 110]) = false := by rw [← HV.out]; decide +kernel
    have q1 : (v.toList == [114, 101, 102, 114, 101, 115, 104]) = false := by rw [← HV.out]; decide +kernel
    have q2 : (v.toList == [116, 119, 101, 97, 107]) = false := by rw [← HV.out]; decide +kernel
    have q3 : (v.toList == [99, 111, 109, 98, 105, 110, 101]) = false := by rw [← HV.out]; decide +kernel
    have q4 : (v.toList == [109, 117, 108, 116, 105, 112, 108, 121]) = false := by rw [← HV.out]; decide +kernel
    have q5 : (v.toList == [107, 101, 121]) = true := by rw [← HV.out]; decide +kernel
    have HND : Hid (n = 1) := HKN.out.len
    go_wp2_with fail
    refine (dKcKey v _ _ _ _ q0 q1 q2 q3 q4 q5).mono ?_
    rintro e w3 ⟨rfl, hw3⟩
    obtain ⟨hb3, hc3⟩ := box_new w2 (.slice (some ⟨g, 0, none⟩) n n)
    rw [← hw3] at hb3 hc3
    clear hw3
    have hb13 := hb12.trans (hb3.mono hb12.size)
    have hB3 := hB.belowB hb3
    have hgl := hB.lt
    obtain ⟨gb, HGB⟩ : ∃ gb, Hid (w2.heap.size = gb) := ⟨_, rfl⟩
    have hs2 := hb12.size
    rw [HGB.out] at hc3 hgl hs2 ⊢
    have hs3 := hb13.size
    have hnf := fun W => neq_func W (.func 56) #[] #[.pointer (some ⟨gb, 0, none⟩)]
    clear hB hb3
    obtain ⟨q, hq1, ⟨hS, rfl⟩ | ⟨s, b, hS, rfl, hst⟩⟩ := (H.out.same hb13).row
    · subst hS
      have hc1 : w3.cell? ⟨p, 1, none⟩ = some (.pointer none) := by rw [cell_of_row w3 p _ _ _ (0, 0) hq1]; rfl
      have hpl1 := (H.out.same hb13).plt
      clear hq1
      have HD : Hid (Dln T none v l (erB 4) T none) := by rw [← HV.out]; exact .inr ⟨HSY.out, by unfold Dac; rw [if_neg (by decide), if_neg (by decide), if_neg (by decide), if_neg (by decide), if_neg (by decide), if_neg (by decide)]; exact ⟨rfl, .inl ⟨rfl, rfl, rfl⟩⟩⟩
      obtain ⟨hTb, _⟩ := HT.out _ hb13
      go_wp2_with fail
      refine (dFail 4 _ (by omega) (by omega) hTb).mono ?_
      rintro e wz ⟨rfl, hbz⟩
      have hbw := hb13.trans (hbz.mono hb13.size)
      obtain ⟨X, HX⟩ : ∃ X, Hid (erB 4 = X) := ⟨_, rfl⟩
      rw [HX.out] at HD ⊢
      clear hbz hTb
      go_wp2
      go_ret
      exact Dle.quiet H.out hbw HD.out
    · subst hS
      have hc1 : w3.cell? ⟨p, 1, none⟩ = some (.pointer (some ⟨b, 0, none⟩)) := by rw [cell_of_row w3 p _ _ _ (0, 0) hq1]; rfl
      have hpl1 := (H.out.same hb13).plt
      have HRW : Hid (w.heap[p]? = some (.cells #[.string T, .pointer (some ⟨b, 0, none⟩)] 34 (0, 0))) := by unfold Hid; rw [← hb13.block p hpl]; exact hq1
      have HGG : Hid (∀ x, w.heap.size ≤ x → ¬ G x) := fun x hx e => by have h2 := H.out.lt _ e; omega
      have hls := hlast s rfl
      have HDK : Hid (∀ out s', Dky vKey N s out s' → Dln T (some s) v l out T (some s')) := fun out s' hd => by rw [← HV.out]; exact .inr ⟨HSY.out, by unfold Dac; rw [if_neg (by decide), if_neg (by decide), if_neg (by decide), if_neg (by decide), if_neg (by decide), if_neg (by decide)]; exact ⟨rfl, .inr ⟨s, s', rfl, rfl, by rw [HNN.out]; exact hd⟩⟩⟩
      have hbel3 := (H.out.same hb13).bel
      clear hq1 hlast
      go_wp2_with fail
      refine (dKeyKey w0 _ b gb g G s n N hst hc3 hB3 hNl HNB.out HND.out (by omega) (HGG.out gb hs2) (HGG.out g (by omega)) H.out.low hbel3 hT hls).mono ?_
      intro e w4 hk
      have HL : Hid (Dle w0 p G T (some s) v l w e w4) := Dle.key H.out HRW.out hb13 (by rw [HV.out] at hk; exact hk) (fun out s' hd => HDK.out out s' (by rw [HV.out]; exact hd))
      obtain ⟨out, s', rfl, _⟩ := hk
      clear hc1 hst hB3 hc3
      go_wp2
      go_ret
      exact HL.out
theorem dKeyDrop (w0 w : World) (b gb g : Nat) (G : Nat → Prop) (s : Kt) (k : Nat) (N : List Int) (hst : Kst w b G s) (hc : w.cell? ⟨gb, 0, none⟩ = some (.slice (some ⟨g, 0, none⟩) k k)) (hB : Blk w g N) (hlen : N.length = k) (hN : ∀ x ∈ N, 0 ≤ x ∧ x ≤ 9999999999) (hk : k = 1) (hk5 : k ≤ 100000) (hgbG : ¬ G gb) (hgG : ¬ G g) (hlow : ∀ i, G i → w0.heap.size ≤ i) (hbel : Below w0.heap.size w0 w) (hT : Tabs w0) (hlast : s.last ≤ 1000000) :
    Calls Tryz.prog 59 #[.pointer (some ⟨b, 0, none⟩), .pointer (some ⟨gb, 0, none⟩)] w (Kdl b G s vDrop N w) := by
  have HN : Hid (∀ x ∈ N, 0 ≤ x ∧ x ≤ 9999999999) := hN
  have hR : Rd w (some ⟨g, 0, none⟩) k k N := hB.whole k hlen.symm (by unfold maxLen; omega) (fun x hx => by have := hN x hx; omega)
  have hgbl : gb < w.heap.size := World.block_lt_of_cell? w ⟨gb, 0, none⟩ hc
  have hgl : g < w.heap.size := hB.lt
  have HGL : Hid (∀ i, G i → i < w.heap.size) := hst.lt
  clear hN
  obtain ⟨x0, HX0⟩ : ∃ x, Hid (N.getD 0 0 = x) := ⟨_, rfl⟩
  have cx0 : w.cell? ⟨g, 0, none⟩ = some (.int .u64 x0) := by rw [← HX0.out]; exact hB.cell (by omega)
  have hx0 : 0 ≤ x0 ∧ x0 ≤ 9999999999 := by
    rw [← HX0.out]
    exact HN.out _ (by rw [List.getD_eq_getElem?_getD, List.getElem?_eq_getElem (show 0 < N.length by omega)]; exact List.getElem_mem _)
  have hu0 : IntKind.i64.wrap x0 = x0 := by rw [IntKind.wrap_i64]; omega
  have hk0 : (0 : Int) < (k : Int) := by omega
  have hkn0 : 0 < k := by omega
  have HAL : Hid (∀ w', Tch w w' G → w'.cell? ⟨gb, 0, none⟩ = some (.slice (some ⟨g, 0, none⟩) k k) ∧ w'.cell? ⟨g, 0, none⟩ = some (.int .u64 x0) ∧ gb < w'.heap.size ∧ g < w'.heap.size ∧ Tabs w' ∧ Rd w' (some ⟨g, 0, none⟩) k k N) := fun w' ht => by
    have hb := ht.below hbel hlow hbel.size
    have e1 : ∀ o, w'.cell? ⟨gb, o, none⟩ = w.cell? ⟨gb, o, none⟩ := fun o => cell_block (ht.block gb hgbl hgbG)
    have e2 : ∀ o, w'.cell? ⟨g, o, none⟩ = w.cell? ⟨g, o, none⟩ := fun o => cell_block (ht.block g hgl hgG)
    exact ⟨by rw [e1]; exact hc, by rw [e2]; exact cx0, Nat.lt_of_lt_of_le hgbl ht.size, Nat.lt_of_lt_of_le hgl ht.size, hT.below hb, hR.tch0 ht (fun x hx => by obtain rfl := Option.some.inj hx; exact hgG)⟩
  have HDK : Hid (Dky vDrop N s (fne (kdrp s x0).1) (kdrp s x0).2) := by unfold Hid Dky; rw [if_neg (by decide), if_neg (by decide), if_neg (by decide), if_neg (by decide), if_neg (by decide), if_neg (by decide)]; unfold Dkt; rw [HX0.out]; exact ⟨rfl, rfl⟩
  have HRB : Hid (-9223372036854775808 ≤ (kdrp s x0).1 ∧ (kdrp s x0).1 ≤ 9223372036854775807) := kdrp_rb _ _
  have H : Hid (Kst w b G s) := hst
  have HD : Hid (Tch w w.drew G) := Tch.of_below (Below.refl _ _).drew
  obtain ⟨y0, y1, y2, y3, y4, y5⟩ := HAL.out w (Tch.refl _ _)
  clear hst hB hR
  go_enter Tryz.func59, Tryz.ntmps59
  go_wp2_with fail
  refine (cDropK b G s x0 _ (H.out.same (Below.refl _ _)) ⟨by omega, by omega⟩).mono ?_
  intro e w3 hK
  obtain ⟨rfl, hK1, hK2⟩ := Kkt.behind (Below.refl _ _) hK HGL.out
  obtain ⟨t0, t1, t2, t3, t4, t5⟩ := HAL.out w3 hK2
  go_wp2_with fail
  refine (dDone _ _ HRB.out.1 HRB.out.2 t4).mono ?_
  rintro e w4 ⟨rfl, hb4⟩
  have hT4 := hK2.same (Tch.of_below hb4)
  have HB4 : Hid (Kst w4 b (Gnx G w w4) (kdrp s x0).2) := Stx.mono (Stx.same hK1 hb4) (fun i g => g.elim .inl (fun g => .inr ⟨g.1, Nat.lt_of_lt_of_le g.2 hb4.size⟩)) (Gnx.lt HGL.out hT4.size)
  clear hK1
  go_wp2
  go_ret
  exact ⟨_, _, rfl, HDK.out, HB4.out, hT4⟩
theorem dAnsDrop (w0 w : World) (p : Nat) (G : Nat → Prop) (T : ByteArray) (S : Option Kt) (a : Option Addr) (n c : Nat) (l : List ByteArray) (h : Dbc w0 w p G T S) (r : RdT w a n c l) (hn : n ≤ 70000) (hTz : T.size ≤ 2048) (hlast : ∀ s, S = some s → s.last ≤ 1000000) (hT : Tabs w0) (hS : Shp w0) (hDs : Dsp w0) :
    Calls Tryz.prog 14 #[.pointer (some ⟨p, 0, none⟩), .string vDrop, .slice a n c] w (Dle w0 p G T S vDrop l w) := by
  obtain ⟨v, HV⟩ : ∃ v, Hid (vDrop = v) := ⟨_, rfl⟩
  have q_vCirc : (v.toList == [99, 105, 114, 99, 117, 105, 116]) = false := by rw [← HV.out]; decide +kernel
  have q_vWork : (v.toList == [119, 111, 114, 107]) = false := by rw [← HV.out]; decide +kernel
  rw [HV.out]
  have hlen := r.len
  have hcap := r.cap
  have hmax := r.max
  unfold maxLen at hmax
  have hpl := h.plt
  have H : Hid (Dbc w0 w p G T S) := h
  have HT : Hid (∀ w', Below w.heap.size w w' → Tabs w' ∧ Shp w' ∧ Dsp w') := fun w' hb => ⟨hT.below (h.bel.trans (hb.mono h.bel.size)), hS.below (h.bel.trans (hb.mono h.bel.size)), hDs.below (h.bel.trans (hb.mono h.bel.size))⟩
  have HSQ : Hid (∀ le mo, Shq v le mo → le = 1 ∧ mo = false) := fun le mo hq => shq_vDrop (by rw [HV.out]; exact hq)
  have HFT : Hid (Fit3 l n 1 false ↔ Syn vDrop l) := fit_vDrop hlen
  clear h
  go_enter Tryz.func14, Tryz.ntmps14
  go_wp2_with fail
  refine (dShape v _ (HT.out _ (Below.refl _ _)).2.2).mono ?_
  rintro e w1 ⟨wd, le, mo, rfl, hq, hb1⟩
  obtain ⟨rfl, rfl⟩ := HSQ.out le mo hq
  clear hq
  go_wp2_with fail
  refine (dRead wd 1 false _ _ _ l _ (r.below hb1) (by omega)).mono ?_
  rintro e w2 ⟨⟨hno, u, rfl⟩ | ⟨hok, g, rfl, hg, hB⟩, hb2⟩
  · have hb12 := hb1.trans (hb2.mono hb1.size)
    have HD : Hid (Dln T S v l (erB 3) T S) := by rw [← HV.out]; exact .inl ⟨fun hs => hno (HFT.out.2 hs), rfl, rfl, rfl⟩
    obtain ⟨hTb, _⟩ := HT.out _ hb12
    clear hno
    go_wp2_with fail
    refine (dFail 3 _ (by omega) (by omega) hTb).mono ?_
    rintro e wz ⟨rfl, hbz⟩
    have hbw := hb12.trans (hbz.mono hb12.size)
    obtain ⟨X, HX⟩ : ∃ X, Hid (erB 3 = X) := ⟨_, rfl⟩
    rw [HX.out] at HD ⊢
    clear hbz hTb
    go_wp2
    go_ret
    exact Dle.quiet H.out hbw HD.out
  · have hb12 := hb1.trans (hb2.mono hb1.size)
    have hs1 := hb1.size
    have HSY : Hid (Syn vDrop l) := HFT.out.1 hok
    have HNB : Hid (∀ x ∈ nba l, 0 ≤ x ∧ x ≤ 9999999999) := nba_bd (by rw [hlen]; exact hok.1)
    obtain ⟨N, HNN⟩ : ∃ N, Hid (nba l = N) := ⟨_, rfl⟩
    have e0 : nbl l n = N := by rw [← HNN.out, ← hlen]; rfl
    have hNl : N.length = n := by rw [← HNN.out, nba_len]; exact hlen
    have HKN : Hid (Fit3 l n 1 false) := hok
    rw [e0] at hB
    rw [HNN.out] at HNB
    clear hok e0
    have q0 : (v.toList == [103, 101, 110]) = false := by rw [← HV.out]; decide +kernel
    have q1 : (v.toList == [114, 101, 102, 114, 101, 115, 104]) = false := by rw [← HV.out]; decide +kernel
    have q2 : (v.toList == [116, 119, 101, 97, 107]) = false := by rw [← HV.out]; decide +kernel
    have q3 : (v.toList == [99, 111, 109, 98, 105, 110, 101]) = false := by rw [← HV.out]; decide +kernel
    have q4 : (v.toList == [109, 117, 108, 116, 105, 112, 108, 121]) = false := by rw [← HV.out]; decide +kernel
    have q5 : (v.toList == [107, 101, 121]) = false := by rw [← HV.out]; decide +kernel
    have q6 : (v.toList == [100, 114, 111, 112]) = true := by rw [← HV.out]; decide +kernel
    have HND : Hid (n = 1) := HKN.out.len
    go_wp2_with fail
    refine (dKcDrop v _ _ _ _ q0 q1 q2 q3 q4 q5 q6).mono ?_
    rintro e w3 ⟨rfl, hw3⟩
    obtain ⟨hb3, hc3⟩ := box_new w2 (.slice (some ⟨g, 0, none⟩) n n)
    rw [← hw3] at hb3 hc3
    clear hw3
    have hb13 := hb12.trans (hb3.mono hb12.size)
    have hB3 := hB.belowB hb3
    have hgl := hB.lt
    obtain ⟨gb, HGB⟩ : ∃ gb, Hid (w2.heap.size = gb) := ⟨_, rfl⟩
    have hs2 := hb12.size
    rw [HGB.out] at hc3 hgl hs2 ⊢
    have hs3 := hb13.size
    have hnf := fun W => neq_func W (.func 59) #[] #[.pointer (some ⟨gb, 0, none⟩)]
    clear hB hb3
    obtain ⟨q, hq1, ⟨hS, rfl⟩ | ⟨s, b, hS, rfl, hst⟩⟩ := (H.out.same hb13).row
    · subst hS
      have hc1 : w3.cell? ⟨p, 1, none⟩ = some (.pointer none) := by rw [cell_of_row w3 p _ _ _ (0, 0) hq1]; rfl
      have hpl1 := (H.out.same hb13).plt
      clear hq1
      have HD : Hid (Dln T none v l (erB 4) T none) := by rw [← HV.out]; exact .inr ⟨HSY.out, by unfold Dac; rw [if_neg (by decide), if_neg (by decide), if_neg (by decide), if_neg (by decide), if_neg (by decide), if_neg (by decide)]; exact ⟨rfl, .inl ⟨rfl, rfl, rfl⟩⟩⟩
      obtain ⟨hTb, _⟩ := HT.out _ hb13
      go_wp2_with fail
      refine (dFail 4 _ (by omega) (by omega) hTb).mono ?_
      rintro e wz ⟨rfl, hbz⟩
      have hbw := hb13.trans (hbz.mono hb13.size)
      obtain ⟨X, HX⟩ : ∃ X, Hid (erB 4 = X) := ⟨_, rfl⟩
      rw [HX.out] at HD ⊢
      clear hbz hTb
      go_wp2
      go_ret
      exact Dle.quiet H.out hbw HD.out
    · subst hS
      have hc1 : w3.cell? ⟨p, 1, none⟩ = some (.pointer (some ⟨b, 0, none⟩)) := by rw [cell_of_row w3 p _ _ _ (0, 0) hq1]; rfl
      have hpl1 := (H.out.same hb13).plt
      have HRW : Hid (w.heap[p]? = some (.cells #[.string T, .pointer (some ⟨b, 0, none⟩)] 34 (0, 0))) := by unfold Hid; rw [← hb13.block p hpl]; exact hq1
      have HGG : Hid (∀ x, w.heap.size ≤ x → ¬ G x) := fun x hx e => by have h2 := H.out.lt _ e; omega
      have hls := hlast s rfl
      have HDK : Hid (∀ out s', Dky vDrop N s out s' → Dln T (some s) v l out T (some s')) := fun out s' hd => by rw [← HV.out]; exact .inr ⟨HSY.out, by unfold Dac; rw [if_neg (by decide), if_neg (by decide), if_neg (by decide), if_neg (by decide), if_neg (by decide), if_neg (by decide)]; exact ⟨rfl, .inr ⟨s, s', rfl, rfl, by rw [HNN.out]; exact hd⟩⟩⟩
      have hbel3 := (H.out.same hb13).bel
      clear hq1 hlast
      go_wp2_with fail
      refine (dKeyDrop w0 _ b gb g G s n N hst hc3 hB3 hNl HNB.out HND.out (by omega) (HGG.out gb hs2) (HGG.out g (by omega)) H.out.low hbel3 hT hls).mono ?_
      intro e w4 hk
      have HL : Hid (Dle w0 p G T (some s) v l w e w4) := Dle.key H.out HRW.out hb13 (by rw [HV.out] at hk; exact hk) (fun out s' hd => HDK.out out s' (by rw [HV.out]; exact hd))
      obtain ⟨out, s', rfl, _⟩ := hk
      clear hc1 hst hB3 hc3
      go_wp2
      go_ret
      exact HL.out
theorem dLay (w0 w : World) (p : Nat) (G : Nat → Prop) (T : ByteArray) (S : Option Kt) (a : Option Addr) (n c : Nat) (l : List ByteArray) (h : Dbc w0 w p G T S) (r : RdT w a n c l) (hn : n ≤ 70000) (hTz : T.size ≤ 2048) (hwz : ∀ i, i < n → (tx l i).size ≤ 70000) (hT : Tabs w0) :
    Calls Tryz.prog 26 #[.pointer (some ⟨p, 0, none⟩), .slice a n c] w (Dle w0 p G T S vCirc l w) := by
  have hlen := r.len
  have hcap := r.cap
  have hmax := r.max
  unfold maxLen at hmax
  have H : Hid (Dbc w0 w p G T S) := h
  have HT : Hid (∀ w', Below w.heap.size w w' → Tabs w' ∧ w'.cell? ⟨p, 0, none⟩ = some (.string T) ∧ w'.frozen? ⟨p, 0, none⟩ = false ∧ p < w'.heap.size) := fun w' hb => ⟨hT.below (H.out.bel.trans (hb.mono H.out.bel.size)), (H.out.same hb).text.1, (H.out.same hb).text.2, (H.out.same hb).plt⟩
  have hz : (jnw l n).size ≤ 70001 * n := jnw_size hwz n (Nat.le_refl _)
  clear h hwz
  by_cases hk0 : n = 0
  · subst hk0
    have HNS : Hid (¬ Syn vCirc l) := fun hs => by unfold Syn at hs; rw [if_pos rfl] at hs; omega
    have HD : Hid (Dln T S vCirc l (erB 3) T S) := .inl ⟨HNS.out, rfl, rfl, rfl⟩
    obtain ⟨hTb, _⟩ := HT.out _ (Below.refl _ _)
    clear hz r
    go_enter Tryz.func26, Tryz.ntmps26
    go_wp2_with fail
    refine (dFail 3 _ (by omega) (by omega) hTb).mono ?_
    rintro e wz ⟨rfl, hbz⟩
    obtain ⟨X, HX⟩ : ∃ X, Hid (erB 3 = X) := ⟨_, rfl⟩
    rw [HX.out] at HD ⊢
    go_wp2
    go_ret
    exact Dle.quiet H.out hbz HD.out
  · have HSY : Hid (Syn vCirc l) := by unfold Hid Syn; rw [if_pos rfl]; omega
    have hkb : ((n : Int) == 0) = false := by rw [beq_eq_false_iff_ne]; omega
    have HJN : Hid ((jnw l n).size ≤ 100000000000) := by unfold Hid; omega
    obtain ⟨J, HJ⟩ : ∃ J, Hid (jnw l n = J) := ⟨_, rfl⟩
    have HJL : Hid (jnw l l.length = J) := by unfold Hid; rw [hlen]; exact HJ.out
    rw [HJ.out] at hz
    have a1 := add_big (P := Tryz.prog) T J (by omega)
    obtain ⟨J1, HJ1⟩ : ∃ J1, Hid (T ++ J = J1) := ⟨_, rfl⟩
    have hz1 : J1.size = T.size + J.size := by rw [← HJ1.out, ByteArray.size_append]
    rw [HJ1.out] at a1
    have a2 := add_big (P := Tryz.prog) J1 ⟨#[10]⟩ (by have := nl_size; omega)
    obtain ⟨J2, HJ2⟩ : ∃ J2, Hid (J1 ++ ⟨#[10]⟩ = J2) := ⟨_, rfl⟩
    have hz2 : J2.size = T.size + J.size + 1 := by rw [← HJ2.out, ByteArray.size_append, hz1]; rfl
    have HZ2 : Hid (J2.size = T.size + J.size + 1) := hz2
    rw [HJ2.out] at a2
    have hz2b : J2.size ≤ 10000000000 := by omega
    have HAS : Hid (T ++ (J ++ nlB) = J2) := by unfold Hid; rw [← HJ2.out, ← HJ1.out, ByteArray.append_assoc]; rfl
    obtain ⟨y0, y1, y2, y3⟩ := HT.out w (Below.refl _ _)
    obtain ⟨z0, z1, z2, z3⟩ := HT.out w.drew (Below.refl _ _).drew
    have hrd := r.below (Below.refl w.heap.size w).drew
    clear hk0 hz1 hz2
    by_cases hbig : 2048 < J2.size
    · have hbi : (2048 : Int) < (J2.size : Int) := by omega
      have HD : Hid (Dln T S vCirc l (erB 2) T S) := .inr ⟨HSY.out, by unfold Dac; rw [if_pos rfl, HJL.out]; exact ⟨rfl, .inl ⟨by rw [← HZ2.out]; exact hbig, rfl, rfl⟩⟩⟩
      clear hbig
      go_enter Tryz.func26, Tryz.ntmps26
      go_wp2
      go_region_held3 (fun w' => w'.cell? ⟨p, 0, none⟩ = some (.string T)) (go_keep) (first | (go_at_call 37; refine (sJoin _ _ _ l _ hrd (by omega) HJN.out).mono ?_; rintro e w2 ⟨rfl, hb2⟩; rw [HJ.out]; have hb2' : Below w.heap.size w w2 := ((Below.refl _ _).drew).trans (hb2.mono (Nat.le_refl _)); obtain ⟨t0, t1, t2, t3⟩ := HT.out w2 hb2'))
      all_goals
        go_wp2_with fail
        refine (dFail 2 _ (by omega) (by omega) t0).mono ?_
        rintro e wz ⟨rfl, hbz⟩
        have hbw := hb2'.trans (hbz.mono hb2'.size)
        obtain ⟨X, HX⟩ : ∃ X, Hid (erB 2 = X) := ⟨_, rfl⟩
        rw [HX.out] at HD ⊢
        clear hbz
        go_wp2
        go_ret
        exact Dle.quiet H.out hbw HD.out
    · have hbi : ¬ ((2048 : Int) < (J2.size : Int)) := by omega
      have HD : Hid (Dln T S vCirc l okB J2 S) := .inr ⟨HSY.out, by unfold Dac; rw [if_pos rfl, HJL.out]; exact ⟨rfl, .inr ⟨by rw [← HZ2.out]; omega, rfl, HAS.out.symm⟩⟩⟩
      clear hbig
      go_enter Tryz.func26, Tryz.ntmps26
      go_wp2
      go_region_held3 (fun w' => w'.cell? ⟨p, 0, none⟩ = some (.string T)) (go_keep) (first | (go_at_call 37; refine (sJoin _ _ _ l _ hrd (by omega) HJN.out).mono ?_; rintro e w2 ⟨rfl, hb2⟩; rw [HJ.out]; have hb2' : Below w.heap.size w w2 := ((Below.refl _ _).drew).trans (hb2.mono (Nat.le_refl _)); obtain ⟨t0, t1, t2, t3⟩ := HT.out w2 hb2'))
      all_goals
        have HL : Hid (Dle w0 p G T S vCirc l w (.returned (.string okB)) (w2.setCell ⟨p, 0, none⟩ (.string J2))) := Dle.text H.out hb2' HD.out
        go_wp2
        go_ret
        exact HL.out

theorem dAnsCirc (w0 w : World) (p : Nat) (G : Nat → Prop) (T : ByteArray) (S : Option Kt) (a : Option Addr) (n c : Nat) (l : List ByteArray) (h : Dbc w0 w p G T S) (r : RdT w a n c l) (hn : n ≤ 70000) (hTz : T.size ≤ 2048) (hwz : ∀ i, i < n → (tx l i).size ≤ 70000) (hT : Tabs w0) :
    Calls Tryz.prog 14 #[.pointer (some ⟨p, 0, none⟩), .string vCirc, .slice a n c] w (Dle w0 p G T S vCirc l w) := by
  have hL := dLay w0 w p G T S a n c l h r hn hTz hwz hT
  obtain ⟨v, HV⟩ : ∃ v, Hid (vCirc = v) := ⟨_, rfl⟩
  have q0 : (v.toList == [99, 105, 114, 99, 117, 105, 116]) = true := by rw [← HV.out]; decide +kernel
  rw [HV.out] at hL ⊢
  clear h r hwz
  go_enter Tryz.func14, Tryz.ntmps14
  go_wp2_with fail
  refine hL.mono ?_
  intro e w1 hD
  have HD : Hid (Dle w0 p G T S v l w e w1) := hD
  obtain ⟨out, T', S', rfl, _⟩ := hD
  clear hL
  go_wp2
  go_ret
  exact HD.out
end
end Go.Proofs.YtljlioglpaogdafGreatDoor
