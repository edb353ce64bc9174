/- (*desk.desk).plainCommand: vKeys. (Print of wip/tpl/gen/mkdp.py.) · (*desk.desk).answer: vKeys. (Print of wip/tpl/gen/mkda.py.) · (*desk.desk).plainCommand: any other word. (Print of wip/tpl/gen/mkdp.py.) · (*desk.desk).answer: any other word. (Print of wip/tpl/gen/mkda.py.) · Package desk: work, and the verb work of answer. · (*desk.desk).answer. (Print of wip/tpl/gen/mkda.py.) · Package desk: Run. -/
import Derived.Test.YtljlioglpaogdafGreatDoorToDdZ4
import Derived.Test.YtljlioglpaogdafGreatDoorToDskF
import Derived.Test.YtljlioglpaogdafGreatDoorToDdK3
import Derived.Test.YtljlioglpaogdafGreatDoorToDdL
import Derived.Test.YtljlioglpaogdafGreatDoorToDdS
import Derived.Test.YtljlioglpaogdafGreatDoorToDskN
namespace Go.Proofs.YtljlioglpaogdafGreatDoor
set_option linter.unusedVariables false
set_option maxRecDepth 100000
set_option maxHeartbeats 8000000
section
open Crm Go.RowKit
theorem dPlKeys (w0 w w1 : World) (p g : Nat) (G : Nat → Prop) (T : ByteArray) (S : Option Kt) (n : Nat) (N : List Int) (l : List ByteArray) (H0 : Dbc w0 w p G T S) (hb1 : Below w.heap.size w w1) (hB : Blk w1 g N) (hNl : N.length = n) (hNN : nba l = N) (hlen : l.length = n) (hN : ∀ x ∈ N, 0 ≤ x ∧ x ≤ 9999999999) (hn : n ≤ 70000) (hTz : T.size ≤ 2048) (hT : Tabs w0) (hS : Shp w0) (hSy : Syn vKeys l) (hk2 : n = 2) (hg : w.heap.size ≤ g) :
    Calls Tryz.prog 31 #[.pointer (some ⟨p, 0, none⟩), .string vKeys, .slice (some ⟨g, 0, none⟩) n n] w1 (Dle w0 p G T S vKeys l w) := by
  obtain ⟨v, HV⟩ : ∃ v, Hid (vKeys = v) := ⟨_, rfl⟩
  have q0 : (v.toList == [100, 101, 97, 108]) = false := by rw [← HV.out]; decide +kernel
  have q1 : (v.toList == [111, 112, 101, 110]) = false := by rw [← HV.out]; decide +kernel
  have q2 : (v.toList == [99, 108, 101, 97, 114]) = false := by rw [← HV.out]; decide +kernel
  have q3 : (v.toList == [115, 104, 111, 119]) = false := by rw [← HV.out]; decide +kernel
  have q4 : (v.toList == [114, 117, 110]) = false := by rw [← HV.out]; decide +kernel
  have q5 : (v.toList == [107, 101, 121, 115]) = true := by rw [← HV.out]; decide +kernel
  rw [HV.out]
  have H : Hid (Dbc w0 w p G T S) := H0
  have HN : Hid (∀ x ∈ N, 0 ≤ x ∧ x ≤ 9999999999) := hN
  have HNN : Hid (nba l = N) := hNN
  have hgl := hB.lt
  have hR : Rd w1 (some ⟨g, 0, none⟩) n n N := hB.whole n hNl.symm (by unfold maxLen; omega) (fun x hx => by have := hN x hx; omega)
  have HT : Hid (∀ w', Below w.heap.size w w' → Tabs w' ∧ Shp w' ∧ w'.cell? ⟨p, 0, none⟩ = some (.string T) ∧ w'.frozen? ⟨p, 0, none⟩ = false ∧ p < w'.heap.size) := fun w' hb => ⟨hT.below (H.out.bel.trans (hb.mono H.out.bel.size)), hS.below (H.out.bel.trans (hb.mono H.out.bel.size)), (H.out.same hb).text.1, (H.out.same hb).text.2, (H.out.same hb).plt⟩
  obtain ⟨hbA, hcA⟩ := box_new w1 (.slice (some ⟨g, 0, none⟩) n n)
  obtain ⟨wA, HWA⟩ : ∃ wA, Hid (w1.alloc (.cells #[.slice (some ⟨g, 0, none⟩) n n] 53) = wA) := ⟨_, rfl⟩
  rw [HWA.out] at hbA hcA
  obtain ⟨gb, HGB⟩ : ∃ gb, Hid (w1.heap.size = gb) := ⟨_, rfl⟩
  have hgbA : w1.heap.size < wA.heap.size := World.block_lt_of_cell? wA ⟨w1.heap.size, 0, none⟩ hcA
  rw [HGB.out] at hcA hgbA
  have hb1A := hb1.trans (hbA.mono hb1.size)
  have HBA : Hid (Below w.heap.size w wA) := hb1A
  have hRA := hR.below hbA
  have hBA := hB.belowB hbA
  have hglA : g < wA.heap.size := hBA.lt
  clear H0 hN hNN hR hB hbA
  have HK2 : Hid (n = 2) := hk2
  obtain ⟨x0, HX0⟩ : ∃ x, Hid (N.getD 0 0 = x) := ⟨_, rfl⟩
  have cx0 : wA.cell? ⟨g, 0, none⟩ = some (.int .u64 x0) := by rw [← HX0.out]; exact hBA.cell (by omega)
  have hx0 : 0 ≤ x0 ∧ x0 ≤ 9999999999 := by
    rw [← HX0.out]
    exact HN.out _ (by rw [List.getD_eq_getElem?_getD, List.getElem?_eq_getElem (show 0 < N.length by omega)]; exact List.getElem_mem _)
  have hu0 : IntKind.i64.wrap x0 = x0 := by rw [IntKind.wrap_i64]; omega
  have hk0 : (0 : Int) < (n : Int) := by omega
  have hkn0 : 0 < n := by omega
  obtain ⟨x1, HX1⟩ : ∃ x, Hid (N.getD 1 0 = x) := ⟨_, rfl⟩
  have cx1 : wA.cell? ⟨g, 1, none⟩ = some (.int .u64 x1) := by rw [← HX1.out]; exact hBA.cell (by omega)
  have hx1 : 0 ≤ x1 ∧ x1 ≤ 9999999999 := by
    rw [← HX1.out]
    exact HN.out _ (by rw [List.getD_eq_getElem?_getD, List.getElem?_eq_getElem (show 1 < N.length by omega)]; exact List.getElem_mem _)
  have hu1 : IntKind.i64.wrap x1 = x1 := by rw [IntKind.wrap_i64]; omega
  have hk1 : (1 : Int) < (n : Int) := by omega
  have hkn1 : 1 < n := by omega
  have HDA : Hid (∀ out S', ((((0 ≤ x1 ∧ x1 ≤ 4) ∧ x0 ≤ 9 ∧ 2 * x1 + 1 ≤ x0) ∧ out = okB ∧ S' = some (k0 x0.toNat x1.toNat)) ∨ (¬ ((0 ≤ x1 ∧ x1 ≤ 4) ∧ x0 ≤ 9 ∧ 2 * x1 + 1 ≤ x0) ∧ out = erB 1 ∧ S' = S)) → Dln T S v l out T S') := fun out S' hd => by
    rw [← HV.out]
    exact .inr ⟨hSy, by unfold Dac; rw [if_neg (by decide), if_neg (by decide), if_neg (by decide), if_neg (by decide), if_neg (by decide), if_pos (by decide), HNN.out, HX0.out, HX1.out]; exact ⟨rfl, hd⟩⟩
  have hgp : p ≠ g := fun e => by have h1 := H.out.plt; omega
  have hgbp : p ≠ gb := fun e => by have h1 := H.out.plt; have h2 := hb1.size; rw [← HGB.out] at e; omega
  have HAL : Hid (∀ w', Tch wA w' (fun i => i = p) → w'.cell? ⟨gb, 0, none⟩ = some (.slice (some ⟨g, 0, none⟩) n n) ∧ w'.cell? ⟨g, 0, none⟩ = some (.int .u64 x0) ∧ w'.cell? ⟨g, 1, none⟩ = some (.int .u64 x1) ∧ gb < w'.heap.size ∧ g < w'.heap.size) := fun w' ht => by
    have e1 : ∀ o, w'.cell? ⟨gb, o, none⟩ = wA.cell? ⟨gb, o, none⟩ := fun o => cell_block (ht.block gb hgbA (fun e => hgbp e.symm))
    have e2 : ∀ o, w'.cell? ⟨g, o, none⟩ = wA.cell? ⟨g, o, none⟩ := fun o => cell_block (ht.block g hglA (fun e => hgp e.symm))
    exact ⟨by rw [e1]; exact hcA, by rw [e2]; exact cx0, by rw [e2]; exact cx1, Nat.lt_of_lt_of_le hgbA ht.size, Nat.lt_of_lt_of_le hglA ht.size⟩
  have HTd : Hid (Tch wA wA.drew (fun i => i = p)) := Tch.of_below (Below.refl _ _).drew
  obtain ⟨y0, y1, y2, y3, y4⟩ := HAL.out wA (Tch.refl _ _)
  obtain ⟨z0, z1, z2, z3, z4⟩ := HAL.out wA.drew HTd.out
  have hbd : Below w.heap.size w wA.drew := HBA.out.drew
  obtain ⟨hTd, _⟩ := HT.out wA.drew hbd
  clear hSy hRA hBA cx0 cx1 hk2
  go_enter Tryz.func31, Tryz.ntmps31
  go_upto_region 1 with fail
  rw [HWA.out, HGB.out]
  go_wp2
  go_region_held3 (fun w' => w'.cell? ⟨gb, 0, none⟩ = some (.slice (some ⟨g, 0, none⟩) n n) ∧ w'.cell? ⟨g, 0, none⟩ = some (.int .u64 x0) ∧ w'.cell? ⟨g, 1, none⟩ = some (.int .u64 x1)) (go_keep) (first | (go_at_call 66; refine (dNewK w0 w _ p G T S v l x0 x1 H.out hbd hx0 hx1 hTd HDA.out).mono ?_; rintro e w3 ⟨hL, hTc, out, rfl⟩; obtain ⟨t0, t1, t2, t3, t4⟩ := HAL.out w3 (HTd.out.same hTc)))
  all_goals
    have HL : Hid (Dle w0 p G T S v l w (.returned (.string out)) w3) := hL
    clear hL HDA
    go_wp2
    go_ret
    exact HL.out
theorem dAnsKeys (w0 w : World) (p : Nat) (G : Nat → Prop) (T : ByteArray) (S : Option Kt) (a : Option Addr) (n c : Nat) (l : List ByteArray) (h : Dbc w0 w p G T S) (r : RdT w a n c l) (hn : n ≤ 70000) (hTz : T.size ≤ 2048) (hlast : ∀ s, S = some s → s.last ≤ 1000000) (hT : Tabs w0) (hS : Shp w0) (hDs : Dsp w0) :
    Calls Tryz.prog 14 #[.pointer (some ⟨p, 0, none⟩), .string vKeys, .slice a n c] w (Dle w0 p G T S vKeys l w) := by
  obtain ⟨v, HV⟩ : ∃ v, Hid (vKeys = v) := ⟨_, rfl⟩
  have q_vCirc : (v.toList == [99, 105, 114, 99, 117, 105, 116]) = false := by rw [← HV.out]; decide +kernel
  have q_vWork : (v.toList == [119, 111, 114, 107]) = false := by rw [← HV.out]; decide +kernel
  rw [HV.out]
  have hlen := r.len
  have hcap := r.cap
  have hmax := r.max
  unfold maxLen at hmax
  have hpl := h.plt
  have H : Hid (Dbc w0 w p G T S) := h
  have HT : Hid (∀ w', Below w.heap.size w w' → Tabs w' ∧ Shp w' ∧ Dsp w') := fun w' hb => ⟨hT.below (h.bel.trans (hb.mono h.bel.size)), hS.below (h.bel.trans (hb.mono h.bel.size)), hDs.below (h.bel.trans (hb.mono h.bel.size))⟩
  have HSQ : Hid (∀ le mo, Shq v le mo → le = 2 ∧ mo = false) := fun le mo hq => shq_vKeys (by rw [HV.out]; exact hq)
  have HFT : Hid (Fit3 l n 2 false ↔ Syn vKeys l) := fit_vKeys hlen
  clear h
  go_enter Tryz.func14, Tryz.ntmps14
  go_wp2_with fail
  refine (dShape v _ (HT.out _ (Below.refl _ _)).2.2).mono ?_
  rintro e w1 ⟨wd, le, mo, rfl, hq, hb1⟩
  obtain ⟨rfl, rfl⟩ := HSQ.out le mo hq
  clear hq
  go_wp2_with fail
  refine (dRead wd 2 false _ _ _ l _ (r.below hb1) (by omega)).mono ?_
  rintro e w2 ⟨⟨hno, u, rfl⟩ | ⟨hok, g, rfl, hg, hB⟩, hb2⟩
  · have hb12 := hb1.trans (hb2.mono hb1.size)
    have HD : Hid (Dln T S v l (erB 3) T S) := by rw [← HV.out]; exact .inl ⟨fun hs => hno (HFT.out.2 hs), rfl, rfl, rfl⟩
    obtain ⟨hTb, _⟩ := HT.out _ hb12
    clear hno
    go_wp2_with fail
    refine (dFail 3 _ (by omega) (by omega) hTb).mono ?_
    rintro e wz ⟨rfl, hbz⟩
    have hbw := hb12.trans (hbz.mono hb12.size)
    obtain ⟨X, HX⟩ : ∃ X, Hid (erB 3 = X) := ⟨_, rfl⟩
    rw [HX.out] at HD ⊢
    clear hbz hTb
    go_wp2
    go_ret
    exact Dle.quiet H.out hbw HD.out
  · have hb12 := hb1.trans (hb2.mono hb1.size)
    have hs1 := hb1.size
    have HSY : Hid (Syn vKeys l) := HFT.out.1 hok
    have HNB : Hid (∀ x ∈ nba l, 0 ≤ x ∧ x ≤ 9999999999) := nba_bd (by rw [hlen]; exact hok.1)
    obtain ⟨N, HNN⟩ : ∃ N, Hid (nba l = N) := ⟨_, rfl⟩
    have e0 : nbl l n = N := by rw [← HNN.out, ← hlen]; rfl
    have hNl : N.length = n := by rw [← HNN.out, nba_len]; exact hlen
    have HKN : Hid (Fit3 l n 2 false) := hok
    rw [e0] at hB
    rw [HNN.out] at HNB
    clear hok e0
    have q0 : (v.toList == [103, 101, 110]) = false := by rw [← HV.out]; decide +kernel
    have q1 : (v.toList == [114, 101, 102, 114, 101, 115, 104]) = false := by rw [← HV.out]; decide +kernel
    have q2 : (v.toList == [116, 119, 101, 97, 107]) = false := by rw [← HV.out]; decide +kernel
    have q3 : (v.toList == [99, 111, 109, 98, 105, 110, 101]) = false := by rw [← HV.out]; decide +kernel
    have q4 : (v.toList == [109, 117, 108, 116, 105, 112, 108, 121]) = false := by rw [← HV.out]; decide +kernel
    have q5 : (v.toList == [107, 101, 121]) = false := by rw [← HV.out]; decide +kernel
    have q6 : (v.toList == [100, 114, 111, 112]) = false := by rw [← HV.out]; decide +kernel
    go_wp2_with fail
    refine (dKcNil v _ _ _ _ q0 q1 q2 q3 q4 q5 q6).mono ?_
    rintro e w3 ⟨rfl, hw3⟩
    obtain ⟨hb3, hc3⟩ := box_new w2 (.slice (some ⟨g, 0, none⟩) n n)
    rw [← hw3] at hb3 hc3
    clear hw3 hc3
    have hb13 := hb12.trans (hb3.mono hb12.size)
    have hB3 := hB.belowB hb3
    have hgl := hB.lt
    have hnf := fun W => neq_nil W
    clear hB hb3
    go_wp2_with fail
    rw [← HV.out]
    refine (dPlKeys w0 w w3 p g G T S n N l H.out hb13 hB3 hNl HNN.out hlen HNB.out (by omega) hTz hT hS HSY.out HKN.out.len (by omega)).mono ?_
    intro e w4 hD
    have HD : Hid (Dle w0 p G T S v l w e w4) := by rw [← HV.out]; exact hD
    obtain ⟨out, T', S', rfl, _⟩ := hD
    clear hB3
    go_wp2
    go_ret
    exact HD.out
theorem dPlElse (w0 w w1 : World) (p g : Nat) (G : Nat → Prop) (T : ByteArray) (S : Option Kt) (v : ByteArray) (n : Nat) (N : List Int) (l : List ByteArray) (H0 : Dbc w0 w p G T S) (hb1 : Below w.heap.size w w1) (hB : Blk w1 g N) (hNl : N.length = n) (hNN : nba l = N) (hlen : l.length = n) (hN : ∀ x ∈ N, 0 ≤ x ∧ x ≤ 9999999999) (hn : n ≤ 70000) (hTz : T.size ≤ 2048) (hT : Tabs w0) (hS : Shp w0) (q0 : (v.toList == [100, 101, 97, 108]) = false) (q1 : (v.toList == [111, 112, 101, 110]) = false) (q2 : (v.toList == [99, 108, 101, 97, 114]) = false) (q3 : (v.toList == [115, 104, 111, 119]) = false) (q4 : (v.toList == [114, 117, 110]) = false) (q5 : (v.toList == [107, 101, 121, 115]) = false) (hNS : ¬ Syn v l) :
    Calls Tryz.prog 31 #[.pointer (some ⟨p, 0, none⟩), .string v, .slice (some ⟨g, 0, none⟩) n n] w1 (Dle w0 p G T S v l w) := by
  have H : Hid (Dbc w0 w p G T S) := H0
  have HN : Hid (∀ x ∈ N, 0 ≤ x ∧ x ≤ 9999999999) := hN
  have HNN : Hid (nba l = N) := hNN
  have hgl := hB.lt
  have hR : Rd w1 (some ⟨g, 0, none⟩) n n N := hB.whole n hNl.symm (by unfold maxLen; omega) (fun x hx => by have := hN x hx; omega)
  have HT : Hid (∀ w', Below w.heap.size w w' → Tabs w' ∧ Shp w' ∧ w'.cell? ⟨p, 0, none⟩ = some (.string T) ∧ w'.frozen? ⟨p, 0, none⟩ = false ∧ p < w'.heap.size) := fun w' hb => ⟨hT.below (H.out.bel.trans (hb.mono H.out.bel.size)), hS.below (H.out.bel.trans (hb.mono H.out.bel.size)), (H.out.same hb).text.1, (H.out.same hb).text.2, (H.out.same hb).plt⟩
  obtain ⟨hbA, hcA⟩ := box_new w1 (.slice (some ⟨g, 0, none⟩) n n)
  obtain ⟨wA, HWA⟩ : ∃ wA, Hid (w1.alloc (.cells #[.slice (some ⟨g, 0, none⟩) n n] 53) = wA) := ⟨_, rfl⟩
  rw [HWA.out] at hbA hcA
  obtain ⟨gb, HGB⟩ : ∃ gb, Hid (w1.heap.size = gb) := ⟨_, rfl⟩
  have hgbA : w1.heap.size < wA.heap.size := World.block_lt_of_cell? wA ⟨w1.heap.size, 0, none⟩ hcA
  rw [HGB.out] at hcA hgbA
  have hb1A := hb1.trans (hbA.mono hb1.size)
  have HBA : Hid (Below w.heap.size w wA) := hb1A
  have hRA := hR.below hbA
  have hBA := hB.belowB hbA
  have hglA : g < wA.heap.size := hBA.lt
  clear H0 hN hNN hR hB hbA
  have HD : Hid (Dln T S v l (erB 3) T S) := .inl ⟨hNS, rfl, rfl, rfl⟩
  obtain ⟨hTb, _, z0, z1, z2⟩ := HT.out wA HBA.out
  clear hNS
  go_enter Tryz.func31, Tryz.ntmps31
  go_upto_region 1 with fail
  rw [HWA.out, HGB.out]
  go_wp2_with fail
  refine (dFail 3 _ (by omega) (by omega) hTb).mono ?_
  rintro e w3 ⟨rfl, hb3⟩
  obtain ⟨X, HX⟩ : ∃ X, Hid (erB 3 = X) := ⟨_, rfl⟩
  rw [HX.out] at HD ⊢
  have HL : Hid (Dle w0 p G T S v l w (.returned (.string X)) w3) := Dle.quiet H.out (HBA.out.trans (hb3.mono HBA.out.size)) HD.out
  clear hb3
  go_wp2
  go_ret
  exact HL.out
theorem dAnsElse (w0 w : World) (p : Nat) (G : Nat → Prop) (T : ByteArray) (S : Option Kt) (v : ByteArray) (a : Option Addr) (n c : Nat) (l : List ByteArray) (h : Dbc w0 w p G T S) (r : RdT w a n c l) (hn : n ≤ 70000) (hTz : T.size ≤ 2048) (hlast : ∀ s, S = some s → s.last ≤ 1000000) (hT : Tabs w0) (hS : Shp w0) (hDs : Dsp w0) (n_vDeal : v ≠ vDeal) (n_vMult : v ≠ vMult) (n_vWork : v ≠ vWork) (n_vOpen : v ≠ vOpen) (n_vRefr : v ≠ vRefr) (n_vClear : v ≠ vClear) (n_vShow : v ≠ vShow) (n_vKeys : v ≠ vKeys) (n_vTwk : v ≠ vTwk) (n_vComb : v ≠ vComb) (n_vKey : v ≠ vKey) (n_vDrop : v ≠ vDrop) (n_vRun : v ≠ vRun) (n_vGen : v ≠ vGen) (n_vCirc : v ≠ vCirc) :
    Calls Tryz.prog 14 #[.pointer (some ⟨p, 0, none⟩), .string v, .slice a n c] w (Dle w0 p G T S v l w) := by
  have q_vDeal : (v.toList == [100, 101, 97, 108]) = false := lit_no n_vDeal (by decide +kernel)
  have q_vMult : (v.toList == [109, 117, 108, 116, 105, 112, 108, 121]) = false := lit_no n_vMult (by decide +kernel)
  have q_vWork : (v.toList == [119, 111, 114, 107]) = false := lit_no n_vWork (by decide +kernel)
  have q_vOpen : (v.toList == [111, 112, 101, 110]) = false := lit_no n_vOpen (by decide +kernel)
  have q_vRefr : (v.toList == [114, 101, 102, 114, 101, 115, 104]) = false := lit_no n_vRefr (by decide +kernel)
  have q_vClear : (v.toList == [99, 108, 101, 97, 114]) = false := lit_no n_vClear (by decide +kernel)
  have q_vShow : (v.toList == [115, 104, 111, 119]) = false := lit_no n_vShow (by decide +kernel)
  have q_vKeys : (v.toList == [107, 101, 121, 115]) = false := lit_no n_vKeys (by decide +kernel)
  have q_vTwk : (v.toList == [116, 119, 101, 97, 107]) = false := lit_no n_vTwk (by decide +kernel)
  have q_vComb : (v.toList == [99, 111, 109, 98, 105, 110, 101]) = false := lit_no n_vComb (by decide +kernel)
  have q_vKey : (v.toList == [107, 101, 121]) = false := lit_no n_vKey (by decide +kernel)
  have q_vDrop : (v.toList == [100, 114, 111, 112]) = false := lit_no n_vDrop (by decide +kernel)
  have q_vRun : (v.toList == [114, 117, 110]) = false := lit_no n_vRun (by decide +kernel)
  have q_vGen : (v.toList == [103, 101, 110]) = false := lit_no n_vGen (by decide +kernel)
  have q_vCirc : (v.toList == [99, 105, 114, 99, 117, 105, 116]) = false := lit_no n_vCirc (by decide +kernel)
  have HNS : Hid (¬ Syn v l) := by
    unfold Hid Syn
    rw [if_neg n_vCirc, if_neg (by rintro (e | e); exact n_vDeal e; exact n_vMult e), if_neg n_vWork, if_neg n_vOpen, if_neg n_vRefr, if_neg (by rintro (e | e); exact n_vClear e; exact n_vShow e), if_neg (by rintro (e | e); exact n_vKeys e; exact n_vTwk e), if_neg n_vComb, if_neg (by rintro (e | e); exact n_vKey e; exact n_vDrop e), if_neg (by rintro (e | e); exact n_vRun e; exact n_vGen e)]
    exact id
  have HSQ : Hid (∀ le mo, Shq v le mo → le = 0 ∧ mo = false) := fun le mo hq => hq.no fun i hi e => by
    have hc : i = 0 ∨ i = 1 ∨ i = 2 ∨ i = 3 ∨ i = 4 ∨ i = 5 ∨ i = 6 ∨ i = 7 ∨ i = 8 ∨ i = 9 ∨ i = 10 ∨ i = 11 ∨ i = 12 := by omega
    rcases hc with rfl | rfl | rfl | rfl | rfl | rfl | rfl | rfl | rfl | rfl | rfl | rfl | rfl
    · exact n_vDeal e.symm
    · exact n_vOpen e.symm
    · exact n_vClear e.symm
    · exact n_vShow e.symm
    · exact n_vRun e.symm
    · exact n_vKeys e.symm
    · exact n_vGen e.symm
    · exact n_vRefr e.symm
    · exact n_vTwk e.symm
    · exact n_vComb e.symm
    · exact n_vMult e.symm
    · exact n_vKey e.symm
    · exact n_vDrop e.symm
  clear n_vDeal n_vMult n_vWork n_vOpen n_vRefr n_vClear n_vShow n_vKeys n_vTwk n_vComb n_vKey n_vDrop n_vRun n_vGen n_vCirc
  have hlen := r.len
  have hcap := r.cap
  have hmax := r.max
  unfold maxLen at hmax
  have hpl := h.plt
  have H : Hid (Dbc w0 w p G T S) := h
  have HT : Hid (∀ w', Below w.heap.size w w' → Tabs w' ∧ Shp w' ∧ Dsp w') := fun w' hb => ⟨hT.below (h.bel.trans (hb.mono h.bel.size)), hS.below (h.bel.trans (hb.mono h.bel.size)), hDs.below (h.bel.trans (hb.mono h.bel.size))⟩
  clear h
  go_enter Tryz.func14, Tryz.ntmps14
  go_wp2_with fail
  refine (dShape v _ (HT.out _ (Below.refl _ _)).2.2).mono ?_
  rintro e w1 ⟨wd, le, mo, rfl, hq, hb1⟩
  obtain ⟨rfl, rfl⟩ := HSQ.out le mo hq
  clear hq
  go_wp2_with fail
  refine (dRead wd 0 false _ _ _ l _ (r.below hb1) (by omega)).mono ?_
  rintro e w2 ⟨⟨hno, u, rfl⟩ | ⟨hok, g, rfl, hg, hB⟩, hb2⟩
  · have hb12 := hb1.trans (hb2.mono hb1.size)
    have HD : Hid (Dln T S v l (erB 3) T S) := .inl ⟨HNS.out, rfl, rfl, rfl⟩
    obtain ⟨hTb, _⟩ := HT.out _ hb12
    clear hno
    go_wp2_with fail
    refine (dFail 3 _ (by omega) (by omega) hTb).mono ?_
    rintro e wz ⟨rfl, hbz⟩
    have hbw := hb12.trans (hbz.mono hb12.size)
    obtain ⟨X, HX⟩ : ∃ X, Hid (erB 3 = X) := ⟨_, rfl⟩
    rw [HX.out] at HD ⊢
    clear hbz hTb
    go_wp2
    go_ret
    exact Dle.quiet H.out hbw HD.out
  · have hb12 := hb1.trans (hb2.mono hb1.size)
    have hs1 := hb1.size
    have HNB : Hid (∀ x ∈ nba l, 0 ≤ x ∧ x ≤ 9999999999) := nba_bd (by rw [hlen]; exact hok.1)
    obtain ⟨N, HNN⟩ : ∃ N, Hid (nba l = N) := ⟨_, rfl⟩
    have e0 : nbl l n = N := by rw [← HNN.out, ← hlen]; rfl
    have hNl : N.length = n := by rw [← HNN.out, nba_len]; exact hlen
    have HKN : Hid (Fit3 l n 0 false) := hok
    rw [e0] at hB
    rw [HNN.out] at HNB
    clear hok e0
    have q0 := q_vGen
    have q1 := q_vRefr
    have q2 := q_vTwk
    have q3 := q_vComb
    have q4 := q_vMult
    have q5 := q_vKey
    have q6 := q_vDrop
    go_wp2_with fail
    refine (dKcNil v _ _ _ _ q0 q1 q2 q3 q4 q5 q6).mono ?_
    rintro e w3 ⟨rfl, hw3⟩
    obtain ⟨hb3, hc3⟩ := box_new w2 (.slice (some ⟨g, 0, none⟩) n n)
    rw [← hw3] at hb3 hc3
    clear hw3 hc3
    have hb13 := hb12.trans (hb3.mono hb12.size)
    have hB3 := hB.belowB hb3
    have hgl := hB.lt
    have hnf := fun W => neq_nil W
    clear hB hb3
    go_wp2_with fail
    refine (dPlElse w0 w w3 p g G T S v n N l H.out hb13 hB3 hNl HNN.out hlen HNB.out (by omega) hTz hT hS q_vDeal q_vOpen q_vClear q_vShow q_vRun q_vKeys HNS.out).mono ?_
    intro e w4 hD
    have HD : Hid (Dle w0 p G T S v l w e w4) := hD
    obtain ⟨out, T', S', rfl, _⟩ := hD
    clear hB3
    go_wp2
    go_ret
    exact HD.out
theorem nmc_join {L : List ByteArray} {n : Nat} {w w' : World} {e : Ending} (h : Nmc L n w e w') : ∃ (a : Option Addr) (k : Nat) (b : Bool), e = .returned (.tuple #[.slice a k k, .bool b]) ∧ ((b = false ∧ ¬ okn L n ∧ a = none ∧ k = 0) ∨ (b = true ∧ okn L n ∧ k = n ∧ ∃ g, a = some ⟨g, 0, none⟩ ∧ w.heap.size ≤ g ∧ Blk w' g (nbl L n))) ∧ Below w.heap.size w w' := by
  obtain ⟨⟨h1, rfl⟩ | ⟨h1, g, rfl, h2, h3⟩, hb⟩ := h
  · exact ⟨none, 0, false, rfl, .inl ⟨rfl, h1, rfl, rfl⟩, hb⟩
  · exact ⟨some ⟨g, 0, none⟩, n, true, rfl, .inr ⟨rfl, h1, rfl, g, rfl, h2, h3⟩, hb⟩

theorem dWork (w0 w : World) (p : Nat) (G : Nat → Prop) (T : ByteArray) (S : Option Kt) (a : Option Addr) (n c : Nat) (l : List ByteArray) (h : Dbc w0 w p G T S) (r : RdT w a n c l) (hn : n ≤ 70000) (hTz : T.size ≤ 2048) (hT : Tabs w0) (hS : Shp w0) :
    Calls Tryz.prog 27 #[.pointer (some ⟨p, 0, none⟩), .slice a n c] w (Dle w0 p G T S vWork l w) := by
  have hlen := r.len
  have hcap := r.cap
  have hmax := r.max
  unfold maxLen at hmax
  have hpl := h.plt
  have H : Hid (Dbc w0 w p G T S) := h
  have HT : Hid (∀ w', Below w.heap.size w w' → Tabs w' ∧ Shp w' ∧ w'.cell? ⟨p, 0, none⟩ = some (.string T) ∧ p < w'.heap.size) := fun w' hb => ⟨hT.below (H.out.bel.trans (hb.mono H.out.bel.size)), hS.below (H.out.bel.trans (hb.mono H.out.bel.size)), (H.out.same hb).text.1, (H.out.same hb).plt⟩
  have HER : Hid (∀ w', Below w.heap.size w w' → ¬ Syn vWork l → Dle w0 p G T S vWork l w (.returned (.string (erB 3))) w') := fun w' hb hs => Dle.quiet H.out hb (.inl ⟨hs, rfl, rfl, rfl⟩)
  clear h
  go_enter Tryz.func27, Tryz.ntmps27
  go_wp2_with fail
  refine (sIndexF _ _ _ l ⟨#[47]⟩ _ r).mono ?_
  rintro e w1 ⟨sl, rfl, hIx, hw⟩
  have hw := hw.symm
  subst hw
  rcases hIx with ⟨j, hj, hjx, rfl, hjn⟩ | ⟨hns, rfl⟩
  · have HSL : Hid (slash l j) := ⟨by omega, hjx, hjn⟩
    have HSY : Hid (Syn vWork l ↔ okn l j ∧ okn (l.drop (j + 1)) (n - (j + 1)) ∧ 2 ≤ j) := by
      unfold Hid
      rw [syn_vWork, hlen]
      exact ⟨fun ⟨i, h1, h2⟩ => by obtain rfl := h1.one HSL.out; exact h2, fun h2 => ⟨j, HSL.out, h2⟩⟩
    have hj1 : (0 : Int) ≤ (j : Int) := by omega
    have hj2 : (j : Int) + 1 ≤ (n : Int) := by omega
    have hjc : j ≤ 70000 := by omega
    obtain ⟨sa, HSA⟩ : ∃ sa, Hid (subA a c (j + 1) = sa) := ⟨_, rfl⟩
    have hsl : ∀ W, (Instr.sliceAt 23 (.slice a n c) (some (.int .i64 ((j : Int) + 1))) none none).run Tryz.prog W = .ok (.slice sa (n - (j + 1)) (c - (j + 1))) W := fun W => by
      rw [← HSA.out]
      exact run_subl Tryz.underlying23 infoStr1 _ n c (j + 1) (by push_cast; rfl) (by omega) W
    have rD := r.sub (lo := j + 1) (by omega)
    rw [HSA.out] at rD
    have rT := r.tke (show j ≤ n by omega)
    have hst : ∀ W, (Instr.sliceAt 23 (.slice a n c) none (some (.int .i64 (j : Int))) none).run Tryz.prog W = .ok (.slice a j c) W := fun W => run_subh Tryz.underlying23 infoStr1 a n c j r.nil (by omega) W
    obtain ⟨d, HDn⟩ : ∃ d, Hid (n - (j + 1) = d) := ⟨_, rfl⟩
    have hdz : d ≤ 70000 := by rw [← HDn.out]; omega
    rw [HDn.out] at hsl rD HSY
    clear hjx hjn
    go_wp2_with fail
    refine (cNumbers _ _ _ _ _ rT (by omega)).mono ?_
    intro e w1 hN1
    obtain ⟨aa, ka, ba, rfl, hA, hb1⟩ := nmc_join hN1
    have HA : Hid ((ba = false ∧ ¬ okn (l.take j) j ∧ aa = none ∧ ka = 0) ∨ (ba = true ∧ okn (l.take j) j ∧ ka = j ∧ ∃ g, aa = some ⟨g, 0, none⟩ ∧ w.heap.size ≤ g ∧ Blk w1 g (nbl (l.take j) j))) := hA
    have hka : ka ≤ 70000 := by rcases hA with ⟨_, _, _, e⟩ | ⟨_, _, e, _⟩ <;> omega
    obtain ⟨hbB1, hcB1⟩ := box_new w1 (.slice aa ka ka)
    obtain ⟨w2, HW2⟩ : ∃ w2, Hid (w1.alloc (.cells #[.slice aa ka ka] 53) = w2) := ⟨_, rfl⟩
    rw [HW2.out] at hbB1 hcB1
    obtain ⟨g1, HG1⟩ : ∃ g1, Hid (w1.heap.size = g1) := ⟨_, rfl⟩
    rw [HG1.out] at hcB1
    have hg1l : g1 < w2.heap.size := World.block_lt_of_cell? w2 ⟨g1, 0, none⟩ hcB1
    have hb12 := hb1.trans (hbB1.mono hb1.size)
    have rD2 := rD.below hb12
    clear hN1 hA rT rD hbB1
    go_upto_region 5 with fail
    rw [HW2.out, HG1.out]
    go_wp2_with fail
    refine (cNumbers _ _ _ _ _ rD2 (by omega)).mono ?_
    intro e w3 hN3
    obtain ⟨ad, kd, bd, rfl, hD, hb3⟩ := nmc_join hN3
    have HD : Hid ((bd = false ∧ ¬ okn (l.drop (j + 1)) d ∧ ad = none ∧ kd = 0) ∨ (bd = true ∧ okn (l.drop (j + 1)) d ∧ kd = d ∧ ∃ g, ad = some ⟨g, 0, none⟩ ∧ w2.heap.size ≤ g ∧ Blk w3 g (nbl (l.drop (j + 1)) d))) := hD
    obtain ⟨hbB2, hcB2⟩ := box_new w3 (.slice ad kd kd)
    obtain ⟨w4, HW4⟩ : ∃ w4, Hid (w3.alloc (.cells #[.slice ad kd kd] 53) = w4) := ⟨_, rfl⟩
    rw [HW4.out] at hbB2 hcB2
    obtain ⟨g2, HG2⟩ : ∃ g2, Hid (w3.heap.size = g2) := ⟨_, rfl⟩
    rw [HG2.out] at hcB2
    have hb24 : Below w2.heap.size w2 w4 := hb3.trans (hbB2.mono hb3.size)
    have hb14 := hb12.trans (hb24.mono hb12.size)
    have hc1 : w4.cell? ⟨g1, 0, none⟩ = some (.slice aa ka ka) := by rw [hb24.cell (p := ⟨g1, 0, none⟩) hg1l]; exact hcB1
    have hg1l4 : g1 < w4.heap.size := Nat.lt_of_lt_of_le hg1l hb24.size
    have hg2l4 : g2 < w4.heap.size := World.block_lt_of_cell? w4 ⟨g2, 0, none⟩ hcB2
    obtain ⟨hT4, hS4, z0, z1⟩ := HT.out w4 hb14
    clear hN3 hD rD2 hcB1 hg1l
    go_upto_region 6 with fail
    rw [HW4.out, HG2.out]
    rcases HA.out with ⟨rfl, hna, ea, eka⟩ | ⟨rfl, hoa, rfl, ga, rfl, hga, hBa⟩
    · have HNS : Hid (¬ Syn vWork l) := fun hs => hna (okn_take.2 (HSY.out.1 hs).1)
      clear hna ea eka HA HD
      go_wp2_with fail
      refine (dFail 3 _ (by omega) (by omega) hT4).mono ?_
      rintro e wz ⟨rfl, hbz⟩
      have HL := HER.out wz (hb14.trans (hbz.mono hb14.size)) HNS.out
      obtain ⟨X, HX⟩ : ∃ X, Hid (erB 3 = X) := ⟨_, rfl⟩
      rw [HX.out] at HL ⊢
      have HLL : Hid (Dle w0 p G T S vWork l w (.returned (.string X)) wz) := HL
      clear HL hbz
      go_wp2
      go_ret
      exact HLL.out
    rcases HD.out with ⟨rfl, hnd, ed, ekd⟩ | ⟨rfl, hod, rfl, gd, rfl, hgd, hBd⟩
    · have HNS : Hid (¬ Syn vWork l) := fun hs => hnd (HSY.out.1 hs).2.1
      clear hnd ed ekd HA HD hoa hBa
      go_wp2_with fail
      refine (dFail 3 _ (by omega) (by omega) hT4).mono ?_
      rintro e wz ⟨rfl, hbz⟩
      have HL := HER.out wz (hb14.trans (hbz.mono hb14.size)) HNS.out
      obtain ⟨X, HX⟩ : ∃ X, Hid (erB 3 = X) := ⟨_, rfl⟩
      rw [HX.out] at HL ⊢
      have HLL : Hid (Dle w0 p G T S vWork l w (.returned (.string X)) wz) := HL
      clear HL hbz
      go_wp2
      go_ret
      exact HLL.out
    by_cases hk2 : ka < 2
    · have HNS : Hid (¬ Syn vWork l) := fun hs => by have := (HSY.out.1 hs).2.2; omega
      have hki : (ka : Int) < 2 := by omega
      clear HA HD hoa hBa hod hBd
      go_wp2_with fail
      refine (dFail 3 _ (by omega) (by omega) hT4).mono ?_
      rintro e wz ⟨rfl, hbz⟩
      have HL := HER.out wz (hb14.trans (hbz.mono hb14.size)) HNS.out
      obtain ⟨X, HX⟩ : ∃ X, Hid (erB 3 = X) := ⟨_, rfl⟩
      rw [HX.out] at HL ⊢
      have HLL : Hid (Dle w0 p G T S vWork l w (.returned (.string X)) wz) := HL
      clear HL hbz
      go_wp2
      go_ret
      exact HLL.out
    · have hki : ¬ ((ka : Int) < 2) := by omega
      have hoj := okn_take.1 hoa
      have HSS : Hid (Syn vWork l) := HSY.out.2 ⟨hoj, hod, by omega⟩
      rw [nbl_take] at hBa
      have HAB : Hid (∀ x ∈ nbl l ka, 0 ≤ x ∧ x ≤ 9999999999) := nbl_bd2 hoj
      have HDB : Hid (∀ x ∈ nbl (l.drop (ka + 1)) kd, 0 ≤ x ∧ x ≤ 9999999999) := nbl_bd2 hod
      have HLD : Hid (l.length - (ka + 1) = kd) := by unfold Hid; rw [hlen]; exact HDn.out
      have HDA : Hid (∀ out, Wcr (Cic vWork (nbl l ka) kd) T out → Dln T S vWork l out T S) := fun out hw => by
        refine .inr ⟨HSS.out, ?_⟩
        unfold Dac
        rw [if_neg (by decide), if_neg (by decide), if_neg (by decide), if_neg (by decide), if_pos (by decide)]
        exact cir_dac hw (by rw [← HLD.out]; exact dci_work l HSL.out)
      obtain ⟨A, HAA⟩ : ∃ A, Hid (nbl l ka = A) := ⟨_, rfl⟩
      obtain ⟨D, HDD⟩ : ∃ D, Hid (nbl (l.drop (ka + 1)) kd = D) := ⟨_, rfl⟩
      have hAl : A.length = ka := by rw [← HAA.out]; exact nbl_len _ _
      have hDl : D.length = kd := by rw [← HDD.out]; exact nbl_len _ _
      rw [HAA.out] at hBa HAB HDA
      rw [HDD.out] at hBd HDB
      have hBa4 : Blk w4 ga A := (hBa.belowB (show Below w1.heap.size w1 w2 by rw [← HW2.out]; exact (box_new w1 _).1)).belowB hb24
      have hBd4 : Blk w4 gd D := hBd.belowB hbB2
      have hW := dWith 41 #[.pointer (some ⟨g1, 0, none⟩), .pointer (some ⟨g2, 0, none⟩)] enters_work (Cic vWork A kd) p T w4 z0 hTz hT4 hS4 (fun w5 ag nn cg ao m co G' O hb hP hGn hOm hG hO => dWorkC T ag nn cg ao m co G' O g1 g2 ga gd ka kd A D w5 hP hGn hOm hG hO (by rw [hb.cell (p := ⟨g1, 0, none⟩) hg1l4]; exact hc1) (by rw [hb.cell (p := ⟨g2, 0, none⟩) hg2l4]; exact hcB2) (hBa4.belowB hb) (hBd4.belowB hb) hAl hDl (by omega) (by omega) (by omega) HAB.out HDB.out (hT4.below hb) (hS4.below hb))
      clear HA HD hoa hBa hod hBd hoj hBa4 hBd4
      go_wp2_with fail
      refine hW.mono ?_
      rintro e w6 ⟨out, rfl, hQ, hb6⟩
      have HL : Hid (Dle w0 p G T S vWork l w (.returned (.string out)) w6) := Dle.quiet H.out (hb14.trans (hb6.mono hb14.size)) (HDA.out out hQ)
      clear hQ hb6 HDA hW
      go_wp2
      go_ret
      exact HL.out
  · have HNS : Hid (¬ Syn vWork l) := fun hs => by
      obtain ⟨j, ⟨h1, h2, _⟩, _⟩ := (syn_vWork l).1 hs
      exact hns j (by omega) h2
    obtain ⟨hTb, _⟩ := HT.out w (Below.refl _ _)
    clear hns
    go_wp2_with fail
    refine (dFail 3 _ (by omega) (by omega) hTb).mono ?_
    rintro e wz ⟨rfl, hbz⟩
    have HL := HER.out wz hbz HNS.out
    obtain ⟨X, HX⟩ : ∃ X, Hid (erB 3 = X) := ⟨_, rfl⟩
    rw [HX.out] at HL ⊢
    have HLL : Hid (Dle w0 p G T S vWork l w (.returned (.string X)) wz) := HL
    clear HL hbz
    go_wp2
    go_ret
    exact HLL.out

theorem dAnsWork (w0 w : World) (p : Nat) (G : Nat → Prop) (T : ByteArray) (S : Option Kt) (a : Option Addr) (n c : Nat) (l : List ByteArray) (h : Dbc w0 w p G T S) (r : RdT w a n c l) (hn : n ≤ 70000) (hTz : T.size ≤ 2048) (hT : Tabs w0) (hS : Shp w0) :
    Calls Tryz.prog 14 #[.pointer (some ⟨p, 0, none⟩), .string vWork, .slice a n c] w (Dle w0 p G T S vWork l w) := by
  have hL := dWork w0 w p G T S a n c l h r hn hTz hT hS
  obtain ⟨v, HV⟩ : ∃ v, Hid (vWork = v) := ⟨_, rfl⟩
  have q0 : (v.toList == [99, 105, 114, 99, 117, 105, 116]) = false := by rw [← HV.out]; decide +kernel
  have q1 : (v.toList == [119, 111, 114, 107]) = true := by rw [← HV.out]; decide +kernel
  rw [HV.out] at hL ⊢
  clear h r
  go_enter Tryz.func14, Tryz.ntmps14
  go_wp2_with fail
  refine hL.mono ?_
  intro e w1 hD
  have HD : Hid (Dle w0 p G T S v l w e w1) := hD
  obtain ⟨out, T', S', rfl, _⟩ := hD
  clear hL
  go_wp2
  go_ret
  exact HD.out
theorem dAnswer (w0 w : World) (p : Nat) (G : Nat → Prop) (T : ByteArray) (S : Option Kt) (v : ByteArray) (a : Option Addr) (n c : Nat) (l : List ByteArray) (h : Dbc w0 w p G T S) (r : RdT w a n c l) (hn : n ≤ 70000) (hTz : T.size ≤ 2048) (hlast : ∀ s, S = some s → s.last ≤ 1000000) (hwz : ∀ i, i < n → (tx l i).size ≤ 70000) (hT : Tabs w0) (hS : Shp w0) (hDs : Dsp w0) :
    Calls Tryz.prog 14 #[.pointer (some ⟨p, 0, none⟩), .string v, .slice a n c] w (Dle w0 p G T S v l w) := by
  by_cases n_vDeal : v = vDeal
  · subst n_vDeal; exact dAnsDeal w0 w p G T S a n c l h r hn hTz hlast hT hS hDs
  by_cases n_vMult : v = vMult
  · subst n_vMult; exact dAnsK vMult 54 2 true (fun k => 2 ≤ k) Tryz.call54 (by decide +kernel) (by decide +kernel) (by unfold Hid; decide) (fun _ _ => shq_vMult) (fun _ _ => fit_vMult) (fun _ _ h => h.2.1) (fun _ _ _ _ => dKcMult vMult _ _ _ _ (by decide +kernel) (by decide +kernel) (by decide +kernel) (by decide +kernel) (by decide +kernel)) dKeyMult w0 w p G T S a n c l h r hn hTz hlast hT hS hDs
  by_cases n_vWork : v = vWork
  · subst n_vWork; exact dAnsWork w0 w p G T S a n c l h r hn hTz hT hS
  by_cases n_vOpen : v = vOpen
  · subst n_vOpen; exact dAnsOpen w0 w p G T S a n c l h r hn hTz hlast hT hS hDs
  by_cases n_vRefr : v = vRefr
  · subst n_vRefr; exact dAnsK vRefr 47 1 true (fun k => 1 ≤ k) Tryz.call47 (by decide +kernel) (by decide +kernel) (by unfold Hid; decide) (fun _ _ => shq_vRefr) (fun _ _ => fit_vRefr) (fun _ _ h => h.2.1) (fun _ _ _ _ => dKcRefr vRefr _ _ _ _ (by decide +kernel) (by decide +kernel)) dKeyRefr w0 w p G T S a n c l h r hn hTz hlast hT hS hDs
  by_cases n_vClear : v = vClear
  · subst n_vClear; exact dAnsClear w0 w p G T S a n c l h r hn hTz hlast hT hS hDs
  by_cases n_vShow : v = vShow
  · subst n_vShow; exact dAnsShow w0 w p G T S a n c l h r hn hTz hlast hT hS hDs
  by_cases n_vKeys : v = vKeys
  · subst n_vKeys; exact dAnsKeys w0 w p G T S a n c l h r hn hTz hlast hT hS hDs
  by_cases n_vTwk : v = vTwk
  · subst n_vTwk; exact dAnsK vTwk 50 2 false (fun k => k = 2) Tryz.call50 (by decide +kernel) (by decide +kernel) (by unfold Hid; decide) (fun _ _ => shq_vTwk) (fun _ _ => fit_vTwk) (fun _ _ h => h.len) (fun _ _ _ _ => dKcTwk vTwk _ _ _ _ (by decide +kernel) (by decide +kernel) (by decide +kernel)) dKeyTwk w0 w p G T S a n c l h r hn hTz hlast hT hS hDs
  by_cases n_vComb : v = vComb
  · subst n_vComb; exact dAnsK vComb 52 4 false (fun k => k = 4) Tryz.call52 (by decide +kernel) (by decide +kernel) (by unfold Hid; decide) (fun _ _ => shq_vComb) (fun _ _ => fit_vComb) (fun _ _ h => h.len) (fun _ _ _ _ => dKcComb vComb _ _ _ _ (by decide +kernel) (by decide +kernel) (by decide +kernel) (by decide +kernel)) dKeyComb w0 w p G T S a n c l h r hn hTz hlast hT hS hDs
  by_cases n_vKey : v = vKey
  · subst n_vKey; exact dAnsK vKey 56 1 false (fun k => k = 1) Tryz.call56 (by decide +kernel) (by decide +kernel) (by unfold Hid; decide) (fun _ _ => shq_vKey) (fun _ _ => fit_vKey) (fun _ _ h => h.len) (fun _ _ _ _ => dKcKey vKey _ _ _ _ (by decide +kernel) (by decide +kernel) (by decide +kernel) (by decide +kernel) (by decide +kernel) (by decide +kernel)) dKeyKey w0 w p G T S a n c l h r hn hTz hlast hT hS hDs
  by_cases n_vDrop : v = vDrop
  · subst n_vDrop; exact dAnsK vDrop 59 1 false (fun k => k = 1) Tryz.call59 (by decide +kernel) (by decide +kernel) (by unfold Hid; decide) (fun _ _ => shq_vDrop) (fun _ _ => fit_vDrop) (fun _ _ h => h.len) (fun _ _ _ _ => dKcDrop vDrop _ _ _ _ (by decide +kernel) (by decide +kernel) (by decide +kernel) (by decide +kernel) (by decide +kernel) (by decide +kernel) (by decide +kernel)) dKeyDrop w0 w p G T S a n c l h r hn hTz hlast hT hS hDs
  by_cases n_vRun : v = vRun
  · subst n_vRun; exact dAnsRun w0 w p G T S a n c l h r hn hTz hlast hT hS hDs
  by_cases n_vGen : v = vGen
  · subst n_vGen; exact dAnsK vGen 44 0 true (fun k => 0 ≤ k) Tryz.call44 (by decide +kernel) (by decide +kernel) (by unfold Hid; decide) (fun _ _ => shq_vGen) (fun _ _ => fit_vGen) (fun _ _ _ => Nat.zero_le _) (fun _ _ _ _ => dKcGen vGen _ _ _ _ (by decide +kernel)) dKeyGen w0 w p G T S a n c l h r hn hTz hlast hT hS hDs
  by_cases n_vCirc : v = vCirc
  · subst n_vCirc; exact dAnsCirc w0 w p G T S a n c l h r hn hTz hwz hT
  exact dAnsElse w0 w p G T S v a n c l h r hn hTz hlast hT hS hDs n_vDeal n_vMult n_vWork n_vOpen n_vRefr n_vClear n_vShow n_vKeys n_vTwk n_vComb n_vKey n_vDrop n_vRun n_vGen n_vCirc
theorem Dbc.new (w : World) : Dbc w (w.alloc (.cells #[.string ⟨#[]⟩, .pointer none] 34)) w.heap.size (fun _ => False) mt none := by
  refine ⟨⟨none, heap_alloc_new w _, .inl ⟨rfl, rfl⟩⟩, fun i h => h.elim, id, fun i h => h.elim, Nat.le_refl _, (Below.refl _ _).alloc (Nat.le_refl _) _⟩
theorem Dbc.aside {w0 w w' : World} {p : Nat} {G F : Nat → Prop} {T : ByteArray} {S : Option Kt} (h : Dbc w0 w p G T S) (ht : Tch w w' F) (hp : ¬ F p) (hG : ∀ i, G i → ¬ F i) (hF : ∀ i, F i → w0.heap.size ≤ i) : Dbc w0 w' p G T S := by
  have hpl := h.plt
  obtain ⟨q, h1, h2⟩ := h.row
  exact ⟨⟨q, (ht.block p hpl hp).trans h1, or_to h2 fun ⟨s, b, e1, e2, e3⟩ => ⟨s, b, e1, e2, e3.keep fun i hi => ht.block i (h.lt i hi) (hG i hi)⟩⟩, fun i g => Nat.lt_of_lt_of_le (h.lt i g) ht.size, h.off, h.low, h.lp, ht.below h.bel hF h.bel.size⟩
structure Dbs (w0 w : World) (p q : Nat) (G F : Nat → Prop) (T : ByteArray) (S : Option Kt) (out : ByteArray) : Prop where
  dsk : Dbc w0 w p G T S
  bld : Bdf w q out F
  off : ¬ F p
  dis : ∀ i, F i → ¬ G i
  low : ∀ i, F i → w0.heap.size ≤ i
  lt : ∀ i, F i → i < w.heap.size
theorem Dbs.same {w0 w w' : World} {p q : Nat} {G F : Nat → Prop} {T : ByteArray} {S : Option Kt} {out : ByteArray} (h : Dbs w0 w p q G F T S out) (hb : Below w.heap.size w w') : Dbs w0 w' p q G F T S out :=
  ⟨h.dsk.same hb, h.bld.keep fun i hi => hb.block i (h.lt i hi), h.off, h.dis, h.low, fun i hi => Nat.lt_of_lt_of_le (h.lt i hi) hb.size⟩
theorem Dbs.line {w0 w w' : World} {p q : Nat} {G F : Nat → Prop} {T T' : ByteArray} {S S' : Option Kt} {out : ByteArray} (h : Dbs w0 w p q G F T S out) (hd : Dbc w0 w' p (Gnx G w w') T' S') (ht : Tch w w' (fun i => G i ∨ i = p)) : Dbs w0 w' p q (Gnx G w w') F T' S' out :=
  ⟨hd, h.bld.keep fun i hi => ht.block i (h.lt i hi) (fun e => e.elim (h.dis i hi) (fun e => h.off (e ▸ hi))), h.off, fun i hi e => e.elim (h.dis i hi) (fun e => by have := h.lt i hi; omega), h.low, fun i hi => Nat.lt_of_lt_of_le (h.lt i hi) ht.size⟩
theorem Dbs.wrote {w0 w w' : World} {p q : Nat} {G F : Nat → Prop} {T : ByteArray} {S : Option Kt} {out out' : ByteArray} (h : Dbs w0 w p q G F T S out) (hb : Bdf w' q out' (Gnx F w w')) (ht : Tch w w' F) : Dbs w0 w' p q G (Gnx F w w') T S out' := by
  have hpl := h.dsk.plt
  refine ⟨h.dsk.aside ht h.off (fun i g f => h.dis i f g) h.low, hb, fun e => e.elim h.off (fun e => by omega), fun i hi g => hi.elim (fun f => h.dis i f g) (fun e => by have := h.dsk.lt i g; omega), Gnx.ge h.low h.dsk.bel.size, Gnx.lt h.lt ht.size⟩

theorem dRun (s : ByteArray) (w : World) (hs : s.size ≤ 9223372036854775807) (hT : Tabs w) (hS : Shp w) (hDs : Dsp w) :
    Calls Tryz.prog 5 #[.string s] w (Dkl s w) := by
  go_enter Tryz.func5, Tryz.ntmps5
  go_wp2_with fail
  refine (dLines s _ hs).mono ?_
  rintro e w1 ⟨⟨hbig, rfl⟩ | ⟨hsm, a, c, rfl, hr⟩, hb1⟩
  · have HD : Hid (Dsk s (erB 2 ++ nlB)) := .inl ⟨hbig, rfl⟩
    have hT1 := hT.below hb1
    clear hbig
    go_wp2_with fail
    refine (dFail 2 _ (by omega) (by omega) hT1).mono ?_
    rintro e w2 ⟨rfl, hb2⟩
    have hz := erB_size 2 (by omega) (by omega)
    obtain ⟨X, HX⟩ : ∃ X, Hid (erB 2 = X) := ⟨_, rfl⟩
    rw [HX.out] at HD hz ⊢
    have a1 := add_big (P := Tryz.prog) X ⟨#[10]⟩ (by have := nl_size; omega)
    have hb12 := hb1.trans (hb2.mono hb1.size)
    clear hb2 hT1
    go_wp2
    go_ret
    exact ⟨_, rfl, HD.out, hb12⟩
  have hcap := hr.cap
  have hmax := hr.max
  unfold maxLen at hmax
  have h65 : s.size ≤ 65536 := by omega
  have HZ : Hid (∀ x ∈ tln s, x.size ≤ s.size) := tln_size s
  obtain ⟨n, HN⟩ : ∃ n, Hid ((tln s).length = n) := ⟨_, rfl⟩
  have hn200 : n ≤ 200 := by rw [← HN.out]; omega
  have HF : Hid (∀ out T S, Dks (tln s) n out T S → Dsk s out) := fun out T S h => .inr ⟨hsm, T, S, by rw [HN.out]; exact h⟩
  rw [HN.out] at hr hcap ⊢
  obtain ⟨L, HL⟩ : ∃ L, Hid (tln s = L) := ⟨_, rfl⟩
  rw [HL.out] at hr HZ HF
  have hlen := hr.len
  clear hsm
  have hT1 := hT.below hb1
  have hS1 := hS.below hb1
  have hD1 := hDs.below hb1
  have hB0 := Dbc.new w1
  have hbD : Below w1.heap.size w1 (w1.alloc (.cells #[.string ⟨#[]⟩, .pointer none] 34)) := (Below.refl _ _).alloc (Nat.le_refl _) _
  obtain ⟨wD, HWD⟩ : ∃ wD, Hid (w1.alloc (.cells #[.string ⟨#[]⟩, .pointer none] 34) = wD) := ⟨_, rfl⟩
  rw [HWD.out] at hB0 hbD
  have hpl := hB0.plt
  have hBl := Bdf.new wD
  have hbB : Below wD.heap.size wD (wD.alloc (.cells #[.pointer none, .slice none 0 0] 38)) := (Below.refl _ _).alloc (Nat.le_refl _) _
  obtain ⟨wB, HWB⟩ : ∃ wB, Hid (wD.alloc (.cells #[.pointer none, .slice none 0 0] 38) = wB) := ⟨_, rfl⟩
  rw [HWB.out] at hBl hbB
  obtain ⟨p, HP⟩ : ∃ p, Hid (w1.heap.size = p) := ⟨_, rfl⟩
  obtain ⟨q, HQ⟩ : ∃ q, Hid (wD.heap.size = q) := ⟨_, rfl⟩
  have hpq : p < q := by rw [← HP.out, ← HQ.out]; exact hpl
  have hs0 : Dbs w1 wB p q (fun _ => False) (fun i => i = q) mt none mt := by
    rw [HP.out] at hB0
    rw [HQ.out] at hBl
    exact ⟨hB0.same hbB, hBl, fun e => by omega, fun _ _ e => e, fun i e => by rw [HP.out, e]; omega, fun i e => by rw [e]; exact hBl.lt⟩
  clear hB0 hBl
  go_upto_region 5 with fail
  rw [HWD.out]
  go_upto_region 6 with fail
  rw [HWB.out, HP.out, HQ.out]
  clear hbD hbB hpl
  go_wp2
  go_loopw [22] (fun qq wr => ∃ (i : Nat) (out T : ByteArray) (S : Option Kt) (G F : Nat → Prop), i ≤ n ∧ qq = .int .i64 (i : Int) ∧ Dks L i out T S ∧ Dbs w1 wr p q G F T S out ∧ out.size ≤ 200001 * i ∧ T.size ≤ 2048 ∧ ∀ s, S = some s → s.last ≤ i) (fun qq _ => n - (intOf qq).toNat)
  case atStart => exact ⟨0, mt, mt, none, _, _, Nat.zero_le _, rfl, ⟨rfl, rfl, rfl⟩, hs0, Nat.zero_le _, Nat.zero_le _, fun s e => by cases e⟩
  case round =>
    clear hs0
    obtain ⟨i, out, T, S, G, F, hi, rfl, hD, hB, hoz, hTz, hls⟩ := hrel
    have HDK : Hid (Dks L i out T S) := hD
    have HBN : Hid (Dbs w1 wr p q G F T S out) := hB
    have HLS : Hid (∀ s, S = some s → s.last ≤ i) := hls
    have hbr := hB.dsk.bel
    have hzr := hbr.size
    have hrr := hr.below hbr
    clear hD hB hls
    by_cases hlt : i < n
    · obtain ⟨b, o, x, rfl, hbb, HX, hxs, hcx⟩ := hrr.one hlt
      have hxz : x.size ≤ s.size := by rw [← HX.out]; exact HZ.out _ (tx_mem (by omega))
      have hlti : (i : Int) < (n : Int) := by omega
      go_wp2_with fail
      refine (dWords x _ (by omega)).mono ?_
      rintro e w2 ⟨a2, c2, rfl, hr2, hb2⟩
      have HWS : Hid (∀ y ∈ wrd x, 1 ≤ y.size ∧ y.size ≤ x.size) := wrd_size x
      have hwl := wrd_len x
      have hcap2 := hr2.cap
      have hmax2 := hr2.max
      unfold maxLen at hmax2
      have HNO : Hid (¬ asked x → Dks L (i + 1) out T S) := fun h => ⟨out, T, S, HDK.out, .inl ⟨by rw [HX.out]; exact h, rfl, rfl, rfl⟩⟩
      have HYS : Hid (∀ z T' S', asked x → Dln T S (tx (wrd x) 0) ((wrd x).drop 1) z T' S' → Dks L (i + 1) (out ++ (z ++ nlB)) T' S') := fun z T' S' h k => ⟨out, T, S, HDK.out, .inr ⟨by rw [HX.out]; exact h, z, by rw [HX.out]; exact k, rfl⟩⟩
      have hB2 := HBN.out.same hb2
      obtain ⟨m, HM⟩ : ∃ m, Hid ((wrd x).length = m) := ⟨_, rfl⟩
      rw [HM.out] at hr2 hcap2 hwl ⊢
      clear hrr hbr
      by_cases hm : 0 < m
      · obtain ⟨b2, o2, v, rfl, hbb2, HVV, hvs, hcv⟩ := hr2.one hm
        rw [Nat.add_zero] at hcv
        obtain ⟨hv1, hv2⟩ : 1 ≤ v.size ∧ v.size ≤ x.size := by rw [← HVV.out]; exact HWS.out _ (tx_mem (by rw [HM.out]; exact hm))
        have hmi : (0 : Int) < (m : Int) := by omega
        obtain ⟨y, HY⟩ : ∃ y, Hid (bt v 0 = y) := ⟨_, rfl⟩
        have hix : ∀ W, (Instr.index 9 (.string v) (.int .i64 0)).run Tryz.prog W = .ok (.int .u8 y) W := fun W => by rw [← HY.out]; exact bt_run (P := Tryz.prog) Tryz.underlying9 v (i := 0) (by omega) W
        have hyb : 0 ≤ y ∧ y ≤ 255 := by rw [← HY.out]; exact bt_bd v 0
        by_cases hy : y = 35
        · have HNA : Hid (Dks L (i + 1) out T S) := HNO.out fun h => h.2 (by rw [HVV.out, HY.out, hy])
          have hyn : (y != 35) = false := by rw [bne_eq_false_iff_eq]; exact hy
          clear hy
          go_wp2
          go_roundw
          case rel => exact ⟨i + 1, out, T, S, G, F, by omega, by go_num, HNA.out, hB2, by omega, hTz, fun s e => Nat.le_succ_of_le (HLS.out s e)⟩
          case measure => simp [intOf]; omega
        · have HAS : Hid (asked x) := ⟨by rw [HM.out]; exact hm, by rw [HVV.out, HY.out]; exact hy⟩
          have hyn : (y != 35) = true := by rw [bne_iff_ne]; exact hy
          clear hy
          have rD := hr2.sub (lo := 1) (by omega)
          have hsl : ∀ W, (Instr.sliceAt 23 (.slice (some ⟨b2, o2, none⟩) m c2) (some (.int .i64 1)) none none).run Tryz.prog W = .ok (.slice (subA (some ⟨b2, o2, none⟩) c2 1) (m - 1) (c2 - 1)) W := fun W => run_subl Tryz.underlying23 infoStr1 _ m c2 1 (by rfl) (by omega) W
          obtain ⟨sa, HSA⟩ : ∃ sa, Hid (subA (some ⟨b2, o2, none⟩) c2 1 = sa) := ⟨_, rfl⟩
          rw [HSA.out] at rD hsl
          have HWZ : Hid (∀ k, k < m - 1 → (tx ((wrd x).drop 1) k).size ≤ 70000) := fun k hk => by
            have := HWS.out (tx ((wrd x).drop 1) k) (List.mem_of_mem_drop (tx_mem (by rw [List.length_drop, HM.out]; exact hk)))
            omega
          obtain ⟨d, HDn⟩ : ∃ d, Hid (m - 1 = d) := ⟨_, rfl⟩
          obtain ⟨c3, HC3⟩ : ∃ c3, Hid (c2 - 1 = c3) := ⟨_, rfl⟩
          have hdz : d ≤ 70000 := by rw [← HDn.out]; omega
          rw [HDn.out, HC3.out] at hsl rD
          rw [HDn.out] at HWZ
          have hBd : Dbs w1 w2.drew p q G F T S out := hB2.same ((Below.refl _ _).drew)
          have rDd : RdT w2.drew sa d c3 ((wrd x).drop 1) := rD.below ((Below.refl _ _).drew)
          have hcd : w2.drew.cell? ⟨b2, o2, none⟩ = some (.string v) := hcv
          have HL1 : Hid (∀ s, S = some s → s.last ≤ 1000000) := fun s e => by have := HLS.out s e; omega
          go_wp2
          go_region_with (first | (go_at_call 14; refine (dAnswer w1 _ p G T S v _ d c3 ((wrd x).drop 1) hBd.dsk rDd hdz hTz HL1.out HWZ.out hT1 hS1 hD1).mono ?_; rintro e w3 ⟨z, T', S', rfl, hDl, hB3, hTc⟩; obtain ⟨hz1, hz2, hz3⟩ := hDl.small hTz (show i ≤ 1000000 by omega) HLS.out; have a1 := add_big (P := Tryz.prog) z ⟨#[10]⟩ (by have := nl_size; omega); obtain ⟨Z2, HZ2⟩ : ∃ Z2, Hid (z ++ ⟨#[10]⟩ = Z2) := ⟨_, rfl⟩; have hzz : Z2.size ≤ 200001 := (by rw [← HZ2.out, ByteArray.size_append]; have := nl_size; omega); rw [HZ2.out] at a1; have hB4 := hBd.line hB3 hTc) | (go_at_call 13; refine (sWriteF q out Z2 F _ hB4.bld (by omega)).mono ?_; rintro e w4 ⟨rfl, hBl4, hTc4⟩; have hB5 := hB4.wrote hBl4 hTc4))
          all_goals
            have HDD : Hid (Dks L (i + 1) (out ++ Z2) T' S') := by unfold Hid; rw [← HZ2.out]; exact HYS.out z T' S' HAS.out (by rw [HVV.out]; exact hDl)
            have hoo : (out ++ Z2).size ≤ 200001 * (i + 1) := by rw [ByteArray.size_append]; omega
            clear hDl hTc hBd rDd hcd hB4 hBl4 hTc4 hB3
            go_wp2
            go_roundw
            case rel => exact ⟨i + 1, out ++ Z2, T', S', _, _, by omega, by go_num, HDD.out, hB5, hoo, hz2, hz3⟩
            case measure => simp [intOf]; omega
      · obtain rfl : m = 0 := by omega
        have HNA : Hid (Dks L (i + 1) out T S) := HNO.out fun h => by have := h.1; rw [HM.out] at this; omega
        go_wp2
        go_roundw
        case rel => exact ⟨i + 1, out, T, S, G, F, by omega, by go_num, HNA.out, hB2, by omega, hTz, fun s e => Nat.le_succ_of_le (HLS.out s e)⟩
        case measure => simp [intOf]; omega
    · obtain rfl : i = n := by omega
      have hnn : ¬ ((i : Int) < (i : Int)) := by omega
      have hBB := HBN.out.bld.is HBN.out.low
      clear hrr
      go_wp2_with fail
      refine (sString w1.heap.size q out _ hBB hzr).mono ?_
      rintro e w3 ⟨rfl, hb3⟩
      have hb13 : Below w1.heap.size w1 w3 := hbr.trans hb3
      have hbw := hb1.trans (hb13.mono hb1.size)
      clear hbr hb3 hBB
      go_wp2
      go_ret
      exact ⟨out, rfl, HF.out _ _ _ HDK.out, hbw⟩
end
end Go.Proofs.YtljlioglpaogdafGreatDoor
