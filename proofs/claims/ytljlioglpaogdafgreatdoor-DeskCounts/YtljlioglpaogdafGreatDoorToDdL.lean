/- What desk.keyCommand's closure of vMult does. (Print of wip/tpl/gen/mkdd.py.) · What desk.keyCommand's closure of vKey does. (Print of wip/tpl/gen/mkdd.py.) · What desk.keyCommand's closure of vDrop does. (Print of wip/tpl/gen/mkdd.py.) · Package desk: lay, and the verb circuit of answer. -/
import Derived.Test.YtljlioglpaogdafGreatDoorToDdK3
import Derived.Test.YtljlioglpaogdafGreatDoorToDskF
import Derived.Deep.RegionHeld3
namespace Go.Proofs.YtljlioglpaogdafGreatDoor
set_option linter.unusedVariables false
set_option maxRecDepth 100000
set_option maxHeartbeats 8000000
section
open Crm Go.RowKit
theorem dKeyMult (w0 w : World) (b gb g : Nat) (G : Nat → Prop) (s : Kt) (k : Nat) (N : List Int) (hst : Kst w b G s) (hc : w.cell? ⟨gb, 0, none⟩ = some (.slice (some ⟨g, 0, none⟩) k k)) (hB : Blk w g N) (hlen : N.length = k) (hN : ∀ x ∈ N, 0 ≤ x ∧ x ≤ 9999999999) (hk : 2 ≤ k) (hk5 : k ≤ 100000) (hgbG : ¬ G gb) (hgG : ¬ G g) (hlow : ∀ i, G i → w0.heap.size ≤ i) (hbel : Below w0.heap.size w0 w) (hT : Tabs w0) (hlast : s.last ≤ 1000000) :
    Calls Tryz.prog 54 #[.pointer (some ⟨b, 0, none⟩), .pointer (some ⟨gb, 0, none⟩)] w (Kdl b G s vMult N w) := by
  have HN : Hid (∀ x ∈ N, 0 ≤ x ∧ x ≤ 9999999999) := hN
  have hR : Rd w (some ⟨g, 0, none⟩) k k N := hB.whole k hlen.symm (by unfold maxLen; omega) (fun x hx => by have := hN x hx; omega)
  have hgbl : gb < w.heap.size := World.block_lt_of_cell? w ⟨gb, 0, none⟩ hc
  have hgl : g < w.heap.size := hB.lt
  have HGL : Hid (∀ i, G i → i < w.heap.size) := hst.lt
  clear hN
  obtain ⟨x0, HX0⟩ : ∃ x, Hid (N.getD 0 0 = x) := ⟨_, rfl⟩
  have cx0 : w.cell? ⟨g, 0, none⟩ = some (.int .u64 x0) := by rw [← HX0.out]; exact hB.cell (by omega)
  have hx0 : 0 ≤ x0 ∧ x0 ≤ 9999999999 := by
    rw [← HX0.out]
    exact HN.out _ (by rw [List.getD_eq_getElem?_getD, List.getElem?_eq_getElem (show 0 < N.length by omega)]; exact List.getElem_mem _)
  have hu0 : IntKind.i64.wrap x0 = x0 := by rw [IntKind.wrap_i64]; omega
  have hk0 : (0 : Int) < (k : Int) := by omega
  have hkn0 : 0 < k := by omega
  obtain ⟨x1, HX1⟩ : ∃ x, Hid (N.getD 1 0 = x) := ⟨_, rfl⟩
  have cx1 : w.cell? ⟨g, 1, none⟩ = some (.int .u64 x1) := by rw [← HX1.out]; exact hB.cell (by omega)
  have hx1 : 0 ≤ x1 ∧ x1 ≤ 9999999999 := by
    rw [← HX1.out]
    exact HN.out _ (by rw [List.getD_eq_getElem?_getD, List.getElem?_eq_getElem (show 1 < N.length by omega)]; exact List.getElem_mem _)
  have hu1 : IntKind.i64.wrap x1 = x1 := by rw [IntKind.wrap_i64]; omega
  have hk1 : (1 : Int) < (k : Int) := by omega
  have hkn1 : 1 < k := by omega
  have HAL : Hid (∀ w', Tch w w' G → w'.cell? ⟨gb, 0, none⟩ = some (.slice (some ⟨g, 0, none⟩) k k) ∧ w'.cell? ⟨g, 0, none⟩ = some (.int .u64 x0) ∧ w'.cell? ⟨g, 1, none⟩ = some (.int .u64 x1) ∧ gb < w'.heap.size ∧ g < w'.heap.size ∧ Tabs w' ∧ Rd w' (some ⟨g, 0, none⟩) k k N) := fun w' ht => by
    have hb := ht.below hbel hlow hbel.size
    have e1 : ∀ o, w'.cell? ⟨gb, o, none⟩ = w.cell? ⟨gb, o, none⟩ := fun o => cell_block (ht.block gb hgbl hgbG)
    have e2 : ∀ o, w'.cell? ⟨g, o, none⟩ = w.cell? ⟨g, o, none⟩ := fun o => cell_block (ht.block g hgl hgG)
    exact ⟨by rw [e1]; exact hc, by rw [e2]; exact cx0, by rw [e2]; exact cx1, Nat.lt_of_lt_of_le hgbl ht.size, Nat.lt_of_lt_of_le hgl ht.size, hT.below hb, hR.tch0 ht (fun x hx => by obtain rfl := Option.some.inj hx; exact hgG)⟩
  obtain ⟨N1, HN1⟩ : ∃ N1, Hid (N.drop 2 = N1) := ⟨_, rfl⟩
  have HDK : Hid (Dky vMult N s (sad [(kmul s x0 x1 N1).1] (kmul s x0 x1 N1).2.1) (kmul s x0 x1 N1).2.2) := by unfold Hid Dky; rw [if_neg (by decide), if_neg (by decide), if_neg (by decide), if_neg (by decide), if_pos rfl]; unfold Dkh; rw [HX0.out, HX1.out, HN1.out]; exact ⟨rfl, rfl⟩
  have HRB : Hid (0 ≤ (kmul s x0 x1 N1).1 ∧ (kmul s x0 x1 N1).1 ≤ 9223372036854775807 ∧ -9223372036854775808 ≤ (kmul s x0 x1 N1).2.1 ∧ (kmul s x0 x1 N1).2.1 ≤ 9223372036854775807) := kmul_rb _ _ _ hlast
  obtain ⟨sa, HSA⟩ : ∃ sa, Hid (subA (some ⟨g, 0, none⟩) k 2 = sa) := ⟨_, rfl⟩
  have hsl : ∀ W, (Instr.sliceAt 53 (.slice (some ⟨g, 0, none⟩) k k) (some (.int .i64 2)) none none).run Tryz.prog W = .ok (.slice sa (k - 2) (k - 2)) W := fun W => by
    rw [← HSA.out]
    exact run_subl Tryz.underlying53 infoU1 _ k k 2 rfl (by omega) W
  have HSR : Hid (∀ w', Rd w' (some ⟨g, 0, none⟩) k k N → Rd w' sa (k - 2) (k - 2) N1) := fun w' hr => by
    have e := hr.sub (lo := 2) (k := k - 2) (by omega)
    rw [HSA.out, HN1.out, List.take_of_length_le (by rw [← HN1.out, List.length_drop, hlen]; exact Nat.le_refl _)] at e
    exact e
  have hlk : (2 : Int) ≤ (k : Int) := by omega
  have H : Hid (Kst w b G s) := hst
  have HD : Hid (Tch w w.drew G) := Tch.of_below (Below.refl _ _).drew
  obtain ⟨y0, y1, y2, y3, y4, y5, y6⟩ := HAL.out w (Tch.refl _ _)
  obtain ⟨z0, z1, z2, z3, z4, z5, z6⟩ := HAL.out w.drew HD.out
  clear hst hB hR
  go_enter Tryz.func54, Tryz.ntmps54
  go_wp2
  go_region_held3 (fun w' => w'.cell? ⟨gb, 0, none⟩ = some (.slice (some ⟨g, 0, none⟩) k k) ∧ w'.cell? ⟨g, 0, none⟩ = some (.int .u64 x0) ∧ w'.cell? ⟨g, 1, none⟩ = some (.int .u64 x1)) (go_keep) (first | (go_at_call 55; refine (cMultiplyK b G s x0 x1 _ _ _ N1 _ (H.out.same ((Below.refl _ _).drew)) ⟨by omega, by omega⟩ ⟨by omega, by omega⟩ (HSR.out _ z6) hlast).mono ?_; intro e w3 hK; obtain ⟨rfl, hK1, hK2⟩ := Kke.behind ((Below.refl _ _).drew) hK HGL.out; obtain ⟨t0, t1, t2, t3, t4, t5, t6⟩ := HAL.out w3 hK2) | (go_at_call 45; refine (dTellH _ _ _ HRB.out.1 HRB.out.2.1 HRB.out.2.2.1 HRB.out.2.2.2 t5).mono ?_; rintro e w4 ⟨rfl, hb4⟩; have hT4 := hK2.same (Tch.of_below hb4); obtain ⟨o0, o1, o2, o3, o4, o5, o6⟩ := HAL.out w4 hT4))
  all_goals
    have HB4 : Hid (Kst w4 b (Gnx G w w4) (kmul s x0 x1 N1).2.2) := Stx.mono (Stx.same hK1 hb4) (fun i g => g.elim .inl (fun g => .inr ⟨g.1, Nat.lt_of_lt_of_le g.2 hb4.size⟩)) (Gnx.lt HGL.out hT4.size)
    clear hK1
    go_wp2
    go_ret
    exact ⟨_, _, rfl, HDK.out, HB4.out, hT4⟩
theorem dKeyKey (w0 w : World) (b gb g : Nat) (G : Nat → Prop) (s : Kt) (k : Nat) (N : List Int) (hst : Kst w b G s) (hc : w.cell? ⟨gb, 0, none⟩ = some (.slice (some ⟨g, 0, none⟩) k k)) (hB : Blk w g N) (hlen : N.length = k) (hN : ∀ x ∈ N, 0 ≤ x ∧ x ≤ 9999999999) (hk : k = 1) (hk5 : k ≤ 100000) (hgbG : ¬ G gb) (hgG : ¬ G g) (hlow : ∀ i, G i → w0.heap.size ≤ i) (hbel : Below w0.heap.size w0 w) (hT : Tabs w0) (hlast : s.last ≤ 1000000) :
    Calls Tryz.prog 56 #[.pointer (some ⟨b, 0, none⟩), .pointer (some ⟨gb, 0, none⟩)] w (Kdl b G s vKey N w) := by
  have HN : Hid (∀ x ∈ N, 0 ≤ x ∧ x ≤ 9999999999) := hN
  have hR : Rd w (some ⟨g, 0, none⟩) k k N := hB.whole k hlen.symm (by unfold maxLen; omega) (fun x hx => by have := hN x hx; omega)
  have hgbl : gb < w.heap.size := World.block_lt_of_cell? w ⟨gb, 0, none⟩ hc
  have hgl : g < w.heap.size := hB.lt
  have HGL : Hid (∀ i, G i → i < w.heap.size) := hst.lt
  clear hN
  obtain ⟨x0, HX0⟩ : ∃ x, Hid (N.getD 0 0 = x) := ⟨_, rfl⟩
  have cx0 : w.cell? ⟨g, 0, none⟩ = some (.int .u64 x0) := by rw [← HX0.out]; exact hB.cell (by omega)
  have hx0 : 0 ≤ x0 ∧ x0 ≤ 9999999999 := by
    rw [← HX0.out]
    exact HN.out _ (by rw [List.getD_eq_getElem?_getD, List.getElem?_eq_getElem (show 0 < N.length by omega)]; exact List.getElem_mem _)
  have hu0 : IntKind.i64.wrap x0 = x0 := by rw [IntKind.wrap_i64]; omega
  have hk0 : (0 : Int) < (k : Int) := by omega
  have hkn0 : 0 < k := by omega
  have HAL : Hid (∀ w', Tch w w' G → w'.cell? ⟨gb, 0, none⟩ = some (.slice (some ⟨g, 0, none⟩) k k) ∧ w'.cell? ⟨g, 0, none⟩ = some (.int .u64 x0) ∧ gb < w'.heap.size ∧ g < w'.heap.size ∧ Tabs w' ∧ Rd w' (some ⟨g, 0, none⟩) k k N) := fun w' ht => by
    have hb := ht.below hbel hlow hbel.size
    have e1 : ∀ o, w'.cell? ⟨gb, o, none⟩ = w.cell? ⟨gb, o, none⟩ := fun o => cell_block (ht.block gb hgbl hgbG)
    have e2 : ∀ o, w'.cell? ⟨g, o, none⟩ = w.cell? ⟨g, o, none⟩ := fun o => cell_block (ht.block g hgl hgG)
    exact ⟨by rw [e1]; exact hc, by rw [e2]; exact cx0, Nat.lt_of_lt_of_le hgbl ht.size, Nat.lt_of_lt_of_le hgl ht.size, hT.below hb, hR.tch0 ht (fun x hx => by obtain rfl := Option.some.inj hx; exact hgG)⟩
  have H : Hid (Kst w b G s) := hst
  have HD : Hid (Tch w w.drew G) := Tch.of_below (Below.refl _ _).drew
  obtain ⟨y0, y1, y2, y3, y4, y5⟩ := HAL.out w (Tch.refl _ _)
  clear hst hB hR
  go_enter Tryz.func56, Tryz.ntmps56
  go_wp2_with fail
  refine (cOpenK b G s x0 _ (H.out.same (Below.refl _ _)) ⟨by omega, by omega⟩).mono ?_
  rintro e w3 ⟨y, q, rfl, hO, hb3⟩
  have hT3 : Tch w w3 G := Tch.of_below hb3
  obtain ⟨t0, t1, t2, t3, t4, t5⟩ := HAL.out w3 hT3
  have hyv := hO.val2
  have hqb := hO.rb
  have HDK : Hid (Dky vKey N s (sad [y] q) s) := by unfold Hid Dky; rw [if_neg (by decide), if_neg (by decide), if_neg (by decide), if_neg (by decide), if_neg (by decide), if_pos rfl, HX0.out]; exact ⟨rfl, y, q, hO, rfl⟩
  clear hO
  go_wp2_with fail
  refine (dTellN _ _ _ (by omega) (by omega) hqb.1 hqb.2 t4).mono ?_
  rintro e w4 ⟨rfl, hb4⟩
  have hbw4 : Below w.heap.size w w4 := hb3.trans (hb4.mono hb3.size)
  have HB4 : Hid (Kst w4 b (Gnx G w w4) s) := Stx.below H.out hbw4
  go_wp2
  go_ret
  exact ⟨_, _, rfl, HDK.out, HB4.out, Tch.of_below hbw4⟩
theorem dKeyDrop (w0 w : World) (b gb g : Nat) (G : Nat → Prop) (s : Kt) (k : Nat) (N : List Int) (hst : Kst w b G s) (hc : w.cell? ⟨gb, 0, none⟩ = some (.slice (some ⟨g, 0, none⟩) k k)) (hB : Blk w g N) (hlen : N.length = k) (hN : ∀ x ∈ N, 0 ≤ x ∧ x ≤ 9999999999) (hk : k = 1) (hk5 : k ≤ 100000) (hgbG : ¬ G gb) (hgG : ¬ G g) (hlow : ∀ i, G i → w0.heap.size ≤ i) (hbel : Below w0.heap.size w0 w) (hT : Tabs w0) (hlast : s.last ≤ 1000000) :
    Calls Tryz.prog 59 #[.pointer (some ⟨b, 0, none⟩), .pointer (some ⟨gb, 0, none⟩)] w (Kdl b G s vDrop N w) := by
  have HN : Hid (∀ x ∈ N, 0 ≤ x ∧ x ≤ 9999999999) := hN
  have hR : Rd w (some ⟨g, 0, none⟩) k k N := hB.whole k hlen.symm (by unfold maxLen; omega) (fun x hx => by have := hN x hx; omega)
  have hgbl : gb < w.heap.size := World.block_lt_of_cell? w ⟨gb, 0, none⟩ hc
  have hgl : g < w.heap.size := hB.lt
  have HGL : Hid (∀ i, G i → i < w.heap.size) := hst.lt
  clear hN
  obtain ⟨x0, HX0⟩ : ∃ x, Hid (N.getD 0 0 = x) := ⟨_, rfl⟩
  have cx0 : w.cell? ⟨g, 0, none⟩ = some (.int .u64 x0) := by rw [← HX0.out]; exact hB.cell (by omega)
  have hx0 : 0 ≤ x0 ∧ x0 ≤ 9999999999 := by
    rw [← HX0.out]
    exact HN.out _ (by rw [List.getD_eq_getElem?_getD, List.getElem?_eq_getElem (show 0 < N.length by omega)]; exact List.getElem_mem _)
  have hu0 : IntKind.i64.wrap x0 = x0 := by rw [IntKind.wrap_i64]; omega
  have hk0 : (0 : Int) < (k : Int) := by omega
  have hkn0 : 0 < k := by omega
  have HAL : Hid (∀ w', Tch w w' G → w'.cell? ⟨gb, 0, none⟩ = some (.slice (some ⟨g, 0, none⟩) k k) ∧ w'.cell? ⟨g, 0, none⟩ = some (.int .u64 x0) ∧ gb < w'.heap.size ∧ g < w'.heap.size ∧ Tabs w' ∧ Rd w' (some ⟨g, 0, none⟩) k k N) := fun w' ht => by
    have hb := ht.below hbel hlow hbel.size
    have e1 : ∀ o, w'.cell? ⟨gb, o, none⟩ = w.cell? ⟨gb, o, none⟩ := fun o => cell_block (ht.block gb hgbl hgbG)
    have e2 : ∀ o, w'.cell? ⟨g, o, none⟩ = w.cell? ⟨g, o, none⟩ := fun o => cell_block (ht.block g hgl hgG)
    exact ⟨by rw [e1]; exact hc, by rw [e2]; exact cx0, Nat.lt_of_lt_of_le hgbl ht.size, Nat.lt_of_lt_of_le hgl ht.size, hT.below hb, hR.tch0 ht (fun x hx => by obtain rfl := Option.some.inj hx; exact hgG)⟩
  have HDK : Hid (Dky vDrop N s (fne (kdrp s x0).1) (kdrp s x0).2) := by unfold Hid Dky; rw [if_neg (by decide), if_neg (by decide), if_neg (by decide), if_neg (by decide), if_neg (by decide), if_neg (by decide)]; unfold Dkt; rw [HX0.out]; exact ⟨rfl, rfl⟩
  have HRB : Hid (-9223372036854775808 ≤ (kdrp s x0).1 ∧ (kdrp s x0).1 ≤ 9223372036854775807) := kdrp_rb _ _
  have H : Hid (Kst w b G s) := hst
  have HD : Hid (Tch w w.drew G) := Tch.of_below (Below.refl _ _).drew
  obtain ⟨y0, y1, y2, y3, y4, y5⟩ := HAL.out w (Tch.refl _ _)
  clear hst hB hR
  go_enter Tryz.func59, Tryz.ntmps59
  go_wp2_with fail
  refine (cDropK b G s x0 _ (H.out.same (Below.refl _ _)) ⟨by omega, by omega⟩).mono ?_
  intro e w3 hK
  obtain ⟨rfl, hK1, hK2⟩ := Kkt.behind (Below.refl _ _) hK HGL.out
  obtain ⟨t0, t1, t2, t3, t4, t5⟩ := HAL.out w3 hK2
  go_wp2_with fail
  refine (dDone _ _ HRB.out.1 HRB.out.2 t4).mono ?_
  rintro e w4 ⟨rfl, hb4⟩
  have hT4 := hK2.same (Tch.of_below hb4)
  have HB4 : Hid (Kst w4 b (Gnx G w w4) (kdrp s x0).2) := Stx.mono (Stx.same hK1 hb4) (fun i g => g.elim .inl (fun g => .inr ⟨g.1, Nat.lt_of_lt_of_le g.2 hb4.size⟩)) (Gnx.lt HGL.out hT4.size)
  clear hK1
  go_wp2
  go_ret
  exact ⟨_, _, rfl, HDK.out, HB4.out, hT4⟩
theorem dLay (w0 w : World) (p : Nat) (G : Nat → Prop) (T : ByteArray) (S : Option Kt) (a : Option Addr) (n c : Nat) (l : List ByteArray) (h : Dbc w0 w p G T S) (r : RdT w a n c l) (hn : n ≤ 70000) (hTz : T.size ≤ 2048) (hwz : ∀ i, i < n → (tx l i).size ≤ 70000) (hT : Tabs w0) :
    Calls Tryz.prog 26 #[.pointer (some ⟨p, 0, none⟩), .slice a n c] w (Dle w0 p G T S vCirc l w) := by
  have hlen := r.len
  have hcap := r.cap
  have hmax := r.max
  unfold maxLen at hmax
  have H : Hid (Dbc w0 w p G T S) := h
  have HT : Hid (∀ w', Below w.heap.size w w' → Tabs w' ∧ w'.cell? ⟨p, 0, none⟩ = some (.string T) ∧ w'.frozen? ⟨p, 0, none⟩ = false ∧ p < w'.heap.size) := fun w' hb => ⟨hT.below (H.out.bel.trans (hb.mono H.out.bel.size)), (H.out.same hb).text.1, (H.out.same hb).text.2, (H.out.same hb).plt⟩
  have hz : (jnw l n).size ≤ 70001 * n := jnw_size hwz n (Nat.le_refl _)
  clear h hwz
  by_cases hk0 : n = 0
  · subst hk0
    have HNS : Hid (¬ Syn vCirc l) := fun hs => by unfold Syn at hs; rw [if_pos rfl] at hs; omega
    have HD : Hid (Dln T S vCirc l (erB 3) T S) := .inl ⟨HNS.out, rfl, rfl, rfl⟩
    obtain ⟨hTb, _⟩ := HT.out _ (Below.refl _ _)
    clear hz r
    go_enter Tryz.func26, Tryz.ntmps26
    go_wp2_with fail
    refine (dFail 3 _ (by omega) (by omega) hTb).mono ?_
    rintro e wz ⟨rfl, hbz⟩
    obtain ⟨X, HX⟩ : ∃ X, Hid (erB 3 = X) := ⟨_, rfl⟩
    rw [HX.out] at HD ⊢
    go_wp2
    go_ret
    exact Dle.quiet H.out hbz HD.out
  · have HSY : Hid (Syn vCirc l) := by unfold Hid Syn; rw [if_pos rfl]; omega
    have hkb : ((n : Int) == 0) = false := by rw [beq_eq_false_iff_ne]; omega
    have HJN : Hid ((jnw l n).size ≤ 100000000000) := by unfold Hid; omega
    obtain ⟨J, HJ⟩ : ∃ J, Hid (jnw l n = J) := ⟨_, rfl⟩
    have HJL : Hid (jnw l l.length = J) := by unfold Hid; rw [hlen]; exact HJ.out
    rw [HJ.out] at hz
    have a1 := add_big (P := Tryz.prog) T J (by omega)
    obtain ⟨J1, HJ1⟩ : ∃ J1, Hid (T ++ J = J1) := ⟨_, rfl⟩
    have hz1 : J1.size = T.size + J.size := by rw [← HJ1.out, ByteArray.size_append]
    rw [HJ1.out] at a1
    have a2 := add_big (P := Tryz.prog) J1 ⟨#[10]⟩ (by have := nl_size; omega)
    obtain ⟨J2, HJ2⟩ : ∃ J2, Hid (J1 ++ ⟨#[10]⟩ = J2) := ⟨_, rfl⟩
    have hz2 : J2.size = T.size + J.size + 1 := by rw [← HJ2.out, ByteArray.size_append, hz1]; rfl
    have HZ2 : Hid (J2.size = T.size + J.size + 1) := hz2
    rw [HJ2.out] at a2
    have hz2b : J2.size ≤ 10000000000 := by omega
    have HAS : Hid (T ++ (J ++ nlB) = J2) := by unfold Hid; rw [← HJ2.out, ← HJ1.out, ByteArray.append_assoc]; rfl
    obtain ⟨y0, y1, y2, y3⟩ := HT.out w (Below.refl _ _)
    obtain ⟨z0, z1, z2, z3⟩ := HT.out w.drew (Below.refl _ _).drew
    have hrd := r.below (Below.refl w.heap.size w).drew
    clear hk0 hz1 hz2
    by_cases hbig : 2048 < J2.size
    · have hbi : (2048 : Int) < (J2.size : Int) := by omega
      have HD : Hid (Dln T S vCirc l (erB 2) T S) := .inr ⟨HSY.out, by unfold Dac; rw [if_pos rfl, HJL.out]; exact ⟨rfl, .inl ⟨by rw [← HZ2.out]; exact hbig, rfl, rfl⟩⟩⟩
      clear hbig
      go_enter Tryz.func26, Tryz.ntmps26
      go_wp2
      go_region_held3 (fun w' => w'.cell? ⟨p, 0, none⟩ = some (.string T)) (go_keep) (first | (go_at_call 37; refine (sJoin _ _ _ l _ hrd (by omega) HJN.out).mono ?_; rintro e w2 ⟨rfl, hb2⟩; rw [HJ.out]; have hb2' : Below w.heap.size w w2 := ((Below.refl _ _).drew).trans (hb2.mono (Nat.le_refl _)); obtain ⟨t0, t1, t2, t3⟩ := HT.out w2 hb2'))
      all_goals
        go_wp2_with fail
        refine (dFail 2 _ (by omega) (by omega) t0).mono ?_
        rintro e wz ⟨rfl, hbz⟩
        have hbw := hb2'.trans (hbz.mono hb2'.size)
        obtain ⟨X, HX⟩ : ∃ X, Hid (erB 2 = X) := ⟨_, rfl⟩
        rw [HX.out] at HD ⊢
        clear hbz
        go_wp2
        go_ret
        exact Dle.quiet H.out hbw HD.out
    · have hbi : ¬ ((2048 : Int) < (J2.size : Int)) := by omega
      have HD : Hid (Dln T S vCirc l okB J2 S) := .inr ⟨HSY.out, by unfold Dac; rw [if_pos rfl, HJL.out]; exact ⟨rfl, .inr ⟨by rw [← HZ2.out]; omega, rfl, HAS.out.symm⟩⟩⟩
      clear hbig
      go_enter Tryz.func26, Tryz.ntmps26
      go_wp2
      go_region_held3 (fun w' => w'.cell? ⟨p, 0, none⟩ = some (.string T)) (go_keep) (first | (go_at_call 37; refine (sJoin _ _ _ l _ hrd (by omega) HJN.out).mono ?_; rintro e w2 ⟨rfl, hb2⟩; rw [HJ.out]; have hb2' : Below w.heap.size w w2 := ((Below.refl _ _).drew).trans (hb2.mono (Nat.le_refl _)); obtain ⟨t0, t1, t2, t3⟩ := HT.out w2 hb2'))
      all_goals
        have HL : Hid (Dle w0 p G T S vCirc l w (.returned (.string okB)) (w2.setCell ⟨p, 0, none⟩ (.string J2))) := Dle.text H.out hb2' HD.out
        go_wp2
        go_ret
        exact HL.out

theorem dAnsCirc (w0 w : World) (p : Nat) (G : Nat → Prop) (T : ByteArray) (S : Option Kt) (a : Option Addr) (n c : Nat) (l : List ByteArray) (h : Dbc w0 w p G T S) (r : RdT w a n c l) (hn : n ≤ 70000) (hTz : T.size ≤ 2048) (hwz : ∀ i, i < n → (tx l i).size ≤ 70000) (hT : Tabs w0) :
    Calls Tryz.prog 14 #[.pointer (some ⟨p, 0, none⟩), .string vCirc, .slice a n c] w (Dle w0 p G T S vCirc l w) := by
  have hL := dLay w0 w p G T S a n c l h r hn hTz hwz hT
  obtain ⟨v, HV⟩ : ∃ v, Hid (vCirc = v) := ⟨_, rfl⟩
  have q0 : (v.toList == [99, 105, 114, 99, 117, 105, 116]) = true := by rw [← HV.out]; decide +kernel
  rw [HV.out] at hL ⊢
  clear h r hwz
  go_enter Tryz.func14, Tryz.ntmps14
  go_wp2_with fail
  refine hL.mono ?_
  intro e w1 hD
  have HD : Hid (Dle w0 p G T S v l w e w1) := hD
  obtain ⟨out, T', S', rfl, _⟩ := hD
  clear hL
  go_wp2
  go_ret
  exact HD.out
end
end Go.Proofs.YtljlioglpaogdafGreatDoor
