/- The parties' multiply. -/
import Derived.Test.YtljlioglpaogdafDoorToEnL
import Derived.Test.YtljlioglpaogdafDoorGateMC
import Derived.Deep.RegionHeld3
namespace Go.Proofs.YtljlioglpaogdafDoor
set_option linter.unusedVariables false
set_option maxRecDepth 100000
set_option maxHeartbeats 8000000
section
open Crm Go.RowKit
theorem PSt.row {G : List Gt} {ins ds : List Int} {w wr : World} {gp gs n t i p : Nat} {vi vd : Value} {Ls : List Value} {S : List (List Int)} {vW : Value} {LW : List Value} {lo hi c : Nat} {a : Option Addr} (h : PSt w wr gp gs n t vi vd Ls S vW LW (ewr G n t ins ds i) lo hi) (hp : p < i) (e : LW.getD p (.slice none 0 0) = .slice a n c) : Rd wr a n c (ew G n t ins ds p) := by
  obtain ⟨a', c', e', hr⟩ := h.sen.wires.one (ewr_len G n t ins ds i) hp (by rw [ewr_getD G n t ins ds hp]; exact bd_u64 (ew_bd _ _ _ _ _ _))
  rw [ewr_getD G n t ins ds hp, ew_len] at e' hr
  rw [e] at e'
  simp only [Value.slice.injEq, true_and] at e'
  obtain ⟨rfl, rfl⟩ := e'
  exact hr
theorem keep_lsv {wr w' : World} {lo hi B : Nat} {v : Value} {L : List Value} {rows : List (List Int)} (hk : ∀ (B2 z k : Nat) (E : TypeId) (v : Value) (xs : List Value), wr.ownsRow B2 E z v k xs → Btw lo hi v → w'.ownsRow B2 E z v k xs) (h : LsV wr B v L rows) (hv : Btw lo hi v) (hL : ∀ i, Btw lo hi (L.getD i (.slice none 0 0))) : LsV w' B v L rows :=
  ⟨hk _ _ _ _ _ _ h.own hv, h.len, fun i hi => hk _ _ _ _ _ _ (h.row i hi) (hL i), h.inj⟩

theorem blk_off {w : World} {g B z k : Nat} {cur : Array Value} {E E' : TypeId} {v : Value} {xs : List Value} (hb : w.heap[g]? = some (.cells cur E (0, 0))) (ho : w.ownsRow B E' z v k xs) (hE : E ≠ E') : some g ≠ v.ownBlock := by
  rcases ho.2 with ⟨rfl, _⟩ | ⟨g', cap, cur', rfl, _, hg, _⟩
  · simp [Value.ownBlock]
  · intro e
    simp only [Value.ownBlock, Option.some.injEq] at e
    subst e
    rw [hg] at hb
    simp only [Option.some.injEq, Obj.cells.injEq] at hb
    exact hE hb.2.1.symm
/-- A block of another kind stays while what is seen grows. -/
theorem PSt.keepB {w wr w' : World} {gp gs n t j : Nat} {vi vd : Value} {Ls : List Value} {S : List (List Int)} {row xs : List Int} {vW : Value} {LW : List Value} {W : List (List Int)} {lo hi : Nat} (h : PSt w wr gp gs n t vi vd Ls S vW LW W lo hi) (hj : j < n) (hs : Seen w wr gs j (Ls.getD j (.slice none 0 0)) row xs w') {g : Nat} {cur : Array Value} {E : TypeId} (hb : wr.heap[g]? = some (.cells cur E (0, 0))) (hE1 : E ≠ 37) (hE2 : E ≠ 34) : w'.heap[g]? = some (.cells cur E (0, 0)) := by
  obtain ⟨w7, v7, rfl, ho, hg, hat⟩ := hs
  have hl := (Array.getElem?_eq_some_iff.1 hb).1
  have h7 : w7.heap[g]? = some (.cells cur E (0, 0)) := by rw [hg.block g hl (blk_off hb (h.sen.seen.row j (by rw [h.sen.len]; exact hj)) hE1)]; exact hb
  rw [(grown_set w7 gs j v7).block g (Array.getElem?_eq_some_iff.1 h7).1 (blk_off hb h.sen.seen.own hE2)]
  exact h7

theorem eMultiply {G : List Gt} {n t : Nat} {ins ds : List Int} {w wr : World} {gp gs i N q d lo hh pa pb c1 c3 : Nat} {vi vd vW : Value} {Ls LW : List Value} {a1 a3 : Option Addr} (h : PSt w wr gp gs n t vi vd Ls (sgl G n t ins ds i) vW LW (ewr G n t ins ds i) lo hh)
    (hvi : Lft w ins q (ci G i) vi) (hvd : Lft w ds d (dwn G n t i) vd) (hg : (gt G i).k = 5) (ha : (gt G i).a = (pa : Int)) (hpa : pa < i) (hb : (gt G i).b = (pb : Int)) (hpb : pb < i) (ea : LW.getD pa (.slice none 0 0) = .slice a1 n c1) (eb : LW.getD pb (.slice none 0 0) = .slice a3 n c3) (hi : i < N) (hN : N ≤ 30) (hd : d = dwn G n t N) (hn : 2 * t + 1 ≤ n) (hn9 : n ≤ 9) {gb : Nat} {cur : Array Value} {E : TypeId} (hgb : wr.heap[gb]? = some (.cells cur E (0, 0))) (hE1 : E ≠ 37) (hE2 : E ≠ 34) (hE3 : E ≠ 79) :
    Calls Tryd.prog 52 #[.pointer (some ⟨gp, 0, none⟩), .slice a1 n c1, .slice a3 n c3] wr fun e w' => ∃ u, e = .returned u ∧ Pgt G n t ins ds q d w gp gs i vW LW u w' ∧ w'.heap[gb]? = some (.cells cur E (0, 0)) := by
  obtain ⟨a2, c2, rfl, r2⟩ := hvd
  obtain ⟨P, HP⟩ : ∃ P, Hid (n * t = P) := ⟨_, rfl⟩
  have hP36 : P ≤ 36 := by rw [← HP.out]; exact Nat.mul_le_mul hn9 (show t ≤ 4 by omega)
  have hPI : (n : Int) * (t : Int) = (P : Int) := by rw [← HP.out]; push_cast; rfl
  have HD2 : Hid (dwn G n t (i + 1) = dwn G n t i + P) := by unfold Hid; rw [dwn, if_neg (by omega), if_pos hg, HP.out]
  have hD : dwn G n t i + P ≤ d := by
    rw [← HD2.out, hd]
    exact dwn_mono G n t (by omega)
  have HE : Hid (ew G n t ins ds i = tmO t (ew G n t ins ds pa) (ew G n t ins ds pb) (edr G n t ds i (n * t)) n n) := ew_mul hg ha hpa hb hpb
  have HEN : Hid (∀ j, esn G n t ins ds i j = tmR t (ew G n t ins ds pa) (ew G n t ins ds pb) (edr G n t ds i (n * t)) n j) := fun j => by unfold esn; rw [if_neg (by omega), if_pos hg, ha, hb, Int.toNat_natCast, Int.toNat_natCast]
  have HV1 : Hid (Lft w ins q (ci G (i + 1)) vi) := by unfold Hid; rw [ci_no (by omega)]; exact hvi
  obtain ⟨D, HD⟩ : ∃ D, Hid (dwn G n t i = D) := ⟨_, rfl⟩
  rw [HD.out] at hD r2 HD2 h
  have HED : Hid ((ds.drop D).take P = edr G n t ds i (n * t)) := by unfold Hid edr; rw [HD.out, HP.out]
  obtain ⟨Y, HY⟩ : ∃ Y, Hid (edr G n t ds i (n * t) = Y) := ⟨_, rfl⟩
  rw [HY.out] at HE HEN HED
  obtain ⟨K, HK⟩ : ∃ K, Hid (d - D = K) := ⟨_, rfl⟩
  have hK : P ≤ K := by have := HK.out; omega
  rw [HK.out] at r2 h
  have hcap2 := r2.cap
  have r2' := r2.sub (lo := P) (k := K - P) (by omega)
  have r3 := r2.take hK
  rw [HED.out] at r3
  obtain ⟨X2, HX2⟩ : ∃ X2, Hid (subA a2 c2 P = X2) := ⟨_, rfl⟩
  rw [HX2.out] at r2'
  have HV2 : Hid (Lft w ds d (dwn G n t (i + 1)) (.slice X2 (K - P) (c2 - P))) := by
    unfold Hid
    rw [HD2.out]
    refine Lft.nil ?_ (by have := HK.out; omega)
    rw [List.drop_drop, List.take_of_length_le (by have := r2.len; simp at this; simp; omega)] at r2'
    exact r2'
  obtain ⟨f0, f1, _, _, _, _⟩ := h.box.cells
  have hlp := h.box.lt
  have hPD := h.drew
  have HP3 : Hid (∀ w3, w3 = wr.drew.setCell ⟨gp, 3, none⟩ (.slice X2 (K - P) (c2 - P)) → PSt w w3 gp gs n t vi (.slice X2 (K - P) (c2 - P)) Ls (sgx (sng G n t ins ds i) (esn G n t ins ds i) n 0) vW LW (ewr G n t ins ds i) lo hh ∧ w3.heap[gb]? = some (.cells cur E (0, 0))) := fun w3 e => by
    subst e
    rw [← sgl_first]
    refine ⟨hPD.turn (grown_set _ _ _ _) (hPD.box.set3 _), ?_⟩
    rw [(grown_set wr.drew gp 3 _).block gb (Array.getElem?_eq_some_iff.1 hgb).1 (fun e => ?_)]
    · exact hgb
    · obtain rfl := Option.some.inj e
      have hbx : wr.heap[gb]? = _ := hPD.box
      rw [hgb] at hbx
      simp only [Option.some.injEq, Obj.cells.injEq] at hbx
      exact hE3 hbx.2.1
  have hwP : IntKind.i64.wrap (P : Int) = (P : Int) := by rw [IntKind.wrap_i64]; omega
  have HOK : Hid (Gme (t : Int) n n P 0) := .inr ⟨⟨by omega, by omega⟩, .inr ⟨⟨⟨by omega, hn9⟩, rfl⟩, .inr ⟨by omega, .inr ⟨by rw [hPI], rfl⟩⟩⟩⟩
  clear hvi r2' h hgb
  go_enter Tryd.func52, Tryd.ntmps52
  go_upto_region 1 with fail
  go_region_held3 (fun w' => w'.cell? ⟨gp, 0, none⟩ = some (.int .i64 (n : Int)) ∧ w'.cell? ⟨gp, 1, none⟩ = some (.int .i64 (t : Int))) (go_keep) (first | (go_at_call 65; refine (eDraw gp n t _ _ _ a2 K c2 P _ hPD.box r2.nil hK hcap2).mono ?_; rintro en w3 ⟨rfl, hw3⟩; rw [HX2.out] at hw3; obtain ⟨hP3, hgb3⟩ := HP3.out w3 hw3; clear hw3; obtain ⟨g0, g1, _, _, _, _⟩ := hP3.box.cells; have hl3 := hP3.box.lt) | (go_at_call 68; refine (cGMul (t : Int) a1 n c1 _ a3 n c3 _ a2 P c2 _ _ (hP3.row hpa ea) (hP3.row hpb eb) (r3.below hP3.sen.bel)).mono ?_; rintro en w5 ⟨⟨r, hr, hE, _⟩ | ⟨_, v, u, L, rfl, ho, hL⟩, hb5⟩; exact absurd (hE.one HOK.out) hr; have hP5 := hP3.fresh (by omega) hb5; have hgb5 := (hb5.block gb (Array.getElem?_eq_some_iff.1 hgb3).1).trans hgb3; obtain ⟨i0, i1, _, _, _, _⟩ := hP5.box.cells; have hl5 := hP5.box.lt))
  all_goals
    rw [Int.toNat_natCast] at ho hL
    have hgl0 : (tmG t (ew G n t ins ds pa) (ew G n t ins ds pb) Y n).length = n := tmG_len _ _ _ _ _
    have hgo := hL.own
    rw [hgl0] at hgo
    obtain ⟨gg, cgt, rfl, _, _, hcv, hcv2⟩ := own_atZ hgo (by omega)
    unfold maxLen at hcv2
    rw [← HE.out] at ho
    have HBt : Hid (Btw w3.heap.size w5.heap.size v) := fun b hb => ho.lt b hb
    have HBu : Hid (Btw w3.heap.size w5.heap.size (.slice (some ⟨gg, 0, none⟩) n cgt)) := fun b hb => hL.own.lt b hb
    have HBL : Hid (∀ p, Btw w3.heap.size w5.heap.size (L.getD p (.slice none 0 0))) := fun p b hb => hL.blk p b hb
    have ho5 := own_baseV ho hP3.sen.bel.size
    have HLW : Hid (∀ p b, (LW.getD p (.slice none 0 0)).ownBlock = some b → b < w3.heap.size) := fun p b hb => (hP3.sen.wires.blk p b hb).2
    clear ho hb5 hP3 hgb3 r2 r3 hPD HP3 g0 g1 hl3 i0 i1 hl5 f0 f1 hgo
    go_wp2
    go_loopw [36] (fun s wq => ∃ (j : Nat) (Ls : List Value), j ≤ n ∧ s = .int .i64 j ∧ PSt w wq gp gs n t vi (.slice X2 (K - P) (c2 - P)) Ls (sgx (sng G n t ins ds i) (esn G n t ins ds i) n j) vW LW (ewr G n t ins ds i) w3.heap.size w5.heap.size ∧ wq.ownsRow w.heap.size 37 1 v n ((ew G n t ins ds i).map (Value.int .u64)) ∧ LsV wq w3.heap.size (.slice (some ⟨gg, 0, none⟩) n cgt) L (tmG t (ew G n t ins ds pa) (ew G n t ins ds pb) Y n) ∧ Hid (wq.heap[gb]? = some (.cells cur E (0, 0)))) (fun s _ => n - (intOf s).toNat)
    case atStart => exact ⟨0, Ls, Nat.zero_le _, rfl, hP5, ho5, hL, hgb5⟩
    case round =>
      clear hP5 ho5 hL hgb5
      obtain ⟨j, Ls, hj, rfl, hP, ho, hL, HGB⟩ := hrel
      by_cases hjn : j < n
      · obtain ⟨eg1, _, eg3⟩ := hL.cell hgl0 hjn
        obtain ⟨a6, c6, eg4, r6⟩ := hL.one hgl0 hjn (by rw [tmG_getD _ _ _ _ hjn]; exact bd_u64 (tmR_bd _ _ _ _ _ _))
        rw [tmG_getD _ _ _ _ hjn, tmR_len] at eg4 r6
        rw [eg4] at eg1
        have hsb := sng_bound G n t ins ds i j hn9
        have hj0 : (0 : Int) ≤ (j : Int) := by omega
        have hjni : (j : Int) < (n : Int) := by omega
        go_wp2_with fail
        refine (eSee hP hjn (by rw [HEN.out]; exact r6) (by omega) (by omega) (by omega)).mono ?_
        rintro e w8 ⟨rfl, hs⟩
        obtain ⟨⟨Ls', hP'⟩, hkeep⟩ := hP.seen hjn hs
        have ho' := hkeep _ _ _ _ _ _ ho HBt.out
        have hL' := keep_lsv hkeep hL HBu.out HBL.out
        have HGB' : Hid (w8.heap[gb]? = some (.cells cur E (0, 0))) := hP.keepB hjn hs HGB.out hE1 hE2
        clear hP ho hL hs hkeep eg1 eg3 r6
        go_wp2
        go_roundw
        case rel => exact ⟨j + 1, Ls', by omega, by go_num, hP', ho', hL', HGB'⟩
        case measure => simp [intOf]; omega
      · have hjn2 : j = n := by omega
        subst hjn2
        rw [sgl_next] at hP
        go_wp2
        go_ret
        exact ⟨_, rfl, ⟨_, _, Ls, _, _, hP, HV1.out, HV2.out, ho, HBt.out, HLW.out⟩, HGB.out⟩
end
end Go.Proofs.YtljlioglpaogdafDoor
