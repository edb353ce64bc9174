/- The parties' multiply. · The parties' open. · The parties' reckon: a gate of which nothing is seen. · The parties' reckon: a sum. · The parties' reckon: a difference. · The parties' reckon: a product. · The parties' reckon: a multiple. · The parties' reckon: an input. · The parties' reckon: a number. -/
import Derived.Test.YtljlioglpaogdagDoorToEnL
import Derived.Test.YtljlioglpaogdagDoorToTwApC
import Derived.Deep.RegionHeld3
import Derived.Test.YtljlioglpaogdagDoorToOpenC
import Derived.Test.YtljlioglpaogdagDoorToTwJoC
import Derived.Test.YtljlioglpaogdagDoorToGateWC
import Derived.Test.YtljlioglpaogdagDoorToGRightC
import Derived.Deep.RegionLaw
namespace Go.Proofs.YtljlioglpaogdagDoor
set_option linter.unusedVariables false
set_option maxRecDepth 100000
set_option maxHeartbeats 8000000
section
open Crm Go.RowKit
theorem PSt.row {G : List Gt} {ins ds : List Int} {w wr : World} {gp gs n t i p : Nat} {vi vd : Value} {Ls : List Value} {S : List (List Int)} {vW : Value} {LW : List Value} {lo hi c : Nat} {a : Option Addr} (h : PSt w wr gp gs n t vi vd Ls S vW LW (ewr G n t ins ds i) lo hi) (hp : p < i) (e : LW.getD p (.slice none 0 0) = .slice a n c) : Rd wr a n c (ew G n t ins ds p) := by
  obtain ⟨a', c', e', hr⟩ := h.sen.wires.one (ewr_len G n t ins ds i) hp (by rw [ewr_getD G n t ins ds hp]; exact bd_u64 (ew_bd _ _ _ _ _ _))
  rw [ewr_getD G n t ins ds hp, ew_len] at e' hr
  rw [e] at e'
  simp only [Value.slice.injEq, true_and] at e'
  obtain ⟨rfl, rfl⟩ := e'
  exact hr
theorem keep_lsv {wr w' : World} {lo hi B : Nat} {v : Value} {L : List Value} {rows : List (List Int)} (hk : ∀ (B2 z k : Nat) (E : TypeId) (v : Value) (xs : List Value), wr.ownsRow B2 E z v k xs → Btw lo hi v → w'.ownsRow B2 E z v k xs) (h : LsV wr B v L rows) (hv : Btw lo hi v) (hL : ∀ i, Btw lo hi (L.getD i (.slice none 0 0))) : LsV w' B v L rows :=
  ⟨hk _ _ _ _ _ _ h.own hv, h.len, fun i hi => hk _ _ _ _ _ _ (h.row i hi) (hL i), h.inj⟩

theorem blk_off {w : World} {g B z k : Nat} {cur : Array Value} {E E' : TypeId} {v : Value} {xs : List Value} (hb : w.heap[g]? = some (.cells cur E (0, 0))) (ho : w.ownsRow B E' z v k xs) (hE : E ≠ E') : some g ≠ v.ownBlock := by
  rcases ho.2 with ⟨rfl, _⟩ | ⟨g', cap, cur', rfl, _, hg, _⟩
  · simp [Value.ownBlock]
  · intro e
    simp only [Value.ownBlock, Option.some.injEq] at e
    subst e
    rw [hg] at hb
    simp only [Option.some.injEq, Obj.cells.injEq] at hb
    exact hE hb.2.1.symm
/-- A block of another kind stays while what is seen grows. -/
theorem PSt.keepB {w wr w' : World} {gp gs n t j : Nat} {vi vd : Value} {Ls : List Value} {S : List (List Int)} {row xs : List Int} {vW : Value} {LW : List Value} {W : List (List Int)} {lo hi : Nat} (h : PSt w wr gp gs n t vi vd Ls S vW LW W lo hi) (hj : j < n) (hs : Seen w wr gs j (Ls.getD j (.slice none 0 0)) row xs w') {g : Nat} {cur : Array Value} {E : TypeId} (hb : wr.heap[g]? = some (.cells cur E (0, 0))) (hE1 : E ≠ 34) (hE2 : E ≠ 22) : w'.heap[g]? = some (.cells cur E (0, 0)) := by
  obtain ⟨w7, v7, rfl, ho, hg, hat⟩ := hs
  have hl := (Array.getElem?_eq_some_iff.1 hb).1
  have h7 : w7.heap[g]? = some (.cells cur E (0, 0)) := by rw [hg.block g hl (blk_off hb (h.sen.seen.row j (by rw [h.sen.len]; exact hj)) hE1)]; exact hb
  rw [(grown_set w7 gs j v7).block g (Array.getElem?_eq_some_iff.1 h7).1 (blk_off hb h.sen.seen.own hE2)]
  exact h7

theorem eMultiply {G : List Gt} {n t : Nat} {ins ds : List Int} {w wr : World} {gp gs i N q d lo hh pa pb c1 c3 : Nat} {vi vd vW : Value} {Ls LW : List Value} {a1 a3 : Option Addr} (h : PSt w wr gp gs n t vi vd Ls (sgl G n t ins ds i) vW LW (ewr G n t ins ds i) lo hh)
    (hvi : Lft w ins q (ci G i) vi) (hvd : Lft w ds d (dwn G n t i) vd) (hg : (gt G i).k = 5) (ha : (gt G i).a = (pa : Int)) (hpa : pa < i) (hb : (gt G i).b = (pb : Int)) (hpb : pb < i) (ea : LW.getD pa (.slice none 0 0) = .slice a1 n c1) (eb : LW.getD pb (.slice none 0 0) = .slice a3 n c3) (hi : i < N) (hN : N ≤ 30) (hd : d = dwn G n t N) (hn : 2 * t + 1 ≤ n) (hn9 : n ≤ 9) {gb : Nat} {cur : Array Value} {E : TypeId} (hgb : wr.heap[gb]? = some (.cells cur E (0, 0))) (hE1 : E ≠ 34) (hE2 : E ≠ 22) (hE3 : E ≠ 113) :
    Calls Tryd.prog 94 #[.pointer (some ⟨gp, 0, none⟩), .slice a1 n c1, .slice a3 n c3] wr fun e w' => ∃ u, e = .returned u ∧ Pgt G n t ins ds q d w gp gs i vW LW u w' ∧ w'.heap[gb]? = some (.cells cur E (0, 0)) := by
  obtain ⟨a2, c2, rfl, r2⟩ := hvd
  obtain ⟨P, HP⟩ : ∃ P, Hid (n * t = P) := ⟨_, rfl⟩
  have hP36 : P ≤ 36 := by rw [← HP.out]; exact Nat.mul_le_mul hn9 (show t ≤ 4 by omega)
  have hPI : (n : Int) * (t : Int) = (P : Int) := by rw [← HP.out]; push_cast; rfl
  have HD2 : Hid (dwn G n t (i + 1) = dwn G n t i + P) := by unfold Hid; rw [dwn, if_neg (by omega), if_pos hg, HP.out]
  have hD : dwn G n t i + P ≤ d := by
    rw [← HD2.out, hd]
    exact dwn_mono G n t (by omega)
  have HE : Hid (ew G n t ins ds i = tmO t (ew G n t ins ds pa) (ew G n t ins ds pb) (edr G n t ds i (n * t)) n n) := ew_mul hg ha hpa hb hpb
  have HEN : Hid (∀ j, esn G n t ins ds i j = tmR t (ew G n t ins ds pa) (ew G n t ins ds pb) (edr G n t ds i (n * t)) n j) := fun j => by unfold esn; rw [if_neg (by omega), if_pos hg, ha, hb, Int.toNat_natCast, Int.toNat_natCast]
  have HV1 : Hid (Lft w ins q (ci G (i + 1)) vi) := by unfold Hid; rw [ci_no (by omega)]; exact hvi
  obtain ⟨D, HD⟩ : ∃ D, Hid (dwn G n t i = D) := ⟨_, rfl⟩
  rw [HD.out] at hD r2 HD2 h
  have HED : Hid ((ds.drop D).take P = edr G n t ds i (n * t)) := by unfold Hid edr; rw [HD.out, HP.out]
  obtain ⟨Y, HY⟩ : ∃ Y, Hid (edr G n t ds i (n * t) = Y) := ⟨_, rfl⟩
  rw [HY.out] at HE HEN HED
  obtain ⟨K, HK⟩ : ∃ K, Hid (d - D = K) := ⟨_, rfl⟩
  have hK : P ≤ K := by have := HK.out; omega
  rw [HK.out] at r2 h
  have hcap2 := r2.cap
  have r2' := r2.sub (lo := P) (k := K - P) (by omega)
  have r3 := r2.take hK
  rw [HED.out] at r3
  obtain ⟨X2, HX2⟩ : ∃ X2, Hid (subA a2 c2 P = X2) := ⟨_, rfl⟩
  rw [HX2.out] at r2'
  have HV2 : Hid (Lft w ds d (dwn G n t (i + 1)) (.slice X2 (K - P) (c2 - P))) := by
    unfold Hid
    rw [HD2.out]
    refine Lft.nil ?_ (by have := HK.out; omega)
    rw [List.drop_drop, List.take_of_length_le (by have := r2.len; simp at this; simp; omega)] at r2'
    exact r2'
  obtain ⟨f0, f1, _, _, _, _⟩ := h.box.cells
  have hlp := h.box.lt
  have hPD := h.drew
  have HP3 : Hid (∀ w3, w3 = wr.drew.setCell ⟨gp, 3, none⟩ (.slice X2 (K - P) (c2 - P)) → PSt w w3 gp gs n t vi (.slice X2 (K - P) (c2 - P)) Ls (sgx (sng G n t ins ds i) (esn G n t ins ds i) n 0) vW LW (ewr G n t ins ds i) lo hh ∧ w3.heap[gb]? = some (.cells cur E (0, 0))) := fun w3 e => by
    subst e
    rw [← sgl_first]
    refine ⟨hPD.turn (grown_set _ _ _ _) (hPD.box.set3 _), ?_⟩
    rw [(grown_set wr.drew gp 3 _).block gb (Array.getElem?_eq_some_iff.1 hgb).1 (fun e => ?_)]
    · exact hgb
    · obtain rfl := Option.some.inj e
      have hbx : wr.heap[gb]? = _ := hPD.box
      rw [hgb] at hbx
      simp only [Option.some.injEq, Obj.cells.injEq] at hbx
      exact hE3 hbx.2.1
  have hwP : IntKind.i64.wrap (P : Int) = (P : Int) := by rw [IntKind.wrap_i64]; omega
  have HOK : Hid (Gme (t : Int) n n P 0) := .inr ⟨⟨by omega, by omega⟩, .inr ⟨⟨⟨by omega, hn9⟩, rfl⟩, .inr ⟨by omega, .inr ⟨by rw [hPI], rfl⟩⟩⟩⟩
  clear hvi r2' h hgb
  go_enter Tryd.func94, Tryd.ntmps94
  go_upto_region 1 with fail
  go_region_held3 (fun w' => w'.cell? ⟨gp, 0, none⟩ = some (.int .i64 (n : Int)) ∧ w'.cell? ⟨gp, 1, none⟩ = some (.int .i64 (t : Int))) (go_keep) (first | (go_at_call 108; refine (eDraw gp n t _ _ _ a2 K c2 P _ hPD.box r2.nil hK hcap2).mono ?_; rintro en w3 ⟨rfl, hw3⟩; rw [HX2.out] at hw3; obtain ⟨hP3, hgb3⟩ := HP3.out w3 hw3; clear hw3; obtain ⟨g0, g1, _, _, _, _⟩ := hP3.box.cells; have hl3 := hP3.box.lt) | (go_at_call 15; refine (cGMul (t : Int) a1 n c1 _ a3 n c3 _ a2 P c2 _ _ (hP3.row hpa ea) (hP3.row hpb eb) (r3.below hP3.sen.bel)).mono ?_; rintro en w5 ⟨⟨r, hr, hE, _⟩ | ⟨_, v, u, L, rfl, ho, hL⟩, hb5⟩; exact absurd (hE.one HOK.out) hr; have hP5 := hP3.fresh (by omega) hb5; have hgb5 := (hb5.block gb (Array.getElem?_eq_some_iff.1 hgb3).1).trans hgb3; obtain ⟨i0, i1, _, _, _, _⟩ := hP5.box.cells; have hl5 := hP5.box.lt))
  all_goals
    rw [Int.toNat_natCast] at ho hL
    have hgl0 : (tmG t (ew G n t ins ds pa) (ew G n t ins ds pb) Y n).length = n := tmG_len _ _ _ _ _
    have hgo := hL.own
    rw [hgl0] at hgo
    obtain ⟨gg, cgt, rfl, _, _, hcv, hcv2⟩ := own_atZ hgo (by omega)
    unfold maxLen at hcv2
    rw [← HE.out] at ho
    have HBt : Hid (Btw w3.heap.size w5.heap.size v) := fun b hb => ho.lt b hb
    have HBu : Hid (Btw w3.heap.size w5.heap.size (.slice (some ⟨gg, 0, none⟩) n cgt)) := fun b hb => hL.own.lt b hb
    have HBL : Hid (∀ p, Btw w3.heap.size w5.heap.size (L.getD p (.slice none 0 0))) := fun p b hb => hL.blk p b hb
    have ho5 := own_baseV ho hP3.sen.bel.size
    have HLW : Hid (∀ p b, (LW.getD p (.slice none 0 0)).ownBlock = some b → b < w3.heap.size) := fun p b hb => (hP3.sen.wires.blk p b hb).2
    clear ho hb5 hP3 hgb3 r2 r3 hPD HP3 g0 g1 hl3 i0 i1 hl5 f0 f1 hgo
    go_wp2
    go_loopw [36] (fun s wq => ∃ (j : Nat) (Ls : List Value), j ≤ n ∧ s = .int .i64 j ∧ PSt w wq gp gs n t vi (.slice X2 (K - P) (c2 - P)) Ls (sgx (sng G n t ins ds i) (esn G n t ins ds i) n j) vW LW (ewr G n t ins ds i) w3.heap.size w5.heap.size ∧ wq.ownsRow w.heap.size 34 1 v n ((ew G n t ins ds i).map (Value.int .u64)) ∧ LsV wq w3.heap.size (.slice (some ⟨gg, 0, none⟩) n cgt) L (tmG t (ew G n t ins ds pa) (ew G n t ins ds pb) Y n) ∧ Hid (wq.heap[gb]? = some (.cells cur E (0, 0)))) (fun s _ => n - (intOf s).toNat)
    case atStart => exact ⟨0, Ls, Nat.zero_le _, rfl, hP5, ho5, hL, hgb5⟩
    case round =>
      clear hP5 ho5 hL hgb5
      obtain ⟨j, Ls, hj, rfl, hP, ho, hL, HGB⟩ := hrel
      by_cases hjn : j < n
      · obtain ⟨eg1, _, eg3⟩ := hL.cell hgl0 hjn
        obtain ⟨a6, c6, eg4, r6⟩ := hL.one hgl0 hjn (by rw [tmG_getD _ _ _ _ hjn]; exact bd_u64 (tmR_bd _ _ _ _ _ _))
        rw [tmG_getD _ _ _ _ hjn, tmR_len] at eg4 r6
        rw [eg4] at eg1
        have hsb := sng_bound G n t ins ds i j hn9
        have hj0 : (0 : Int) ≤ (j : Int) := by omega
        have hjni : (j : Int) < (n : Int) := by omega
        go_wp2_with fail
        refine (eSee hP hjn (by rw [HEN.out]; exact r6) (by omega) (by omega) (by omega)).mono ?_
        rintro e w8 ⟨rfl, hs⟩
        obtain ⟨⟨Ls', hP'⟩, hkeep⟩ := hP.seen hjn hs
        have ho' := hkeep _ _ _ _ _ _ ho HBt.out
        have hL' := keep_lsv hkeep hL HBu.out HBL.out
        have HGB' : Hid (w8.heap[gb]? = some (.cells cur E (0, 0))) := hP.keepB hjn hs HGB.out hE1 hE2
        clear hP ho hL hs hkeep eg1 eg3 r6
        go_wp2
        go_roundw
        case rel => exact ⟨j + 1, Ls', by omega, by go_num, hP', ho', hL', HGB'⟩
        case measure => simp [intOf]; omega
      · have hjn2 : j = n := by omega
        subst hjn2
        rw [sgl_next] at hP
        go_wp2
        go_ret
        exact ⟨_, rfl, ⟨_, _, Ls, _, _, hP, HV1.out, HV2.out, ho, HBt.out, HLW.out⟩, HGB.out⟩
/-- A list of other elements has turned. -/
theorem PSt.other {w wr w' : World} {gp gs n t : Nat} {vi vd : Value} {Ls : List Value} {S : List (List Int)} {vW : Value} {LW : List Value} {W : List (List Int)} {lo hi B z k : Nat} {E : TypeId} {v : Value} {xs : List Value} (h : PSt w wr gp gs n t vi vd Ls S vW LW W lo hi) (ho : wr.ownsRow B E z v k xs) (hE1 : E ≠ 34) (hE2 : E ≠ 22) (hE3 : E ≠ 113) (hB : w.heap.size ≤ B) (hg : wr.grownBy w' v.ownBlock) : PSt w w' gp gs n t vi vd Ls S vW LW W lo hi := by
  have hs := h.sen
  exact ⟨⟨hs.seen.grown hg (own_apart ho hs.seen.own hE2) (fun i hi => own_apart ho (hs.seen.row i hi) hE1), hs.len, hs.wires.grown hg (own_apart ho hs.wires.own hE2) (fun i hi => own_apart ho (hs.wires.row i hi) hE1), hs.apt, hs.out, hs.far, hs.gl, Nat.le_trans hs.hi hg.size, hs.bel.grown hg hs.bel.size (fun q hq => Nat.le_trans hB (ho.lt q hq).1)⟩, h.box.grown hg (h.box.off' ho hE3), h.low⟩
theorem own_belowE {w w' : World} {base n z : Nat} {E : TypeId} {v : Value} {xs : List Value} (h : w.ownsRow base E z v n xs) (hb : Below w.heap.size w w') : w'.ownsRow base E z v n xs :=
  h.kept (grown_below hb none) (by cases hv : v.ownBlock with
    | none => exact .inl rfl
    | some b => exact .inr (by simp))
theorem eSU : (68 : TypeId) ≠ 34 := by decide
theorem eSV : (68 : TypeId) ≠ 22 := by decide
theorem eSP : (68 : TypeId) ≠ 113 := by decide
/-- Rows that lie in a span stay. -/
def Kept (lo hi : Nat) (w w' : World) : Prop := ∀ (B2 z k : Nat) (E : TypeId) (v : Value) (xs : List Value), w.ownsRow B2 E z v k xs → Btw lo hi v → w'.ownsRow B2 E z v k xs
theorem Kept.trans {lo hi : Nat} {a b c : World} (h : Kept lo hi a b) (k : Kept lo hi b c) : Kept lo hi a c := fun B2 z q E v xs hx hv => k B2 z q E v xs (h B2 z q E v xs hx hv) hv
theorem kept_below {lo hi : Nat} {w w' : World} (hb : Below w.heap.size w w') : Kept lo hi w w' := fun _ _ _ _ _ _ hx _ => own_belowE hx hb
theorem kept_off {lo hi g : Nat} {w w' : World} (hg : w.grownBy w' (some g)) (h : hi ≤ g) : Kept lo hi w w' := fun _ _ _ _ v _ hx hv => hx.kept hg (by
  cases hb : v.ownBlock with
  | none => exact .inl rfl
  | some b =>
    right
    intro e
    have := hv b hb
    have := Option.some.inj e
    omega)

theorem eOpen {G : List Gt} {n t : Nat} {ins ds : List Int} {w W0 : World} {gp gs N po lo hh c : Nat} {vi vd vW : Value} {Ls LW : List Value} {a : Option Addr} {S : Nat → List Int} (h : PSt w W0 gp gs n t vi vd Ls (sgx S (fun _ => ew G n t ins ds po) n 0) vW LW (ewr G n t ins ds N) lo hh)
    (hpo : po < N) (ea : LW.getD po (.slice none 0 0) = .slice a n c) (hG : okG G N) (hS : ∀ j, (S j).length ≤ 5000) (hn : 2 * t + 1 ≤ n) (hn9 : n ≤ 9) :
    Calls Tryd.prog 66 #[.pointer (some ⟨gp, 0, none⟩), .slice a n c] W0 fun e w' => e = .returned (.int .u64 (wi G ins po)) ∧ (∃ Ls', PSt w w' gp gs n t vi vd Ls' (sgx S (fun _ => ew G n t ins ds po) n n) vW LW (ewr G n t ins ds N) lo hh) ∧ Kept lo hh W0 w' := by
  obtain ⟨i0, hi0, hz0, hz1, hz2⟩ := info_parts infoSh
  obtain ⟨P, hPl, hPe, hPv⟩ := ew_poly (ins := ins) (ds := ds) hG hn hn9 po hpo
  have HPl : Hid (P.length ≤ t + 1) := hPl
  have HPe : Hid (ew G n t ins ds po = dl P n) := hPe
  have HPv : Hid (nm (ev P 0) = wi G ins po) := hPv
  have HS : Hid (∀ j, (S j).length ≤ 5000) := hS
  have r0 := h.row hpo ea
  have hcap := r0.cap
  have hmax := r0.max
  unfold maxLen at hmax
  have hhi := h.sen.hi
  have hww := h.sen.bel.size
  obtain ⟨F, HF⟩ : ∃ F : Nat → Int × Int, Hid ((fun r : Nat => ((r : Int) + 1, (ew G n t ins ds po).getD r 0)) = F) := ⟨_, rfl⟩
  clear hPl hPe hPv hS hG r0
  go_enter Tryd.func66, Tryd.ntmps66
  go_wp2_with (at_make; refine wpList_make_full _ rfl _ _ 66 rfl W0.heap.size 68 i0 (.agg #[.int .i64 0, .int .u64 0]) 2 Tryd.underlying66 hi0 hz0 hz1 .i64 .i64 _ _ n rfl rfl (by omega) (by omega) (by rw [hz2]; omega) (by unfold maxLen; omega) (Nat.le_refl _) ?_; intro w1 hown hgrow; rw [made2_shc, fils_zero F] at hown; have hb1 : Below W0.heap.size W0 w1 := (Below.refl _ _).grown hgrow (Nat.le_refl _) (by simp); clear hgrow)
  have hP1 := h.below hb1
  have hP2 := h.fresh (by omega) hb1
  have HK1 : Hid (Kept lo hh W0 w1) := kept_below hb1
  have HBs : Hid (Btw W0.heap.size w1.heap.size (.slice (some ⟨W0.heap.size, 0, none⟩) n n)) := fun b hb => hown.lt b hb
  obtain ⟨H1, HH1⟩ : ∃ H1, Hid (w1.heap.size = H1) := ⟨_, rfl⟩
  rw [HH1.out] at hP2 HBs
  clear hb1 h
  go_loopw [15] (fun s wq => ∃ (k : Nat) (Ls : List Value), k ≤ n ∧ s = .int .i64 k ∧ PSt w wq gp gs n t vi vd Ls (sgx S (fun _ => ew G n t ins ds po) n k) vW LW (ewr G n t ins ds N) lo hh ∧ PSt w wq gp gs n t vi vd Ls (sgx S (fun _ => ew G n t ins ds po) n k) vW LW (ewr G n t ins ds N) W0.heap.size H1 ∧ wq.ownsRow W0.heap.size 68 2 (.slice (some ⟨W0.heap.size, 0, none⟩) n n) n (shc (fils F n k)) ∧ Hid (Kept lo hh W0 wq)) (fun s _ => n - (intOf s).toNat)
  case atStart => exact ⟨0, Ls, Nat.zero_le _, rfl, hP1, hP2, hown, HK1⟩
  case round =>
    clear hP1 hP2 hown HK1
    obtain ⟨k, Ls, hk, rfl, hP, hP2, hown, HK⟩ := hrel
    by_cases hkn : k < n
    · have r6 := hP.row hpo ea
      obtain ⟨b6, o6, y, rfl, hb6, HY, hy0, hy1, hcy⟩ := r6.one hkn
      have hFk : ((k : Int) + 1, y) = F k := by rw [← HF.out]; show _ = ((k : Int) + 1, _); rw [HY.out]
      obtain ⟨d0, d1⟩ := sh_cell hown (fils_len F n k) hkn
      have ef0 := own_frozen2 hown (k * 2)
      have ef1 := own_frozen2 hown (k * 2 + 1)
      have hgl := (own_at2 hown (by omega)).choose_spec
      have hgW : W0.heap.size < wr.heap.size := (hown.lt _ rfl).2
      have hown8 := own_set2 (own_set2 hown (k * 2) (.int .i64 ((k : Int) + 1))) (k * 2 + 1) (.int .u64 y)
      rw [shc_set2, fils_set ((k : Int) + 1, y) hFk] at hown8
      have hgB : wr.grownBy ((wr.setCell ⟨W0.heap.size, k * 2, none⟩ (.int .i64 ((k : Int) + 1))).setCell ⟨W0.heap.size, k * 2 + 1, none⟩ (.int .u64 y)) (some W0.heap.size) := grown_trans (grown_set _ _ _ _) (grown_set _ _ _ _)
      have hPB := hP.other hown eSU eSV eSP hww hgB
      have hPB2 := hP2.other hown eSU eSV eSP hww hgB
      have HKB : Hid (Kept lo hh W0 ((wr.setCell ⟨W0.heap.size, k * 2, none⟩ (.int .i64 ((k : Int) + 1))).setCell ⟨W0.heap.size, k * 2 + 1, none⟩ (.int .u64 y))) := HK.out.trans (kept_off hgB hhi)
      clear hP hP2 hown hgB hgl HK
      go_upto_region 6 with fail
      generalize (wr.setCell ⟨W0.heap.size, k * 2, none⟩ (.int .i64 ((k : Int) + 1))).setCell ⟨W0.heap.size, k * 2 + 1, none⟩ (.int .u64 y) = wB at *
      clear d0 d1 ef0 ef1 hcy hb6 r6
      go_wp2_with fail
      refine (eSee hPB hkn (hPB.row hpo ea) (by omega) (by omega) (HS.out k)).mono ?_
      rintro e w8 ⟨rfl, hs⟩
      obtain ⟨⟨Ls', hP', hP2'⟩, hkeep, hkeep2⟩ := hPB.seen2 hPB2 hkn hs
      have ho' := hkeep2 _ _ _ _ _ _ hown8 HBs.out
      have HK' : Hid (Kept lo hh W0 w8) := HKB.out.trans hkeep
      clear hPB hPB2 hown8 HKB hs hkeep hkeep2
      go_wp2
      go_roundw
      case rel => exact ⟨k + 1, Ls', by omega, by go_num, hP', hP2', ho', HK'⟩
      case measure => simp [intOf]; omega
    · have hkn2 : k = n := by omega
      subst hkn2
      rw [fils_full, ← HF.out] at hown
      have hown2 : wr.ownsRow W0.heap.size 68 2 (.slice (some ⟨W0.heap.size, 0, none⟩) k k) k (shc (shl (ew G k t ins ds po) k)) := hown
      obtain ⟨a7, c7, e7, hR⟩ := RdS.own hown2 (shl_len _ _) (fun i hi => by
        rw [shl_getD _ hi]
        have := getD_bd (bd_u64 (ew_bd G k t ins ds po)) i
        exact ⟨⟨by simp only; omega, by simp only; omega⟩, this⟩)
      simp only [Value.slice.injEq, true_and] at e7
      obtain ⟨rfl, rfl⟩ := e7
      obtain ⟨_, f1, _, _, _, _⟩ := hP.box.cells
      have hlp := hP.box.lt
      clear hown hown2 hP2
      go_wp2_with fail
      refine (cOpenS _ _ _ _ _ _ hR).mono ?_
      rintro e w9 ⟨x, r, rfl, hO, hb9⟩
      obtain ⟨rfl, rfl⟩ := shl_open hn9 (show t ≤ 4 by omega) (by omega) HPl.out (fun i hi => by rw [HPe.out, dl_getD P hi]; rfl) hO
      rw [HPv.out]
      have hP9 := hP.below hb9
      have HK9 : Hid (Kept lo hh W0 w9) := HK.out.trans (kept_below hb9)
      clear hP hO hb9 hR f1 hlp
      go_wp2
      go_ret
      exact ⟨rfl, ⟨Ls, hP9⟩, HK9.out⟩
/-- A gate of which nothing is seen. -/
theorem PSt.quiet {G : List Gt} {n t : Nat} {ins ds : List Int} {w wr w' : World} {gp gs i q d lo hi : Nat} {vi vd vW u : Value} {Ls LW : List Value} (h : PSt w wr gp gs n t vi vd Ls (sgl G n t ins ds i) vW LW (ewr G n t ins ds i) lo hi) (hvi : Lft w ins q (ci G i) vi) (hvd : Lft w ds d (dwn G n t i) vd) (hn : 0 < n) (hb : Below wr.heap.size wr w') (h1 : (gt G i).k ≠ 1) (h5 : (gt G i).k ≠ 5)
    (ho : w'.ownsRow wr.heap.size 34 1 u n ((ew G n t ins ds i).map (Value.int .u64))) : Pgt G n t ins ds q d w gp gs i vW LW u w' := by
  have hS := h.fresh hn hb
  rw [← sgl_same h1 h5] at hS
  refine ⟨vi, vd, Ls, _, _, hS, by rw [ci_no h1]; exact hvi, ?_, own_baseV ho h.sen.bel.size, fun b hb => ho.lt b hb, fun p b hb => (h.sen.wires.blk p b hb).2⟩
  rw [dwn, if_neg h1, if_neg h5, Nat.add_zero]
  exact hvd
/-- A wire, where it lies. -/
theorem PSt.wire {G : List Gt} {n t : Nat} {ins ds : List Int} {w wr : World} {gp gs i lo hi p cW : Nat} {vi vd : Value} {aW : Option Addr} {Ls : List Value} {S : List (List Int)} {LW : List Value} (h : PSt w wr gp gs n t vi vd Ls S (.slice aW i cW) LW (ewr G n t ins ds i) lo hi) (hp : p < i) :
    ∃ gW a c, aW = some ⟨gW, 0, none⟩ ∧ gW < wr.heap.size ∧ wr.cell? ⟨gW, p, none⟩ = some (.slice a n c) ∧ LW.getD p (.slice none 0 0) = .slice a n c ∧ Rd wr a n c (ew G n t ins ds p) := by
  have ho := h.sen.wires.own
  rw [ewr_len] at ho
  obtain ⟨gW, u, rfl, _, _, _, _⟩ := own_at ho hp
  obtain ⟨e1, _, e3⟩ := h.sen.wires.cell (ewr_len G n t ins ds i) hp
  obtain ⟨a, c, e4, hr⟩ := h.sen.wires.one (ewr_len G n t ins ds i) hp (by rw [ewr_getD G n t ins ds hp]; exact bd_u64 (ew_bd _ _ _ _ _ _))
  rw [ewr_getD G n t ins ds hp, ew_len] at e4 hr
  exact ⟨gW, a, c, rfl, e3, by rw [e1, e4], e4, hr⟩
theorem eRkAdd {G : List Gt} {n t : Nat} {ins ds : List Int} {w wr : World} {gp gs i q d lo hh cW pa pb : Nat} {vi vd : Value} {aW : Option Addr} {Ls LW : List Value} {z : Int} (h : PSt w wr gp gs n t vi vd Ls (sgl G n t ins ds i) (.slice aW i cW) LW (ewr G n t ins ds i) lo hh)
    (hvi : Lft w ins q (ci G i) vi) (hvd : Lft w ds d (dwn G n t i) vd) (HGi : Hid (gt G i = ⟨3, pa, pb, z⟩)) (hpa : pa < i) (hpb : pb < i) (hn : 2 * t + 1 ≤ n) (hn9 : n ≤ 9) :
    Calls Tryd.prog 65 #[.pointer (some ⟨gp, 0, none⟩), .agg #[.int .i64 3, .int .i64 (pa : Int), .int .i64 (pb : Int), .int .u64 z]] wr fun e w' => ∃ u, e = .returned u ∧ Pgt G n t ins ds q d w gp gs i (.slice aW i cW) LW u w' := by
  have hbA : Below wr.heap.size wr (wr.alloc (.cells #[.int .i64 3, .int .i64 (pa : Int), .int .i64 (pb : Int), .int .u64 z] 61)) := (Below.refl _ _).alloc (Nat.le_refl _) _
  obtain ⟨q1, q2, q3, q4⟩ := gate_box wr 3 pa pb z 61
  have hltA : wr.heap.size < (wr.alloc (.cells #[.int .i64 3, .int .i64 (pa : Int), .int .i64 (pb : Int), .int .u64 z] 61)).heap.size := by simp
  have hPA := h.below hbA
  obtain ⟨gW, a1, c1, rfl, hgW, e1, _, r1⟩ := hPA.wire hpa
  obtain ⟨gW', a2, c2, e', _, e2, _, r2⟩ := hPA.wire hpb
  simp only [Option.some.injEq, Addr.mk.injEq, and_true] at e'
  subst e'
  obtain ⟨_, _, _, _, f4, _⟩ := hPA.box.cells
  have hlp := hPA.box.lt
  have HE : Hid (ew G n t ins ds i = mxl (ew G n t ins ds pa) (ew G n t ins ds pb) 1 1 0 n) := ew_add (by rw [HGi.out]) (by rw [HGi.out]) hpa (by rw [HGi.out]) hpb
  have HW2 : Hid (Wr2 n n) := ⟨⟨by omega, hn9⟩, rfl⟩
  have hpa0 : (0 : Int) ≤ (pa : Int) := by omega
  have hpai : (pa : Int) < (i : Int) := by omega
  have hpb0 : (0 : Int) ≤ (pb : Int) := by omega
  have hpbi : (pb : Int) < (i : Int) := by omega
  go_enter Tryd.func65, Tryd.ntmps65
  go_upto_region 7 with fail
  generalize wr.alloc (.cells #[.int .i64 3, .int .i64 (pa : Int), .int .i64 (pb : Int), .int .u64 z] 61) = W at *
  have HF : Hid (∀ u w', w'.ownsRow W.drew.heap.size 34 1 u n ((mxl (ew G n t ins ds pa) (ew G n t ins ds pb) 1 1 0 n).map (Value.int .u64)) → Below W.drew.heap.size W.drew w' → Pgt G n t ins ds q d w gp gs i (.slice (some ⟨gW, 0, none⟩) i cW) LW u w') := fun u w' ho hb => by
    rw [← HE.out] at ho
    exact hPA.drew.quiet hvi hvd (by omega) hb (by rw [HGi.out]; simp) (by rw [HGi.out]; simp) ho
  clear h hPA
  have HALL : Hid (∀ w', Below W.drew.heap.size W.drew w' → w'.cell? ⟨gp, 4, none⟩ = some (.slice (some ⟨gW, 0, none⟩) i cW) ∧ w'.cell? ⟨wr.heap.size, 1, none⟩ = some (.int .i64 (pa : Int)) ∧ w'.cell? ⟨wr.heap.size, 2, none⟩ = some (.int .i64 (pb : Int)) ∧ w'.cell? ⟨gW, pa, none⟩ = some (.slice a1 n c1) ∧ w'.cell? ⟨gW, pb, none⟩ = some (.slice a2 n c2) ∧ gp < w'.heap.size ∧ wr.heap.size < w'.heap.size ∧ gW < w'.heap.size) := fun w' hb => ⟨by rw [hb.cell hlp]; exact f4, by rw [hb.cell hltA]; exact q2, by rw [hb.cell hltA]; exact q3, by rw [hb.cell hgW]; exact e1, by rw [hb.cell hgW]; exact e2, Nat.lt_of_lt_of_le hlp hb.size, Nat.lt_of_lt_of_le hltA hb.size, Nat.lt_of_lt_of_le hgW hb.size⟩
  go_region_held3 (fun w' => w'.cell? ⟨gp, 4, none⟩ = some (.slice (some ⟨gW, 0, none⟩) i cW) ∧ w'.cell? ⟨wr.heap.size, 1, none⟩ = some (.int .i64 (pa : Int)) ∧ w'.cell? ⟨wr.heap.size, 2, none⟩ = some (.int .i64 (pb : Int)) ∧ w'.cell? ⟨gW, pa, none⟩ = some (.slice a1 n c1) ∧ w'.cell? ⟨gW, pb, none⟩ = some (.slice a2 n c2)) (go_keep) (first | (go_at_call 17; refine (cGAdd a1 n c1 _ a2 n c2 _ _ r1.drew r2.drew).mono ?_; rintro en w3 ⟨⟨hno, _⟩ | ⟨_, u, rfl, ho⟩, hb3⟩; exact absurd HW2.out hno; have HP := HF.out u w3 ho hb3; obtain ⟨j4, j1, j2, j5, j6, j7, j8, j9⟩ := HALL.out w3 hb3; clear ho hb3))
  all_goals
    go_wp2
    go_ret
    exact ⟨u, rfl, HP⟩
theorem eRkSub {G : List Gt} {n t : Nat} {ins ds : List Int} {w wr : World} {gp gs i q d lo hh cW pa pb : Nat} {vi vd : Value} {aW : Option Addr} {Ls LW : List Value} {z : Int} (h : PSt w wr gp gs n t vi vd Ls (sgl G n t ins ds i) (.slice aW i cW) LW (ewr G n t ins ds i) lo hh)
    (hvi : Lft w ins q (ci G i) vi) (hvd : Lft w ds d (dwn G n t i) vd) (HGi : Hid (gt G i = ⟨4, pa, pb, z⟩)) (hpa : pa < i) (hpb : pb < i) (hn : 2 * t + 1 ≤ n) (hn9 : n ≤ 9) :
    Calls Tryd.prog 65 #[.pointer (some ⟨gp, 0, none⟩), .agg #[.int .i64 4, .int .i64 (pa : Int), .int .i64 (pb : Int), .int .u64 z]] wr fun e w' => ∃ u, e = .returned u ∧ Pgt G n t ins ds q d w gp gs i (.slice aW i cW) LW u w' := by
  have hbA : Below wr.heap.size wr (wr.alloc (.cells #[.int .i64 4, .int .i64 (pa : Int), .int .i64 (pb : Int), .int .u64 z] 61)) := (Below.refl _ _).alloc (Nat.le_refl _) _
  obtain ⟨q1, q2, q3, q4⟩ := gate_box wr 4 pa pb z 61
  have hltA : wr.heap.size < (wr.alloc (.cells #[.int .i64 4, .int .i64 (pa : Int), .int .i64 (pb : Int), .int .u64 z] 61)).heap.size := by simp
  have hPA := h.below hbA
  obtain ⟨gW, a1, c1, rfl, hgW, e1, _, r1⟩ := hPA.wire hpa
  obtain ⟨gW', a2, c2, e', _, e2, _, r2⟩ := hPA.wire hpb
  simp only [Option.some.injEq, Addr.mk.injEq, and_true] at e'
  subst e'
  obtain ⟨_, _, _, _, f4, _⟩ := hPA.box.cells
  have hlp := hPA.box.lt
  have HE : Hid (ew G n t ins ds i = mxl (ew G n t ins ds pa) (ew G n t ins ds pb) 1 2147483646 0 n) := ew_sub (by rw [HGi.out]) (by rw [HGi.out]) hpa (by rw [HGi.out]) hpb
  have HW2 : Hid (Wr2 n n) := ⟨⟨by omega, hn9⟩, rfl⟩
  have hpa0 : (0 : Int) ≤ (pa : Int) := by omega
  have hpai : (pa : Int) < (i : Int) := by omega
  have hpb0 : (0 : Int) ≤ (pb : Int) := by omega
  have hpbi : (pb : Int) < (i : Int) := by omega
  go_enter Tryd.func65, Tryd.ntmps65
  go_upto_region 9 with fail
  generalize wr.alloc (.cells #[.int .i64 4, .int .i64 (pa : Int), .int .i64 (pb : Int), .int .u64 z] 61) = W at *
  have HF : Hid (∀ u w', w'.ownsRow W.drew.heap.size 34 1 u n ((mxl (ew G n t ins ds pa) (ew G n t ins ds pb) 1 2147483646 0 n).map (Value.int .u64)) → Below W.drew.heap.size W.drew w' → Pgt G n t ins ds q d w gp gs i (.slice (some ⟨gW, 0, none⟩) i cW) LW u w') := fun u w' ho hb => by
    rw [← HE.out] at ho
    exact hPA.drew.quiet hvi hvd (by omega) hb (by rw [HGi.out]; simp) (by rw [HGi.out]; simp) ho
  clear h hPA
  have HALL : Hid (∀ w', Below W.drew.heap.size W.drew w' → w'.cell? ⟨gp, 4, none⟩ = some (.slice (some ⟨gW, 0, none⟩) i cW) ∧ w'.cell? ⟨wr.heap.size, 1, none⟩ = some (.int .i64 (pa : Int)) ∧ w'.cell? ⟨wr.heap.size, 2, none⟩ = some (.int .i64 (pb : Int)) ∧ w'.cell? ⟨gW, pa, none⟩ = some (.slice a1 n c1) ∧ w'.cell? ⟨gW, pb, none⟩ = some (.slice a2 n c2) ∧ gp < w'.heap.size ∧ wr.heap.size < w'.heap.size ∧ gW < w'.heap.size) := fun w' hb => ⟨by rw [hb.cell hlp]; exact f4, by rw [hb.cell hltA]; exact q2, by rw [hb.cell hltA]; exact q3, by rw [hb.cell hgW]; exact e1, by rw [hb.cell hgW]; exact e2, Nat.lt_of_lt_of_le hlp hb.size, Nat.lt_of_lt_of_le hltA hb.size, Nat.lt_of_lt_of_le hgW hb.size⟩
  go_region_held3 (fun w' => w'.cell? ⟨gp, 4, none⟩ = some (.slice (some ⟨gW, 0, none⟩) i cW) ∧ w'.cell? ⟨wr.heap.size, 1, none⟩ = some (.int .i64 (pa : Int)) ∧ w'.cell? ⟨wr.heap.size, 2, none⟩ = some (.int .i64 (pb : Int)) ∧ w'.cell? ⟨gW, pa, none⟩ = some (.slice a1 n c1) ∧ w'.cell? ⟨gW, pb, none⟩ = some (.slice a2 n c2)) (go_keep) (first | (go_at_call 93; refine (cGSub a1 n c1 _ a2 n c2 _ _ r1.drew r2.drew).mono ?_; rintro en w3 ⟨⟨hno, _⟩ | ⟨_, u, rfl, ho⟩, hb3⟩; exact absurd HW2.out hno; have HP := HF.out u w3 ho hb3; obtain ⟨j4, j1, j2, j5, j6, j7, j8, j9⟩ := HALL.out w3 hb3; clear ho hb3))
  all_goals
    go_wp2
    go_ret
    exact ⟨u, rfl, HP⟩
theorem eRkMul {G : List Gt} {n t : Nat} {ins ds : List Int} {w wr : World} {gp gs i N q d lo hh cW pa pb : Nat} {vi vd : Value} {aW : Option Addr} {Ls LW : List Value} {z : Int} (h : PSt w wr gp gs n t vi vd Ls (sgl G n t ins ds i) (.slice aW i cW) LW (ewr G n t ins ds i) lo hh)
    (hvi : Lft w ins q (ci G i) vi) (hvd : Lft w ds d (dwn G n t i) vd) (HGi : Hid (gt G i = ⟨5, pa, pb, z⟩)) (hpa : pa < i) (hpb : pb < i) (hi : i < N) (hN : N ≤ 30) (hd : d = dwn G n t N) (hn : 2 * t + 1 ≤ n) (hn9 : n ≤ 9) :
    Calls Tryd.prog 65 #[.pointer (some ⟨gp, 0, none⟩), .agg #[.int .i64 5, .int .i64 (pa : Int), .int .i64 (pb : Int), .int .u64 z]] wr fun e w' => ∃ u, e = .returned u ∧ Pgt G n t ins ds q d w gp gs i (.slice aW i cW) LW u w' := by
  have hbA : Below wr.heap.size wr (wr.alloc (.cells #[.int .i64 5, .int .i64 (pa : Int), .int .i64 (pb : Int), .int .u64 z] 61)) := (Below.refl _ _).alloc (Nat.le_refl _) _
  obtain ⟨q1, q2, q3, q4⟩ := gate_box wr 5 pa pb z 61
  have hltA : wr.heap.size < (wr.alloc (.cells #[.int .i64 5, .int .i64 (pa : Int), .int .i64 (pb : Int), .int .u64 z] 61)).heap.size := by simp
  have hPA := h.below hbA
  obtain ⟨gW, a1, c1, rfl, hgW, e1, l1, r1⟩ := hPA.wire hpa
  obtain ⟨gW', a2, c2, e', _, e2, l2, r2⟩ := hPA.wire hpb
  simp only [Option.some.injEq, Addr.mk.injEq, and_true] at e'
  subst e'
  have hgx : (wr.alloc (.cells #[.int .i64 5, .int .i64 (pa : Int), .int .i64 (pb : Int), .int .u64 z] 61)).heap[wr.heap.size]? = some (.cells #[.int .i64 5, .int .i64 (pa : Int), .int .i64 (pb : Int), .int .u64 z] 61 (0, 0)) := heap_alloc_new wr _
  obtain ⟨_, _, _, _, f4, _⟩ := hPA.box.cells
  have hlp := hPA.box.lt
  have hpa0 : (0 : Int) ≤ (pa : Int) := by omega
  have hpai : (pa : Int) < (i : Int) := by omega
  have hpb0 : (0 : Int) ≤ (pb : Int) := by omega
  have hpbi : (pb : Int) < (i : Int) := by omega
  go_enter Tryd.func65, Tryd.ntmps65
  go_upto_region 11 with fail
  generalize wr.alloc (.cells #[.int .i64 5, .int .i64 (pa : Int), .int .i64 (pb : Int), .int .u64 z] 61) = W at *
  have hPAD := hPA.drew
  have HALL : Hid (∀ u w', Pgt G n t ins ds q d w gp gs i (.slice (some ⟨gW, 0, none⟩) i cW) LW u w' → w'.heap[wr.heap.size]? = some (.cells #[.int .i64 5, .int .i64 (pa : Int), .int .i64 (pb : Int), .int .u64 z] 61 (0, 0)) → w'.cell? ⟨gp, 4, none⟩ = some (.slice (some ⟨gW, 0, none⟩) i cW) ∧ w'.cell? ⟨wr.heap.size, 1, none⟩ = some (.int .i64 (pa : Int)) ∧ w'.cell? ⟨wr.heap.size, 2, none⟩ = some (.int .i64 (pb : Int)) ∧ w'.cell? ⟨gW, pa, none⟩ = some (.slice a1 n c1) ∧ w'.cell? ⟨gW, pb, none⟩ = some (.slice a2 n c2)) := fun u w' hp hx => by
    obtain ⟨vi', vd', Ls', lo', hi', hP', _⟩ := hp
    obtain ⟨g1, b1, d1, ee1, _, k1, m1, _⟩ := hP'.wire hpa
    obtain ⟨g2, b2, d2, ee2, _, k2, m2, _⟩ := hP'.wire hpb
    simp only [Option.some.injEq, Addr.mk.injEq, and_true] at ee1 ee2
    subst ee1 ee2
    rw [l1] at m1
    rw [l2] at m2
    refine ⟨hP'.box.cells.2.2.2.2.1, ?_, ?_, by rw [k1, m1], by rw [k2, m2]⟩
    · rw [cell_of_row w' _ 1 _ _ (0, 0) hx]; rfl
    · rw [cell_of_row w' _ 2 _ _ (0, 0) hx]; rfl
  clear h hPA r1 r2
  go_region_held3 (fun w' => w'.cell? ⟨gp, 4, none⟩ = some (.slice (some ⟨gW, 0, none⟩) i cW) ∧ w'.cell? ⟨wr.heap.size, 1, none⟩ = some (.int .i64 (pa : Int)) ∧ w'.cell? ⟨wr.heap.size, 2, none⟩ = some (.int .i64 (pb : Int)) ∧ w'.cell? ⟨gW, pa, none⟩ = some (.slice a1 n c1) ∧ w'.cell? ⟨gW, pb, none⟩ = some (.slice a2 n c2)) (go_keep) (first | (go_at_call 94; refine (eMultiply (pa := pa) (pb := pb) hPAD hvi hvd (by rw [HGi.out]) (by rw [HGi.out]) hpa (by rw [HGi.out]) hpb l1 l2 hi hN hd hn hn9 hgx (by decide) (by decide) (by decide)).mono ?_; rintro en w3 ⟨u, rfl, HP, hgx3⟩; obtain ⟨j4, j1, j2, j5, j6⟩ := HALL.out u w3 HP hgx3; clear hgx3))
  all_goals
    go_wp2
    go_ret
    exact ⟨u, rfl, HP⟩
theorem eRkScale {G : List Gt} {n t : Nat} {ins ds : List Int} {w wr : World} {gp gs i q d lo hh cW pa : Nat} {vi vd : Value} {aW : Option Addr} {Ls LW : List Value} {y z : Int} (h : PSt w wr gp gs n t vi vd Ls (sgl G n t ins ds i) (.slice aW i cW) LW (ewr G n t ins ds i) lo hh)
    (hvi : Lft w ins q (ci G i) vi) (hvd : Lft w ds d (dwn G n t i) vd) (HGi : Hid (gt G i = ⟨6, pa, y, z⟩)) (hpa : pa < i) (hz0 : 0 ≤ z) (hz1 : z ≤ 18446744073709551615) (hn : 2 * t + 1 ≤ n) (hn9 : n ≤ 9) :
    Calls Tryd.prog 65 #[.pointer (some ⟨gp, 0, none⟩), .agg #[.int .i64 6, .int .i64 (pa : Int), .int .i64 y, .int .u64 z]] wr fun e w' => ∃ u, e = .returned u ∧ Pgt G n t ins ds q d w gp gs i (.slice aW i cW) LW u w' := by
  have hbA : Below wr.heap.size wr (wr.alloc (.cells #[.int .i64 6, .int .i64 (pa : Int), .int .i64 y, .int .u64 z] 61)) := (Below.refl _ _).alloc (Nat.le_refl _) _
  obtain ⟨q1, q2, q3, q4⟩ := gate_box wr 6 pa y z 61
  have hltA : wr.heap.size < (wr.alloc (.cells #[.int .i64 6, .int .i64 (pa : Int), .int .i64 y, .int .u64 z] 61)).heap.size := by simp
  have hPA := h.below hbA
  obtain ⟨gW, a1, c1, rfl, hgW, e1, _, r1⟩ := hPA.wire hpa
  obtain ⟨_, _, _, _, f4, _⟩ := hPA.box.cells
  have hlp := hPA.box.lt
  have HE : Hid (ew G n t ins ds i = mxl (ew G n t ins ds pa) (ew G n t ins ds pa) z 0 0 n) := by unfold Hid; rw [ew_scale (by rw [HGi.out]) (by rw [HGi.out]) hpa, HGi.out]
  have HW2 : Hid (Wr1 n) := ⟨by omega, hn9⟩
  have hpa0 : (0 : Int) ≤ (pa : Int) := by omega
  have hpai : (pa : Int) < (i : Int) := by omega
  go_enter Tryd.func65, Tryd.ntmps65
  go_upto_region 13 with fail
  generalize wr.alloc (.cells #[.int .i64 6, .int .i64 (pa : Int), .int .i64 y, .int .u64 z] 61) = W at *
  have HF : Hid (∀ u w', w'.ownsRow W.drew.heap.size 34 1 u n ((mxl (ew G n t ins ds pa) (ew G n t ins ds pa) z 0 0 n).map (Value.int .u64)) → Below W.drew.heap.size W.drew w' → Pgt G n t ins ds q d w gp gs i (.slice (some ⟨gW, 0, none⟩) i cW) LW u w') := fun u w' ho hb => by
    rw [← HE.out] at ho
    exact hPA.drew.quiet hvi hvd (by omega) hb (by rw [HGi.out]; simp) (by rw [HGi.out]; simp) ho
  clear h hPA
  have HALL : Hid (∀ w', Below W.drew.heap.size W.drew w' → w'.cell? ⟨gp, 4, none⟩ = some (.slice (some ⟨gW, 0, none⟩) i cW) ∧ w'.cell? ⟨wr.heap.size, 1, none⟩ = some (.int .i64 (pa : Int)) ∧ w'.cell? ⟨wr.heap.size, 3, none⟩ = some (.int .u64 z) ∧ w'.cell? ⟨gW, pa, none⟩ = some (.slice a1 n c1) ∧ gp < w'.heap.size ∧ wr.heap.size < w'.heap.size ∧ gW < w'.heap.size) := fun w' hb => ⟨by rw [hb.cell hlp]; exact f4, by rw [hb.cell hltA]; exact q2, by rw [hb.cell hltA]; exact q4, by rw [hb.cell hgW]; exact e1, Nat.lt_of_lt_of_le hlp hb.size, Nat.lt_of_lt_of_le hltA hb.size, Nat.lt_of_lt_of_le hgW hb.size⟩
  go_region_held3 (fun w' => w'.cell? ⟨gp, 4, none⟩ = some (.slice (some ⟨gW, 0, none⟩) i cW) ∧ w'.cell? ⟨wr.heap.size, 1, none⟩ = some (.int .i64 (pa : Int)) ∧ w'.cell? ⟨wr.heap.size, 3, none⟩ = some (.int .u64 z) ∧ w'.cell? ⟨gW, pa, none⟩ = some (.slice a1 n c1)) (go_keep) (first | (go_at_call 83; refine (cGScale a1 n c1 _ z _ r1.drew hz0 hz1).mono ?_; rintro en w3 ⟨⟨hno, _⟩ | ⟨_, u, rfl, ho⟩, hb3⟩; exact absurd HW2.out hno; have HP := HF.out u w3 ho hb3; obtain ⟨j4, j1, j2, j5, j7, j8, j9⟩ := HALL.out w3 hb3; clear ho hb3))
  all_goals
    go_wp2
    go_ret
    exact ⟨u, rfl, HP⟩
theorem eRkInput {G : List Gt} {n t : Nat} {ins ds : List Int} {w wr : World} {gp gs i q d N lo hh : Nat} {vi vd vW : Value} {Ls LW : List Value} {x y z : Int} (h : PSt w wr gp gs n t vi vd Ls (sgl G n t ins ds i) vW LW (ewr G n t ins ds i) lo hh)
    (hvi : Lft w ins q (ci G i) vi) (hvd : Lft w ds d (dwn G n t i) vd) (HGi : Hid (gt G i = ⟨1, x, y, z⟩)) (hi : i < N) (hN : N ≤ 30) (hq : q = ci G N) (hd : d = dwn G n t N) (hn : 2 * t + 1 ≤ n) (hn9 : n ≤ 9) :
    Calls Tryd.prog 65 #[.pointer (some ⟨gp, 0, none⟩), .agg #[.int .i64 1, .int .i64 x, .int .i64 y, .int .u64 z]] wr fun e w' => ∃ u, e = .returned u ∧ Pgt G n t ins ds q d w gp gs i vW LW u w' := by
  have hbA : Below wr.heap.size wr (wr.alloc (.cells #[.int .i64 1, .int .i64 x, .int .i64 y, .int .u64 z] 61)) := (Below.refl _ _).alloc (Nat.le_refl _) _
  obtain ⟨q1, q2, q3, q4⟩ := gate_box wr 1 x y z 61
  have hltA : wr.heap.size < (wr.alloc (.cells #[.int .i64 1, .int .i64 x, .int .i64 y, .int .u64 z] 61)).heap.size := by simp
  have hPA := h.below hbA
  clear h q2 q3 q4
  go_enter Tryd.func65, Tryd.ntmps65
  go_upto_region 3 with fail
  generalize wr.alloc (.cells #[.int .i64 1, .int .i64 x, .int .i64 y, .int .u64 z] 61) = W at *
  go_wp2_with fail
  refine (eDeal hPA hvi hvd (by rw [HGi.out]) hi hN hq hd hn hn9).mono ?_
  rintro en w3 ⟨u, rfl, HP⟩
  clear hPA
  go_wp2
  go_ret
  exact ⟨u, rfl, HP⟩
theorem eRkConst {G : List Gt} {n t : Nat} {ins ds : List Int} {w wr : World} {gp gs i q d lo hh : Nat} {vi vd vW : Value} {Ls LW : List Value} {x y z : Int} (h : PSt w wr gp gs n t vi vd Ls (sgl G n t ins ds i) vW LW (ewr G n t ins ds i) lo hh)
    (hvi : Lft w ins q (ci G i) vi) (hvd : Lft w ds d (dwn G n t i) vd) (HGi : Hid (gt G i = ⟨2, x, y, z⟩)) (hz0 : 0 ≤ z) (hz1 : z ≤ 18446744073709551615) (hn : 2 * t + 1 ≤ n) (hn9 : n ≤ 9) :
    Calls Tryd.prog 65 #[.pointer (some ⟨gp, 0, none⟩), .agg #[.int .i64 2, .int .i64 x, .int .i64 y, .int .u64 z]] wr fun e w' => ∃ u, e = .returned u ∧ Pgt G n t ins ds q d w gp gs i vW LW u w' := by
  have hbA : Below wr.heap.size wr (wr.alloc (.cells #[.int .i64 2, .int .i64 x, .int .i64 y, .int .u64 z] 61)) := (Below.refl _ _).alloc (Nat.le_refl _) _
  obtain ⟨q1, q2, q3, q4⟩ := gate_box wr 2 x y z 61
  have hltA : wr.heap.size < (wr.alloc (.cells #[.int .i64 2, .int .i64 x, .int .i64 y, .int .u64 z] 61)).heap.size := by simp
  have hPA := h.below hbA
  obtain ⟨f0, _, _, _, _, _⟩ := hPA.box.cells
  have hlp := hPA.box.lt
  have HE : Hid (ew G n t ins ds i = List.replicate n (nm z)) := by unfold Hid; rw [ew_const (by rw [HGi.out]), HGi.out]
  have hnb := nm_bd z
  go_enter Tryd.func65, Tryd.ntmps65
  go_upto_region 5 with fail
  generalize wr.alloc (.cells #[.int .i64 2, .int .i64 x, .int .i64 y, .int .u64 z] 61) = W at *
  have hb1 : Below W.heap.size W (W.alloc (.cells #[.int .u64 (nm z)] 34)) := (Below.refl _ _).alloc (Nat.le_refl _) _
  have hPB := (hPA.below hb1).drew
  have hl1 : W.heap.size ≤ (W.alloc (.cells #[.int .u64 (nm z)] 34)).drew.heap.size := hb1.size
  have HF : Hid (∀ u w', w'.ownsRow (W.alloc (.cells #[.int .u64 (nm z)] 34)).drew.heap.size 34 1 u n ((List.replicate n (nm z)).map (Value.int .u64)) → Below (W.alloc (.cells #[.int .u64 (nm z)] 34)).drew.heap.size (W.alloc (.cells #[.int .u64 (nm z)] 34)).drew w' → Pgt G n t ins ds q d w gp gs i vW LW u w' ∧ w'.cell? ⟨gp, 0, none⟩ = some (.int .i64 (n : Int)) ∧ w'.cell? ⟨wr.heap.size, 3, none⟩ = some (.int .u64 z)) := fun u w' ho hb => by
    rw [← HE.out] at ho
    refine ⟨hPB.quiet hvi hvd (by omega) hb (by rw [HGi.out]; simp) (by rw [HGi.out]; simp) ho, ?_, ?_⟩
    · rw [hb.cell (Nat.lt_of_lt_of_le hlp hl1)]
      exact hPB.box.cells.1
    · rw [hb.cell (Nat.lt_of_lt_of_le hltA hl1)]
      show (W.alloc _).cell? _ = _
      rw [hb1.cell hltA]
      exact q4
  have HR : Hid (Rd (W.alloc (.cells #[.int .u64 (nm z)] 34)).drew (some ⟨W.heap.size, 0, none⟩) 1 1 [nm z]) := (rd_lit1 W ⟨hnb.1, by have := hnb.2; omega⟩).drew
  have hn1 : 1 ≤ n := by omega
  clear h hPA hPB
  go_region_held3 (fun w' => w'.cell? ⟨gp, 0, none⟩ = some (.int .i64 (n : Int)) ∧ w'.cell? ⟨wr.heap.size, 3, none⟩ = some (.int .u64 z)) (go_keep) (first | (go_at_call 37; refine (fNorm z _ hz0 hz1).mono ?_; rintro en w3 ⟨rfl, hw⟩; have hw := hw.symm; subst hw) | (go_at_call 92; refine (zRepeat (some ⟨W.heap.size, 0, none⟩) 1 (nm z) n _ HR.out hn1 hn9).mono ?_; rintro en w5 ⟨u, rfl, ho, hb5⟩; obtain ⟨HP, j0, j3⟩ := HF.out u w5 ho hb5; clear ho hb5))
  all_goals
    go_wp2
    go_ret
    exact ⟨u, rfl, HP⟩
end
end Go.Proofs.YtljlioglpaogdagDoor
