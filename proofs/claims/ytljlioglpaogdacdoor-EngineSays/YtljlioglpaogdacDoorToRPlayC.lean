/- The parties' multiply. · croftref.Played. -/
import Derived.Test.YtljlioglpaogdacDoorToEnL
import Derived.Test.YtljlioglpaogdacDoorToDealtC
import Derived.Deep.RegionHeld3
import Derived.Test.YtljlioglpaogdacDoorToPlS
import Derived.Deep.LoopGhost
import Derived.Deep.CutBlock
import Derived.Deep.CutRange
import Derived.Deep.DeepCutAuto
import Derived.Deep.RegionLaw
namespace Go.Proofs.YtljlioglpaogdacDoor
set_option linter.unusedVariables false
set_option maxRecDepth 100000
set_option maxHeartbeats 8000000
section
open Crm Go.RowKit
theorem PSt.row {G : List Gt} {ins ds : List Int} {w wr : World} {gp gs n t i p : Nat} {vi vd : Value} {Ls : List Value} {S : List (List Int)} {vW : Value} {LW : List Value} {lo hi c : Nat} {a : Option Addr} (h : PSt w wr gp gs n t vi vd Ls S vW LW (ewr G n t ins ds i) lo hi) (hp : p < i) (e : LW.getD p (.slice none 0 0) = .slice a n c) : Rd wr a n c (ew G n t ins ds p) := by
  obtain ⟨a', c', e', hr⟩ := h.sen.wires.one (ewr_len G n t ins ds i) hp (by rw [ewr_getD G n t ins ds hp]; exact bd_u64 (ew_bd _ _ _ _ _ _))
  rw [ewr_getD G n t ins ds hp, ew_len] at e' hr
  rw [e] at e'
  simp only [Value.slice.injEq, true_and] at e'
  obtain ⟨rfl, rfl⟩ := e'
  exact hr
theorem keep_lsv {wr w' : World} {lo hi B : Nat} {v : Value} {L : List Value} {rows : List (List Int)} (hk : ∀ (B2 z k : Nat) (E : TypeId) (v : Value) (xs : List Value), wr.ownsRow B2 E z v k xs → Btw lo hi v → w'.ownsRow B2 E z v k xs) (h : LsV wr B v L rows) (hv : Btw lo hi v) (hL : ∀ i, Btw lo hi (L.getD i (.slice none 0 0))) : LsV w' B v L rows :=
  ⟨hk _ _ _ _ _ _ h.own hv, h.len, fun i hi => hk _ _ _ _ _ _ (h.row i hi) (hL i), h.inj⟩

theorem blk_off {w : World} {g B z k : Nat} {cur : Array Value} {E E' : TypeId} {v : Value} {xs : List Value} (hb : w.heap[g]? = some (.cells cur E (0, 0))) (ho : w.ownsRow B E' z v k xs) (hE : E ≠ E') : some g ≠ v.ownBlock := by
  rcases ho.2 with ⟨rfl, _⟩ | ⟨g', cap, cur', rfl, _, hg, _⟩
  · simp [Value.ownBlock]
  · intro e
    simp only [Value.ownBlock, Option.some.injEq] at e
    subst e
    rw [hg] at hb
    simp only [Option.some.injEq, Obj.cells.injEq] at hb
    exact hE hb.2.1.symm
/-- A block of another kind stays while what is seen grows. -/
theorem PSt.keepB {w wr w' : World} {gp gs n t j : Nat} {vi vd : Value} {Ls : List Value} {S : List (List Int)} {row xs : List Int} {vW : Value} {LW : List Value} {W : List (List Int)} {lo hi : Nat} (h : PSt w wr gp gs n t vi vd Ls S vW LW W lo hi) (hj : j < n) (hs : Seen w wr gs j (Ls.getD j (.slice none 0 0)) row xs w') {g : Nat} {cur : Array Value} {E : TypeId} (hb : wr.heap[g]? = some (.cells cur E (0, 0))) (hE1 : E ≠ 43) (hE2 : E ≠ 31) : w'.heap[g]? = some (.cells cur E (0, 0)) := by
  obtain ⟨w7, v7, rfl, ho, hg, hat⟩ := hs
  have hl := (Array.getElem?_eq_some_iff.1 hb).1
  have h7 : w7.heap[g]? = some (.cells cur E (0, 0)) := by rw [hg.block g hl (blk_off hb (h.sen.seen.row j (by rw [h.sen.len]; exact hj)) hE1)]; exact hb
  rw [(grown_set w7 gs j v7).block g (Array.getElem?_eq_some_iff.1 h7).1 (blk_off hb h.sen.seen.own hE2)]
  exact h7

theorem eMultiply {G : List Gt} {n t : Nat} {ins ds : List Int} {w wr : World} {gp gs i N q d lo hh pa pb c1 c3 : Nat} {vi vd vW : Value} {Ls LW : List Value} {a1 a3 : Option Addr} (h : PSt w wr gp gs n t vi vd Ls (sgl G n t ins ds i) vW LW (ewr G n t ins ds i) lo hh)
    (hvi : Lft w ins q (ci G i) vi) (hvd : Lft w ds d (dwn G n t i) vd) (hg : (gt G i).k = 5) (ha : (gt G i).a = (pa : Int)) (hpa : pa < i) (hb : (gt G i).b = (pb : Int)) (hpb : pb < i) (ea : LW.getD pa (.slice none 0 0) = .slice a1 n c1) (eb : LW.getD pb (.slice none 0 0) = .slice a3 n c3) (hi : i < N) (hN : N ≤ 30) (hd : d = dwn G n t N) (hn : 2 * t + 1 ≤ n) (hn9 : n ≤ 9) {gb : Nat} {cur : Array Value} {E : TypeId} (hgb : wr.heap[gb]? = some (.cells cur E (0, 0))) (hE1 : E ≠ 43) (hE2 : E ≠ 31) (hE3 : E ≠ 72) :
    Calls Tryd.prog 55 #[.pointer (some ⟨gp, 0, none⟩), .slice a1 n c1, .slice a3 n c3] wr fun e w' => ∃ u, e = .returned u ∧ Pgt G n t ins ds q d w gp gs i vW LW u w' ∧ w'.heap[gb]? = some (.cells cur E (0, 0)) := by
  obtain ⟨a2, c2, rfl, r2⟩ := hvd
  obtain ⟨P, HP⟩ : ∃ P, Hid (n * t = P) := ⟨_, rfl⟩
  have hP36 : P ≤ 36 := by rw [← HP.out]; exact Nat.mul_le_mul hn9 (show t ≤ 4 by omega)
  have hPI : (n : Int) * (t : Int) = (P : Int) := by rw [← HP.out]; push_cast; rfl
  have HD2 : Hid (dwn G n t (i + 1) = dwn G n t i + P) := by unfold Hid; rw [dwn, if_neg (by omega), if_pos hg, HP.out]
  have hD : dwn G n t i + P ≤ d := by
    rw [← HD2.out, hd]
    exact dwn_mono G n t (by omega)
  have HE : Hid (ew G n t ins ds i = tmO t (ew G n t ins ds pa) (ew G n t ins ds pb) (edr G n t ds i (n * t)) n n) := ew_mul hg ha hpa hb hpb
  have HEN : Hid (∀ j, esn G n t ins ds i j = tmR t (ew G n t ins ds pa) (ew G n t ins ds pb) (edr G n t ds i (n * t)) n j) := fun j => by unfold esn; rw [if_neg (by omega), if_pos hg, ha, hb, Int.toNat_natCast, Int.toNat_natCast]
  have HV1 : Hid (Lft w ins q (ci G (i + 1)) vi) := by unfold Hid; rw [ci_no (by omega)]; exact hvi
  obtain ⟨D, HD⟩ : ∃ D, Hid (dwn G n t i = D) := ⟨_, rfl⟩
  rw [HD.out] at hD r2 HD2 h
  have HED : Hid ((ds.drop D).take P = edr G n t ds i (n * t)) := by unfold Hid edr; rw [HD.out, HP.out]
  obtain ⟨Y, HY⟩ : ∃ Y, Hid (edr G n t ds i (n * t) = Y) := ⟨_, rfl⟩
  rw [HY.out] at HE HEN HED
  obtain ⟨K, HK⟩ : ∃ K, Hid (d - D = K) := ⟨_, rfl⟩
  have hK : P ≤ K := by have := HK.out; omega
  rw [HK.out] at r2 h
  have hcap2 := r2.cap
  have r2' := r2.sub (lo := P) (k := K - P) (by omega)
  have r3 := r2.take hK
  rw [HED.out] at r3
  obtain ⟨X2, HX2⟩ : ∃ X2, Hid (subA a2 c2 P = X2) := ⟨_, rfl⟩
  rw [HX2.out] at r2'
  have HV2 : Hid (Lft w ds d (dwn G n t (i + 1)) (.slice X2 (K - P) (c2 - P))) := by
    unfold Hid
    rw [HD2.out]
    refine Lft.nil ?_ (by have := HK.out; omega)
    rw [List.drop_drop, List.take_of_length_le (by have := r2.len; simp at this; simp; omega)] at r2'
    exact r2'
  obtain ⟨f0, f1, _, _, _, _⟩ := h.box.cells
  have hlp := h.box.lt
  have hPD := h.drew
  have HP3 : Hid (∀ w3, w3 = wr.drew.setCell ⟨gp, 3, none⟩ (.slice X2 (K - P) (c2 - P)) → PSt w w3 gp gs n t vi (.slice X2 (K - P) (c2 - P)) Ls (sgx (sng G n t ins ds i) (esn G n t ins ds i) n 0) vW LW (ewr G n t ins ds i) lo hh ∧ w3.heap[gb]? = some (.cells cur E (0, 0))) := fun w3 e => by
    subst e
    rw [← sgl_first]
    refine ⟨hPD.turn (grown_set _ _ _ _) (hPD.box.set3 _), ?_⟩
    rw [(grown_set wr.drew gp 3 _).block gb (Array.getElem?_eq_some_iff.1 hgb).1 (fun e => ?_)]
    · exact hgb
    · obtain rfl := Option.some.inj e
      have hbx : wr.heap[gb]? = _ := hPD.box
      rw [hgb] at hbx
      simp only [Option.some.injEq, Obj.cells.injEq] at hbx
      exact hE3 hbx.2.1
  have hwP : IntKind.i64.wrap (P : Int) = (P : Int) := by rw [IntKind.wrap_i64]; omega
  have HOK : Hid (Gme (t : Int) n n P 0) := .inr ⟨⟨by omega, by omega⟩, .inr ⟨⟨⟨by omega, hn9⟩, rfl⟩, .inr ⟨by omega, .inr ⟨by rw [hPI], rfl⟩⟩⟩⟩
  clear hvi r2' h hgb
  go_enter Tryd.func55, Tryd.ntmps55
  go_upto_region 1 with fail
  go_region_held3 (fun w' => w'.cell? ⟨gp, 0, none⟩ = some (.int .i64 (n : Int)) ∧ w'.cell? ⟨gp, 1, none⟩ = some (.int .i64 (t : Int))) (go_keep) (first | (go_at_call 67; refine (eDraw gp n t _ _ _ a2 K c2 P _ hPD.box r2.nil hK hcap2).mono ?_; rintro en w3 ⟨rfl, hw3⟩; rw [HX2.out] at hw3; obtain ⟨hP3, hgb3⟩ := HP3.out w3 hw3; clear hw3; obtain ⟨g0, g1, _, _, _, _⟩ := hP3.box.cells; have hl3 := hP3.box.lt) | (go_at_call 72; refine (cGMul (t : Int) a1 n c1 _ a3 n c3 _ a2 P c2 _ _ (hP3.row hpa ea) (hP3.row hpb eb) (r3.below hP3.sen.bel)).mono ?_; rintro en w5 ⟨⟨r, hr, hE, _⟩ | ⟨_, v, u, L, rfl, ho, hL⟩, hb5⟩; exact absurd (hE.one HOK.out) hr; have hP5 := hP3.fresh (by omega) hb5; have hgb5 := (hb5.block gb (Array.getElem?_eq_some_iff.1 hgb3).1).trans hgb3; obtain ⟨i0, i1, _, _, _, _⟩ := hP5.box.cells; have hl5 := hP5.box.lt))
  all_goals
    rw [Int.toNat_natCast] at ho hL
    have hgl0 : (tmG t (ew G n t ins ds pa) (ew G n t ins ds pb) Y n).length = n := tmG_len _ _ _ _ _
    have hgo := hL.own
    rw [hgl0] at hgo
    obtain ⟨gg, cgt, rfl, _, _, hcv, hcv2⟩ := own_atZ hgo (by omega)
    unfold maxLen at hcv2
    rw [← HE.out] at ho
    have HBt : Hid (Btw w3.heap.size w5.heap.size v) := fun b hb => ho.lt b hb
    have HBu : Hid (Btw w3.heap.size w5.heap.size (.slice (some ⟨gg, 0, none⟩) n cgt)) := fun b hb => hL.own.lt b hb
    have HBL : Hid (∀ p, Btw w3.heap.size w5.heap.size (L.getD p (.slice none 0 0))) := fun p b hb => hL.blk p b hb
    have ho5 := own_baseV ho hP3.sen.bel.size
    have HLW : Hid (∀ p b, (LW.getD p (.slice none 0 0)).ownBlock = some b → b < w3.heap.size) := fun p b hb => (hP3.sen.wires.blk p b hb).2
    clear ho hb5 hP3 hgb3 r2 r3 hPD HP3 g0 g1 hl3 i0 i1 hl5 f0 f1 hgo
    go_wp2
    go_loopw [36] (fun s wq => ∃ (j : Nat) (Ls : List Value), j ≤ n ∧ s = .int .i64 j ∧ PSt w wq gp gs n t vi (.slice X2 (K - P) (c2 - P)) Ls (sgx (sng G n t ins ds i) (esn G n t ins ds i) n j) vW LW (ewr G n t ins ds i) w3.heap.size w5.heap.size ∧ wq.ownsRow w.heap.size 43 1 v n ((ew G n t ins ds i).map (Value.int .u64)) ∧ LsV wq w3.heap.size (.slice (some ⟨gg, 0, none⟩) n cgt) L (tmG t (ew G n t ins ds pa) (ew G n t ins ds pb) Y n) ∧ Hid (wq.heap[gb]? = some (.cells cur E (0, 0)))) (fun s _ => n - (intOf s).toNat)
    case atStart => exact ⟨0, Ls, Nat.zero_le _, rfl, hP5, ho5, hL, hgb5⟩
    case round =>
      clear hP5 ho5 hL hgb5
      obtain ⟨j, Ls, hj, rfl, hP, ho, hL, HGB⟩ := hrel
      by_cases hjn : j < n
      · obtain ⟨eg1, _, eg3⟩ := hL.cell hgl0 hjn
        obtain ⟨a6, c6, eg4, r6⟩ := hL.one hgl0 hjn (by rw [tmG_getD _ _ _ _ hjn]; exact bd_u64 (tmR_bd _ _ _ _ _ _))
        rw [tmG_getD _ _ _ _ hjn, tmR_len] at eg4 r6
        rw [eg4] at eg1
        have hsb := sng_bound G n t ins ds i j hn9
        have hj0 : (0 : Int) ≤ (j : Int) := by omega
        have hjni : (j : Int) < (n : Int) := by omega
        go_wp2_with fail
        refine (eSee hP hjn (by rw [HEN.out]; exact r6) (by omega) (by omega) (by omega)).mono ?_
        rintro e w8 ⟨rfl, hs⟩
        obtain ⟨⟨Ls', hP'⟩, hkeep⟩ := hP.seen hjn hs
        have ho' := hkeep _ _ _ _ _ _ ho HBt.out
        have hL' := keep_lsv hkeep hL HBu.out HBL.out
        have HGB' : Hid (w8.heap[gb]? = some (.cells cur E (0, 0))) := hP.keepB hjn hs HGB.out hE1 hE2
        clear hP ho hL hs hkeep eg1 eg3 r6
        go_wp2
        go_roundw
        case rel => exact ⟨j + 1, Ls', by omega, by go_num, hP', ho', hL', HGB'⟩
        case measure => simp [intOf]; omega
      · have hjn2 : j = n := by omega
        subst hjn2
        rw [sgl_next] at hP
        go_wp2
        go_ret
        exact ⟨_, rfl, ⟨_, _, Ls, _, _, hP, HV1.out, HV2.out, ho, HBt.out, HLW.out⟩, HGB.out⟩
theorem rPlayed (ag : Option Addr) (N cg : Nat) (G : List Gt) (ao : Option Addr) (m co : Nat) (O : List Int) (n t : Nat) (ai : Option Addr) (q ca : Nat) (ins : List Int) (ad : Option Addr) (d cd : Nat) (ds : List Int) (w : World) (h : RdG w ag N cg G) (g : RdI w ao m co O) (ih : Rd w ai q ca ins) (dh : Rd w ad d cd ds) (hN1 : 1 ≤ N) (hN : N ≤ 30) (hm : m ≤ 30) (hG : okG G N) (hO : okO O N m) (hq : q = ci G N) (hd : d = dwn G n t N) (hn : 2 * t + 1 ≤ n) (hn9 : n ≤ 9) :
    Calls Tryd.prog 12 #[.agg #[.slice ag N cg, .slice ao m co], .int .i64 (n : Int), .int .i64 (t : Int), .slice ai q ca, .slice ad d cd] w fun e w' => ∃ v u L, e = .returned (.tuple #[v, u]) ∧ w'.ownsRow w.heap.size 43 1 v m ((otl G O ins m).map (Value.int .u64)) ∧ LsV w' w.heap.size u L (snl G O n t ins ds N m) ∧ Below w.heap.size w w' := by
  obtain ⟨i0, hi0, hz0, hz1, hz2⟩ := info_parts infoVs
  have HOKG : Hid (okG G N) := hG
  have HOKO : Hid (okO O N m) := hO
  have HQ : Hid (q = ci G N) := hq
  have HD : Hid (d = dwn G n t N) := hd
  have hcap := h.cap
  have gcap := g.cap
  clear hG hO hq hd
  have hC0 := CBox.new w ag N cg ao m co
  have hb0 : Below w.heap.size w (w.alloc (.cells #[.slice ag N cg, .slice ao m co] 25)) := (Below.refl _ _).alloc (Nat.le_refl _) _
  go_enter Tryd.func12, Tryd.ntmps12
  go_upto_region 1 with fail
  generalize w.alloc (.cells #[.slice ag N cg, .slice ao m co] 25) = w0 at *
  have hl0 := hC0.lt
  go_wp2_with (at_make; refine wpList_make_full _ rfl _ _ 37 rfl w0.heap.size 31 i0 (.slice none 0 0) 1 Tryd.underlying37 hi0 hz0 hz1 .i64 .i64 _ _ n rfl rfl (by omega) (by omega) (by rw [hz2]; omega) (by unfold maxLen; omega) (Nat.le_refl _) ?_; intro w1 hown hgrow)
  have hb1 : Below w0.heap.size w0 w1 := (Below.refl _ _).grown hgrow (Nat.le_refl _) (by simp)
  have hL1 := lsv_made hown
  have e0 : List.replicate n ([] : List Int) = sgl G n t ins ds 0 := by
    apply List.ext_getElem?
    intro i
    by_cases hi : i < n
    · simp [sgl, sng, hi]
    · simp [sgl, hi]
  rw [e0] at hL1
  have hS1 : Sen w0 w1 w0.heap.size n (List.replicate n (.slice none 0 0)) (sgl G n t ins ds 0) (.slice none 0 0) [] (ewr G n t ins ds 0) (w0.heap.size + 1) (w0.heap.size + 1) := ⟨hL1, sgl_len _ _ _ _ _ _, lsv_nil _ _, apt_rep n [], by simp [Value.ownBlock], fun p _ gg _ => by omega, by omega, (hL1.cell (sgl_len _ _ _ _ _ _) (q := 0) (by omega)).2.2, hb1⟩
  clear hown hgrow hL1 hb1 e0
  go_loopg [13, 14, 15, 16] N (fun gk vW va vk vi wr => ∃ (i : Nat) (Ls LW : List Value), gk = N - i ∧ i ≤ N ∧ vi = .int .i64 i ∧ va = .int .i64 (dwn G n t i : Int) ∧ vk = .int .i64 (ci G i : Int) ∧ (∃ aW cW, vW = .slice aW i cW) ∧ Sen w0 wr w0.heap.size n Ls (sgl G n t ins ds i) vW LW (ewr G n t ins ds i) (w0.heap.size + 1) (w0.heap.size + 1))
  case atStart => exact ⟨0, _, [], rfl, Nat.zero_le _, rfl, rfl, rfl, ⟨none, 0, rfl⟩, hS1⟩
  case round =>
    clear hS1
    obtain ⟨i, Ls, LW, rfl, hi, rfl, rfl, rfl, ⟨aW, cW, rfl⟩, hS⟩ := hrel
    have hC := hC0.below hS.bel hl0
    obtain ⟨d0, d1⟩ := hC.cells
    have hcl := hC.lt
    by_cases hlt : i < N
    · obtain ⟨b, o, k, x, y, z, rfl, hbb, HGi, hk, hx, hy, hz, c1, c2, c3, c4⟩ := (h.below (hb0.trans (hS.bel.mono hb0.size))).one hlt
      have hbA : Below wr.heap.size wr (wr.alloc (.cells #[.int .i64 k, .int .i64 x, .int .i64 y, .int .u64 z] 58)) := (Below.refl _ _).alloc (Nat.le_refl _) _
      obtain ⟨q1, q2, q3, q4⟩ := gate_box wr k x y z 58
      have hltA : wr.heap.size < (wr.alloc (.cells #[.int .i64 k, .int .i64 x, .int .i64 y, .int .u64 z] 58)).heap.size := by simp
      have hSA := hS.below hbA
      have hbwA := (hb0.trans (hS.bel.mono hb0.size)).trans (hbA.mono (hb0.trans (hS.bel.mono hb0.size)).size)
      have hok := HOKG.out i hlt
      rw [HGi.out] at hok
      have HDN : Hid (dwn G n t N = d) := HD.out.symm
      have HCN : Hid (ci G N = q) := HQ.out.symm
      go_upto_region 9 with fail
      generalize wr.alloc (.cells #[.int .i64 k, .int .i64 x, .int .i64 y, .int .u64 z] 58) = W at *
      clear c1 c2 c3 c4 hbA d0 d1 hcl
      go_upto_block 2 with fail
      go_cut [14, 15, 18, 19, 20, 21, 22] from 27 to 182 (fun s14 s15 s18 s19 s20 s21 s22 wx => s14 = .int .i64 (dwn G n t (i + 1) : Int) ∧ s15 = .int .i64 (ci G (i + 1) : Int) ∧ Psw G n t ins ds w0 w0.heap.size i (.slice aW i cW) LW s18 wx)
      case first =>
        refine plAll hSA (ih.below hbwA) (dh.below hbwA) q2 q3 q4 hltA HGi hz hn hn9 (show Hid (dwn G n t i = dwn G n t i) from rfl) (show Hid (ci G i = ci G i) from rfl) hlt hN HDN HCN hok ?_
        unfold Hid
        intro u
        intros
        rename_i w' hsw
        dsimp only
        go_wp2
        go_meet
        case rel => exact ⟨rfl, rfl, hsw⟩
      case rest =>
        obtain ⟨rfl, rfl, hP⟩ := hcut
        obtain ⟨w8, hw8⟩ : ∃ w8, w8 = wc := ⟨_, rfl⟩
        subst hw8
        obtain ⟨s18, hs18⟩ : ∃ x, x = u18 := ⟨_, rfl⟩
        subst hs18
        have HPW := hP
        obtain ⟨Ls8, lo8, hi8, hS8, hu8, _, _⟩ := hP
        have hwo := hS8.wires.own
        rw [ewr_len] at hwo
        have hs8 := hS8.bel.size
        obtain ⟨ua, uc, rfl, huc⟩ := own_slice hu8
        have HN : Hid (∀ v2 w2, w2.ownsRow w0.heap.size 31 1 v2 (i + 1) (LW ++ [.slice ua n uc]) → w8.grownBy w2 (Value.slice aW i cW).ownBlock → (v2.ownBlock = (Value.slice aW i cW).ownBlock ∨ ∃ k, v2.ownBlock = some k ∧ w8.heap.size ≤ k) → (∃ aW cW, v2 = .slice aW (i + 1) cW) ∧ ∃ Ls, Sen w0 w2 w0.heap.size n Ls (sgl G n t ins ds (i + 1)) v2 (LW ++ [.slice ua n uc]) (ewr G n t ins ds (i + 1)) (w0.heap.size + 1) (w0.heap.size + 1)) := fun v2 w2 ho hg hat => by
          obtain ⟨a', c', e', _⟩ := own_slice ho
          exact ⟨⟨a', c', e'⟩, HPW.next (by omega) ho hg hat⟩
        clear HPW hS8 hu8 hSA hS
        go_wp2_with (at_builtin; refine wpList_appV Tryd.underlying37 infoVs rfl (by decide) _ rfl _ _ rfl w0.heap.size _ _ _ rfl hwo (.slice ua n uc) rfl rfl (by omega) hs8 ?_; intro v2 w2 hown2 hgr2 hat2; have HN2 : Hid (_ ∧ _) := HN.out v2 w2 hown2 hgr2 hat2; clear hown2 hgr2 hat2 hwo)
        obtain ⟨⟨a2, c2, e2⟩, Ls2, hS2⟩ := HN2.out
        go_roundg (N - (i + 1))
        case measure => omega
        case rel => exact ⟨i + 1, Ls2, _, rfl, by omega, by go_num, rfl, rfl, ⟨a2, c2, e2⟩, hS2⟩
    · have hiN : i = N := by omega
      subst hiN
      rw [snl_zero G O] at hS
      go_wp2
      clear d0 d1 hcl hC
      obtain ⟨wo, hwo⟩ : ∃ x, x = wr := ⟨_, rfl⟩
      subst hwo
      go_loopw [23] (fun v wr => ∃ (j : Nat) (Ls : List Value), j ≤ m ∧ v = .int .i64 j ∧ Sen w0 wr w0.heap.size n Ls (snl G O n t ins ds i j) (.slice aW i cW) LW (ewr G n t ins ds i) (w0.heap.size + 1) (w0.heap.size + 1)) (fun v _ => m - (intOf v).toNat)
      case atStart => exact ⟨0, Ls, Nat.zero_le _, rfl, hS⟩
      case round =>
        clear hS
        obtain ⟨p, Ls, hp, rfl, hS⟩ := hrel
        have hC := hC0.below hS.bel hl0
        obtain ⟨d0, d1⟩ := hC.cells
        have hcl := hC.lt
        by_cases hpm : p < m
        · obtain ⟨bo, oo, xo, rfl, hbo, HXo, hxo0, hxo1, hco⟩ := (g.below (hb0.trans (hS.bel.mono hb0.size))).one hpm
          have hxo := HOKO.out p hpm
          rw [HXo.out] at hxo
          obtain ⟨po, rfl⟩ : ∃ p : Nat, xo = p := ⟨xo.toNat, by omega⟩
          have hpo : po < i := by omega
          have hpo0 : (0 : Int) ≤ (po : Int) := by omega
          have hpoi : (po : Int) < (i : Int) := by omega
          have hp0 : (0 : Int) ≤ (p : Int) := by omega
          have hpmi : (p : Int) < (m : Int) := by omega
          have HEX : Hid ((fun _ : Nat => ew G n t ins ds (O.getD p 0).toNat) = fun _ => ew G n t ins ds po) := by unfold Hid; rw [HXo.out]; rfl
          rw [snl_first, HEX.out] at hS
          go_wp2
          clear d0 d1 hcl hC hco hbo
          obtain ⟨wp, hwp⟩ : ∃ x, x = wr := ⟨_, rfl⟩
          subst hwp
          go_loopw [24] (fun v wr => ∃ (j : Nat) (Ls : List Value), j ≤ n ∧ v = .int .i64 j ∧ Sen w0 wr w0.heap.size n Ls (sgx (sno G O n t ins ds i p) (fun _ => ew G n t ins ds po) n j) (.slice aW i cW) LW (ewr G n t ins ds i) (w0.heap.size + 1) (w0.heap.size + 1)) (fun v _ => n - (intOf v).toNat)
          case atStart => exact ⟨0, Ls, Nat.zero_le _, rfl, hS⟩
          case round =>
            clear hS
            obtain ⟨j, Ls, hj, rfl, hS⟩ := hrel
            have hC := hC0.below hS.bel hl0
            obtain ⟨d0, d1⟩ := hC.cells
            have hcl := hC.lt
            by_cases hjn : j < n
            · obtain ⟨bo', oo', xo', eo, hbo, HXo', _, _, hco⟩ := (g.below (hb0.trans (hS.bel.mono hb0.size))).one hpm
              simp only [Option.some.injEq, Addr.mk.injEq, and_true] at eo
              obtain ⟨rfl, rfl⟩ := eo
              obtain rfl : xo' = (po : Int) := HXo'.out.symm.trans HXo.out
              have hgl := sgx_len (sno G O n t ins ds i p) (fun _ => ew G n t ins ds po) n j
              obtain ⟨dg, fg, lg⟩ := hS.seen.cell hgl hjn
              have hrow := hS.seen.row j (by rw [hgl]; exact hjn)
              rw [sgx_getD _ _ hjn] at hrow
              obtain ⟨u, HU⟩ : ∃ u, Hid (Ls.getD j (.slice none 0 0) = u) := ⟨_, rfl⟩
              rw [HU.out] at dg hrow
              obtain ⟨l, Hl⟩ : ∃ l, Hid ((sno G O n t ins ds i p j).length = l) := ⟨_, rfl⟩
              have hlb := sno_bound G O n t ins ds i p j hn9
              rw [Hl.out] at hrow hlb
              have hrowD : wr.drew.ownsRow w0.heap.size 43 1 u l ((sno G O n t ins ds i p j).map (Value.int .u64)) := hrow
              obtain ⟨ua, uc, rfl, huc⟩ := own_slice hrow
              have hsw := hS.bel.size
              obtain ⟨gW, a3, c3, rfl, hgW, eg, r3⟩ := hS.wire hpo
              obtain ⟨b3, o3, rfl, _, _⟩ := r3.at (k := 0) (by omega)
              have HST : Hid (∀ w7, wr.drew.grownBy w7 (Value.slice ua l uc).ownBlock → (∃ x, w7.cell? ⟨w0.heap.size, j, none⟩ = some x) ∧ w7.frozen? ⟨w0.heap.size, j, none⟩ = false) := fun w7 hg => by
                have ho7 := (show wr.drew.ownsRow _ _ _ _ _ _ from hS.seen.own).kept hg (own_apart hrowD (show wr.drew.ownsRow _ _ _ _ _ _ from hS.seen.own) (by decide))
                rw [hgl] at ho7
                obtain ⟨g', x, e1, _, _, _, e5⟩ := own_at ho7 hjn
                simp only [Option.some.injEq, Addr.mk.injEq, and_true] at e1
                subst e1
                exact ⟨⟨x, e5⟩, own_frozen ho7 j⟩
              have HUP : Hid (∀ g7 cap7 w7, w7.ownsRow w0.heap.size 43 1 (.slice (some ⟨g7, 0, none⟩) (l + n) cap7) (l + n) ((sno G O n t ins ds i p j ++ ew G n t ins ds po).map (Value.int .u64)) → wr.drew.grownBy w7 (Value.slice ua l uc).ownBlock → ((Value.slice (some ⟨g7, 0, none⟩) (l + n) cap7).ownBlock = (Value.slice ua l uc).ownBlock ∨ ∃ k, (Value.slice (some ⟨g7, 0, none⟩) (l + n) cap7).ownBlock = some k ∧ wr.drew.heap.size ≤ k) →
                  Sen w0 (w7.setCell ⟨w0.heap.size, j, none⟩ (.slice (some ⟨g7, 0, none⟩) (l + n) cap7)) w0.heap.size n (Ls.set j (.slice (some ⟨g7, 0, none⟩) (l + n) cap7)) (sgx (sno G O n t ins ds i p) (fun _ => ew G n t ins ds po) n (j + 1)) (.slice (some ⟨gW, 0, none⟩) i cW) LW (ewr G n t ins ds i) (w0.heap.size + 1) (w0.heap.size + 1)) := fun g7 cap7 w7 ho hg hat => by
                have hlen : (sno G O n t ins ds i p j ++ ew G n t ins ds po).length = l + n := by rw [List.length_append, Hl.out, ew_len]
                have hpp := hS.drew.put (j := j) (row := sno G O n t ins ds i p j ++ ew G n t ins ds po) (v7 := .slice (some ⟨g7, 0, none⟩) (l + n) cap7) hjn (by rw [hlen]; exact ho) (by rw [HU.out]; exact hg) (by rw [HU.out]; exact hat)
                rw [sgx_set (sno G O n t ins ds i p) (fun _ => ew G n t ins ds po) n j] at hpp
                exact hpp
              have hj0 : (0 : Int) ≤ (j : Int) := by omega
              have hjni : (j : Int) < (n : Int) := by omega
              clear hS hrow hC
              go_wp2
              go_region_law (refine step_appM Tryd.underlying31 info43 wr.drew rfl _ _ rfl w0.heap.size _ _ _ rfl hrowD b3 o3 n c3 (ew G n t ins ds po) r3.drew rfl (by omega) (by omega) (by exact hsw) ?_; intro g7 cap7 w7 ho7 hgr7 hat7; obtain ⟨⟨xx, dd⟩, ff⟩ := HST.out w7 hgr7; have hl7 := World.block_lt_of_cell? w7 _ dd; have HE : Hid (Sen _ _ _ _ _ _ _ _ _ _ _) := HUP.out g7 cap7 w7 ho7 hgr7 hat7; clear ho7 hgr7 hat7)
              all_goals
                clear HST HUP hrowD
                go_wp2
                go_roundw
                case rel => exact ⟨j + 1, _, by omega, by go_num, HE.out⟩
                case measure => simp [intOf]; omega
            · have hjn2 : j = n := by omega
              subst hjn2
              rw [← HEX.out, snl_next] at hS
              go_wp2
              go_roundw
              case rel => exact ⟨p + 1, Ls, by omega, by go_num, hS⟩
              case measure => simp [intOf]; omega
        · have hpm2 : p = m := by omega
          subst hpm2
          have hbw := hb0.trans (hS.bel.mono hb0.size)
          go_wp2_with fail
          refine (rOuts _ _ _ _ _ _ _ _ _ _ _ _ _ (h.below hbw) (g.below hbw) (ih.below hbw) hN1 hN hm HOKG.out HOKO.out HQ.out).mono ?_
          rintro e w5 ⟨v, rfl, ho5, hb5⟩
          have ho6 := own_base ho5 hbw.size
          have hL6 := (hS.seen.below hb5).base hb0.size
          have hb6 := hbw.trans (hb5.mono hbw.size)
          clear hS hb5 ho5 d0 d1 hcl hC
          go_wp2
          go_ret2
          exact ⟨v, _, _, rfl, ho6, hL6, hb6⟩
end
end Go.Proofs.YtljlioglpaogdacDoor
