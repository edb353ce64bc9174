/- gate.Mul. · The parties' multiply. · shamir.Open. · Slices of rows of a dealing in two variables (api.Row) that are read. · Dealings in two variables: what Pairs and Join tell: plain facts. · Who is wrong: plain facts. · Ints in order: INSERTION. Plain. · What Decode and Open of chapter 5 tell: plain facts. · croftkeep.dealt; shares that are written. · croftref.Fit, croftref.Open. · Rows of rows of the call's own: every number known, each row in a block of its own. -/
import Derived.Test.YtljlioglpaogdahDoorToGateWC
import Derived.Test.YtljlioglpaogdahDoorToThroughC
import Derived.Test.YtljlioglpaogdahDoorToGtDef
import Derived.Deep.RegionHeld3
import Derived.Test.YtljlioglpaogdahDoorToEnP
import Derived.Test.YtljlioglpaogdahDoorSlice
import Derived.Test.YtljlioglpaogdahDoorToRNumC
import Derived.Test.YtljlioglpaogdahDoorPolyM2
import Derived.Test.YtljlioglpaogdahDoorToCrewC
import Derived.Test.YtljlioglpaogdahDoorMath
import Derived.Test.YtljlioglpaogdahDoorPolyM
import Derived.Test.YtljlioglpaogdahDoorToWhoseC
import Derived.Deep.QuietTactic
import Derived.BigQuiet
import Derived.Test.YtljlioglpaogdahDoorProg
import Derived.WalkKit
import Derived.WalkSpells
import Derived.WalkLawsBesides
import Derived.BigRegion
import Derived.Deep.RegionWith
namespace Go.Proofs.YtljlioglpaogdahDoor
set_option linter.unusedVariables false
set_option maxRecDepth 100000
set_option maxHeartbeats 8000000
section
open Crm Go.RowKit
/-- The parties' products. -/
def pps (xs ys : List Int) (n : Nat) : List Int := (List.range n).map fun i => nm (xs.getD i 0 * ys.getD i 0)
theorem pps_getD (xs ys : List Int) {n i : Nat} (h : i < n) : (pps xs ys n).getD i 0 = nm (xs.getD i 0 * ys.getD i 0) := by simp [pps, h]
theorem pps_bd (xs ys : List Int) (n : Nat) : ∀ z ∈ pps xs ys n, 0 ≤ z ∧ z ≤ 18446744073709551615 := by
  intro z hz
  obtain ⟨i, _, rfl⟩ := List.mem_map.1 hz
  have := nm_bd (xs.getD i 0 * ys.getD i 0)
  omega
theorem pps_row (t : Nat) (xs ys ds : List Int) {n j : Nat} : gdr t (pps xs ys n) ds n n j = tmR t xs ys ds n j := by
  unfold gdr tmR
  rw [fil_full]
  refine List.map_congr_left fun i hi => ?_
  unfold pdC prC
  rw [pps_getD xs ys (List.mem_range.1 hi)]
theorem pps_all (t : Nat) (xs ys ds : List Int) (n : Nat) : gdi t (pps xs ys n) ds n n = tmG t xs ys ds n := by
  unfold gdi tmG
  exact List.map_congr_left fun j _ => pps_row t xs ys ds
theorem pps_out (t : Nat) (xs ys ds : List Int) (n : Nat) : (List.range n).map (fun j => wgs (tmG t xs ys ds n) n j n) = tmO t xs ys ds n n := by
  unfold tmO
  refine List.map_congr_left fun j hj => ?_
  unfold wgs tmf
  refine sm_ncongr fun i hi => ?_
  rw [tmG_getD t xs ys ds (List.mem_range.1 hj), tmR_getD t xs ys ds j hi]

/-- What Mul answers; no row of what was dealt is the list of the product. -/
def GtmA (t : Int) (xs ys ds : List Int) (n m q : Nat) (w : World) (e : Ending) (w' : World) : Prop :=
  ((∃ r, r ≠ 0 ∧ Gme t n m q r ∧ e = .returned (.tuple #[.slice none 0 0, .slice none 0 0, .int .i64 r])) ∨
   (Gme t n m q 0 ∧ ∃ v u L, e = .returned (.tuple #[v, u, .int .i64 0]) ∧ w'.ownsRow w.heap.size 42 1 v n ((tmO t.toNat xs ys ds n n).map (Value.int .u64)) ∧ LsV w' w.heap.size u L (tmG t.toNat xs ys ds n) ∧
      ∀ i, (L.getD i (.slice none 0 0)).ownBlock = none ∨ (L.getD i (.slice none 0 0)).ownBlock ≠ v.ownBlock)) ∧ Below w.heap.size w w'
theorem GtmA.rd {t : Int} {xs ys ds : List Int} {n m q : Nat} {w w' : World} {e : Ending} (h : GtmA t xs ys ds n m q w e w') : Gtm t xs ys ds n m q w e w' := by
  obtain ⟨h1 | ⟨h1, v, u, L, h2, h3, h4, _⟩, hb⟩ := h
  · exact ⟨.inl h1, hb⟩
  · exact ⟨.inr ⟨h1, v, u, L, h2, h3, h4⟩, hb⟩

theorem cGMulA (t : Int) (a : Option Addr) (n c : Nat) (xs : List Int) (b : Option Addr) (m d : Nat) (ys : List Int) (e0 : Option Addr) (q f : Nat) (ds : List Int) (w : World) (h : Rd w a n c xs) (g : Rd w b m d ys) (k : Rd w e0 q f ds) :
    Calls Tryd.prog 57 #[.int .i64 t, .slice a n c, .slice b m d, .slice e0 q f] w fun e w' => GtmA t xs ys ds n m q w e w' := by
  have hmx := h.max
  have hgx := g.max
  have hkx := k.max
  have hc := h.cap
  have gc := g.cap
  have kc := k.cap
  unfold maxLen at hmx hgx hkx
  by_cases h1 : t < 0
  · go_enter Tryd.func57, Tryd.ntmps57
    go_wp2
    go_ret3
    exact ⟨.inl ⟨1, by omega, .inl ⟨.inl h1, rfl⟩, rfl⟩, Below.refl _ _⟩
  · by_cases h2 : 4 < t
    · go_enter Tryd.func57, Tryd.ntmps57
      go_wp2
      go_ret3
      exact ⟨.inl ⟨1, by omega, .inl ⟨.inr h2, rfl⟩, rfl⟩, Below.refl _ _⟩
    · obtain ⟨k4, rfl⟩ : ∃ k : Nat, t = k := ⟨t.toNat, by omega⟩
      have HT : Hid (((k4 : Nat) : Int).toNat = k4) := by unfold Hid; omega
      go_enter Tryd.func57, Tryd.ntmps57
      go_wp2_with fail
      refine (cBothMul _ _ _ _ _ _ _ _ _ h g).mono ?_
      rintro e w1 ⟨⟨hn, rfl⟩ | ⟨hn, v, rfl, ho⟩, hb⟩
      · have HG : Hid (Gme k4 n m q 5) := .inr ⟨⟨by omega, by omega⟩, .inl ⟨hn, rfl⟩⟩
        clear hn
        go_wp2
        go_ret3
        exact ⟨.inl ⟨5, by omega, HG.out, rfl⟩, hb⟩
      · have HY : Hid (Wr2 n m) := hn
        clear hn
        obtain rfl : m = n := HY.out.2
        have hn1 := HY.out.1.1
        have hn9 := HY.out.1.2
        change w1.ownsRow _ _ _ _ _ ((pps xs ys m).map (Value.int .u64)) at ho
        obtain ⟨av, cv, rfl, hrv, _⟩ := Rd.own ho (pps_bd xs ys m)
        clear ho
        by_cases h3 : m < 2 * k4 + 1
        · have HG : Hid (Gme k4 m m q 4) := .inr ⟨⟨by omega, by omega⟩, .inr ⟨HY.out, .inl ⟨by omega, rfl⟩⟩⟩
          clear hrv
          go_wp2
          go_ret3
          exact ⟨.inl ⟨4, by omega, HG.out, rfl⟩, hb⟩
        · obtain ⟨P, HP⟩ : ∃ P, Hid (m * k4 = P) := ⟨_, rfl⟩
          have hP : (m : Int) * (k4 : Int) = (P : Int) := by rw [← HP.out]; push_cast; rfl
          have hP36 : P ≤ 36 := by rw [← HP.out]; exact Nat.le_trans (Nat.mul_le_mul hn9 (show k4 ≤ 4 by omega)) (by omega)
          by_cases hq : q = P
          · have hqb : ((q : Int) != (P : Int)) = false := by rw [bne_eq_false_iff_eq]; omega
            have HQ : Hid (q = m * k4) := by unfold Hid; rw [HP.out]; exact hq
            have HG : Hid (Gme k4 m m q 0) := .inr ⟨⟨by omega, by omega⟩, .inr ⟨HY.out, .inr ⟨by omega, .inr ⟨by rw [hP]; omega, rfl⟩⟩⟩⟩
            clear hq
            go_wp2_with fail
            refine (cDealAll _ _ _ _ _ _ _ _ _ _ hrv (k.below hb) (by omega) (by omega) hn9 HQ.out).mono ?_
            rintro e w2 ⟨u, L, rfl, hL, hb2⟩
            rw [pps_all] at hL
            have hL2 := hL.base hb.size
            have hb3 := hb.trans (hb2.mono hb.size)
            clear hL hb2 hP hrv hqb
            have HTR : Hid (∀ j, j < m → ((tmG k4 xs ys ds m).getD j []).length = m) := fun j hj => by rw [tmG_getD k4 xs ys ds hj, tmR_len]
            obtain ⟨au, cu, rfl, hru⟩ := hL2.rdR (tmG_len k4 xs ys ds m) (fun j hj => by rw [tmG_getD k4 xs ys ds hj]; exact bd_u64 (tmR_bd k4 xs ys ds m j))
            go_wp2_with fail
            refine (cWeigh _ _ _ _ _ hru hn1 hn9 HTR.out).mono ?_
            rintro e w3 ⟨v3, rfl, ho3, hb4⟩
            rw [pps_out] at ho3
            have ho4 := own_baseV ho3 hb3.size
            have hL4 := hL2.below hb4
            have HAP : Hid (∀ i, (L.getD i (.slice none 0 0)).ownBlock = none ∨ (L.getD i (.slice none 0 0)).ownBlock ≠ v3.ownBlock) := fun i => by
              cases hbk : (L.getD i (.slice none 0 0)).ownBlock with
              | none => exact .inl rfl
              | some g =>
                right
                intro e
                have h1 := (hL2.blk i g hbk).2
                have h2 := (ho3.lt g e.symm).1
                omega
            have hb5 := hb3.trans (hb4.mono hb3.size)
            clear ho3 hL2 hb3 hb4 hru HTR
            go_wp2
            go_ret3
            exact ⟨.inr ⟨HG.out, v3, _, L, rfl, by rw [HT.out]; exact ho4, by rw [HT.out]; exact hL4, HAP.out⟩, hb5⟩
          · have hqb : ((q : Int) != (P : Int)) = true := by rw [bne_iff_ne]; omega
            have HG : Hid (Gme k4 m m q 1) := .inr ⟨⟨by omega, by omega⟩, .inr ⟨HY.out, .inr ⟨by omega, .inl ⟨by rw [hP]; omega, rfl⟩⟩⟩⟩
            clear hq hrv
            go_wp2
            go_ret3
            exact ⟨.inl ⟨1, by omega, HG.out, rfl⟩, hb⟩

theorem cGMul (t : Int) (a : Option Addr) (n c : Nat) (xs : List Int) (b : Option Addr) (m d : Nat) (ys : List Int) (e0 : Option Addr) (q f : Nat) (ds : List Int) (w : World) (h : Rd w a n c xs) (g : Rd w b m d ys) (k : Rd w e0 q f ds) :
    Calls Tryd.prog 57 #[.int .i64 t, .slice a n c, .slice b m d, .slice e0 q f] w fun e w' => Gtm t xs ys ds n m q w e w' :=
  (cGMulA t a n c xs b m d ys e0 q f ds w h g k).mono fun _ _ h => h.rd
theorem PSt.row {G : List Gt} {ins ds : List Int} {w wr : World} {gp gs n t i p : Nat} {vi vd : Value} {Ls : List Value} {S : List (List Int)} {vW : Value} {LW : List Value} {lo hi c : Nat} {a : Option Addr} (h : PSt w wr gp gs n t vi vd Ls S vW LW (ewr G n t ins ds i) lo hi) (hp : p < i) (e : LW.getD p (.slice none 0 0) = .slice a n c) : Rd wr a n c (ew G n t ins ds p) := by
  obtain ⟨a', c', e', hr⟩ := h.sen.wires.one (ewr_len G n t ins ds i) hp (by rw [ewr_getD G n t ins ds hp]; exact bd_u64 (ew_bd _ _ _ _ _ _))
  rw [ewr_getD G n t ins ds hp, ew_len] at e' hr
  rw [e] at e'
  simp only [Value.slice.injEq, true_and] at e'
  obtain ⟨rfl, rfl⟩ := e'
  exact hr
theorem keep_lsv {wr w' : World} {lo hi B : Nat} {v : Value} {L : List Value} {rows : List (List Int)} (hk : ∀ (B2 z k : Nat) (E : TypeId) (v : Value) (xs : List Value), wr.ownsRow B2 E z v k xs → Btw lo hi v → w'.ownsRow B2 E z v k xs) (h : LsV wr B v L rows) (hv : Btw lo hi v) (hL : ∀ i, Btw lo hi (L.getD i (.slice none 0 0))) : LsV w' B v L rows :=
  ⟨hk _ _ _ _ _ _ h.own hv, h.len, fun i hi => hk _ _ _ _ _ _ (h.row i hi) (hL i), h.inj⟩

theorem blk_off {w : World} {g B z k : Nat} {cur : Array Value} {E E' : TypeId} {v : Value} {xs : List Value} (hb : w.heap[g]? = some (.cells cur E (0, 0))) (ho : w.ownsRow B E' z v k xs) (hE : E ≠ E') : some g ≠ v.ownBlock := by
  rcases ho.2 with ⟨rfl, _⟩ | ⟨g', cap, cur', rfl, _, hg, _⟩
  · simp [Value.ownBlock]
  · intro e
    simp only [Value.ownBlock, Option.some.injEq] at e
    subst e
    rw [hg] at hb
    simp only [Option.some.injEq, Obj.cells.injEq] at hb
    exact hE hb.2.1.symm
/-- A block of another kind stays while what is seen grows. -/
theorem PSt.keepB {w wr w' : World} {gp gs n t j : Nat} {vi vd : Value} {Ls : List Value} {S : List (List Int)} {row xs : List Int} {vW : Value} {LW : List Value} {W : List (List Int)} {lo hi : Nat} (h : PSt w wr gp gs n t vi vd Ls S vW LW W lo hi) (hj : j < n) (hs : Seen w wr gs j (Ls.getD j (.slice none 0 0)) row xs w') {g : Nat} {cur : Array Value} {E : TypeId} (hb : wr.heap[g]? = some (.cells cur E (0, 0))) (hE1 : E ≠ 42) (hE2 : E ≠ 26) : w'.heap[g]? = some (.cells cur E (0, 0)) := by
  obtain ⟨w7, v7, rfl, ho, hg, hat⟩ := hs
  have hl := (Array.getElem?_eq_some_iff.1 hb).1
  have h7 : w7.heap[g]? = some (.cells cur E (0, 0)) := by rw [hg.block g hl (blk_off hb (h.sen.seen.row j (by rw [h.sen.len]; exact hj)) hE1)]; exact hb
  rw [(grown_set w7 gs j v7).block g (Array.getElem?_eq_some_iff.1 h7).1 (blk_off hb h.sen.seen.own hE2)]
  exact h7

theorem eMultiply {G : List Gt} {n t : Nat} {ins ds : List Int} {w wr : World} {gp gs i N q d lo hh pa pb c1 c3 : Nat} {vi vd vW : Value} {Ls LW : List Value} {a1 a3 : Option Addr} (h : PSt w wr gp gs n t vi vd Ls (sgl G n t ins ds i) vW LW (ewr G n t ins ds i) lo hh)
    (hvi : Lft w ins q (ci G i) vi) (hvd : Lft w ds d (dwn G n t i) vd) (hg : (gt G i).k = 5) (ha : (gt G i).a = (pa : Int)) (hpa : pa < i) (hb : (gt G i).b = (pb : Int)) (hpb : pb < i) (ea : LW.getD pa (.slice none 0 0) = .slice a1 n c1) (eb : LW.getD pb (.slice none 0 0) = .slice a3 n c3) (hi : i < N) (hN : N ≤ 30) (hd : d = dwn G n t N) (hn : 2 * t + 1 ≤ n) (hn9 : n ≤ 9) {gb : Nat} {cur : Array Value} {E : TypeId} (hgb : wr.heap[gb]? = some (.cells cur E (0, 0))) (hE1 : E ≠ 42) (hE2 : E ≠ 26) (hE3 : E ≠ 66) :
    Calls Tryd.prog 39 #[.pointer (some ⟨gp, 0, none⟩), .slice a1 n c1, .slice a3 n c3] wr fun e w' => ∃ u, e = .returned u ∧ Pgt G n t ins ds q d w gp gs i vW LW u w' ∧ w'.heap[gb]? = some (.cells cur E (0, 0)) := by
  obtain ⟨a2, c2, rfl, r2⟩ := hvd
  obtain ⟨P, HP⟩ : ∃ P, Hid (n * t = P) := ⟨_, rfl⟩
  have hP36 : P ≤ 36 := by rw [← HP.out]; exact Nat.mul_le_mul hn9 (show t ≤ 4 by omega)
  have hPI : (n : Int) * (t : Int) = (P : Int) := by rw [← HP.out]; push_cast; rfl
  have HD2 : Hid (dwn G n t (i + 1) = dwn G n t i + P) := by unfold Hid; rw [dwn, if_neg (by omega), if_pos hg, HP.out]
  have hD : dwn G n t i + P ≤ d := by
    rw [← HD2.out, hd]
    exact dwn_mono G n t (by omega)
  have HE : Hid (ew G n t ins ds i = tmO t (ew G n t ins ds pa) (ew G n t ins ds pb) (edr G n t ds i (n * t)) n n) := ew_mul hg ha hpa hb hpb
  have HEN : Hid (∀ j, esn G n t ins ds i j = tmR t (ew G n t ins ds pa) (ew G n t ins ds pb) (edr G n t ds i (n * t)) n j) := fun j => by unfold esn; rw [if_neg (by omega), if_pos hg, ha, hb, Int.toNat_natCast, Int.toNat_natCast]
  have HV1 : Hid (Lft w ins q (ci G (i + 1)) vi) := by unfold Hid; rw [ci_no (by omega)]; exact hvi
  obtain ⟨D, HD⟩ : ∃ D, Hid (dwn G n t i = D) := ⟨_, rfl⟩
  rw [HD.out] at hD r2 HD2 h
  have HED : Hid ((ds.drop D).take P = edr G n t ds i (n * t)) := by unfold Hid edr; rw [HD.out, HP.out]
  obtain ⟨Y, HY⟩ : ∃ Y, Hid (edr G n t ds i (n * t) = Y) := ⟨_, rfl⟩
  rw [HY.out] at HE HEN HED
  obtain ⟨K, HK⟩ : ∃ K, Hid (d - D = K) := ⟨_, rfl⟩
  have hK : P ≤ K := by have := HK.out; omega
  rw [HK.out] at r2 h
  have hcap2 := r2.cap
  have r2' := r2.sub (lo := P) (k := K - P) (by omega)
  have r3 := r2.take hK
  rw [HED.out] at r3
  obtain ⟨X2, HX2⟩ : ∃ X2, Hid (subA a2 c2 P = X2) := ⟨_, rfl⟩
  rw [HX2.out] at r2'
  have HV2 : Hid (Lft w ds d (dwn G n t (i + 1)) (.slice X2 (K - P) (c2 - P))) := by
    unfold Hid
    rw [HD2.out]
    refine Lft.nil ?_ (by have := HK.out; omega)
    rw [List.drop_drop, List.take_of_length_le (by have := r2.len; simp at this; simp; omega)] at r2'
    exact r2'
  obtain ⟨f0, f1, _, _, _, _⟩ := h.box.cells
  have hlp := h.box.lt
  have hPD := h.drew
  have HP3 : Hid (∀ w3, w3 = wr.drew.setCell ⟨gp, 3, none⟩ (.slice X2 (K - P) (c2 - P)) → PSt w w3 gp gs n t vi (.slice X2 (K - P) (c2 - P)) Ls (sgx (sng G n t ins ds i) (esn G n t ins ds i) n 0) vW LW (ewr G n t ins ds i) lo hh ∧ w3.heap[gb]? = some (.cells cur E (0, 0))) := fun w3 e => by
    subst e
    rw [← sgl_first]
    refine ⟨hPD.turn (grown_set _ _ _ _) (hPD.box.set3 _), ?_⟩
    rw [(grown_set wr.drew gp 3 _).block gb (Array.getElem?_eq_some_iff.1 hgb).1 (fun e => ?_)]
    · exact hgb
    · obtain rfl := Option.some.inj e
      have hbx : wr.heap[gb]? = _ := hPD.box
      rw [hgb] at hbx
      simp only [Option.some.injEq, Obj.cells.injEq] at hbx
      exact hE3 hbx.2.1
  have hwP : IntKind.i64.wrap (P : Int) = (P : Int) := by rw [IntKind.wrap_i64]; omega
  have HOK : Hid (Gme (t : Int) n n P 0) := .inr ⟨⟨by omega, by omega⟩, .inr ⟨⟨⟨by omega, hn9⟩, rfl⟩, .inr ⟨by omega, .inr ⟨by rw [hPI], rfl⟩⟩⟩⟩
  clear hvi r2' h hgb
  go_enter Tryd.func39, Tryd.ntmps39
  go_upto_region 1 with fail
  go_region_held3 (fun w' => w'.cell? ⟨gp, 0, none⟩ = some (.int .i64 (n : Int)) ∧ w'.cell? ⟨gp, 1, none⟩ = some (.int .i64 (t : Int))) (go_keep) (first | (go_at_call 52; refine (eDraw gp n t _ _ _ a2 K c2 P _ hPD.box r2.nil hK hcap2).mono ?_; rintro en w3 ⟨rfl, hw3⟩; rw [HX2.out] at hw3; obtain ⟨hP3, hgb3⟩ := HP3.out w3 hw3; clear hw3; obtain ⟨g0, g1, _, _, _, _⟩ := hP3.box.cells; have hl3 := hP3.box.lt) | (go_at_call 57; refine (cGMul (t : Int) a1 n c1 _ a3 n c3 _ a2 P c2 _ _ (hP3.row hpa ea) (hP3.row hpb eb) (r3.below hP3.sen.bel)).mono ?_; rintro en w5 ⟨⟨r, hr, hE, _⟩ | ⟨_, v, u, L, rfl, ho, hL⟩, hb5⟩; exact absurd (hE.one HOK.out) hr; have hP5 := hP3.fresh (by omega) hb5; have hgb5 := (hb5.block gb (Array.getElem?_eq_some_iff.1 hgb3).1).trans hgb3; obtain ⟨i0, i1, _, _, _, _⟩ := hP5.box.cells; have hl5 := hP5.box.lt))
  all_goals
    rw [Int.toNat_natCast] at ho hL
    have hgl0 : (tmG t (ew G n t ins ds pa) (ew G n t ins ds pb) Y n).length = n := tmG_len _ _ _ _ _
    have hgo := hL.own
    rw [hgl0] at hgo
    obtain ⟨gg, cgt, rfl, _, _, hcv, hcv2⟩ := own_atZ hgo (by omega)
    unfold maxLen at hcv2
    rw [← HE.out] at ho
    have HBt : Hid (Btw w3.heap.size w5.heap.size v) := fun b hb => ho.lt b hb
    have HBu : Hid (Btw w3.heap.size w5.heap.size (.slice (some ⟨gg, 0, none⟩) n cgt)) := fun b hb => hL.own.lt b hb
    have HBL : Hid (∀ p, Btw w3.heap.size w5.heap.size (L.getD p (.slice none 0 0))) := fun p b hb => hL.blk p b hb
    have ho5 := own_baseV ho hP3.sen.bel.size
    have HLW : Hid (∀ p b, (LW.getD p (.slice none 0 0)).ownBlock = some b → b < w3.heap.size) := fun p b hb => (hP3.sen.wires.blk p b hb).2
    clear ho hb5 hP3 hgb3 r2 r3 hPD HP3 g0 g1 hl3 i0 i1 hl5 f0 f1 hgo
    go_wp2
    go_loopw [36] (fun s wq => ∃ (j : Nat) (Ls : List Value), j ≤ n ∧ s = .int .i64 j ∧ PSt w wq gp gs n t vi (.slice X2 (K - P) (c2 - P)) Ls (sgx (sng G n t ins ds i) (esn G n t ins ds i) n j) vW LW (ewr G n t ins ds i) w3.heap.size w5.heap.size ∧ wq.ownsRow w.heap.size 42 1 v n ((ew G n t ins ds i).map (Value.int .u64)) ∧ LsV wq w3.heap.size (.slice (some ⟨gg, 0, none⟩) n cgt) L (tmG t (ew G n t ins ds pa) (ew G n t ins ds pb) Y n) ∧ Hid (wq.heap[gb]? = some (.cells cur E (0, 0)))) (fun s _ => n - (intOf s).toNat)
    case atStart => exact ⟨0, Ls, Nat.zero_le _, rfl, hP5, ho5, hL, hgb5⟩
    case round =>
      clear hP5 ho5 hL hgb5
      obtain ⟨j, Ls, hj, rfl, hP, ho, hL, HGB⟩ := hrel
      by_cases hjn : j < n
      · obtain ⟨eg1, _, eg3⟩ := hL.cell hgl0 hjn
        obtain ⟨a6, c6, eg4, r6⟩ := hL.one hgl0 hjn (by rw [tmG_getD _ _ _ _ hjn]; exact bd_u64 (tmR_bd _ _ _ _ _ _))
        rw [tmG_getD _ _ _ _ hjn, tmR_len] at eg4 r6
        rw [eg4] at eg1
        have hsb := sng_bound G n t ins ds i j hn9
        have hj0 : (0 : Int) ≤ (j : Int) := by omega
        have hjni : (j : Int) < (n : Int) := by omega
        go_wp2_with fail
        refine (eSee hP hjn (by rw [HEN.out]; exact r6) (by omega) (by omega) (by omega)).mono ?_
        rintro e w8 ⟨rfl, hs⟩
        obtain ⟨⟨Ls', hP'⟩, hkeep⟩ := hP.seen hjn hs
        have ho' := hkeep _ _ _ _ _ _ ho HBt.out
        have hL' := keep_lsv hkeep hL HBu.out HBL.out
        have HGB' : Hid (w8.heap[gb]? = some (.cells cur E (0, 0))) := hP.keepB hjn hs HGB.out hE1 hE2
        clear hP ho hL hs hkeep eg1 eg3 r6
        go_wp2
        go_roundw
        case rel => exact ⟨j + 1, Ls', by omega, by go_num, hP', ho', hL', HGB'⟩
        case measure => simp [intOf]; omega
      · have hjn2 : j = n := by omega
        subst hjn2
        rw [sgl_next] at hP
        go_wp2
        go_ret
        exact ⟨_, rfl, ⟨_, _, Ls, _, _, hP, HV1.out, HV2.out, ho, HBt.out, HLW.out⟩, HGB.out⟩
theorem cOpenS (a : Option Addr) (n c : Nat) (l : List (Int × Int)) (t : Int) (w : World) (h : RdS w a n c l) :
    Calls Tryd.prog 42 #[.int .i64 t, .slice a n c] w fun e w' => ∃ x r, e = .returned (.tuple #[.int .u64 x, .int .i64 r]) ∧ Opn l n t x r ∧ Below w.heap.size w w' := by
  go_enter Tryd.func42, Tryd.ntmps42
  go_wp2_with fail
  refine (cCheckS _ _ _ _ _ _ h).mono ?_
  rintro e w1 ⟨r, rfl, hS, hb1⟩
  by_cases hr : r = 0
  · subst hr
    have HS : Hid (She l n t 0) := hS
    obtain ⟨t0, t4, hd, htn, hn9⟩ := hS.ok
    have HD : Hid (okk l n) := dis_okk hd
    clear hd hS
    go_wp2_with fail
    refine (cThroughOK _ _ _ _ _ (h.below hb1) (by omega) HD.out).mono ?_
    rintro e w2 ⟨S, g, rfl, hls, hbs, hvs, hr2, hb2⟩
    have HO : Hid (_ ∧ _) := opn_newton HS.out hls hbs hvs
    have hb12 := hb1.trans (hb2.mono hb1.size)
    have htl := tl_le S n
    obtain ⟨T, hT⟩ : ∃ T, T = tl S n := ⟨_, rfl⟩
    rw [← hT] at hr2 HO htl ⊢
    clear hls hbs hvs hb1 hb2 hT
    by_cases hlt : (T : Int) ≤ t + 1
    · have HN : Hid (Opn l n t (nm (ev (trm S) 0)) 0) := HO.out.1 hlt
      clear HO
      go_wp2_with fail
      refine (cEvalOK _ _ _ _ _ _ hr2 (by omega) (by omega) (by omega)).mono ?_
      rintro e w3 ⟨rfl, hb3⟩
      have hb13 := hb12.trans (hb3.mono hb12.size)
      clear hb3 hr2
      go_wp2
      go_ret2
      exact ⟨_, _, rfl, HN.out, hb13⟩
    · have HN : Hid (Opn l n t 0 6) := HO.out.2 (by omega)
      clear HO
      go_wp2
      go_ret2
      exact ⟨_, _, rfl, HN.out, hb12⟩
  · have hrb : (r != 0) = true := by rw [bne_iff_ne]; exact hr
    have HS : Hid (Opn l n t 0 r) := Or.inl ⟨hS, hr, rfl⟩
    clear hr hS
    go_wp2
    go_ret2
    exact ⟨_, _, rfl, HS.out, hb1⟩
/-- At which party a row stands; its numbers. -/
def ta (l : List (Int × List Int)) (i : Nat) : Int := (l.getD i (0, [])).1
def tc (l : List (Int × List Int)) (i : Nat) : List Int := (l.getD i (0, [])).2

/-- The slice reads as the rows l. -/
structure RdW (w : World) (a : Option Addr) (n c : Nat) (l : List (Int × List Int)) : Prop where
  len : l.length = n
  cap : n ≤ c
  max : c ≤ maxLen
  nil : a = none → c = 0
  bd : ∀ i, i < n → -9223372036854775808 ≤ ta l i ∧ ta l i ≤ 9223372036854775807
  row : ∀ x, a = some x → ∀ i, i < n → w.cell? (x.add (i * 2)) = some (.int .i64 (ta l i)) ∧ ∃ ai ci, w.cell? (x.add (i * 2 + 1)) = some (.slice ai (tc l i).length ci) ∧ Rd w ai (tc l i).length ci (tc l i)

theorem RdW.at {w : World} {a : Option Addr} {n c : Nat} {l : List (Int × List Int)} (h : RdW w a n c l) {k : Nat} (hk : k < n) :
    ∃ b o, a = some ⟨b, o, none⟩ ∧ b < w.heap.size ∧ ∀ i, i < n → w.cell? ⟨b, o + i * 2, none⟩ = some (.int .i64 (ta l i)) ∧ ∃ ai ci, w.cell? ⟨b, o + i * 2 + 1, none⟩ = some (.slice ai (tc l i).length ci) ∧ Rd w ai (tc l i).length ci (tc l i) := by
  cases ha : a with
  | none => have := h.nil ha; have := h.cap; omega
  | some x =>
    have h0 := (h.row x ha 0 (by omega)).1
    have hs : x.spot = none := by
      have := spot_none h0
      unfold Addr.add at this
      split at this <;> simp_all
    obtain ⟨b, o, s⟩ := x
    simp only at hs
    subst hs
    refine ⟨b, o, rfl, ?_, fun i hi => by have := h.row _ ha i hi; rwa [Addr.add_lit, Addr.add_lit, ← Nat.add_assoc] at this⟩
    have := World.block_lt_of_cell? w _ h0
    rwa [Addr.add_lit] at this
/-- One row of it, by names of its own. -/
theorem RdW.one {w : World} {a : Option Addr} {n c : Nat} {l : List (Int × List Int)} (h : RdW w a n c l) {k : Nat} (hk : k < n) :
    ∃ b o x ai ni ci row, a = some ⟨b, o, none⟩ ∧ b < w.heap.size ∧ Hid (ta l k = x) ∧ Hid (tc l k = row) ∧ -9223372036854775808 ≤ x ∧ x ≤ 9223372036854775807 ∧ w.cell? ⟨b, o + k * 2, none⟩ = some (.int .i64 x) ∧ w.cell? ⟨b, o + k * 2 + 1, none⟩ = some (.slice ai ni ci) ∧ Rd w ai ni ci row := by
  obtain ⟨b, o, ha, hb, hr⟩ := h.at hk
  obtain ⟨h0, ai, ci, h1, h2⟩ := hr k hk
  have := h.bd k hk
  exact ⟨b, o, _, ai, _, ci, _, ha, hb, rfl, rfl, this.1, this.2, h0, h1, h2⟩
theorem RdW.below {w w' : World} {a : Option Addr} {n c : Nat} {l : List (Int × List Int)} (h : RdW w a n c l) (hb : Below w.heap.size w w') : RdW w' a n c l := by
  refine ⟨h.len, h.cap, h.max, h.nil, h.bd, fun x hx i hi => ?_⟩
  obtain ⟨h0, ai, ci, h1, h2⟩ := h.row x hx i hi
  exact ⟨by rw [hb.cell (World.block_lt_of_cell? w _ h0)]; exact h0, ai, ci, by rw [hb.cell (World.block_lt_of_cell? w _ h1)]; exact h1, h2.below hb⟩
/-- Rows that may be. -/
def Rwk (l : List (Int × List Int)) (n : Nat) : Prop := ∀ i, i < n → ((1 ≤ ta l i ∧ ta l i ≤ 9) ∧ ∀ j, j < i → ta l j ≠ ta l i) ∧ 1 ≤ (tc l i).length ∧ (tc l i).length ≤ 5
theorem Rwk.dis {l : List (Int × List Int)} {n : Nat} (h : Rwk l n) : dis (ta l) n := fun i hi => (h i hi).1
end
section
open Crm
/-- F, column by column: symmetrical, and all rows have its numbers. -/
structure TwF (l : List (Int × List Int)) (n t : Nat) (G : Nat → List Int) : Prop where
  le : ∀ j, j ≤ t → (G j).length ≤ t + 1
  sym : ∀ i j, i ≤ t → j ≤ t → nm ((G i).getD j 0) = nm ((G j).getD i 0)
  val : ∀ j, j ≤ t → ∀ r, r < n → nm (ev (G j) (ta l r)) = nm ((tc l r).getD j 0)
/-- Rows of t + 1 numbers each. -/
def Rwt (l : List (Int × List Int)) (n t : Nat) : Prop := Rwk l n ∧ ∀ i, i < n → (tc l i).length = t + 1
/-- What Join tells. -/
def Jnd (l : List (Int × List Int)) (n : Nat) (t x r : Int) : Prop :=
  ((t < 0 ∨ 4 < t) ∧ x = 0 ∧ r = 1) ∨ ∃ k : Nat, t = (k : Int) ∧ k ≤ 4 ∧
    ((¬ Rwt l n k ∧ x = 0 ∧ r = 5) ∨ (Rwt l n k ∧ n ≤ k ∧ x = 0 ∧ r = 4) ∨ (Rwt l n k ∧ k < n ∧ ((∃ G, TwF l n k G ∧ x = nm ((G 0).getD 0 0) ∧ r = 0) ∨ ((∀ G, ¬ TwF l n k G) ∧ x = 0 ∧ r = 6))))

theorem col_one {l : List (Int × List Int)} {n t : Nat} {p q : List Int} (hd : dis (ta l) n) (hn : t < n) (hp : p.length ≤ t + 1) (hq : q.length ≤ t + 1) (h : ∀ r, r < n → nm (ev p (ta l r)) = nm (ev q (ta l r))) : nrm p = nrm q := by
  have hw : ∀ j, j < n → ((List.range n).map fun i => (ta l i, ev p (ta l i))).getD j (0, 0) = (ta l j, ev p (ta l j)) := fun j hj => by simp [hj]
  refine hs_one (l := (List.range n).map fun i => (ta l i, ev p (ta l i))) (n := n) (fun j hj => ?_) (fun j hj => ?_) (fun j hj => ?_) (by omega) (by omega)
  · rw [hw j hj]
    have h1 := hd j hj
    refine ⟨⟨h1.1.1, by simp only; omega⟩, fun q hq => ?_⟩
    rw [hw q (by omega)]
    exact h1.2 q hq
  · rw [hw j hj]
  · rw [hw j hj]; exact (h j hj).symm
/-- There is but one F. -/
theorem twf_one {l : List (Int × List Int)} {n t : Nat} {G K : Nat → List Int} (hd : dis (ta l) n) (hn : t < n) (h : TwF l n t G) (k : TwF l n t K) {j : Nat} (hj : j ≤ t) : nrm (G j) = nrm (K j) :=
  col_one hd hn (h.le j hj) (k.le j hj) fun r hr => by rw [h.val j hj r hr, k.val j hj r hr]
theorem Jnd.one {l : List (Int × List Int)} {n : Nat} {t x r y s : Int} (h : Jnd l n t x r) (k : Jnd l n t y s) : x = y ∧ r = s := by
  rcases h with ⟨h1, rfl, rfl⟩ | ⟨a, rfl, ha, h⟩ <;> rcases k with ⟨k1, rfl, rfl⟩ | ⟨b, hb, hb4, k⟩
  · exact ⟨rfl, rfl⟩
  · exfalso; omega
  · exfalso; omega
  · obtain rfl : a = b := by omega
    rcases h with ⟨h1, rfl, rfl⟩ | ⟨h1, h2, rfl, rfl⟩ | ⟨h1, h2, h3⟩ <;> rcases k with ⟨k1, rfl, rfl⟩ | ⟨k1, k2, rfl, rfl⟩ | ⟨k1, k2, k3⟩
    all_goals first
      | exact ⟨rfl, rfl⟩
      | exact absurd k1 h1
      | exact absurd h1 k1
      | (exfalso; omega)
      | skip
    rcases h3 with ⟨G, g1, rfl, rfl⟩ | ⟨g1, rfl, rfl⟩ <;> rcases k3 with ⟨K, e1, rfl, rfl⟩ | ⟨e1, rfl, rfl⟩
    · have := twf_one h1.1.dis h2 g1 e1 (Nat.zero_le a)
      exact ⟨by rw [← nrm_getD, ← nrm_getD, this], rfl⟩
    · exact absurd g1 (e1 G)
    · exact absurd e1 (g1 K)
    · exact ⟨rfl, rfl⟩

/-- Rows of i and of j tell different things where they meet. -/
def Dif (l : List (Int × List Int)) (n : Nat) (i j : Int) : Prop := ∃ r s, r < n ∧ s < n ∧ ta l r = i ∧ ta l s = j ∧ nm (ev (tc l r) j) ≠ nm (ev (tc l s) i)
/-- Pairs go up. -/
def lexp (a b : Int × Int) : Prop := a.1 < b.1 ∨ (a.1 = b.1 ∧ a.2 < b.2)
/-- What Pairs tells: all pairs that don't meet, going up. -/
structure Prs (l : List (Int × List Int)) (n : Nat) (L : List (Int × Int)) : Prop where
  up : L.Pairwise lexp
  mem : ∀ i j, (i, j) ∈ L ↔ (i < j ∧ Dif l n i j)
theorem lex_ext : ∀ {L K : List (Int × Int)}, L.Pairwise lexp → K.Pairwise lexp → (∀ x, x ∈ L ↔ x ∈ K) → L = K
  | [], [], _, _, _ => rfl
  | [], b :: K, _, _, h => by have := (h b).2 (by simp); simp at this
  | a :: L, [], _, _, h => by have := (h a).1 (by simp); simp at this
  | a :: L, b :: K, hL, hK, h => by
    rw [List.pairwise_cons] at hL hK
    have e : a = b := by
      rcases List.mem_cons.1 ((h a).1 (by simp)) with e | e
      · exact e
      · rcases List.mem_cons.1 ((h b).2 (by simp)) with e' | e'
        · exact e'.symm
        · have h1 := hL.1 b e'
          have h2 := hK.1 a e
          unfold lexp at h1 h2
          exfalso; omega
    subst e
    congr 1
    refine lex_ext hL.2 hK.2 fun x => ⟨fun hx => ?_, fun hx => ?_⟩
    · rcases List.mem_cons.1 ((h x).1 (List.mem_cons_of_mem _ hx)) with e | e
      · subst e
        have := hL.1 x hx
        unfold lexp at this
        exfalso; omega
      · exact e
    · rcases List.mem_cons.1 ((h x).2 (List.mem_cons_of_mem _ hx)) with e | e
      · subst e
        have := hK.1 x hx
        unfold lexp at this
        exfalso; omega
      · exact e
theorem Prs.one {l : List (Int × List Int)} {n : Nat} {L K : List (Int × Int)} (h : Prs l n L) (k : Prs l n K) : L = K :=
  lex_ext h.up k.up fun x => by obtain ⟨i, j⟩ := x; rw [h.mem, k.mem]
/-- Who of the first k has another number than p tells. -/
def bdl (l : List (Int × Int)) (p : List Int) : Nat → List Int
  | 0 => []
  | k + 1 => if nm (ev p (l.getD k (0, 0)).1) = nm (l.getD k (0, 0)).2 then bdl l p k else bdl l p k ++ [(l.getD k (0, 0)).1]
theorem bdl_ok {l : List (Int × Int)} {p : List Int} {k : Nat} (h : nm (ev p (l.getD k (0, 0)).1) = nm (l.getD k (0, 0)).2) : bdl l p (k + 1) = bdl l p k := by rw [bdl, if_pos h]
theorem bdl_bad {l : List (Int × Int)} {p : List Int} {k : Nat} (h : ¬ nm (ev p (l.getD k (0, 0)).1) = nm (l.getD k (0, 0)).2) : bdl l p (k + 1) = bdl l p k ++ [(l.getD k (0, 0)).1] := by rw [bdl, if_neg h]
/-- As a filter. -/
def badb (p : List Int) (q : Int × Int) : Bool := !decide (nm (ev p q.1) = nm q.2)
theorem bdl_take (l : List (Int × Int)) (p : List Int) : ∀ k, k ≤ l.length → bdl l p k = ((l.take k).filter (badb p)).map Prod.fst
  | 0, _ => by simp [bdl]
  | k + 1, h => by
    have ih := bdl_take l p k (by omega)
    have e : l.getD k (0, 0) = l[k]'(by omega) := by simp [List.getElem?_eq_getElem (show k < l.length by omega)]
    rw [List.take_succ_eq_append_getElem (show k < l.length by omega), List.filter_append, List.map_append, ← ih]
    by_cases hb : nm (ev p (l.getD k (0, 0)).1) = nm (l.getD k (0, 0)).2
    · rw [bdl_ok hb]
      rw [e] at hb
      simp [badb, hb]
    · rw [bdl_bad hb, e]
      rw [e] at hb
      simp [badb, hb]
theorem bdl_all (l : List (Int × Int)) (p : List Int) : bdl l p l.length = (l.filter (badb p)).map Prod.fst := by
  have := bdl_take l p l.length (Nat.le_refl _)
  rwa [List.take_length] at this
theorem badb_same {p q : List Int} (h : nrm p = nrm q) (x : Int × Int) : badb p x = badb q x := by
  unfold badb
  rw [ev_one h]
theorem bdl_same {p q : List Int} (h : nrm p = nrm q) (l : List (Int × Int)) : bdl l p l.length = bdl l q l.length := by
  rw [bdl_all, bdl_all]
  congr 1
  exact List.filter_congr fun x _ => badb_same h x

/-- Those that both polynomials have. -/
def both (l : List (Int × Int)) (p q : List Int) : List (Int × Int) := l.filter fun x => !badb p x && !badb q x
theorem both_len (l : List (Int × Int)) (p q : List Int) : l.length ≤ (both l p q).length + (l.filter (badb p)).length + (l.filter (badb q)).length := by
  unfold both
  induction l with
  | nil => simp
  | cons a l ih =>
    cases h1 : badb p a <;> cases h2 : badb q a <;> simp [h1, h2] <;> omega
theorem both_pair {l : List (Int × Int)} {n : Nat} (hl : l.length = n) (hd : dis (fa l) n) (p q : List Int) : (ats (both l p q)).Pairwise (fun a b => nm (a - b) ≠ 0) := by
  have h1 := ats_pair hl (dis_okk hd)
  unfold ats at h1 ⊢
  rw [List.pairwise_map] at h1 ⊢
  exact h1.filter _
/-- Two that have all shares but a few are one. -/
theorem dec_one {l : List (Int × Int)} {n t e : Nat} {p q : List Int} (hl : l.length = n) (hd : dis (fa l) n) (hn : t + 1 + 2 * e ≤ n) (hp : p.length ≤ t + 1) (hq : q.length ≤ t + 1) (h1 : (bdl l p n).length ≤ e) (h2 : (bdl l q n).length ≤ e) : nrm p = nrm q := by
  have hb := both_len l p q
  rw [← hl, bdl_all, List.length_map] at h1 h2
  have ha := ats_len (both l p q)
  refine same_poly (both_pair hl hd p q) (fun c hc => ?_) (by omega) (by omega)
  obtain ⟨x, hx, rfl⟩ := List.mem_map.1 hc
  unfold both at hx
  have hx2 := (List.mem_filter.1 hx).2
  simp only [Bool.and_eq_true, Bool.not_eq_true', badb, Bool.not_eq_false', decide_eq_true_eq] at hx2
  rw [hx2.1, hx2.2]

/-- A choice of shares, bit by bit; and the others. -/
def slt (l : List (Int × Int)) (s : Nat) : Nat → List (Int × Int)
  | 0 => []
  | k + 1 => if s / 2 ^ k % 2 = 1 then slt l s k ++ [l.getD k (0, 0)] else slt l s k
structure OuI (L0 L : List Int) (i : Nat) : Prop where
  perm : L.Perm L0
  srt : ∀ p q, p < q → q < i → L.getD p 0 ≤ L.getD q 0
theorem OuI.pair {L0 L : List Int} {n : Nat} (h : OuI L0 L n) (hl : L.length = n) : L.Pairwise (· ≤ ·) := by
  rw [List.pairwise_iff_getElem]
  intro i j hi hj hij
  have := h.srt i j hij (by omega)
  simpa [List.getElem?_eq_getElem hi, List.getElem?_eq_getElem hj] using this
/-- There is but one order. -/
theorem srt_one {L0 L1 A B : List Int} {n m : Nat} (h : OuI L0 A n) (k : OuI L1 B m) (hp : L0.Perm L1) (hA : A.length = n) (hB : B.length = m) : A = B :=
  List.Perm.eq_of_pairwise (le := (· ≤ ·)) (fun _ _ _ _ h1 h2 => Int.le_antisymm h1 h2) (h.pair hA) (k.pair hB) ((h.perm.trans hp).trans k.perm.symm)
/-- The m numbers of a polynomial, noughts at the end too. -/
def pdn (p : List Int) (m : Nat) : List Int := (List.range m).map fun i => nm (p.getD i 0)
theorem pdn_len (p : List Int) (m : Nat) : (pdn p m).length = m := by simp [pdn]
theorem pdn_getD (p : List Int) {m i : Nat} (h : i < m) : (pdn p m).getD i 0 = nm (p.getD i 0) := by simp [pdn, h]
theorem pdn_same {p q : List Int} (h : nrm p = nrm q) (m : Nat) : pdn p m = pdn q m := by
  refine list_ext (by rw [pdn_len, pdn_len]) fun i hi => ?_
  rw [pdn_len] at hi
  rw [pdn_getD p hi, pdn_getD q hi, ← nrm_getD, ← nrm_getD, h]
/-- Shares that are good enough for Decode: none of them twice; there may be too few. -/
def Shd (l : List (Int × Int)) (n : Nat) (t : Int) : Prop := (0 ≤ t ∧ t ≤ 4) ∧ dis (fa l) n
theorem Shd.she {l : List (Int × Int)} {n : Nat} {t r : Int} (h : Shd l n t) (k : She l n t r) : r = 0 ∨ r = 4 := by
  rcases k with ⟨k1, _⟩ | ⟨_, k3, _⟩ | ⟨_, _, _, k2⟩ | ⟨_, _, _, k2⟩
  · have := h.1; omega
  · exact absurd h.2 k3
  · exact Or.inr k2
  · exact Or.inl k2

/-- A polynomial of t + 1 numbers that has all shares but e. -/
def Few (l : List (Int × Int)) (n : Nat) (t e : Int) (p : List Int) : Prop := (p.length : Int) ≤ t + 1 ∧ ((bdl l p n).length : Int) ≤ e
/-- What Decode tells. -/
def Dcd (l : List (Int × Int)) (n : Nat) (t e : Int) (P B : List Int) (r : Int) : Prop :=
  ((She l n t r ∧ r ≠ 0 ∧ r ≠ 4) ∧ P = [] ∧ B = []) ∨
  (Shd l n t ∧ (e < 0 ∨ 4 < e) ∧ P = [] ∧ B = [] ∧ r = 1) ∨
  (Shd l n t ∧ (0 ≤ e ∧ e ≤ 4) ∧ (n : Int) < t + 1 + 2 * e ∧ P = [] ∧ B = [] ∧ r = 4) ∨
  (Shd l n t ∧ (0 ≤ e ∧ e ≤ 4) ∧ t + 1 + 2 * e ≤ (n : Int) ∧ (∃ p, Few l n t e p ∧ P = pdn p (t + 1).toNat ∧ OuI (bdl l p n) B (bdl l p n).length) ∧ r = 0) ∨
  (Shd l n t ∧ (0 ≤ e ∧ e ≤ 4) ∧ t + 1 + 2 * e ≤ (n : Int) ∧ (∀ p, ¬ Few l n t e p) ∧ P = [] ∧ B = [] ∧ r = 6)

theorem few_one {l : List (Int × Int)} {n : Nat} {t e : Int} {p q : List Int} (hl : l.length = n) (hs : Shd l n t) (he : 0 ≤ e) (hn : t + 1 + 2 * e ≤ (n : Int)) (hp : Few l n t e p) (hq : Few l n t e q) : nrm p = nrm q := by
  obtain ⟨k, rfl⟩ : ∃ k : Nat, t = k := ⟨t.toNat, by have := hs.1; omega⟩
  obtain ⟨d, rfl⟩ : ∃ d : Nat, e = d := ⟨e.toNat, by omega⟩
  have h1 := hp.1
  have h2 := hq.1
  have h3 := hp.2
  have h4 := hq.2
  exact dec_one (t := k) (e := d) hl hs.2 (by omega) (by omega) (by omega) (by omega) (by omega)

theorem Dcd.one {l : List (Int × Int)} {n : Nat} {t e : Int} {P B Q C : List Int} {r s : Int} (hl : l.length = n) (h : Dcd l n t e P B r) (k : Dcd l n t e Q C s) : P = Q ∧ B = C ∧ r = s := by
  have no : ∀ {x : Int}, Shd l n t → She l n t x → x ≠ 0 → x ≠ 4 → False := fun hs hx h0 h4 => by
    rcases hs.she hx with e | e
    · exact h0 e
    · exact h4 e
  rcases h with ⟨⟨h1, h2, h3⟩, rfl, rfl⟩ | ⟨h1, h2, rfl, rfl, rfl⟩ | ⟨h1, h2, h3, rfl, rfl, rfl⟩ | ⟨h1, h2, h3, ⟨p, p1, rfl, p2⟩, rfl⟩ | ⟨h1, h2, h3, h4, rfl, rfl, rfl⟩ <;>
    rcases k with ⟨⟨k1, k2, k3⟩, rfl, rfl⟩ | ⟨k1, k2, rfl, rfl, rfl⟩ | ⟨k1, k2, k3, rfl, rfl, rfl⟩ | ⟨k1, k2, k3, ⟨q, q1, rfl, q2⟩, rfl⟩ | ⟨k1, k2, k3, k4, rfl, rfl, rfl⟩
  all_goals first
    | exact ⟨rfl, rfl, rfl⟩
    | exact ⟨rfl, rfl, h1.one k1⟩
    | exact (no k1 h1 h2 h3).elim
    | exact (no h1 k1 k2 k3).elim
    | (exfalso; omega)
    | exact absurd p1 (k4 p)
    | exact absurd q1 (h4 q)
    | skip
  have hnr := few_one hl h1 h2.1 h3 p1 q1
  have hbd : bdl l p n = bdl l q n := by rw [← hl]; exact bdl_same hnr l
  refine ⟨pdn_same hnr _, srt_one p2 q2 (by rw [hbd]) ?_ ?_, rfl⟩
  · exact p2.perm.length_eq
  · exact q2.perm.length_eq

/-- As many wrong ones as there may be. -/
def mayb (n : Nat) (t : Int) : Int := min 4 (((n : Int) - t - 1) / 2)
/-- What Open tells. -/
def Rob (l : List (Int × Int)) (n : Nat) (t x : Int) (B : List Int) (r : Int) : Prop :=
  (She l n t r ∧ r ≠ 0 ∧ x = 0 ∧ B = []) ∨ (She l n t 0 ∧ ∃ P C s, Dcd l n t (mayb n t) P C s ∧ ((s ≠ 0 ∧ x = 0 ∧ B = [] ∧ r = s) ∨ (s = 0 ∧ x = P.getD 0 0 ∧ B = C ∧ r = 0)))
theorem Rob.one {l : List (Int × Int)} {n : Nat} {t x y : Int} {B C : List Int} {r s : Int} (hl : l.length = n) (h : Rob l n t x B r) (k : Rob l n t y C s) : x = y ∧ B = C ∧ r = s := by
  rcases h with ⟨h1, h2, rfl, rfl⟩ | ⟨h1, P, D, u, h2, h3⟩ <;> rcases k with ⟨k1, k2, rfl, rfl⟩ | ⟨k1, Q, E, v, k2, k3⟩
  · exact ⟨rfl, rfl, h1.one k1⟩
  · exact absurd (h1.one k1) h2
  · exact absurd (k1.one h1) k2
  · obtain ⟨rfl, rfl, rfl⟩ := h2.one hl k2
    rcases h3 with ⟨a1, rfl, rfl, rfl⟩ | ⟨a1, rfl, rfl, rfl⟩ <;> rcases k3 with ⟨b1, rfl, rfl, rfl⟩ | ⟨b1, rfl, rfl, rfl⟩
    · exact ⟨rfl, rfl, rfl⟩
    · exact absurd b1 a1
    · exact absurd a1 b1
    · exact ⟨rfl, rfl, rfl⟩
end
section
open Crm Go.RowKit
theorem own_set2 {w : World} {B n c g : Nat} {E : TypeId} {xs : List Value} (h : w.ownsRow B E 2 (.slice (some ⟨g, 0, none⟩) n c) n xs) (i : Nat) (u : Value) : (w.setCell ⟨g, i, none⟩ u).ownsRow B E 2 (.slice (some ⟨g, 0, none⟩) n c) n (xs.set i u) := by
  refine ⟨by rw [List.length_set]; exact h.1, .inr ?_⟩
  rcases h.2 with ⟨e, _⟩ | ⟨g', cap, cur, e, hb, hg, h1, h2, hs, ht⟩
  · simp at e
  · simp only [Value.slice.injEq, Option.some.injEq, Addr.mk.injEq, and_true, true_and] at e
    obtain ⟨rfl, rfl⟩ := e
    refine ⟨g, c, _, rfl, hb, heap_setCell_same w g i _ _ _ hg, h1, h2, by simpa using hs, ?_⟩
    rw [← ht]
    simp [List.take_set]
theorem own_frozen2 {w : World} {B n c g : Nat} {E : TypeId} {xs : List Value} (h : w.ownsRow B E 2 (.slice (some ⟨g, 0, none⟩) n c) n xs) (i : Nat) : w.frozen? ⟨g, i, none⟩ = false := by
  rcases h.2 with ⟨e, _⟩ | ⟨g', cap, cur, e, hb, hg, _⟩
  · simp at e
  · simp only [Value.slice.injEq, Option.some.injEq, Addr.mk.injEq, and_true, true_and] at e
    obtain ⟨rfl, rfl⟩ := e
    exact frozen_of_row w g i _ _ hg
/-- Its address, where there is a share. -/
theorem own_at2 {w : World} {base n : Nat} {E : TypeId} {v : Value} {xs : List Value} (h : w.ownsRow base E 2 v n xs) (hn : 0 < n) : ∃ g c, v = .slice (some ⟨g, 0, none⟩) n c ∧ base ≤ g ∧ g < w.heap.size ∧ n ≤ c ∧ c ≤ maxLen := by
  rcases h.2 with ⟨_, rfl⟩ | ⟨g, cap, cur, rfl, hb, hg, h1, h2, _⟩
  · omega
  · exact ⟨g, cap, rfl, hb, (Array.getElem?_eq_some_iff.1 hg).1, h1, h2⟩
theorem sh_cell {w : World} {base n c g : Nat} {E : TypeId} {l : List (Int × Int)} (h : w.ownsRow base E 2 (.slice (some ⟨g, 0, none⟩) n c) n (shc l)) (hl : l.length = n) {k : Nat} (hk : k < n) :
    w.cell? ⟨g, k * 2, none⟩ = some (.int .i64 (l.getD k (0, 0)).1) ∧ w.cell? ⟨g, k * 2 + 1, none⟩ = some (.int .u64 (l.getD k (0, 0)).2) := by
  have h1 := shc_get l k (by omega)
  have a1 := h.cells (g := g) rfl _ _ h1.1
  have a2 := h.cells (g := g) rfl _ _ h1.2
  rw [Addr.add_lit] at a1 a2
  exact ⟨by simpa using a1, by simpa using a2⟩
theorem RdS.take {w : World} {a : Option Addr} {n c : Nat} {l : List (Int × Int)} (h : RdS w a n c l) {k : Nat} (hk : k ≤ n) : RdS w a k c (l.take k) := by
  have e : ∀ i, i < k → (l.take k).getD i (0, 0) = l.getD i (0, 0) := fun i hi => by simp [hi]
  refine ⟨by have := h.len; simp; omega, by have := h.cap; omega, h.max, fun i hi => ?_, h.nil, fun x hx i hi => ?_⟩
  · rw [e i hi]; exact h.bd i (by omega)
  · rw [e i hi]; exact h.cell x hx i (by omega)
/-- The list in row gl has n rows of W numbers, the i-th in the block G i: M i. All these blocks lie from lo on and ahead of hi. -/
structure Mx (w : World) (lo hi gl n W : Nat) (G : Nat → Nat) (M : Nat → List Int) : Prop where
  lst : ∃ cur : Array Value, w.heap[gl]? = some (.cells cur 26 (0, 0)) ∧ cur.size = n ∧ ∀ i, i < n → cur[i]? = some (.slice (some ⟨G i, 0, none⟩) W W)
  gb : lo ≤ gl ∧ gl < hi
  rng : ∀ i, i < n → lo ≤ G i ∧ G i < hi ∧ G i ≠ gl
  inj : ∀ i j, i < n → j < n → G i = G j → i = j
  row : ∀ i, i < n → Blk w (G i) (M i)
  wid : ∀ i, i < n → (M i).length = W
  bd : ∀ i, i < n → ∀ x ∈ M i, 0 ≤ x ∧ x ≤ 2147483646
  hw : hi ≤ w.heap.size

/-- Nothing has turned but between lo and hi. -/
structure Fr (lo hi : Nat) (w w' : World) : Prop where
  os : w'.os = w.os
  tape : w'.tape = w.tape
  output : w'.output = w.output
  size : w.heap.size ≤ w'.heap.size
  block : ∀ k, k < w.heap.size → (k < lo ∨ hi ≤ k) → w'.heap[k]? = w.heap[k]?
theorem Fr.refl (lo hi : Nat) (w : World) : Fr lo hi w w := ⟨rfl, rfl, rfl, Nat.le_refl _, fun _ _ _ => rfl⟩
theorem Fr.trans {lo hi : Nat} {a b c : World} (h : Fr lo hi a b) (k : Fr lo hi b c) : Fr lo hi a c :=
  ⟨k.os.trans h.os, k.tape.trans h.tape, k.output.trans h.output, Nat.le_trans h.size k.size, fun i hi hr => (k.block i (Nat.lt_of_lt_of_le hi h.size) hr).trans (h.block i hi hr)⟩
theorem Fr.grown {lo hi g : Nat} {w w' : World} (h : w.grownBy w' (some g)) (h1 : lo ≤ g) (h2 : g < hi) : Fr lo hi w w' :=
  ⟨h.os, h.tape, h.output, h.size, fun k hk hr => h.block k hk (by simp; omega)⟩
theorem Fr.below {lo hi : Nat} {w w' : World} (h : Fr lo hi w w') (hl : lo ≤ w.heap.size) : Below lo w w' := ⟨h.os, h.tape, h.output, h.size, fun k hk => h.block k (by omega) (.inl hk)⟩
theorem Fr.drew {lo hi : Nat} {w w' : World} (h : Fr lo hi w w') : Fr lo hi w w'.drew := ⟨h.os, h.tape, h.output, h.size, h.block⟩
theorem Fr.own {lo hi : Nat} {w w' : World} (h : Fr lo hi w w') {E : TypeId} {v : Value} {n base : Nat} {xs : List Value} (hbase : hi ≤ base) (ho : w.ownsRow base E 1 v n xs) : w'.ownsRow base E 1 v n xs := by
  refine ⟨ho.1, ?_⟩
  rcases ho.2 with hn | ⟨g, cap, cur, rfl, hb, hgg, rest⟩
  · exact .inl hn
  · exact .inr ⟨g, cap, cur, rfl, hb, by rw [h.block g (Array.getElem?_eq_some_iff.1 hgg).1 (.inr (by omega))]; exact hgg, rest⟩
theorem Mx.cell {w : World} {lo hi gl n W : Nat} {G : Nat → Nat} {M : Nat → List Int} (h : Mx w lo hi gl n W G M) {i : Nat} (hi' : i < n) : w.cell? ⟨gl, i, none⟩ = some (.slice (some ⟨G i, 0, none⟩) W W) := by
  obtain ⟨cur, h1, h2, h3⟩ := h.lst
  rw [cell_of_row w gl i _ _ (0, 0) h1]; exact h3 i hi'
theorem Mx.frozen {w : World} {lo hi gl n W : Nat} {G : Nat → Nat} {M : Nat → List Int} (h : Mx w lo hi gl n W G M) (i : Nat) : w.frozen? ⟨gl, i, none⟩ = false := by
  obtain ⟨cur, h1, h2, h3⟩ := h.lst
  exact frozen_of_row w gl i _ _ h1
theorem Mx.rd {w : World} {lo hi gl n W : Nat} {G : Nat → Nat} {M : Nat → List Int} (h : Mx w lo hi gl n W G M) {i : Nat} (hi' : i < n) (hm : W ≤ maxLen) : Rd w (some ⟨G i, 0, none⟩) W W (M i) := (h.row i hi').whole W (h.wid i hi').symm hm (bd_u64 (h.bd i hi'))
theorem Mx.below {w : World} {lo hi gl n W : Nat} {G : Nat → Nat} {M : Nat → List Int} (h : Mx w lo hi gl n W G M) {w' : World} (hb : Below hi w w') : Mx w' lo hi gl n W G M := by
  refine ⟨?_, h.gb, h.rng, h.inj, fun i hi' => ?_, h.wid, h.bd, Nat.le_trans h.hw hb.size⟩
  · obtain ⟨cur, h1, h2⟩ := h.lst
    exact ⟨cur, by rw [hb.block gl h.gb.2]; exact h1, h2⟩
  · exact (h.row i hi').below hb (h.rng i hi').2.1
theorem Mx.drew {w : World} {lo hi gl n W : Nat} {G : Nat → Nat} {M : Nat → List Int} (h : Mx w lo hi gl n W G M) : Mx w.drew lo hi gl n W G M := ⟨h.lst, h.gb, h.rng, h.inj, h.row, h.wid, h.bd, h.hw⟩
/-- Row i has been written anew. -/
theorem Mx.put {w : World} {lo hi gl n W : Nat} {G : Nat → Nat} {M : Nat → List Int} (h : Mx w lo hi gl n W G M) {w' : World} {i : Nat} (hi' : i < n) (hg : w.grownBy w' (some (G i))) {A : List Int} (hA : Blk w' (G i) A) (hl : A.length = W) (hb : ∀ x ∈ A, 0 ≤ x ∧ x ≤ 2147483646) :
    Mx w' lo hi gl n W G (fun k => if k = i then A else M k) := by
  refine ⟨?_, h.gb, h.rng, h.inj, fun k hk => ?_, fun k hk => ?_, fun k hk => ?_, Nat.le_trans h.hw hg.size⟩
  · obtain ⟨cur, h1, h2⟩ := h.lst
    refine ⟨cur, ?_, h2⟩
    rw [hg.block gl (Array.getElem?_eq_some_iff.1 h1).1 (by simpa using (h.rng i hi').2.2.symm)]
    exact h1
  · by_cases e : k = i
    · subst e; simpa using hA
    · rw [if_neg e]
      exact (h.row k hk).grown hg (by simp only [ne_eq, Option.some.injEq]; exact fun e2 => e (h.inj k i hk hi' e2))
  · by_cases e : k = i
    · rw [if_pos e]; exact hl
    · rw [if_neg e]; exact h.wid k hk
  · by_cases e : k = i
    · rw [if_pos e]; exact hb
    · rw [if_neg e]; exact h.bd k hk
end
end Go.Proofs.YtljlioglpaogdahDoor
