/- gate.weigh. · gate.Mul. · croftkeep.dealt; shares that are written. -/
import Derived.Test.YtljlioglpaogdacDoorToGateDC
import Derived.Test.YtljlioglpaogdacDoorToFitC
import Derived.Test.YtljlioglpaogdacDoorToTRows
import Derived.Test.YtljlioglpaogdacDoorToLsV2
import Derived.Test.YtljlioglpaogdacDoorToEnD
import Derived.Test.YtljlioglpaogdacDoorToShortC
import Derived.Test.YtljlioglpaogdacDoorToLstC
namespace Go.Proofs.YtljlioglpaogdacDoor
set_option linter.unusedVariables false
set_option maxRecDepth 100000
set_option maxHeartbeats 8000000
section
open Crm Go.RowKit
theorem infoZg : (Tryd.prog.info? 3).map (fun i => (i.zero, i.size, i.bytes)) = some (some (.int .i64 0), 1, 8) := by kernel_rfl
theorem own_madeZ {w : World} {B n : Nat} {v : Value} (h : w.ownsRow B 3 1 v n (madeCells (Value.int .i64 0).cells (n * 1)).toList) : w.ownsRow B 3 1 v n (zns (List.replicate n 0)) := by
  have e : (Value.int .i64 0).cells = #[Value.int .i64 0] := rfl
  rw [e, Nat.mul_one, toList_madeCells_one] at h
  unfold zns
  rw [List.map_replicate]
  exact h
/-- One party's number, when the first p are put together. -/
def wgs (rows : List (List Int)) (n j p : Nat) : Int := nm (sm (fun i => wt (pty n) n i * (rows.getD j []).getD i 0) p)
theorem wgs_bd (rows : List (List Int)) (n j p : Nat) : 0 ≤ wgs rows n j p ∧ wgs rows n j p ≤ 2147483646 := nm_bd _
theorem wgs_zero (rows : List (List Int)) (n j : Nat) : wgs rows n j 0 = 0 := rfl
theorem wgs_succ (rows : List (List Int)) (n j p : Nat) : nm (wgs rows n j p + nm ((rows.getD j []).getD p 0 * wt (pty n) n p)) = wgs rows n j (p + 1) := by
  unfold wgs
  rw [sm, nm_addl, nm_addr, Int.mul_comm]
theorem fil_put0 (F : Nat → Int) {n j : Nat} : (fil F n j).set j 0 = fil F n j := by
  refine list_ext (by simp) fun t ht => ?_
  have htn : t < n := by simpa [fil] using ht
  rw [getD_set, fil_len]
  by_cases e : j = t
  · subst e; rw [if_pos ⟨rfl, htn⟩]; simp [fil, htn]
  · rw [if_neg (fun h => e h.1)]
theorem fil_ptyG (n : Nat) : fil (fun i : Nat => (i : Int) + 1) n n = pty n := by rw [fil_full]; rfl

theorem cWeigh (a : Option Addr) (n c : Nat) (rows : List (List Int)) (w : World) (h : RdR w a n c rows) (hn1 : 1 ≤ n) (hn9 : n ≤ 9) (hrl : ∀ j, j < n → (rows.getD j []).length = n) :
    Calls Tryd.prog 92 #[.slice a n c] w fun e w' => ∃ u, e = .returned u ∧ w'.ownsRow w.heap.size 43 1 u n (((List.range n).map fun j => wgs rows n j n).map (Value.int .u64)) ∧ Below w.heap.size w w' := by
  obtain ⟨i0, hi, hz0, hz1, hz2⟩ := info_parts infoZg
  obtain ⟨j0, hj, hy0, hy1, hy2⟩ := info_parts info43
  have HRL : Hid (∀ j, j < n → (rows.getD j []).length = n) := hrl
  clear hrl
  have hcap := h.cap
  go_enter Tryd.func92, Tryd.ntmps92
  go_wp2_with (at_make; refine wpList_make_full _ rfl _ _ 23 rfl w.heap.size 3 i0 (.int .i64 0) 1 Tryd.underlying23 hi hz0 hz1 .i64 .i64 _ _ n rfl rfl (by omega) (by omega) (by rw [hz2]; omega) (by unfold maxLen; omega) (Nat.le_refl _) ?_; intro w1 hown hgrow)
  have hb1 : Below w.heap.size w w1 := (Below.refl _ _).grown hgrow (Nat.le_refl _) (by simp)
  have ho1 := own_madeZ hown
  rw [fil_zero (fun i : Nat => (i : Int) + 1) n] at ho1
  clear hown hgrow
  go_loopw [17] (fun q wr => ∃ i : Nat, i ≤ n ∧ q = .int .i64 i ∧ wr.ownsRow w.heap.size 3 1 (.slice (some ⟨w.heap.size, 0, none⟩) n n) n (zns (fil (fun i : Nat => (i : Int) + 1) n i)) ∧ Below w.heap.size w wr) (fun q _ => n - (intOf q).toNat)
  case atStart => exact ⟨0, Nat.zero_le _, rfl, ho1, hb1⟩
  case round =>
    clear ho1 hb1
    obtain ⟨i, hi', rfl, hown, hbel⟩ := hrel
    by_cases hlt : i < n
    · obtain ⟨gu, yy, e1, hgu0, hgu1, _, hcu⟩ := own_at hown hlt
      simp only [Option.some.injEq, Addr.mk.injEq, and_true] at e1
      subst e1
      have hfu := own_frozen hown i
      have ho2 := own_set hown i (.int .i64 ((i : Int) + 1))
      rw [zns_set, fil_set rfl] at ho2
      have HO : Hid (World.ownsRow _ _ _ _ _ _ _) := ho2
      have HB : Hid (Below w.heap.size w (wr.setCell ⟨w.heap.size, i, none⟩ (.int .i64 ((i : Int) + 1)))) := hbel.setCell (Nat.le_refl _) _
      clear hown hbel ho2
      go_wp2
      go_roundw
      case rel => exact ⟨i + 1, by omega, by go_num, HO.out, HB.out⟩
      case measure => simp [intOf]; omega
    · have hin : i = n := by omega
      subst hin
      rw [fil_ptyG] at hown
      obtain ⟨wo, hwo⟩ : ∃ wo, wo = wr := ⟨_, rfl⟩
      subst hwo
      obtain ⟨aw, cw, ev, hri⟩ := RdI.own hown (fun x hx => by
        obtain ⟨q, hq, rfl⟩ := List.mem_map.1 hx
        have := List.mem_range.1 hq
        omega)
      simp only [Value.slice.injEq] at ev
      obtain ⟨rfl, _, rfl⟩ := ev
      clear hown
      go_wp2_with fail
      refine (cWeights1 _ _ _ _ _ hri (by omega)).mono ?_
      rintro e w2 ⟨⟨hno, _⟩ | ⟨_, g2, rfl, hr2, hg2⟩, hb2⟩
      · exact absurd (pty_dis hn9) hno
      have hbw2 := hbel.trans (hb2.mono hbel.size)
      have hs2 := hbw2.size
      clear hbel hb2 hri
      go_wp2_with (at_make; refine wpList_make_full _ rfl _ _ 31 rfl w2.heap.size 43 j0 (.int .u64 0) 1 Tryd.underlying31 hj hy0 hy1 .i64 .i64 _ _ i rfl rfl (by omega) (by omega) (by rw [hy2]; omega) (by unfold maxLen; omega) (Nat.le_refl _) ?_; intro w3 hown hgrow)
      have hb3 : Below w2.heap.size w2 w3 := (Below.refl _ _).grown hgrow (Nat.le_refl _) (by simp)
      have hB3 : Blk w3 w2.heap.size (fil (fun j => wgs rows i j i) i 0) := by rw [← fil_zero]; exact Blk.made hown
      clear hown hgrow
      go_loopw [36] (fun q wr => ∃ j : Nat, j ≤ i ∧ q = .int .i64 j ∧ Blk wr w2.heap.size (fil (fun j => wgs rows i j i) i j) ∧ Below w2.heap.size w2 wr) (fun q _ => i - (intOf q).toNat)
      case atStart => exact ⟨0, Nat.zero_le _, rfl, hB3, hb3⟩
      case round =>
        clear hB3 hb3
        obtain ⟨j, hj', rfl, hblk, hbel⟩ := hrel
        obtain ⟨w4, hw4⟩ : ∃ w4, w4 = wr := ⟨_, rfl⟩
        subst hw4
        by_cases hji : j < i
        · obtain ⟨bR, oR, ai, ni, ci, row, rfl, hbR, HRow, hcR0, hrR⟩ := h.one hji
          obtain rfl : ni = i := by rw [← hrR.len, ← HRow.out]; exact HRL.out j hji
          have hcR : w4.cell? ⟨bR, oR + j, none⟩ = some (.slice ai ni ci) := by rw [(hbw2.trans (hbel.mono hs2)).cell (p := ⟨bR, oR + j, none⟩) hbR]; exact hcR0
          have hbR4 : bR < w4.heap.size := Nat.lt_of_lt_of_le hbR (hbw2.trans (hbel.mono hs2)).size
          rw [← fil_put0, ← wgs_zero rows ni j] at hblk
          clear hcR0
          go_wp2
          go_loopw [43] (fun q wr => ∃ p : Nat, p ≤ ni ∧ q = .int .i64 p ∧ Blk wr w2.heap.size ((fil (fun j => wgs rows ni j ni) ni j).set j (wgs rows ni j p)) ∧ Below w2.heap.size w2 wr) (fun q _ => ni - (intOf q).toNat)
          case atStart => exact ⟨0, Nat.zero_le _, rfl, hblk, hbel⟩
          case round =>
            clear hblk hbel hcR
            obtain ⟨p, hp', rfl, hblk, hbel⟩ := hrel
            by_cases hpi : p < ni
            · obtain ⟨b1, o1, x, rfl, hb1, HX, hx0, hx1, hcx⟩ := (hrR.below (hbw2.trans (hbel.mono hs2))).one hpi
              obtain ⟨b2, o2, y, e2, hb2, HY, hy0, hy1, hcy⟩ := (hr2.below hbel).one hpi
              simp only [Option.some.injEq, Addr.mk.injEq, and_true] at e2
              obtain ⟨rfl, rfl⟩ := e2
              rw [Nat.zero_add] at hcy
              obtain ⟨S, HS⟩ : ∃ S, Hid (wgs rows ni j p = S) := ⟨_, rfl⟩
              have hSb := wgs_bd rows ni j p
              rw [HS.out] at hblk hSb
              have hcell := hblk.cell (i := j) (by rw [List.length_set, fil_len]; exact hji)
              rw [getD_set, fil_len, if_pos ⟨rfl, hji⟩] at hcell
              have hfz := hblk.frozen j
              have hlt3 := hblk.lt
              have hS0 := hSb.1
              have hS1 := hSb.2
              have hm := nm_bd (x * y)
              have HSn : Hid (nm (S + nm (x * y)) = wgs rows ni j (p + 1)) := by
                unfold Hid
                rw [← wgs_succ, HS.out, HRow.out, HX.out, ← HY.out]
                simp [hpi]
              have hblk4 := hblk.set j (nm (S + nm (x * y)))
              rw [List.set_set, HSn.out] at hblk4
              have Hbl : Hid (Blk (wr.setCell ⟨w2.heap.size, j, none⟩ (.int .u64 (nm (S + nm (x * y))))) w2.heap.size ((fil (fun j => wgs rows ni j ni) ni j).set j (wgs rows ni j (p + 1)))) := by unfold Hid; rw [HSn.out]; exact hblk4
              have Hb5 : Hid (Below w2.heap.size w2 (wr.setCell ⟨w2.heap.size, j, none⟩ (.int .u64 (nm (S + nm (x * y)))))) := hbel.setCell (Nat.le_refl _) _
              have hk0 : (0 : Int) ≤ (j : Int) := by omega
              have hkn : (j : Int) < (ni : Int) := by omega
              have hp0 : (0 : Int) ≤ (p : Int) := by omega
              have hpn : (p : Int) < (ni : Int) := by omega
              clear hbel hblk hblk4 hSb
              go_wp2
              go_region_with (first | (go_at_call 74; refine (fMul _ _ _ (by omega) (by omega) (by omega) (by omega)).mono ?_; rintro e w' ⟨rfl, rfl⟩) | (go_at_call 70; refine (fAdd _ _ _ (by omega) (by omega) (by omega) (by omega)).mono ?_; rintro e w' ⟨rfl, rfl⟩))
              all_goals
                go_wp2
                go_roundw
                case rel => exact ⟨p + 1, by omega, by go_num, Hbl.out, Hb5.out.drew⟩
                case measure => simp [intOf]; omega
            · have hpi2 : p = ni := by omega
              subst hpi2
              rw [fil_set rfl] at hblk
              go_wp2
              go_roundw
              case rel => exact ⟨j + 1, by omega, by go_num, hblk, hbel⟩
              case measure => simp [intOf]; omega
        · have hji2 : j = i := by omega
          subst hji2
          rw [fil_full] at hblk
          have ho := hblk.mine (B := w.heap.size) (by simp) hs2 (show j ≤ 1000 by omega)
          go_wp2
          go_ret
          exact ⟨_, rfl, ho, hbw2.trans (hbel.mono hs2)⟩
/-- The parties' products. -/
def pps (xs ys : List Int) (n : Nat) : List Int := (List.range n).map fun i => nm (xs.getD i 0 * ys.getD i 0)
theorem pps_getD (xs ys : List Int) {n i : Nat} (h : i < n) : (pps xs ys n).getD i 0 = nm (xs.getD i 0 * ys.getD i 0) := by simp [pps, h]
theorem pps_bd (xs ys : List Int) (n : Nat) : ∀ z ∈ pps xs ys n, 0 ≤ z ∧ z ≤ 18446744073709551615 := by
  intro z hz
  obtain ⟨i, _, rfl⟩ := List.mem_map.1 hz
  have := nm_bd (xs.getD i 0 * ys.getD i 0)
  omega
theorem pps_row (t : Nat) (xs ys ds : List Int) {n j : Nat} : gdr t (pps xs ys n) ds n n j = tmR t xs ys ds n j := by
  unfold gdr tmR
  rw [fil_full]
  refine List.map_congr_left fun i hi => ?_
  unfold pdC prC
  rw [pps_getD xs ys (List.mem_range.1 hi)]
theorem pps_all (t : Nat) (xs ys ds : List Int) (n : Nat) : gdi t (pps xs ys n) ds n n = tmG t xs ys ds n := by
  unfold gdi tmG
  exact List.map_congr_left fun j _ => pps_row t xs ys ds
theorem pps_out (t : Nat) (xs ys ds : List Int) (n : Nat) : (List.range n).map (fun j => wgs (tmG t xs ys ds n) n j n) = tmO t xs ys ds n n := by
  unfold tmO
  refine List.map_congr_left fun j hj => ?_
  unfold wgs tmf
  refine sm_ncongr fun i hi => ?_
  rw [tmG_getD t xs ys ds (List.mem_range.1 hj), tmR_getD t xs ys ds j hi]

/-- What Mul answers; no row of what was dealt is the list of the product. -/
def GtmA (t : Int) (xs ys ds : List Int) (n m q : Nat) (w : World) (e : Ending) (w' : World) : Prop :=
  ((∃ r, r ≠ 0 ∧ Gme t n m q r ∧ e = .returned (.tuple #[.slice none 0 0, .slice none 0 0, .int .i64 r])) ∨
   (Gme t n m q 0 ∧ ∃ v u L, e = .returned (.tuple #[v, u, .int .i64 0]) ∧ w'.ownsRow w.heap.size 43 1 v n ((tmO t.toNat xs ys ds n n).map (Value.int .u64)) ∧ LsV w' w.heap.size u L (tmG t.toNat xs ys ds n) ∧
      ∀ i, (L.getD i (.slice none 0 0)).ownBlock = none ∨ (L.getD i (.slice none 0 0)).ownBlock ≠ v.ownBlock)) ∧ Below w.heap.size w w'
theorem GtmA.rd {t : Int} {xs ys ds : List Int} {n m q : Nat} {w w' : World} {e : Ending} (h : GtmA t xs ys ds n m q w e w') : Gtm t xs ys ds n m q w e w' := by
  obtain ⟨h1 | ⟨h1, v, u, L, h2, h3, h4, _⟩, hb⟩ := h
  · exact ⟨.inl h1, hb⟩
  · exact ⟨.inr ⟨h1, v, u, L, h2, h3, h4⟩, hb⟩

theorem cGMulA (t : Int) (a : Option Addr) (n c : Nat) (xs : List Int) (b : Option Addr) (m d : Nat) (ys : List Int) (e0 : Option Addr) (q f : Nat) (ds : List Int) (w : World) (h : Rd w a n c xs) (g : Rd w b m d ys) (k : Rd w e0 q f ds) :
    Calls Tryd.prog 72 #[.int .i64 t, .slice a n c, .slice b m d, .slice e0 q f] w fun e w' => GtmA t xs ys ds n m q w e w' := by
  have hmx := h.max
  have hgx := g.max
  have hkx := k.max
  have hc := h.cap
  have gc := g.cap
  have kc := k.cap
  unfold maxLen at hmx hgx hkx
  by_cases h1 : t < 0
  · go_enter Tryd.func72, Tryd.ntmps72
    go_wp2
    go_ret3
    exact ⟨.inl ⟨1, by omega, .inl ⟨.inl h1, rfl⟩, rfl⟩, Below.refl _ _⟩
  · by_cases h2 : 4 < t
    · go_enter Tryd.func72, Tryd.ntmps72
      go_wp2
      go_ret3
      exact ⟨.inl ⟨1, by omega, .inl ⟨.inr h2, rfl⟩, rfl⟩, Below.refl _ _⟩
    · obtain ⟨k4, rfl⟩ : ∃ k : Nat, t = k := ⟨t.toNat, by omega⟩
      have HT : Hid (((k4 : Nat) : Int).toNat = k4) := by unfold Hid; omega
      go_enter Tryd.func72, Tryd.ntmps72
      go_wp2_with fail
      refine (cBothMul _ _ _ _ _ _ _ _ _ h g).mono ?_
      rintro e w1 ⟨⟨hn, rfl⟩ | ⟨hn, v, rfl, ho⟩, hb⟩
      · have HG : Hid (Gme k4 n m q 5) := .inr ⟨⟨by omega, by omega⟩, .inl ⟨hn, rfl⟩⟩
        clear hn
        go_wp2
        go_ret3
        exact ⟨.inl ⟨5, by omega, HG.out, rfl⟩, hb⟩
      · have HY : Hid (Wr2 n m) := hn
        clear hn
        obtain rfl : m = n := HY.out.2
        have hn1 := HY.out.1.1
        have hn9 := HY.out.1.2
        change w1.ownsRow _ _ _ _ _ ((pps xs ys m).map (Value.int .u64)) at ho
        obtain ⟨av, cv, rfl, hrv, _⟩ := Rd.own ho (pps_bd xs ys m)
        clear ho
        by_cases h3 : m < 2 * k4 + 1
        · have HG : Hid (Gme k4 m m q 4) := .inr ⟨⟨by omega, by omega⟩, .inr ⟨HY.out, .inl ⟨by omega, rfl⟩⟩⟩
          clear hrv
          go_wp2
          go_ret3
          exact ⟨.inl ⟨4, by omega, HG.out, rfl⟩, hb⟩
        · obtain ⟨P, HP⟩ : ∃ P, Hid (m * k4 = P) := ⟨_, rfl⟩
          have hP : (m : Int) * (k4 : Int) = (P : Int) := by rw [← HP.out]; push_cast; rfl
          have hP36 : P ≤ 36 := by rw [← HP.out]; exact Nat.le_trans (Nat.mul_le_mul hn9 (show k4 ≤ 4 by omega)) (by omega)
          by_cases hq : q = P
          · have hqb : ((q : Int) != (P : Int)) = false := by rw [bne_eq_false_iff_eq]; omega
            have HQ : Hid (q = m * k4) := by unfold Hid; rw [HP.out]; exact hq
            have HG : Hid (Gme k4 m m q 0) := .inr ⟨⟨by omega, by omega⟩, .inr ⟨HY.out, .inr ⟨by omega, .inr ⟨by rw [hP]; omega, rfl⟩⟩⟩⟩
            clear hq
            go_wp2_with fail
            refine (cDealAll _ _ _ _ _ _ _ _ _ _ hrv (k.below hb) (by omega) (by omega) hn9 HQ.out).mono ?_
            rintro e w2 ⟨u, L, rfl, hL, hb2⟩
            rw [pps_all] at hL
            have hL2 := hL.base hb.size
            have hb3 := hb.trans (hb2.mono hb.size)
            clear hL hb2 hP hrv hqb
            have HTR : Hid (∀ j, j < m → ((tmG k4 xs ys ds m).getD j []).length = m) := fun j hj => by rw [tmG_getD k4 xs ys ds hj, tmR_len]
            obtain ⟨au, cu, rfl, hru⟩ := hL2.rdR (tmG_len k4 xs ys ds m) (fun j hj => by rw [tmG_getD k4 xs ys ds hj]; exact bd_u64 (tmR_bd k4 xs ys ds m j))
            go_wp2_with fail
            refine (cWeigh _ _ _ _ _ hru hn1 hn9 HTR.out).mono ?_
            rintro e w3 ⟨v3, rfl, ho3, hb4⟩
            rw [pps_out] at ho3
            have ho4 := own_baseV ho3 hb3.size
            have hL4 := hL2.below hb4
            have HAP : Hid (∀ i, (L.getD i (.slice none 0 0)).ownBlock = none ∨ (L.getD i (.slice none 0 0)).ownBlock ≠ v3.ownBlock) := fun i => by
              cases hbk : (L.getD i (.slice none 0 0)).ownBlock with
              | none => exact .inl rfl
              | some g =>
                right
                intro e
                have h1 := (hL2.blk i g hbk).2
                have h2 := (ho3.lt g e.symm).1
                omega
            have hb5 := hb3.trans (hb4.mono hb3.size)
            clear ho3 hL2 hb3 hb4 hru HTR
            go_wp2
            go_ret3
            exact ⟨.inr ⟨HG.out, v3, _, L, rfl, by rw [HT.out]; exact ho4, by rw [HT.out]; exact hL4, HAP.out⟩, hb5⟩
          · have hqb : ((q : Int) != (P : Int)) = true := by rw [bne_iff_ne]; omega
            have HG : Hid (Gme k4 m m q 1) := .inr ⟨⟨by omega, by omega⟩, .inr ⟨HY.out, .inr ⟨by omega, .inl ⟨by rw [hP]; omega, rfl⟩⟩⟩⟩
            clear hq hrv
            go_wp2
            go_ret3
            exact ⟨.inl ⟨1, by omega, HG.out, rfl⟩, hb⟩

theorem cGMul (t : Int) (a : Option Addr) (n c : Nat) (xs : List Int) (b : Option Addr) (m d : Nat) (ys : List Int) (e0 : Option Addr) (q f : Nat) (ds : List Int) (w : World) (h : Rd w a n c xs) (g : Rd w b m d ys) (k : Rd w e0 q f ds) :
    Calls Tryd.prog 72 #[.int .i64 t, .slice a n c, .slice b m d, .slice e0 q f] w fun e w' => Gtm t xs ys ds n m q w e w' :=
  (cGMulA t a n c xs b m d ys e0 q f ds w h g k).mono fun _ _ h => h.rd
theorem own_set2 {w : World} {B n c g : Nat} {E : TypeId} {xs : List Value} (h : w.ownsRow B E 2 (.slice (some ⟨g, 0, none⟩) n c) n xs) (i : Nat) (u : Value) : (w.setCell ⟨g, i, none⟩ u).ownsRow B E 2 (.slice (some ⟨g, 0, none⟩) n c) n (xs.set i u) := by
  refine ⟨by rw [List.length_set]; exact h.1, .inr ?_⟩
  rcases h.2 with ⟨e, _⟩ | ⟨g', cap, cur, e, hb, hg, h1, h2, hs, ht⟩
  · simp at e
  · simp only [Value.slice.injEq, Option.some.injEq, Addr.mk.injEq, and_true, true_and] at e
    obtain ⟨rfl, rfl⟩ := e
    refine ⟨g, c, _, rfl, hb, heap_setCell_same w g i _ _ _ hg, h1, h2, by simpa using hs, ?_⟩
    rw [← ht]
    simp [List.take_set]
theorem own_frozen2 {w : World} {B n c g : Nat} {E : TypeId} {xs : List Value} (h : w.ownsRow B E 2 (.slice (some ⟨g, 0, none⟩) n c) n xs) (i : Nat) : w.frozen? ⟨g, i, none⟩ = false := by
  rcases h.2 with ⟨e, _⟩ | ⟨g', cap, cur, e, hb, hg, _⟩
  · simp at e
  · simp only [Value.slice.injEq, Option.some.injEq, Addr.mk.injEq, and_true, true_and] at e
    obtain ⟨rfl, rfl⟩ := e
    exact frozen_of_row w g i _ _ hg
/-- Its address, where there is a share. -/
theorem own_at2 {w : World} {base n : Nat} {E : TypeId} {v : Value} {xs : List Value} (h : w.ownsRow base E 2 v n xs) (hn : 0 < n) : ∃ g c, v = .slice (some ⟨g, 0, none⟩) n c ∧ base ≤ g ∧ g < w.heap.size ∧ n ≤ c ∧ c ≤ maxLen := by
  rcases h.2 with ⟨_, rfl⟩ | ⟨g, cap, cur, rfl, hb, hg, h1, h2, _⟩
  · omega
  · exact ⟨g, cap, rfl, hb, (Array.getElem?_eq_some_iff.1 hg).1, h1, h2⟩
theorem sh_cell {w : World} {base n c g : Nat} {E : TypeId} {l : List (Int × Int)} (h : w.ownsRow base E 2 (.slice (some ⟨g, 0, none⟩) n c) n (shc l)) (hl : l.length = n) {k : Nat} (hk : k < n) :
    w.cell? ⟨g, k * 2, none⟩ = some (.int .i64 (l.getD k (0, 0)).1) ∧ w.cell? ⟨g, k * 2 + 1, none⟩ = some (.int .u64 (l.getD k (0, 0)).2) := by
  have h1 := shc_get l k (by omega)
  have a1 := h.cells (g := g) rfl _ _ h1.1
  have a2 := h.cells (g := g) rfl _ _ h1.2
  rw [Addr.add_lit] at a1 a2
  exact ⟨by simpa using a1, by simpa using a2⟩
end
end Go.Proofs.YtljlioglpaogdacDoor
