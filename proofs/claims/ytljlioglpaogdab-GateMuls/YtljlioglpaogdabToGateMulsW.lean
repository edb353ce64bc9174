/- gate.dealAll. · gate.Mul. · The walk of croftlaw.GateMuls. -/
import Derived.Test.YtljlioglpaogdabToGateWC
import Derived.Test.YtljlioglpaogdabToSubC
import Derived.Test.YtljlioglpaogdabToLsV2
import Derived.Test.YtljlioglpaogdabToSameLC
namespace Go.Proofs.Ytljlioglpaogdab
set_option linter.unusedVariables false
set_option maxRecDepth 100000
set_option maxHeartbeats 8000000
section
open Crm Go.RowKit
theorem infoVg : (Try.prog.info? 23).map (fun i => (i.zero, i.size, i.bytes)) = some (some (.slice none 0 0), 1, 24) := by kernel_rfl
theorem infoSg : (Try.prog.info? 28).map (·.size) = some 1 := by kernel_rfl

/-- A number of one row is written. -/
theorem LsV.put {w : World} {B g n c q i : Nat} {z : Int} {v : Value} {L : List Value} {rows : List (List Int)} (h : LsV w B v L rows) (hq : q < rows.length) (hu : L.getD q (.slice none 0 0) = .slice (some ⟨g, 0, none⟩) n c) (hn : (rows.getD q []).length = n) :
    LsV (w.setCell ⟨g, i, none⟩ (.int .u64 z)) B v L (rows.set q ((rows.getD q []).set i z)) := by
  have hg : w.grownBy (w.setCell ⟨g, i, none⟩ (.int .u64 z)) (some g) := grown_set _ _ _ _
  have hrq := h.row q hq
  rw [hu, hn] at hrq
  have hE : (28 : TypeId) ≠ 23 := by decide
  refine ⟨by rw [List.length_set]; exact h.own.kept hg (own_apart hrq h.own hE), by simp [h.len], fun j hj => ?_, fun j k hjk hk => by rw [List.length_set] at hk; exact h.inj j k hjk hk⟩
  rw [List.length_set] at hj
  rw [getD_setV _ _ _ _ _ hq]
  by_cases e : j = q
  · subst e
    rw [if_pos rfl, hu, List.length_set, hn, List.map_set]
    exact own_set hrq i _
  · rw [if_neg e]
    refine (h.row j hj).kept hg ?_
    have eb : (L.getD q (.slice none 0 0)).ownBlock = some g := by rw [hu]; rfl
    rcases Nat.lt_or_ge j q with e1 | e1
    · rcases h.inj j q e1 hq with e2 | e2
      · exact .inl e2
      · exact .inr (by rw [← eb]; exact e2)
    · rcases h.inj q j (by omega) hj with e2 | e2
      · rw [eb] at e2; cases e2
      · exact .inr (by rw [← eb]; exact fun e3 => e2 e3.symm)

/-- Rows that are made one by one. -/
def mkr (n i : Nat) : List (List Int) := (List.range n).map fun p => if p < i then List.replicate n 0 else []
theorem mkr_len (n i : Nat) : (mkr n i).length = n := by simp [mkr]
theorem mkr_zero (n : Nat) : List.replicate n [] = mkr n 0 := by
  apply List.ext_getElem?
  intro i
  by_cases hi : i < n
  · simp [mkr, hi]
  · simp [mkr, hi]
theorem mkr_set (n i : Nat) : (mkr n i).set i (List.replicate n 0) = mkr n (i + 1) := by
  apply List.ext_getElem?
  intro q
  rw [List.getElem?_set]
  by_cases hq : q < n
  · by_cases e : i = q
    · subst e; simp [mkr, hq]
    · have : (q < i + 1) = (q < i) := by apply propext; omega
      simp [mkr, hq, e, this]
  · by_cases e : i = q
    · subst e; simp [mkr, hq]
    · simp [mkr, hq, e]
/-- What party i deals. -/
def pdC (t : Nat) (ps ds : List Int) (i : Nat) : List Int := ps.getD i 0 :: (ds.drop (i * t)).take t
/-- What party p was dealt by the first i. -/
def gdr (t : Nat) (ps ds : List Int) (n i p : Nat) : List Int := fil (fun s => dlf (pdC t ps ds s) p) n i
theorem gdr_len (t : Nat) (ps ds : List Int) (n i p : Nat) : (gdr t ps ds n i p).length = n := fil_len _ _ _
def gdi (t : Nat) (ps ds : List Int) (n i : Nat) : List (List Int) := (List.range n).map fun p => gdr t ps ds n i p
theorem gdi_len (t : Nat) (ps ds : List Int) (n i : Nat) : (gdi t ps ds n i).length = n := by simp [gdi]
theorem mkr_full (t : Nat) (ps ds : List Int) (n : Nat) : mkr n n = gdi t ps ds n 0 := by
  unfold mkr gdi gdr
  refine List.map_congr_left fun p hp => ?_
  rw [if_pos (List.mem_range.1 hp), fil_zero]
def gdj (t : Nat) (ps ds : List Int) (n i j : Nat) : List (List Int) := (List.range n).map fun p => gdr t ps ds n (if p < j then i + 1 else i) p
theorem gdj_len (t : Nat) (ps ds : List Int) (n i j : Nat) : (gdj t ps ds n i j).length = n := by simp [gdj]
theorem gdj_zero (t : Nat) (ps ds : List Int) (n i : Nat) : gdj t ps ds n i 0 = gdi t ps ds n i := by simp [gdj, gdi]
theorem gdj_full (t : Nat) (ps ds : List Int) (n i : Nat) : gdj t ps ds n i n = gdi t ps ds n (i + 1) := by
  unfold gdj gdi
  refine List.map_congr_left fun p hp => ?_
  rw [if_pos (List.mem_range.1 hp)]
theorem gdj_getD (t : Nat) (ps ds : List Int) {n i j : Nat} (h : j < n) : (gdj t ps ds n i j).getD j [] = gdr t ps ds n i j := by simp [gdj, h]
theorem gdj_set (t : Nat) (ps ds : List Int) {n i j : Nat} : (gdj t ps ds n i j).set j ((gdr t ps ds n i j).set i (dlf (pdC t ps ds i) j)) = gdj t ps ds n i (j + 1) := by
  have e0 : (gdr t ps ds n i j).set i (dlf (pdC t ps ds i) j) = gdr t ps ds n (i + 1) j := fil_set rfl
  rw [e0]
  apply List.ext_getElem?
  intro q
  rw [List.getElem?_set]
  by_cases hq : q < n
  · by_cases e : j = q
    · subst e; simp [gdj, hq]
    · have : (q < j + 1) = (q < j) := by apply propext; omega
      simp [gdj, hq, e, this]
  · by_cases e : j = q
    · subst e; simp [gdj, hq]
    · simp [gdj, hq, e]

theorem cDealAll (t : Nat) (a : Option Addr) (n c : Nat) (ps : List Int) (e0 : Option Addr) (m f : Nat) (ds : List Int) (w : World) (h : Rd w a n c ps) (k : Rd w e0 m f ds) (ht : t ≤ 4) (hn1 : 2 * t + 1 ≤ n) (hn9 : n ≤ 9) (hm : m = n * t) :
    Calls Try.prog 64 #[.int .i64 t, .slice a n c, .slice e0 m f] w fun e w' => ∃ u L, e = .returned u ∧ LsV w' w.heap.size u L (gdi t ps ds n n) ∧ Below w.heap.size w w' := by
  obtain ⟨i0, hi, hz0, hz1, hz2⟩ := info_parts infoVg
  obtain ⟨j0, hj, hy0, hy1, hy2⟩ := info_parts info28
  have HM : Hid (m = n * t) := hm
  clear hm
  go_enter Try.func64, Try.ntmps64
  go_wp2_with (at_make; refine wpList_make_full _ rfl _ _ 60 rfl w.heap.size 23 i0 (.slice none 0 0) 1 Try.underlying60 hi hz0 hz1 .i64 .i64 _ _ n rfl rfl (by omega) (by omega) (by rw [hz2]; omega) (by unfold maxLen; omega) (Nat.le_refl _) ?_; intro w1 hown hgrow)
  have hb1 : Below w.heap.size w w1 := (Below.refl _ _).grown hgrow (Nat.le_refl _) (by simp)
  have hL1 := lsv_made hown
  rw [mkr_zero n] at hL1
  clear hown hgrow
  go_loopw [22] (fun q wr => ∃ (i : Nat) (L : List Value), i ≤ n ∧ q = .int .i64 i ∧ LsV wr w.heap.size (.slice (some ⟨w.heap.size, 0, none⟩) n n) L (mkr n i) ∧ Below w.heap.size w wr) (fun q _ => n - (intOf q).toNat)
  case atStart => exact ⟨0, _, Nat.zero_le _, rfl, hL1, hb1⟩
  case round =>
    clear hL1 hb1
    obtain ⟨i, L, hi', rfl, hL, hbel⟩ := hrel
    by_cases hlt : i < n
    · have hsw := hbel.size
      have hgl := mkr_len n i
      have HST : Hid (∀ w7, Below wr.heap.size wr w7 → (∃ x, w7.cell? ⟨w.heap.size, i, none⟩ = some x) ∧ w7.frozen? ⟨w.heap.size, i, none⟩ = false) := fun w7 hg => by
        obtain ⟨dg, fg, lg⟩ := (hL.below hg).cell hgl hlt
        exact ⟨⟨_, dg⟩, fg⟩
      have HUP : Hid (∀ w7, w7.ownsRow wr.heap.size 28 1 (.slice (some ⟨wr.heap.size, 0, none⟩) n n) n (madeCells (Value.int .u64 0).cells (n * 1)).toList → Below wr.heap.size wr w7 → LsV (w7.setCell ⟨w.heap.size, i, none⟩ (.slice (some ⟨wr.heap.size, 0, none⟩) n n)) w.heap.size (.slice (some ⟨w.heap.size, 0, none⟩) n n) (L.set i (.slice (some ⟨wr.heap.size, 0, none⟩) n n)) (mkr n (i + 1)) ∧ Below w.heap.size w (w7.setCell ⟨w.heap.size, i, none⟩ (.slice (some ⟨wr.heap.size, 0, none⟩) n n))) := fun w7 ho hb => by
        have hB := Blk.made ho
        have ho2 := hB.mine (B := w.heap.size) (by simp) hsw (show n ≤ 1000 by omega)
        have hu := hL.upd (q := i) (row := List.replicate n 0) (u' := .slice (some ⟨wr.heap.size, 0, none⟩) n n) hgl hlt (by rw [List.length_replicate]; exact ho2) (grown_below hb _) (.inr ⟨_, rfl, Nat.le_refl _⟩)
        rw [mkr_set] at hu
        exact ⟨hu, (hbel.trans (hb.mono hsw)).setCell (p := ⟨w.heap.size, i, none⟩) (Nat.le_refl _) _⟩
      clear hL hbel
      go_wp2_with (at_make; refine wpList_make_full _ rfl _ _ 23 rfl wr.heap.size 28 j0 (.int .u64 0) 1 Try.underlying23 hj hy0 hy1 .i64 .i64 _ _ n rfl rfl (by omega) (by omega) (by rw [hy2]; omega) (by unfold maxLen; omega) (Nat.le_refl _) ?_; intro w2 hown hgrow; have hb2 : Below wr.heap.size wr w2 := ((Below.refl _ _).grown hgrow (Nat.le_refl _) (by simp)); obtain ⟨⟨xx, dd⟩, ff⟩ := HST.out w2 hb2; have hl7 := World.block_lt_of_cell? w2 _ dd; have HE : Hid (_ ∧ _) := HUP.out w2 hown hb2; clear hown hgrow hb2)
      clear HST HUP
      go_roundw
      case rel => exact ⟨i + 1, _, by omega, by go_num, HE.out.1, HE.out.2⟩
      case measure => simp [intOf]; omega
    · have hin : i = n := by omega
      subst hin
      obtain ⟨wo, hwo⟩ : ∃ wo, wo = wr := ⟨_, rfl⟩
      subst hwo
      rw [mkr_full t ps ds] at hL
      go_wp2
      go_loopw [33] (fun q wr => ∃ (s : Nat) (L : List Value), s ≤ i ∧ q = .int .i64 s ∧ LsV wr w.heap.size (.slice (some ⟨w.heap.size, 0, none⟩) i i) L (gdi t ps ds i s) ∧ Below w.heap.size w wr) (fun q _ => i - (intOf q).toNat)
      case atStart => exact ⟨0, L, Nat.zero_le _, rfl, hL, hbel⟩
      case round =>
        clear hL hbel
        obtain ⟨s, L, hs, rfl, hL, hbel⟩ := hrel
        obtain ⟨w2, hw2⟩ : ∃ w2, w2 = wr := ⟨_, rfl⟩
        subst hw2
        by_cases hlt2 : s < i
        · have hsw := hbel.size
          obtain ⟨P, HP⟩ : ∃ P, Hid (s * t = P) := ⟨_, rfl⟩
          have hP : (s : Int) * (t : Int) = (P : Int) := by rw [← HP.out]; push_cast; rfl
          have hP2 : ((s : Int) + 1) * (t : Int) = (P : Int) + (t : Int) := by rw [Int.add_mul, Int.one_mul, hP]
          have hPm : P + t ≤ m := by
            have h1 : (s + 1) * t ≤ i * t := Nat.mul_le_mul_right t hlt2
            rw [Nat.add_mul, Nat.one_mul, HP.out, ← HM.out] at h1
            exact h1
          have hm36 : m ≤ 36 := by rw [HM.out]; exact Nat.le_trans (Nat.mul_le_mul hn9 ht) (by omega)
          have hkc := k.cap
          obtain ⟨b1, o1, x, rfl, hb1, HX, hx0, hx1, hcx⟩ := (h.below hbel).one hlt2
          have hrk := ((k.below hbel).sub (lo := P) (k := t) hPm)
          obtain ⟨X, HX2⟩ : ∃ X, Hid (subA e0 f P = X) := ⟨_, rfl⟩
          rw [HX2.out] at hrk
          have hsl : ∀ W, (Instr.sliceAt 23 (.slice e0 m f) (some (.int .i64 (P : Int))) (some (.int .i64 ((P : Int) + (t : Int)))) none).run Try.prog W = .ok (.slice X t (f - P)) W := fun W => by rw [← HX2.out]; exact run_sub Try.underlying23 infoSg e0 m f P t rfl rfl (by omega) W
          have HPC : Hid (x :: (ds.drop P).take t = pdC t ps ds s) := by unfold Hid pdC; rw [HX.out, HP.out]
          have HLT : Hid (∀ p, p < i → ∀ gg, (L.getD p (.slice none 0 0)).ownBlock = some gg → gg < w2.heap.size) := fun p hp gg hgg => ((hL.row p (by rw [gdi_len]; exact hp)).lt gg hgg).2
          go_wp2_with fail
          refine (cDealOK _ _ _ _ _ _ _ hrk (by omega) (by omega) ht (by omega) hn9).mono ?_
          rintro e w3 ⟨g3, rfl, hr3, hg3, hb3⟩
          rw [HPC.out] at hr3
          have hL3 := hL.below hb3
          have hbw3 := hbel.trans (hb3.mono hsw)
          rw [← gdj_zero] at hL3
          clear hrk hsl HPC hL hbel hb3 hP hP2 HX2 hcx
          go_wp2
          go_loopw [55] (fun q wr => ∃ (j : Nat), j ≤ i ∧ q = .int .i64 j ∧ LsV wr w.heap.size (.slice (some ⟨w.heap.size, 0, none⟩) i i) L (gdj t ps ds i s j) ∧ Rd wr (some ⟨g3, 0, none⟩) i i (dl (pdC t ps ds s) i) ∧ Below w.heap.size w wr) (fun q _ => i - (intOf q).toNat)
          case atStart => exact ⟨0, Nat.zero_le _, rfl, hL3, hr3, hbw3⟩
          case round =>
            clear hL3 hr3 hbw3
            obtain ⟨j, hj', rfl, hL, hr, hbel⟩ := hrel
            by_cases hji : j < i
            · have hgl := gdj_len t ps ds i s j
              obtain ⟨dg, fg, lg⟩ := hL.cell hgl hji
              have hrow := hL.row j (by rw [hgl]; exact hji)
              rw [gdj_getD t ps ds hji, gdr_len] at hrow
              obtain ⟨z, HZ⟩ : ∃ z, Hid (dlf (pdC t ps ds s) j = z) := ⟨_, rfl⟩
              obtain ⟨b3, o3, z', e3, hb3', HZ', hz0', hz1', hcz⟩ := hr.one hji
              simp only [Option.some.injEq, Addr.mk.injEq, and_true] at e3
              obtain ⟨rfl, rfl⟩ := e3
              rw [Nat.zero_add] at hcz
              obtain rfl : z = z' := by rw [← HZ.out, ← HZ'.out, dl_getD _ hji]
              obtain ⟨ua, uc, hu, huc⟩ := own_slice hrow
              rw [hu] at hrow dg
              obtain ⟨gu, yy, rfl, hgu0, hgu1, _, hcu⟩ := own_at hrow hlt2
              have hfu := own_frozen hrow s
              have hne : gu < w2.heap.size := HLT.out j hji gu (by rw [hu]; rfl)
              have HL' : Hid (LsV (wr.setCell ⟨gu, s, none⟩ (.int .u64 z)) w.heap.size (.slice (some ⟨w.heap.size, 0, none⟩) i i) L (gdj t ps ds i s (j + 1))) := by
                have h1 := hL.put (i := s) (z := z) (by rw [hgl]; exact hji) hu (by rw [gdj_getD t ps ds hji, gdr_len])
                rw [gdj_getD t ps ds hji, ← HZ.out, gdj_set] at h1
                rw [← HZ.out]
                exact h1
              have HR' : Hid (Rd (wr.setCell ⟨gu, s, none⟩ (.int .u64 z)) (some ⟨g3, 0, none⟩) i i (dl (pdC t ps ds s) i)) := hr.grown (grown_set _ _ _ _) (fun x hx => by
                obtain rfl := Option.some.inj hx
                simp only [ne_eq, Option.some.injEq]
                omega)
              have HB' : Hid (Below w.heap.size w (wr.setCell ⟨gu, s, none⟩ (.int .u64 z))) := hbel.setCell hgu0 _
              clear hL hr hbel hrow hu
              go_wp2
              go_roundw
              case rel => exact ⟨j + 1, by omega, by go_num, HL'.out, HR'.out, HB'.out⟩
              case measure => simp [intOf]; omega
            · have hji2 : j = i := by omega
              subst hji2
              rw [gdj_full] at hL
              go_wp2
              go_roundw
              case rel => exact ⟨s + 1, L, by omega, by go_num, hL, hbel⟩
              case measure => simp [intOf]; omega
        · have hsi : s = i := by omega
          subst hsi
          go_wp2
          go_ret
          exact ⟨_, L, rfl, hL, hbel⟩
/-- The parties' products. -/
def pps (xs ys : List Int) (n : Nat) : List Int := (List.range n).map fun i => nm (xs.getD i 0 * ys.getD i 0)
theorem pps_getD (xs ys : List Int) {n i : Nat} (h : i < n) : (pps xs ys n).getD i 0 = nm (xs.getD i 0 * ys.getD i 0) := by simp [pps, h]
theorem pps_bd (xs ys : List Int) (n : Nat) : ∀ z ∈ pps xs ys n, 0 ≤ z ∧ z ≤ 18446744073709551615 := by
  intro z hz
  obtain ⟨i, _, rfl⟩ := List.mem_map.1 hz
  have := nm_bd (xs.getD i 0 * ys.getD i 0)
  omega
theorem pps_row (t : Nat) (xs ys ds : List Int) {n j : Nat} : gdr t (pps xs ys n) ds n n j = tmR t xs ys ds n j := by
  unfold gdr tmR
  rw [fil_full]
  refine List.map_congr_left fun i hi => ?_
  unfold pdC prC
  rw [pps_getD xs ys (List.mem_range.1 hi)]
theorem pps_all (t : Nat) (xs ys ds : List Int) (n : Nat) : gdi t (pps xs ys n) ds n n = tmG t xs ys ds n := by
  unfold gdi tmG
  exact List.map_congr_left fun j _ => pps_row t xs ys ds
theorem pps_out (t : Nat) (xs ys ds : List Int) (n : Nat) : (List.range n).map (fun j => wgs (tmG t xs ys ds n) n j n) = tmO t xs ys ds n n := by
  unfold tmO
  refine List.map_congr_left fun j hj => ?_
  unfold wgs tmf
  refine sm_ncongr fun i hi => ?_
  rw [tmG_getD t xs ys ds (List.mem_range.1 hj), tmR_getD t xs ys ds j hi]

/-- What Mul answers; no row of what was dealt is the list of the product. -/
def GtmA (t : Int) (xs ys ds : List Int) (n m q : Nat) (w : World) (e : Ending) (w' : World) : Prop :=
  ((∃ r, r ≠ 0 ∧ Gme t n m q r ∧ e = .returned (.tuple #[.slice none 0 0, .slice none 0 0, .int .i64 r])) ∨
   (Gme t n m q 0 ∧ ∃ v u L, e = .returned (.tuple #[v, u, .int .i64 0]) ∧ w'.ownsRow w.heap.size 28 1 v n ((tmO t.toNat xs ys ds n n).map (Value.int .u64)) ∧ LsV w' w.heap.size u L (tmG t.toNat xs ys ds n) ∧
      ∀ i, (L.getD i (.slice none 0 0)).ownBlock = none ∨ (L.getD i (.slice none 0 0)).ownBlock ≠ v.ownBlock)) ∧ Below w.heap.size w w'
theorem GtmA.rd {t : Int} {xs ys ds : List Int} {n m q : Nat} {w w' : World} {e : Ending} (h : GtmA t xs ys ds n m q w e w') : Gtm t xs ys ds n m q w e w' := by
  obtain ⟨h1 | ⟨h1, v, u, L, h2, h3, h4, _⟩, hb⟩ := h
  · exact ⟨.inl h1, hb⟩
  · exact ⟨.inr ⟨h1, v, u, L, h2, h3, h4⟩, hb⟩

theorem cGMulA (t : Int) (a : Option Addr) (n c : Nat) (xs : List Int) (b : Option Addr) (m d : Nat) (ys : List Int) (e0 : Option Addr) (q f : Nat) (ds : List Int) (w : World) (h : Rd w a n c xs) (g : Rd w b m d ys) (k : Rd w e0 q f ds) :
    Calls Try.prog 33 #[.int .i64 t, .slice a n c, .slice b m d, .slice e0 q f] w fun e w' => GtmA t xs ys ds n m q w e w' := by
  have hmx := h.max
  have hgx := g.max
  have hkx := k.max
  have hc := h.cap
  have gc := g.cap
  have kc := k.cap
  unfold maxLen at hmx hgx hkx
  by_cases h1 : t < 0
  · go_enter Try.func33, Try.ntmps33
    go_wp2
    go_ret3
    exact ⟨.inl ⟨1, by omega, .inl ⟨.inl h1, rfl⟩, rfl⟩, Below.refl _ _⟩
  · by_cases h2 : 4 < t
    · go_enter Try.func33, Try.ntmps33
      go_wp2
      go_ret3
      exact ⟨.inl ⟨1, by omega, .inl ⟨.inr h2, rfl⟩, rfl⟩, Below.refl _ _⟩
    · obtain ⟨k4, rfl⟩ : ∃ k : Nat, t = k := ⟨t.toNat, by omega⟩
      have HT : Hid (((k4 : Nat) : Int).toNat = k4) := by unfold Hid; omega
      go_enter Try.func33, Try.ntmps33
      go_wp2_with fail
      refine (cBothMul _ _ _ _ _ _ _ _ _ h g).mono ?_
      rintro e w1 ⟨⟨hn, rfl⟩ | ⟨hn, v, rfl, ho⟩, hb⟩
      · have HG : Hid (Gme k4 n m q 5) := .inr ⟨⟨by omega, by omega⟩, .inl ⟨hn, rfl⟩⟩
        clear hn
        go_wp2
        go_ret3
        exact ⟨.inl ⟨5, by omega, HG.out, rfl⟩, hb⟩
      · have HY : Hid (Wr2 n m) := hn
        clear hn
        obtain rfl : m = n := HY.out.2
        have hn1 := HY.out.1.1
        have hn9 := HY.out.1.2
        change w1.ownsRow _ _ _ _ _ ((pps xs ys m).map (Value.int .u64)) at ho
        obtain ⟨av, cv, rfl, hrv, _⟩ := Rd.own ho (pps_bd xs ys m)
        clear ho
        by_cases h3 : m < 2 * k4 + 1
        · have HG : Hid (Gme k4 m m q 4) := .inr ⟨⟨by omega, by omega⟩, .inr ⟨HY.out, .inl ⟨by omega, rfl⟩⟩⟩
          clear hrv
          go_wp2
          go_ret3
          exact ⟨.inl ⟨4, by omega, HG.out, rfl⟩, hb⟩
        · obtain ⟨P, HP⟩ : ∃ P, Hid (m * k4 = P) := ⟨_, rfl⟩
          have hP : (m : Int) * (k4 : Int) = (P : Int) := by rw [← HP.out]; push_cast; rfl
          have hP36 : P ≤ 36 := by rw [← HP.out]; exact Nat.le_trans (Nat.mul_le_mul hn9 (show k4 ≤ 4 by omega)) (by omega)
          by_cases hq : q = P
          · have hqb : ((q : Int) != (P : Int)) = false := by rw [bne_eq_false_iff_eq]; omega
            have HQ : Hid (q = m * k4) := by unfold Hid; rw [HP.out]; exact hq
            have HG : Hid (Gme k4 m m q 0) := .inr ⟨⟨by omega, by omega⟩, .inr ⟨HY.out, .inr ⟨by omega, .inr ⟨by rw [hP]; omega, rfl⟩⟩⟩⟩
            clear hq
            go_wp2_with fail
            refine (cDealAll _ _ _ _ _ _ _ _ _ _ hrv (k.below hb) (by omega) (by omega) hn9 HQ.out).mono ?_
            rintro e w2 ⟨u, L, rfl, hL, hb2⟩
            rw [pps_all] at hL
            have hL2 := hL.base hb.size
            have hb3 := hb.trans (hb2.mono hb.size)
            clear hL hb2 hP hrv hqb
            have HTR : Hid (∀ j, j < m → ((tmG k4 xs ys ds m).getD j []).length = m) := fun j hj => by rw [tmG_getD k4 xs ys ds hj, tmR_len]
            obtain ⟨au, cu, rfl, hru⟩ := hL2.rdR (tmG_len k4 xs ys ds m) (fun j hj => by rw [tmG_getD k4 xs ys ds hj]; exact bd_u64 (tmR_bd k4 xs ys ds m j))
            go_wp2_with fail
            refine (cWeigh _ _ _ _ _ hru hn1 hn9 HTR.out).mono ?_
            rintro e w3 ⟨v3, rfl, ho3, hb4⟩
            rw [pps_out] at ho3
            have ho4 := own_baseV ho3 hb3.size
            have hL4 := hL2.below hb4
            have HAP : Hid (∀ i, (L.getD i (.slice none 0 0)).ownBlock = none ∨ (L.getD i (.slice none 0 0)).ownBlock ≠ v3.ownBlock) := fun i => by
              cases hbk : (L.getD i (.slice none 0 0)).ownBlock with
              | none => exact .inl rfl
              | some g =>
                right
                intro e
                have h1 := (hL2.blk i g hbk).2
                have h2 := (ho3.lt g e.symm).1
                omega
            have hb5 := hb3.trans (hb4.mono hb3.size)
            clear ho3 hL2 hb3 hb4 hru HTR
            go_wp2
            go_ret3
            exact ⟨.inr ⟨HG.out, v3, _, L, rfl, by rw [HT.out]; exact ho4, by rw [HT.out]; exact hL4, HAP.out⟩, hb5⟩
          · have hqb : ((q : Int) != (P : Int)) = true := by rw [bne_iff_ne]; omega
            have HG : Hid (Gme k4 m m q 1) := .inr ⟨⟨by omega, by omega⟩, .inr ⟨HY.out, .inr ⟨by omega, .inl ⟨by rw [hP]; omega, rfl⟩⟩⟩⟩
            clear hq hrv
            go_wp2
            go_ret3
            exact ⟨.inl ⟨1, by omega, HG.out, rfl⟩, hb⟩

theorem cGMul (t : Int) (a : Option Addr) (n c : Nat) (xs : List Int) (b : Option Addr) (m d : Nat) (ys : List Int) (e0 : Option Addr) (q f : Nat) (ds : List Int) (w : World) (h : Rd w a n c xs) (g : Rd w b m d ys) (k : Rd w e0 q f ds) :
    Calls Try.prog 33 #[.int .i64 t, .slice a n c, .slice b m d, .slice e0 q f] w fun e w' => Gtm t xs ys ds n m q w e w' :=
  (cGMulA t a n c xs b m d ys e0 q f ds w h g k).mono fun _ _ h => h.rd
theorem lGateMuls (t : Int) (a : Option Addr) (n c : Nat) (xs : List Int) (b : Option Addr) (m d : Nat) (ys : List Int) (e0 : Option Addr) (q f : Nat) (ds : List Int) (w : World) (h : Rd w a n c xs) (g : Rd w b m d ys) (k : Rd w e0 q f ds) :
    Calls Try.prog 7 #[.int .i64 t, .slice a n c, .slice b m d, .slice e0 q f] w fun e w' => e = .returned (.bool true) ∧ Below w.heap.size w w' := by
  have hmx := h.max
  have hgx := g.max
  have hkx := k.max
  have hc := h.cap
  have gc := g.cap
  have kc := k.cap
  unfold maxLen at hmx hgx hkx
  have nilR : ∀ w : World, RdR w none 0 0 [] := fun w => ⟨rfl, Nat.le_refl _, Nat.zero_le _, fun _ => rfl, by simp⟩
  have nilD : ∀ w : World, Rd w none 0 0 [] := fun w => ⟨rfl, Nat.le_refl _, Nat.zero_le _, by simp, fun _ => rfl, by simp⟩
  by_cases ht : t < 0 ∨ 4 < t
  · have HT : Hid (t < 0 ∨ 4 < t) := ht
    have HG : Hid (Gme t n m q 1) := .inl ⟨ht, rfl⟩
    clear ht
    go_enter Try.func7, Try.ntmps7
    go_wp2_with (go_at_call 16; refine (rInN _ _ _ _ HT.out).mono ?_; rintro e w' ⟨rfl, hw⟩; have hw := hw.symm; subst hw)
    refine (cGMul _ _ _ _ _ _ _ _ _ _ _ _ _ _ h g k).mono ?_
    rintro e w2 ⟨⟨r, hr, hG, rfl⟩ | ⟨hG, _⟩, hb2⟩
    · obtain rfl := hG.one HG.out
      clear hG hr
      go_wp2_with (first | (go_at_call 12; refine (cSame _ _ _ _ _ _ _ _ (nilD _) (nilD _)).mono ?_; rintro e w3 ⟨rfl, hb3⟩) | (go_at_call 34; refine (lSame _ _ _ _ _ _ _ _ (nilR _) (nilR _)).mono ?_; rintro e w4 ⟨rfl, hb4⟩))
      go_ret
      exact ⟨rfl, (hb2.trans (hb3.mono hb2.size)).trans (hb4.mono (hb2.trans (hb3.mono hb2.size)).size)⟩
    · exact absurd (hG.one HG.out) (by omega)
  · obtain ⟨k4, rfl⟩ : ∃ k : Nat, t = k := ⟨t.toNat, by omega⟩
    have hRL := rdL_two w a n c b m d 23
    have hbA : Below w.heap.size w (w.alloc (.cells #[.slice a n c, .slice b m d] 23)) := (Below.refl _ _).alloc (Nat.le_refl _) _
    go_enter Try.func7, Try.ntmps7
    go_wp2_with (go_at_call 16; refine (rInY _ _ _ _ (by omega) (by omega)).mono ?_; rintro e w' ⟨rfl, hw⟩; have hw := hw.symm; subst hw)
    generalize w.alloc (.cells #[.slice a n c, .slice b m d] 23) = wA at *
    refine (rWire _ _ _ _ hRL (by omega) (by omega) (len_two (by omega) (by omega))).mono ?_
    rintro e w1 ⟨r, rfl, hr, hb1⟩
    rw [wk_two] at hr
    have HR : Hid (_ ↔ _) := hr
    have hbw := hbA.trans (hb1.mono hbA.size)
    clear hr hb1 hbA hRL
    cases r with
    | false =>
      have HN : Hid (¬ Wr2 n m) := fun e => by have := HR.out.2 e; cases this
      have HG : Hid (Gme k4 n m q 5) := .inr ⟨⟨by omega, by omega⟩, .inl ⟨HN.out, rfl⟩⟩
      go_wp2_with fail
      refine (cGMul _ _ _ _ _ _ _ _ _ _ _ _ _ _ (h.below hbw) (g.below hbw) (k.below hbw)).mono ?_
      rintro e w2 ⟨⟨r, hr, hG, rfl⟩ | ⟨hG, _⟩, hb2⟩
      · obtain rfl := hG.one HG.out
        have hbw2 := hbw.trans (hb2.mono hbw.size)
        clear hG hr hb2
        go_wp2_with (first | (go_at_call 12; refine (cSame _ _ _ _ _ _ _ _ (nilD _) (nilD _)).mono ?_; rintro e w3 ⟨rfl, hb3⟩) | (go_at_call 34; refine (lSame _ _ _ _ _ _ _ _ (nilR _) (nilR _)).mono ?_; rintro e w4 ⟨rfl, hb4⟩))
        go_ret
        exact ⟨rfl, (hbw2.trans (hb3.mono hbw2.size)).trans (hb4.mono (hbw2.trans (hb3.mono hbw2.size)).size)⟩
      · exact absurd (hG.one HG.out) (by omega)
    | true =>
      have HY : Hid (Wr2 n m) := HR.out.1 rfl
      obtain rfl : m = n := HY.out.2
      have hn1 := HY.out.1.1
      have hn9 := HY.out.1.2
      by_cases h2 : m < 2 * k4 + 1
      · have HG : Hid (Gme k4 m m q 4) := .inr ⟨⟨by omega, by omega⟩, .inr ⟨HY.out, .inl ⟨by omega, rfl⟩⟩⟩
        go_wp2_with fail
        refine (cGMul _ _ _ _ _ _ _ _ _ _ _ _ _ _ (h.below hbw) (g.below hbw) (k.below hbw)).mono ?_
        rintro e w2 ⟨⟨r, hr, hG, rfl⟩ | ⟨hG, _⟩, hb2⟩
        · obtain rfl := hG.one HG.out
          have hbw2 := hbw.trans (hb2.mono hbw.size)
          clear hG hr hb2
          go_wp2_with (first | (go_at_call 12; refine (cSame _ _ _ _ _ _ _ _ (nilD _) (nilD _)).mono ?_; rintro e w3 ⟨rfl, hb3⟩) | (go_at_call 34; refine (lSame _ _ _ _ _ _ _ _ (nilR _) (nilR _)).mono ?_; rintro e w4 ⟨rfl, hb4⟩))
          go_ret
          exact ⟨rfl, (hbw2.trans (hb3.mono hbw2.size)).trans (hb4.mono (hbw2.trans (hb3.mono hbw2.size)).size)⟩
        · exact absurd (hG.one HG.out) (by omega)
      · obtain ⟨P, HP⟩ : ∃ P, Hid (m * k4 = P) := ⟨_, rfl⟩
        have hP : (m : Int) * (k4 : Int) = (P : Int) := by rw [← HP.out]; push_cast; rfl
        have hP36 : P ≤ 36 := by rw [← HP.out]; exact Nat.le_trans (Nat.mul_le_mul hn9 (show k4 ≤ 4 by omega)) (by omega)
        by_cases hq : q = P
        · have hqb : ((q : Int) != (P : Int)) = false := by rw [bne_eq_false_iff_eq]; omega
          have HQ : Hid (q = m * k4) := by unfold Hid; rw [HP.out]; exact hq
          have HG : Hid (Gme k4 m m q 0) := .inr ⟨⟨by omega, by omega⟩, .inr ⟨HY.out, .inr ⟨by omega, .inr ⟨by rw [hP]; omega, rfl⟩⟩⟩⟩
          clear hq
          go_wp2_with fail
          refine (rTimes _ _ _ _ _ _ _ _ _ _ _ _ _ (h.below hbw) (g.below hbw) (k.below hbw) (by omega) hn1 hn9 HQ.out).mono ?_
          rintro e w2 ⟨v, u, L, rfl, hown, hL, hb2⟩
          have hbw2 := hbw.trans (hb2.mono hbw.size)
          obtain ⟨a2, c2, rfl, hr2, _⟩ := Rd.own hown (bd_u64 (tmO_bd _ _ _ _ _ _))
          obtain ⟨a3, c3, rfl, hr3⟩ := hL.rdR (tmG_len _ _ _ _ _) (fun i hi => by rw [tmG_getD _ _ _ _ hi]; exact bd_u64 (tmR_bd _ _ _ _ _ _))
          clear hown hL hb2
          go_wp2_with fail
          refine (cGMul _ _ _ _ _ _ _ _ _ _ _ _ _ _ (h.below hbw2) (g.below hbw2) (k.below hbw2)).mono ?_
          rintro e w4 ⟨⟨r, hr, hG, rfl⟩ | ⟨hG, v, u, L, rfl, hown, hL⟩, hb4⟩
          · exact absurd (hG.one HG.out) hr
          · obtain ⟨a5, c5, rfl, hr5, _⟩ := Rd.own hown (bd_u64 (tmO_bd _ _ _ _ _ _))
            obtain ⟨a6, c6, rfl, hr6⟩ := hL.rdR (tmG_len _ _ _ _ _) (fun i hi => by rw [tmG_getD _ _ _ _ hi]; exact bd_u64 (tmR_bd _ _ _ _ _ _))
            have hbw4 := hbw2.trans (hb4.mono hbw2.size)
            have hr2' := hr2.below hb4
            have hr3' := hr3.below hb4
            rw [Int.toNat_natCast] at hr5 hr6
            clear hown hL hG hb4 hr2 hr3
            go_wp2_with fail
            refine (cSame _ _ _ _ _ _ _ _ hr5 hr2').mono ?_
            rintro e w5 ⟨rfl, hb5⟩
            go_wp2_with fail
            refine (lSame _ _ _ _ _ _ _ _ (hr6.below hb5) (hr3'.below hb5)).mono ?_
            rintro e w6 ⟨rfl, hb6⟩
            have hbw5 := hbw4.trans (hb5.mono hbw4.size)
            have hbw6 := hbw5.trans (hb6.mono hbw5.size)
            clear hb5 hb6 hr5 hr6 hr2' hr3'
            go_wp2
            go_ret
            exact ⟨rfl, hbw6⟩
        · have hqb : ((q : Int) != (P : Int)) = true := by rw [bne_iff_ne]; omega
          have HG : Hid (Gme k4 m m q 1) := .inr ⟨⟨by omega, by omega⟩, .inr ⟨HY.out, .inr ⟨by omega, .inl ⟨by rw [hP]; omega, rfl⟩⟩⟩⟩
          clear hq
          go_wp2_with fail
          refine (cGMul _ _ _ _ _ _ _ _ _ _ _ _ _ _ (h.below hbw) (g.below hbw) (k.below hbw)).mono ?_
          rintro e w2 ⟨⟨r, hr, hG, rfl⟩ | ⟨hG, _⟩, hb2⟩
          · obtain rfl := hG.one HG.out
            have hbw2 := hbw.trans (hb2.mono hbw.size)
            clear hG hr hb2
            go_wp2_with (first | (go_at_call 12; refine (cSame _ _ _ _ _ _ _ _ (nilD _) (nilD _)).mono ?_; rintro e w3 ⟨rfl, hb3⟩) | (go_at_call 34; refine (lSame _ _ _ _ _ _ _ _ (nilR _) (nilR _)).mono ?_; rintro e w4 ⟨rfl, hb4⟩))
            go_ret
            exact ⟨rfl, (hbw2.trans (hb3.mono hbw2.size)).trans (hb4.mono (hbw2.trans (hb3.mono hbw2.size)).size)⟩
          · exact absurd (hG.one HG.out) (by omega)
end
end Go.Proofs.Ytljlioglpaogdab
