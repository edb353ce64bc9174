/- gate.Mul. · The walk of croftkeep.GateTimes. -/
import Derived.Test.YtljlioglpaogdaeToGateWC
import Derived.Test.YtljlioglpaogdaeToLsV2
import Derived.Test.YtljlioglpaogdaeCrewC
import Derived.Test.YtljlioglpaogdaeToOpenC
import Derived.Test.YtljlioglpaogdaeToShortC
namespace Go.Proofs.Ytljlioglpaogdae
set_option linter.unusedVariables false
set_option maxRecDepth 100000
set_option maxHeartbeats 8000000
section
open Crm Go.RowKit
/-- The parties' products. -/
def pps (xs ys : List Int) (n : Nat) : List Int := (List.range n).map fun i => nm (xs.getD i 0 * ys.getD i 0)
theorem pps_getD (xs ys : List Int) {n i : Nat} (h : i < n) : (pps xs ys n).getD i 0 = nm (xs.getD i 0 * ys.getD i 0) := by simp [pps, h]
theorem pps_bd (xs ys : List Int) (n : Nat) : ∀ z ∈ pps xs ys n, 0 ≤ z ∧ z ≤ 18446744073709551615 := by
  intro z hz
  obtain ⟨i, _, rfl⟩ := List.mem_map.1 hz
  have := nm_bd (xs.getD i 0 * ys.getD i 0)
  omega
theorem pps_row (t : Nat) (xs ys ds : List Int) {n j : Nat} : gdr t (pps xs ys n) ds n n j = tmR t xs ys ds n j := by
  unfold gdr tmR
  rw [fil_full]
  refine List.map_congr_left fun i hi => ?_
  unfold pdC prC
  rw [pps_getD xs ys (List.mem_range.1 hi)]
theorem pps_all (t : Nat) (xs ys ds : List Int) (n : Nat) : gdi t (pps xs ys n) ds n n = tmG t xs ys ds n := by
  unfold gdi tmG
  exact List.map_congr_left fun j _ => pps_row t xs ys ds
theorem pps_out (t : Nat) (xs ys ds : List Int) (n : Nat) : (List.range n).map (fun j => wgs (tmG t xs ys ds n) n j n) = tmO t xs ys ds n n := by
  unfold tmO
  refine List.map_congr_left fun j hj => ?_
  unfold wgs tmf
  refine sm_ncongr fun i hi => ?_
  rw [tmG_getD t xs ys ds (List.mem_range.1 hj), tmR_getD t xs ys ds j hi]

/-- What Mul answers; no row of what was dealt is the list of the product. -/
def GtmA (t : Int) (xs ys ds : List Int) (n m q : Nat) (w : World) (e : Ending) (w' : World) : Prop :=
  ((∃ r, r ≠ 0 ∧ Gme t n m q r ∧ e = .returned (.tuple #[.slice none 0 0, .slice none 0 0, .int .i64 r])) ∨
   (Gme t n m q 0 ∧ ∃ v u L, e = .returned (.tuple #[v, u, .int .i64 0]) ∧ w'.ownsRow w.heap.size 22 1 v n ((tmO t.toNat xs ys ds n n).map (Value.int .u64)) ∧ LsV w' w.heap.size u L (tmG t.toNat xs ys ds n) ∧
      ∀ i, (L.getD i (.slice none 0 0)).ownBlock = none ∨ (L.getD i (.slice none 0 0)).ownBlock ≠ v.ownBlock)) ∧ Below w.heap.size w w'
theorem GtmA.rd {t : Int} {xs ys ds : List Int} {n m q : Nat} {w w' : World} {e : Ending} (h : GtmA t xs ys ds n m q w e w') : Gtm t xs ys ds n m q w e w' := by
  obtain ⟨h1 | ⟨h1, v, u, L, h2, h3, h4, _⟩, hb⟩ := h
  · exact ⟨.inl h1, hb⟩
  · exact ⟨.inr ⟨h1, v, u, L, h2, h3, h4⟩, hb⟩

theorem cGMulA (t : Int) (a : Option Addr) (n c : Nat) (xs : List Int) (b : Option Addr) (m d : Nat) (ys : List Int) (e0 : Option Addr) (q f : Nat) (ds : List Int) (w : World) (h : Rd w a n c xs) (g : Rd w b m d ys) (k : Rd w e0 q f ds) :
    Calls Try.prog 37 #[.int .i64 t, .slice a n c, .slice b m d, .slice e0 q f] w fun e w' => GtmA t xs ys ds n m q w e w' := by
  have hmx := h.max
  have hgx := g.max
  have hkx := k.max
  have hc := h.cap
  have gc := g.cap
  have kc := k.cap
  unfold maxLen at hmx hgx hkx
  by_cases h1 : t < 0
  · go_enter Try.func37, Try.ntmps37
    go_wp2
    go_ret3
    exact ⟨.inl ⟨1, by omega, .inl ⟨.inl h1, rfl⟩, rfl⟩, Below.refl _ _⟩
  · by_cases h2 : 4 < t
    · go_enter Try.func37, Try.ntmps37
      go_wp2
      go_ret3
      exact ⟨.inl ⟨1, by omega, .inl ⟨.inr h2, rfl⟩, rfl⟩, Below.refl _ _⟩
    · obtain ⟨k4, rfl⟩ : ∃ k : Nat, t = k := ⟨t.toNat, by omega⟩
      have HT : Hid (((k4 : Nat) : Int).toNat = k4) := by unfold Hid; omega
      go_enter Try.func37, Try.ntmps37
      go_wp2_with fail
      refine (cBothMul _ _ _ _ _ _ _ _ _ h g).mono ?_
      rintro e w1 ⟨⟨hn, rfl⟩ | ⟨hn, v, rfl, ho⟩, hb⟩
      · have HG : Hid (Gme k4 n m q 5) := .inr ⟨⟨by omega, by omega⟩, .inl ⟨hn, rfl⟩⟩
        clear hn
        go_wp2
        go_ret3
        exact ⟨.inl ⟨5, by omega, HG.out, rfl⟩, hb⟩
      · have HY : Hid (Wr2 n m) := hn
        clear hn
        obtain rfl : m = n := HY.out.2
        have hn1 := HY.out.1.1
        have hn9 := HY.out.1.2
        change w1.ownsRow _ _ _ _ _ ((pps xs ys m).map (Value.int .u64)) at ho
        obtain ⟨av, cv, rfl, hrv, _⟩ := Rd.own ho (pps_bd xs ys m)
        clear ho
        by_cases h3 : m < 2 * k4 + 1
        · have HG : Hid (Gme k4 m m q 4) := .inr ⟨⟨by omega, by omega⟩, .inr ⟨HY.out, .inl ⟨by omega, rfl⟩⟩⟩
          clear hrv
          go_wp2
          go_ret3
          exact ⟨.inl ⟨4, by omega, HG.out, rfl⟩, hb⟩
        · obtain ⟨P, HP⟩ : ∃ P, Hid (m * k4 = P) := ⟨_, rfl⟩
          have hP : (m : Int) * (k4 : Int) = (P : Int) := by rw [← HP.out]; push_cast; rfl
          have hP36 : P ≤ 36 := by rw [← HP.out]; exact Nat.le_trans (Nat.mul_le_mul hn9 (show k4 ≤ 4 by omega)) (by omega)
          by_cases hq : q = P
          · have hqb : ((q : Int) != (P : Int)) = false := by rw [bne_eq_false_iff_eq]; omega
            have HQ : Hid (q = m * k4) := by unfold Hid; rw [HP.out]; exact hq
            have HG : Hid (Gme k4 m m q 0) := .inr ⟨⟨by omega, by omega⟩, .inr ⟨HY.out, .inr ⟨by omega, .inr ⟨by rw [hP]; omega, rfl⟩⟩⟩⟩
            clear hq
            go_wp2_with fail
            refine (cDealAll _ _ _ _ _ _ _ _ _ _ hrv (k.below hb) (by omega) (by omega) hn9 HQ.out).mono ?_
            rintro e w2 ⟨u, L, rfl, hL, hb2⟩
            rw [pps_all] at hL
            have hL2 := hL.base hb.size
            have hb3 := hb.trans (hb2.mono hb.size)
            clear hL hb2 hP hrv hqb
            have HTR : Hid (∀ j, j < m → ((tmG k4 xs ys ds m).getD j []).length = m) := fun j hj => by rw [tmG_getD k4 xs ys ds hj, tmR_len]
            obtain ⟨au, cu, rfl, hru⟩ := hL2.rdR (tmG_len k4 xs ys ds m) (fun j hj => by rw [tmG_getD k4 xs ys ds hj]; exact bd_u64 (tmR_bd k4 xs ys ds m j))
            go_wp2_with fail
            refine (cWeigh _ _ _ _ _ hru hn1 hn9 HTR.out).mono ?_
            rintro e w3 ⟨v3, rfl, ho3, hb4⟩
            rw [pps_out] at ho3
            have ho4 := own_baseV ho3 hb3.size
            have hL4 := hL2.below hb4
            have HAP : Hid (∀ i, (L.getD i (.slice none 0 0)).ownBlock = none ∨ (L.getD i (.slice none 0 0)).ownBlock ≠ v3.ownBlock) := fun i => by
              cases hbk : (L.getD i (.slice none 0 0)).ownBlock with
              | none => exact .inl rfl
              | some g =>
                right
                intro e
                have h1 := (hL2.blk i g hbk).2
                have h2 := (ho3.lt g e.symm).1
                omega
            have hb5 := hb3.trans (hb4.mono hb3.size)
            clear ho3 hL2 hb3 hb4 hru HTR
            go_wp2
            go_ret3
            exact ⟨.inr ⟨HG.out, v3, _, L, rfl, by rw [HT.out]; exact ho4, by rw [HT.out]; exact hL4, HAP.out⟩, hb5⟩
          · have hqb : ((q : Int) != (P : Int)) = true := by rw [bne_iff_ne]; omega
            have HG : Hid (Gme k4 m m q 1) := .inr ⟨⟨by omega, by omega⟩, .inr ⟨HY.out, .inr ⟨by omega, .inl ⟨by rw [hP]; omega, rfl⟩⟩⟩⟩
            clear hq hrv
            go_wp2
            go_ret3
            exact ⟨.inl ⟨1, by omega, HG.out, rfl⟩, hb⟩

theorem cGMul (t : Int) (a : Option Addr) (n c : Nat) (xs : List Int) (b : Option Addr) (m d : Nat) (ys : List Int) (e0 : Option Addr) (q f : Nat) (ds : List Int) (w : World) (h : Rd w a n c xs) (g : Rd w b m d ys) (k : Rd w e0 q f ds) :
    Calls Try.prog 37 #[.int .i64 t, .slice a n c, .slice b m d, .slice e0 q f] w fun e w' => Gtm t xs ys ds n m q w e w' :=
  (cGMulA t a n c xs b m d ys e0 q f ds w h g k).mono fun _ _ h => h.rd
theorem ev_cons0 (a : Int) (l : List Int) : ev (a :: l) 0 = a := by rw [ev, Int.zero_mul, Int.add_zero]
theorem ev_short {P : List Int} (h : P.length ≤ 1) (x : Int) : ev P x = ev P 0 := by
  match P, h with
  | [], _ => rfl
  | [a], _ => rw [ev, ev, ev, ev, Int.mul_zero, Int.mul_zero]
theorem tm_known : tmO 0 [3] [4] [] 1 1 = [12] := by
  obtain ⟨P, h1, h2, h3⟩ := times_dealt (t := 0) (n := 1) (A := [3]) (B := [4]) (ds := []) (by simp) (by simp) (by omega) (by omega)
  have e1 : dl [3] 1 = [3] := by decide
  have e2 : dl [4] 1 = [4] := by decide
  have h4 := h2 0 (by omega)
  rw [e1, e2, ev_short (by omega), h3] at h4
  have e3 : nm (ev [3] 0 * ev [4] 0) = 12 := by decide
  rw [e3] at h4
  unfold tmO
  rw [show List.range 1 = [0] from rfl, List.map_singleton, h4]
theorem gme_ok {k m : Nat} (hk : k ≤ 4) (h : 2 * k + 1 ≤ m) (hm : m ≤ 9) : Gme k m m (m * k) 0 :=
  .inr ⟨⟨by omega, by omega⟩, .inr ⟨⟨⟨by omega, hm⟩, rfl⟩, .inr ⟨by omega, .inr ⟨by push_cast; rfl, rfl⟩⟩⟩⟩

theorem gateTimesW (x y : Int) (a0 : Option Addr) (n0 c0 : Nat) (xs : List Int) (a1 : Option Addr) (n1 c1 : Nat) (ys : List Int) (a2 : Option Addr) (n2 c2 : Nat) (zs : List Int) (t n : Int) (w : World) (hx0 : 0 ≤ x) (hx1 : x ≤ 18446744073709551615) (hy0 : 0 ≤ y) (hy1 : y ≤ 18446744073709551615) (h0 : Rd w a0 n0 c0 xs) (h1 : Rd w a1 n1 c1 ys) (h2 : Rd w a2 n2 c2 zs) :
    Calls Try.prog 8 #[.int .u64 x, .int .u64 y, .slice a0 n0 c0, .slice a1 n1 c1, .slice a2 n2 c2, .int .i64 t, .int .i64 n] w fun e w' => e = .returned (.bool true) ∧ Below w.heap.size w w' := by
  have nilD : ∀ w : World, Rd w none 0 0 [] := fun w => ⟨rfl, Nat.le_refl _, Nat.zero_le _, by simp, fun _ => rfl, by simp⟩
  have hbA : Below w.heap.size w (w.alloc (.cells #[.int .u64 3] 22)) := (Below.refl _ _).alloc (Nat.le_refl _) _
  have hbB : Below (w.alloc (.cells #[.int .u64 3] 22)).heap.size (w.alloc (.cells #[.int .u64 3] 22)) ((w.alloc (.cells #[.int .u64 3] 22)).alloc (.cells #[.int .u64 4] 22)) := (Below.refl _ _).alloc (Nat.le_refl _) _
  have hb1 : Below w.heap.size w ((w.alloc (.cells #[.int .u64 3] 22)).alloc (.cells #[.int .u64 4] 22)) := hbA.trans (hbB.mono hbA.size)
  have r3 : Rd ((w.alloc (.cells #[.int .u64 3] 22)).alloc (.cells #[.int .u64 4] 22)) (some ⟨w.heap.size, 0, none⟩) 1 1 [3] := ((Blk.lit1 w 3).whole 1 rfl (by unfold maxLen; omega) (fun u hu => by rw [List.mem_singleton.1 hu]; omega)).below hbB
  have r4 : Rd ((w.alloc (.cells #[.int .u64 3] 22)).alloc (.cells #[.int .u64 4] 22)) (some ⟨(w.alloc (.cells #[.int .u64 3] 22)).heap.size, 0, none⟩) 1 1 [4] := (Blk.lit1 _ 4).whole 1 rfl (by unfold maxLen; omega) (fun u hu => by rw [List.mem_singleton.1 hu]; omega)
  have e0 : (w.alloc (.cells #[.int .u64 3] 22)).heap.size = w.heap.size + 1 := by simp
  rw [e0] at r4
  clear e0 hbA hbB
  go_enter Try.func8, Try.ntmps8
  go_wp2_with fail
  generalize (w.alloc (.cells #[.int .u64 3] 22)).alloc (.cells #[.int .u64 4] 22) = v1 at *
  refine (cGMul _ _ _ _ _ _ _ _ _ _ _ _ _ _ r3 r4 (nilD v1)).mono ?_
  rintro e v2 ⟨⟨r, hr, hG, rfl⟩ | ⟨hG, v, u, L, rfl, hown, hL⟩, hb2⟩
  · exact absurd (hG.one (gme_ok (k := 0) (m := 1) (by omega) (by omega) (by omega))) hr
  · obtain ⟨a3, c3, rfl, hr3, _⟩ := Rd.own hown (bd_u64 (tmO_bd _ _ _ _ _ _))
    rw [Int.toNat_zero, tm_known] at hr3
    have hbw2 := hb1.trans (hb2.mono hb1.size)
    clear hown hG hL hb1 hb2 r3 r4
    have hb12 : Below v2.heap.size v2 (v2.alloc (.cells #[.int .u64 12] 22)) := (Below.refl _ _).alloc (Nat.le_refl _) _
    have r12 : Rd (v2.alloc (.cells #[.int .u64 12] 22)) (some ⟨v2.heap.size, 0, none⟩) 1 1 [12] := (Blk.lit1 _ 12).whole 1 rfl (by unfold maxLen; omega) (fun u hu => by rw [List.mem_singleton.1 hu]; omega)
    have hbw3 := hbw2.trans (hb12.mono hbw2.size)
    have hr3' := hr3.below hb12
    go_wp2_with fail
    generalize v2.alloc (.cells #[.int .u64 12] 22) = v3 at *
    refine (cSame _ _ _ _ _ _ _ _ hr3' r12).mono ?_
    rintro e v4 ⟨rfl, hb4⟩
    have hbw4 := hbw3.trans (hb4.mono hbw3.size)
    clear hr3 hr3' r12 hb12 hb4 hbw2 hbw3
    go_wp2_with fail
    refine (kCrew _ _ _).mono ?_
    rintro e w' ⟨⟨k, m, rfl, hk, hkm, hm⟩, hw⟩
    have hw := hw.symm
    subst hw
    go_wp2_with fail
    refine (kFilled _ _ _ _ k _ (h0.below hbw4) hk).mono ?_
    rintro e v5 ⟨g5, rfl, r5, hb5⟩
    have hbw5 := hbw4.trans (hb5.mono hbw4.size)
    go_wp2_with fail
    refine (cDealOK x _ _ _ _ m _ r5 hx0 hx1 hk (by omega) hm).mono ?_
    rintro e v6 ⟨g6, rfl, r6, _, hb6⟩
    have hbw6 := hbw5.trans (hb6.mono hbw5.size)
    clear r5 hb5 hb6 hbw4 hbw5
    go_wp2_with fail
    refine (kFilled _ _ _ _ k _ (h1.below hbw6) hk).mono ?_
    rintro e v7 ⟨g7, rfl, r7, hb7⟩
    have hbw7 := hbw6.trans (hb7.mono hbw6.size)
    have r6' := r6.below hb7
    go_wp2_with fail
    refine (cDealOK y _ _ _ _ m _ r7 hy0 hy1 hk (by omega) hm).mono ?_
    rintro e v8 ⟨g8, rfl, r8, _, hb8⟩
    have hbw8 := hbw7.trans (hb8.mono hbw7.size)
    have r6'' := r6'.below hb8
    obtain ⟨P, HP⟩ : ∃ P, Hid (m * k = P) := ⟨_, rfl⟩
    have hP : (m : Int) * (k : Int) = (P : Int) := by rw [← HP.out]; push_cast; rfl
    have hP36 : P ≤ 36 := by rw [← HP.out]; exact Nat.le_trans (Nat.mul_le_mul hm hk) (by omega)
    clear r6 r6' r7 hb7 hb8 hbw6 hbw7
    go_wp2_with fail
    refine (kFilledL _ _ _ _ P _ (h2.below hbw8) (by omega)).mono ?_
    rintro e v9 ⟨g9, rfl, r9, hb9⟩
    have hbw9 := hbw8.trans (hb9.mono hbw8.size)
    have ra := r6''.below hb9
    have rb := r8.below hb9
    clear r6'' r8 hb9 hbw8 hP
    go_wp2_with fail
    refine (cGMul _ _ _ _ _ _ _ _ _ _ _ _ _ _ ra rb r9).mono ?_
    have HG0 : Hid (Gme k m m P 0) := by unfold Hid; rw [← HP.out]; exact gme_ok hk hkm hm
    rintro e v10 ⟨⟨r, hr, hG, rfl⟩ | ⟨hG, v, u, L, rfl, hown, hL⟩, hb10⟩
    · exact absurd (hG.one HG0.out) hr
    · obtain ⟨a5, c5, rfl, hr5, _⟩ := Rd.own hown (bd_u64 (tmO_bd _ _ _ _ _ _))
      obtain ⟨a6, c6, rfl, hr6⟩ := hL.rdR (tmG_len _ _ _ _ _) (fun i hi => by rw [tmG_getD _ _ _ _ hi]; exact bd_u64 (tmR_bd _ _ _ _ _ _))
      rw [Int.toNat_natCast] at hr5
      obtain ⟨Q, q1, q2, q3⟩ := times_dealt (t := k) (n := m) (A := x :: padded xs k) (B := y :: padded ys k) (ds := padded zs P) (by simp [padded_len]) (by simp [padded_len]) hkm hm
      have HQ1 : Hid (Q.length ≤ k + 1) := q1
      have HQ2 : Hid (∀ j, j < m → _ = _) := q2
      have HQ3 : Hid (nm (ev Q 0) = nm (x * y)) := by unfold Hid; rw [q3, ev_cons0, ev_cons0]
      have hbw10 := hbw9.trans (hb10.mono hbw9.size)
      clear hown hL hG hb10 hr6 ra rb r9 q1 q2 q3 hbw9
      go_wp2_with fail
      refine (kShares _ _ _ _ _ hr5 hm).mono ?_
      rintro e v11 ⟨v, rfl, hos, hb11⟩
      have hbw11 := hbw10.trans (hb11.mono hbw10.size)
      obtain ⟨aS, cS, rfl, hRs⟩ := RdS.own hos (shl_len _ _) (fun r hr => by
        rw [shl_getD _ hr]
        have h2 := getD_bd (bd_u64 (tmO_bd k (dl (x :: padded xs k) m) (dl (y :: padded ys k) m) (padded zs P) m m)) r
        exact ⟨⟨by simp only; omega, by simp only; omega⟩, h2⟩)
      clear hos hb11 hr5 hbw10
      go_wp2_with fail
      refine (cOpenS _ _ _ _ _ _ hRs).mono ?_
      rintro e v12 ⟨z, r, rfl, hO, hb12⟩
      obtain ⟨rfl, rfl⟩ := shl_open hm hk (by omega) HQ1.out (fun i hi => by rw [tmO_getD _ _ _ _ _ hi]; exact HQ2.out i hi) hO
      rw [HQ3.out]
      have hbw12 := hbw11.trans (hb12.mono hbw11.size)
      clear hO hb12 hRs hbw11
      go_wp2_with (go_at_call 35; refine (fMul _ _ _ hx0 hx1 hy0 hy1).mono ?_; rintro e w' ⟨rfl, hw⟩; have hw := hw.symm; subst hw)
      go_ret
      exact ⟨rfl, hbw12⟩
end
end Go.Proofs.Ytljlioglpaogdae
