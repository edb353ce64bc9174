/- gate.Mul. · twine.byParty. · (*twine.parties).both, apart. -/
import Derived.Test.YtljlioglpaogdagDoorToGateWC
import Derived.Test.YtljlioglpaogdagDoorToLsV2
import Derived.Test.YtljlioglpaogdagDoorToTwByM
import Derived.Laws.CopyOwn
import Derived.Test.YtljlioglpaogdagDoorToWireC
namespace Go.Proofs.YtljlioglpaogdagDoor
set_option linter.unusedVariables false
set_option maxRecDepth 100000
set_option maxHeartbeats 8000000
section
open Crm Go.RowKit
/-- The parties' products. -/
def pps (xs ys : List Int) (n : Nat) : List Int := (List.range n).map fun i => nm (xs.getD i 0 * ys.getD i 0)
theorem pps_getD (xs ys : List Int) {n i : Nat} (h : i < n) : (pps xs ys n).getD i 0 = nm (xs.getD i 0 * ys.getD i 0) := by simp [pps, h]
theorem pps_bd (xs ys : List Int) (n : Nat) : ∀ z ∈ pps xs ys n, 0 ≤ z ∧ z ≤ 18446744073709551615 := by
  intro z hz
  obtain ⟨i, _, rfl⟩ := List.mem_map.1 hz
  have := nm_bd (xs.getD i 0 * ys.getD i 0)
  omega
theorem pps_row (t : Nat) (xs ys ds : List Int) {n j : Nat} : gdr t (pps xs ys n) ds n n j = tmR t xs ys ds n j := by
  unfold gdr tmR
  rw [fil_full]
  refine List.map_congr_left fun i hi => ?_
  unfold pdC prC
  rw [pps_getD xs ys (List.mem_range.1 hi)]
theorem pps_all (t : Nat) (xs ys ds : List Int) (n : Nat) : gdi t (pps xs ys n) ds n n = tmG t xs ys ds n := by
  unfold gdi tmG
  exact List.map_congr_left fun j _ => pps_row t xs ys ds
theorem pps_out (t : Nat) (xs ys ds : List Int) (n : Nat) : (List.range n).map (fun j => wgs (tmG t xs ys ds n) n j n) = tmO t xs ys ds n n := by
  unfold tmO
  refine List.map_congr_left fun j hj => ?_
  unfold wgs tmf
  refine sm_ncongr fun i hi => ?_
  rw [tmG_getD t xs ys ds (List.mem_range.1 hj), tmR_getD t xs ys ds j hi]

/-- What Mul answers; no row of what was dealt is the list of the product. -/
def GtmA (t : Int) (xs ys ds : List Int) (n m q : Nat) (w : World) (e : Ending) (w' : World) : Prop :=
  ((∃ r, r ≠ 0 ∧ Gme t n m q r ∧ e = .returned (.tuple #[.slice none 0 0, .slice none 0 0, .int .i64 r])) ∨
   (Gme t n m q 0 ∧ ∃ v u L, e = .returned (.tuple #[v, u, .int .i64 0]) ∧ w'.ownsRow w.heap.size 34 1 v n ((tmO t.toNat xs ys ds n n).map (Value.int .u64)) ∧ LsV w' w.heap.size u L (tmG t.toNat xs ys ds n) ∧
      ∀ i, (L.getD i (.slice none 0 0)).ownBlock = none ∨ (L.getD i (.slice none 0 0)).ownBlock ≠ v.ownBlock)) ∧ Below w.heap.size w w'
theorem GtmA.rd {t : Int} {xs ys ds : List Int} {n m q : Nat} {w w' : World} {e : Ending} (h : GtmA t xs ys ds n m q w e w') : Gtm t xs ys ds n m q w e w' := by
  obtain ⟨h1 | ⟨h1, v, u, L, h2, h3, h4, _⟩, hb⟩ := h
  · exact ⟨.inl h1, hb⟩
  · exact ⟨.inr ⟨h1, v, u, L, h2, h3, h4⟩, hb⟩

theorem cGMulA (t : Int) (a : Option Addr) (n c : Nat) (xs : List Int) (b : Option Addr) (m d : Nat) (ys : List Int) (e0 : Option Addr) (q f : Nat) (ds : List Int) (w : World) (h : Rd w a n c xs) (g : Rd w b m d ys) (k : Rd w e0 q f ds) :
    Calls Tryd.prog 15 #[.int .i64 t, .slice a n c, .slice b m d, .slice e0 q f] w fun e w' => GtmA t xs ys ds n m q w e w' := by
  have hmx := h.max
  have hgx := g.max
  have hkx := k.max
  have hc := h.cap
  have gc := g.cap
  have kc := k.cap
  unfold maxLen at hmx hgx hkx
  by_cases h1 : t < 0
  · go_enter Tryd.func15, Tryd.ntmps15
    go_wp2
    go_ret3
    exact ⟨.inl ⟨1, by omega, .inl ⟨.inl h1, rfl⟩, rfl⟩, Below.refl _ _⟩
  · by_cases h2 : 4 < t
    · go_enter Tryd.func15, Tryd.ntmps15
      go_wp2
      go_ret3
      exact ⟨.inl ⟨1, by omega, .inl ⟨.inr h2, rfl⟩, rfl⟩, Below.refl _ _⟩
    · obtain ⟨k4, rfl⟩ : ∃ k : Nat, t = k := ⟨t.toNat, by omega⟩
      have HT : Hid (((k4 : Nat) : Int).toNat = k4) := by unfold Hid; omega
      go_enter Tryd.func15, Tryd.ntmps15
      go_wp2_with fail
      refine (cBothMul _ _ _ _ _ _ _ _ _ h g).mono ?_
      rintro e w1 ⟨⟨hn, rfl⟩ | ⟨hn, v, rfl, ho⟩, hb⟩
      · have HG : Hid (Gme k4 n m q 5) := .inr ⟨⟨by omega, by omega⟩, .inl ⟨hn, rfl⟩⟩
        clear hn
        go_wp2
        go_ret3
        exact ⟨.inl ⟨5, by omega, HG.out, rfl⟩, hb⟩
      · have HY : Hid (Wr2 n m) := hn
        clear hn
        obtain rfl : m = n := HY.out.2
        have hn1 := HY.out.1.1
        have hn9 := HY.out.1.2
        change w1.ownsRow _ _ _ _ _ ((pps xs ys m).map (Value.int .u64)) at ho
        obtain ⟨av, cv, rfl, hrv, _⟩ := Rd.own ho (pps_bd xs ys m)
        clear ho
        by_cases h3 : m < 2 * k4 + 1
        · have HG : Hid (Gme k4 m m q 4) := .inr ⟨⟨by omega, by omega⟩, .inr ⟨HY.out, .inl ⟨by omega, rfl⟩⟩⟩
          clear hrv
          go_wp2
          go_ret3
          exact ⟨.inl ⟨4, by omega, HG.out, rfl⟩, hb⟩
        · obtain ⟨P, HP⟩ : ∃ P, Hid (m * k4 = P) := ⟨_, rfl⟩
          have hP : (m : Int) * (k4 : Int) = (P : Int) := by rw [← HP.out]; push_cast; rfl
          have hP36 : P ≤ 36 := by rw [← HP.out]; exact Nat.le_trans (Nat.mul_le_mul hn9 (show k4 ≤ 4 by omega)) (by omega)
          by_cases hq : q = P
          · have hqb : ((q : Int) != (P : Int)) = false := by rw [bne_eq_false_iff_eq]; omega
            have HQ : Hid (q = m * k4) := by unfold Hid; rw [HP.out]; exact hq
            have HG : Hid (Gme k4 m m q 0) := .inr ⟨⟨by omega, by omega⟩, .inr ⟨HY.out, .inr ⟨by omega, .inr ⟨by rw [hP]; omega, rfl⟩⟩⟩⟩
            clear hq
            go_wp2_with fail
            refine (cDealAll _ _ _ _ _ _ _ _ _ _ hrv (k.below hb) (by omega) (by omega) hn9 HQ.out).mono ?_
            rintro e w2 ⟨u, L, rfl, hL, hb2⟩
            rw [pps_all] at hL
            have hL2 := hL.base hb.size
            have hb3 := hb.trans (hb2.mono hb.size)
            clear hL hb2 hP hrv hqb
            have HTR : Hid (∀ j, j < m → ((tmG k4 xs ys ds m).getD j []).length = m) := fun j hj => by rw [tmG_getD k4 xs ys ds hj, tmR_len]
            obtain ⟨au, cu, rfl, hru⟩ := hL2.rdR (tmG_len k4 xs ys ds m) (fun j hj => by rw [tmG_getD k4 xs ys ds hj]; exact bd_u64 (tmR_bd k4 xs ys ds m j))
            go_wp2_with fail
            refine (cWeigh _ _ _ _ _ hru hn1 hn9 HTR.out).mono ?_
            rintro e w3 ⟨v3, rfl, ho3, hb4⟩
            rw [pps_out] at ho3
            have ho4 := own_baseV ho3 hb3.size
            have hL4 := hL2.below hb4
            have HAP : Hid (∀ i, (L.getD i (.slice none 0 0)).ownBlock = none ∨ (L.getD i (.slice none 0 0)).ownBlock ≠ v3.ownBlock) := fun i => by
              cases hbk : (L.getD i (.slice none 0 0)).ownBlock with
              | none => exact .inl rfl
              | some g =>
                right
                intro e
                have h1 := (hL2.blk i g hbk).2
                have h2 := (ho3.lt g e.symm).1
                omega
            have hb5 := hb3.trans (hb4.mono hb3.size)
            clear ho3 hL2 hb3 hb4 hru HTR
            go_wp2
            go_ret3
            exact ⟨.inr ⟨HG.out, v3, _, L, rfl, by rw [HT.out]; exact ho4, by rw [HT.out]; exact hL4, HAP.out⟩, hb5⟩
          · have hqb : ((q : Int) != (P : Int)) = true := by rw [bne_iff_ne]; omega
            have HG : Hid (Gme k4 m m q 1) := .inr ⟨⟨by omega, by omega⟩, .inr ⟨HY.out, .inr ⟨by omega, .inl ⟨by rw [hP]; omega, rfl⟩⟩⟩⟩
            clear hq hrv
            go_wp2
            go_ret3
            exact ⟨.inl ⟨1, by omega, HG.out, rfl⟩, hb⟩

theorem cGMul (t : Int) (a : Option Addr) (n c : Nat) (xs : List Int) (b : Option Addr) (m d : Nat) (ys : List Int) (e0 : Option Addr) (q f : Nat) (ds : List Int) (w : World) (h : Rd w a n c xs) (g : Rd w b m d ys) (k : Rd w e0 q f ds) :
    Calls Tryd.prog 15 #[.int .i64 t, .slice a n c, .slice b m d, .slice e0 q f] w fun e w' => Gtm t xs ys ds n m q w e w' :=
  (cGMulA t a n c xs b m d ys e0 q f ds w h g k).mono fun _ _ h => h.rd
theorem results_two {P : Program} {fn : Func} {p q : Tmp} {ty : TypeId} (h : fn.results = #[.cell p ty, .tmp q]) {tmps : Array Value} {w : World} {g : Nat} {v u : Value} (hl : (loadVar ty ⟨g, 0, none⟩).run P w = .ok v w)
    (hp : tmps.getD p undef = .pointer (some ⟨g, 0, none⟩)) (hq : tmps.getD q undef = u) : (results fn tmps).run P w = .ok (.tuple #[v, u]) w := by
  have hp' : tmps[p]?.getD undef = .pointer (some ⟨g, 0, none⟩) := by simpa using hp
  have hq' : tmps[q]?.getD undef = u := by simpa using hq
  simp [results, h, hp', hq', asAddr, hl]
theorem infoPt : (Tryd.prog.info? 128).map (·.size) = some 10 := by kernel_rfl
theorem by_new (w : World) : BlkV ((w.alloc (.cells nil10.toArray 128)).alloc (.cells nil10.toArray 128)) w.heap.size nil10 ∧ BlkV ((w.alloc (.cells nil10.toArray 128)).alloc (.cells nil10.toArray 128)) (w.heap.size + 1) nil10 ∧ Below w.heap.size w ((w.alloc (.cells nil10.toArray 128)).alloc (.cells nil10.toArray 128)) := by
  have h1 : BlkV (w.alloc (.cells nil10.toArray 128)) w.heap.size nil10 := heap_alloc_new w _
  have h2 : BlkV ((w.alloc (.cells nil10.toArray 128)).alloc (.cells nil10.toArray 128)) (w.alloc (.cells nil10.toArray 128)).heap.size nil10 := heap_alloc_new _ _
  have e : (w.alloc (.cells nil10.toArray 128)).heap.size = w.heap.size + 1 := by simp
  rw [e] at h2
  exact ⟨h1.below ((Below.refl _ _).alloc (Nat.le_refl _) _) h1.lt, h2, ((Below.refl _ _).alloc (Nat.le_refl _) _).alloc (by simp) _⟩

theorem cByParty (a : Option Addr) (n c : Nat) (l : List (Int × List Int)) (w : World) (h : RdW w a n c l) :
    Calls Tryd.prog 76 #[.slice a n c] w fun e w' => Byp l n w e w' := by
  have hcap := h.cap
  have hmax := h.max
  unfold maxLen at hmax
  go_enter Tryd.func76, Tryd.ntmps76
  go_wp2
  go_loopw [9] (fun i wr => ∃ (k : Nat) (S : List Value), k ≤ n ∧ i = .int .i64 k ∧ BlkV wr w.heap.size nil10 ∧ BlkV wr (w.heap.size + 1) S ∧ Hid (Pt w l k S) ∧ Below w.heap.size w wr) (fun i _ => n - (intOf i).toNat)
  case atStart => exact ⟨0, nil10, Nat.zero_le _, rfl, (by_new w).1, (by_new w).2.1, pt_start w l, (by_new w).2.2⟩
  case round =>
    obtain ⟨k, S, hk, rfl, hB0, hB1, HP, hbel⟩ := hrel
    have hs1 := hbel.size
    by_cases hlt : k < n
    · obtain ⟨b, o, x, ai, ni, ci, row, rfl, hbb, HX, HRow, hx0, hx1, hcx0, hcr0, hrow⟩ := h.one hlt
      have hcx := hcx0
      rw [← hbel.cell (p := ⟨b, o + k * 2, none⟩) hbb] at hcx
      have hcr := hcr0
      rw [← hbel.cell (p := ⟨b, o + k * 2 + 1, none⟩) hbb] at hcr
      have hnl := hrow.len
      have hnc := hrow.cap
      have hnm := hrow.max
      unfold maxLen at hnm
      have hbA0 : Below wr.heap.size wr (wr.alloc (.cells #[.int .i64 x, .slice ai ni ci] 80)) := (Below.refl _ _).alloc (Nat.le_refl _) _
      have hbA := hbel.trans (hbA0.mono hs1)
      have hA0 := hB0.below hbA0 hB0.lt
      have hA1 := hB1.below hbA0 hB1.lt
      have hcA0 := cell_alloc0 wr (.int .i64 x) (.slice ai ni ci) 80
      have hcA1 := cell_alloc1 wr (.int .i64 x) (.slice ai ni ci) 80
      have hbZ := below_setRow hbA (Nat.le_refl _) nil10.toArray
      have HZ : Hid (_ = _) := run_loadVar_row (P := Tryd.prog) _ w.heap.size 128 128 nil10.toArray (0, 0) _ (setRow_heap _ w.heap.size _ nil10.toArray _ (0, 0) hA0) Tryd.underlying128 rfl infoPt
      clear hbA0 hB0 hB1
      by_cases hx2 : x < 1
      · have HN : Hid (¬ Rwk l n) := fun hk => by have := (hk k hlt).1.1; rw [HX.out] at this; omega
        go_wp2_with (refine wpList_store_row rfl 128 _ _ rfl w.heap.size nil10.toArray rfl rfl 128 nil10.toArray hA0 infoPt rfl nil10_one ?_)
        exact bodyPost_ret (v := .tuple #[.agg nil10.toArray, .bool false]) (results_two Tryd.results76 HZ.out rfl rfl) rfl ⟨.inr ⟨HN.out, rfl⟩, hbZ⟩
      · by_cases hx9 : 9 < x
        · have HN : Hid (¬ Rwk l n) := fun hk => by have := (hk k hlt).1.1; rw [HX.out] at this; omega
          go_wp2_with (refine wpList_store_row rfl 128 _ _ rfl w.heap.size nil10.toArray rfl rfl 128 nil10.toArray hA0 infoPt rfl nil10_one ?_)
          exact bodyPost_ret (v := .tuple #[.agg nil10.toArray, .bool false]) (results_two Tryd.results76 HZ.out rfl rfl) rfl ⟨.inr ⟨HN.out, rfl⟩, hbZ⟩
        · obtain ⟨p, rfl⟩ : ∃ p : Nat, x = p := ⟨x.toNat, by omega⟩
          obtain ⟨a0, m0, c0, hS0, hm5, hm0⟩ := HP.out.row p (by omega)
          have hcS := hA1.cell hS0
          have hltA := hA1.lt
          by_cases hm : 0 < m0
          · have HN : Hid (¬ Rwk l n) := pt_twice HP.out hlt HX.out (by omega) hS0 hm
            clear hm0
            go_wp2_with (refine wpList_store_row rfl 128 _ _ rfl w.heap.size nil10.toArray rfl rfl 128 nil10.toArray hA0 infoPt rfl nil10_one ?_)
            exact bodyPost_ret (v := .tuple #[.agg nil10.toArray, .bool false]) (results_two Tryd.results76 HZ.out rfl rfl) rfl ⟨.inr ⟨HN.out, rfl⟩, hbZ⟩
          · obtain rfl : m0 = 0 := by omega
            clear hm0 hm hm5
            by_cases hn1 : ni < 1
            · have HN : Hid (¬ Rwk l n) := fun hk => by have := (hk k hlt).2; rw [HRow.out, hnl] at this; omega
              go_wp2_with (refine wpList_store_row rfl 128 _ _ rfl w.heap.size nil10.toArray rfl rfl 128 nil10.toArray hA0 infoPt rfl nil10_one ?_)
              exact bodyPost_ret (v := .tuple #[.agg nil10.toArray, .bool false]) (results_two Tryd.results76 HZ.out rfl rfl) rfl ⟨.inr ⟨HN.out, rfl⟩, hbZ⟩
            · by_cases hn5 : 5 < ni
              · have HN : Hid (¬ Rwk l n) := fun hk => by have := (hk k hlt).2; rw [HRow.out, hnl] at this; omega
                go_wp2_with (refine wpList_store_row rfl 128 _ _ rfl w.heap.size nil10.toArray rfl rfl 128 nil10.toArray hA0 infoPt rfl nil10_one ?_)
                exact bodyPost_ret (v := .tuple #[.agg nil10.toArray, .bool false]) (results_two Tryd.results76 HZ.out rfl rfl) rfl ⟨.inr ⟨HN.out, rfl⟩, hbZ⟩
              · have HP2 : Hid (Pt w l (k + 1) (S.set p (.slice ai ni ci))) := pt_step HP.out HX.out (by omega) (by omega) (by rw [HRow.out]; exact hrow) (by omega) (by omega) hS0
                have hfz := hA1.frozen p
                have Hs1 : Hid (BlkV _ _ _) := hA1.set p (.slice ai ni ci)
                have Hs0 : Hid (BlkV _ _ _) := hA0.other (g' := w.heap.size + 1) (i := p) (v := .slice ai ni ci) (by omega)
                have Hsb : Hid (Below _ _ _) := hbA.setCell (p := ⟨w.heap.size + 1, p, none⟩) (by simp) (.slice ai ni ci)
                clear hA0 hA1 hbA hbZ HZ hS0 hbel
                go_wp2
                go_roundw
                case rel => exact ⟨k + 1, _, by omega, by go_num, Hs0.out, Hs1.out, HP2, Hsb.out⟩
                case measure => simp [intOf]; omega
    · have hkn : k = n := by omega
      subst hkn
      have hsz := HP.out.size
      have hin : (Tryd.prog.info? 128).map (·.size) = some S.toArray.size := by rw [hsz]; exact infoPt
      have hon := HP.out.one
      have hne : nil10.toArray.size = S.toArray.size := by rw [hsz]; rfl
      have hbZ := below_setRow hbel (Nat.le_refl _) S.toArray
      have HZ : Hid (_ = _) := run_loadVar_row (P := Tryd.prog) _ w.heap.size 128 128 S.toArray (0, 0) _ (setRow_heap _ w.heap.size _ S.toArray _ (0, 0) hB0) Tryd.underlying128 rfl hin
      have HE : Hid (Byp l k w (.returned (.tuple #[.agg S.toArray, .bool true])) (wr.setRow w.heap.size S.toArray)) := ⟨.inl ⟨S, HP.out.below hbZ, rfl⟩, hbZ⟩
      have Hin : Hid (_ = _) := hin
      have Hne : Hid (_ = _) := hne
      have Hon : Hid (_ = _) := hon
      clear hsz hin hne hon hbZ
      go_wp2_with (first | (refine wpList_load_row rfl 128 _ rfl (w.heap.size + 1) rfl 128 S.toArray (0, 0) _ hB1 Tryd.underlying128 rfl Hin.out ?_) | (refine wpList_store_row rfl 128 _ _ rfl w.heap.size S.toArray rfl rfl 128 nil10.toArray hB0 Hin.out Hne.out Hon.out ?_))
      exact bodyPost_ret (v := .tuple #[.agg S.toArray, .bool true]) (results_two Tryd.results76 HZ.out rfl rfl) rfl HE.out
theorem cBothTw (g i j : Nat) (S : List Value) (a b : Option Addr) (m k c d : Nat) (w : World) (h : BlkV w g S) (hi : S[i]? = some (.slice a m c)) (hj : S[j]? = some (.slice b k d)) (hi9 : i < 10) (hj9 : j < 10) :
    Calls Tryd.prog 104 #[.pointer (some ⟨g, 0, none⟩), .int .i64 i, .int .i64 j] w fun e w' => e = .returned (.bool (decide (0 < m) && decide (0 < k))) ∧ w' = w := by
  have ci := h.cell hi
  have cj := h.cell hj
  have hlt := h.lt
  by_cases hm : 0 < m
  · by_cases hk : 0 < k
    · go_enter Tryd.func104, Tryd.ntmps104
      go_wp2
      go_ret
      simp [hm, hk]
    · obtain rfl : k = 0 := by omega
      go_enter Tryd.func104, Tryd.ntmps104
      go_wp2
      go_ret
      simp
  · obtain rfl : m = 0 := by omega
    go_enter Tryd.func104, Tryd.ntmps104
    go_wp2
    go_ret
    simp

theorem cBothY (g i j : Nat) (S : List Value) (a b : Option Addr) (m k c d : Nat) (w : World) (h : BlkV w g S) (hi : S[i]? = some (.slice a m c)) (hj : S[j]? = some (.slice b k d)) (hi9 : i < 10) (hj9 : j < 10) (hm : 0 < m) (hk : 0 < k) :
    Calls Tryd.prog 104 #[.pointer (some ⟨g, 0, none⟩), .int .i64 i, .int .i64 j] w fun e w' => e = .returned (.bool true) ∧ w' = w := by
  refine (cBothTw g i j S a b m k c d w h hi hj hi9 hj9).mono ?_
  rintro e w' ⟨rfl, rfl⟩
  simp [hm, hk]
theorem cBothN (g i j : Nat) (S : List Value) (a b : Option Addr) (m k c d : Nat) (w : World) (h : BlkV w g S) (hi : S[i]? = some (.slice a m c)) (hj : S[j]? = some (.slice b k d)) (hi9 : i < 10) (hj9 : j < 10) (hm : m = 0 ∨ k = 0) :
    Calls Tryd.prog 104 #[.pointer (some ⟨g, 0, none⟩), .int .i64 i, .int .i64 j] w fun e w' => e = .returned (.bool false) ∧ w' = w := by
  refine (cBothTw g i j S a b m k c d w h hi hj hi9 hj9).mono ?_
  rintro e w' ⟨rfl, rfl⟩
  rcases hm with rfl | rfl <;> simp
theorem cTwEvalQ (a : Option Addr) (n c : Nat) (xs : List Int) (x : Int) (w : World) (h : Rd w a n c xs) (hn : n ≤ 40) (hx0 : 0 ≤ x) (hx1 : x ≤ 18446744073709551615) :
    Calls Tryd.prog 53 #[.slice a n c, .int .u64 x] w fun e w' => e = .returned (.tuple #[.int .u64 (nm (ev xs x)), .int .i64 0]) ∧ ∃ q, w' = w.drewN q := by
  go_enter Tryd.func53, Tryd.ntmps53
  go_wp2_with (go_at_call 84; refine (cValueQ _ _ _ _ _ _ h hx0 hx1).mono ?_; rintro e w1 ⟨rfl, q, rfl⟩)
  go_ret2
  exact ⟨rfl, q, rfl⟩
theorem cTwValueQ (a : Option Addr) (n c : Nat) (xs : List Int) (x : Nat) (w : World) (h : Rd w a n c xs) (hn : n ≤ 40) (hx : x ≤ 100) :
    Calls Tryd.prog 100 #[.slice a n c, .int .i64 x] w fun e w' => e = .returned (.int .u64 (nm (ev xs x))) ∧ ∃ q, w' = w.drewN q := by
  go_enter Tryd.func100, Tryd.ntmps100
  go_wp2_with fail
  refine (cTwEvalQ _ _ _ _ _ _ h hn (by omega) (by omega)).mono ?_
  rintro e w1 ⟨rfl, q, rfl⟩
  go_wp2
  go_ret
  exact ⟨rfl, q, rfl⟩
theorem BlkV.drewN {w : World} {g : Nat} {S : List Value} (h : BlkV w g S) (q : Nat) : BlkV (w.drewN q) g S := h

theorem prj_start0 {l : List (Int × List Int)} {n : Nat} (hd : dis (ta l) n) : Prj l n 0 1 [] := ⟨List.Pairwise.nil, fun a b => ⟨fun h => by simp at h, fun ⟨h1, h2, h3⟩ => by have := dif_bd hd h2; omega⟩⟩

theorem cApart (g n : Nat) (l : List (Int × List Int)) (S : List Value) (w : World) (h : BlkV w g S) (hP : Pt w l n S) :
    Calls Tryd.prog 78 #[.pointer (some ⟨g, 0, none⟩)] w fun e w' => ∃ v L, e = .returned v ∧ w'.ownsRow w.heap.size 136 2 v L.length (ppc L) ∧ L.length ≤ 1000 ∧ Prs l n L ∧ Below w.heap.size w w' := by
  have HK : Hid (Rwk l n) := hP.rwk
  have HP0 : Hid (Pt w l n S) := hP
  have hg := h.lt
  clear hP
  go_enter Tryd.func78, Tryd.ntmps78
  go_wp2
  go_loopw [3, 6] (fun v q wr => ∃ (i : Nat) (L : List (Int × Int)), i ≤ 10 ∧ q = .int .i64 i ∧ wr.ownsRow w.heap.size 136 2 v L.length (ppc L) ∧ L.length ≤ 10 * i ∧ Hid (Prj l n i ((i : Int) + 1) L) ∧ Below w.heap.size w wr) (fun _ q _ => 10 - (intOf q).toNat)
  case atStart => exact ⟨0, [], by omega, rfl, World.ownsRow_nil _ _ _ _, by simp, prj_start0 HK.out.dis, Below.refl _ _⟩
  case round =>
    obtain ⟨i, L, hi, rfl, hown, hLl, HP, hbel⟩ := hrel
    by_cases hi10 : i < 10
    · have hid : decide ((i : Int) < 10) = true := decide_eq_true (by omega)
      go_wp2
      go_loopw [3, 5] (fun v q wr => ∃ (j : Nat) (L : List (Int × Int)), i + 1 ≤ j ∧ j ≤ 10 ∧ q = .int .i64 j ∧ wr.ownsRow w.heap.size 136 2 v L.length (ppc L) ∧ L.length ≤ 10 * i + j ∧ Hid (Prj l n i j L) ∧ Below w.heap.size w wr) (fun _ q _ => 10 - (intOf q).toNat)
      case atStart => exact ⟨i + 1, L, by omega, by omega, by go_num, hown, by omega, by push_cast; exact HP, hbel⟩
      case round =>
        clear hown hLl HP hbel
        obtain ⟨j, L, hj1, hj, rfl, hown, hLl, HP, hbel⟩ := hrel
        have hsw := hbel.size
        by_cases hj10 : j < 10
        · have hBr := h.below hbel hg
          have HPr := HP0.out.below hbel
          obtain ⟨ai, mi, ci, hSi, hmi, hri⟩ := HPr.row i (by omega)
          obtain ⟨aj, mj, cj, hSj, hmj, hrj⟩ := HPr.row j (by omega)
          have cei := hBr.cell hSi
          have cej := hBr.cell hSj
          have hgr := hBr.lt
          rcases hri with ⟨hz, hno⟩ | ⟨r, hr, her, hm1, hrdi⟩
          · have HP2 : Hid (Prj l n i ((j : Int) + 1) L) := prj_skip HP.out (dif_none1 hno)
            have HZ : Hid (mi = 0 ∨ mj = 0) := .inl hz
            clear hno hrj hz HPr
            go_wp2_with fail
            go_quiet ((go_at_call 104; exact Calls.quiet_of_same (cBothN _ _ _ _ _ _ _ _ _ _ _ (hBr.drewN _) hSi hSj (by omega) (by omega) HZ.out)))
            all_goals
              go_wp2
              go_roundw
              case rel => exact ⟨j + 1, L, by omega, by omega, by go_num, hown, by omega, by push_cast; exact HP2, drewN_below hbel _⟩
              case measure => simp [intOf]; omega
          · rcases hrj with ⟨hz, hno⟩ | ⟨s, hs, hes, hk1, hrdj⟩
            · have HP2 : Hid (Prj l n i ((j : Int) + 1) L) := prj_skip HP.out (dif_none2 hno)
              have HZ : Hid (mi = 0 ∨ mj = 0) := .inr hz
              clear hno hz HPr her hrdi
              go_wp2_with fail
              go_quiet ((go_at_call 104; exact Calls.quiet_of_same (cBothN _ _ _ _ _ _ _ _ _ _ _ (hBr.drewN _) hSi hSj (by omega) (by omega) HZ.out)))
              all_goals
                go_wp2
                go_roundw
                case rel => exact ⟨j + 1, L, by omega, by omega, by go_num, hown, by omega, by push_cast; exact HP2, drewN_below hbel _⟩
                case measure => simp [intOf]; omega
            · have HER : Hid (ta l r = (i : Int)) := her
              have HES : Hid (ta l s = (j : Int)) := hes
              clear her hes HPr
              by_cases hev : nm (ev (tc l r) (j : Int)) = nm (ev (tc l s) (i : Int))
              · have hmb : (nm (ev (tc l r) (j : Int)) != nm (ev (tc l s) (i : Int))) = false := by rw [hev]; simp
                have HP2 : Hid (Prj l n i ((j : Int) + 1) L) := prj_skip HP.out (dif_no HK.out.dis hr hs HER.out HES.out hev)
                clear hev
                go_wp2_with fail
                go_quiet ((first | (go_at_call 104; exact Calls.quiet_of_same (cBothY _ _ _ _ _ _ _ _ _ _ _ (hBr.drewN _) hSi hSj (by omega) (by omega) (by omega) (by omega))) | (go_at_call 100; first | exact Calls.quiet_of (cTwValueQ _ _ _ _ _ _ (hrdi.drewN _) (by omega) (by omega)) | exact Calls.quiet_of (cTwValueQ _ _ _ _ _ _ (hrdj.drewN _) (by omega) (by omega)))))
                all_goals
                  go_wp2
                  go_roundw
                  case rel => exact ⟨j + 1, L, by omega, by omega, by go_num, hown, by omega, by push_cast; exact HP2, drewN_below hbel _⟩
                  case measure => simp [intOf]; omega
              · have hmb : (nm (ev (tc l r) (j : Int)) != nm (ev (tc l s) (i : Int))) = true := by rw [bne_iff_ne]; exact hev
                have HP2 : Hid (Prj l n i ((j : Int) + 1) (L ++ [((i : Int), (j : Int))])) := prj_add HP.out (by omega) (dif_yes hr hs HER.out HES.out hev)
                have HLl : Hid ((L ++ [((i : Int), (j : Int))]).length = L.length + 1) := by unfold Hid; simp
                clear hev
                go_wp2_with fail
                go_quiet ((first | (go_at_call 104; exact Calls.quiet_of_same (cBothY _ _ _ _ _ _ _ _ _ _ _ (hBr.drewN _) hSi hSj (by omega) (by omega) (by omega) (by omega))) | (go_at_call 100; first | exact Calls.quiet_of (cTwValueQ _ _ _ _ _ _ (hrdi.drewN _) (by omega) (by omega)) | exact Calls.quiet_of (cTwValueQ _ _ _ _ _ _ (hrdj.drewN _) (by omega) (by omega)))))
                have hownD : (wr.drewN nq).ownsRow w.heap.size 136 2 u3 L.length (ppc L) := hown
                have hbwD := drewN_below hbel nq
                have hsD : w.heap.size ≤ (wr.drewN nq).heap.size := hsw
                generalize wr.drewN nq = wD at *
                obtain ⟨NL, HNL⟩ : ∃ NL, Hid (L.length = NL) := ⟨_, rfl⟩
                rw [HNL.out] at hownD hLl HLl
                clear hown hbel hsw hrdi hrdj cei cej hBr hSi hSj
                go_wp2_with (at_builtin; refine wpList_app2 Tryd.underlying132 infoPair rfl (by omega) _ rfl _ _ rfl w.heap.size _ _ _ rfl hownD (.int .i64 i) (.int .i64 j) rfl rfl rfl (by omega) hsD ?_; intro v7 w7 hown7 hgr7 _; rw [ppc_snoc] at hown7; have hb7 := hbwD.grown hgr7 hsD (fun q hq => (hownD.lt q hq).1); clear hgr7 hownD hbwD)
                go_roundw
                case rel => exact ⟨j + 1, _, by omega, by omega, by go_num, by rw [HLl.out]; exact hown7, by rw [HLl.out]; omega, by push_cast; exact HP2, hb7⟩
                case measure => simp [intOf]; omega
        · have hj2 : j = 10 := by omega
          subst hj2
          have HP2 : Hid (Prj l n ((i : Int) + 1) ((i : Int) + 2) L) := prj_next HK.out.dis HP.out
          go_wp2
          go_roundw
          case rel => exact ⟨i + 1, L, by omega, by go_num, hown, by omega, by have := HP2.out; push_cast; rw [show (i : Int) + 1 + 1 = (i : Int) + 2 by omega]; exact this, hbel⟩
          case measure => simp [intOf]; omega
    · have hi2 : i = 10 := by omega
      subst hi2
      have HE : Hid (Prs l n L) := prj_end HK.out.dis HP.out
      go_wp2
      go_ret
      exact ⟨_, L, rfl, hown, by omega, HE.out, hbel⟩
end
end Go.Proofs.YtljlioglpaogdagDoor
