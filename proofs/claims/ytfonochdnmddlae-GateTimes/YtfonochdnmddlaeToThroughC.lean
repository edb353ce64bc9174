/- gate.Mul. · poly.Through. -/
import Derived.Test.YtfonochdnmddlaeToGateC
import Derived.Test.YtfonochdnmddlaeToGateDC
import Derived.Test.YtfonochdnmddlaeToGateWC
import Derived.Test.YtfonochdnmddlaeToShamirM
import Derived.Test.YtfonochdnmddlaeToOwnC
import Derived.Test.YtfonochdnmddlaeToFaceC
import Derived.Deep.QuietTactic
import Derived.BigQuiet
namespace Go.Proofs.Ytfonochdnmddlae
open Go.RowKit Crm

/-- The parties' products. -/
def pps (xs ys : List Int) (n : Nat) : List Int := (List.range n).map fun i => nm (xs.getD i 0 * ys.getD i 0)
theorem pps_len (xs ys : List Int) (n : Nat) : (pps xs ys n).length = n := by simp [pps]
theorem pps_getD (xs ys : List Int) {n i : Nat} (h : i < n) : (pps xs ys n).getD i 0 = nm (xs.getD i 0 * ys.getD i 0) := by simp [pps, h]
theorem pps_bd (xs ys : List Int) (n : Nat) : ∀ z ∈ pps xs ys n, 0 ≤ z ∧ z ≤ 18446744073709551615 := by
  intro z hz
  obtain ⟨i, _, rfl⟩ := List.mem_map.1 hz
  have := nm_bd (xs.getD i 0 * ys.getD i 0)
  omega
theorem pps_row (t : Nat) (xs ys ds : List Int) {n j : Nat} : gdr t (pps xs ys n) ds n n j = tmR t xs ys ds n j := by
  unfold gdr tmR
  rw [fil_full]
  refine List.map_congr_left fun i hi => ?_
  unfold pdC prC
  rw [pps_getD xs ys (List.mem_range.1 hi)]
theorem pps_all (t : Nat) (xs ys ds : List Int) (n : Nat) : gdi t (pps xs ys n) ds n n = tmG t xs ys ds n := by
  unfold gdi tmG
  exact List.map_congr_left fun j _ => pps_row t xs ys ds
theorem pps_out (t : Nat) (xs ys ds : List Int) (n : Nat) : (List.range n).map (fun j => wgs (tmG t xs ys ds n) n j n) = tmO t xs ys ds n n := by
  unfold tmO
  refine List.map_congr_left fun j hj => ?_
  unfold wgs tmf
  refine sm_ncongr fun i hi => ?_
  rw [tmG_getD t xs ys ds (List.mem_range.1 hj), tmR_getD t xs ys ds j hi]

set_option maxRecDepth 100000 in
set_option maxHeartbeats 1000000 in
theorem cGMul (t : Int) (a : Option Addr) (n c : Nat) (xs : List Int) (b : Option Addr) (m d : Nat) (ys : List Int) (e0 : Option Addr) (q f : Nat) (ds : List Int) (w : World) (h : Rd w a n c xs) (g : Rd w b m d ys) (k : Rd w e0 q f ds) :
    Calls Try.prog 34 #[.int .i64 t, .slice a n c, .slice b m d, .slice e0 q f] w fun e w' => Gtm t xs ys ds n m q w e w' := by
  have hmx := h.max
  have hgx := g.max
  have hkx := k.max
  have hc := h.cap
  have gc := g.cap
  have kc := k.cap
  unfold maxLen at hmx hgx hkx
  by_cases h1 : t < 0
  · go_enter Try.func34, Try.ntmps34
    go_wp2
    go_ret3
    exact ⟨.inl ⟨1, by omega, .inl ⟨.inl h1, rfl⟩, rfl⟩, Below.refl _ _⟩
  · by_cases h2 : 4 < t
    · go_enter Try.func34, Try.ntmps34
      go_wp2
      go_ret3
      exact ⟨.inl ⟨1, by omega, .inl ⟨.inr h2, rfl⟩, rfl⟩, Below.refl _ _⟩
    · obtain ⟨k4, rfl⟩ : ∃ k : Nat, t = k := ⟨t.toNat, by omega⟩
      have HT : Hid (((k4 : Nat) : Int).toNat = k4) := by unfold Hid; omega
      go_enter Try.func34, Try.ntmps34
      go_wp2_with fail
      refine (cBothMul _ _ _ _ _ _ _ _ _ h g).mono ?_
      rintro e w1 ⟨⟨hn, rfl⟩ | ⟨hn, v, rfl, ho⟩, hb⟩
      · have HG : Hid (Gme k4 n m q 5) := .inr ⟨⟨by omega, by omega⟩, .inl ⟨hn, rfl⟩⟩
        clear hn
        go_wp2
        go_ret3
        exact ⟨.inl ⟨5, by omega, HG.out, rfl⟩, hb⟩
      · have HY : Hid (Wr2 n m) := hn
        clear hn
        obtain rfl : m = n := HY.out.2
        have hn1 := HY.out.1.1
        have hn9 := HY.out.1.2
        change w1.ownsRow _ _ _ _ _ ((pps xs ys m).map (Value.int .u64)) at ho
        obtain ⟨av, cv, rfl, hrv, _⟩ := Rd.own ho (pps_bd xs ys m)
        clear ho
        by_cases h3 : m < 2 * k4 + 1
        · have HG : Hid (Gme k4 m m q 4) := .inr ⟨⟨by omega, by omega⟩, .inr ⟨HY.out, .inl ⟨by omega, rfl⟩⟩⟩
          clear hrv
          go_wp2
          go_ret3
          exact ⟨.inl ⟨4, by omega, HG.out, rfl⟩, hb⟩
        · obtain ⟨P, HP⟩ : ∃ P, Hid (m * k4 = P) := ⟨_, rfl⟩
          have hP : (m : Int) * (k4 : Int) = (P : Int) := by rw [← HP.out]; push_cast; rfl
          have hP36 : P ≤ 36 := by rw [← HP.out]; exact Nat.le_trans (Nat.mul_le_mul hn9 (show k4 ≤ 4 by omega)) (by omega)
          by_cases hq : q = P
          · have hqb : ((q : Int) != (P : Int)) = false := by rw [bne_eq_false_iff_eq]; omega
            have HQ : Hid (q = m * k4) := by unfold Hid; rw [HP.out]; exact hq
            have HG : Hid (Gme k4 m m q 0) := .inr ⟨⟨by omega, by omega⟩, .inr ⟨HY.out, .inr ⟨by omega, .inr ⟨by rw [hP]; omega, rfl⟩⟩⟩⟩
            clear hq
            go_wp2_with fail
            refine (cDealAll _ _ _ _ _ _ _ _ _ _ hrv (k.below hb) (by omega) (by omega) hn9 HQ.out).mono ?_
            rintro e w2 ⟨u, L, rfl, hL, hb2⟩
            rw [pps_all] at hL
            have hL2 := hL.base hb.size
            have hb3 := hb.trans (hb2.mono hb.size)
            clear hL hb2 hP hrv hqb
            have HTR : Hid (∀ j, j < m → ((tmG k4 xs ys ds m).getD j []).length = m) := fun j hj => by rw [tmG_getD k4 xs ys ds hj, tmR_len]
            obtain ⟨au, cu, rfl, hru⟩ := hL2.rdR (tmG_len k4 xs ys ds m) (fun j hj => by rw [tmG_getD k4 xs ys ds hj]; exact bd_u64 (tmR_bd k4 xs ys ds m j))
            go_wp2_with fail
            refine (cWeigh _ _ _ _ _ hru hn1 hn9 HTR.out).mono ?_
            rintro e w3 ⟨v3, rfl, ho3, hb4⟩
            rw [pps_out] at ho3
            have ho4 := own_baseV ho3 hb3.size
            have hL4 := hL2.below hb4
            have hb5 := hb3.trans (hb4.mono hb3.size)
            clear ho3 hL2 hb3 hb4 hru HTR
            go_wp2
            go_ret3
            exact ⟨.inr ⟨HG.out, v3, _, L, rfl, by rw [HT.out]; exact ho4, by rw [HT.out]; exact hL4⟩, hb5⟩
          · have hqb : ((q : Int) != (P : Int)) = true := by rw [bne_iff_ne]; omega
            have HG : Hid (Gme k4 m m q 1) := .inr ⟨⟨by omega, by omega⟩, .inr ⟨HY.out, .inr ⟨by omega, .inl ⟨by rw [hP]; omega, rfl⟩⟩⟩⟩
            clear hq hrv
            go_wp2
            go_ret3
            exact ⟨.inl ⟨1, by omega, HG.out, rfl⟩, hb⟩
end Go.Proofs.Ytfonochdnmddlae

namespace Go.Proofs.Ytfonochdnmddlae
open Go.RowKit Crm

set_option maxRecDepth 100000 in
theorem cThroughL (a : Option Addr) (n c : Nat) (w : World) (hm : n ≤ 9223372036854775807) (hn : 40 < n) :
    Calls Try.prog 50 #[.slice a n c] w fun e w' => e = .returned (.tuple #[.slice none 0 0, .int .i64 2]) ∧ w' = w := by
  go_enter Try.func50, Try.ntmps50
  go_wp2
  go_ret2
  exact ⟨rfl, rfl⟩

set_option maxRecDepth 100000 in
theorem cThroughN (a : Option Addr) (n c : Nat) (l : List (Int × Int)) (w : World) (h : RdS w a n c l) (hn : n ≤ 40) (ho : ¬ okk l n) :
    Calls Try.prog 50 #[.slice a n c] w fun e w' => e = .returned (.tuple #[.slice none 0 0, .int .i64 5]) ∧ Below w.heap.size w w' := by
  have HO : Hid (¬ okk l n) := ho
  clear ho
  go_enter Try.func50, Try.ntmps50
  go_wp2_with fail
  refine (cPlaced _ _ _ _ _ h (by omega)).mono ?_
  rintro e w1 ⟨r, rfl, hr, hb⟩
  obtain rfl : r = false := by cases r with | false => rfl | true => exact absurd (hr.1 rfl) HO.out
  clear hr
  go_wp2
  go_ret2
  exact ⟨rfl, hb⟩

/-- A row that a list's text lays. -/
theorem Blk.lit1 (w : World) (x : Int) : Blk (w.alloc (.cells #[.int .u64 x] 22)) w.heap.size [x] := heap_alloc_new w _
theorem Blk.lit2 (w : World) (x y : Int) : Blk (w.alloc (.cells #[.int .u64 x, .int .u64 y] 22)) w.heap.size [x, y] := heap_alloc_new w _

set_option maxRecDepth 100000 in
set_option maxHeartbeats 1000000 in
theorem cThroughOK (a : Option Addr) (n c : Nat) (l : List (Int × Int)) (w : World) (h : RdS w a n c l) (hn : n ≤ 40) (ho : okk l n) :
    Calls Try.prog 50 #[.slice a n c] w fun e w' => ∃ S g, e = .returned (.tuple #[.slice (some ⟨g, 0, none⟩) (tl S n) n, .int .i64 0]) ∧ S.length = n ∧ (∀ x ∈ S, 0 ≤ x ∧ x ≤ 2147483646) ∧
      (∀ j, j < n → nm (ev S (l.getD j (0, 0)).1) = nm (l.getD j (0, 0)).2) ∧ Rd w' (some ⟨g, 0, none⟩) (tl S n) n (trm S) ∧ Below w.heap.size w w' := by
  obtain ⟨i0, hi, hz0, hz1, hz2⟩ := info_parts info22
  have HO : Hid (okk l n) := ho
  clear ho
  have hlen := h.len
  go_enter Try.func50, Try.ntmps50
  go_wp2_with fail
  refine (cPlaced _ _ _ _ _ h (by omega)).mono ?_
  rintro e w1 ⟨r, rfl, hr, hb1⟩
  obtain rfl : r = true := hr.2 HO.out
  clear hr
  have hs1 := hb1.size
  go_wp2_with (at_make; refine wpList_make_full _ rfl _ _ 23 rfl w1.heap.size 22 i0 (.int .u64 0) 1 Try.underlying23 hi hz0 hz1 .i64 .i64 _ _ n rfl rfl (by omega) (by omega) (by rw [hz2]; omega) (by unfold maxLen; omega) (Nat.le_refl _) ?_; intro w2 hown hgrow)
  have hB2 : Blk w2 w1.heap.size (List.replicate n 0) := Blk.made hown
  have hb2 : Below w1.heap.size w1 w2 := (Below.refl _ _).grown hgrow (Nat.le_refl _) (by simp)
  have hb12 : Below w.heap.size w w2 := hb1.trans (hb2.mono hs1)
  clear hown hgrow
  obtain ⟨g1, hg1⟩ : ∃ g1, g1 = w1.heap.size := ⟨_, rfl⟩
  rw [← hg1] at hB2 hs1 ⊢
  clear hg1 hb2 hb1
  have hgl := hB2.lt
  go_loopw [5, 24] (fun z i wr => ∃ (k : Nat) (S Z : List Int) (gz : Nat), k ≤ n ∧ i = .int .i64 k ∧ z = .slice (some ⟨gz, 0, none⟩) (k + 1) (k + 1) ∧ Hid (NwI l n k S Z) ∧ Blk wr g1 S ∧ Blk wr gz Z ∧ gz ≠ g1 ∧ Below w.heap.size w wr) (fun _ i _ => n - (intOf i).toNat)
  case atStart => exact ⟨0, _, _, _, Nat.zero_le _, rfl, rfl, nw_start l n, hB2.below ((Below.refl _ _).alloc (Nat.le_refl _) _) hgl, Blk.lit1 _ _, by omega, hb12.alloc (hb12.size) _⟩
  case round =>
    obtain ⟨k, S, Z, gz, hk, rfl, rfl, HI, hbs, hbz, hne, hbel⟩ := hrel
    have hls := HI.out.ls
    have hlz := HI.out.lz
    have HBS : Hid (∀ x ∈ S, 0 ≤ x ∧ x ≤ 2147483646) := HI.out.bs
    have HBZ : Hid (∀ x ∈ Z, 0 ≤ x ∧ x ≤ 2147483646) := HI.out.bz
    by_cases hlt : k < n
    · obtain ⟨b, o, x, y, rfl, hbb, HX, HY, hx0, hx1, hy0, hy1, hcx, hcy⟩ := (h.below hbel).one hlt
      have hxo := (HO.out k hlt).1
      rw [HX.out] at hxo
      have hxo1 := hxo.1
      have hxo2 := hxo.2
      have HE : Hid (nm (nm (ev Z x)) ≠ 0) := by rw [nm_nm, ← HX.out]; exact HI.out.z1 k (Nat.le_refl _) hlt
      have hnS := nm_bd (ev S x)
      have hnZ := nm_bd (ev Z x)
      have hnL := nm_bd (y - nm (ev S x))
      have hiv := iv_bd (nm (ev Z x))
      have hnX := nm_bd (-x)
      have hbA : Below wr.heap.size wr (wr.alloc (.cells #[.int .i64 x, .int .u64 y] 29)) := (Below.refl _ _).alloc (Nat.le_refl _) _
      have hcA0 := cell_alloc0 wr (.int .i64 x) (.int .u64 y) 29
      have hcA1 := cell_alloc1 wr (.int .i64 x) (.int .u64 y) 29
      go_wp2
      generalize hW : wr.alloc (.cells #[.int .i64 x, .int .u64 y] 29) = W at *
      clear hW
      have hbelW : Below w.heap.size w W := hbel.trans (hbA.mono hbel.size)
      have hbsW := hbs.below hbA hbs.lt
      have hbzW := hbz.below hbA hbz.lt
      have rS : Rd W (some ⟨g1, 0, none⟩) n n S := hbsW.whole n hls.symm (by unfold maxLen; omega) (bd_u64 HBS.out)
      have rZ : Rd W (some ⟨gz, 0, none⟩) (k + 1) (k + 1) Z := hbzW.whole (k + 1) hlz.symm (by unfold maxLen; omega) (bd_u64 HBZ.out)
      clear hbA hbs hbz hbel hcx hcy
      go_quiet ((first | (go_at_call 58; exact Calls.quiet_of (cValueQ _ _ _ _ _ _ (rS.drewN _) (by omega) (by omega))) | (go_at_call 30; exact Calls.quiet_of_same (fSub _ _ _ (by omega) (by omega) (by omega) (by omega)))))
      go_wp2_with fail
      refine (cValueQ _ _ _ _ _ _ (rZ.drewN _) (by omega) (by omega)).mono ?_
      rintro e w3 ⟨rfl, q3, rfl⟩
      go_wp2_with fail
      refine (fInv1 _ _ (by omega) (by omega) HE.out).mono ?_
      rintro e w3 ⟨rfl, rfl⟩
      obtain ⟨t, HT⟩ : ∃ t, Hid (t = nm (nm (y - nm (ev S x)) * iv (nm (ev Z x)))) := ⟨_, rfl⟩
      have hnt : 0 ≤ t ∧ t ≤ 2147483646 := by rw [HT.out]; exact nm_bd _
      have HI2 : Hid (NwI l n (k + 1) (addAt S 0 Z t (k + 1)) (cvl Z [nm (-x), 1])) := nw_step HI.out hlt HO.out HX.out HY.out HT.out
      go_wp2_with (go_at_call 32; refine (fMul _ _ _ (by omega) (by omega) (by omega) (by omega)).mono ?_; rintro e w3 ⟨he, rfl⟩; rw [← HT.out] at he; subst he)
      refine (cAddTimes _ _ _ _ _ _ _ _ _ _ _ (by exact hbsW) (bd_u64 HBS.out) (rZ.drewN _) (fun x hx => by obtain rfl := Option.some.inj hx; exact hne) (by omega) (by omega) (by omega) (by omega) (by omega)).mono ?_
      rintro e w4 ⟨rfl, hb4, hg4⟩
      have hz4 : Blk w4 gz Z := Blk.grown (by exact hbzW) hg4 (by simpa using hne)
      have hbel4 : Below w.heap.size w w4 := below_grown (drewN_below hbelW _) hg4 hs1
      have hbB : Below w4.heap.size w4 (w4.alloc (.cells #[.int .u64 (nm (-x)), .int .u64 1] 22)) := (Below.refl _ _).alloc (Nat.le_refl _) _
      have hp4 := Blk.lit2 w4 (nm (-x)) 1
      clear hbelW hbsW hbzW rS rZ hg4 hcA0 hcA1
      go_wp2_with (go_at_call 30; refine (fSub _ _ _ (by omega) (by omega) (by omega) (by omega)).mono ?_; rintro e w3 ⟨rfl, hw⟩; have hw := hw.symm; subst hw)
      generalize hW5 : w4.alloc (.cells #[.int .u64 (nm (-x)), .int .u64 1] 22) = W5 at *
      have hs5 : w4.heap.size < W5.heap.size := hp4.lt
      clear hW5
      have hbel5 : Below w.heap.size w W5 := hbel4.trans (hbB.mono hbel4.size)
      have hz5 := hz4.below hbB hz4.lt
      have hb5 := hb4.below hbB hb4.lt
      have hl5 := hb5.lt
      have rZ5 : Rd W5 (some ⟨gz, 0, none⟩) (k + 1) (k + 1) Z := hz5.whole (k + 1) hlz.symm (by unfold maxLen; omega) (bd_u64 HBZ.out)
      have rP5 : Rd W5 (some ⟨w4.heap.size, 0, none⟩) 2 2 [nm (-x), 1] := hp4.whole 2 rfl (by unfold maxLen; omega) (by
        intro u hu
        simp only [List.mem_cons, List.not_mem_nil, or_false] at hu
        rcases hu with rfl | rfl <;> omega)
      refine (cProduct _ _ _ _ _ _ _ _ _ rZ5 rP5 (by omega) (by omega) (by omega) (by omega)).mono ?_
      rintro e w6 ⟨rfl, hb6, hbel6⟩
      have hs6 := hb5.below hbel6 hb5.lt
      have hbel7 := hbel5.trans (hbel6.mono hbel5.size)
      clear hbel6 hbel5 hz5 hb5 rZ5 rP5 hp4 hz4 hb4 hbB hbel4
      go_wp2
      go_roundw
      case rel => exact ⟨k + 1, _, _, _, by omega, by go_num, rfl, HI2, hs6, hb6, by omega, hbel7⟩
      case measure => simp [intOf]; omega
    · have hkn : k = n := by omega
      subst hkn
      have rS : Rd wr (some ⟨g1, 0, none⟩) k k S := hbs.whole k hls.symm (by unfold maxLen; omega) (bd_u64 HBS.out)
      go_wp2_with (go_at_call 77; refine (cTrim _ _ _ _ _ rS).mono ?_; rintro e w' ⟨rfl, hw⟩; have hw := hw.symm; subst hw)
      go_ret2
      refine ⟨S, g1, rfl, hls, HBS.out, HI.out.s, ?_, hbel⟩
      have ht := tl_le S k
      have := hbs.rd 0 (tl S k) k ht (by unfold maxLen; omega) (by omega) (bd_u64 HBS.out)
      rw [List.drop_zero] at this
      have e : trm S = S.take (tl S k) := by unfold trm; rw [hls]
      rw [e]
      exact this
end Go.Proofs.Ytfonochdnmddlae
