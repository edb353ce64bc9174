/- poly.Norm, poly.Mul, poly.Eval. · poly.Through. · The walk of croftkeep.PolyPoints. -/
import Derived.Test.YtljlioglpaogdadToProdC
import Derived.Test.YtljlioglpaogdadValC
import Derived.Test.YtljlioglpaogdadToOwnC
import Derived.Test.YtljlioglpaogdadToIntsC
import Derived.Deep.QuietTactic
import Derived.BigQuiet
import Derived.Test.YtljlioglpaogdadToPolyM3
import Derived.Deep.RegionWith
namespace Go.Proofs.Ytljlioglpaogdad
set_option linter.unusedVariables false
set_option maxRecDepth 100000
set_option maxHeartbeats 8000000
section
open Crm Go.RowKit
/-- What normal has made reads as the normal polynomial. -/
theorem Blk.nrm {w : World} {g n : Nat} {xs : List Int} (h : Blk w g (nz xs)) (hl : xs.length = n) (hn : n ≤ 1000000) : Rd w (some ⟨g, 0, none⟩) (tl (nz xs) n) n (Crm.nrm xs) := by
  have ht := tl_le (nz xs) n
  have := h.rd 0 (tl (nz xs) n) n ht (by unfold maxLen; omega) (by rw [nz_len]; omega) (nz_bd xs)
  rw [List.drop_zero] at this
  have e : Crm.nrm xs = (nz xs).take (tl (nz xs) n) := by unfold Crm.nrm trm; rw [nz_len, hl]
  rw [e]
  exact this

theorem cNormOK (a : Option Addr) (n c : Nat) (xs : List Int) (w : World) (h : Rd w a n c xs) (hn : n ≤ 40) :
    Calls Try.prog 18 #[.slice a n c] w fun e w' => e = .returned (.tuple #[.slice (some ⟨w.heap.size, 0, none⟩) (tl (nz xs) n) n, .int .i64 0]) ∧ Rd w' (some ⟨w.heap.size, 0, none⟩) (tl (nz xs) n) n (nrm xs) ∧ Below w.heap.size w w' := by
  go_enter Try.func18, Try.ntmps18
  go_wp2_with (go_at_call 37; refine (cNormal _ _ _ _ _ h (by omega)).mono ?_; rintro e w1 ⟨rfl, hb, hbel⟩)
  go_ret2
  exact ⟨rfl, hb.nrm h.len (by omega), hbel⟩

theorem cEvalOK (a : Option Addr) (n c : Nat) (xs : List Int) (x : Int) (w : World) (h : Rd w a n c xs) (hn : n ≤ 40) (hx0 : 0 ≤ x) (hx1 : x ≤ 18446744073709551615) :
    Calls Try.prog 13 #[.slice a n c, .int .u64 x] w fun e w' => e = .returned (.tuple #[.int .u64 (nm (ev xs x)), .int .i64 0]) ∧ Below w.heap.size w w' := by
  go_enter Try.func13, Try.ntmps13
  go_wp2_with (go_at_call 39; refine (cValue _ _ _ _ _ _ h hx0 hx1).mono ?_; rintro e w1 ⟨rfl, hbel⟩)
  go_ret2
  exact ⟨rfl, hbel⟩
theorem cThroughN (a : Option Addr) (n c : Nat) (l : List (Int × Int)) (w : World) (h : RdS w a n c l) (hn : n ≤ 40) (ho : ¬ okk l n) :
    Calls Try.prog 16 #[.slice a n c] w fun e w' => e = .returned (.tuple #[.slice none 0 0, .int .i64 5]) ∧ Below w.heap.size w w' := by
  have HO : Hid (¬ okk l n) := ho
  clear ho
  go_enter Try.func16, Try.ntmps16
  go_wp2_with fail
  refine (cPlaced _ _ _ _ _ h (by omega)).mono ?_
  rintro e w1 ⟨r, rfl, hr, hb⟩
  obtain rfl : r = false := by cases r with | false => rfl | true => exact absurd (hr.1 rfl) HO.out
  clear hr
  go_wp2
  go_ret2
  exact ⟨rfl, hb⟩

/-- A row that a list's text lays. -/
theorem Blk.lit1 (w : World) (x : Int) : Blk (w.alloc (.cells #[.int .u64 x] 23)) w.heap.size [x] := heap_alloc_new w _
theorem Blk.lit2 (w : World) (x y : Int) : Blk (w.alloc (.cells #[.int .u64 x, .int .u64 y] 23)) w.heap.size [x, y] := heap_alloc_new w _

theorem cThroughOK (a : Option Addr) (n c : Nat) (l : List (Int × Int)) (w : World) (h : RdS w a n c l) (hn : n ≤ 40) (ho : okk l n) :
    Calls Try.prog 16 #[.slice a n c] w fun e w' => ∃ S g, e = .returned (.tuple #[.slice (some ⟨g, 0, none⟩) (tl S n) n, .int .i64 0]) ∧ S.length = n ∧ (∀ x ∈ S, 0 ≤ x ∧ x ≤ 2147483646) ∧
      (∀ j, j < n → nm (ev S (l.getD j (0, 0)).1) = nm (l.getD j (0, 0)).2) ∧ Rd w' (some ⟨g, 0, none⟩) (tl S n) n (trm S) ∧ Below w.heap.size w w' := by
  obtain ⟨i0, hi, hz0, hz1, hz2⟩ := info_parts info23
  have HO : Hid (okk l n) := ho
  clear ho
  have hlen := h.len
  go_enter Try.func16, Try.ntmps16
  go_wp2_with fail
  refine (cPlaced _ _ _ _ _ h (by omega)).mono ?_
  rintro e w1 ⟨r, rfl, hr, hb1⟩
  obtain rfl : r = true := hr.2 HO.out
  clear hr
  have hs1 := hb1.size
  go_wp2_with (at_make; refine wpList_make_full _ rfl _ _ 22 rfl w1.heap.size 23 i0 (.int .u64 0) 1 Try.underlying22 hi hz0 hz1 .i64 .i64 _ _ n rfl rfl (by omega) (by omega) (by rw [hz2]; omega) (by unfold maxLen; omega) (Nat.le_refl _) ?_; intro w2 hown hgrow)
  have hB2 : Blk w2 w1.heap.size (List.replicate n 0) := Blk.made hown
  have hb2 : Below w1.heap.size w1 w2 := (Below.refl _ _).grown hgrow (Nat.le_refl _) (by simp)
  have hb12 : Below w.heap.size w w2 := hb1.trans (hb2.mono hs1)
  clear hown hgrow
  obtain ⟨g1, hg1⟩ : ∃ g1, g1 = w1.heap.size := ⟨_, rfl⟩
  rw [← hg1] at hB2 hs1 ⊢
  clear hg1 hb2 hb1
  have hgl := hB2.lt
  go_loopw [5, 24] (fun z i wr => ∃ (k : Nat) (S Z : List Int) (gz : Nat), k ≤ n ∧ i = .int .i64 k ∧ z = .slice (some ⟨gz, 0, none⟩) (k + 1) (k + 1) ∧ Hid (NwI l n k S Z) ∧ Blk wr g1 S ∧ Blk wr gz Z ∧ gz ≠ g1 ∧ Below w.heap.size w wr) (fun _ i _ => n - (intOf i).toNat)
  case atStart => exact ⟨0, _, _, _, Nat.zero_le _, rfl, rfl, nw_start l n, hB2.below ((Below.refl _ _).alloc (Nat.le_refl _) _) hgl, Blk.lit1 _ _, by omega, hb12.alloc (hb12.size) _⟩
  case round =>
    obtain ⟨k, S, Z, gz, hk, rfl, rfl, HI, hbs, hbz, hne, hbel⟩ := hrel
    have hls := HI.out.ls
    have hlz := HI.out.lz
    have HBS : Hid (∀ x ∈ S, 0 ≤ x ∧ x ≤ 2147483646) := HI.out.bs
    have HBZ : Hid (∀ x ∈ Z, 0 ≤ x ∧ x ≤ 2147483646) := HI.out.bz
    by_cases hlt : k < n
    · obtain ⟨b, o, x, y, rfl, hbb, HX, HY, hx0, hx1, hy0, hy1, hcx, hcy⟩ := (h.below hbel).one hlt
      have hxo := (HO.out k hlt).1
      rw [HX.out] at hxo
      have hxo1 := hxo.1
      have hxo2 := hxo.2
      have HE : Hid (nm (nm (ev Z x)) ≠ 0) := by rw [nm_nm, ← HX.out]; exact HI.out.z1 k (Nat.le_refl _) hlt
      have hnS := nm_bd (ev S x)
      have hnZ := nm_bd (ev Z x)
      have hnL := nm_bd (y - nm (ev S x))
      have hiv := iv_bd (nm (ev Z x))
      have hnX := nm_bd (-x)
      have hbA : Below wr.heap.size wr (wr.alloc (.cells #[.int .i64 x, .int .u64 y] 38)) := (Below.refl _ _).alloc (Nat.le_refl _) _
      have hcA0 := cell_alloc0 wr (.int .i64 x) (.int .u64 y) 38
      have hcA1 := cell_alloc1 wr (.int .i64 x) (.int .u64 y) 38
      go_wp2
      generalize hW : wr.alloc (.cells #[.int .i64 x, .int .u64 y] 38) = W at *
      clear hW
      have hbelW : Below w.heap.size w W := hbel.trans (hbA.mono hbel.size)
      have hbsW := hbs.below hbA hbs.lt
      have hbzW := hbz.below hbA hbz.lt
      have rS : Rd W (some ⟨g1, 0, none⟩) n n S := hbsW.whole n hls.symm (by unfold maxLen; omega) (bd_u64 HBS.out)
      have rZ : Rd W (some ⟨gz, 0, none⟩) (k + 1) (k + 1) Z := hbzW.whole (k + 1) hlz.symm (by unfold maxLen; omega) (bd_u64 HBZ.out)
      clear hbA hbs hbz hbel hcx hcy
      go_quiet ((first | (go_at_call 39; exact Calls.quiet_of (cValueQ _ _ _ _ _ _ (rS.drewN _) (by omega) (by omega))) | (go_at_call 12; exact Calls.quiet_of_same (fSub _ _ _ (by omega) (by omega) (by omega) (by omega)))))
      go_wp2_with fail
      refine (cValueQ _ _ _ _ _ _ (rZ.drewN _) (by omega) (by omega)).mono ?_
      rintro e w3 ⟨rfl, q3, rfl⟩
      go_wp2_with fail
      refine (fInv1 _ _ (by omega) (by omega) HE.out).mono ?_
      rintro e w3 ⟨rfl, rfl⟩
      obtain ⟨t, HT⟩ : ∃ t, Hid (t = nm (nm (y - nm (ev S x)) * iv (nm (ev Z x)))) := ⟨_, rfl⟩
      have hnt : 0 ≤ t ∧ t ≤ 2147483646 := by rw [HT.out]; exact nm_bd _
      have HI2 : Hid (NwI l n (k + 1) (addAt S 0 Z t (k + 1)) (cvl Z [nm (-x), 1])) := nw_step HI.out hlt HO.out HX.out HY.out HT.out
      go_wp2_with (go_at_call 15; refine (fMul _ _ _ (by omega) (by omega) (by omega) (by omega)).mono ?_; rintro e w3 ⟨he, rfl⟩; rw [← HT.out] at he; subst he)
      refine (cAddTimes _ _ _ _ _ _ _ _ _ _ _ (by exact hbsW) (bd_u64 HBS.out) (rZ.drewN _) (fun x hx => by obtain rfl := Option.some.inj hx; exact hne) (by omega) (by omega) (by omega) (by omega) (by omega)).mono ?_
      rintro e w4 ⟨rfl, hb4, hg4⟩
      have hz4 : Blk w4 gz Z := Blk.grown (by exact hbzW) hg4 (by simpa using hne)
      have hbel4 : Below w.heap.size w w4 := below_grown (drewN_below hbelW _) hg4 hs1
      have hbB : Below w4.heap.size w4 (w4.alloc (.cells #[.int .u64 (nm (-x)), .int .u64 1] 23)) := (Below.refl _ _).alloc (Nat.le_refl _) _
      have hp4 := Blk.lit2 w4 (nm (-x)) 1
      clear hbelW hbsW hbzW rS rZ hg4 hcA0 hcA1
      go_wp2_with (go_at_call 12; refine (fSub _ _ _ (by omega) (by omega) (by omega) (by omega)).mono ?_; rintro e w3 ⟨rfl, hw⟩; have hw := hw.symm; subst hw)
      generalize hW5 : w4.alloc (.cells #[.int .u64 (nm (-x)), .int .u64 1] 23) = W5 at *
      have hs5 : w4.heap.size < W5.heap.size := hp4.lt
      clear hW5
      have hbel5 : Below w.heap.size w W5 := hbel4.trans (hbB.mono hbel4.size)
      have hz5 := hz4.below hbB hz4.lt
      have hb5 := hb4.below hbB hb4.lt
      have hl5 := hb5.lt
      have rZ5 : Rd W5 (some ⟨gz, 0, none⟩) (k + 1) (k + 1) Z := hz5.whole (k + 1) hlz.symm (by unfold maxLen; omega) (bd_u64 HBZ.out)
      have rP5 : Rd W5 (some ⟨w4.heap.size, 0, none⟩) 2 2 [nm (-x), 1] := hp4.whole 2 rfl (by unfold maxLen; omega) (by
        intro u hu
        simp only [List.mem_cons, List.not_mem_nil, or_false] at hu
        rcases hu with rfl | rfl <;> omega)
      refine (cProduct _ _ _ _ _ _ _ _ _ rZ5 rP5 (by omega) (by omega) (by omega) (by omega)).mono ?_
      rintro e w6 ⟨rfl, hb6, hbel6⟩
      have hs6 := hb5.below hbel6 hb5.lt
      have hbel7 := hbel5.trans (hbel6.mono hbel5.size)
      clear hbel6 hbel5 hz5 hb5 rZ5 rP5 hp4 hz4 hb4 hbB hbel4
      go_wp2
      go_roundw
      case rel => exact ⟨k + 1, _, _, _, by omega, by go_num, rfl, HI2, hs6, hb6, by omega, hbel7⟩
      case measure => simp [intOf]; omega
    · have hkn : k = n := by omega
      subst hkn
      have rS : Rd wr (some ⟨g1, 0, none⟩) k k S := hbs.whole k hls.symm (by unfold maxLen; omega) (bd_u64 HBS.out)
      go_wp2_with (go_at_call 44; refine (cTrim _ _ _ _ _ rS).mono ?_; rintro e w' ⟨rfl, hw⟩; have hw := hw.symm; subst hw)
      go_ret2
      refine ⟨S, g1, rfl, hls, HBS.out, HI.out.s, ?_, hbel⟩
      have ht := tl_le S k
      have := hbs.rd 0 (tl S k) k ht (by unfold maxLen; omega) (by omega) (bd_u64 HBS.out)
      rw [List.drop_zero] at this
      have e : trm S = S.take (tl S k) := by unfold trm; rw [hls]
      rw [e]
      exact this
/-- The shares of the first k places. -/
def shk (X : List Int) (ts : List Int) (k : Nat) : List (Int × Int) := (ts.take k).map fun t => (t, nm (ev X (u64of t)))
theorem shk_len (X ts : List Int) (k : Nat) (h : k ≤ ts.length) : (shk X ts k).length = k := by simp [shk]; omega
theorem shk_step (X ts : List Int) {k : Nat} (h : k < ts.length) {x : Int} (hx : ts.getD k 0 = x) : shk X ts k ++ [(x, nm (ev X (u64of x)))] = shk X ts (k + 1) := by
  unfold shk
  rw [List.take_succ_eq_append_getElem h, List.map_append]
  have e : ts[k] = x := by rw [← hx, List.getD_eq_getElem?_getD, List.getElem?_eq_getElem h]; rfl
  rw [e]
  rfl
theorem shk_getD (X ts : List Int) {k i : Nat} (h : k ≤ ts.length) (hi : i < k) : (shk X ts k).getD i (0, 0) = (ts.getD i 0, nm (ev X (u64of (ts.getD i 0)))) := by
  unfold shk
  simp [hi, List.getElem?_eq_getElem (show i < ts.length by omega)]

/-- The shares {1, 5}, {2, 7}, as the text lays them. -/
theorem rdS_known (w : World) (E : TypeId) : RdS (w.alloc (.cells #[.int .i64 1, .int .u64 5, .int .i64 2, .int .u64 7] E)) (some ⟨w.heap.size, 0, none⟩) 2 2 [(1, 5), (2, 7)] := by
  refine ⟨rfl, Nat.le_refl _, by unfold maxLen; omega, fun i hi => ?_, by simp, fun x hx i hi => ?_⟩
  · match i, hi with
    | 0, _ => decide
    | 1, _ => decide
  · obtain rfl := Option.some.inj hx
    rw [Addr.add_lit, Addr.add_lit, cell_of_row _ _ _ _ E (0, 0) (heap_alloc_new w _), cell_of_row _ _ _ _ E (0, 0) (heap_alloc_new w _)]
    match i, hi with
    | 0, _ => exact ⟨rfl, rfl⟩
    | 1, _ => exact ⟨rfl, rfl⟩
theorem okk_known : okk [(1, 5), (2, 7)] 2 := by
  intro i hi
  match i, hi with
  | 0, _ => exact ⟨by decide, fun j hj => by omega⟩
  | 1, _ => exact ⟨by decide, fun j hj => by
      match j, hj with
      | 0, _ => decide⟩
theorem through_known {S : List Int} (hl : S.length = 2) (hb : ∀ x ∈ S, 0 ≤ x ∧ x ≤ 2147483646) (hv : ∀ j, j < 2 → nm (ev S (([(1, 5), (2, 7)] : List (Int × Int)).getD j (0, 0)).1) = nm (([(1, 5), (2, 7)] : List (Int × Int)).getD j (0, 0)).2) : trm S = [3, 2] := by
  have h1 := one_through (l := [(1, 5), (2, 7)]) (n := 2) (p := S) (q := [3, 2]) rfl okk_known (by omega) (by decide) hv (fun j hj => by
    match j, hj with
    | 0, _ => decide
    | 1, _ => decide)
  have h2 : nrm S = trm S := by unfold nrm; rw [nz_id hb]
  rw [← h2, h1]
  decide

theorem polyPointsW (a0 : Option Addr) (len0 cap0 : Nat) (X0 : List Int) (a1 : Option Addr) (len1 cap1 : Nat) (T0 : List Int) (w : World) (h0 : Rd w a0 len0 cap0 X0) (g0 : RdI w a1 len1 cap1 T0) :
    Calls Try.prog 4 #[.slice a0 len0 cap0, .slice a1 len1 cap1] w fun e w' => e = .returned (.bool true) ∧ Below w.heap.size w w' := by
  have hc0 := h0.cap
  have hc1 := g0.cap
  have hm0 : cap0 ≤ 9223372036854775807 := by have := h0.max; unfold maxLen at this; omega
  have hm1 : cap1 ≤ 9223372036854775807 := by have := g0.max; unfold maxLen at this; omega
  have g := g0.take (k := min 12 len1) (by omega)
  obtain ⟨m, hm⟩ : ∃ m, m = min 12 len1 := ⟨_, rfl⟩
  rw [← hm] at g
  have hA := h0.take (k := min m len0) (by omega)
  obtain ⟨n, hn⟩ : ∃ n, n = min m len0 := ⟨_, rfl⟩
  rw [← hn] at hA
  have Hn : Hid (min m len0 = n) := hn.symm
  have hm12 : m ≤ 12 := by omega
  have hnm : n ≤ m := by omega
  have hml : m ≤ len1 := by omega
  generalize X0.take n = X at hA
  generalize T0.take m = T at g
  have hlT := g.len
  have hlX := hA.len
  go_enter Try.func4, Try.ntmps4
  go_wp2_with fail
  have hb1 := below_one w (.cells #[.int .i64 1, .int .u64 5, .int .i64 2, .int .u64 7] 38)
  have r1 := rdS_known w 38
  generalize w.alloc (.cells #[.int .i64 1, .int .u64 5, .int .i64 2, .int .u64 7] 38) = v1 at *
  refine (cThroughOK _ _ _ _ _ r1 (by omega) okk_known).mono ?_
  rintro e v2 ⟨S, g2, rfl, hls, hbs, hvs, hr2, hb2⟩
  rw [through_known hls hbs hvs] at hr2
  have hw2 := hb1.trans (hb2.mono hb1.size)
  obtain ⟨tS, htS⟩ : ∃ tS, tS = tl S 2 := ⟨_, rfl⟩
  rw [← htS] at hr2 ⊢
  clear htS hls hbs hvs hb1 hb2 r1
  have hb3 := below_one v2 (.cells #[.int .u64 3, .int .u64 2] 23)
  have r3 := rd_of2 v2 (x := 3) (y := 2) (by omega) (by omega)
  go_wp2_with fail
  generalize v2.alloc (.cells #[.int .u64 3, .int .u64 2] 23) = v3 at *
  have hw3 := hw2.trans (hb3.mono hw2.size)
  refine (cSame _ _ _ _ _ _ _ _ (hr2.below hb3) r3).mono ?_
  rintro e v4 ⟨rfl, hb4⟩
  have hw4 := hw3.trans (hb4.mono hw3.size)
  clear hb4 hw3 hb3 r3 hr2 hw2
  go_wp2_with fail
  case inl =>
    have e : len1 = m := by omega
    rw [e]
    clear e hml hm hn
    refine (kShort _ _ _ m _ (by omega) (by omega)).mono ?_
    rintro e v5 ⟨rfl, hw⟩
    have hw := hw.symm
    subst hw
    rw [Hn.out]
    go_wp2
    go_loopw [7, 42] (fun v i wr => ∃ k : Nat, k ≤ m ∧ i = .int .i64 k ∧ wr.ownsRow w.heap.size 38 2 v k (shc (shk X T k)) ∧ Below w.heap.size w wr) (fun _ i _ => m - (intOf i).toNat)
    case atStart => exact ⟨0, Nat.zero_le _, rfl, World.ownsRow_nil _ _ _ _, hw4⟩
    case round =>
      obtain ⟨k, hk, rfl, hown, hbel⟩ := hrel
      by_cases hlt : k < m
      · obtain ⟨b, o, x, rfl, hbb, HX, hx0, hx1, hcx⟩ := (g.below hbel).one hlt
        have hub := u64of_bd x
        have HU : Hid (IntKind.u64.wrap x = u64of x) := rfl
        have hyb := nm_bd (ev X (u64of x))
        have HS : Hid (shk X T k ++ [(x, nm (ev X (u64of x)))] = shk X T (k + 1)) := shk_step X T (by omega) HX.out
        go_wp2_with fail
        rw [HU.out]
        refine (cEvalOK _ _ _ _ _ _ (hA.below hbel) (by omega) hub.1 hub.2).mono ?_
        rintro e v6 ⟨rfl, hb6⟩
        have hown6 := own_below2 hown hb6
        have hbel6 := hbel.trans (hb6.mono hbel.size)
        have hs6 := hbel6.size
        clear hown hbel hb6 hcx
        go_wp2_with (at_builtin; refine wpList_appS Try.underlying39 infoSh _ rfl _ _ rfl w.heap.size _ _ _ rfl hown6 _ _ rfl (by omega) (by omega) ?_; intro v' w7 hown7 hbel7; rw [HS.out] at hown7; have hbel8 := hbel6.trans hbel7; clear hown6 hbel6 hbel7)
        go_roundw
        case rel => exact ⟨k + 1, by omega, by go_num, hown7, hbel8⟩
        case measure => simp [intOf]; omega
      · have hkm : k = m := by omega
        subst hkm
        have hlk := shk_len X T k (by omega)
        have hbd : ∀ i, i < k → (-9223372036854775808 ≤ ((shk X T k).getD i (0, 0)).1 ∧ ((shk X T k).getD i (0, 0)).1 ≤ 9223372036854775807) ∧ 0 ≤ ((shk X T k).getD i (0, 0)).2 ∧ ((shk X T k).getD i (0, 0)).2 ≤ 18446744073709551615 := fun i hi => by
          rw [shk_getD X T (by omega) hi]
          have h1 := g.bd (T.getD i 0) (getD_mem (by omega))
          have h2 := nm_bd (ev X (u64of (T.getD i 0)))
          exact ⟨h1, h2.1, by simp only; omega⟩
        obtain ⟨al, cl, rfl, hl⟩ := RdS.own hown hlk hbd
        by_cases ho : okk (shk X T k) k
        · have HO : Hid (okk (shk X T k) k) := ho
          clear ho hbd hown
          go_wp2_with fail
          refine (cThroughOK _ _ _ _ _ hl (by omega) HO.out).mono ?_
          rintro e v7 ⟨S, g7, rfl, hls, hbs, hvs, hr7, hb7⟩
          have HE : Hid (trm S = nrm X) := by
            have h1 := one_through hlk HO.out (p := S) (q := X) (by omega) (by omega) hvs (fun j hj => by
              have h2 := (HO.out j hj).1
              rw [shk_getD X T (by omega) hj] at h2 ⊢
              rw [nm_nm, u64of_id (by simp only at h2; omega) (by simp only at h2; omega)])
            unfold Hid
            rw [← h1]
            unfold nrm
            rw [nz_id hbs]
          rw [HE.out] at hr7
          have hw7 := hbel.trans (hb7.mono hbel.size)
          obtain ⟨tS, htS⟩ : ∃ tS, tS = tl S k := ⟨_, rfl⟩
          rw [← htS] at hr7 ⊢
          clear htS hls hbs hvs hb7 hl hbel
          go_wp2_with fail
          refine (cNormOK _ _ _ _ _ (hA.below hw7) (by omega)).mono ?_
          rintro e v8 ⟨rfl, hr8, hb8⟩
          have hw8 := hw7.trans (hb8.mono hw7.size)
          have hr7' := hr7.below hb8
          clear hr7 hb8 hw7
          go_wp2_with fail
          refine (cSame _ _ _ _ _ _ _ _ hr7' hr8).mono ?_
          rintro e v9 ⟨rfl, hb9⟩
          have hw9 := hw8.trans (hb9.mono hw8.size)
          clear hr7' hr8 hb9 hw8
          go_wp2
          go_ret
          exact ⟨rfl, hw9⟩
        · have HO : Hid (¬ okk (shk X T k) k) := ho
          clear ho hbd hown
          go_wp2_with fail
          refine (cThroughN _ _ _ _ _ hl (by omega) HO.out).mono ?_
          rintro e v7 ⟨rfl, hb7⟩
          have hw7 := hbel.trans (hb7.mono hbel.size)
          have hl7 := hl.below hb7
          clear hl hb7 hbel
          go_wp2_with fail
          refine (rAts _ _ _ _ _ hl7 (by omega)).mono ?_
          rintro e v8 ⟨r, rfl, hr, hb8⟩
          obtain rfl : r = false := by cases r with | false => rfl | true => exact absurd (hr.1 rfl) HO.out
          clear hr
          have hw8 := hw7.trans (hb8.mono hw7.size)
          go_wp2
          go_ret
          exact ⟨rfl, hw8⟩
  case inr =>
    have e : m = 12 := by omega
    rw [show (max 12 0 : Int) = (m : Int) from by rw [e]; rfl, show Value.slice a1 12 cap1 = Value.slice a1 m cap1 from by rw [e]]
    clear e hml hm hn
    refine (kShort _ _ _ m _ (by omega) (by omega)).mono ?_
    rintro e v5 ⟨rfl, hw⟩
    have hw := hw.symm
    subst hw
    rw [Hn.out]
    go_wp2
    go_loopw [7, 42] (fun v i wr => ∃ k : Nat, k ≤ m ∧ i = .int .i64 k ∧ wr.ownsRow w.heap.size 38 2 v k (shc (shk X T k)) ∧ Below w.heap.size w wr) (fun _ i _ => m - (intOf i).toNat)
    case atStart => exact ⟨0, Nat.zero_le _, rfl, World.ownsRow_nil _ _ _ _, hw4⟩
    case round =>
      obtain ⟨k, hk, rfl, hown, hbel⟩ := hrel
      by_cases hlt : k < m
      · obtain ⟨b, o, x, rfl, hbb, HX, hx0, hx1, hcx⟩ := (g.below hbel).one hlt
        have hub := u64of_bd x
        have HU : Hid (IntKind.u64.wrap x = u64of x) := rfl
        have hyb := nm_bd (ev X (u64of x))
        have HS : Hid (shk X T k ++ [(x, nm (ev X (u64of x)))] = shk X T (k + 1)) := shk_step X T (by omega) HX.out
        go_wp2_with fail
        rw [HU.out]
        refine (cEvalOK _ _ _ _ _ _ (hA.below hbel) (by omega) hub.1 hub.2).mono ?_
        rintro e v6 ⟨rfl, hb6⟩
        have hown6 := own_below2 hown hb6
        have hbel6 := hbel.trans (hb6.mono hbel.size)
        have hs6 := hbel6.size
        clear hown hbel hb6 hcx
        go_wp2_with (at_builtin; refine wpList_appS Try.underlying39 infoSh _ rfl _ _ rfl w.heap.size _ _ _ rfl hown6 _ _ rfl (by omega) (by omega) ?_; intro v' w7 hown7 hbel7; rw [HS.out] at hown7; have hbel8 := hbel6.trans hbel7; clear hown6 hbel6 hbel7)
        go_roundw
        case rel => exact ⟨k + 1, by omega, by go_num, hown7, hbel8⟩
        case measure => simp [intOf]; omega
      · have hkm : k = m := by omega
        subst hkm
        have hlk := shk_len X T k (by omega)
        have hbd : ∀ i, i < k → (-9223372036854775808 ≤ ((shk X T k).getD i (0, 0)).1 ∧ ((shk X T k).getD i (0, 0)).1 ≤ 9223372036854775807) ∧ 0 ≤ ((shk X T k).getD i (0, 0)).2 ∧ ((shk X T k).getD i (0, 0)).2 ≤ 18446744073709551615 := fun i hi => by
          rw [shk_getD X T (by omega) hi]
          have h1 := g.bd (T.getD i 0) (getD_mem (by omega))
          have h2 := nm_bd (ev X (u64of (T.getD i 0)))
          exact ⟨h1, h2.1, by simp only; omega⟩
        obtain ⟨al, cl, rfl, hl⟩ := RdS.own hown hlk hbd
        by_cases ho : okk (shk X T k) k
        · have HO : Hid (okk (shk X T k) k) := ho
          clear ho hbd hown
          go_wp2_with fail
          refine (cThroughOK _ _ _ _ _ hl (by omega) HO.out).mono ?_
          rintro e v7 ⟨S, g7, rfl, hls, hbs, hvs, hr7, hb7⟩
          have HE : Hid (trm S = nrm X) := by
            have h1 := one_through hlk HO.out (p := S) (q := X) (by omega) (by omega) hvs (fun j hj => by
              have h2 := (HO.out j hj).1
              rw [shk_getD X T (by omega) hj] at h2 ⊢
              rw [nm_nm, u64of_id (by simp only at h2; omega) (by simp only at h2; omega)])
            unfold Hid
            rw [← h1]
            unfold nrm
            rw [nz_id hbs]
          rw [HE.out] at hr7
          have hw7 := hbel.trans (hb7.mono hbel.size)
          obtain ⟨tS, htS⟩ : ∃ tS, tS = tl S k := ⟨_, rfl⟩
          rw [← htS] at hr7 ⊢
          clear htS hls hbs hvs hb7 hl hbel
          go_wp2_with fail
          refine (cNormOK _ _ _ _ _ (hA.below hw7) (by omega)).mono ?_
          rintro e v8 ⟨rfl, hr8, hb8⟩
          have hw8 := hw7.trans (hb8.mono hw7.size)
          have hr7' := hr7.below hb8
          clear hr7 hb8 hw7
          go_wp2_with fail
          refine (cSame _ _ _ _ _ _ _ _ hr7' hr8).mono ?_
          rintro e v9 ⟨rfl, hb9⟩
          have hw9 := hw8.trans (hb9.mono hw8.size)
          clear hr7' hr8 hb9 hw8
          go_wp2
          go_ret
          exact ⟨rfl, hw9⟩
        · have HO : Hid (¬ okk (shk X T k) k) := ho
          clear ho hbd hown
          go_wp2_with fail
          refine (cThroughN _ _ _ _ _ hl (by omega) HO.out).mono ?_
          rintro e v7 ⟨rfl, hb7⟩
          have hw7 := hbel.trans (hb7.mono hbel.size)
          have hl7 := hl.below hb7
          clear hl hb7 hbel
          go_wp2_with fail
          refine (rAts _ _ _ _ _ hl7 (by omega)).mono ?_
          rintro e v8 ⟨r, rfl, hr, hb8⟩
          obtain rfl : r = false := by cases r with | false => rfl | true => exact absurd (hr.1 rfl) HO.out
          clear hr
          have hw8 := hw7.trans (hb8.mono hw7.size)
          go_wp2
          go_ret
          exact ⟨rfl, hw8⟩
end
end Go.Proofs.Ytljlioglpaogdad
