/- What each call of package field answers: the rest of the sum, the difference, the product, the power, the inverse; no world is changed. · poly.addTimes. · poly.trim, poly.normal. -/
import Derived.Test.YtgmelcdgnjcojafProg
import Derived.Test.YtgmelcdgnjcojafToPolyM2
import Derived.WalkKit
import Derived.WalkSpells
import Derived.WalkLawsBesides
import Derived.Test.YtgmelcdgnjcojafToPolyM3
import Derived.Deep.RegionWith
namespace Go.Proofs.Ytgmelcdgnjcojaf
open Go.RowKit Crm

set_option maxRecDepth 100000 in
theorem fNorm (a : Int) (w : World) (h0 : 0 ≤ a) (h1 : a ≤ 18446744073709551615) :
    Calls Try.prog 25 #[.int .u64 a] w fun e w' => e = .returned (.int .u64 (nm a)) ∧ w' = w := by
  go_enter Try.func25, Try.ntmps25
  go_wp2
  go_ret
  exact ⟨rfl, rfl⟩

set_option maxRecDepth 100000 in
theorem fAdd (a b : Int) (w : World) (h0 : 0 ≤ a) (h1 : a ≤ 18446744073709551615) (g0 : 0 ≤ b) (g1 : b ≤ 18446744073709551615) :
    Calls Try.prog 13 #[.int .u64 a, .int .u64 b] w fun e w' => e = .returned (.int .u64 (nm (a + b))) ∧ w' = w := by
  have ha := nm_bd a
  have hb := nm_bd b
  have HN : Hid (nm (a + b) = nm (nm a + nm b)) := by rw [nm_addl, nm_addr]; exact rfl
  go_enter Try.func13, Try.ntmps13
  go_wp2_with (go_at_call 25; refine (fNorm _ _ (by omega) (by omega)).mono ?_; rintro e w' ⟨rfl, rfl⟩)
  go_ret
  rw [HN.out]
  exact ⟨rfl, rfl⟩

set_option maxRecDepth 100000 in
theorem fSub (a b : Int) (w : World) (h0 : 0 ≤ a) (h1 : a ≤ 18446744073709551615) (g0 : 0 ≤ b) (g1 : b ≤ 18446744073709551615) :
    Calls Try.prog 36 #[.int .u64 a, .int .u64 b] w fun e w' => e = .returned (.int .u64 (nm (a - b))) ∧ w' = w := by
  have ha := nm_bd a
  have hb := nm_bd b
  have HN : Hid (nm (a - b) = nm (nm a + 2147483647 - nm b)) := by unfold nm Hid; omega
  go_enter Try.func36, Try.ntmps36
  go_wp2_with (go_at_call 25; refine (fNorm _ _ (by omega) (by omega)).mono ?_; rintro e w' ⟨rfl, rfl⟩)
  go_ret
  rw [HN.out]
  exact ⟨rfl, rfl⟩

theorem mul_bd {x y : Int} (hx : 0 ≤ x ∧ x ≤ 2147483646) (hy : 0 ≤ y ∧ y ≤ 2147483646) : 0 ≤ x * y ∧ x * y ≤ 4611686009837453316 :=
  ⟨Int.mul_nonneg hx.1 hy.1, by have := Int.mul_le_mul hx.2 hy.2 hy.1 (by omega : (0 : Int) ≤ 2147483646); omega⟩

set_option maxRecDepth 100000 in
theorem fMul (a b : Int) (w : World) (h0 : 0 ≤ a) (h1 : a ≤ 18446744073709551615) (g0 : 0 ≤ b) (g1 : b ≤ 18446744073709551615) :
    Calls Try.prog 14 #[.int .u64 a, .int .u64 b] w fun e w' => e = .returned (.int .u64 (nm (a * b))) ∧ w' = w := by
  have ha := nm_bd a
  have hb := nm_bd b
  have hm := mul_bd ha hb
  have HN : Hid (nm (a * b) = nm (nm a * nm b)) := by rw [nm_mull, nm_mulr]; exact rfl
  go_enter Try.func14, Try.ntmps14
  go_wp2_with (go_at_call 25; refine (fNorm _ _ (by omega) (by omega)).mono ?_; rintro e w' ⟨rfl, rfl⟩)
  go_ret
  rw [HN.out]
  exact ⟨rfl, rfl⟩

set_option maxRecDepth 100000 in
theorem fPow (a n : Int) (w : World) (h0 : 0 ≤ a) (h1 : a ≤ 18446744073709551615) (g0 : 0 ≤ n) (g1 : n ≤ 18446744073709551615) :
    Calls Try.prog 44 #[.int .u64 a, .int .u64 n] w fun e w' => e = .returned (.int .u64 (pw a n.toNat)) ∧ w' = w := by
  have ha := nm_bd a
  go_enter Try.func44, Try.ntmps44
  go_wp2_with (go_at_call 25; refine (fNorm _ _ (by omega) (by omega)).mono ?_; rintro e w' ⟨rfl, rfl⟩)
  go_loop [1, 5, 6] (fun vn vp vs => ∃ (m : Nat) (p s : Int), vn = .int .u64 m ∧ vp = .int .u64 p ∧ vs = .int .u64 s ∧ (m : Int) ≤ 18446744073709551615 ∧ (0 ≤ p ∧ p ≤ 2147483646) ∧ (0 ≤ s ∧ s ≤ 2147483646) ∧ nm (p * pw s m) = pw a n.toNat) (fun vn _ _ => (intOf vn).toNat)
  case atStart =>
    obtain ⟨k, rfl⟩ := Int.eq_ofNat_of_zero_le g0
    exact ⟨k, 1, nm a, rfl, rfl, rfl, g1, by omega, ha, by rw [Int.one_mul, pw_nm, Int.toNat_natCast]; exact nm_nm _⟩
  case round =>
    obtain ⟨m, p, s, rfl, rfl, rfl, hm, hp, hs, hr⟩ := hrel
    have HR : Hid (nm (p * pw s m) = pw a n.toNat) := hr
    clear hr
    have hpp := mul_bd hp hs
    have hss := mul_bd hs hs
    have hnp := nm_bd (p * s)
    have hns := nm_bd (s * s)
    have hand := and_one_u64 m (by omega) hm
    by_cases hlt : 0 < m
    · by_cases hb : m % 2 = 1
      · have hand1 : (bits BinOp.and IntKind.u64 (m : Int) 1 == 1) = true := by rw [hand, beq_iff_eq]; omega
        clear hand
        have HB : Hid (m % 2 = 1) := hb
        clear hb
        go_wp2_with (go_at_call 14; refine (fMul _ _ _ (by omega) (by omega) (by omega) (by omega)).mono ?_; rintro e w' ⟨rfl, rfl⟩)
        go_round
        case rel => exact ⟨m / 2, _, _, rfl, rfl, rfl, by omega, hnp, hns, by rw [low1 p s m HB.out]; exact HR.out⟩
        case measure => simp [intOf]; omega
      · have hand1 : (bits BinOp.and IntKind.u64 (m : Int) 1 == 1) = false := by rw [hand, beq_eq_false_iff_ne]; omega
        clear hand
        have HB : Hid (m % 2 = 0) := by unfold Hid; omega
        clear hb
        go_wp2_with (go_at_call 14; refine (fMul _ _ _ (by omega) (by omega) (by omega) (by omega)).mono ?_; rintro e w' ⟨rfl, rfl⟩)
        go_round
        case rel => exact ⟨m / 2, _, _, rfl, rfl, rfl, by omega, hp, hns, by rw [low0 p s m HB.out]; exact HR.out⟩
        case measure => simp [intOf]; omega
    · have HM : Hid (m = 0) := by unfold Hid; omega
      clear hand
      go_wp2
      go_ret
      have h := HR.out
      rw [HM.out, pw_zero, Int.mul_one, nm_small hp.1 hp.2] at h
      rw [h]
      exact ⟨rfl, rfl⟩

set_option maxRecDepth 100000 in
theorem fInv0 (a : Int) (w : World) (h0 : 0 ≤ a) (h1 : a ≤ 18446744073709551615) (hz : nm a = 0) :
    Calls Try.prog 38 #[.int .u64 a] w fun e w' => e = .returned (.tuple #[.int .u64 0, .int .i64 1]) ∧ w' = w := by
  go_enter Try.func38, Try.ntmps38
  go_wp2_with (go_at_call 25; refine (fNorm _ _ (by omega) (by omega)).mono ?_; rintro e w' ⟨rfl, rfl⟩)
  go_ret2
  exact ⟨rfl, rfl⟩

set_option maxRecDepth 100000 in
theorem fInv1 (a : Int) (w : World) (h0 : 0 ≤ a) (h1 : a ≤ 18446744073709551615) (hz : nm a ≠ 0) :
    Calls Try.prog 38 #[.int .u64 a] w fun e w' => e = .returned (.tuple #[.int .u64 (iv a), .int .i64 0]) ∧ w' = w := by
  have hz' : (nm a == 0) = false := by rw [beq_eq_false_iff_ne]; exact hz
  go_enter Try.func38, Try.ntmps38
  go_wp2_with (first | (go_at_call 25; refine (fNorm _ _ (by omega) (by omega)).mono ?_; rintro e w' ⟨rfl, rfl⟩) | (go_at_call 44; refine (fPow _ _ _ (by omega) (by omega) (by omega) (by omega)).mono ?_; rintro e w' ⟨rfl, rfl⟩))
  go_ret2
  exact ⟨rfl, rfl⟩
end Go.Proofs.Ytgmelcdgnjcojaf

namespace Go.Proofs.Ytgmelcdgnjcojaf
open Go.RowKit Crm

set_option maxHeartbeats 400000 in
set_option maxRecDepth 100000 in
theorem cAddTimes (g o n c : Nat) (L : List Int) (ab : Option Addr) (lb cb : Nat) (B : List Int) (t : Int) (w : World)
    (hL : Blk w g L) (hLb : ∀ x ∈ L, 0 ≤ x ∧ x ≤ 18446744073709551615) (hB : Rd w ab lb cb B) (hne : ∀ x, ab = some x → x.block ≠ g) (hon : o + n ≤ L.length) (hlb : lb ≤ n) (hn : n ≤ 1000000) (ht0 : 0 ≤ t) (ht1 : t ≤ 18446744073709551615) :
    Calls Try.prog 39 #[.slice (some ⟨g, o, none⟩) n c, .slice ab lb cb, .int .u64 t] w fun e w' => e = .returned (.tuple #[]) ∧ Blk w' g (addAt L o B t lb) ∧ w.grownBy w' (some g) := by
  have hlen := hB.len
  go_enter Try.func39, Try.ntmps39
  go_wp2
  go_loopw [10] (fun i wr => ∃ k : Nat, k ≤ lb ∧ i = .int .i64 k ∧ Blk wr g (addAt L o B t k) ∧ w.grownBy wr (some g)) (fun i _ => lb - (intOf i).toNat)
  case atStart => exact ⟨0, Nat.zero_le _, rfl, hL, World.grownBy.refl _ _⟩
  case round =>
    obtain ⟨k, hk, rfl, hblk, hgr⟩ := hrel
    by_cases hlt : k < lb
    · have hBr : Rd wr ab lb cb B := hB.grown hgr (fun x hx => by simpa using hne x hx)
      obtain ⟨b, ob, x, rfl, hb, HX, hx0, hx1, hc⟩ := hBr.one hlt
      have hbg : b ≠ g := hne _ rfl
      have hcell := hblk.cell (i := o + k) (by rw [addAt_len]; omega)
      have hfz := hblk.frozen (o + k)
      obtain ⟨y, hy⟩ : ∃ y, y = (addAt L o B t k).getD (o + k) 0 := ⟨_, rfl⟩
      have HY : Hid (y = L.getD (o + k) 0) := by rw [hy, addAt_getD, if_neg (by omega)]; exact rfl
      have hyb : 0 ≤ y ∧ y ≤ 18446744073709551615 := by rw [hy]; exact getD_bd (addAt_bd hLb o B t k) _
      rw [← hy] at hcell
      clear hy
      have hm := nm_bd (t * x)
      have hk0 : (0 : Int) ≤ (k : Int) := by omega
      have hkn : (k : Int) < (n : Int) := by omega
      have Hblk' : Hid (Blk (wr.setCell ⟨g, o + k, none⟩ (.int .u64 (nm (y + nm (t * x))))) g (addAt L o B t (k + 1))) := by
        have e : nm (y + nm (t * x)) = nm (L.getD (o + k) 0 + t * B.getD k 0) := by rw [nm_addr, HY.out, HX.out]
        rw [e]
        exact hblk.set (o + k) _
      have Hgr' : Hid (w.grownBy (wr.setCell ⟨g, o + k, none⟩ (.int .u64 (nm (y + nm (t * x))))) (some g)) := grown_trans hgr (grown_set _ _ _ _)
      clear hblk hgr hBr hB hL
      go_wp2
      go_region_with (first | (go_at_call 14; refine (fMul _ _ _ (by omega) (by omega) (by omega) (by omega)).mono ?_; rintro e w' ⟨rfl, rfl⟩) | (go_at_call 13; refine (fAdd _ _ _ (by omega) (by omega) (by omega) (by omega)).mono ?_; rintro e w' ⟨rfl, rfl⟩))
      all_goals
        go_wp2
        go_roundw
        case rel => exact ⟨k + 1, by omega, by go_num, Hblk'.out, grown_drew Hgr'.out⟩
        case measure => simp [intOf]; omega
    · have hkl : k = lb := by omega
      subst hkl
      go_wp2
      exact bodyPost_end (v := .tuple #[]) (by simp [results, Try.results39, go_sem]) rfl ⟨rfl, hblk, hgr⟩
end Go.Proofs.Ytgmelcdgnjcojaf

namespace Go.Proofs.Ytgmelcdgnjcojaf
open Go.RowKit Crm

set_option maxRecDepth 100000 in
theorem cTrim (a : Option Addr) (n c : Nat) (xs : List Int) (w : World) (h : Rd w a n c xs) :
    Calls Try.prog 41 #[.slice a n c] w fun e w' => e = .returned (.slice a (tl xs n) c) ∧ w' = w := by
  have hm := h.max
  have hcap := h.cap
  unfold maxLen at hm
  go_enter Try.func41, Try.ntmps41
  go_wp2
  go_loop [3] (fun v => ∃ k : Nat, k ≤ n ∧ v = .int .i64 k ∧ Hid (tl xs n = tl xs k)) (fun v => (intOf v).toNat)
  case atStart => exact ⟨n, Nat.le_refl _, rfl, rfl⟩
  case round =>
    obtain ⟨k, hk, rfl, HR⟩ := hrel
    cases k with
    | zero =>
      go_wp2
      go_ret
      rw [HR.out]
      exact ⟨rfl, rfl⟩
    | succ m =>
      obtain ⟨b, o, x, rfl, hb, HX, hx0, hx1, hc⟩ := h.one (show m < n by omega)
      by_cases hx : x = 0
      · subst hx
        go_wp2
        go_round
        case rel => exact ⟨m, by omega, rfl, HR.out.trans (tl_zero xs HX.out)⟩
        case measure => simp [intOf]
      · have hxb : (x == 0) = false := by rw [beq_eq_false_iff_ne]; exact hx
        have HL : Hid (tl xs n = m + 1) := HR.out.trans (tl_last xs (by rw [HX.out]; exact hx))
        go_wp2
        go_ret
        rw [HL.out]
        exact ⟨rfl, rfl⟩

/-- The first k numbers of L are those of nz xs, the rest 0. -/
theorem info23 : (Try.prog.info? 23).map (fun i => (i.zero, i.size, i.bytes)) = some (some (.int .u64 0), 1, 8) := by kernel_rfl

theorem fill_step (xs L : List Int) (k : Nat) (hk : k < xs.length) (hL : L = (nz xs).take k ++ List.replicate (xs.length - k) 0) :
    L.set k (nm (xs.getD k 0)) = (nz xs).take (k + 1) ++ List.replicate (xs.length - (k + 1)) 0 := by
  subst hL
  have hl : ((nz xs).take k).length = k := by simp [nz_len]; omega
  rw [List.set_append_right _ _ (by omega), hl, Nat.sub_self]
  have : xs.length - k = (xs.length - (k + 1)) + 1 := by omega
  rw [this, List.replicate_succ, List.set_cons_zero]
  rw [List.take_succ_eq_append_getElem (show k < (nz xs).length by rw [nz_len]; exact hk), List.append_assoc]
  congr 1
  rw [← nz_getD]
  simp [List.getElem?_eq_getElem (show k < (nz xs).length by rw [nz_len]; exact hk)]

end Go.Proofs.Ytgmelcdgnjcojaf
