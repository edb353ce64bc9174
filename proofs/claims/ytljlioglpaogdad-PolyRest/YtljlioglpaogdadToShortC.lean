/- What each call of package field answers: the rest of the sum, the difference, the product, the power, the inverse; no world is changed. · poly.trim, poly.normal. · croftkeep.short; short lists that a law writes out. -/
import Derived.Test.YtljlioglpaogdadToPolyM3
import Derived.Test.YtljlioglpaogdadProg
import Derived.WalkKit
import Derived.WalkSpells
import Derived.WalkLawsBesides
import Derived.Test.YtljlioglpaogdadSlice
namespace Go.Proofs.Ytljlioglpaogdad
set_option linter.unusedVariables false
set_option maxRecDepth 100000
set_option maxHeartbeats 8000000
section
open Crm Go.RowKit
theorem fNorm (a : Int) (w : World) (h0 : 0 ≤ a) (h1 : a ≤ 18446744073709551615) :
    Calls Try.prog 23 #[.int .u64 a] w fun e w' => e = .returned (.int .u64 (nm a)) ∧ w' = w := by
  go_enter Try.func23, Try.ntmps23
  go_wp2
  go_ret
  exact ⟨rfl, rfl⟩

theorem fAdd (a b : Int) (w : World) (h0 : 0 ≤ a) (h1 : a ≤ 18446744073709551615) (g0 : 0 ≤ b) (g1 : b ≤ 18446744073709551615) :
    Calls Try.prog 20 #[.int .u64 a, .int .u64 b] w fun e w' => e = .returned (.int .u64 (nm (a + b))) ∧ w' = w := by
  have ha := nm_bd a
  have hb := nm_bd b
  have HN : Hid (nm (a + b) = nm (nm a + nm b)) := by rw [nm_addl, nm_addr]; exact rfl
  go_enter Try.func20, Try.ntmps20
  go_wp2_with (go_at_call 23; refine (fNorm _ _ (by omega) (by omega)).mono ?_; rintro e w' ⟨rfl, rfl⟩)
  go_ret
  rw [HN.out]
  exact ⟨rfl, rfl⟩

theorem fSub (a b : Int) (w : World) (h0 : 0 ≤ a) (h1 : a ≤ 18446744073709551615) (g0 : 0 ≤ b) (g1 : b ≤ 18446744073709551615) :
    Calls Try.prog 12 #[.int .u64 a, .int .u64 b] w fun e w' => e = .returned (.int .u64 (nm (a - b))) ∧ w' = w := by
  have ha := nm_bd a
  have hb := nm_bd b
  have HN : Hid (nm (a - b) = nm (nm a + 2147483647 - nm b)) := by unfold nm Hid; omega
  go_enter Try.func12, Try.ntmps12
  go_wp2_with (go_at_call 23; refine (fNorm _ _ (by omega) (by omega)).mono ?_; rintro e w' ⟨rfl, rfl⟩)
  go_ret
  rw [HN.out]
  exact ⟨rfl, rfl⟩

theorem mul_bd {x y : Int} (hx : 0 ≤ x ∧ x ≤ 2147483646) (hy : 0 ≤ y ∧ y ≤ 2147483646) : 0 ≤ x * y ∧ x * y ≤ 4611686009837453316 :=
  ⟨Int.mul_nonneg hx.1 hy.1, by have := Int.mul_le_mul hx.2 hy.2 hy.1 (by omega : (0 : Int) ≤ 2147483646); omega⟩

theorem fMul (a b : Int) (w : World) (h0 : 0 ≤ a) (h1 : a ≤ 18446744073709551615) (g0 : 0 ≤ b) (g1 : b ≤ 18446744073709551615) :
    Calls Try.prog 15 #[.int .u64 a, .int .u64 b] w fun e w' => e = .returned (.int .u64 (nm (a * b))) ∧ w' = w := by
  have ha := nm_bd a
  have hb := nm_bd b
  have hm := mul_bd ha hb
  have HN : Hid (nm (a * b) = nm (nm a * nm b)) := by rw [nm_mull, nm_mulr]; exact rfl
  go_enter Try.func15, Try.ntmps15
  go_wp2_with (go_at_call 23; refine (fNorm _ _ (by omega) (by omega)).mono ?_; rintro e w' ⟨rfl, rfl⟩)
  go_ret
  rw [HN.out]
  exact ⟨rfl, rfl⟩

theorem fPow (a n : Int) (w : World) (h0 : 0 ≤ a) (h1 : a ≤ 18446744073709551615) (g0 : 0 ≤ n) (g1 : n ≤ 18446744073709551615) :
    Calls Try.prog 60 #[.int .u64 a, .int .u64 n] w fun e w' => e = .returned (.int .u64 (pw a n.toNat)) ∧ w' = w := by
  have ha := nm_bd a
  go_enter Try.func60, Try.ntmps60
  go_wp2_with (go_at_call 23; refine (fNorm _ _ (by omega) (by omega)).mono ?_; rintro e w' ⟨rfl, rfl⟩)
  go_loop [1, 5, 6] (fun vn vp vs => ∃ (m : Nat) (p s : Int), vn = .int .u64 m ∧ vp = .int .u64 p ∧ vs = .int .u64 s ∧ (m : Int) ≤ 18446744073709551615 ∧ (0 ≤ p ∧ p ≤ 2147483646) ∧ (0 ≤ s ∧ s ≤ 2147483646) ∧ nm (p * pw s m) = pw a n.toNat) (fun vn _ _ => (intOf vn).toNat)
  case atStart =>
    obtain ⟨k, rfl⟩ := Int.eq_ofNat_of_zero_le g0
    exact ⟨k, 1, nm a, rfl, rfl, rfl, g1, by omega, ha, by rw [Int.one_mul, pw_nm, Int.toNat_natCast]; exact nm_nm _⟩
  case round =>
    obtain ⟨m, p, s, rfl, rfl, rfl, hm, hp, hs, hr⟩ := hrel
    have HR : Hid (nm (p * pw s m) = pw a n.toNat) := hr
    clear hr
    have hpp := mul_bd hp hs
    have hss := mul_bd hs hs
    have hnp := nm_bd (p * s)
    have hns := nm_bd (s * s)
    have hand := and_one_u64 m (by omega) hm
    by_cases hlt : 0 < m
    · by_cases hb : m % 2 = 1
      · have hand1 : (bits BinOp.and IntKind.u64 (m : Int) 1 == 1) = true := by rw [hand, beq_iff_eq]; omega
        clear hand
        have HB : Hid (m % 2 = 1) := hb
        clear hb
        go_wp2_with (go_at_call 15; refine (fMul _ _ _ (by omega) (by omega) (by omega) (by omega)).mono ?_; rintro e w' ⟨rfl, rfl⟩)
        go_round
        case rel => exact ⟨m / 2, _, _, rfl, rfl, rfl, by omega, hnp, hns, by rw [low1 p s m HB.out]; exact HR.out⟩
        case measure => simp [intOf]; omega
      · have hand1 : (bits BinOp.and IntKind.u64 (m : Int) 1 == 1) = false := by rw [hand, beq_eq_false_iff_ne]; omega
        clear hand
        have HB : Hid (m % 2 = 0) := by unfold Hid; omega
        clear hb
        go_wp2_with (go_at_call 15; refine (fMul _ _ _ (by omega) (by omega) (by omega) (by omega)).mono ?_; rintro e w' ⟨rfl, rfl⟩)
        go_round
        case rel => exact ⟨m / 2, _, _, rfl, rfl, rfl, by omega, hp, hns, by rw [low0 p s m HB.out]; exact HR.out⟩
        case measure => simp [intOf]; omega
    · have HM : Hid (m = 0) := by unfold Hid; omega
      clear hand
      go_wp2
      go_ret
      have h := HR.out
      rw [HM.out, pw_zero, Int.mul_one, nm_small hp.1 hp.2] at h
      rw [h]
      exact ⟨rfl, rfl⟩

theorem fInv1 (a : Int) (w : World) (h0 : 0 ≤ a) (h1 : a ≤ 18446744073709551615) (hz : nm a ≠ 0) :
    Calls Try.prog 42 #[.int .u64 a] w fun e w' => e = .returned (.tuple #[.int .u64 (iv a), .int .i64 0]) ∧ w' = w := by
  have hz' : (nm a == 0) = false := by rw [beq_eq_false_iff_ne]; exact hz
  go_enter Try.func42, Try.ntmps42
  go_wp2_with (first | (go_at_call 23; refine (fNorm _ _ (by omega) (by omega)).mono ?_; rintro e w' ⟨rfl, rfl⟩) | (go_at_call 60; refine (fPow _ _ _ (by omega) (by omega) (by omega) (by omega)).mono ?_; rintro e w' ⟨rfl, rfl⟩))
  go_ret2
  exact ⟨rfl, rfl⟩
theorem cTrim (a : Option Addr) (n c : Nat) (xs : List Int) (w : World) (h : Rd w a n c xs) :
    Calls Try.prog 44 #[.slice a n c] w fun e w' => e = .returned (.slice a (tl xs n) c) ∧ w' = w := by
  have hm := h.max
  have hcap := h.cap
  unfold maxLen at hm
  go_enter Try.func44, Try.ntmps44
  go_wp2
  go_loop [3] (fun v => ∃ k : Nat, k ≤ n ∧ v = .int .i64 k ∧ Hid (tl xs n = tl xs k)) (fun v => (intOf v).toNat)
  case atStart => exact ⟨n, Nat.le_refl _, rfl, rfl⟩
  case round =>
    obtain ⟨k, hk, rfl, HR⟩ := hrel
    cases k with
    | zero =>
      go_wp2
      go_ret
      rw [HR.out]
      exact ⟨rfl, rfl⟩
    | succ m =>
      obtain ⟨b, o, x, rfl, hb, HX, hx0, hx1, hc⟩ := h.one (show m < n by omega)
      by_cases hx : x = 0
      · subst hx
        go_wp2
        go_round
        case rel => exact ⟨m, by omega, rfl, HR.out.trans (tl_zero xs HX.out)⟩
        case measure => simp [intOf]
      · have hxb : (x == 0) = false := by rw [beq_eq_false_iff_ne]; exact hx
        have HL : Hid (tl xs n = m + 1) := HR.out.trans (tl_last xs (by rw [HX.out]; exact hx))
        go_wp2
        go_ret
        rw [HL.out]
        exact ⟨rfl, rfl⟩

/-- The first k numbers of L are those of nz xs, the rest 0. -/
theorem info23 : (Try.prog.info? 23).map (fun i => (i.zero, i.size, i.bytes)) = some (some (.int .u64 0), 1, 8) := by kernel_rfl

theorem fill_step (xs L : List Int) (k : Nat) (hk : k < xs.length) (hL : L = (nz xs).take k ++ List.replicate (xs.length - k) 0) :
    L.set k (nm (xs.getD k 0)) = (nz xs).take (k + 1) ++ List.replicate (xs.length - (k + 1)) 0 := by
  subst hL
  have hl : ((nz xs).take k).length = k := by simp [nz_len]; omega
  rw [List.set_append_right _ _ (by omega), hl, Nat.sub_self]
  have : xs.length - k = (xs.length - (k + 1)) + 1 := by omega
  rw [this, List.replicate_succ, List.set_cons_zero]
  rw [List.take_succ_eq_append_getElem (show k < (nz xs).length by rw [nz_len]; exact hk), List.append_assoc]
  congr 1
  rw [← nz_getD]
  simp [List.getElem?_eq_getElem (show k < (nz xs).length by rw [nz_len]; exact hk)]

theorem cNormal (a : Option Addr) (n c : Nat) (xs : List Int) (w : World) (h : Rd w a n c xs) (hn : n ≤ 1000000) :
    Calls Try.prog 37 #[.slice a n c] w fun e w' => e = .returned (.slice (some ⟨w.heap.size, 0, none⟩) (tl (nz xs) n) n) ∧ Blk w' w.heap.size (nz xs) ∧ Below w.heap.size w w' := by
  obtain ⟨i0, hi, hz0, hz1, hz2⟩ := info_parts info23
  have hlen := h.len
  go_enter Try.func37, Try.ntmps37
  go_wp2_with (at_make; refine wpList_make_full _ rfl _ _ 22 rfl w.heap.size 23 i0 (.int .u64 0) 1 Try.underlying22 hi hz0 hz1 .i64 .i64 _ _ n rfl rfl (by omega) (by omega) (by rw [hz2]; omega) (by unfold maxLen; omega) (Nat.le_refl _) ?_; intro w1 hown hgrow)
  have hb1 : Blk w1 w.heap.size (List.replicate n 0) := Blk.made hown
  have hbel1 : Below w.heap.size w w1 := (Below.refl _ _).grown hgrow (Nat.le_refl _) (by simp)
  clear hown hgrow
  go_loopw [11] (fun i wr => ∃ k : Nat, k ≤ n ∧ i = .int .i64 k ∧ Blk wr w.heap.size ((nz xs).take k ++ List.replicate (xs.length - k) 0) ∧ Below w.heap.size w wr) (fun i _ => n - (intOf i).toNat)
  case atStart => exact ⟨0, Nat.zero_le _, rfl, by simpa [hlen] using hb1, hbel1⟩
  case round =>
    obtain ⟨k, hk, rfl, hblk, hbel⟩ := hrel
    by_cases hlt : k < n
    · obtain ⟨b, o, x, rfl, hb, HX, hx0, hx1, hc⟩ := (h.below hbel).one hlt
      have hcell := hblk.cell (i := k) (by simp [nz_len]; omega)
      have hfz := hblk.frozen k
      have hblk' : Blk (wr.setCell ⟨w.heap.size, k, none⟩ (.int .u64 (nm x))) w.heap.size ((nz xs).take (k + 1) ++ List.replicate (xs.length - (k + 1)) 0) := by
        rw [← fill_step xs _ k (by omega) rfl, HX.out]
        exact hblk.set k _
      have Hbel' : Hid (Below w.heap.size w (wr.setCell ⟨w.heap.size, k, none⟩ (.int .u64 (nm x)))) := hbel.setCell (Nat.le_refl _) _
      clear hblk hbel
      go_wp2_with (go_at_call 23; refine (fNorm _ _ (by omega) (by omega)).mono ?_; rintro e w' ⟨rfl, rfl⟩)
      go_roundw
      case rel => exact ⟨k + 1, by omega, by go_num, hblk', Hbel'.out⟩
      case measure => simp [intOf]; omega
    · have hkn : k = n := by omega
      subst hkn
      rw [List.take_of_length_le (by rw [nz_len]; omega), show xs.length - k = 0 by omega, List.replicate_zero, List.append_nil] at hblk
      have hr : Rd wr (some ⟨w.heap.size, 0, none⟩) k k (nz xs) := by
        have := hblk.rd 0 k k (Nat.le_refl _) (by unfold maxLen; omega) (by rw [nz_len]; omega) (nz_bd xs)
        rwa [List.drop_zero, List.take_of_length_le (by rw [nz_len]; omega)] at this
      go_wp2_with (go_at_call 44; refine (cTrim _ _ _ _ _ hr).mono ?_; rintro e w' ⟨rfl, rfl⟩)
      go_ret
      exact ⟨rfl, hblk, hbel⟩
end
section
open Go.RowKit
theorem Rd.take {w : World} {a : Option Addr} {n c : Nat} {xs : List Int} (h : Rd w a n c xs) {k : Nat} (hk : k ≤ n) : Rd w a k c (xs.take k) := by
  refine ⟨by have := h.len; simp; omega, by have := h.cap; omega, h.max, fun x hx => h.bd x (List.mem_of_mem_take hx), h.nil, fun x hx i hi => ?_⟩
  rw [h.cell x hx i (by omega)]
  congr 2
  simp [hi]

theorem kShort (a : Option Addr) (n c k : Nat) (w : World) (hcap : n ≤ c) (hk : k ≤ 1000) :
    Calls Try.prog 11 #[.slice a n c, .int .i64 k] w fun e w' => e = .returned (.slice a (min k n) c) ∧ w' = w := by
  by_cases h : k ≤ n
  · have e : min k n = k := by omega
    rw [e]
    clear e
    go_enter Try.func11, Try.ntmps11
    go_wp2
    all_goals
      go_ret
      exact ⟨rfl, rfl⟩
  · have e : min k n = n := by omega
    rw [e]
    clear e
    go_enter Try.func11, Try.ntmps11
    go_wp2
    all_goals
      go_ret
      exact ⟨rfl, rfl⟩

theorem Blk.of2 (w : World) (x y : Int) : Blk (w.alloc (.cells #[.int .u64 x, .int .u64 y] 23)) w.heap.size [x, y] := heap_alloc_new w _
theorem Blk.of3 (w : World) (x y z : Int) : Blk (w.alloc (.cells #[.int .u64 x, .int .u64 y, .int .u64 z] 23)) w.heap.size [x, y, z] := heap_alloc_new w _
theorem rd_of2 (w : World) {x y : Int} (hx : 0 ≤ x ∧ x ≤ 18446744073709551615) (hy : 0 ≤ y ∧ y ≤ 18446744073709551615) : Rd (w.alloc (.cells #[.int .u64 x, .int .u64 y] 23)) (some ⟨w.heap.size, 0, none⟩) 2 2 [x, y] :=
  (Blk.of2 w x y).whole 2 rfl (by unfold maxLen; omega) (by
    intro u hu
    simp only [List.mem_cons, List.not_mem_nil, or_false] at hu
    rcases hu with rfl | rfl <;> assumption)
theorem rd_of3 (w : World) {x y z : Int} (hx : 0 ≤ x ∧ x ≤ 18446744073709551615) (hy : 0 ≤ y ∧ y ≤ 18446744073709551615) (hz : 0 ≤ z ∧ z ≤ 18446744073709551615) : Rd (w.alloc (.cells #[.int .u64 x, .int .u64 y, .int .u64 z] 23)) (some ⟨w.heap.size, 0, none⟩) 3 3 [x, y, z] :=
  (Blk.of3 w x y z).whole 3 rfl (by unfold maxLen; omega) (by
    intro u hu
    simp only [List.mem_cons, List.not_mem_nil, or_false] at hu
    rcases hu with rfl | rfl | rfl <;> assumption)
theorem below_one (w : World) (ob : Obj) : Below w.heap.size w (w.alloc ob) := (Below.refl _ _).alloc (Nat.le_refl _) _
end
end Go.Proofs.Ytljlioglpaogdad
