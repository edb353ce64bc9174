/- croftref.Sum. · What each call of package field answers: the rest of the sum, the difference, the product, the power, the inverse; no world is changed. · poly.trim, poly.normal. · croftkeep.short; short lists that a law writes out. · (*shamir.parties).join, shamir.Check. · shamir.Check. -/
import Derived.Test.YtljlioglpaogdabToRefPolyC
import Derived.Test.YtljlioglpaogdabToGaussM
import Derived.Test.YtljlioglpaogdabProg
import Derived.WalkKit
import Derived.WalkSpells
import Derived.WalkLawsBesides
import Derived.Test.YtljlioglpaogdabToBadM
namespace Go.Proofs.Ytljlioglpaogdab
set_option linter.unusedVariables false
set_option maxRecDepth 100000
set_option maxHeartbeats 8000000
section
open Crm Go.RowKit
def smk (ps qs : List Int) (k : Nat) : List Int := (List.range k).map fun i => nm (ps.getD i 0 + qs.getD i 0)
theorem smk_step (ps qs : List Int) (k : Nat) {v : Int} (e : v = nm (ps.getD k 0 + qs.getD k 0)) : smk ps qs k ++ [v] = smk ps qs (k + 1) := by
  unfold smk
  rw [List.range_succ, List.map_append, e]
  rfl
theorem smk_bd (ps qs : List Int) (k : Nat) : ∀ x ∈ smk ps qs k, 0 ≤ x ∧ x ≤ 18446744073709551615 := by
  intro x hx
  obtain ⟨k, _, rfl⟩ := List.mem_map.1 hx
  have := nm_bd (ps.getD k 0 + qs.getD k 0)
  omega

theorem own_base {w : World} {B B' n : Nat} {E : TypeId} {v : Value} {xs : List Value} (h : w.ownsRow B E 1 v n xs) (hB : B' ≤ B) : w.ownsRow B' E 1 v n xs := by
  rcases h.2 with h' | ⟨g, cap, cur, e1, e2, e3⟩
  · exact ⟨h.1, Or.inl h'⟩
  · exact ⟨h.1, Or.inr ⟨g, cap, cur, e1, by omega, e3⟩⟩

theorem rSumO (a : Option Addr) (n c : Nat) (xs : List Int) (b : Option Addr) (m d : Nat) (ys : List Int) (w : World) (h : Rd w a n c xs) (g : Rd w b m d ys) (hn : n ≤ 1000) (hm : m ≤ 1000) :
    Calls Try.prog 96 #[.slice a n c, .slice b m d] w fun e w' => ∃ a' c', e = .returned (.slice a' (nrm (sml xs ys)).length c') ∧ w'.ownsRow w.heap.size 28 1 (.slice a' (nrm (sml xs ys)).length c') (nrm (sml xs ys)).length ((nrm (sml xs ys)).map (Value.int .u64)) ∧ Below w.heap.size w w' := by
  have hlen := h.len
  have glen := g.len
  go_enter Try.func96, Try.ntmps96
  go_wp2
  go_loopw [5, 6] (fun v i wr => ∃ k : Nat, k ≤ max n m ∧ i = .int .i64 k ∧ wr.ownsRow w.heap.size 28 1 v k ((smk xs ys k).map (Value.int .u64)) ∧ Below w.heap.size w wr) (fun _ i _ => max n m - (intOf i).toNat)
  case atStart => exact ⟨0, Nat.zero_le _, rfl, World.ownsRow_nil _ _ _ _, Below.refl _ _⟩
  case round =>
    obtain ⟨k, hk, rfl, hown, hbel⟩ := hrel
    have hs1 := hbel.size
    by_cases h1 : k < n
    · obtain ⟨b1, o1, x, rfl, hbb, HX, hx0, hx1, hcx⟩ := (h.below hbel).one h1
      have hnx := nm_bd x
      by_cases h2 : k < m
      · obtain ⟨b2, o2, y, rfl, hbb2, HY, hy0, hy1, hcy⟩ := (g.below hbel).one h2
        have HV : Hid (nm (nm x + y) = nm (xs.getD k 0 + ys.getD k 0)) := by rw [HX.out, HY.out]; exact nm_addl _ _
        go_wp2_with (first | (go_at_call 46; refine (rAdd _ _ _ (by omega) (by omega) (by omega) (by omega)).mono ?_; rintro e w' ⟨rfl, hw⟩; have hw := hw.symm; subst hw) | (at_builtin; refine wpList_app1 Try.underlying23 infoR28 _ rfl _ _ rfl w.heap.size _ _ _ rfl hown _ rfl (by omega) (by omega) ?_; intro v' w3 hown3 hbel3; rw [smk_step xs ys k HV.out] at hown3; have hbel4 := hbel.trans hbel3; clear hown hbel hbel3))
        go_roundw
        case rel => exact ⟨k + 1, by omega, by go_num, hown3, hbel4⟩
        case measure => simp [intOf]; omega
      · have HV : Hid (nm x = nm (xs.getD k 0 + ys.getD k 0)) := by rw [HX.out, getD_big (show ys.length ≤ k by omega), Int.add_zero]; exact rfl
        go_wp2_with (first | (go_at_call 46; refine (rAdd _ _ _ (by omega) (by omega) (by omega) (by omega)).mono ?_; rintro e w' ⟨rfl, hw⟩; have hw := hw.symm; subst hw) | (at_builtin; refine wpList_app1 Try.underlying23 infoR28 _ rfl _ _ rfl w.heap.size _ _ _ rfl hown _ rfl (by omega) (by omega) ?_; intro v' w3 hown3 hbel3; rw [smk_step xs ys k HV.out] at hown3; have hbel4 := hbel.trans hbel3; clear hown hbel hbel3))
        go_roundw
        case rel => exact ⟨k + 1, by omega, by go_num, hown3, hbel4⟩
        case measure => simp [intOf]; omega
    · by_cases h2 : k < m
      · obtain ⟨b2, o2, y, rfl, hbb2, HY, hy0, hy1, hcy⟩ := (g.below hbel).one h2
        have HV : Hid (nm y = nm (xs.getD k 0 + ys.getD k 0)) := by rw [HY.out, getD_big (show xs.length ≤ k by omega), Int.zero_add]; exact rfl
        go_wp2_with (first | (go_at_call 46; refine (rAdd _ _ _ (by omega) (by omega) (by omega) (by omega)).mono ?_; rintro e w' ⟨rfl, hw⟩; have hw := hw.symm; subst hw) | (at_builtin; refine wpList_app1 Try.underlying23 infoR28 _ rfl _ _ rfl w.heap.size _ _ _ rfl hown _ rfl (by omega) (by omega) ?_; intro v' w3 hown3 hbel3; rw [smk_step xs ys k HV.out] at hown3; have hbel4 := hbel.trans hbel3; clear hown hbel hbel3))
        go_roundw
        case rel => exact ⟨k + 1, by omega, by go_num, hown3, hbel4⟩
        case measure => simp [intOf]; omega
      · obtain ⟨a', c', rfl, hr, hfr⟩ := Rd.own hown (smk_bd xs ys k)
        have HE : Hid (smk xs ys k = sml xs ys) := by unfold smk sml; rw [hlen, glen, show k = max n m by omega]; exact rfl
        have HK : Hid (k = (sml xs ys).length) := by rw [sml_len, hlen, glen]; unfold Hid; omega
        go_wp2_with fail
        refine (rNormalO _ _ _ _ _ hr (by omega)).mono ?_
        rintro e w2 ⟨a2, c2, rfl, hr2, hb2⟩
        rw [HE.out] at hr2 ⊢
        rw [HK.out, ← nrm_len] at hr2 ⊢
        have hr3 := own_base hr2 hs1
        clear hr2
        go_wp2
        go_ret
        exact ⟨a2, c2, rfl, hr3, hbel.trans (hb2.mono hs1)⟩
theorem fNorm (a : Int) (w : World) (h0 : 0 ≤ a) (h1 : a ≤ 18446744073709551615) :
    Calls Try.prog 73 #[.int .u64 a] w fun e w' => e = .returned (.int .u64 (nm a)) ∧ w' = w := by
  go_enter Try.func73, Try.ntmps73
  go_wp2
  go_ret
  exact ⟨rfl, rfl⟩

theorem fAdd (a b : Int) (w : World) (h0 : 0 ≤ a) (h1 : a ≤ 18446744073709551615) (g0 : 0 ≤ b) (g1 : b ≤ 18446744073709551615) :
    Calls Try.prog 58 #[.int .u64 a, .int .u64 b] w fun e w' => e = .returned (.int .u64 (nm (a + b))) ∧ w' = w := by
  have ha := nm_bd a
  have hb := nm_bd b
  have HN : Hid (nm (a + b) = nm (nm a + nm b)) := by rw [nm_addl, nm_addr]; exact rfl
  go_enter Try.func58, Try.ntmps58
  go_wp2_with (go_at_call 73; refine (fNorm _ _ (by omega) (by omega)).mono ?_; rintro e w' ⟨rfl, rfl⟩)
  go_ret
  rw [HN.out]
  exact ⟨rfl, rfl⟩

theorem fSub (a b : Int) (w : World) (h0 : 0 ≤ a) (h1 : a ≤ 18446744073709551615) (g0 : 0 ≤ b) (g1 : b ≤ 18446744073709551615) :
    Calls Try.prog 59 #[.int .u64 a, .int .u64 b] w fun e w' => e = .returned (.int .u64 (nm (a - b))) ∧ w' = w := by
  have ha := nm_bd a
  have hb := nm_bd b
  have HN : Hid (nm (a - b) = nm (nm a + 2147483647 - nm b)) := by unfold nm Hid; omega
  go_enter Try.func59, Try.ntmps59
  go_wp2_with (go_at_call 73; refine (fNorm _ _ (by omega) (by omega)).mono ?_; rintro e w' ⟨rfl, rfl⟩)
  go_ret
  rw [HN.out]
  exact ⟨rfl, rfl⟩

theorem mul_bd {x y : Int} (hx : 0 ≤ x ∧ x ≤ 2147483646) (hy : 0 ≤ y ∧ y ≤ 2147483646) : 0 ≤ x * y ∧ x * y ≤ 4611686009837453316 :=
  ⟨Int.mul_nonneg hx.1 hy.1, by have := Int.mul_le_mul hx.2 hy.2 hy.1 (by omega : (0 : Int) ≤ 2147483646); omega⟩

theorem fMul (a b : Int) (w : World) (h0 : 0 ≤ a) (h1 : a ≤ 18446744073709551615) (g0 : 0 ≤ b) (g1 : b ≤ 18446744073709551615) :
    Calls Try.prog 61 #[.int .u64 a, .int .u64 b] w fun e w' => e = .returned (.int .u64 (nm (a * b))) ∧ w' = w := by
  have ha := nm_bd a
  have hb := nm_bd b
  have hm := mul_bd ha hb
  have HN : Hid (nm (a * b) = nm (nm a * nm b)) := by rw [nm_mull, nm_mulr]; exact rfl
  go_enter Try.func61, Try.ntmps61
  go_wp2_with (go_at_call 73; refine (fNorm _ _ (by omega) (by omega)).mono ?_; rintro e w' ⟨rfl, rfl⟩)
  go_ret
  rw [HN.out]
  exact ⟨rfl, rfl⟩

theorem fPow (a n : Int) (w : World) (h0 : 0 ≤ a) (h1 : a ≤ 18446744073709551615) (g0 : 0 ≤ n) (g1 : n ≤ 18446744073709551615) :
    Calls Try.prog 84 #[.int .u64 a, .int .u64 n] w fun e w' => e = .returned (.int .u64 (pw a n.toNat)) ∧ w' = w := by
  have ha := nm_bd a
  go_enter Try.func84, Try.ntmps84
  go_wp2_with (go_at_call 73; refine (fNorm _ _ (by omega) (by omega)).mono ?_; rintro e w' ⟨rfl, rfl⟩)
  go_loop [1, 5, 6] (fun vn vp vs => ∃ (m : Nat) (p s : Int), vn = .int .u64 m ∧ vp = .int .u64 p ∧ vs = .int .u64 s ∧ (m : Int) ≤ 18446744073709551615 ∧ (0 ≤ p ∧ p ≤ 2147483646) ∧ (0 ≤ s ∧ s ≤ 2147483646) ∧ nm (p * pw s m) = pw a n.toNat) (fun vn _ _ => (intOf vn).toNat)
  case atStart =>
    obtain ⟨k, rfl⟩ := Int.eq_ofNat_of_zero_le g0
    exact ⟨k, 1, nm a, rfl, rfl, rfl, g1, by omega, ha, by rw [Int.one_mul, pw_nm, Int.toNat_natCast]; exact nm_nm _⟩
  case round =>
    obtain ⟨m, p, s, rfl, rfl, rfl, hm, hp, hs, hr⟩ := hrel
    have HR : Hid (nm (p * pw s m) = pw a n.toNat) := hr
    clear hr
    have hpp := mul_bd hp hs
    have hss := mul_bd hs hs
    have hnp := nm_bd (p * s)
    have hns := nm_bd (s * s)
    have hand := and_one_u64 m (by omega) hm
    by_cases hlt : 0 < m
    · by_cases hb : m % 2 = 1
      · have hand1 : (bits BinOp.and IntKind.u64 (m : Int) 1 == 1) = true := by rw [hand, beq_iff_eq]; omega
        clear hand
        have HB : Hid (m % 2 = 1) := hb
        clear hb
        go_wp2_with (go_at_call 61; refine (fMul _ _ _ (by omega) (by omega) (by omega) (by omega)).mono ?_; rintro e w' ⟨rfl, rfl⟩)
        go_round
        case rel => exact ⟨m / 2, _, _, rfl, rfl, rfl, by omega, hnp, hns, by rw [low1 p s m HB.out]; exact HR.out⟩
        case measure => simp [intOf]; omega
      · have hand1 : (bits BinOp.and IntKind.u64 (m : Int) 1 == 1) = false := by rw [hand, beq_eq_false_iff_ne]; omega
        clear hand
        have HB : Hid (m % 2 = 0) := by unfold Hid; omega
        clear hb
        go_wp2_with (go_at_call 61; refine (fMul _ _ _ (by omega) (by omega) (by omega) (by omega)).mono ?_; rintro e w' ⟨rfl, rfl⟩)
        go_round
        case rel => exact ⟨m / 2, _, _, rfl, rfl, rfl, by omega, hp, hns, by rw [low0 p s m HB.out]; exact HR.out⟩
        case measure => simp [intOf]; omega
    · have HM : Hid (m = 0) := by unfold Hid; omega
      clear hand
      go_wp2
      go_ret
      have h := HR.out
      rw [HM.out, pw_zero, Int.mul_one, nm_small hp.1 hp.2] at h
      rw [h]
      exact ⟨rfl, rfl⟩

theorem fInv1 (a : Int) (w : World) (h0 : 0 ≤ a) (h1 : a ≤ 18446744073709551615) (hz : nm a ≠ 0) :
    Calls Try.prog 98 #[.int .u64 a] w fun e w' => e = .returned (.tuple #[.int .u64 (iv a), .int .i64 0]) ∧ w' = w := by
  have hz' : (nm a == 0) = false := by rw [beq_eq_false_iff_ne]; exact hz
  go_enter Try.func98, Try.ntmps98
  go_wp2_with (first | (go_at_call 73; refine (fNorm _ _ (by omega) (by omega)).mono ?_; rintro e w' ⟨rfl, rfl⟩) | (go_at_call 84; refine (fPow _ _ _ (by omega) (by omega) (by omega) (by omega)).mono ?_; rintro e w' ⟨rfl, rfl⟩))
  go_ret2
  exact ⟨rfl, rfl⟩
theorem cTrim (a : Option Addr) (n c : Nat) (xs : List Int) (w : World) (h : Rd w a n c xs) :
    Calls Try.prog 101 #[.slice a n c] w fun e w' => e = .returned (.slice a (tl xs n) c) ∧ w' = w := by
  have hm := h.max
  have hcap := h.cap
  unfold maxLen at hm
  go_enter Try.func101, Try.ntmps101
  go_wp2
  go_loop [3] (fun v => ∃ k : Nat, k ≤ n ∧ v = .int .i64 k ∧ Hid (tl xs n = tl xs k)) (fun v => (intOf v).toNat)
  case atStart => exact ⟨n, Nat.le_refl _, rfl, rfl⟩
  case round =>
    obtain ⟨k, hk, rfl, HR⟩ := hrel
    cases k with
    | zero =>
      go_wp2
      go_ret
      rw [HR.out]
      exact ⟨rfl, rfl⟩
    | succ m =>
      obtain ⟨b, o, x, rfl, hb, HX, hx0, hx1, hc⟩ := h.one (show m < n by omega)
      by_cases hx : x = 0
      · subst hx
        go_wp2
        go_round
        case rel => exact ⟨m, by omega, rfl, HR.out.trans (tl_zero xs HX.out)⟩
        case measure => simp [intOf]
      · have hxb : (x == 0) = false := by rw [beq_eq_false_iff_ne]; exact hx
        have HL : Hid (tl xs n = m + 1) := HR.out.trans (tl_last xs (by rw [HX.out]; exact hx))
        go_wp2
        go_ret
        rw [HL.out]
        exact ⟨rfl, rfl⟩

/-- The first k numbers of L are those of nz xs, the rest 0. -/
theorem info28 : (Try.prog.info? 28).map (fun i => (i.zero, i.size, i.bytes)) = some (some (.int .u64 0), 1, 8) := by kernel_rfl
end
section
open Go.RowKit
theorem Rd.take {w : World} {a : Option Addr} {n c : Nat} {xs : List Int} (h : Rd w a n c xs) {k : Nat} (hk : k ≤ n) : Rd w a k c (xs.take k) := by
  refine ⟨by have := h.len; simp; omega, by have := h.cap; omega, h.max, fun x hx => h.bd x (List.mem_of_mem_take hx), h.nil, fun x hx i hi => ?_⟩
  rw [h.cell x hx i (by omega)]
  congr 2
  simp [hi]
end
section
open Crm Go.RowKit
/-- Row g holds the marks M. -/
def BlkB (w : World) (g : Nat) (M : List Bool) : Prop := w.heap[g]? = some (.cells (M.map Value.bool).toArray 116 (0, 0))
theorem BlkB.lt {w : World} {g : Nat} {M : List Bool} (h : BlkB w g M) : g < w.heap.size := (Array.getElem?_eq_some_iff.1 h).1
theorem BlkB.cell {w : World} {g : Nat} {M : List Bool} (h : BlkB w g M) {i : Nat} (hi : i < M.length) : w.cell? ⟨g, i, none⟩ = some (.bool (M.getD i false)) := by
  rw [cell_of_row w g i _ _ (0, 0) h]
  simp [List.getElem?_eq_getElem hi]
theorem BlkB.frozen {w : World} {g : Nat} {M : List Bool} (h : BlkB w g M) (i : Nat) : w.frozen? ⟨g, i, none⟩ = false := frozen_of_row w g i _ _ h
theorem BlkB.set {w : World} {g : Nat} {M : List Bool} (h : BlkB w g M) (i : Nat) (v : Bool) : BlkB (w.setCell ⟨g, i, none⟩ (.bool v)) g (M.set i v) := by
  have := heap_setCell_same w g i _ _ (.bool v) h
  unfold BlkB
  rw [this]
  simp [List.map_set]
theorem BlkB.below {w w' : World} {B g : Nat} {M : List Bool} (h : BlkB w g M) (hb : Below B w w') (hg : g < B) : BlkB w' g M := by
  unfold BlkB; rw [hb.block g hg]; exact h

theorem cJoinO (g : Nat) (x : Int) (w : World) (h : x < 1 ∨ 9 < x) :
    Calls Try.prog 77 #[.pointer (some ⟨g, 0, none⟩), .int .i64 x] w fun e w' => e = .returned (.bool false) ∧ w' = w := by
  by_cases h1 : x < 1
  · clear h
    go_enter Try.func77, Try.ntmps77
    go_wp2
    go_ret
    exact ⟨rfl, rfl⟩
  · have h2 : 9 < x := by omega
    clear h
    go_enter Try.func77, Try.ntmps77
    go_wp2
    go_ret
    exact ⟨rfl, rfl⟩
theorem cJoinN (g k : Nat) (M : List Bool) (w : World) (h : BlkB w g M) (hM : M.length = 10) (h1 : 1 ≤ k) (h9 : k ≤ 9) (hk : M.getD k false = true) :
    Calls Try.prog 77 #[.pointer (some ⟨g, 0, none⟩), .int .i64 k] w fun e w' => e = .returned (.bool false) ∧ w' = w := by
  have hc := h.cell (i := k) (by omega)
  rw [hk] at hc
  have hlt := h.lt
  go_enter Try.func77, Try.ntmps77
  go_wp2
  go_ret
  exact ⟨rfl, rfl⟩
theorem cJoinY (g k : Nat) (M : List Bool) (w : World) (h : BlkB w g M) (hM : M.length = 10) (h1 : 1 ≤ k) (h9 : k ≤ 9) (hk : M.getD k false = false) :
    Calls Try.prog 77 #[.pointer (some ⟨g, 0, none⟩), .int .i64 k] w fun e w' => e = .returned (.bool true) ∧ w' = w.setCell ⟨g, k, none⟩ (.bool true) := by
  have hc := h.cell (i := k) (by omega)
  rw [hk] at hc
  have hlt := h.lt
  have hfz := h.frozen k
  go_enter Try.func77, Try.ntmps77
  go_wp2
  go_ret
  exact ⟨rfl, rfl⟩
/-- M marks who has come. -/
structure Mk (f : Nat → Int) (k : Nat) (M : List Bool) : Prop where
  len : M.length = 10
  mark : ∀ p : Nat, 1 ≤ p → p ≤ 9 → (M.getD p false = true ↔ ∃ j, j < k ∧ f j = (p : Int))
  dis : dis f k
theorem mk_start (f : Nat → Int) : Mk f 0 (List.replicate 10 false) := by
  refine ⟨rfl, fun p _ h9 => ?_, dis_zero f⟩
  have : (List.replicate 10 false).getD p false = false := by
    rw [List.getD_eq_getElem?_getD, List.getElem?_replicate]; split <;> rfl
  rw [this]
  constructor
  · intro h; cases h
  · rintro ⟨j, hj, _⟩; omega
theorem mk_step {f : Nat → Int} {k : Nat} {M : List Bool} {p : Nat} (h : Mk f k M) (hp : f k = (p : Int)) (h1 : 1 ≤ p) (h9 : p ≤ 9) (hm : M.getD p false = false) : Mk f (k + 1) (M.set p true) := by
  have hno : ∀ j, j < k → f j ≠ (p : Int) := fun j hj e => by
    have := (h.mark p h1 h9).2 ⟨j, hj, e⟩
    rw [hm] at this; cases this
  refine ⟨by rw [List.length_set]; exact h.len, fun q q1 q9 => ?_, dis_succ h.dis hp (by omega) (by omega) hno⟩
  have hl := h.len
  by_cases e : q = p
  · subst e
    have : (M.set q true).getD q false = true := by simp [show q < M.length by omega]
    rw [this]
    exact ⟨fun _ => ⟨k, by omega, hp⟩, fun _ => rfl⟩
  · have : (M.set p true).getD q false = M.getD q false := by
      simp [show ¬ p = q from fun e' => e e'.symm]
    rw [this, h.mark q q1 q9]
    constructor
    · rintro ⟨j, hj, e⟩; exact ⟨j, by omega, e⟩
    · rintro ⟨j, hj, e'⟩
      by_cases ej : j = k
      · subst ej; rw [hp] at e'; omega
      · exact ⟨j, by omega, e'⟩
theorem mk_twice {f : Nat → Int} {k n : Nat} {M : List Bool} {p : Nat} (h : Mk f k M) (hk : k < n) (hp : f k = (p : Int)) (h1 : 1 ≤ p) (h9 : p ≤ 9) (hm : M.getD p false = true) : ¬ Go.Proofs.Ytljlioglpaogdab.dis f n := fun hd => by
  obtain ⟨j, hj, e⟩ := (h.mark p h1 h9).1 hm
  exact (hd k hk).2 j hj (by rw [e, hp])
theorem mk_out {f : Nat → Int} {k n : Nat} {x : Int} (hk : k < n) (hx : f k = x) (h : x < 1 ∨ 9 < x) : ¬ Go.Proofs.Ytljlioglpaogdab.dis f n := fun hd => by
  have := (hd k hk).1
  omega

theorem cCheckA (a : Option Addr) (n c : Nat) (t : Int) (w : World) (h : t < 0 ∨ 4 < t) :
    Calls Try.prog 40 #[.int .i64 t, .slice a n c] w fun e w' => e = .returned (.int .i64 1) ∧ w' = w := by
  by_cases h1 : t < 0
  · clear h
    go_enter Try.func40, Try.ntmps40
    go_wp2
    go_ret
    exact ⟨rfl, rfl⟩
  · have h2 : 4 < t := by omega
    clear h
    go_enter Try.func40, Try.ntmps40
    go_wp2
    go_ret
    exact ⟨rfl, rfl⟩

theorem cCheckB (a : Option Addr) (n c : Nat) (l : List (Int × Int)) (t : Int) (w : World) (h : RdS w a n c l) (ht0 : 0 ≤ t) (ht4 : t ≤ 4) :
    Calls Try.prog 40 #[.int .i64 t, .slice a n c] w fun e w' => ∃ r, e = .returned (.int .i64 r) ∧ She l n t r ∧ Below w.heap.size w w' := by
  have hcap := h.cap
  have hmax := h.max
  unfold maxLen at hmax
  go_enter Try.func40, Try.ntmps40
  go_wp2
  go_loopw [16] (fun i wr => ∃ (k : Nat) (M : List Bool), k ≤ n ∧ i = .int .i64 k ∧ Hid (Mk (fa l) k M) ∧ BlkB wr w.heap.size M ∧ Below w.heap.size w wr) (fun i _ => n - (intOf i).toNat)
  case atStart => exact ⟨0, _, Nat.zero_le _, rfl, mk_start _, heap_alloc_new w _, (Below.refl _ _).alloc (Nat.le_refl _) _⟩
  case round =>
    obtain ⟨k, M, hk, rfl, HM, hB, hbel⟩ := hrel
    have hs1 := hbel.size
    have hlM := HM.out.len
    by_cases hlt : k < n
    · obtain ⟨b, o, x, y, rfl, hbb, HX, HY, hx0, hx1, hy0, hy1, hcx, hcy⟩ := (h.below hbel).one hlt
      have hcA0 := cell_alloc0 wr (.int .i64 x) (.int .u64 y) 73
      have hB2 : BlkB (wr.alloc (.cells #[.int .i64 x, .int .u64 y] 73)) w.heap.size M := hB.below ((Below.refl _ _).alloc (Nat.le_refl _) _) hB.lt
      have hbel2 := hbel.alloc hs1 (.cells #[.int .i64 x, .int .u64 y] 73)
      go_wp2_with fail
      generalize wr.alloc (.cells #[.int .i64 x, .int .u64 y] 73) = W at *
      clear hcx hcy hB hbel
      by_cases hx : x < 1 ∨ 9 < x
      · have HN : Hid (She l n t 5) := Or.inr (Or.inl ⟨⟨ht0, ht4⟩, mk_out hlt HX.out hx, rfl⟩)
        refine (cJoinO _ _ _ hx).mono ?_
        rintro e w' ⟨rfl, hw⟩
        have hw := hw.symm
        subst hw
        clear hx
        go_wp2
        go_ret
        exact ⟨5, rfl, HN.out, hbel2⟩
      · obtain ⟨p, rfl⟩ : ∃ p : Nat, x = p := ⟨x.toNat, by omega⟩
        cases hm : M.getD p false with
        | true =>
          have HN : Hid (She l n t 5) := Or.inr (Or.inl ⟨⟨ht0, ht4⟩, mk_twice HM.out hlt HX.out (by omega) (by omega) hm, rfl⟩)
          refine (cJoinN _ _ _ _ hB2 hlM (by omega) (by omega) hm).mono ?_
          rintro e w' ⟨rfl, hw⟩
          have hw := hw.symm
          subst hw
          clear hm
          go_wp2
          go_ret
          exact ⟨5, rfl, HN.out, hbel2⟩
        | false =>
          have HM2 : Hid (Mk (fa l) (k + 1) (M.set p true)) := mk_step HM.out HX.out (by omega) (by omega) hm
          refine (cJoinY _ _ _ _ hB2 hlM (by omega) (by omega) hm).mono ?_
          rintro e w' ⟨rfl, rfl⟩
          have hB3 := hB2.set p true
          have hbel3 := below_grown hbel2 (grown_set W w.heap.size p (.bool true)) (Nat.le_refl _)
          generalize W.setCell ⟨w.heap.size, p, none⟩ (.bool true) = W3 at *
          clear hm
          go_wp2
          go_roundw
          case rel => exact ⟨k + 1, _, by omega, by go_num, HM2, hB3, hbel3⟩
          case measure => simp [intOf]; omega
    · have hkn : k = n := by omega
      subst hkn
      by_cases hkt : (k : Int) ≤ t
      · have HN : Hid (She l k t 4) := Or.inr (Or.inr (Or.inl ⟨⟨ht0, ht4⟩, HM.out.dis, hkt, rfl⟩))
        go_wp2
        go_ret
        exact ⟨4, rfl, HN.out, hbel⟩
      · have HN : Hid (She l k t 0) := Or.inr (Or.inr (Or.inr ⟨⟨ht0, ht4⟩, HM.out.dis, by omega, rfl⟩))
        go_wp2
        go_ret
        exact ⟨0, rfl, HN.out, hbel⟩

theorem cCheckS (a : Option Addr) (n c : Nat) (l : List (Int × Int)) (t : Int) (w : World) (h : RdS w a n c l) :
    Calls Try.prog 40 #[.int .i64 t, .slice a n c] w fun e w' => ∃ r, e = .returned (.int .i64 r) ∧ She l n t r ∧ Below w.heap.size w w' := by
  by_cases ht : t < 0 ∨ 4 < t
  · refine (cCheckA _ _ _ _ _ ht).mono ?_
    rintro e w' ⟨rfl, rfl⟩
    exact ⟨1, rfl, Or.inl ⟨ht, rfl⟩, Below.refl _ _⟩
  · exact cCheckB _ _ _ _ _ _ h (by omega) (by omega)
end
end Go.Proofs.Ytljlioglpaogdab
