/- poly.value, slices.Equal. · croftref.Product. -/
import Derived.Test.YtljlioglpaogdabToCheckC
import Derived.Test.YtljlioglpaogdabToGaussM
import Derived.Test.YtljlioglpaogdabToBadM
import Derived.Deep.QuietTactic
import Derived.BigQuiet
import Derived.Test.YtljlioglpaogdabToRefPolyC
namespace Go.Proofs.Ytljlioglpaogdab
set_option linter.unusedVariables false
set_option maxRecDepth 100000
set_option maxHeartbeats 8000000
section
open Crm Go.RowKit
theorem drewN_below {B : Nat} {a w : World} (h : Below B a w) (n : Nat) : Below B a (w.drewN n) := by
  induction n with
  | zero => exact h
  | succ n ih => exact ih.drew

theorem horner (xs : List Int) (x : Int) {m : Nat} {y z : Int} (h : m < xs.length) (hy : y = nm (ev (xs.drop (m + 1)) x)) (hz : xs.getD m 0 = z) : nm (nm (y * x) + z) = nm (ev (xs.drop m) x) := by
  rw [ev_drop xs x h, hy, hz, nm_addl]
  have : ∀ E : Int, nm (nm E * x + z) = nm (z + x * E) := fun E => by
    rw [Int.add_comm, ← nm_addr, nm_mull, nm_addr, Int.mul_comm x]
  exact this _

theorem cValueQ (a : Option Addr) (n c : Nat) (xs : List Int) (x : Int) (w : World) (h : Rd w a n c xs) (hx0 : 0 ≤ x) (hx1 : x ≤ 18446744073709551615) :
    Calls Try.prog 90 #[.slice a n c, .int .u64 x] w fun e w' => e = .returned (.int .u64 (nm (ev xs x))) ∧ ∃ q, w' = w.drewN q := by
  have hm := h.max
  have hcap := h.cap
  have hlen := h.len
  unfold maxLen at hm
  go_enter Try.func90, Try.ntmps90
  go_wp2
  go_loopw [5, 6] (fun s i wr => ∃ (k : Nat) (y : Int) (q : Nat), k ≤ n ∧ i = .int .i64 ((k : Int) - 1) ∧ s = .int .u64 y ∧ 0 ≤ y ∧ y ≤ 2147483646 ∧ Hid (y = nm (ev (xs.drop k) x)) ∧ wr = w.drewN q) (fun _ i _ => (intOf i + 1).toNat)
  case atStart => exact ⟨n, 0, 0, Nat.le_refl _, rfl, rfl, by omega, by omega, by rw [List.drop_of_length_le (by omega)]; exact rfl, rfl⟩
  case round =>
    obtain ⟨k, y, q, hk, rfl, rfl, hy0, hy1, HY, hwr⟩ := hrel
    have hbel : Below w.heap.size w wr := by rw [hwr]; exact drewN_below (Below.refl _ _) q
    have HW : Hid (wr = w.drewN q) := hwr
    clear hwr
    cases k with
    | zero =>
      go_wp2
      go_ret
      rw [← List.drop_zero (l := xs), ← HY.out]
      exact ⟨rfl, q, HW.out⟩
    | succ m =>
      obtain ⟨b, o, z, rfl, hb, HZ, hz0, hz1, hc⟩ := (h.below hbel).one (show m < n by omega)
      have hmul := nm_bd (y * x)
      have hk0 : (0 : Int) ≤ (m : Int) := by omega
      have hkn : (m : Int) < (n : Int) := by omega
      go_wp2
      go_quiet ((first | (go_at_call 61; exact Calls.quiet_of_same (fMul _ _ _ (by omega) (by omega) (by omega) (by omega))) | (go_at_call 58; exact Calls.quiet_of_same (fAdd _ _ _ (by omega) (by omega) (by omega) (by omega)))))
      all_goals
        go_wp2
        go_roundw
        case rel => exact ⟨m, _, _, by omega, by go_num, rfl, (nm_bd _).1, (nm_bd _).2, horner xs x (by omega) HY.out HZ.out, by rw [HW.out, World.drewN_drewN]⟩
        case measure => simp [intOf]

theorem cValue (a : Option Addr) (n c : Nat) (xs : List Int) (x : Int) (w : World) (h : Rd w a n c xs) (hx0 : 0 ≤ x) (hx1 : x ≤ 18446744073709551615) :
    Calls Try.prog 90 #[.slice a n c, .int .u64 x] w fun e w' => e = .returned (.int .u64 (nm (ev xs x))) ∧ Below w.heap.size w w' := by
  refine (cValueQ _ _ _ _ _ _ h hx0 hx1).mono ?_
  rintro e w' ⟨he, q, rfl⟩
  exact ⟨he, drewN_below (Below.refl _ _) q⟩
/-- The first k numbers of the product. -/
def cvk (ps qs : List Int) (k : Nat) : List Int := (List.range k).map fun q => nm (pc ps qs q ps.length)
theorem cvk_step (ps qs : List Int) (k : Nat) {v : Int} (e : v = nm (pc ps qs k ps.length)) : cvk ps qs k ++ [v] = cvk ps qs (k + 1) := by
  unfold cvk
  rw [List.range_succ, List.map_append, e]
  rfl
theorem cvk_bd (ps qs : List Int) (k : Nat) : ∀ x ∈ cvk ps qs k, 0 ≤ x ∧ x ≤ 18446744073709551615 := by
  intro x hx
  obtain ⟨k, _, rfl⟩ := List.mem_map.1 hx
  have := nm_bd (pc ps qs k ps.length)
  omega
/-- Behind the k-th number nothing is added. -/
theorem pc_more (ps qs : List Int) (k : Nat) : ∀ d, pc ps qs k (k + 1 + d) = pc ps qs k (k + 1)
  | 0 => rfl
  | d + 1 => by
    show pc ps qs k (k + 1 + d) + tm ps qs k (k + 1 + d) = _
    rw [pc_more ps qs k d, tm, if_neg (by omega), Int.add_zero]
theorem pc_end (ps qs : List Int) (k i : Nat) (h : i = k + 1 ∨ i = ps.length) (hi : i ≤ ps.length) (hk : i ≤ k + 1) : pc ps qs k i = pc ps qs k ps.length := by
  rcases h with rfl | rfl
  · have := pc_more ps qs k (ps.length - (k + 1))
    rw [show k + 1 + (ps.length - (k + 1)) = ps.length by omega] at this
    exact this.symm
  · rfl
theorem pc_hit {ps qs : List Int} {k i : Nat} {x y s : Int} (hk : i ≤ k) (hx : ps.getD i 0 = x) (hy : qs.getD (k - i) 0 = y) (hs : s = nm (pc ps qs k i)) : nm (s + nm (x * y)) = nm (pc ps qs k (i + 1)) := by
  rw [pc, tm, if_pos hk, hx, hy, hs, nm_addl, nm_addr]
theorem pc_miss {ps qs : List Int} {k i : Nat} (hk : qs.length ≤ k - i) : pc ps qs k (i + 1) = pc ps qs k i := by
  rw [pc, tm]
  have : qs.getD (k - i) 0 = 0 := by rw [List.getD_eq_getElem?_getD, List.getElem?_eq_none hk]; rfl
  split
  · rw [this, Int.mul_zero, Int.add_zero]
  · rw [Int.add_zero]

/-- Of two polynomials that are normal and not nought. -/
theorem rProduct1 (a : Option Addr) (n c : Nat) (xs : List Int) (b : Option Addr) (m d : Nat) (ys : List Int) (w : World) (h : Rd w a n c xs) (g : Rd w b m d ys) (hn : n ≤ 1000) (hm : m ≤ 1000) (hx : 0 < tl (nz xs) n) (hy : 0 < tl (nz ys) m) :
    Calls Try.prog 95 #[.slice a n c, .slice b m d] w fun e w' => ∃ a' c', e = .returned (.slice a' (tl (nz xs) n + tl (nz ys) m - 1) c') ∧ Rd w' a' (tl (nz xs) n + tl (nz ys) m - 1) c' (cvl (nrm xs) (nrm ys)) ∧ Below w.heap.size w w' ∧ ∀ x, a' = some x → w.heap.size ≤ x.block := by
  obtain ⟨i0, hi, hz0, hz1, hz2⟩ := info_parts infoR28
  have hn1 := tl_le (nz xs) n
  have hm1 := tl_le (nz ys) m
  have hlx := nrm_len xs
  have hly := nrm_len ys
  rw [h.len] at hlx
  rw [g.len] at hly
  have hn2 := h.len
  have hm2 := g.len
  obtain ⟨N, HN⟩ : ∃ N, Hid (tl (nz xs) n = N) := ⟨_, rfl⟩
  obtain ⟨M, HM⟩ : ∃ M, Hid (tl (nz ys) m = M) := ⟨_, rfl⟩
  rw [HN.out] at hx hn1 hlx
  rw [HM.out] at hy hm1 hly
  rw [HN.out, HM.out]
  have hN0 : ((N : Int) == 0) = false := by rw [beq_eq_false_iff_ne]; omega
  have hM0 : ((M : Int) == 0) = false := by rw [beq_eq_false_iff_ne]; omega
  go_enter Try.func95, Try.ntmps95
  go_wp2_with fail
  refine (rNormal _ _ _ _ _ h (by omega)).mono ?_
  rintro e w1 ⟨a1, c1, rfl, hr1, hb1, hf1⟩
  rw [HN.out] at hr1 ⊢
  go_wp2_with fail
  refine (rNormal _ _ _ _ _ (g.below hb1) (by omega)).mono ?_
  rintro e w2 ⟨a2, c2, rfl, hr2, hb2, hf2⟩
  rw [HM.out] at hr2 ⊢
  have hr1' := hr1.below hb2
  have hb12 : Below w.heap.size w w2 := hb1.trans (hb2.mono hb1.size)
  have hsz := hb12.size
  obtain ⟨X, HXX⟩ : ∃ X, Hid (nrm xs = X) := ⟨_, rfl⟩
  obtain ⟨Y, HYY⟩ : ∃ Y, Hid (nrm ys = Y) := ⟨_, rfl⟩
  rw [HXX.out] at hr1' hlx
  rw [HYY.out] at hr2 hly
  clear hr1 hb1 hb2 hf1 hf2 h g
  go_wp2
  go_loopw [5, 6] (fun v i wr => ∃ k : Nat, k ≤ N + M - 1 ∧ i = .int .i64 k ∧ wr.ownsRow w2.heap.size 28 1 v k ((cvk X Y k).map (Value.int .u64)) ∧ Below w2.heap.size w2 wr) (fun _ i _ => N + M - 1 - (intOf i).toNat)
  case atStart => exact ⟨0, Nat.zero_le _, rfl, World.ownsRow_nil _ _ _ _, Below.refl _ _⟩
  case round =>
    obtain ⟨k, hk, rfl, hown, hbel⟩ := hrel
    obtain ⟨wo, hwo⟩ : ∃ wo, wo = wr := ⟨_, rfl⟩
    subst hwo
    by_cases hlt : k < N + M - 1
    · go_wp2
      go_loopw [7, 8] (fun s i wr => ∃ (j : Nat) (y : Int), j ≤ N ∧ j ≤ k + 1 ∧ i = .int .i64 j ∧ s = .int .u64 y ∧ 0 ≤ y ∧ y ≤ 2147483646 ∧ Hid (y = nm (pc X Y k j)) ∧ Below wo.heap.size wo wr) (fun _ i _ => N - (intOf i).toNat)
      case atStart => exact ⟨0, 0, Nat.zero_le _, Nat.zero_le _, rfl, rfl, by omega, by omega, rfl, Below.refl _ _⟩
      case round =>
        obtain ⟨j, y, hj, hjk, rfl, rfl, hy0, hy1, HY, hbq⟩ := hrel
        by_cases h1 : j ≤ k
        · by_cases h2 : j < N
          · by_cases h3 : k - j < M
            · have hbw : Below w2.heap.size w2 wr := hbel.trans (hbq.mono hbel.size)
              obtain ⟨b1, o1, x, rfl, hbb, HX, hx0, hx1, hcx⟩ := (hr1'.below hbw).one h2
              obtain ⟨b2, o2, z, rfl, hbb2, HZ, hz00, hz01, hcz⟩ := (hr2.below hbw).one h3
              have hmul := nm_bd (x * z)
              have hsub : ((k : Int) - (j : Int)).toNat = k - j := by omega
              have hs1 : (0 : Int) ≤ (k : Int) - (j : Int) := by omega
              have hs2 : (k : Int) - (j : Int) < (M : Int) := by omega
              clear hbw
              go_wp2
              go_quiet ((first | (go_at_call 47; exact Calls.quiet_of_same (rMul _ _ _ (by omega) (by omega) (by omega) (by omega))) | (go_at_call 46; exact Calls.quiet_of_same (rAdd _ _ _ (by omega) (by omega) (by omega) (by omega)))))
              all_goals
                go_wp2
                go_roundw
                case rel => exact ⟨j + 1, _, by omega, by omega, by go_num, rfl, (nm_bd _).1, (nm_bd _).2, pc_hit h1 HX.out HZ.out HY.out, drewN_below hbq _⟩
                case measure => simp [intOf]; omega
            · go_wp2
              go_roundw
              case rel => exact ⟨j + 1, _, by omega, by omega, by go_num, rfl, hy0, hy1, by rw [pc_miss (by omega)]; exact HY.out, hbq⟩
              case measure => simp [intOf]; omega
          · have HV : Hid (y = nm (pc X Y k X.length)) := by rw [← pc_end X Y k j (.inr (by omega)) (by omega) (by omega)]; exact HY.out
            have hown1 := own_below hown hbq
            have hbel1 : Below w2.heap.size w2 wr := hbel.trans (hbq.mono hbel.size)
            clear hown hbel hbq
            have hs1 := hbel1.size
            go_wp2_with (at_builtin; refine wpList_app1 Try.underlying23 infoR28 _ rfl _ _ rfl w2.heap.size _ _ _ rfl hown1 _ rfl (by omega) (by omega) ?_; intro v' w3 hown3 hbel3; rw [cvk_step X Y k HV.out] at hown3; have hbel4 := hbel1.trans hbel3; clear hown1 hbel1 hbel3)
            go_roundw
            case rel => exact ⟨k + 1, by omega, by go_num, hown3, hbel4⟩
            case measure => simp [intOf]; omega
        · have HV : Hid (y = nm (pc X Y k X.length)) := by rw [← pc_end X Y k j (.inl (by omega)) (by omega) (by omega)]; exact HY.out
          have hown1 := own_below hown hbq
          have hbel1 : Below w2.heap.size w2 wr := hbel.trans (hbq.mono hbel.size)
          clear hown hbel hbq
          have hs1 := hbel1.size
          go_wp2_with (at_builtin; refine wpList_app1 Try.underlying23 infoR28 _ rfl _ _ rfl w2.heap.size _ _ _ rfl hown1 _ rfl (by omega) (by omega) ?_; intro v' w3 hown3 hbel3; rw [cvk_step X Y k HV.out] at hown3; have hbel4 := hbel1.trans hbel3; clear hown1 hbel1 hbel3)
          go_roundw
          case rel => exact ⟨k + 1, by omega, by go_num, hown3, hbel4⟩
          case measure => simp [intOf]; omega
    · have hkn : k = N + M - 1 := by omega
      obtain ⟨a', c', rfl, hr, hfr⟩ := Rd.own hown (cvk_bd X Y k)
      have HE : Hid (cvl X Y = cvk X Y k) := by unfold Hid cvl cvk; rw [hlx, hly, hkn]
      have HK : Hid (N + M - 1 = k) := hkn.symm
      clear hkn
      go_wp2
      go_ret
      rw [HXX.out, HYY.out, HE.out, HK.out]
      exact ⟨a', c', rfl, hr, hb12.trans (hbel.mono hsz), fun x hx => Nat.le_trans hsz (hfr x hx)⟩

/-- Of two polynomials of which one is nought. -/
theorem rProduct0 (a : Option Addr) (n c : Nat) (xs : List Int) (b : Option Addr) (m d : Nat) (ys : List Int) (w : World) (h : Rd w a n c xs) (g : Rd w b m d ys) (hn : n ≤ 1000) (hm : m ≤ 1000) (hxy : tl (nz xs) n = 0 ∨ tl (nz ys) m = 0) :
    Calls Try.prog 95 #[.slice a n c, .slice b m d] w fun e w' => e = .returned (.slice none 0 0) ∧ Below w.heap.size w w' := by
  have hn1 := tl_le (nz xs) n
  have hm1 := tl_le (nz ys) m
  obtain ⟨N, HN⟩ : ∃ N, Hid (tl (nz xs) n = N) := ⟨_, rfl⟩
  obtain ⟨M, HM⟩ : ∃ M, Hid (tl (nz ys) m = M) := ⟨_, rfl⟩
  rw [HN.out] at hxy hn1
  rw [HM.out] at hxy hm1
  go_enter Try.func95, Try.ntmps95
  go_wp2_with fail
  refine (rNormal _ _ _ _ _ h (by omega)).mono ?_
  rintro e w1 ⟨a1, c1, rfl, hr1, hb1, hf1⟩
  rw [HN.out]
  go_wp2_with fail
  refine (rNormal _ _ _ _ _ (g.below hb1) (by omega)).mono ?_
  rintro e w2 ⟨a2, c2, rfl, hr2, hb2, hf2⟩
  rw [HM.out]
  have hb12 : Below w.heap.size w w2 := hb1.trans (hb2.mono hb1.size)
  clear hr1 hb1 hb2 hf1 hf2 h g hr2
  by_cases hN : N = 0
  · have hNb : ((N : Int) == 0) = true := by rw [beq_iff_eq]; omega
    clear hxy hN
    go_wp2
    go_ret
    exact ⟨rfl, hb12⟩
  · have hNb : ((N : Int) == 0) = false := by rw [beq_eq_false_iff_ne]; omega
    have hMb : ((M : Int) == 0) = true := by rw [beq_iff_eq]; omega
    clear hxy hN
    go_wp2
    go_ret
    exact ⟨rfl, hb12⟩
end
end Go.Proofs.Ytljlioglpaogdab
