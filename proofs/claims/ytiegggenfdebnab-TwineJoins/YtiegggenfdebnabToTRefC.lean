/- croftref.Neg, Pow, Inv. · croftref.Rows, rowOf, TwoNeed, number. -/
import Derived.Test.YtiegggenfdebnabToRefA
import Derived.Test.YtiegggenfdebnabToPlacedC
namespace Go.Proofs.Ytiegggenfdebnab
open Go.RowKit Crm

set_option maxRecDepth 100000 in
theorem rNeg (a : Int) (w : World) (h0 : 0 ≤ a) (h1 : a ≤ 18446744073709551615) :
    Calls Try.prog 71 #[.int .u64 a] w fun e w' => e = .returned (.int .u64 (nm (-a))) ∧ w' = w := by
  have ha := nm_bd a
  have HN : Hid (nm (-a) = nm (2147483647 - nm a)) := by unfold nm Hid; omega
  go_enter Try.func71, Try.ntmps71
  go_wp2_with (go_at_call 30; refine (rNorm _ _ (by omega) (by omega)).mono ?_; rintro e w' ⟨rfl, rfl⟩)
  go_ret
  rw [HN.out]
  exact ⟨rfl, rfl⟩

set_option maxRecDepth 100000 in
theorem rPow (a n : Int) (w : World) (h0 : 0 ≤ a) (h1 : a ≤ 18446744073709551615) (g0 : 0 ≤ n) (g1 : n ≤ 18446744073709551615) :
    Calls Try.prog 38 #[.int .u64 a, .int .u64 n] w fun e w' => e = .returned (.int .u64 (pw a n.toNat)) ∧ w' = w := by
  obtain ⟨N, rfl⟩ := Int.eq_ofNat_of_zero_le g0
  rw [Int.toNat_natCast]
  go_enter Try.func38, Try.ntmps38
  go_wp2
  go_loop [5, 6] (fun out i => ∃ (k : Nat) (o : Int), k ≤ 64 ∧ i = .int .i64 ((k : Int) - 1) ∧ out = .int .u64 o ∧ o = pw a (N / 2 ^ k)) (fun _ i => (intOf i + 1).toNat)
  case atStart =>
    refine ⟨64, 1, by omega, rfl, rfl, ?_⟩
    have : N / 2 ^ 64 = 0 := by omega
    rw [this, pw_zero]
  case round =>
    obtain ⟨k, o, hk, rfl, rfl, hr⟩ := hrel
    have ho : 0 ≤ o ∧ o ≤ 2147483646 := by rw [hr]; exact pw_bd _ _
    have HR : Hid (o = pw a (N / 2 ^ k)) := hr
    clear hr
    have hoo := nm_bd (o * o)
    have hooa := nm_bd (nm (o * o) * a)
    by_cases hlt : 0 < k
    · have hq : 0 ≤ (N : Int) / 2 ^ (k - 1) := Int.ediv_nonneg g0 (Int.le_of_lt (Int.pow_pos (by omega)))
      have hcast : ((N : Int) / 2 ^ (k - 1)) % 2 = ((N / 2 ^ (k - 1) % 2 : Nat) : Int) := by simp
      have HR2 : Hid (o = pw a (N / 2 ^ ((k - 1) + 1))) := by rw [Nat.sub_add_cancel hlt]; exact HR
      by_cases hbit : (N / 2 ^ (k - 1)) % 2 = 1
      · have hb1 : (((N : Int) / 2 ^ (k - 1)) % 2 == 1) = true := by rw [beq_iff_eq, hcast, hbit]; rfl
        have HB : Hid (nm (nm (o * o) * a) = pw a (N / 2 ^ (k - 1))) := pow_bit1 _ _ _ hbit o HR2.out
        clear hbit hcast
        go_wp2_with (go_at_call 36; refine (rMul _ _ _ (by omega) (by omega) (by omega) (by omega)).mono ?_; rintro e w' ⟨rfl, rfl⟩)
        go_round
        case rel => exact ⟨k - 1, _, by omega, by go_num, rfl, HB.out⟩
        case measure => simp [intOf]; omega
      · have hb1 : (((N : Int) / 2 ^ (k - 1)) % 2 == 1) = false := by rw [beq_eq_false_iff_ne, hcast]; omega
        have HB : Hid (nm (o * o) = pw a (N / 2 ^ (k - 1))) := pow_bit0 _ _ _ (by omega) o HR2.out
        clear hbit hcast
        go_wp2_with (go_at_call 36; refine (rMul _ _ _ (by omega) (by omega) (by omega) (by omega)).mono ?_; rintro e w' ⟨rfl, rfl⟩)
        go_round
        case rel => exact ⟨k - 1, _, by omega, by go_num, rfl, HB.out⟩
        case measure => simp [intOf]; omega
    · have HM : Hid (k = 0) := by unfold Hid; omega
      go_wp2
      go_ret
      have h := HR.out
      rw [HM.out, Nat.pow_zero, Nat.div_one] at h
      rw [h]
      exact ⟨rfl, rfl⟩

set_option maxRecDepth 100000 in
theorem rInv (a : Int) (w : World) (h0 : 0 ≤ a) (h1 : a ≤ 18446744073709551615) (hz : nm a ≠ 0) :
    Calls Try.prog 70 #[.int .u64 a] w fun e w' => e = .returned (.int .u64 (iv a)) ∧ w' = w := by
  have ha := nm_bd a
  have HZ : Hid (nm a ≠ 0) := hz
  clear hz
  go_enter Try.func70, Try.ntmps70
  go_wp2_with (go_at_call 30; refine (rNorm _ _ (by omega) (by omega)).mono ?_; rintro e w' ⟨rfl, rfl⟩)
  go_loop [3, 4, 5, 6] (fun vr vn vx vt => ∃ r n x t : Int, vr = .int .u64 r ∧ vn = .int .u64 n ∧ vx = .int .u64 x ∧ vt = .int .u64 t ∧ (0 ≤ r ∧ r ≤ 2147483647) ∧ (0 ≤ n ∧ n ≤ 2147483647) ∧ (0 ≤ x ∧ x ≤ 2147483646) ∧ (0 ≤ t ∧ t ≤ 2147483646) ∧ nm (x * a) = nm r ∧ nm (t * a) = nm n ∧ Nat.gcd r.toNat n.toNat = 1) (fun _ vn _ _ => (intOf vn).toNat)
  case atStart =>
    refine ⟨2147483647, nm a, 0, 1, rfl, rfl, rfl, rfl, by omega, by omega, by omega, by omega, ?_, ?_, cop_int HZ.out⟩
    · rw [Int.zero_mul]; rfl
    · rw [Int.one_mul, nm_nm]
  case round =>
    obtain ⟨r, n, x, t, rfl, rfl, rfl, rfl, hr, hn, hx, ht, e1, e2, e3⟩ := hrel
    by_cases hlt : 0 < n
    · obtain ⟨b1, b2, b3, b4, b5, b6⟩ := eu_bd hr.1 hlt
      have HG : Hid (Nat.gcd n.toNat (r - r / n * n).toNat = 1) := eu_gcd hr.1 hlt e3
      have HT : Hid (nm (nm (x - r / n * t) * a) = nm (r - r / n * n)) := eu_step e1 e2
      have HE : Hid (nm (x + nm (-nm (r / n * t))) = nm (x - r / n * t)) := by unfold Hid; rw [nm_addr]; generalize r / n * t = y; unfold nm; omega
      have H2 : Hid (nm (t * a) = nm n) := e2
      clear e1 e2 e3
      have c1 := nm_bd (r / n * t)
      have c2 := nm_bd (-nm (r / n * t))
      have c3 := nm_bd (x + nm (-nm (r / n * t)))
      have hne : (n != 0) = true := by rw [bne_iff_ne]; omega
      go_wp2_with (first | (go_at_call 36; refine (rMul _ _ _ (by omega) (by omega) (by omega) (by omega)).mono ?_; rintro e w' ⟨rfl, rfl⟩) | (go_at_call 71; refine (rNeg _ _ (by omega) (by omega)).mono ?_; rintro e w' ⟨rfl, rfl⟩) | (go_at_call 35; refine (rAdd _ _ _ (by omega) (by omega) (by omega) (by omega)).mono ?_; rintro e w' ⟨rfl, rfl⟩))
      go_round
      case rel => exact ⟨n, r - r / n * n, t, nm (x + nm (-nm (r / n * t))), rfl, rfl, rfl, rfl, by omega, by omega, ht, c3, H2.out, by rw [HE.out]; exact HT.out, HG.out⟩
      case measure => simp [intOf]; omega
    · have HM : Hid (n = 0) := by unfold Hid; omega
      have H1 : Hid (nm (x * a) = nm r) := e1
      have H3 : Hid (Nat.gcd r.toNat n.toNat = 1) := e3
      clear e1 e2 e3
      have hne : (n != 0) = false := by have := HM.out; rw [this]; rfl
      go_wp2
      go_ret
      have h3 := H3.out
      rw [HM.out] at h3
      rw [eu_end h3 hr.1 H1.out hx.1 hx.2]
      exact ⟨rfl, rfl⟩
end Go.Proofs.Ytiegggenfdebnab

namespace Go.Proofs.Ytiegggenfdebnab
open Go.RowKit Crm

set_option maxRecDepth 100000 in
set_option maxHeartbeats 1000000 in
theorem rRows (a : Option Addr) (n c : Nat) (l : List (Int × List Int)) (w : World) (h : RdW w a n c l) :
    Calls Try.prog 21 #[.slice a n c] w fun e w' => Tells (Rwk l n) w e w' := by
  have hlen := h.len
  have hcap := h.cap
  have hmax := h.max
  unfold maxLen at hmax
  go_enter Try.func21, Try.ntmps21
  go_wp2
  go_loopw [3] (fun i wr => ∃ k : Nat, k ≤ n ∧ i = .int .i64 k ∧ Hid (Rwk l k) ∧ Below w.heap.size w wr) (fun i _ => n - (intOf i).toNat)
  case atStart => exact ⟨0, Nat.zero_le _, rfl, rwk_zero _, Below.refl _ _⟩
  case round =>
    obtain ⟨k, hk, rfl, HK, hbel⟩ := hrel
    by_cases hlt : k < n
    · have hR := h.below hbel
      obtain ⟨b, o, x, ai, ni, ci, row, rfl, hbb, HX, HRow, hx0, hx1, hcx, hcr, hrow⟩ := hR.one hlt
      have hnl := hrow.len
      have hnc := hrow.cap
      have hnm := hrow.max
      unfold maxLen at hnm
      by_cases hx2 : x < 1 ∨ 9 < x
      · have HN : Hid (¬ Rwk l n) := fun hk => by have := (hk k hlt).1.1; rw [HX.out] at this; omega
        have HX2 : Hid (x < 1 ∨ 9 < x) := hx2
        clear hx2
        go_wp2_with (go_at_call 14; refine (rInN _ _ _ _ HX2.out).mono ?_; rintro e w' ⟨rfl, hw⟩; have hw := hw.symm; subst hw)
        go_ret
        exact .no HN.out hbel
      · by_cases hm2 : (ni : Int) < 1 ∨ 5 < (ni : Int)
        · have HN : Hid (¬ Rwk l n) := fun hk => by have := (hk k hlt).2; rw [HRow.out, hnl] at this; omega
          have HM2 : Hid ((ni : Int) < 1 ∨ 5 < (ni : Int)) := hm2
          clear hm2
          go_wp2_with (first | (go_at_call 14; refine (rInY _ _ _ _ (by omega) (by omega)).mono ?_; rintro e w' ⟨rfl, hw⟩; have hw := hw.symm; subst hw) | (go_at_call 14; refine (rInN _ _ _ _ HM2.out).mono ?_; rintro e w' ⟨rfl, hw⟩; have hw := hw.symm; subst hw))
          go_ret
          exact .no HN.out hbel
        · go_wp2_with (go_at_call 14; refine (rInY _ _ _ _ (by omega) (by omega)).mono ?_; rintro e w' ⟨rfl, hw⟩; have hw := hw.symm; subst hw)
          go_loopw [4] (fun i wr => ∃ m : Nat, m ≤ k ∧ i = .int .i64 m ∧ Hid (∀ j, j < m → ta l j ≠ x) ∧ Below w.heap.size w wr) (fun i _ => k - (intOf i).toNat)
          case atStart => exact ⟨0, Nat.zero_le _, rfl, fun j hj => by omega, hbel⟩
          case round =>
            obtain ⟨m, hm, rfl, HM, hbm⟩ := hrel
            by_cases hmk : m < k
            · have hR2 := h.below hbm
              obtain ⟨b', o', x', ai', ni', ci', row', e', hbb', HX', HRow', hx0', hx1', hcx', hcr', hrow'⟩ := hR2.one (show m < n by omega)
              simp only [Option.some.injEq, Addr.mk.injEq, and_true] at e'
              obtain ⟨rfl, rfl⟩ := e'
              obtain ⟨b'', o'', x'', ai'', ni'', ci'', row'', e'', _, HX'', _, _, _, hcx'', _, _⟩ := hR2.one hlt
              simp only [Option.some.injEq, Addr.mk.injEq, and_true] at e''
              obtain ⟨rfl, rfl⟩ := e''
              have e3 : x'' = x := HX''.out.symm.trans HX.out
              subst e3
              by_cases hxx : x' = x''
              · have HN : Hid (¬ Rwk l n) := fun hk => (hk k hlt).1.2 m hmk (by rw [HX'.out, HX.out]; exact hxx)
                have hxb : (x' == x'') = true := by rw [beq_iff_eq]; exact hxx
                clear hxx
                go_wp2
                go_region
                all_goals go_wp2
                all_goals
                  go_ret
                  exact .no HN.out (by first | exact hbm.drew | exact hbm.drew.drew)
              · have hxb : (x' == x'') = false := by rw [beq_eq_false_iff_ne]; exact hxx
                have HM2 : Hid (∀ j, j < m + 1 → ta l j ≠ x'') := fun j hj => by
                  by_cases e : j = m
                  · rw [e, HX'.out]; exact hxx
                  · exact HM.out j (by omega)
                clear hxx
                go_wp2
                go_region
                all_goals go_wp2
                all_goals
                  go_roundw
                  case rel => exact ⟨m + 1, by omega, by go_num, HM2, by first | exact hbm.drew | exact hbm.drew.drew⟩
                  case measure => simp [intOf]; omega
            · have hmk' : m = k := by omega
              subst hmk'
              have HK2 : Hid (Rwk l (m + 1)) := rwk_succ (m := ni) HK.out HX.out (by rw [HRow.out]; exact hnl) (by omega) (by omega) (by omega) (by omega) HM.out
              go_wp2
              go_roundw
              case rel => exact ⟨m + 1, by omega, by go_num, HK2, hbm⟩
              case measure => simp [intOf]; omega
    · have hkn : k = n := by omega
      subst hkn
      go_wp2
      go_ret
      exact .yes HK.out hbel

theorem two_cells {w : World} {g : Nat} {u v x y : Value} (h0 : w.cell? ⟨g, 0, none⟩ = some u) (h1 : w.cell? ⟨g, 1, none⟩ = some v) :
    ((w.setCell ⟨g, 0, none⟩ x).setCell ⟨g, 1, none⟩ y).cell? ⟨g, 0, none⟩ = some x ∧ ((w.setCell ⟨g, 0, none⟩ x).setCell ⟨g, 1, none⟩ y).cell? ⟨g, 1, none⟩ = some y := by
  refine ⟨?_, ?_⟩
  · rw [World.cell?_setCell_other _ _ _ _ (by simp)]
    exact World.cell?_setCell_same w _ x h0
  · exact World.cell?_setCell_same _ _ y (show (w.setCell ⟨g, 0, none⟩ x).cell? ⟨g, 1, none⟩ = some v by rw [World.cell?_setCell_other _ _ _ _ (by simp)]; exact h1)

/-- What rowOf gives. -/
def RowOf (l : List (Int × List Int)) (n : Nat) (x : Int) (w : World) (e : Ending) (w' : World) : Prop :=
  ((∃ r ai ni ci, r < n ∧ ta l r = x ∧ e = .returned (.tuple #[.agg #[.int .i64 x, .slice ai ni ci], .bool true]) ∧ Rd w' ai ni ci (tc l r)) ∨
   ((∀ r, r < n → ta l r ≠ x) ∧ e = .returned (.tuple #[.agg #[.int .i64 0, .slice none 0 0], .bool false]))) ∧ Below w.heap.size w w'

set_option maxRecDepth 100000 in
set_option maxHeartbeats 1000000 in
theorem rRowOf (a : Option Addr) (n c : Nat) (l : List (Int × List Int)) (x : Int) (w : World) (h : RdW w a n c l) :
    Calls Try.prog 44 #[.slice a n c, .int .i64 x] w fun e w' => RowOf l n x w e w' := by
  have hcap := h.cap
  have hmax := h.max
  unfold maxLen at hmax
  have hbA : Below w.heap.size w (w.alloc (.cells #[.int .i64 0, .slice none 0 0] 70)) := (Below.refl _ _).alloc (Nat.le_refl _) _
  have hc0 := cell_alloc0 w (.int .i64 0) (.slice none 0 0) 70
  have hc1 := cell_alloc1 w (.int .i64 0) (.slice none 0 0) 70
  have hf0 : ∀ o, (w.alloc (.cells #[.int .i64 0, .slice none 0 0] 70)).frozen? ⟨w.heap.size, o, none⟩ = false := fun o => frozen_of_row _ _ o _ _ (heap_alloc_new w _)
  have hf00 := hf0 0
  have hf01 := hf0 1
  clear hf0
  go_enter Try.func44, Try.ntmps44
  go_wp2
  generalize w.alloc (.cells #[.int .i64 0, .slice none 0 0] 70) = wA at *
  go_loopw [6] (fun i wr => ∃ k : Nat, k ≤ n ∧ i = .int .i64 k ∧ Hid (∀ r, r < k → ta l r ≠ x) ∧ wr = wA) (fun i _ => n - (intOf i).toNat)
  case atStart => exact ⟨0, Nat.zero_le _, rfl, fun r hr => by omega, rfl⟩
  case round =>
    obtain ⟨k, hk, rfl, HK, hw⟩ := hrel
    have hw := hw.symm
    subst hw
    by_cases hlt : k < n
    · obtain ⟨b, o, y, ai, ni, ci, row, rfl, hbb, HX, HRow, hx0, hx1, hcx, hcr, hrow⟩ := h.one hlt
      have hcxA : wA.cell? ⟨b, o + k * 2, none⟩ = some (.int .i64 y) := by rw [hbA.cell hbb]; exact hcx
      have hcrA : wA.cell? ⟨b, o + k * 2 + 1, none⟩ = some (.slice ai ni ci) := by rw [hbA.cell hbb]; exact hcr
      clear hcx hcr
      by_cases hxy : y = x
      · subst hxy
        have hbB : Below w.heap.size w ((wA.setCell ⟨w.heap.size, 0, none⟩ (.int .i64 y)).setCell ⟨w.heap.size, 1, none⟩ (.slice ai ni ci)) := (hbA.setCell (p := ⟨w.heap.size, 0, none⟩) (Nat.le_refl _) _).setCell (p := ⟨w.heap.size, 1, none⟩) (Nat.le_refl _) _
        obtain ⟨d0, d1⟩ := two_cells (x := .int .i64 y) (y := .slice ai ni ci) hc0 hc1
        have HR : Hid (Rd ((wA.setCell ⟨w.heap.size, 0, none⟩ (.int .i64 y)).setCell ⟨w.heap.size, 1, none⟩ (.slice ai ni ci)) ai ni ci (tc l k)) := by
          unfold Hid; rw [HRow.out]; exact hrow.below hbB
        have HB : Hid (_) := hbB
        clear hbB hrow
        go_wp2
        generalize (wA.setCell ⟨w.heap.size, 0, none⟩ (.int .i64 y)).setCell ⟨w.heap.size, 1, none⟩ (.slice ai ni ci) = W at *
        exact bodyPost_ret (v := .tuple #[.agg #[.int .i64 y, .slice ai ni ci], .bool true]) (by simp [results, Try.results44, go_sem, d0, d1]) rfl ⟨.inl ⟨k, ai, ni, ci, hlt, HX.out, rfl, HR.out⟩, HB.out⟩
      · have hxb : (y == x) = false := by rw [beq_eq_false_iff_ne]; exact hxy
        have HK2 : Hid (∀ r, r < k + 1 → ta l r ≠ x) := fun r hr => by
          by_cases e : r = k
          · rw [e, HX.out]; exact hxy
          · exact HK.out r (by omega)
        clear hxy
        go_wp2
        go_roundw
        case rel => exact ⟨k + 1, by omega, by go_num, HK2, by trivial⟩
        case measure => simp [intOf]; omega
    · have hkn : k = n := by omega
      subst hkn
      obtain ⟨d0, d1⟩ := two_cells (x := .int .i64 0) (y := .slice none 0 0) hc0 hc1
      have hbB : Below w.heap.size w ((wA.setCell ⟨w.heap.size, 0, none⟩ (.int .i64 0)).setCell ⟨w.heap.size, 1, none⟩ (.slice none 0 0)) := (hbA.setCell (p := ⟨w.heap.size, 0, none⟩) (Nat.le_refl _) _).setCell (p := ⟨w.heap.size, 1, none⟩) (Nat.le_refl _) _
      have HB : Hid (_) := hbB
      clear hbB
      go_wp2
      generalize (wA.setCell ⟨w.heap.size, 0, none⟩ (.int .i64 0)).setCell ⟨w.heap.size, 1, none⟩ (.slice none 0 0) = W at *
      exact bodyPost_ret (v := .tuple #[.agg #[.int .i64 0, .slice none 0 0], .bool false]) (by simp [results, Try.results44, go_sem, d0, d1]) rfl ⟨.inr ⟨HK.out, rfl⟩, HB.out⟩

/-- How many numbers there are besides: by the loop. -/
def nd2 (t : Int) : Nat → Int
  | 0 => -1
  | k + 1 => nd2 t k + (t - k + 1)
theorem nd2_bd : ∀ t, t < 5 → ∀ k, k < 6 → k ≤ t + 1 → -1 ≤ nd2 (t : Nat) k ∧ nd2 (t : Nat) k ≤ 100 := by decide

set_option maxRecDepth 100000 in
theorem rTwoNeed (t : Nat) (w : World) (ht : t ≤ 4) :
    Calls Try.prog 15 #[.int .i64 t] w fun e w' => e = .returned (.int .i64 ((t + 1) * (t + 2) / 2 - 1 : Nat)) ∧ w' = w := by
  have hcase : t = 0 ∨ t = 1 ∨ t = 2 ∨ t = 3 ∨ t = 4 := by omega
  go_enter Try.func15, Try.ntmps15
  go_wp2
  go_loop [3, 4] (fun v i => ∃ k : Nat, k ≤ t + 1 ∧ i = .int .i64 k ∧ ∃ z : Int, v = .int .i64 z ∧ -1 ≤ z ∧ z ≤ 100 ∧ Hid (z = nd2 t k)) (fun _ i => t + 1 - (intOf i).toNat)
  case atStart => exact ⟨0, Nat.zero_le _, rfl, -1, rfl, by omega, by omega, rfl⟩
  case round =>
    obtain ⟨k, hk, rfl, z, rfl, hz0, hz1, HZ⟩ := hrel
    by_cases hlt : k < t + 1
    · have hzs : z + ((t : Int) - k + 1) = nd2 t (k + 1) := by rw [HZ.out]; rfl
      have hzb : -1 ≤ z + ((t : Int) - k + 1) ∧ z + ((t : Int) - k + 1) ≤ 100 := by rw [hzs]; exact nd2_bd t (by omega) (k + 1) (by omega) (by omega)
      have HZ2 : Hid (z + ((t : Int) - k + 1) = nd2 t (k + 1)) := hzs
      clear hzs
      go_wp2
      go_round
      case rel => exact ⟨k + 1, by omega, by go_num, _, rfl, hzb.1, hzb.2, HZ2⟩
      case measure => simp [intOf]; omega
    · have hkt : k = t + 1 := by omega
      subst hkt
      have HE : Hid (z = ((t + 1) * (t + 2) / 2 - 1 : Nat)) := by
        unfold Hid
        rw [HZ.out]
        rcases hcase with rfl | rfl | rfl | rfl | rfl <;> decide
      go_wp2
      go_ret
      rw [HE.out]
      exact ⟨rfl, rfl⟩
end Go.Proofs.Ytiegggenfdebnab
