/- poly.placed. · croftref.In, croftref.Ats. · croftref.Norm, Add, Mul: the same rests, by other roads. · croftref.Neg, Pow, Inv. · croftref.Rows, rowOf, TwoNeed, number. · Slices of ints that are read; shares that a call gathers. · Two lists of shares that a call gathers in turn; one behind the other. · Lists of rows (api.Row) that a call gathers. · croftref.Normal, croftref.Eval. -/
import Derived.Test.YtljlioglpaogdabToBadM
import Derived.Test.YtljlioglpaogdabToGaussM
import Derived.Test.YtljlioglpaogdabProg
import Derived.WalkKit
import Derived.WalkSpells
import Derived.WalkLawsBesides
import Derived.Laws.AppendOwnNone
namespace Go.Proofs.Ytljlioglpaogdab
set_option linter.unusedVariables false
set_option maxRecDepth 100000
set_option maxHeartbeats 8000000
section
open Crm Go.RowKit
/-- A call that tells whether p holds, and turns nothing that was there. -/
def Tells (p : Prop) (w : World) (e : Ending) (w' : World) : Prop := ∃ r : Bool, e = .returned (.bool r) ∧ (r = true ↔ p) ∧ Below w.heap.size w w'
theorem Tells.yes {p : Prop} {w w' : World} (h : p) (hb : Below w.heap.size w w') : Tells p w (.returned (.bool true)) w' := ⟨true, rfl, by simp [h], hb⟩
theorem Tells.no {p : Prop} {w w' : World} (h : ¬ p) (hb : Below w.heap.size w w') : Tells p w (.returned (.bool false)) w' := ⟨false, rfl, by simp [h], hb⟩

/-- The variable that a round makes for a share. -/
theorem cell_alloc0 (w : World) (x y : Value) (t : TypeId) : (w.alloc (.cells #[x, y] t)).cell? ⟨w.heap.size, 0, none⟩ = some x := by
  rw [cell_of_row _ _ _ #[x, y] t (0, 0) (heap_alloc_new w _)]; rfl
theorem cell_alloc1 (w : World) (x y : Value) (t : TypeId) : (w.alloc (.cells #[x, y] t)).cell? ⟨w.heap.size, 1, none⟩ = some y := by
  rw [cell_of_row _ _ _ #[x, y] t (0, 0) (heap_alloc_new w _)]; rfl

theorem cPlaced (a : Option Addr) (n c : Nat) (l : List (Int × Int)) (w : World) (h : RdS w a n c l) (hn : n ≤ 1000) :
    Calls Try.prog 97 #[.slice a n c] w fun e w' => Tells (okk l n) w e w' := by
  have hlen := h.len
  have hcap := h.cap
  have hmax := h.max
  unfold maxLen at hmax
  go_enter Try.func97, Try.ntmps97
  go_wp2
  go_loopw [9] (fun i wr => ∃ k : Nat, k ≤ n ∧ i = .int .i64 k ∧ Hid (okk l k) ∧ Below w.heap.size w wr) (fun i _ => n - (intOf i).toNat)
  case atStart => exact ⟨0, Nat.zero_le _, rfl, okk_zero l, Below.refl _ _⟩
  case round =>
    obtain ⟨k, hk, rfl, HK, hbel⟩ := hrel
    obtain ⟨wo, hwo⟩ : ∃ wo, wo = wr := ⟨_, rfl⟩
    subst hwo
    have hs1 := hbel.size
    by_cases hlt : k < n
    · have hR := h.below hbel
      obtain ⟨b, o, x, y, rfl, hbb, HX, HY, hx0, hx1, hy0, hy1, hcx, hcy⟩ := hR.one hlt
      by_cases hx2 : x < 1
      · have HN : Hid (¬ okk l n) := fun hk => by have := (hk k hlt).1.1; rw [HX.out] at this; omega
        go_wp2
        go_ret
        exact .no HN.out (hbel.alloc hs1 _)
      · by_cases hx3 : 2147483647 ≤ x
        · have HN : Hid (¬ okk l n) := fun hk => by have := (hk k hlt).1.2; rw [HX.out] at this; omega
          go_wp2
          go_ret
          exact .no HN.out (hbel.alloc hs1 _)
        · go_wp2
          go_loopw [27] (fun i wr => ∃ m : Nat, m ≤ k ∧ i = .int .i64 m ∧ Hid (∀ j, j < m → (l.getD j (0, 0)).1 ≠ x) ∧ Below (wo.heap.size + 1) (wo.alloc (.cells #[.int .i64 x, .int .u64 y] 73)) wr) (fun i _ => k - (intOf i).toNat)
          case atStart => exact ⟨0, Nat.zero_le _, rfl, fun j hj => by omega, Below.refl _ _⟩
          case round =>
            obtain ⟨m, hm, rfl, HM, hbm⟩ := hrel
            have hbw : Below w.heap.size w wr := (hbel.alloc hs1 _).trans (hbm.mono (by omega))
            have hs2 := hbw.size
            have hs3 : wo.heap.size + 1 ≤ wr.heap.size := by have := hbm.size; simp at this; omega
            have hcs : wr.cell? ⟨wo.heap.size, 0, none⟩ = some (.int .i64 x) := by rw [hbm.cell (by simp)]; exact cell_alloc0 _ _ _ _
            have hcs2 : ∀ ob : Obj, (wr.alloc ob).cell? ⟨wo.heap.size, 0, none⟩ = some (.int .i64 x) := fun ob => by
              rw [World.cell?_of_block (w := wr) (Below.heap_alloc _ _ _ (by simp only; omega))]; exact hcs
            by_cases hmk : m < k
            · have hR2 := h.below hbw
              obtain ⟨b', o', x', y', e', hbb', HX', HY', hx0', hx1', hy0', hy1', hcx', hcy'⟩ := hR2.one (show m < n by omega)
              simp only [Option.some.injEq, Addr.mk.injEq, and_true] at e'
              obtain ⟨rfl, rfl⟩ := e'
              by_cases hxx : x' = x
              · have HN : Hid (¬ okk l n) := fun hk => (hk k hlt).2 m hmk (by rw [HX'.out, HX.out]; exact hxx)
                have hxb : (x' == x) = true := by rw [beq_iff_eq]; exact hxx
                clear hxx
                go_wp2
                go_ret
                exact .no HN.out (hbw.alloc hs2 _)
              · have hxb : (x' == x) = false := by rw [beq_eq_false_iff_ne]; exact hxx
                have HM2 : Hid (∀ j, j < m + 1 → (l.getD j (0, 0)).1 ≠ x) := fun j hj => by
                  by_cases e : j = m
                  · rw [e, HX'.out]; exact hxx
                  · exact HM.out j (by omega)
                clear hxx
                go_wp2
                go_roundw
                case rel => exact ⟨m + 1, by omega, by go_num, HM2, hbm.alloc (by omega) _⟩
                case measure => simp [intOf]; omega
            · have hmk' : m = k := by omega
              subst hmk'
              have HK2 : Hid (okk l (m + 1)) := okk_succ HK.out HX.out (by omega) (by omega) HM.out
              go_wp2
              go_roundw
              case rel => exact ⟨m + 1, by omega, by go_num, HK2, hbw⟩
              case measure => simp [intOf]; omega
    · have hkn : k = n := by omega
      subst hkn
      go_wp2
      go_ret
      exact .yes HK.out hbel
theorem rInY (n lo hi : Int) (w : World) (h1 : lo ≤ n) (h2 : n ≤ hi) :
    Calls Try.prog 16 #[.int .i64 n, .int .i64 lo, .int .i64 hi] w fun e w' => e = .returned (.bool true) ∧ w' = w := by
  go_enter Try.func16, Try.ntmps16
  go_wp2
  go_ret
  exact ⟨rfl, rfl⟩
theorem rInN (n lo hi : Int) (w : World) (h : n < lo ∨ hi < n) :
    Calls Try.prog 16 #[.int .i64 n, .int .i64 lo, .int .i64 hi] w fun e w' => e = .returned (.bool false) ∧ w' = w := by
  by_cases h1 : n < lo
  · clear h
    go_enter Try.func16, Try.ntmps16
    go_wp2
    go_ret
    exact ⟨rfl, rfl⟩
  · have h2 : hi < n := by omega
    have hd : decide (n ≤ hi) = false := by simp; omega
    clear h
    go_enter Try.func16, Try.ntmps16
    go_wp2
    go_ret
    exact ⟨rfl, rfl⟩
theorem rNorm (a : Int) (w : World) (h0 : 0 ≤ a) (h1 : a ≤ 18446744073709551615) :
    Calls Try.prog 41 #[.int .u64 a] w fun e w' => e = .returned (.int .u64 (nm a)) ∧ w' = w := by
  have HN : Hid (nm a = a - a / 2147483647 * 2147483647) := by unfold nm Hid; omega
  go_enter Try.func41, Try.ntmps41
  go_wp2
  go_ret
  rw [HN.out]
  exact ⟨rfl, rfl⟩

theorem rAdd (a b : Int) (w : World) (h0 : 0 ≤ a) (h1 : a ≤ 18446744073709551615) (g0 : 0 ≤ b) (g1 : b ≤ 18446744073709551615) :
    Calls Try.prog 46 #[.int .u64 a, .int .u64 b] w fun e w' => e = .returned (.int .u64 (nm (a + b))) ∧ w' = w := by
  have ha := nm_bd a
  have hb := nm_bd b
  have HN : Hid (nm (a + b) = nm (nm a + nm b)) := by rw [nm_addl, nm_addr]; exact rfl
  go_enter Try.func46, Try.ntmps46
  go_wp2_with (go_at_call 41; refine (rNorm _ _ (by omega) (by omega)).mono ?_; rintro e w' ⟨rfl, rfl⟩)
  go_ret
  rw [HN.out]
  exact ⟨rfl, rfl⟩

theorem rMul (a b : Int) (w : World) (h0 : 0 ≤ a) (h1 : a ≤ 18446744073709551615) (g0 : 0 ≤ b) (g1 : b ≤ 18446744073709551615) :
    Calls Try.prog 47 #[.int .u64 a, .int .u64 b] w fun e w' => e = .returned (.int .u64 (nm (a * b))) ∧ w' = w := by
  have ha := nm_bd a
  have hb := nm_bd b
  have HE : Hid (nm (a * b) = nm (nm a * nm b)) := by rw [nm_mull, nm_mulr]; exact rfl
  go_enter Try.func47, Try.ntmps47
  go_wp2_with (go_at_call 41; refine (rNorm _ _ (by omega) (by omega)).mono ?_; rintro e w' ⟨rfl, rfl⟩)
  go_loop [5, 6] (fun out i => ∃ (k : Nat) (o : Int), k ≤ 31 ∧ i = .int .i64 ((k : Int) - 1) ∧ out = .int .u64 o ∧ o = nm (nm a * (nm b / 2 ^ k))) (fun _ i => (intOf i + 1).toNat)
  case atStart =>
    refine ⟨31, 0, by omega, rfl, rfl, ?_⟩
    have : nm b / 2 ^ 31 = 0 := by omega
    rw [this, Int.mul_zero]; rfl
  case round =>
    obtain ⟨k, o, hk, rfl, rfl, hr⟩ := hrel
    have ho : 0 ≤ o ∧ o ≤ 2147483646 := by rw [hr]; exact nm_bd _
    have HR : Hid (o = nm (nm a * (nm b / 2 ^ k))) := hr
    clear hr
    have hoo := nm_bd (o + o)
    have hooa := nm_bd (nm (o + o) + nm a)
    by_cases hlt : 0 < k
    · have hq : 0 ≤ nm b / 2 ^ (k - 1) := Int.ediv_nonneg hb.1 (Int.le_of_lt (Int.pow_pos (by omega)))
      have HR2 : Hid (o = nm (nm a * (nm b / 2 ^ ((k - 1) + 1)))) := by rw [Nat.sub_add_cancel hlt]; exact HR
      by_cases hbit : (nm b / 2 ^ (k - 1)) % 2 = 1
      · have hb1 : ((nm b / 2 ^ (k - 1)) % 2 == 1) = true := by rw [beq_iff_eq]; exact hbit
        have HB : Hid (nm (nm (o + o) + nm a) = nm (nm a * (nm b / 2 ^ (k - 1)))) := mul_bit1 _ _ _ hbit o HR2.out
        clear hbit
        go_wp2_with (go_at_call 41; refine (rNorm _ _ (by omega) (by omega)).mono ?_; rintro e w' ⟨rfl, rfl⟩)
        go_round
        case rel => exact ⟨k - 1, _, by omega, by go_num, rfl, HB.out⟩
        case measure => simp [intOf]; omega
      · have hb1 : ((nm b / 2 ^ (k - 1)) % 2 == 1) = false := by rw [beq_eq_false_iff_ne]; exact hbit
        have HB : Hid (nm (o + o) = nm (nm a * (nm b / 2 ^ (k - 1)))) := mul_bit0 _ _ _ (by omega) o HR2.out
        clear hbit
        go_wp2_with (go_at_call 41; refine (rNorm _ _ (by omega) (by omega)).mono ?_; rintro e w' ⟨rfl, rfl⟩)
        go_round
        case rel => exact ⟨k - 1, _, by omega, by go_num, rfl, HB.out⟩
        case measure => simp [intOf]; omega
    · have HM : Hid (k = 0) := by unfold Hid; omega
      go_wp2
      go_ret
      have h := HR.out
      rw [HM.out, Int.pow_zero, Int.ediv_one, ← HE.out] at h
      rw [h]
      exact ⟨rfl, rfl⟩
theorem rNeg (a : Int) (w : World) (h0 : 0 ≤ a) (h1 : a ≤ 18446744073709551615) :
    Calls Try.prog 94 #[.int .u64 a] w fun e w' => e = .returned (.int .u64 (nm (-a))) ∧ w' = w := by
  have ha := nm_bd a
  have HN : Hid (nm (-a) = nm (2147483647 - nm a)) := by unfold nm Hid; omega
  go_enter Try.func94, Try.ntmps94
  go_wp2_with (go_at_call 41; refine (rNorm _ _ (by omega) (by omega)).mono ?_; rintro e w' ⟨rfl, rfl⟩)
  go_ret
  rw [HN.out]
  exact ⟨rfl, rfl⟩

theorem rInv (a : Int) (w : World) (h0 : 0 ≤ a) (h1 : a ≤ 18446744073709551615) (hz : nm a ≠ 0) :
    Calls Try.prog 93 #[.int .u64 a] w fun e w' => e = .returned (.int .u64 (iv a)) ∧ w' = w := by
  have ha := nm_bd a
  have HZ : Hid (nm a ≠ 0) := hz
  clear hz
  go_enter Try.func93, Try.ntmps93
  go_wp2_with (go_at_call 41; refine (rNorm _ _ (by omega) (by omega)).mono ?_; rintro e w' ⟨rfl, rfl⟩)
  go_loop [3, 4, 5, 6] (fun vr vn vx vt => ∃ r n x t : Int, vr = .int .u64 r ∧ vn = .int .u64 n ∧ vx = .int .u64 x ∧ vt = .int .u64 t ∧ (0 ≤ r ∧ r ≤ 2147483647) ∧ (0 ≤ n ∧ n ≤ 2147483647) ∧ (0 ≤ x ∧ x ≤ 2147483646) ∧ (0 ≤ t ∧ t ≤ 2147483646) ∧ nm (x * a) = nm r ∧ nm (t * a) = nm n ∧ Nat.gcd r.toNat n.toNat = 1) (fun _ vn _ _ => (intOf vn).toNat)
  case atStart =>
    refine ⟨2147483647, nm a, 0, 1, rfl, rfl, rfl, rfl, by omega, by omega, by omega, by omega, ?_, ?_, cop_int HZ.out⟩
    · rw [Int.zero_mul]; rfl
    · rw [Int.one_mul, nm_nm]
  case round =>
    obtain ⟨r, n, x, t, rfl, rfl, rfl, rfl, hr, hn, hx, ht, e1, e2, e3⟩ := hrel
    by_cases hlt : 0 < n
    · obtain ⟨b1, b2, b3, b4, b5, b6⟩ := eu_bd hr.1 hlt
      have HG : Hid (Nat.gcd n.toNat (r - r / n * n).toNat = 1) := eu_gcd hr.1 hlt e3
      have HT : Hid (nm (nm (x - r / n * t) * a) = nm (r - r / n * n)) := eu_step e1 e2
      have HE : Hid (nm (x + nm (-nm (r / n * t))) = nm (x - r / n * t)) := by unfold Hid; rw [nm_addr]; generalize r / n * t = y; unfold nm; omega
      have H2 : Hid (nm (t * a) = nm n) := e2
      clear e1 e2 e3
      have c1 := nm_bd (r / n * t)
      have c2 := nm_bd (-nm (r / n * t))
      have c3 := nm_bd (x + nm (-nm (r / n * t)))
      have hne : (n != 0) = true := by rw [bne_iff_ne]; omega
      go_wp2_with (first | (go_at_call 47; refine (rMul _ _ _ (by omega) (by omega) (by omega) (by omega)).mono ?_; rintro e w' ⟨rfl, rfl⟩) | (go_at_call 94; refine (rNeg _ _ (by omega) (by omega)).mono ?_; rintro e w' ⟨rfl, rfl⟩) | (go_at_call 46; refine (rAdd _ _ _ (by omega) (by omega) (by omega) (by omega)).mono ?_; rintro e w' ⟨rfl, rfl⟩))
      go_round
      case rel => exact ⟨n, r - r / n * n, t, nm (x + nm (-nm (r / n * t))), rfl, rfl, rfl, rfl, by omega, by omega, ht, c3, H2.out, by rw [HE.out]; exact HT.out, HG.out⟩
      case measure => simp [intOf]; omega
    · have HM : Hid (n = 0) := by unfold Hid; omega
      have H1 : Hid (nm (x * a) = nm r) := e1
      have H3 : Hid (Nat.gcd r.toNat n.toNat = 1) := e3
      clear e1 e2 e3
      have hne : (n != 0) = false := by have := HM.out; rw [this]; rfl
      go_wp2
      go_ret
      have h3 := H3.out
      rw [HM.out] at h3
      rw [eu_end h3 hr.1 H1.out hx.1 hx.2]
      exact ⟨rfl, rfl⟩
theorem rRows (a : Option Addr) (n c : Nat) (l : List (Int × List Int)) (w : World) (h : RdW w a n c l) :
    Calls Try.prog 23 #[.slice a n c] w fun e w' => Tells (Rwk l n) w e w' := by
  have hlen := h.len
  have hcap := h.cap
  have hmax := h.max
  unfold maxLen at hmax
  go_enter Try.func23, Try.ntmps23
  go_wp2
  go_loopw [3] (fun i wr => ∃ k : Nat, k ≤ n ∧ i = .int .i64 k ∧ Hid (Rwk l k) ∧ Below w.heap.size w wr) (fun i _ => n - (intOf i).toNat)
  case atStart => exact ⟨0, Nat.zero_le _, rfl, rwk_zero _, Below.refl _ _⟩
  case round =>
    obtain ⟨k, hk, rfl, HK, hbel⟩ := hrel
    by_cases hlt : k < n
    · have hR := h.below hbel
      obtain ⟨b, o, x, ai, ni, ci, row, rfl, hbb, HX, HRow, hx0, hx1, hcx, hcr, hrow⟩ := hR.one hlt
      have hnl := hrow.len
      have hnc := hrow.cap
      have hnm := hrow.max
      unfold maxLen at hnm
      by_cases hx2 : x < 1 ∨ 9 < x
      · have HN : Hid (¬ Rwk l n) := fun hk => by have := (hk k hlt).1.1; rw [HX.out] at this; omega
        have HX2 : Hid (x < 1 ∨ 9 < x) := hx2
        clear hx2
        go_wp2_with (go_at_call 16; refine (rInN _ _ _ _ HX2.out).mono ?_; rintro e w' ⟨rfl, hw⟩; have hw := hw.symm; subst hw)
        go_ret
        exact .no HN.out hbel
      · by_cases hm2 : (ni : Int) < 1 ∨ 5 < (ni : Int)
        · have HN : Hid (¬ Rwk l n) := fun hk => by have := (hk k hlt).2; rw [HRow.out, hnl] at this; omega
          have HM2 : Hid ((ni : Int) < 1 ∨ 5 < (ni : Int)) := hm2
          clear hm2
          go_wp2_with (first | (go_at_call 16; refine (rInY _ _ _ _ (by omega) (by omega)).mono ?_; rintro e w' ⟨rfl, hw⟩; have hw := hw.symm; subst hw) | (go_at_call 16; refine (rInN _ _ _ _ HM2.out).mono ?_; rintro e w' ⟨rfl, hw⟩; have hw := hw.symm; subst hw))
          go_ret
          exact .no HN.out hbel
        · go_wp2_with (go_at_call 16; refine (rInY _ _ _ _ (by omega) (by omega)).mono ?_; rintro e w' ⟨rfl, hw⟩; have hw := hw.symm; subst hw)
          go_loopw [4] (fun i wr => ∃ m : Nat, m ≤ k ∧ i = .int .i64 m ∧ Hid (∀ j, j < m → ta l j ≠ x) ∧ Below w.heap.size w wr) (fun i _ => k - (intOf i).toNat)
          case atStart => exact ⟨0, Nat.zero_le _, rfl, fun j hj => by omega, hbel⟩
          case round =>
            obtain ⟨m, hm, rfl, HM, hbm⟩ := hrel
            by_cases hmk : m < k
            · have hR2 := h.below hbm
              obtain ⟨b', o', x', ai', ni', ci', row', e', hbb', HX', HRow', hx0', hx1', hcx', hcr', hrow'⟩ := hR2.one (show m < n by omega)
              simp only [Option.some.injEq, Addr.mk.injEq, and_true] at e'
              obtain ⟨rfl, rfl⟩ := e'
              obtain ⟨b'', o'', x'', ai'', ni'', ci'', row'', e'', _, HX'', _, _, _, hcx'', _, _⟩ := hR2.one hlt
              simp only [Option.some.injEq, Addr.mk.injEq, and_true] at e''
              obtain ⟨rfl, rfl⟩ := e''
              have e3 : x'' = x := HX''.out.symm.trans HX.out
              subst e3
              by_cases hxx : x' = x''
              · have HN : Hid (¬ Rwk l n) := fun hk => (hk k hlt).1.2 m hmk (by rw [HX'.out, HX.out]; exact hxx)
                have hxb : (x' == x'') = true := by rw [beq_iff_eq]; exact hxx
                clear hxx
                go_wp2
                go_region
                all_goals go_wp2
                all_goals
                  go_ret
                  exact .no HN.out (by first | exact hbm.drew | exact hbm.drew.drew)
              · have hxb : (x' == x'') = false := by rw [beq_eq_false_iff_ne]; exact hxx
                have HM2 : Hid (∀ j, j < m + 1 → ta l j ≠ x'') := fun j hj => by
                  by_cases e : j = m
                  · rw [e, HX'.out]; exact hxx
                  · exact HM.out j (by omega)
                clear hxx
                go_wp2
                go_region
                all_goals go_wp2
                all_goals
                  go_roundw
                  case rel => exact ⟨m + 1, by omega, by go_num, HM2, by first | exact hbm.drew | exact hbm.drew.drew⟩
                  case measure => simp [intOf]; omega
            · have hmk' : m = k := by omega
              subst hmk'
              have HK2 : Hid (Rwk l (m + 1)) := rwk_succ (m := ni) HK.out HX.out (by rw [HRow.out]; exact hnl) (by omega) (by omega) (by omega) (by omega) HM.out
              go_wp2
              go_roundw
              case rel => exact ⟨m + 1, by omega, by go_num, HK2, hbm⟩
              case measure => simp [intOf]; omega
    · have hkn : k = n := by omega
      subst hkn
      go_wp2
      go_ret
      exact .yes HK.out hbel

theorem two_cells {w : World} {g : Nat} {u v x y : Value} (h0 : w.cell? ⟨g, 0, none⟩ = some u) (h1 : w.cell? ⟨g, 1, none⟩ = some v) :
    ((w.setCell ⟨g, 0, none⟩ x).setCell ⟨g, 1, none⟩ y).cell? ⟨g, 0, none⟩ = some x ∧ ((w.setCell ⟨g, 0, none⟩ x).setCell ⟨g, 1, none⟩ y).cell? ⟨g, 1, none⟩ = some y := by
  refine ⟨?_, ?_⟩
  · rw [World.cell?_setCell_other _ _ _ _ (by simp)]
    exact World.cell?_setCell_same w _ x h0
  · exact World.cell?_setCell_same _ _ y (show (w.setCell ⟨g, 0, none⟩ x).cell? ⟨g, 1, none⟩ = some v by rw [World.cell?_setCell_other _ _ _ _ (by simp)]; exact h1)

/-- What rowOf gives. -/
def RowOf (l : List (Int × List Int)) (n : Nat) (x : Int) (w : World) (e : Ending) (w' : World) : Prop :=
  ((∃ r ai ni ci, r < n ∧ ta l r = x ∧ e = .returned (.tuple #[.agg #[.int .i64 x, .slice ai ni ci], .bool true]) ∧ Rd w' ai ni ci (tc l r)) ∨
   ((∀ r, r < n → ta l r ≠ x) ∧ e = .returned (.tuple #[.agg #[.int .i64 0, .slice none 0 0], .bool false]))) ∧ Below w.heap.size w w'

theorem rRowOf (a : Option Addr) (n c : Nat) (l : List (Int × List Int)) (x : Int) (w : World) (h : RdW w a n c l) :
    Calls Try.prog 55 #[.slice a n c, .int .i64 x] w fun e w' => RowOf l n x w e w' := by
  have hcap := h.cap
  have hmax := h.max
  unfold maxLen at hmax
  have hbA : Below w.heap.size w (w.alloc (.cells #[.int .i64 0, .slice none 0 0] 83)) := (Below.refl _ _).alloc (Nat.le_refl _) _
  have hc0 := cell_alloc0 w (.int .i64 0) (.slice none 0 0) 83
  have hc1 := cell_alloc1 w (.int .i64 0) (.slice none 0 0) 83
  have hf0 : ∀ o, (w.alloc (.cells #[.int .i64 0, .slice none 0 0] 83)).frozen? ⟨w.heap.size, o, none⟩ = false := fun o => frozen_of_row _ _ o _ _ (heap_alloc_new w _)
  have hf00 := hf0 0
  have hf01 := hf0 1
  clear hf0
  go_enter Try.func55, Try.ntmps55
  go_wp2
  generalize w.alloc (.cells #[.int .i64 0, .slice none 0 0] 83) = wA at *
  go_loopw [6] (fun i wr => ∃ k : Nat, k ≤ n ∧ i = .int .i64 k ∧ Hid (∀ r, r < k → ta l r ≠ x) ∧ wr = wA) (fun i _ => n - (intOf i).toNat)
  case atStart => exact ⟨0, Nat.zero_le _, rfl, fun r hr => by omega, rfl⟩
  case round =>
    obtain ⟨k, hk, rfl, HK, hw⟩ := hrel
    have hw := hw.symm
    subst hw
    by_cases hlt : k < n
    · obtain ⟨b, o, y, ai, ni, ci, row, rfl, hbb, HX, HRow, hx0, hx1, hcx, hcr, hrow⟩ := h.one hlt
      have hcxA : wA.cell? ⟨b, o + k * 2, none⟩ = some (.int .i64 y) := by rw [hbA.cell hbb]; exact hcx
      have hcrA : wA.cell? ⟨b, o + k * 2 + 1, none⟩ = some (.slice ai ni ci) := by rw [hbA.cell hbb]; exact hcr
      clear hcx hcr
      by_cases hxy : y = x
      · subst hxy
        have hbB : Below w.heap.size w ((wA.setCell ⟨w.heap.size, 0, none⟩ (.int .i64 y)).setCell ⟨w.heap.size, 1, none⟩ (.slice ai ni ci)) := (hbA.setCell (p := ⟨w.heap.size, 0, none⟩) (Nat.le_refl _) _).setCell (p := ⟨w.heap.size, 1, none⟩) (Nat.le_refl _) _
        obtain ⟨d0, d1⟩ := two_cells (x := .int .i64 y) (y := .slice ai ni ci) hc0 hc1
        have HR : Hid (Rd ((wA.setCell ⟨w.heap.size, 0, none⟩ (.int .i64 y)).setCell ⟨w.heap.size, 1, none⟩ (.slice ai ni ci)) ai ni ci (tc l k)) := by
          unfold Hid; rw [HRow.out]; exact hrow.below hbB
        have HB : Hid (_) := hbB
        clear hbB hrow
        go_wp2
        generalize (wA.setCell ⟨w.heap.size, 0, none⟩ (.int .i64 y)).setCell ⟨w.heap.size, 1, none⟩ (.slice ai ni ci) = W at *
        exact bodyPost_ret (v := .tuple #[.agg #[.int .i64 y, .slice ai ni ci], .bool true]) (by simp [results, Try.results55, go_sem, d0, d1]) rfl ⟨.inl ⟨k, ai, ni, ci, hlt, HX.out, rfl, HR.out⟩, HB.out⟩
      · have hxb : (y == x) = false := by rw [beq_eq_false_iff_ne]; exact hxy
        have HK2 : Hid (∀ r, r < k + 1 → ta l r ≠ x) := fun r hr => by
          by_cases e : r = k
          · rw [e, HX.out]; exact hxy
          · exact HK.out r (by omega)
        clear hxy
        go_wp2
        go_roundw
        case rel => exact ⟨k + 1, by omega, by go_num, HK2, by trivial⟩
        case measure => simp [intOf]; omega
    · have hkn : k = n := by omega
      subst hkn
      obtain ⟨d0, d1⟩ := two_cells (x := .int .i64 0) (y := .slice none 0 0) hc0 hc1
      have hbB : Below w.heap.size w ((wA.setCell ⟨w.heap.size, 0, none⟩ (.int .i64 0)).setCell ⟨w.heap.size, 1, none⟩ (.slice none 0 0)) := (hbA.setCell (p := ⟨w.heap.size, 0, none⟩) (Nat.le_refl _) _).setCell (p := ⟨w.heap.size, 1, none⟩) (Nat.le_refl _) _
      have HB : Hid (_) := hbB
      clear hbB
      go_wp2
      generalize (wA.setCell ⟨w.heap.size, 0, none⟩ (.int .i64 0)).setCell ⟨w.heap.size, 1, none⟩ (.slice none 0 0) = W at *
      exact bodyPost_ret (v := .tuple #[.agg #[.int .i64 0, .slice none 0 0], .bool false]) (by simp [results, Try.results55, go_sem, d0, d1]) rfl ⟨.inr ⟨HK.out, rfl⟩, HB.out⟩
/-- A slice of ints that is read. -/
structure RdI (w : World) (a : Option Addr) (n c : Nat) (xs : List Int) : Prop where
  len : xs.length = n
  cap : n ≤ c
  max : c ≤ maxLen
  bd : ∀ x ∈ xs, -9223372036854775808 ≤ x ∧ x ≤ 9223372036854775807
  nil : a = none → c = 0
  cell : ∀ x, a = some x → ∀ i, i < n → w.cell? (x.add i) = some (.int .i64 (xs.getD i 0))
theorem RdI.one {w : World} {a : Option Addr} {n c : Nat} {xs : List Int} (h : RdI w a n c xs) {k : Nat} (hk : k < n) :
    ∃ b o x, a = some ⟨b, o, none⟩ ∧ b < w.heap.size ∧ Hid (xs.getD k 0 = x) ∧ -9223372036854775808 ≤ x ∧ x ≤ 9223372036854775807 ∧ w.cell? ⟨b, o + k, none⟩ = some (.int .i64 x) := by
  cases ha : a with
  | none => have := h.nil ha; have := h.cap; omega
  | some x =>
    have h0 := h.cell x ha k hk
    have hs : x.spot = none := by
      have := spot_none (h.cell x ha 0 (by omega))
      unfold Addr.add at this
      split at this <;> simp_all
    obtain ⟨b, o, s⟩ := x
    simp only at hs
    subst hs
    rw [Addr.add_lit] at h0
    have hb := h.bd (xs.getD k 0) (getD_mem (by rw [h.len]; exact hk))
    exact ⟨b, o, _, rfl, World.block_lt_of_cell? w _ h0, rfl, hb.1, hb.2, h0⟩
theorem RdI.below {w w' : World} {a : Option Addr} {n c : Nat} {xs : List Int} (h : RdI w a n c xs) (hb : Below w.heap.size w w') : RdI w' a n c xs := by
  refine ⟨h.len, h.cap, h.max, h.bd, h.nil, fun x hx i hi => ?_⟩
  have := h.cell x hx i hi
  rw [hb.cell (World.block_lt_of_cell? w _ this)]
  exact this
theorem RdI.drewN {w : World} {a : Option Addr} {n c : Nat} {xs : List Int} (h : RdI w a n c xs) (q : Nat) : RdI (w.drewN q) a n c xs := ⟨h.len, h.cap, h.max, h.bd, h.nil, h.cell⟩
theorem RdI.take {w : World} {a : Option Addr} {n c : Nat} {xs : List Int} (h : RdI w a n c xs) {k : Nat} (hk : k ≤ n) : RdI w a k c (xs.take k) := by
  refine ⟨by have := h.len; simp; omega, by have := h.cap; omega, h.max, fun x hx => h.bd x (List.mem_of_mem_take hx), h.nil, fun x hx i hi => ?_⟩
  rw [h.cell x hx i (by omega)]
  congr 2
  simp [hi]

/-- The cells of shares. -/
def shc (l : List (Int × Int)) : List Value := l.flatMap fun p => [.int .i64 p.1, .int .u64 p.2]
theorem shc_snoc (l : List (Int × Int)) (p : Int × Int) : shc (l ++ [p]) = shc l ++ [.int .i64 p.1, .int .u64 p.2] := by simp [shc]
theorem shc_get : ∀ (l : List (Int × Int)) (i : Nat), i < l.length → (shc l)[i * 2]? = some (.int .i64 (l.getD i (0, 0)).1) ∧ (shc l)[i * 2 + 1]? = some (.int .u64 (l.getD i (0, 0)).2)
  | [], i, h => by simp at h
  | p :: l, 0, _ => ⟨rfl, rfl⟩
  | p :: l, i + 1, h => by
    have := shc_get l i (by simpa using h)
    have e1 : (i + 1) * 2 = i * 2 + 1 + 1 := by omega
    rw [e1]
    exact this

theorem RdS.own {w : World} {base n : Nat} {E : TypeId} {v : Value} {l : List (Int × Int)} (h : w.ownsRow base E 2 v n (shc l)) (hl : l.length = n)
    (hb : ∀ i, i < n → (-9223372036854775808 ≤ (l.getD i (0, 0)).1 ∧ (l.getD i (0, 0)).1 ≤ 9223372036854775807) ∧ 0 ≤ (l.getD i (0, 0)).2 ∧ (l.getD i (0, 0)).2 ≤ 18446744073709551615) : ∃ a c, v = .slice a n c ∧ RdS w a n c l := by
  rcases h.2 with ⟨rfl, rfl⟩ | ⟨g, cap, cur, rfl, hb', hg, h1, h2, hs, ht⟩
  · exact ⟨none, 0, rfl, ⟨hl, Nat.le_refl _, Nat.zero_le _, hb, fun _ => rfl, by simp⟩⟩
  · refine ⟨_, _, rfl, ⟨hl, h1, h2, hb, by simp, fun x hx i hi => ?_⟩⟩
    obtain rfl := Option.some.inj hx
    have := shc_get l i (by omega)
    exact ⟨h.cells (g := g) rfl _ _ this.1, h.cells (g := g) rfl _ _ this.2⟩

/-- What uint64 makes of an int. -/
def u64of (x : Int) : Int := IntKind.u64.wrap x
theorem u64of_id {x : Int} (h0 : 1 ≤ x) (h1 : x ≤ 2147483646) : u64of x = x := by
  unfold u64of IntKind.wrap
  simp [IntKind.signed, IntKind.bits]
  omega
theorem own_below2 {w w' : World} {base n : Nat} {E : TypeId} {v : Value} {xs : List Value} (h : w.ownsRow base E 2 v n xs) (hb : Below w.heap.size w w') : w'.ownsRow base E 2 v n xs :=
  h.kept (grown_below hb none) (by cases hv : v.ownBlock <;> simp)

theorem infoSh : (Try.prog.info? 73).map (fun i => (i.zero, i.size, i.bytes)) = some (some (.agg #[.int .i64 0, .int .u64 0]), 2, 16) := by kernel_rfl
theorem infoZ : (Try.prog.info? 3).map (fun i => (i.zero, i.size, i.bytes)) = some (some (.int .i64 0), 1, 8) := by kernel_rfl
/-- What append has gathered reads as the ints that it gathered. -/
theorem RdI.own {w : World} {base n : Nat} {E : TypeId} {v : Value} {L : List Int} (h : w.ownsRow base E 1 v n (zns L)) (hb : ∀ x ∈ L, -9223372036854775808 ≤ x ∧ x ≤ 9223372036854775807) : ∃ a c, v = .slice a n c ∧ RdI w a n c L := by
  have hl : L.length = n := by have := h.1; rw [zns_len] at this; omega
  rcases h.2 with ⟨rfl, rfl⟩ | ⟨g, cap, cur, rfl, hb', hg, h1, h2, hs, ht⟩
  · exact ⟨none, 0, rfl, ⟨hl, Nat.le_refl _, Nat.zero_le _, hb, fun _ => rfl, by simp⟩⟩
  · refine ⟨_, _, rfl, ⟨hl, h1, h2, hb, by simp, fun x hx i hi => ?_⟩⟩
    obtain rfl := Option.some.inj hx
    rw [Addr.add_lit, Nat.zero_add]
    exact zns_at h hi
/-- Two such lists, apart. -/
structure Two (w : World) (B : Nat) (E : TypeId) (v1 v2 : Value) (l1 l2 : List (Int × Int)) : Prop where
  o1 : w.ownsRow B E 2 v1 l1.length (shc l1)
  o2 : w.ownsRow B E 2 v2 l2.length (shc l2)
  ne : ∀ g, v1.ownBlock = some g → v2.ownBlock ≠ some g
theorem Two.swap {w : World} {B : Nat} {E : TypeId} {v1 v2 : Value} {l1 l2 : List (Int × Int)} (h : Two w B E v1 v2 l1 l2) : Two w B E v2 v1 l2 l1 := ⟨h.o2, h.o1, fun g h1 h2 => h.ne g h2 h1⟩
theorem Two.add {w w' : World} {B : Nat} {E : TypeId} {v1 v2 v' : Value} {l1 l2 : List (Int × Int)} {p : Int × Int} (h : Two w B E v1 v2 l1 l2) (ho : w'.ownsRow B E 2 v' (l1.length + 1) (shc (l1 ++ [p]))) (hg : w.grownBy w' v1.ownBlock) (hat : v'.ownBlock = v1.ownBlock ∨ ∃ k, v'.ownBlock = some k ∧ w.heap.size ≤ k) : Two w' B E v' v2 (l1 ++ [p]) l2 := by
  refine ⟨by rw [List.length_append, List.length_singleton]; exact ho, h.o2.kept hg ?_, fun g h1 h2 => ?_⟩
  · cases hv : v1.ownBlock with
    | none => cases hv2 : v2.ownBlock <;> simp
    | some g => exact .inr (h.ne g hv)
  · rcases hat with hat | ⟨k, hk, hle⟩
    · exact h.ne g (by rw [← hat]; exact h1) h2
    · have h3 := (h.o2.lt g h2).2
      rw [hk] at h1
      have := Option.some.inj h1
      omega
theorem Two.below {w w' : World} {B : Nat} {E : TypeId} {v1 v2 : Value} {l1 l2 : List (Int × Int)} (h : Two w B E v1 v2 l1 l2) (hb : Below w.heap.size w w') : Two w' B E v1 v2 l1 l2 := ⟨own_below2 h.o1 hb, own_below2 h.o2 hb, h.ne⟩

/-- Lists of other elements lie elsewhere. -/
theorem own_apart {w : World} {B1 B2 n1 n2 z1 z2 : Nat} {E1 E2 : TypeId} {v1 v2 : Value} {xs ys : List Value} (h1 : w.ownsRow B1 E1 z1 v1 n1 xs) (h2 : w.ownsRow B2 E2 z2 v2 n2 ys) (hE : E1 ≠ E2) : v2.ownBlock = none ∨ v2.ownBlock ≠ v1.ownBlock := by
  rcases h2.2 with ⟨rfl, _⟩ | ⟨g, cap, cur, rfl, _, hg, _⟩
  · exact .inl rfl
  · right
    rcases h1.2 with ⟨rfl, _⟩ | ⟨g', cap', cur', rfl, _, hg', _⟩
    · simp [Value.ownBlock]
    · intro e
      simp [Value.ownBlock] at e
      subst e
      rw [hg] at hg'
      simp only [Option.some.injEq, Obj.cells.injEq] at hg'
      exact hE hg'.2.1.symm
/-- How long a slice is. -/
def slen : Value → Nat
  | .slice _ n _ => n
  | _ => 0
/-- A slice of two-cell elements that the call itself gathers, and one more, with what it leaves alone. -/
theorem wpList_app2 {P : Program} {T E : TypeId} {z : Value} {by_ : Nat} (hT : P.underlying T = some (.slice E)) (info : (P.info? E).map (fun i => (i.zero, i.size, i.bytes)) = some (some z, 2, by_)) (hz : z.cells.size = 2) (hby : by_ ≤ 100)
    (w : World) {ops : Array Oper} {rest : List Oper} {o : Oper} {a : Act} {Q : Exit → Act → World → Prop} (hgd : o.guard = none) (s x : Operand)
    (ho : o.op = .call { callee := .builtin .append, args := #[s, x], argTypes := #[T, T] })
    (base : Nat) (v : Value) (n : Nat) (xs : List Value) (hs : a.eval s = v) (hown : w.ownsRow base E 2 v n xs) (p q : Value) (hp : p.oneCell' = true) (hq : q.oneCell' = true) (hx : a.eval x = .slice (some ⟨w.heap.size, 0, none⟩) 1 1)
    (hn : n ≤ 1000000) (hbase : base ≤ w.heap.size)
    (h : ∀ v' w', w'.ownsRow base E 2 v' (n + 1) (xs ++ [p, q]) → w.grownBy w' v.ownBlock → (v'.ownBlock = v.ownBlock ∨ ∃ k, v'.ownBlock = some k ∧ w.heap.size ≤ k) → wpList P ops Q rest (a.put o.dst v') w') : wpList P ops Q (o :: rest) a (w.alloc (.cells #[p, q] E)) := by
  obtain ⟨i0, hi, hz0, hz1, hz2⟩ := info_parts info
  refine wpList_append_own_at _ hgd s x T ho base E i0 z 2 by_ hT hi hz0 hz1 hz2 hz (by decide) v n _ hs (hown.alloc _) ⟨w.heap.size, 0, none⟩ 1 1 [p, q] hx rfl ?_ ?_ (by unfold maxLen; omega) ?_ (by simp; omega) ?_
  · intro j u hj
    match j, hj with
    | 0, hj => simp at hj; subst hj; rw [Addr.add_lit]; exact cell_alloc0 _ _ _ _
    | 1, hj => simp at hj; subst hj; rw [Addr.add_lit]; exact cell_alloc1 _ _ _ _
  · intro u hu; simp at hu; rcases hu with rfl | rfl <;> assumption
  · have : (n + 1) * by_ ≤ 1000001 * 100 := Nat.mul_le_mul (by omega) hby
    omega
  · intro v' w' hown' hgrow _ hat
    refine h v' w' hown' ⟨hgrow.os, hgrow.tape, hgrow.output, ?_, fun k hk hne => ?_⟩ ?_
    · have := hgrow.size; simp at this; omega
    · rw [hgrow.block k (by simp; omega) hne]; exact Below.heap_alloc _ _ _ hk
    · rcases hat with hat | hat
      · exact .inl hat
      · exact .inr ⟨_, hat, by simp⟩

/-- The cells of rows. -/
def pvc (l : List (Int × Value)) : List Value := l.flatMap fun p => [.int .i64 p.1, p.2]
theorem pvc_snoc (l : List (Int × Value)) (x : Int) (v : Value) : pvc (l ++ [(x, v)]) = pvc l ++ [.int .i64 x, v] := by simp [pvc]
theorem pvc_get : ∀ (l : List (Int × Value)) (i : Nat), i < l.length → (pvc l)[i * 2]? = some (.int .i64 (l.getD i (0, .slice none 0 0)).1) ∧ (pvc l)[i * 2 + 1]? = some (l.getD i (0, .slice none 0 0)).2
  | [], i, h => by simp at h
  | p :: l, 0, _ => ⟨rfl, rfl⟩
  | p :: l, i + 1, h => by
    have := pvc_get l i (by simpa using h)
    have e1 : (i + 1) * 2 = i * 2 + 1 + 1 := by omega
    rw [e1]
    exact this

/-- A list of rows that the call gathers, each row the call's own. -/
structure LsW (w : World) (B : Nat) (v : Value) (L : List (Int × Value)) (l : List (Int × List Int)) : Prop where
  own : w.ownsRow B 83 2 v l.length (pvc L)
  len : L.length = l.length
  at_ : ∀ i, i < l.length → (L.getD i (0, .slice none 0 0)).1 = ta l i
  row : ∀ i, i < l.length → w.ownsRow B 28 1 (L.getD i (0, .slice none 0 0)).2 (tc l i).length ((tc l i).map (Value.int .u64))
  inj : ∀ i j, i < j → j < l.length → (L.getD i (0, .slice none 0 0)).2.ownBlock = none ∨ (L.getD i (0, .slice none 0 0)).2.ownBlock ≠ (L.getD j (0, .slice none 0 0)).2.ownBlock
theorem LsW.below {w w' : World} {B : Nat} {v : Value} {L : List (Int × Value)} {l : List (Int × List Int)} (h : LsW w B v L l) (hb : Below w.heap.size w w') : LsW w' B v L l :=
  ⟨own_below2 h.own hb, h.len, h.at_, fun i hi => own_below (h.row i hi) hb, h.inj⟩
/-- Rows, when another list of numbers grows. -/
theorem LsW.grown {w w' : World} {B : Nat} {v : Value} {L : List (Int × Value)} {l : List (Int × List Int)} {r : Option Nat} (h : LsW w B v L l) (hg : w.grownBy w' r) (h1 : v.ownBlock = none ∨ v.ownBlock ≠ r) (h2 : ∀ i, i < l.length → (L.getD i (0, .slice none 0 0)).2.ownBlock = none ∨ (L.getD i (0, .slice none 0 0)).2.ownBlock ≠ r) : LsW w' B v L l :=
  ⟨h.own.kept hg h1, h.len, h.at_, fun i hi => (h.row i hi).kept hg (h2 i hi), h.inj⟩
/-- One row more. -/
theorem LsW.add {w w' : World} {B : Nat} {v v' u : Value} {L : List (Int × Value)} {l : List (Int × List Int)} {x : Int} {row : List Int} (h : LsW w B v L l) (hr : w.ownsRow B 28 1 u row.length (row.map (Value.int .u64)))
    (hnew : ∀ i, i < l.length → (L.getD i (0, .slice none 0 0)).2.ownBlock = none ∨ (L.getD i (0, .slice none 0 0)).2.ownBlock ≠ u.ownBlock)
    (ho : w'.ownsRow B 83 2 v' (l.length + 1) (pvc L ++ [.int .i64 x, u])) (hg : w.grownBy w' v.ownBlock) : LsW w' B v' (L ++ [(x, u)]) (l ++ [(x, row)]) := by
  have hl := h.len
  have gl : ∀ i, i < l.length → (l ++ [(x, row)]).getD i (0, []) = l.getD i (0, []) := fun i hi => by simp [List.getElem?_append_left hi]
  have gL : ∀ i, i < l.length → (L ++ [(x, u)]).getD i (0, .slice none 0 0) = L.getD i (0, .slice none 0 0) := fun i hi => by simp [List.getElem?_append_left (show i < L.length by omega)]
  have gl' : (l ++ [(x, row)]).getD l.length (0, []) = (x, row) := by simp
  have gL' : (L ++ [(x, u)]).getD l.length (0, .slice none 0 0) = (x, u) := by rw [← hl]; simp
  have hE : (83 : TypeId) ≠ 28 := by decide
  refine ⟨by rw [pvc_snoc]; simpa using ho, by simp [hl], fun i hi => ?_, fun i hi => ?_, fun i j hij hj => ?_⟩
  · have hi2 : i < l.length + 1 := by simpa using hi
    unfold ta
    by_cases e : i = l.length
    · subst e; rw [gl', gL']
    · rw [gl i (by omega), gL i (by omega)]; exact h.at_ i (by omega)
  · have hi2 : i < l.length + 1 := by simpa using hi
    unfold tc
    by_cases e : i = l.length
    · subst e; rw [gl', gL']; exact hr.kept hg (own_apart h.own hr hE)
    · rw [gl i (by omega), gL i (by omega)]; exact (h.row i (by omega)).kept hg (own_apart h.own (h.row i (by omega)) hE)
  · have hj2 : j < l.length + 1 := by simpa using hj
    by_cases e : j = l.length
    · subst e; rw [gL', gL i hij]; exact hnew i hij
    · rw [gL i (by omega), gL j (by omega)]; exact h.inj i j hij (by omega)
/-- What is made later lies elsewhere. -/
theorem LsW.new {w w' : World} {B : Nat} {v u : Value} {L : List (Int × Value)} {l : List (Int × List Int)} {E : TypeId} {n z B2 : Nat} {xs : List Value} (h : LsW w B v L l) (hB : w.heap.size ≤ B2) (hu : w'.ownsRow B2 E z u n xs) : ∀ i, i < l.length → (L.getD i (0, .slice none 0 0)).2.ownBlock = none ∨ (L.getD i (0, .slice none 0 0)).2.ownBlock ≠ u.ownBlock := fun i hi => by
  cases hv : (L.getD i (0, .slice none 0 0)).2.ownBlock with
  | none => exact .inl rfl
  | some g =>
    right
    intro e
    have h1 := ((h.row i hi).lt g hv).2
    have h2 := (hu.lt g e.symm).1
    omega
/-- A row that is being filled: its box. -/
def Box (w : World) (g : Nat) (x : Int) (v : Value) : Prop := w.heap[g]? = some (.cells #[.int .i64 x, v] 83 (0, 0))
theorem Box.lt {w : World} {g : Nat} {x : Int} {v : Value} (h : Box w g x v) : g < w.heap.size := (Array.getElem?_eq_some_iff.1 h).1
theorem Box.cells {w : World} {g : Nat} {x : Int} {v : Value} (h : Box w g x v) : w.cell? ⟨g, 0, none⟩ = some (.int .i64 x) ∧ w.cell? ⟨g, 1, none⟩ = some v := by
  unfold Box at h
  rw [cell_of_row w g 0 _ _ (0, 0) h, cell_of_row w g 1 _ _ (0, 0) h]
  exact ⟨rfl, rfl⟩
theorem Box.frozen {w : World} {g : Nat} {x : Int} {v : Value} (h : Box w g x v) (i : Nat) : w.frozen? ⟨g, i, none⟩ = false := frozen_of_row w g i _ _ h
theorem Box.set {w : World} {g : Nat} {x : Int} {v : Value} (h : Box w g x v) (u : Value) : Box (w.setCell ⟨g, 1, none⟩ u) g x u := by
  have := heap_setCell_same w g 1 _ _ u h
  unfold Box
  rw [this]
  rfl
theorem Box.kept {w w' : World} {g : Nat} {x : Int} {v : Value} {r : Option Nat} (h : Box w g x v) (hg : w.grownBy w' r) (hr : r ≠ some g) : Box w' g x v := by
  unfold Box; rw [hg.block g h.lt (fun e => hr e.symm)]; exact h
theorem Box.new (w : World) (x : Int) (v : Value) : Box (w.alloc (.cells #[.int .i64 x, v] 83)) w.heap.size x v := heap_alloc_new w _
theorem infoR28 : (Try.prog.info? 28).map (fun i => (i.zero, i.size, i.bytes)) = some (some (.int .u64 0), 1, 8) := by kernel_rfl

def ntk (xs : List Int) (k : Nat) : List Int := (nz xs).take k
theorem out_step {xs : List Int} {k : Nat} (h : k < xs.length) {v : Int} (e : v = nm (xs.getD k 0)) : (ntk xs k).map (Value.int .u64) ++ [Value.int .u64 v] = (ntk xs (k + 1)).map (Value.int .u64) := by
  unfold ntk
  rw [List.take_succ_eq_append_getElem (show k < (nz xs).length by rw [nz_len]; exact h), List.map_append]
  congr 1
  rw [e, ← nz_getD]
  simp [List.getElem?_eq_getElem (show k < (nz xs).length by rw [nz_len]; exact h)]

theorem rNormalO (a : Option Addr) (n c : Nat) (xs : List Int) (w : World) (h : Rd w a n c xs) (hn : n ≤ 1000000) :
    Calls Try.prog 116 #[.slice a n c] w fun e w' => ∃ a' c', e = .returned (.slice a' (tl (nz xs) n) c') ∧ w'.ownsRow w.heap.size 28 1 (.slice a' (tl (nz xs) n) c') (tl (nz xs) n) ((nrm xs).map (Value.int .u64)) ∧ Below w.heap.size w w' := by
  obtain ⟨i0, hi, hz0, hz1, hz2⟩ := info_parts infoR28
  have hlen := h.len
  go_enter Try.func116, Try.ntmps116
  go_wp2
  go_loop [3, 4] (fun l i => ∃ k : Nat, k ≤ n ∧ i = .int .i64 k ∧ l = .int .i64 ((tl (nz xs) k : Nat) - 1 : Int)) (fun _ i => n - (intOf i).toNat)
  case atStart => exact ⟨0, Nat.zero_le _, rfl, rfl⟩
  case round =>
    obtain ⟨k, hk, rfl, rfl⟩ := hrel
    by_cases hlt : k < n
    · obtain ⟨b, o, x, rfl, hb, HX, hx0, hx1, hc⟩ := h.one hlt
      by_cases hx : nm x = 0
      · have HT : Hid (tl (nz xs) (k + 1) = tl (nz xs) k) := tl_zero _ (by rw [nz_getD, HX.out]; exact hx)
        have hxb : (nm x != 0) = false := by rw [hx]; rfl
        clear hx
        go_wp2_with (go_at_call 41; refine (rNorm _ _ (by omega) (by omega)).mono ?_; rintro e w' ⟨rfl, rfl⟩)
        go_round
        case rel => exact ⟨k + 1, by omega, by go_num, by rw [HT.out]⟩
        case measure => simp [intOf]; omega
      · have HT : Hid (tl (nz xs) (k + 1) = k + 1) := tl_last _ (by rw [nz_getD, HX.out]; exact hx)
        have hxb : (nm x != 0) = true := by rw [bne_iff_ne]; exact hx
        go_wp2_with (go_at_call 41; refine (rNorm _ _ (by omega) (by omega)).mono ?_; rintro e w' ⟨rfl, rfl⟩)
        go_round
        case rel => exact ⟨k + 1, by omega, by go_num, by rw [HT.out]; go_num⟩
        case measure => simp [intOf]; omega
    · have hkn : k = n := by omega
      subst hkn
      have htl := tl_le (nz xs) k
      obtain ⟨m, hm⟩ : ∃ m, m = tl (nz xs) k := ⟨_, rfl⟩
      rw [← hm] at htl
      have HM : Hid (m = tl (nz xs) k) := hm
      rw [← hm]
      clear hm
      go_wp2
      go_loopw [5, 6] (fun v i wr => ∃ j : Nat, j ≤ m ∧ i = .int .i64 j ∧ wr.ownsRow w.heap.size 28 1 v j ((ntk xs j).map (Value.int .u64)) ∧ Below w.heap.size w wr) (fun _ i _ => m - (intOf i).toNat)
      case atStart => exact ⟨0, Nat.zero_le _, rfl, World.ownsRow_nil _ _ _ _, Below.refl _ _⟩
      case round =>
        obtain ⟨j, hj, rfl, hown, hbel⟩ := hrel
        by_cases hlt2 : j < m
        · obtain ⟨b, o, x, rfl, hb, HX, hx0, hx1, hc⟩ := (h.below hbel).one (show j < k by omega)
          have hsz := hbel.size
          go_wp2_with (first | (go_at_call 41; refine (rNorm _ _ (by omega) (by omega)).mono ?_; rintro e w' ⟨rfl, rfl⟩) | (at_builtin; refine wpList_append_own _ rfl _ _ 23 rfl w.heap.size 28 i0 (.int .u64 0) 1 8 Try.underlying23 hi hz0 hz1 hz2 rfl (by decide) _ _ _ rfl (hown.alloc _) ⟨_, 0, none⟩ 1 1 [.int .u64 (nm x)] rfl rfl ?c1 ?c2 ?c3 ?c4 ?c5 ?_))
          case c1 =>
            intro j u hj
            match j, hj with
            | 0, hj => simp at hj; subst hj; simp [Addr.add]
          case c2 => intro u hu; simp at hu; subst hu; rfl
          case c3 => unfold maxLen; omega
          case c4 => omega
          case c5 => simp; omega
          · intro v' w1 hown' hgrow _
            rw [out_step (by omega) (by rw [HX.out])] at hown'
            have hbel' : Below w.heap.size w w1 := (hbel.alloc (by omega) _).grown hgrow (by simp; omega) (fun k hk => (hown.lt k hk).1)
            clear hown hgrow hbel
            go_wp2
            go_roundw
            case rel => exact ⟨j + 1, by omega, by go_num, hown', hbel'⟩
            case measure => simp [intOf]; omega
        · have hjm : j = m := by omega
          subst hjm
          obtain ⟨a', c', rfl, hr, hfr⟩ := Rd.own hown (fun x hx => nz_bd xs x (List.mem_of_mem_take hx))
          go_wp2
          go_ret
          rw [← HM.out]
          refine ⟨a', c', rfl, ?_, hbel⟩
          have e : nrm xs = (nz xs).take j := by unfold nrm trm; rw [nz_len, hlen, ← HM.out]
          rw [e]
          exact hown
theorem rNormal (a : Option Addr) (n c : Nat) (xs : List Int) (w : World) (h : Rd w a n c xs) (hn : n ≤ 1000000) :
    Calls Try.prog 116 #[.slice a n c] w fun e w' => ∃ a' c', e = .returned (.slice a' (tl (nz xs) n) c') ∧ Rd w' a' (tl (nz xs) n) c' (nrm xs) ∧ Below w.heap.size w w' ∧ ∀ x, a' = some x → w.heap.size ≤ x.block := by
  refine (rNormalO _ _ _ _ _ h hn).mono ?_
  rintro e w' ⟨a', c', rfl, hown, hb⟩
  obtain ⟨a2, c2, e2, hr, hf⟩ := Rd.own hown (nrm_bd xs)
  simp only [Value.slice.injEq, true_and] at e2
  obtain ⟨rfl, rfl⟩ := e2
  exact ⟨a', c', rfl, hr, hb, hf⟩

theorem evstep (xs : List Int) (x : Int) {k : Nat} {y q z : Int} (h : k < xs.length) (hy : y = nm (ev (xs.take k) x)) (hq : q = pw x k) (hz : xs.getD k 0 = z) : nm (y + nm (z * q)) = nm (ev (xs.take (k + 1)) x) := by
  rw [ev_take xs x h, hz, hy, hq, nm_addl, nm_addr]
  exact nm_add_congr rfl (by unfold pw; rw [nm_mulr])

theorem rEval (a : Option Addr) (n c : Nat) (xs : List Int) (x : Int) (w : World) (h : Rd w a n c xs) (hn : n ≤ 1000000) (g0 : 0 ≤ x) (g1 : x ≤ 18446744073709551615) :
    Calls Try.prog 56 #[.slice a n c, .int .u64 x] w fun e w' => e = .returned (.int .u64 (nm (ev xs x))) ∧ w' = w := by
  have hlen := h.len
  go_enter Try.func56, Try.ntmps56
  go_wp2
  go_loop [5, 6, 7] (fun s p i => ∃ (k : Nat) (y q : Int), k ≤ n ∧ i = .int .i64 k ∧ s = .int .u64 y ∧ p = .int .u64 q ∧ 0 ≤ y ∧ y ≤ 2147483646 ∧ 0 ≤ q ∧ q ≤ 2147483646 ∧ Hid (y = nm (ev (xs.take k) x)) ∧ Hid (q = pw x k)) (fun _ _ i => n - (intOf i).toNat)
  case atStart => exact ⟨0, 0, 1, Nat.zero_le _, rfl, rfl, rfl, by omega, by omega, by omega, by omega, rfl, (pw_zero x).symm⟩
  case round =>
    obtain ⟨k, y, q, hk, rfl, rfl, rfl, hy0, hy1, hq0, hq1, HY, HQ⟩ := hrel
    by_cases hlt : k < n
    · obtain ⟨b, o, z, rfl, hb, HZ, hz0, hz1, hc⟩ := h.one hlt
      have hmul := nm_bd (z * q)
      go_wp2_with (first | (go_at_call 47; refine (rMul _ _ _ (by omega) (by omega) (by omega) (by omega)).mono ?_; rintro e w' ⟨rfl, rfl⟩) | (go_at_call 46; refine (rAdd _ _ _ (by omega) (by omega) (by omega) (by omega)).mono ?_; rintro e w' ⟨rfl, rfl⟩))
      go_round
      case rel => exact ⟨k + 1, _, _, by omega, by go_num, rfl, rfl, (nm_bd _).1, (nm_bd _).2, (nm_bd _).1, (nm_bd _).2, evstep xs x (by omega) HY.out HQ.out HZ.out, by rw [HQ.out]; exact (pw_succ x k).symm⟩
      case measure => simp [intOf]; omega
    · have hkn : k = n := by omega
      subst hkn
      go_wp2
      go_ret
      rw [HY.out, List.take_of_length_le (by omega)]
      exact ⟨rfl, rfl⟩
end
end Go.Proofs.Ytljlioglpaogdab
