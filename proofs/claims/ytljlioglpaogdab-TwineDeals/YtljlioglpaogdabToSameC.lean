/- poly.value, slices.Equal. · croftref.SameRows: two lists of rows that read the same. -/
import Derived.Test.YtljlioglpaogdabToTrimC
import Derived.Test.YtljlioglpaogdabToPolyM3
import Derived.Test.YtljlioglpaogdabToRows2
import Derived.Deep.QuietTactic
import Derived.BigQuiet
namespace Go.Proofs.Ytljlioglpaogdab
set_option linter.unusedVariables false
set_option maxRecDepth 100000
set_option maxHeartbeats 8000000
section
open Crm Go.RowKit
theorem drewN_below {B : Nat} {a w : World} (h : Below B a w) (n : Nat) : Below B a (w.drewN n) := by
  induction n with
  | zero => exact h
  | succ n ih => exact ih.drew

theorem horner (xs : List Int) (x : Int) {m : Nat} {y z : Int} (h : m < xs.length) (hy : y = nm (ev (xs.drop (m + 1)) x)) (hz : xs.getD m 0 = z) : nm (nm (y * x) + z) = nm (ev (xs.drop m) x) := by
  rw [ev_drop xs x h, hy, hz, nm_addl]
  have : ∀ E : Int, nm (nm E * x + z) = nm (z + x * E) := fun E => by
    rw [Int.add_comm, ← nm_addr, nm_mull, nm_addr, Int.mul_comm x]
  exact this _

theorem cValueQ (a : Option Addr) (n c : Nat) (xs : List Int) (x : Int) (w : World) (h : Rd w a n c xs) (hx0 : 0 ≤ x) (hx1 : x ≤ 18446744073709551615) :
    Calls Try.prog 90 #[.slice a n c, .int .u64 x] w fun e w' => e = .returned (.int .u64 (nm (ev xs x))) ∧ ∃ q, w' = w.drewN q := by
  have hm := h.max
  have hcap := h.cap
  have hlen := h.len
  unfold maxLen at hm
  go_enter Try.func90, Try.ntmps90
  go_wp2
  go_loopw [5, 6] (fun s i wr => ∃ (k : Nat) (y : Int) (q : Nat), k ≤ n ∧ i = .int .i64 ((k : Int) - 1) ∧ s = .int .u64 y ∧ 0 ≤ y ∧ y ≤ 2147483646 ∧ Hid (y = nm (ev (xs.drop k) x)) ∧ wr = w.drewN q) (fun _ i _ => (intOf i + 1).toNat)
  case atStart => exact ⟨n, 0, 0, Nat.le_refl _, rfl, rfl, by omega, by omega, by rw [List.drop_of_length_le (by omega)]; exact rfl, rfl⟩
  case round =>
    obtain ⟨k, y, q, hk, rfl, rfl, hy0, hy1, HY, hwr⟩ := hrel
    have hbel : Below w.heap.size w wr := by rw [hwr]; exact drewN_below (Below.refl _ _) q
    have HW : Hid (wr = w.drewN q) := hwr
    clear hwr
    cases k with
    | zero =>
      go_wp2
      go_ret
      rw [← List.drop_zero (l := xs), ← HY.out]
      exact ⟨rfl, q, HW.out⟩
    | succ m =>
      obtain ⟨b, o, z, rfl, hb, HZ, hz0, hz1, hc⟩ := (h.below hbel).one (show m < n by omega)
      have hmul := nm_bd (y * x)
      have hk0 : (0 : Int) ≤ (m : Int) := by omega
      have hkn : (m : Int) < (n : Int) := by omega
      go_wp2
      go_quiet ((first | (go_at_call 61; exact Calls.quiet_of_same (fMul _ _ _ (by omega) (by omega) (by omega) (by omega))) | (go_at_call 58; exact Calls.quiet_of_same (fAdd _ _ _ (by omega) (by omega) (by omega) (by omega)))))
      all_goals
        go_wp2
        go_roundw
        case rel => exact ⟨m, _, _, by omega, by go_num, rfl, (nm_bd _).1, (nm_bd _).2, horner xs x (by omega) HY.out HZ.out, by rw [HW.out, World.drewN_drewN]⟩
        case measure => simp [intOf]

theorem cValue (a : Option Addr) (n c : Nat) (xs : List Int) (x : Int) (w : World) (h : Rd w a n c xs) (hx0 : 0 ≤ x) (hx1 : x ≤ 18446744073709551615) :
    Calls Try.prog 90 #[.slice a n c, .int .u64 x] w fun e w' => e = .returned (.int .u64 (nm (ev xs x))) ∧ Below w.heap.size w w' := by
  refine (cValueQ _ _ _ _ _ _ h hx0 hx1).mono ?_
  rintro e w' ⟨he, q, rfl⟩
  exact ⟨he, drewN_below (Below.refl _ _) q⟩

theorem take_eq {xs ys : List Int} {k : Nat} (h1 : k < xs.length) (h2 : k < ys.length) (h : xs.take k = ys.take k) (e : xs.getD k 0 = ys.getD k 0) : xs.take (k + 1) = ys.take (k + 1) := by
  rw [List.take_succ_eq_append_getElem h1, List.take_succ_eq_append_getElem h2, h]
  congr 2
  simpa [List.getElem?_eq_getElem h1, List.getElem?_eq_getElem h2] using e

theorem cEqual (a : Option Addr) (n c : Nat) (xs : List Int) (b : Option Addr) (m d : Nat) (ys : List Int) (w : World) (h : Rd w a n c xs) (g : Rd w b m d ys) :
    Calls Try.prog 12 #[.slice a n c, .slice b m d] w fun e w' => e = .returned (.bool (xs == ys)) ∧ Below w.heap.size w w' := by
  have hm := h.max
  have hcap := h.cap
  have hlen := h.len
  have gm := g.max
  have gcap := g.cap
  have glen := g.len
  unfold maxLen at hm gm
  by_cases hnm : n = m
  · subst hnm
    go_enter Try.func12, Try.ntmps12
    go_wp2
    go_loopw [13] (fun i wr => ∃ k : Nat, k ≤ n ∧ i = .int .i64 k ∧ Hid (xs.take k = ys.take k) ∧ Below w.heap.size w wr) (fun i _ => n - (intOf i).toNat)
    case atStart => exact ⟨0, Nat.zero_le _, rfl, rfl, Below.refl _ _⟩
    case round =>
      obtain ⟨k, hk, rfl, HT, hbel⟩ := hrel
      by_cases hlt : k < n
      · obtain ⟨b1, o1, x, rfl, hb1, HX, hx0, hx1, hc1⟩ := (h.below hbel).one hlt
        obtain ⟨b2, o2, y, rfl, hb2, HY, hy0, hy1, hc2⟩ := (g.below hbel).one hlt
        by_cases hxy : x = y
        · subst hxy
          go_wp2
          go_region
          all_goals go_wp2
          all_goals
            go_roundw
            case rel => exact ⟨k + 1, by omega, by go_num, take_eq (by omega) (by omega) HT.out (HX.out.trans HY.out.symm), by first | exact hbel.drew | exact hbel.drew.drew⟩
            case measure => simp [intOf]; omega
        · have hxb : (x != y) = true := by rw [bne_iff_ne]; exact hxy
          go_wp2
          have HE : Hid ((xs == ys) = false) := by
            refine beq_eq_false_iff_ne.2 fun e => hxy ?_
            rw [← HX.out, ← HY.out, e]
          go_region
          all_goals go_wp2
          all_goals
            go_ret
            rw [HE.out]
            exact ⟨rfl, by first | exact hbel.drew | exact hbel.drew.drew⟩
      · have HE : Hid ((xs == ys) = true) := by
          refine beq_iff_eq.2 ?_
          have := HT.out
          rwa [List.take_of_length_le (by omega), List.take_of_length_le (by omega)] at this
        go_wp2
        go_ret
        rw [HE.out]
        exact ⟨rfl, hbel⟩
  · have hb : ((n : Int) != (m : Int)) = true := by rw [bne_iff_ne]; omega
    go_enter Try.func12, Try.ntmps12
    have HE : Hid ((xs == ys) = false) := beq_eq_false_iff_ne.2 fun e => hnm (by rw [← hlen, ← glen, e])
    go_wp2
    go_ret
    rw [HE.out]
    exact ⟨rfl, Below.refl _ _⟩

theorem nil_rd (w : World) : Rd w none 0 0 [] := ⟨rfl, Nat.le_refl _, Nat.zero_le _, by simp, fun _ => rfl, by simp⟩

/-- Two slices that read the same are equal. -/
theorem cSame (a : Option Addr) (n c : Nat) (xs : List Int) (b : Option Addr) (m d : Nat) (w : World) (h : Rd w a n c xs) (g : Rd w b m d xs) :
    Calls Try.prog 12 #[.slice a n c, .slice b m d] w fun e w' => e = .returned (.bool true) ∧ Below w.heap.size w w' := by
  refine (cEqual _ _ _ _ _ _ _ _ _ h g).mono ?_
  rintro e w' ⟨rfl, hb⟩
  exact ⟨by rw [beq_self_eq_true], hb⟩
/-- The closure: two rows that read the same. -/
theorem sSameRow (x : Int) (a : Option Addr) (n c : Nat) (b : Option Addr) (m d : Nat) (xs : List Int) (w : World) (h : Rd w a n c xs) (g : Rd w b m d xs) :
    Calls Try.prog 45 #[.agg #[.int .i64 x, .slice a n c], .agg #[.int .i64 x, .slice b m d]] w fun e w' => e = .returned (.bool true) ∧ Below w.heap.size w w' := by
  have hbA : Below w.heap.size w (w.alloc (.cells #[.int .i64 x, .slice a n c] 83)) := (Below.refl _ _).alloc (Nat.le_refl _) _
  have hbB : Below w.heap.size w ((w.alloc (.cells #[.int .i64 x, .slice a n c] 83)).alloc (.cells #[.int .i64 x, .slice b m d] 83)) := hbA.alloc hbA.size _
  go_enter Try.func45, Try.ntmps45
  go_wp2_with fail
  refine (cSame _ _ _ _ _ _ _ _ (h.below hbB) (g.below hbB)).mono ?_
  rintro e w1 ⟨rfl, hb1⟩
  have hw1 := hbB.trans (hb1.mono hbB.size)
  clear hb1 hbA hbB
  go_wp2
  go_ret
  exact ⟨rfl, hw1⟩

theorem sEqualFunc (a : Option Addr) (n c : Nat) (b : Option Addr) (d : Nat) (l : List (Int × List Int)) (w : World) (h : RdW w a n c l) (g : RdW w b n d l) :
    Calls Try.prog 44 #[.slice a n c, .slice b n d, .func (.func 45) #[] #[]] w fun e w' => e = .returned (.bool true) ∧ Below w.heap.size w w' := by
  have hcap := h.cap
  have hmax := h.max
  unfold maxLen at hmax
  go_enter Try.func44, Try.ntmps44
  go_wp2
  go_loopw [17] (fun i wr => ∃ k : Nat, k ≤ n ∧ i = .int .i64 k ∧ Below w.heap.size w wr) (fun i _ => n - (intOf i).toNat)
  case atStart => exact ⟨0, Nat.zero_le _, rfl, Below.refl _ _⟩
  case round =>
    obtain ⟨k, hk, rfl, hbel⟩ := hrel
    have hs1 := hbel.size
    by_cases hlt : k < n
    · obtain ⟨b1, o1, x, a1, n1, c1, row, rfl, hbb, HX, HRow, hx0, hx1, hcx, hcr, hrow⟩ := (h.below hbel).one hlt
      obtain ⟨b2, o2, x2, a2, n2, c2, row2, rfl, hbb2, HX2, HRow2, hx02, hx12, hcx2, hcr2, hrow2⟩ := (g.below hbel).one hlt
      obtain rfl : x = x2 := HX.out.symm.trans HX2.out
      obtain rfl : row = row2 := HRow.out.symm.trans HRow2.out
      have hbA : Below wr.heap.size wr (wr.alloc (.cells #[.int .i64 x, .slice a1 n1 c1] 83)) := (Below.refl _ _).alloc (Nat.le_refl _) _
      have hcx2A : (wr.alloc (.cells #[.int .i64 x, .slice a1 n1 c1] 83)).cell? ⟨b2, o2 + k * 2, none⟩ = some (.int .i64 x) := by rw [hbA.cell hbb2]; exact hcx2
      have hcr2A : (wr.alloc (.cells #[.int .i64 x, .slice a1 n1 c1] 83)).cell? ⟨b2, o2 + k * 2 + 1, none⟩ = some (.slice a2 n2 c2) := by rw [hbA.cell hbb2]; exact hcr2
      have hbB : Below wr.heap.size wr ((wr.alloc (.cells #[.int .i64 x, .slice a1 n1 c1] 83)).alloc (.cells #[.int .i64 x, .slice a2 n2 c2] 83)) := hbA.alloc hbA.size _
      have hr1 := hrow.below hbB
      have hr2 := hrow2.below hbB
      have hbw := hbel.trans (hbB.mono hs1)
      clear hbA hbB hrow hrow2 HX HX2 HRow HRow2
      go_wp2_with fail
      refine (sSameRow _ _ _ _ _ _ _ _ _ hr1 hr2).mono ?_
      rintro e w3 ⟨rfl, hb3⟩
      have hw3 := hbw.trans (hb3.mono hbw.size)
      clear hr1 hr2 hbw hb3
      go_wp2
      go_roundw
      case rel => exact ⟨k + 1, by omega, by go_num, hw3⟩
      case measure => simp [intOf]; omega
    · have hkn : k = n := by omega
      subst hkn
      go_wp2
      go_ret
      exact ⟨rfl, hbel⟩

theorem sSameRows (a : Option Addr) (n c : Nat) (b : Option Addr) (m d : Nat) (l : List (Int × List Int)) (w : World) (h : RdW w a n c l) (g : RdW w b m d l) :
    Calls Try.prog 18 #[.slice a n c, .slice b m d] w fun e w' => e = .returned (.bool true) ∧ Below w.heap.size w w' := by
  obtain rfl : n = m := h.len.symm.trans g.len
  go_enter Try.func18, Try.ntmps18
  go_wp2_with fail
  refine (sEqualFunc _ _ _ _ _ _ _ h g).mono ?_
  rintro e w1 ⟨rfl, hb1⟩
  go_wp2
  go_ret
  exact ⟨rfl, hb1⟩
end
end Go.Proofs.Ytljlioglpaogdab
