/- poly.value, slices.Equal. · croftref.Wire. -/
import Derived.Test.YtljlioglpaogdabToAtsC
import Derived.Test.YtljlioglpaogdabToPolyM3
import Derived.Test.YtljlioglpaogdabToRows2
import Derived.Deep.QuietTactic
import Derived.BigQuiet
namespace Go.Proofs.Ytljlioglpaogdab
set_option linter.unusedVariables false
set_option maxRecDepth 100000
set_option maxHeartbeats 8000000
section
open Crm Go.RowKit
theorem drewN_below {B : Nat} {a w : World} (h : Below B a w) (n : Nat) : Below B a (w.drewN n) := by
  induction n with
  | zero => exact h
  | succ n ih => exact ih.drew

theorem take_eq {xs ys : List Int} {k : Nat} (h1 : k < xs.length) (h2 : k < ys.length) (h : xs.take k = ys.take k) (e : xs.getD k 0 = ys.getD k 0) : xs.take (k + 1) = ys.take (k + 1) := by
  rw [List.take_succ_eq_append_getElem h1, List.take_succ_eq_append_getElem h2, h]
  congr 2
  simpa [List.getElem?_eq_getElem h1, List.getElem?_eq_getElem h2] using e

theorem cEqual (a : Option Addr) (n c : Nat) (xs : List Int) (b : Option Addr) (m d : Nat) (ys : List Int) (w : World) (h : Rd w a n c xs) (g : Rd w b m d ys) :
    Calls Try.prog 12 #[.slice a n c, .slice b m d] w fun e w' => e = .returned (.bool (xs == ys)) ∧ Below w.heap.size w w' := by
  have hm := h.max
  have hcap := h.cap
  have hlen := h.len
  have gm := g.max
  have gcap := g.cap
  have glen := g.len
  unfold maxLen at hm gm
  by_cases hnm : n = m
  · subst hnm
    go_enter Try.func12, Try.ntmps12
    go_wp2
    go_loopw [13] (fun i wr => ∃ k : Nat, k ≤ n ∧ i = .int .i64 k ∧ Hid (xs.take k = ys.take k) ∧ Below w.heap.size w wr) (fun i _ => n - (intOf i).toNat)
    case atStart => exact ⟨0, Nat.zero_le _, rfl, rfl, Below.refl _ _⟩
    case round =>
      obtain ⟨k, hk, rfl, HT, hbel⟩ := hrel
      by_cases hlt : k < n
      · obtain ⟨b1, o1, x, rfl, hb1, HX, hx0, hx1, hc1⟩ := (h.below hbel).one hlt
        obtain ⟨b2, o2, y, rfl, hb2, HY, hy0, hy1, hc2⟩ := (g.below hbel).one hlt
        by_cases hxy : x = y
        · subst hxy
          go_wp2
          go_region
          all_goals go_wp2
          all_goals
            go_roundw
            case rel => exact ⟨k + 1, by omega, by go_num, take_eq (by omega) (by omega) HT.out (HX.out.trans HY.out.symm), by first | exact hbel.drew | exact hbel.drew.drew⟩
            case measure => simp [intOf]; omega
        · have hxb : (x != y) = true := by rw [bne_iff_ne]; exact hxy
          go_wp2
          have HE : Hid ((xs == ys) = false) := by
            refine beq_eq_false_iff_ne.2 fun e => hxy ?_
            rw [← HX.out, ← HY.out, e]
          go_region
          all_goals go_wp2
          all_goals
            go_ret
            rw [HE.out]
            exact ⟨rfl, by first | exact hbel.drew | exact hbel.drew.drew⟩
      · have HE : Hid ((xs == ys) = true) := by
          refine beq_iff_eq.2 ?_
          have := HT.out
          rwa [List.take_of_length_le (by omega), List.take_of_length_le (by omega)] at this
        go_wp2
        go_ret
        rw [HE.out]
        exact ⟨rfl, hbel⟩
  · have hb : ((n : Int) != (m : Int)) = true := by rw [bne_iff_ne]; omega
    go_enter Try.func12, Try.ntmps12
    have HE : Hid ((xs == ys) = false) := beq_eq_false_iff_ne.2 fun e => hnm (by rw [← hlen, ← glen, e])
    go_wp2
    go_ret
    rw [HE.out]
    exact ⟨rfl, Below.refl _ _⟩

theorem nil_rd (w : World) : Rd w none 0 0 [] := ⟨rfl, Nat.le_refl _, Nat.zero_le _, by simp, fun _ => rfl, by simp⟩

/-- Two slices that read the same are equal. -/
theorem cSame (a : Option Addr) (n c : Nat) (xs : List Int) (b : Option Addr) (m d : Nat) (w : World) (h : Rd w a n c xs) (g : Rd w b m d xs) :
    Calls Try.prog 12 #[.slice a n c, .slice b m d] w fun e w' => e = .returned (.bool true) ∧ Below w.heap.size w w' := by
  refine (cEqual _ _ _ _ _ _ _ _ _ h g).mono ?_
  rintro e w' ⟨rfl, hb⟩
  exact ⟨by rw [beq_self_eq_true], hb⟩
/-- Slices of which the lengths are read. -/
structure RdL (w : World) (g k : Nat) (ns : List Nat) : Prop where
  len : ns.length = k
  lt : g < w.heap.size
  cell : ∀ i, i < k → ∃ ai ci, w.cell? ⟨g, i, none⟩ = some (.slice ai (ns.getD i 0) ci)
theorem rdL_one (w : World) (a : Option Addr) (n c : Nat) (E : TypeId) : RdL (w.alloc (.cells #[.slice a n c] E)) w.heap.size 1 [n] := by
  refine ⟨rfl, by simp, fun i hi => ?_⟩
  obtain rfl : i = 0 := by omega
  exact ⟨a, c, by rw [cell_of_row _ _ 0 _ E (0, 0) (heap_alloc_new w _)]; rfl⟩
theorem rdL_two (w : World) (a : Option Addr) (n c : Nat) (b : Option Addr) (m d : Nat) (E : TypeId) : RdL (w.alloc (.cells #[.slice a n c, .slice b m d] E)) w.heap.size 2 [n, m] := by
  refine ⟨rfl, by simp, fun i hi => ?_⟩
  match i, hi with
  | 0, _ => exact ⟨a, c, by rw [cell_of_row _ _ 0 _ E (0, 0) (heap_alloc_new w _)]; rfl⟩
  | 1, _ => exact ⟨b, d, by rw [cell_of_row _ _ 1 _ E (0, 0) (heap_alloc_new w _)]; rfl⟩
theorem RdL.below {w w' : World} {g k : Nat} {ns : List Nat} (h : RdL w g k ns) (hb : Below w.heap.size w w') : RdL w' g k ns := by
  refine ⟨h.len, Nat.lt_of_lt_of_le h.lt hb.size, fun i hi => ?_⟩
  obtain ⟨a, c, e⟩ := h.cell i hi
  exact ⟨a, c, by rw [hb.cell (World.block_lt_of_cell? w _ e)]; exact e⟩
/-- Lists of 1 to 9 numbers, all as long. -/
def Wk (ns : List Nat) (k : Nat) : Prop := (1 ≤ ns.getD 0 0 ∧ ns.getD 0 0 ≤ 9) ∧ ∀ i, i < k → ns.getD i 0 = ns.getD 0 0

theorem rWire (g k : Nat) (ns : List Nat) (w : World) (h : RdL w g k ns) (hk0 : 0 < k) (hk : k ≤ 100) (hm : ∀ i, ns.getD i 0 ≤ 9223372036854775807) :
    Calls Try.prog 26 #[.slice (some ⟨g, 0, none⟩) k k] w fun e w' => Tells (Wk ns k) w e w' := by
  have hgl := h.lt
  obtain ⟨a0, c0, hc0⟩ := h.cell 0 hk0
  obtain ⟨N, HN⟩ : ∃ N, Hid (ns.getD 0 0 = N) := ⟨_, rfl⟩
  have hN := hm 0
  rw [HN.out] at hc0 hN
  have HM : Hid (∀ i, ns.getD i 0 ≤ 9223372036854775807) := hm
  clear hm
  go_enter Try.func26, Try.ntmps26
  obtain ⟨b0, hb0, HB0⟩ : ∃ b0, b0 = decide (1 ≤ N ∧ N ≤ 9) ∧ Hid (b0 = true ↔ (1 ≤ N ∧ N ≤ 9)) := ⟨_, rfl, by unfold Hid; simp⟩
  by_cases hin : (N : Int) < 1 ∨ 9 < (N : Int)
  · have HF : Hid ((N : Int) < 1 ∨ 9 < (N : Int)) := hin
    have HX : Hid (¬ Wk ns k) := fun e => by have := e.1; rw [HN.out] at this; omega
    clear hin hb0 HB0
    go_wp2_with (go_at_call 16; refine (rInN _ _ _ _ HF.out).mono ?_; rintro e w' ⟨rfl, hw⟩; have hw := hw.symm; subst hw)
    go_loopw [3, 4] (fun v q wr => ∃ i : Nat, i ≤ k ∧ q = .int .i64 i ∧ v = .bool false ∧ Below w.heap.size w wr) (fun _ q _ => k - (intOf q).toNat)
    case atStart => exact ⟨0, Nat.zero_le _, rfl, rfl, Below.refl _ _⟩
    case round =>
      obtain ⟨i, hi, rfl, rfl, hbel⟩ := hrel
      by_cases hlt : i < k
      · go_wp2_with fail
        go_quiet (fail)
        all_goals
          go_wp2
          go_roundw
          case rel => exact ⟨i + 1, by omega, by go_num, rfl, drewN_below hbel _⟩
          case measure => simp [intOf]; omega
      · have hik : i = k := by omega
        subst hik
        go_wp2
        go_ret
        exact .no HX.out hbel
  · clear hb0 HB0
    have hi1 : (1 : Int) ≤ (N : Int) := by omega
    have hi9 : (N : Int) ≤ 9 := by omega
    clear hin
    go_wp2_with (go_at_call 16; refine (rInY _ _ _ _ hi1 hi9).mono ?_; rintro e w' ⟨rfl, hw⟩; have hw := hw.symm; subst hw)
    go_loopw [3, 4] (fun v q wr => ∃ (i : Nat) (b : Bool), i ≤ k ∧ q = .int .i64 i ∧ v = .bool b ∧ Hid (b = true ↔ ∀ j, j < i → ns.getD j 0 = N) ∧ Below w.heap.size w wr) (fun _ q _ => k - (intOf q).toNat)
    case atStart => exact ⟨0, true, Nat.zero_le _, rfl, rfl, ⟨fun _ j hj => by omega, fun _ => rfl⟩, Below.refl _ _⟩
    case round =>
      obtain ⟨i, b, hi, rfl, rfl, HB, hbel⟩ := hrel
      by_cases hlt : i < k
      · cases b with
        | false =>
          have HB2 : Hid (false = true ↔ ∀ j, j < i + 1 → ns.getD j 0 = N) := ⟨fun e => (by cases e), fun e => HB.out.2 fun j hj => e j (by omega)⟩
          clear HB
          go_wp2_with fail
          go_quiet (fail)
          all_goals
            go_wp2
            go_roundw
            case rel => exact ⟨i + 1, false, by omega, by go_num, rfl, HB2, drewN_below hbel _⟩
            case measure => simp [intOf]; omega
        | true =>
          have hR := h.below hbel
          have hgr := hR.lt
          obtain ⟨ai, ci, hci⟩ := hR.cell i hlt
          have hc0r : wr.cell? ⟨g, 0, none⟩ = some (.slice a0 N c0) := by rw [hbel.cell (p := ⟨g, 0, none⟩) hgl]; exact hc0
          obtain ⟨M, HMi⟩ : ∃ M, Hid (ns.getD i 0 = M) := ⟨_, rfl⟩
          have hM := HM.out i
          rw [HMi.out] at hci hM
          by_cases hMN : M = N
          · have hmb : ((M : Int) == (N : Int)) = true := by rw [beq_iff_eq]; omega
            have HB2 : Hid (∀ j, j < i + 1 → ns.getD j 0 = N) := fun j hj => by
              by_cases e : j = i
              · rw [e, HMi.out]; exact hMN
              · exact HB.out.1 rfl j (by omega)
            clear hMN HB
            go_wp2_with fail
            go_quiet (fail)
            all_goals
              go_wp2
              go_roundw
              case rel => exact ⟨i + 1, true, by omega, by go_num, rfl, ⟨fun _ => HB2.out, fun _ => rfl⟩, drewN_below hbel _⟩
              case measure => simp [intOf]; omega
          · have hmb : ((M : Int) == (N : Int)) = false := by rw [beq_eq_false_iff_ne]; omega
            have HB2 : Hid (false = true ↔ ∀ j, j < i + 1 → ns.getD j 0 = N) := ⟨fun e => (by cases e), fun e => absurd (e i (by omega)) (by rw [HMi.out]; exact hMN)⟩
            clear hMN HB
            go_wp2_with fail
            go_quiet (fail)
            all_goals
              go_wp2
              go_roundw
              case rel => exact ⟨i + 1, false, by omega, by go_num, rfl, HB2, drewN_below hbel _⟩
              case measure => simp [intOf]; omega
      · have hik : i = k := by omega
        subst hik
        have HE : Hid (b = true ↔ Wk ns i) := by
          unfold Hid
          rw [HB.out]
          unfold Wk
          rw [HN.out]
          exact ⟨fun e => ⟨⟨by omega, by omega⟩, e⟩, fun e => e.2⟩
        clear HB
        go_wp2
        go_ret
        exact ⟨b, rfl, HE.out, hbel⟩
end
end Go.Proofs.Ytljlioglpaogdab
