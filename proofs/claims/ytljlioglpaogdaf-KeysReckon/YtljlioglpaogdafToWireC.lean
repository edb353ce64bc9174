/- poly.value, slices.Equal. · croftref.Wire. -/
import Derived.Test.YtljlioglpaogdafToCheckC
import Derived.Test.YtljlioglpaogdafToGaussM
import Derived.Test.YtljlioglpaogdafToBadM
import Derived.Deep.QuietTactic
import Derived.BigQuiet
namespace Go.Proofs.Ytljlioglpaogdaf
set_option linter.unusedVariables false
set_option maxRecDepth 100000
set_option maxHeartbeats 8000000
section
open Crm Go.RowKit
theorem drewN_below {B : Nat} {a w : World} (h : Below B a w) (n : Nat) : Below B a (w.drewN n) := by
  induction n with
  | zero => exact h
  | succ n ih => exact ih.drew

theorem horner (xs : List Int) (x : Int) {m : Nat} {y z : Int} (h : m < xs.length) (hy : y = nm (ev (xs.drop (m + 1)) x)) (hz : xs.getD m 0 = z) : nm (nm (y * x) + z) = nm (ev (xs.drop m) x) := by
  rw [ev_drop xs x h, hy, hz, nm_addl]
  have : ∀ E : Int, nm (nm E * x + z) = nm (z + x * E) := fun E => by
    rw [Int.add_comm, ← nm_addr, nm_mull, nm_addr, Int.mul_comm x]
  exact this _

theorem cValueQ (a : Option Addr) (n c : Nat) (xs : List Int) (x : Int) (w : World) (h : Rd w a n c xs) (hx0 : 0 ≤ x) (hx1 : x ≤ 18446744073709551615) :
    Calls Try.prog 37 #[.slice a n c, .int .u64 x] w fun e w' => e = .returned (.int .u64 (nm (ev xs x))) ∧ ∃ q, w' = w.drewN q := by
  have hm := h.max
  have hcap := h.cap
  have hlen := h.len
  unfold maxLen at hm
  go_enter Try.func37, Try.ntmps37
  go_wp2
  go_loopw [5, 6] (fun s i wr => ∃ (k : Nat) (y : Int) (q : Nat), k ≤ n ∧ i = .int .i64 ((k : Int) - 1) ∧ s = .int .u64 y ∧ 0 ≤ y ∧ y ≤ 2147483646 ∧ Hid (y = nm (ev (xs.drop k) x)) ∧ wr = w.drewN q) (fun _ i _ => (intOf i + 1).toNat)
  case atStart => exact ⟨n, 0, 0, Nat.le_refl _, rfl, rfl, by omega, by omega, by rw [List.drop_of_length_le (by omega)]; exact rfl, rfl⟩
  case round =>
    obtain ⟨k, y, q, hk, rfl, rfl, hy0, hy1, HY, hwr⟩ := hrel
    have hbel : Below w.heap.size w wr := by rw [hwr]; exact drewN_below (Below.refl _ _) q
    have HW : Hid (wr = w.drewN q) := hwr
    clear hwr
    cases k with
    | zero =>
      go_wp2
      go_ret
      rw [← List.drop_zero (l := xs), ← HY.out]
      exact ⟨rfl, q, HW.out⟩
    | succ m =>
      obtain ⟨b, o, z, rfl, hb, HZ, hz0, hz1, hc⟩ := (h.below hbel).one (show m < n by omega)
      have hmul := nm_bd (y * x)
      have hk0 : (0 : Int) ≤ (m : Int) := by omega
      have hkn : (m : Int) < (n : Int) := by omega
      go_wp2
      go_quiet ((first | (go_at_call 14; exact Calls.quiet_of_same (fMul _ _ _ (by omega) (by omega) (by omega) (by omega))) | (go_at_call 13; exact Calls.quiet_of_same (fAdd _ _ _ (by omega) (by omega) (by omega) (by omega)))))
      all_goals
        go_wp2
        go_roundw
        case rel => exact ⟨m, _, _, by omega, by go_num, rfl, (nm_bd _).1, (nm_bd _).2, horner xs x (by omega) HY.out HZ.out, by rw [HW.out, World.drewN_drewN]⟩
        case measure => simp [intOf]

theorem cValue (a : Option Addr) (n c : Nat) (xs : List Int) (x : Int) (w : World) (h : Rd w a n c xs) (hx0 : 0 ≤ x) (hx1 : x ≤ 18446744073709551615) :
    Calls Try.prog 37 #[.slice a n c, .int .u64 x] w fun e w' => e = .returned (.int .u64 (nm (ev xs x))) ∧ Below w.heap.size w w' := by
  refine (cValueQ _ _ _ _ _ _ h hx0 hx1).mono ?_
  rintro e w' ⟨he, q, rfl⟩
  exact ⟨he, drewN_below (Below.refl _ _) q⟩

theorem nil_rd (w : World) : Rd w none 0 0 [] := ⟨rfl, Nat.le_refl _, Nat.zero_le _, by simp, fun _ => rfl, by simp⟩
/-- Slices of which the lengths are read. -/
structure RdL (w : World) (g k : Nat) (ns : List Nat) : Prop where
  len : ns.length = k
  lt : g < w.heap.size
  cell : ∀ i, i < k → ∃ ai ci, w.cell? ⟨g, i, none⟩ = some (.slice ai (ns.getD i 0) ci)
theorem rdL_one (w : World) (a : Option Addr) (n c : Nat) (E : TypeId) : RdL (w.alloc (.cells #[.slice a n c] E)) w.heap.size 1 [n] := by
  refine ⟨rfl, by simp, fun i hi => ?_⟩
  obtain rfl : i = 0 := by omega
  exact ⟨a, c, by rw [cell_of_row _ _ 0 _ E (0, 0) (heap_alloc_new w _)]; rfl⟩
theorem rdL_two (w : World) (a : Option Addr) (n c : Nat) (b : Option Addr) (m d : Nat) (E : TypeId) : RdL (w.alloc (.cells #[.slice a n c, .slice b m d] E)) w.heap.size 2 [n, m] := by
  refine ⟨rfl, by simp, fun i hi => ?_⟩
  match i, hi with
  | 0, _ => exact ⟨a, c, by rw [cell_of_row _ _ 0 _ E (0, 0) (heap_alloc_new w _)]; rfl⟩
  | 1, _ => exact ⟨b, d, by rw [cell_of_row _ _ 1 _ E (0, 0) (heap_alloc_new w _)]; rfl⟩
theorem RdL.below {w w' : World} {g k : Nat} {ns : List Nat} (h : RdL w g k ns) (hb : Below w.heap.size w w') : RdL w' g k ns := by
  refine ⟨h.len, Nat.lt_of_lt_of_le h.lt hb.size, fun i hi => ?_⟩
  obtain ⟨a, c, e⟩ := h.cell i hi
  exact ⟨a, c, by rw [hb.cell (World.block_lt_of_cell? w _ e)]; exact e⟩
/-- Lists of 1 to 9 numbers, all as long. -/
def Wk (ns : List Nat) (k : Nat) : Prop := (1 ≤ ns.getD 0 0 ∧ ns.getD 0 0 ≤ 9) ∧ ∀ i, i < k → ns.getD i 0 = ns.getD 0 0
end
end Go.Proofs.Ytljlioglpaogdaf
