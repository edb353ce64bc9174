/- croftref.SameRows: two lists of rows that read the same. · What the calls of package twine answer. -/
import Derived.Test.YtiegggenfdebnabToPlacedC
import Derived.Test.YtiegggenfdebnabToFaceC
import Derived.Test.YtiegggenfdebnabToTDealC
import Derived.Test.YtiegggenfdebnabToTPairM
import Derived.Test.YtiegggenfdebnabToTEqC
namespace Go.Proofs.Ytiegggenfdebnab
open Go.RowKit Crm

set_option maxRecDepth 100000 in
set_option maxHeartbeats 1000000 in
/-- The closure: two rows that read the same. -/
theorem sSameRow (x : Int) (a : Option Addr) (n c : Nat) (b : Option Addr) (m d : Nat) (xs : List Int) (w : World) (h : Rd w a n c xs) (g : Rd w b m d xs) :
    Calls Try.prog 34 #[.agg #[.int .i64 x, .slice a n c], .agg #[.int .i64 x, .slice b m d]] w fun e w' => e = .returned (.bool true) ∧ Below w.heap.size w w' := by
  have hbA : Below w.heap.size w (w.alloc (.cells #[.int .i64 x, .slice a n c] 70)) := (Below.refl _ _).alloc (Nat.le_refl _) _
  have hbB : Below w.heap.size w ((w.alloc (.cells #[.int .i64 x, .slice a n c] 70)).alloc (.cells #[.int .i64 x, .slice b m d] 70)) := hbA.alloc hbA.size _
  go_enter Try.func34, Try.ntmps34
  go_wp2_with fail
  refine (cSame _ _ _ _ _ _ _ _ (h.below hbB) (g.below hbB)).mono ?_
  rintro e w1 ⟨rfl, hb1⟩
  have hw1 := hbB.trans (hb1.mono hbB.size)
  clear hb1 hbA hbB
  go_wp2
  go_ret
  exact ⟨rfl, hw1⟩

set_option maxRecDepth 100000 in
set_option maxHeartbeats 1000000 in
theorem sEqualFunc (a : Option Addr) (n c : Nat) (b : Option Addr) (d : Nat) (l : List (Int × List Int)) (w : World) (h : RdW w a n c l) (g : RdW w b n d l) :
    Calls Try.prog 33 #[.slice a n c, .slice b n d, .func (.func 34) #[] #[]] w fun e w' => e = .returned (.bool true) ∧ Below w.heap.size w w' := by
  have hcap := h.cap
  have hmax := h.max
  unfold maxLen at hmax
  go_enter Try.func33, Try.ntmps33
  go_wp2
  go_loopw [17] (fun i wr => ∃ k : Nat, k ≤ n ∧ i = .int .i64 k ∧ Below w.heap.size w wr) (fun i _ => n - (intOf i).toNat)
  case atStart => exact ⟨0, Nat.zero_le _, rfl, Below.refl _ _⟩
  case round =>
    obtain ⟨k, hk, rfl, hbel⟩ := hrel
    have hs1 := hbel.size
    by_cases hlt : k < n
    · obtain ⟨b1, o1, x, a1, n1, c1, row, rfl, hbb, HX, HRow, hx0, hx1, hcx, hcr, hrow⟩ := (h.below hbel).one hlt
      obtain ⟨b2, o2, x2, a2, n2, c2, row2, rfl, hbb2, HX2, HRow2, hx02, hx12, hcx2, hcr2, hrow2⟩ := (g.below hbel).one hlt
      obtain rfl : x = x2 := HX.out.symm.trans HX2.out
      obtain rfl : row = row2 := HRow.out.symm.trans HRow2.out
      have hbA : Below wr.heap.size wr (wr.alloc (.cells #[.int .i64 x, .slice a1 n1 c1] 70)) := (Below.refl _ _).alloc (Nat.le_refl _) _
      have hcx2A : (wr.alloc (.cells #[.int .i64 x, .slice a1 n1 c1] 70)).cell? ⟨b2, o2 + k * 2, none⟩ = some (.int .i64 x) := by rw [hbA.cell hbb2]; exact hcx2
      have hcr2A : (wr.alloc (.cells #[.int .i64 x, .slice a1 n1 c1] 70)).cell? ⟨b2, o2 + k * 2 + 1, none⟩ = some (.slice a2 n2 c2) := by rw [hbA.cell hbb2]; exact hcr2
      have hbB : Below wr.heap.size wr ((wr.alloc (.cells #[.int .i64 x, .slice a1 n1 c1] 70)).alloc (.cells #[.int .i64 x, .slice a2 n2 c2] 70)) := hbA.alloc hbA.size _
      have hr1 := hrow.below hbB
      have hr2 := hrow2.below hbB
      have hbw := hbel.trans (hbB.mono hs1)
      clear hbA hbB hrow hrow2 HX HX2 HRow HRow2
      go_wp2_with fail
      refine (sSameRow _ _ _ _ _ _ _ _ _ hr1 hr2).mono ?_
      rintro e w3 ⟨rfl, hb3⟩
      have hw3 := hbw.trans (hb3.mono hbw.size)
      clear hr1 hr2 hbw hb3
      go_wp2
      go_roundw
      case rel => exact ⟨k + 1, by omega, by go_num, hw3⟩
      case measure => simp [intOf]; omega
    · have hkn : k = n := by omega
      subst hkn
      go_wp2
      go_ret
      exact ⟨rfl, hbel⟩

set_option maxRecDepth 100000 in
theorem sSameRows (a : Option Addr) (n c : Nat) (b : Option Addr) (m d : Nat) (l : List (Int × List Int)) (w : World) (h : RdW w a n c l) (g : RdW w b m d l) :
    Calls Try.prog 16 #[.slice a n c, .slice b m d] w fun e w' => e = .returned (.bool true) ∧ Below w.heap.size w w' := by
  obtain rfl : n = m := h.len.symm.trans g.len
  go_enter Try.func16, Try.ntmps16
  go_wp2_with fail
  refine (sEqualFunc _ _ _ _ _ _ _ h g).mono ?_
  rintro e w1 ⟨rfl, hb1⟩
  go_wp2
  go_ret
  exact ⟨rfl, hb1⟩
end Go.Proofs.Ytiegggenfdebnab

namespace Go.Proofs.Ytiegggenfdebnab
open Go.RowKit Crm

/-- How many numbers there are besides the secret. -/
def need2 (t : Nat) : Nat := (t + 1) * (t + 2) / 2 - 1
theorem need2_bd {t : Nat} (h : t ≤ 4) : need2 t ≤ 14 := by
  have hcase : t = 0 ∨ t = 1 ∨ t = 2 ∨ t = 3 ∨ t = 4 := by omega
  rcases hcase with rfl | rfl | rfl | rfl | rfl <;> decide
/-- What Need answers. -/
def Nds (t : Int) (w : World) (e : Ending) (w' : World) : Prop :=
  (((t < 0 ∨ 4 < t) ∧ e = .returned (.tuple #[.int .i64 0, .int .i64 1])) ∨ ∃ k : Nat, t = (k : Int) ∧ k ≤ 4 ∧ e = .returned (.tuple #[.int .i64 (need2 k : Nat), .int .i64 0])) ∧ Below w.heap.size w w'
/-- What is dealt with m draws for n parties is dealt rightly. -/
def Dwk (t n : Int) (m k : Nat) : Prop := t = (k : Int) ∧ k ≤ 4 ∧ m = need2 k ∧ (k : Int) + 1 ≤ n ∧ n ≤ 9
/-- What Deal answers. -/
def Dwl (s : Int) (ds : List Int) (t n : Int) (m : Nat) (w : World) (e : Ending) (w' : World) : Prop :=
  (((∀ k, ¬ Dwk t n m k) ∧ e = .returned (.tuple #[.slice none 0 0, .int .i64 1])) ∨ ∃ (k q : Nat) (v : Value) (L : List (Int × Value)), Dwk t n m k ∧ n = (q : Int) ∧ e = .returned (.tuple #[v, .int .i64 0]) ∧ LsW w' w.heap.size v L (dealA s ds k q)) ∧ Below w.heap.size w w'
/-- What Pairs answers. -/
def Pss (l : List (Int × List Int)) (n : Nat) (w : World) (e : Ending) (w' : World) : Prop :=
  ((¬ Rwk l n ∧ e = .returned (.tuple #[.slice none 0 0, .int .i64 5])) ∨ (Rwk l n ∧ ∃ a k c L, e = .returned (.tuple #[.slice a k c, .int .i64 0]) ∧ RdP w' a k c L ∧ Prs l n L)) ∧ Below w.heap.size w w'
/-- Rows that are dealt are read. -/
theorem deal_rd {w : World} {B : Nat} {v : Value} {L : List (Int × Value)} {s : Int} {ds : List Int} {t q : Nat} (h : LsW w B v L (dealA s ds t q)) (hq : q ≤ 9) : ∃ a c, v = .slice a q c ∧ RdW w a q c (dealA s ds t q) :=
  h.rdW (dealA_len _ _ _ _) (fun i hi => by unfold ta; rw [dealA_getD s ds t hi]; simp only; omega) (fun i hi => by unfold tc; rw [dealA_getD s ds t hi]; exact bd_u64 (rowK_bd _ _ _ _ _))
end Go.Proofs.Ytiegggenfdebnab
