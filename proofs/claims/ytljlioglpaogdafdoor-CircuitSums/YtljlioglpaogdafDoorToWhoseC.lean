/- croftref.Circuit. · Package circuit: isAhead, gateRight. · Package circuit: Check. · croftref.Whose. -/
import Derived.Test.YtljlioglpaogdafDoorToShpM
import Derived.Test.YtljlioglpaogdafDoorToShortC
import Derived.Test.YtljlioglpaogdafDoorToShamirM
import Derived.Test.YtljlioglpaogdafDoorToPolyM3
import Derived.Test.YtljlioglpaogdafDoorValC
import Derived.BigQuiet
import Derived.Deep.RegionWith
import Derived.Deep.DeepCutAuto
import Derived.Test.YtljlioglpaogdafDoorProg
import Derived.Test.YtljlioglpaogdafDoorToMulC
namespace Go.Proofs.YtljlioglpaogdafDoor
set_option linter.unusedVariables false
set_option maxRecDepth 100000
set_option maxHeartbeats 8000000
section
open Crm Go.RowKit
/-- The cells of a gate that is boxed. -/
theorem gate_box (w : World) (k x y z : Int) (E : TypeId) : (w.alloc (.cells #[.int .i64 k, .int .i64 x, .int .i64 y, .int .u64 z] E)).cell? ⟨w.heap.size, 0, none⟩ = some (.int .i64 k) ∧ (w.alloc (.cells #[.int .i64 k, .int .i64 x, .int .i64 y, .int .u64 z] E)).cell? ⟨w.heap.size, 1, none⟩ = some (.int .i64 x) ∧ (w.alloc (.cells #[.int .i64 k, .int .i64 x, .int .i64 y, .int .u64 z] E)).cell? ⟨w.heap.size, 2, none⟩ = some (.int .i64 y) ∧ (w.alloc (.cells #[.int .i64 k, .int .i64 x, .int .i64 y, .int .u64 z] E)).cell? ⟨w.heap.size, 3, none⟩ = some (.int .u64 z) := by
  have h := heap_alloc_new w (.cells #[.int .i64 k, .int .i64 x, .int .i64 y, .int .u64 z] E)
  refine ⟨?_, ?_, ?_, ?_⟩ <;> (rw [cell_of_row _ _ _ _ E (0, 0) h]; rfl)
/-- A circuit that is boxed. -/
def CBox (w : World) (g : Nat) (ag : Option Addr) (n cg : Nat) (ao : Option Addr) (m co : Nat) : Prop := w.heap[g]? = some (.cells #[.slice ag n cg, .slice ao m co] 25 (0, 0))
theorem CBox.lt {w : World} {g : Nat} {ag : Option Addr} {n cg : Nat} {ao : Option Addr} {m co : Nat} (h : CBox w g ag n cg ao m co) : g < w.heap.size := (Array.getElem?_eq_some_iff.1 h).1
theorem CBox.cells {w : World} {g : Nat} {ag : Option Addr} {n cg : Nat} {ao : Option Addr} {m co : Nat} (h : CBox w g ag n cg ao m co) : w.cell? ⟨g, 0, none⟩ = some (.slice ag n cg) ∧ w.cell? ⟨g, 1, none⟩ = some (.slice ao m co) := by
  unfold CBox at h
  rw [cell_of_row w g 0 _ _ (0, 0) h, cell_of_row w g 1 _ _ (0, 0) h]
  exact ⟨rfl, rfl⟩
theorem CBox.below {w w' : World} {B g : Nat} {ag : Option Addr} {n cg : Nat} {ao : Option Addr} {m co : Nat} (h : CBox w g ag n cg ao m co) (hb : Below B w w') (hg : g < B) : CBox w' g ag n cg ao m co := by
  unfold CBox; rw [hb.block g hg]; exact h
theorem CBox.new (w : World) (ag : Option Addr) (n cg : Nat) (ao : Option Addr) (m co : Nat) : CBox (w.alloc (.cells #[.slice ag n cg, .slice ao m co] 25)) w.heap.size ag n cg ao m co := heap_alloc_new w _
theorem cAheadY (x c : Int) (w : World) (h0 : 0 ≤ x) (h1 : x < c) : Calls Tryd.prog 38 #[.int .i64 x, .int .i64 c] w fun e w' => e = .returned (.bool true) ∧ w' = w := by
  go_enter Tryd.func38, Tryd.ntmps38
  go_wp2
  go_ret
  exact ⟨rfl, rfl⟩
theorem cAheadN (x c : Int) (w : World) (h : x < 0 ∨ c ≤ x) : Calls Tryd.prog 38 #[.int .i64 x, .int .i64 c] w fun e w' => e = .returned (.bool false) ∧ w' = w := by
  by_cases h0 : x < 0
  · go_enter Tryd.func38, Tryd.ntmps38
    go_wp2
    go_ret
    exact ⟨rfl, rfl⟩
  · have h1 : ¬ x < c := by omega
    have h2 : 0 ≤ x := by omega
    clear h h0
    go_enter Tryd.func38, Tryd.ntmps38
    go_wp2
    go_ret
    exact ⟨rfl, rfl⟩
/-- The cells of a shape that is boxed. -/
theorem shape_box (w : World) (s : ByteArray) (a b n : Bool) (E : TypeId) : (w.alloc (.cells #[.string s, .bool a, .bool b, .bool n] E)).cell? ⟨w.heap.size, 0, none⟩ = some (.string s) ∧ (w.alloc (.cells #[.string s, .bool a, .bool b, .bool n] E)).cell? ⟨w.heap.size, 1, none⟩ = some (.bool a) ∧ (w.alloc (.cells #[.string s, .bool a, .bool b, .bool n] E)).cell? ⟨w.heap.size, 2, none⟩ = some (.bool b) ∧ (w.alloc (.cells #[.string s, .bool a, .bool b, .bool n] E)).cell? ⟨w.heap.size, 3, none⟩ = some (.bool n) := by
  have h := heap_alloc_new w (.cells #[.string s, .bool a, .bool b, .bool n] E)
  refine ⟨?_, ?_, ?_, ?_⟩ <;> (rw [cell_of_row _ _ _ _ E (0, 0) h]; rfl)

/-- What gateRight answers. -/
def Gri (i : Nat) (g : Gt) (w : World) (e : Ending) (w' : World) : Prop := ((okg i g ∧ e = .returned (.bool true)) ∨ (¬ okg i g ∧ e = .returned (.bool false))) ∧ Below w.heap.size w w'
theorem Gri.y {i : Nat} {g : Gt} {w w' : World} (h : okg i g) (hb : Below w.heap.size w w') : Gri i g w (.returned (.bool true)) w' := ⟨.inl ⟨h, rfl⟩, hb⟩
theorem Gri.n {i : Nat} {g : Gt} {w w' : World} (h : ¬ okg i g) (hb : Below w.heap.size w w') : Gri i g w (.returned (.bool false)) w' := ⟨.inr ⟨h, rfl⟩, hb⟩

theorem cGateRight (k x y z : Int) (i : Nat) (w : World) (hk : -9223372036854775808 ≤ k ∧ k ≤ 9223372036854775807) (hx : -9223372036854775808 ≤ x ∧ x ≤ 9223372036854775807) (hy : -9223372036854775808 ≤ y ∧ y ≤ 9223372036854775807) (hz : 0 ≤ z ∧ z ≤ 18446744073709551615) (hS : Shp w) :
    Calls Tryd.prog 37 #[.agg #[.int .i64 k, .int .i64 x, .int .i64 y, .int .u64 z], .int .i64 i] w fun e w' => Gri i ⟨k, x, y, z⟩ w e w' := by
  have hb0 : Below w.heap.size w (w.alloc (.cells #[.int .i64 k, .int .i64 x, .int .i64 y, .int .u64 z] 43)) := (Below.refl _ _).alloc (Nat.le_refl _) _
  obtain ⟨q1, q2, q3, q4⟩ := gate_box w k x y z 43
  have hlt : w.heap.size < (w.alloc (.cells #[.int .i64 k, .int .i64 x, .int .i64 y, .int .u64 z] 43)).heap.size := by simp
  go_enter Tryd.func37, Tryd.ntmps37
  go_upto_region 1 with fail
  generalize w.alloc (.cells #[.int .i64 k, .int .i64 x, .int .i64 y, .int .u64 z] 43) = W at *
  have hS0 := hS.below hb0
  clear hS
  by_cases hk1 : k < 1
  · have HN : Hid (¬ okg i ⟨k, x, y, z⟩) := by unfold Hid okg; simp only; omega
    go_wp2
    go_ret
    exact Gri.n HN.out hb0
  by_cases hk6 : 6 < k
  · have HN : Hid (¬ okg i ⟨k, x, y, z⟩) := by unfold Hid okg; simp only; omega
    go_wp2
    go_ret
    exact Gri.n HN.out hb0
  have hkk : k = 1 ∨ k = 2 ∨ k = 3 ∨ k = 4 ∨ k = 5 ∨ k = 6 := by omega
  clear hk1 hk6
  rcases hkk with rfl | rfl | rfl | rfl | rfl | rfl
  · obtain ⟨s0, s1, s2, s3⟩ := hS0.at1
    have slt := hS0.lt
    have hb1' : Below W.heap.size W (W.alloc (.cells #[.string ⟨#[105, 110, 112, 117, 116]⟩, .bool true, .bool false, .bool false] 85)) := (Below.refl _ _).alloc (Nat.le_refl _) _
    have hb1 := hb0.trans (hb1'.mono hb0.size)
    obtain ⟨t0, t1, t2, t3⟩ := shape_box W ⟨#[105, 110, 112, 117, 116]⟩ true false false 85
    have hlt1 : W.heap.size < (W.alloc (.cells #[.string ⟨#[105, 110, 112, 117, 116]⟩, .bool true, .bool false, .bool false] 85)).heap.size := by simp
    have r1 : (W.alloc (.cells #[.string ⟨#[105, 110, 112, 117, 116]⟩, .bool true, .bool false, .bool false] 85)).cell? ⟨w.heap.size, 0, none⟩ = some (.int .i64 1) := by rw [hb1'.cell (p := ⟨w.heap.size, 0, none⟩) hlt]; exact q1
    have r2 : (W.alloc (.cells #[.string ⟨#[105, 110, 112, 117, 116]⟩, .bool true, .bool false, .bool false] 85)).cell? ⟨w.heap.size, 1, none⟩ = some (.int .i64 x) := by rw [hb1'.cell (p := ⟨w.heap.size, 1, none⟩) hlt]; exact q2
    have r3 : (W.alloc (.cells #[.string ⟨#[105, 110, 112, 117, 116]⟩, .bool true, .bool false, .bool false] 85)).cell? ⟨w.heap.size, 2, none⟩ = some (.int .i64 y) := by rw [hb1'.cell (p := ⟨w.heap.size, 2, none⟩) hlt]; exact q3
    have r4 : (W.alloc (.cells #[.string ⟨#[105, 110, 112, 117, 116]⟩, .bool true, .bool false, .bool false] 85)).cell? ⟨w.heap.size, 3, none⟩ = some (.int .u64 z) := by rw [hb1'.cell (p := ⟨w.heap.size, 3, none⟩) hlt]; exact q4
    have hlt2 := Nat.lt_trans hlt hlt1
    go_upto_region 4 with fail
    generalize W.alloc (.cells #[.string ⟨#[105, 110, 112, 117, 116]⟩, .bool true, .bool false, .bool false] 85) = V at *
    clear s0 s1 s2 s3 q1 q2 q3 q4 hb1' hb0 hS0
    by_cases hy0 : y = 0
    · subst hy0
      by_cases hz0 : z = 0
      · subst hz0
        by_cases hx1 : x < 1
        · have HN : Hid (¬ okg i ⟨1, x, 0, 0⟩) := by unfold Hid okg; simp only; omega
          go_wp2
          go_ret
          exact Gri.n HN.out hb1
        · by_cases hx9 : 9 < x
          · have hx9n : ¬ x ≤ 9 := by omega
            clear hx9
            have HN : Hid (¬ okg i ⟨1, x, 0, 0⟩) := by unfold Hid okg; simp only; omega
            go_wp2
            go_ret
            exact Gri.n HN.out hb1
          · have HY : Hid (okg i ⟨1, x, 0, 0⟩) := .inl ⟨rfl, ⟨by simp only; omega, by simp only; omega⟩, rfl, rfl⟩
            go_wp2
            go_ret
            exact Gri.y HY.out hb1
      · have hbz : (z == 0) = false := by rw [beq_eq_false_iff_ne]; exact hz0
        have hcz : (z != 0) = true := by rw [bne_iff_ne]; exact hz0
        have HN : Hid (¬ okg i ⟨1, x, 0, z⟩) := by unfold Hid okg; simp only; omega
        go_wp2
        go_ret
        exact Gri.n HN.out hb1
    · have hby : (y == 0) = false := by rw [beq_eq_false_iff_ne]; exact hy0
      have hcy : (y != 0) = true := by rw [bne_iff_ne]; exact hy0
      have HN : Hid (¬ okg i ⟨1, x, y, z⟩) := by unfold Hid okg; simp only; omega
      go_wp2
      go_ret
      exact Gri.n HN.out hb1
  · obtain ⟨s0, s1, s2, s3⟩ := hS0.at2
    have slt := hS0.lt
    have hb1' : Below W.heap.size W (W.alloc (.cells #[.string ⟨#[99, 111, 110, 115, 116]⟩, .bool false, .bool false, .bool true] 85)) := (Below.refl _ _).alloc (Nat.le_refl _) _
    have hb1 := hb0.trans (hb1'.mono hb0.size)
    obtain ⟨t0, t1, t2, t3⟩ := shape_box W ⟨#[99, 111, 110, 115, 116]⟩ false false true 85
    have hlt1 : W.heap.size < (W.alloc (.cells #[.string ⟨#[99, 111, 110, 115, 116]⟩, .bool false, .bool false, .bool true] 85)).heap.size := by simp
    have r1 : (W.alloc (.cells #[.string ⟨#[99, 111, 110, 115, 116]⟩, .bool false, .bool false, .bool true] 85)).cell? ⟨w.heap.size, 0, none⟩ = some (.int .i64 2) := by rw [hb1'.cell (p := ⟨w.heap.size, 0, none⟩) hlt]; exact q1
    have r2 : (W.alloc (.cells #[.string ⟨#[99, 111, 110, 115, 116]⟩, .bool false, .bool false, .bool true] 85)).cell? ⟨w.heap.size, 1, none⟩ = some (.int .i64 x) := by rw [hb1'.cell (p := ⟨w.heap.size, 1, none⟩) hlt]; exact q2
    have r3 : (W.alloc (.cells #[.string ⟨#[99, 111, 110, 115, 116]⟩, .bool false, .bool false, .bool true] 85)).cell? ⟨w.heap.size, 2, none⟩ = some (.int .i64 y) := by rw [hb1'.cell (p := ⟨w.heap.size, 2, none⟩) hlt]; exact q3
    have r4 : (W.alloc (.cells #[.string ⟨#[99, 111, 110, 115, 116]⟩, .bool false, .bool false, .bool true] 85)).cell? ⟨w.heap.size, 3, none⟩ = some (.int .u64 z) := by rw [hb1'.cell (p := ⟨w.heap.size, 3, none⟩) hlt]; exact q4
    have hlt2 := Nat.lt_trans hlt hlt1
    go_upto_region 4 with fail
    generalize W.alloc (.cells #[.string ⟨#[99, 111, 110, 115, 116]⟩, .bool false, .bool false, .bool true] 85) = V at *
    clear s0 s1 s2 s3 q1 q2 q3 q4 hb1' hb0 hS0
    by_cases hx0 : x = 0
    · subst hx0
      by_cases hy0 : y = 0
      · subst hy0
        have HY : Hid (okg i ⟨2, 0, 0, z⟩) := .inr (.inl ⟨rfl, rfl, rfl⟩)
        go_wp2
        go_ret
        exact Gri.y HY.out hb1
      · have hby : (y == 0) = false := by rw [beq_eq_false_iff_ne]; exact hy0
        have hcy : (y != 0) = true := by rw [bne_iff_ne]; exact hy0
        have HN : Hid (¬ okg i ⟨2, 0, y, z⟩) := by unfold Hid okg; simp only; omega
        go_wp2
        go_ret
        exact Gri.n HN.out hb1
    · have hbx : (x == 0) = false := by rw [beq_eq_false_iff_ne]; exact hx0
      have hcx : (x != 0) = true := by rw [bne_iff_ne]; exact hx0
      have HN : Hid (¬ okg i ⟨2, x, y, z⟩) := by unfold Hid okg; simp only; omega
      go_wp2
      go_ret
      exact Gri.n HN.out hb1
  · obtain ⟨s0, s1, s2, s3⟩ := hS0.at3
    have slt := hS0.lt
    have hb1' : Below W.heap.size W (W.alloc (.cells #[.string ⟨#[97, 100, 100]⟩, .bool true, .bool true, .bool false] 85)) := (Below.refl _ _).alloc (Nat.le_refl _) _
    have hb1 := hb0.trans (hb1'.mono hb0.size)
    obtain ⟨t0, t1, t2, t3⟩ := shape_box W ⟨#[97, 100, 100]⟩ true true false 85
    have hlt1 : W.heap.size < (W.alloc (.cells #[.string ⟨#[97, 100, 100]⟩, .bool true, .bool true, .bool false] 85)).heap.size := by simp
    have r1 : (W.alloc (.cells #[.string ⟨#[97, 100, 100]⟩, .bool true, .bool true, .bool false] 85)).cell? ⟨w.heap.size, 0, none⟩ = some (.int .i64 3) := by rw [hb1'.cell (p := ⟨w.heap.size, 0, none⟩) hlt]; exact q1
    have r2 : (W.alloc (.cells #[.string ⟨#[97, 100, 100]⟩, .bool true, .bool true, .bool false] 85)).cell? ⟨w.heap.size, 1, none⟩ = some (.int .i64 x) := by rw [hb1'.cell (p := ⟨w.heap.size, 1, none⟩) hlt]; exact q2
    have r3 : (W.alloc (.cells #[.string ⟨#[97, 100, 100]⟩, .bool true, .bool true, .bool false] 85)).cell? ⟨w.heap.size, 2, none⟩ = some (.int .i64 y) := by rw [hb1'.cell (p := ⟨w.heap.size, 2, none⟩) hlt]; exact q3
    have r4 : (W.alloc (.cells #[.string ⟨#[97, 100, 100]⟩, .bool true, .bool true, .bool false] 85)).cell? ⟨w.heap.size, 3, none⟩ = some (.int .u64 z) := by rw [hb1'.cell (p := ⟨w.heap.size, 3, none⟩) hlt]; exact q4
    have hlt2 := Nat.lt_trans hlt hlt1
    go_upto_region 4 with fail
    generalize W.alloc (.cells #[.string ⟨#[97, 100, 100]⟩, .bool true, .bool true, .bool false] 85) = V at *
    clear s0 s1 s2 s3 q1 q2 q3 q4 hb1' hb0 hS0
    by_cases hz0 : z = 0
    · subst hz0
      by_cases hxr : x < 0 ∨ (i : Int) ≤ x
      · have Hx : Hid (x < 0 ∨ (i : Int) ≤ x) := hxr
        have HN : Hid (¬ okg i ⟨3, x, y, 0⟩) := by unfold Hid okg; simp only; omega
        go_wp2_with (first | (go_at_call_of 38 (Value.int .i64 x); refine (cAheadN _ _ _ Hx.out).mono ?_; rintro e w' ⟨rfl, hw⟩; have hw := hw.symm; subst hw))
        go_ret
        exact Gri.n HN.out hb1
      · have Hx : Hid (0 ≤ x ∧ x < (i : Int)) := ⟨by omega, by omega⟩
        by_cases hyr : y < 0 ∨ (i : Int) ≤ y
        · have Hy : Hid (y < 0 ∨ (i : Int) ≤ y) := hyr
          have HN : Hid (¬ okg i ⟨3, x, y, 0⟩) := by unfold Hid okg; simp only; omega
          go_wp2_with (first | (go_at_call_of 38 (Value.int .i64 x); refine (cAheadY _ _ _ Hx.out.1 Hx.out.2).mono ?_; rintro e w' ⟨rfl, hw⟩; have hw := hw.symm; subst hw) | (go_at_call_of 38 (Value.int .i64 y); refine (cAheadN _ _ _ Hy.out).mono ?_; rintro e w' ⟨rfl, hw⟩; have hw := hw.symm; subst hw))
          go_ret
          exact Gri.n HN.out hb1
        · have Hy : Hid (0 ≤ y ∧ y < (i : Int)) := ⟨by omega, by omega⟩
          have HY : Hid (okg i ⟨3, x, y, 0⟩) := .inr (.inr (.inr ⟨.inl rfl, Hx.out, Hy.out, rfl⟩))
          go_wp2_with (first | (go_at_call_of 38 (Value.int .i64 x); refine (cAheadY _ _ _ Hx.out.1 Hx.out.2).mono ?_; rintro e w' ⟨rfl, hw⟩; have hw := hw.symm; subst hw) | (go_at_call_of 38 (Value.int .i64 y); refine (cAheadY _ _ _ Hy.out.1 Hy.out.2).mono ?_; rintro e w' ⟨rfl, hw⟩; have hw := hw.symm; subst hw))
          go_ret
          exact Gri.y HY.out hb1
    · have hbz : (z == 0) = false := by rw [beq_eq_false_iff_ne]; exact hz0
      have hcz : (z != 0) = true := by rw [bne_iff_ne]; exact hz0
      have HN : Hid (¬ okg i ⟨3, x, y, z⟩) := by unfold Hid okg; simp only; omega
      go_wp2
      go_ret
      exact Gri.n HN.out hb1
  · obtain ⟨s0, s1, s2, s3⟩ := hS0.at4
    have slt := hS0.lt
    have hb1' : Below W.heap.size W (W.alloc (.cells #[.string ⟨#[115, 117, 98]⟩, .bool true, .bool true, .bool false] 85)) := (Below.refl _ _).alloc (Nat.le_refl _) _
    have hb1 := hb0.trans (hb1'.mono hb0.size)
    obtain ⟨t0, t1, t2, t3⟩ := shape_box W ⟨#[115, 117, 98]⟩ true true false 85
    have hlt1 : W.heap.size < (W.alloc (.cells #[.string ⟨#[115, 117, 98]⟩, .bool true, .bool true, .bool false] 85)).heap.size := by simp
    have r1 : (W.alloc (.cells #[.string ⟨#[115, 117, 98]⟩, .bool true, .bool true, .bool false] 85)).cell? ⟨w.heap.size, 0, none⟩ = some (.int .i64 4) := by rw [hb1'.cell (p := ⟨w.heap.size, 0, none⟩) hlt]; exact q1
    have r2 : (W.alloc (.cells #[.string ⟨#[115, 117, 98]⟩, .bool true, .bool true, .bool false] 85)).cell? ⟨w.heap.size, 1, none⟩ = some (.int .i64 x) := by rw [hb1'.cell (p := ⟨w.heap.size, 1, none⟩) hlt]; exact q2
    have r3 : (W.alloc (.cells #[.string ⟨#[115, 117, 98]⟩, .bool true, .bool true, .bool false] 85)).cell? ⟨w.heap.size, 2, none⟩ = some (.int .i64 y) := by rw [hb1'.cell (p := ⟨w.heap.size, 2, none⟩) hlt]; exact q3
    have r4 : (W.alloc (.cells #[.string ⟨#[115, 117, 98]⟩, .bool true, .bool true, .bool false] 85)).cell? ⟨w.heap.size, 3, none⟩ = some (.int .u64 z) := by rw [hb1'.cell (p := ⟨w.heap.size, 3, none⟩) hlt]; exact q4
    have hlt2 := Nat.lt_trans hlt hlt1
    go_upto_region 4 with fail
    generalize W.alloc (.cells #[.string ⟨#[115, 117, 98]⟩, .bool true, .bool true, .bool false] 85) = V at *
    clear s0 s1 s2 s3 q1 q2 q3 q4 hb1' hb0 hS0
    by_cases hz0 : z = 0
    · subst hz0
      by_cases hxr : x < 0 ∨ (i : Int) ≤ x
      · have Hx : Hid (x < 0 ∨ (i : Int) ≤ x) := hxr
        have HN : Hid (¬ okg i ⟨4, x, y, 0⟩) := by unfold Hid okg; simp only; omega
        go_wp2_with (first | (go_at_call_of 38 (Value.int .i64 x); refine (cAheadN _ _ _ Hx.out).mono ?_; rintro e w' ⟨rfl, hw⟩; have hw := hw.symm; subst hw))
        go_ret
        exact Gri.n HN.out hb1
      · have Hx : Hid (0 ≤ x ∧ x < (i : Int)) := ⟨by omega, by omega⟩
        by_cases hyr : y < 0 ∨ (i : Int) ≤ y
        · have Hy : Hid (y < 0 ∨ (i : Int) ≤ y) := hyr
          have HN : Hid (¬ okg i ⟨4, x, y, 0⟩) := by unfold Hid okg; simp only; omega
          go_wp2_with (first | (go_at_call_of 38 (Value.int .i64 x); refine (cAheadY _ _ _ Hx.out.1 Hx.out.2).mono ?_; rintro e w' ⟨rfl, hw⟩; have hw := hw.symm; subst hw) | (go_at_call_of 38 (Value.int .i64 y); refine (cAheadN _ _ _ Hy.out).mono ?_; rintro e w' ⟨rfl, hw⟩; have hw := hw.symm; subst hw))
          go_ret
          exact Gri.n HN.out hb1
        · have Hy : Hid (0 ≤ y ∧ y < (i : Int)) := ⟨by omega, by omega⟩
          have HY : Hid (okg i ⟨4, x, y, 0⟩) := .inr (.inr (.inr ⟨.inr (.inl rfl), Hx.out, Hy.out, rfl⟩))
          go_wp2_with (first | (go_at_call_of 38 (Value.int .i64 x); refine (cAheadY _ _ _ Hx.out.1 Hx.out.2).mono ?_; rintro e w' ⟨rfl, hw⟩; have hw := hw.symm; subst hw) | (go_at_call_of 38 (Value.int .i64 y); refine (cAheadY _ _ _ Hy.out.1 Hy.out.2).mono ?_; rintro e w' ⟨rfl, hw⟩; have hw := hw.symm; subst hw))
          go_ret
          exact Gri.y HY.out hb1
    · have hbz : (z == 0) = false := by rw [beq_eq_false_iff_ne]; exact hz0
      have hcz : (z != 0) = true := by rw [bne_iff_ne]; exact hz0
      have HN : Hid (¬ okg i ⟨4, x, y, z⟩) := by unfold Hid okg; simp only; omega
      go_wp2
      go_ret
      exact Gri.n HN.out hb1
  · obtain ⟨s0, s1, s2, s3⟩ := hS0.at5
    have slt := hS0.lt
    have hb1' : Below W.heap.size W (W.alloc (.cells #[.string ⟨#[109, 117, 108]⟩, .bool true, .bool true, .bool false] 85)) := (Below.refl _ _).alloc (Nat.le_refl _) _
    have hb1 := hb0.trans (hb1'.mono hb0.size)
    obtain ⟨t0, t1, t2, t3⟩ := shape_box W ⟨#[109, 117, 108]⟩ true true false 85
    have hlt1 : W.heap.size < (W.alloc (.cells #[.string ⟨#[109, 117, 108]⟩, .bool true, .bool true, .bool false] 85)).heap.size := by simp
    have r1 : (W.alloc (.cells #[.string ⟨#[109, 117, 108]⟩, .bool true, .bool true, .bool false] 85)).cell? ⟨w.heap.size, 0, none⟩ = some (.int .i64 5) := by rw [hb1'.cell (p := ⟨w.heap.size, 0, none⟩) hlt]; exact q1
    have r2 : (W.alloc (.cells #[.string ⟨#[109, 117, 108]⟩, .bool true, .bool true, .bool false] 85)).cell? ⟨w.heap.size, 1, none⟩ = some (.int .i64 x) := by rw [hb1'.cell (p := ⟨w.heap.size, 1, none⟩) hlt]; exact q2
    have r3 : (W.alloc (.cells #[.string ⟨#[109, 117, 108]⟩, .bool true, .bool true, .bool false] 85)).cell? ⟨w.heap.size, 2, none⟩ = some (.int .i64 y) := by rw [hb1'.cell (p := ⟨w.heap.size, 2, none⟩) hlt]; exact q3
    have r4 : (W.alloc (.cells #[.string ⟨#[109, 117, 108]⟩, .bool true, .bool true, .bool false] 85)).cell? ⟨w.heap.size, 3, none⟩ = some (.int .u64 z) := by rw [hb1'.cell (p := ⟨w.heap.size, 3, none⟩) hlt]; exact q4
    have hlt2 := Nat.lt_trans hlt hlt1
    go_upto_region 4 with fail
    generalize W.alloc (.cells #[.string ⟨#[109, 117, 108]⟩, .bool true, .bool true, .bool false] 85) = V at *
    clear s0 s1 s2 s3 q1 q2 q3 q4 hb1' hb0 hS0
    by_cases hz0 : z = 0
    · subst hz0
      by_cases hxr : x < 0 ∨ (i : Int) ≤ x
      · have Hx : Hid (x < 0 ∨ (i : Int) ≤ x) := hxr
        have HN : Hid (¬ okg i ⟨5, x, y, 0⟩) := by unfold Hid okg; simp only; omega
        go_wp2_with (first | (go_at_call_of 38 (Value.int .i64 x); refine (cAheadN _ _ _ Hx.out).mono ?_; rintro e w' ⟨rfl, hw⟩; have hw := hw.symm; subst hw))
        go_ret
        exact Gri.n HN.out hb1
      · have Hx : Hid (0 ≤ x ∧ x < (i : Int)) := ⟨by omega, by omega⟩
        by_cases hyr : y < 0 ∨ (i : Int) ≤ y
        · have Hy : Hid (y < 0 ∨ (i : Int) ≤ y) := hyr
          have HN : Hid (¬ okg i ⟨5, x, y, 0⟩) := by unfold Hid okg; simp only; omega
          go_wp2_with (first | (go_at_call_of 38 (Value.int .i64 x); refine (cAheadY _ _ _ Hx.out.1 Hx.out.2).mono ?_; rintro e w' ⟨rfl, hw⟩; have hw := hw.symm; subst hw) | (go_at_call_of 38 (Value.int .i64 y); refine (cAheadN _ _ _ Hy.out).mono ?_; rintro e w' ⟨rfl, hw⟩; have hw := hw.symm; subst hw))
          go_ret
          exact Gri.n HN.out hb1
        · have Hy : Hid (0 ≤ y ∧ y < (i : Int)) := ⟨by omega, by omega⟩
          have HY : Hid (okg i ⟨5, x, y, 0⟩) := .inr (.inr (.inr ⟨.inr (.inr rfl), Hx.out, Hy.out, rfl⟩))
          go_wp2_with (first | (go_at_call_of 38 (Value.int .i64 x); refine (cAheadY _ _ _ Hx.out.1 Hx.out.2).mono ?_; rintro e w' ⟨rfl, hw⟩; have hw := hw.symm; subst hw) | (go_at_call_of 38 (Value.int .i64 y); refine (cAheadY _ _ _ Hy.out.1 Hy.out.2).mono ?_; rintro e w' ⟨rfl, hw⟩; have hw := hw.symm; subst hw))
          go_ret
          exact Gri.y HY.out hb1
    · have hbz : (z == 0) = false := by rw [beq_eq_false_iff_ne]; exact hz0
      have hcz : (z != 0) = true := by rw [bne_iff_ne]; exact hz0
      have HN : Hid (¬ okg i ⟨5, x, y, z⟩) := by unfold Hid okg; simp only; omega
      go_wp2
      go_ret
      exact Gri.n HN.out hb1
  · obtain ⟨s0, s1, s2, s3⟩ := hS0.at6
    have slt := hS0.lt
    have hb1' : Below W.heap.size W (W.alloc (.cells #[.string ⟨#[115, 99, 97, 108, 101]⟩, .bool true, .bool false, .bool true] 85)) := (Below.refl _ _).alloc (Nat.le_refl _) _
    have hb1 := hb0.trans (hb1'.mono hb0.size)
    obtain ⟨t0, t1, t2, t3⟩ := shape_box W ⟨#[115, 99, 97, 108, 101]⟩ true false true 85
    have hlt1 : W.heap.size < (W.alloc (.cells #[.string ⟨#[115, 99, 97, 108, 101]⟩, .bool true, .bool false, .bool true] 85)).heap.size := by simp
    have r1 : (W.alloc (.cells #[.string ⟨#[115, 99, 97, 108, 101]⟩, .bool true, .bool false, .bool true] 85)).cell? ⟨w.heap.size, 0, none⟩ = some (.int .i64 6) := by rw [hb1'.cell (p := ⟨w.heap.size, 0, none⟩) hlt]; exact q1
    have r2 : (W.alloc (.cells #[.string ⟨#[115, 99, 97, 108, 101]⟩, .bool true, .bool false, .bool true] 85)).cell? ⟨w.heap.size, 1, none⟩ = some (.int .i64 x) := by rw [hb1'.cell (p := ⟨w.heap.size, 1, none⟩) hlt]; exact q2
    have r3 : (W.alloc (.cells #[.string ⟨#[115, 99, 97, 108, 101]⟩, .bool true, .bool false, .bool true] 85)).cell? ⟨w.heap.size, 2, none⟩ = some (.int .i64 y) := by rw [hb1'.cell (p := ⟨w.heap.size, 2, none⟩) hlt]; exact q3
    have r4 : (W.alloc (.cells #[.string ⟨#[115, 99, 97, 108, 101]⟩, .bool true, .bool false, .bool true] 85)).cell? ⟨w.heap.size, 3, none⟩ = some (.int .u64 z) := by rw [hb1'.cell (p := ⟨w.heap.size, 3, none⟩) hlt]; exact q4
    have hlt2 := Nat.lt_trans hlt hlt1
    go_upto_region 4 with fail
    generalize W.alloc (.cells #[.string ⟨#[115, 99, 97, 108, 101]⟩, .bool true, .bool false, .bool true] 85) = V at *
    clear s0 s1 s2 s3 q1 q2 q3 q4 hb1' hb0 hS0
    by_cases hy0 : y = 0
    · subst hy0
      by_cases hxr : x < 0 ∨ (i : Int) ≤ x
      · have Hx : Hid (x < 0 ∨ (i : Int) ≤ x) := hxr
        have HN : Hid (¬ okg i ⟨6, x, 0, z⟩) := by unfold Hid okg; simp only; omega
        go_wp2_with (first | (go_at_call_of 38 (Value.int .i64 x); refine (cAheadN _ _ _ Hx.out).mono ?_; rintro e w' ⟨rfl, hw⟩; have hw := hw.symm; subst hw))
        go_ret
        exact Gri.n HN.out hb1
      · have Hx : Hid (0 ≤ x ∧ x < (i : Int)) := ⟨by omega, by omega⟩
        have HY : Hid (okg i ⟨6, x, 0, z⟩) := .inr (.inr (.inl ⟨rfl, Hx.out, rfl⟩))
        go_wp2_with (first | (go_at_call_of 38 (Value.int .i64 x); refine (cAheadY _ _ _ Hx.out.1 Hx.out.2).mono ?_; rintro e w' ⟨rfl, hw⟩; have hw := hw.symm; subst hw))
        go_ret
        exact Gri.y HY.out hb1
    · have hby : (y == 0) = false := by rw [beq_eq_false_iff_ne]; exact hy0
      have hcy : (y != 0) = true := by rw [bne_iff_ne]; exact hy0
      have HN : Hid (¬ okg i ⟨6, x, y, z⟩) := by unfold Hid okg; simp only; omega
      go_wp2
      go_ret
      exact Gri.n HN.out hb1
theorem cGateRightY (k x y z : Int) (i : Nat) (w : World) (h : okg i ⟨k, x, y, z⟩) (hk : -9223372036854775808 ≤ k ∧ k ≤ 9223372036854775807) (hx : -9223372036854775808 ≤ x ∧ x ≤ 9223372036854775807) (hy : -9223372036854775808 ≤ y ∧ y ≤ 9223372036854775807) (hz : 0 ≤ z ∧ z ≤ 18446744073709551615) (hS : Shp w) :
    Calls Tryd.prog 37 #[.agg #[.int .i64 k, .int .i64 x, .int .i64 y, .int .u64 z], .int .i64 i] w fun e w' => e = .returned (.bool true) ∧ Below w.heap.size w w' := by
  refine (cGateRight k x y z i w hk hx hy hz hS).mono ?_
  rintro e w' ⟨⟨_, rfl⟩ | ⟨h', _⟩, hb⟩
  · exact ⟨rfl, hb⟩
  · exact absurd h h'
theorem cGateRightN (k x y z : Int) (i : Nat) (w : World) (h : ¬ okg i ⟨k, x, y, z⟩) (hk : -9223372036854775808 ≤ k ∧ k ≤ 9223372036854775807) (hx : -9223372036854775808 ≤ x ∧ x ≤ 9223372036854775807) (hy : -9223372036854775808 ≤ y ∧ y ≤ 9223372036854775807) (hz : 0 ≤ z ∧ z ≤ 18446744073709551615) (hS : Shp w) :
    Calls Tryd.prog 37 #[.agg #[.int .i64 k, .int .i64 x, .int .i64 y, .int .u64 z], .int .i64 i] w fun e w' => e = .returned (.bool false) ∧ Below w.heap.size w w' := by
  refine (cGateRight k x y z i w hk hx hy hz hS).mono ?_
  rintro e w' ⟨⟨h', _⟩ | ⟨_, rfl⟩, hb⟩
  · exact absurd h' h
  · exact ⟨rfl, hb⟩

theorem cCheckC (ag : Option Addr) (n cg : Nat) (G : List Gt) (ao : Option Addr) (m co : Nat) (O : List Int) (w : World) (h : RdG w ag n cg G) (g : RdI w ao m co O) (hS : Shp w) :
    Calls Tryd.prog 20 #[.agg #[.slice ag n cg, .slice ao m co]] w fun e w' => ∃ r, e = .returned (.int .i64 r) ∧ Cke G O n m r ∧ Below w.heap.size w w' := by
  have hcap := h.cap
  have hmax := h.max
  have gcap := g.cap
  have gmax := g.max
  unfold maxLen at hmax gmax
  have hC0 := CBox.new w ag n cg ao m co
  have hb0 : Below w.heap.size w (w.alloc (.cells #[.slice ag n cg, .slice ao m co] 25)) := (Below.refl _ _).alloc (Nat.le_refl _) _
  obtain ⟨d0, d1⟩ := hC0.cells
  go_enter Tryd.func20, Tryd.ntmps20
  go_upto_region 1 with fail
  generalize w.alloc (.cells #[.slice ag n cg, .slice ao m co] 25) = w0 at *
  have hl0 := hC0.lt
  by_cases hn0 : n = 0
  · have HE : Hid (Cke G O n m 1) := .inl ⟨.inl hn0, rfl⟩
    have hnb : ((n : Int) == 0) = true := by rw [beq_iff_eq]; omega
    clear hn0
    go_wp2
    go_ret
    exact ⟨1, rfl, HE.out, hb0⟩
  · have hnb : ((n : Int) == 0) = false := by rw [beq_eq_false_iff_ne]; omega
    by_cases hm0 : m = 0
    · have HE : Hid (Cke G O n m 1) := .inl ⟨.inr hm0, rfl⟩
      have hmb : ((m : Int) == 0) = true := by rw [beq_iff_eq]; omega
      clear hm0 hn0
      go_wp2
      go_ret
      exact ⟨1, rfl, HE.out, hb0⟩
    · have hmb : ((m : Int) == 0) = false := by rw [beq_eq_false_iff_ne]; omega
      by_cases hn30 : 30 < n
      · have HE : Hid (Cke G O n m 2) := .inr ⟨⟨hn0, hm0⟩, .inl ⟨.inl hn30, rfl⟩⟩
        clear hm0 hn0
        go_wp2
        go_ret
        exact ⟨2, rfl, HE.out, hb0⟩
      · by_cases hm30 : 30 < m
        · have HE : Hid (Cke G O n m 2) := .inr ⟨⟨hn0, hm0⟩, .inl ⟨.inr hm30, rfl⟩⟩
          clear hm0 hn0
          go_wp2
          go_ret
          exact ⟨2, rfl, HE.out, hb0⟩
        · have HB1 : Hid (¬ (okG G n ∧ okO O n m) → Cke G O n m 1) := fun e => .inr ⟨⟨hn0, hm0⟩, .inr ⟨⟨by omega, by omega⟩, .inl ⟨e, rfl⟩⟩⟩
          have HB0 : Hid ((okG G n ∧ okO O n m) → Cke G O n m 0) := fun e => .inr ⟨⟨hn0, hm0⟩, .inr ⟨⟨by omega, by omega⟩, .inr ⟨e, rfl⟩⟩⟩
          clear hm0 hn0
          go_wp2
          go_loopw [30] (fun v wr => ∃ i : Nat, i ≤ n ∧ v = .int .i64 i ∧ Hid (okG G i) ∧ CBox wr w.heap.size ag n cg ao m co ∧ Below w.heap.size w wr) (fun v _ => n - (intOf v).toNat)
          case atStart => exact ⟨0, Nat.zero_le _, rfl, okG_zero G, hC0, hb0⟩
          case round =>
            clear hC0 hb0 d0 d1 hl0
            obtain ⟨i, hi, rfl, HK, hC, hbel⟩ := hrel
            obtain ⟨d0, d1⟩ := hC.cells
            have hl0 := hC.lt
            have hs1 := hbel.size
            by_cases hlt : i < n
            · obtain ⟨b, o, k, x, y, z, rfl, hbb, HG, hk, hx, hy, hz, c1, c2, c3, c4⟩ := (h.below hbel).one hlt
              have hbA0 : Below wr.heap.size wr (wr.alloc (.cells #[.int .i64 k, .int .i64 x, .int .i64 y, .int .u64 z] 43)) := (Below.refl _ _).alloc (Nat.le_refl _) _
              have hbA := hbel.trans (hbA0.mono hs1)
              have hCA := hC.below hbA0 hC.lt
              obtain ⟨q1, q2, q3, q4⟩ := gate_box wr k x y z 43
              have hltA : wr.heap.size < (wr.alloc (.cells #[.int .i64 k, .int .i64 x, .int .i64 y, .int .u64 z] 43)).heap.size := by simp
              go_upto_region 8 with fail
              generalize wr.alloc (.cells #[.int .i64 k, .int .i64 x, .int .i64 y, .int .u64 z] 43) = W at *
              clear c1 c2 c3 c4 hbA0 hC hbel d0 d1
              have hSA := hS.below hbA
              by_cases hok : okg i ⟨k, x, y, z⟩
              · have HN : Hid (okG G (i + 1)) := okG_succ HK.out (by rw [HG.out]; exact hok)
                have HOK : Hid (okg i ⟨k, x, y, z⟩) := hok
                clear hok HG
                go_wp2_with (first | (go_at_call 37; refine (cGateRightY _ _ _ _ i _ HOK.out hk hx hy hz hSA).mono ?_; rintro e w2 ⟨rfl, hb2⟩; have hCB := hCA.below hb2 hCA.lt; have hbB := hbA.trans (hb2.mono hbA.size); clear hCA hbA hSA hb2 q1 q2 q3 q4))
                go_roundw
                case rel => exact ⟨i + 1, by omega, by go_num, HN, hCB, hbB⟩
                case measure => simp [intOf]; omega
              · have HN : Hid (Cke G O n m 1) := HB1.out fun e' => okG_not hlt (by rw [HG.out]; exact hok) e'.1
                have HOK : Hid (¬ okg i ⟨k, x, y, z⟩) := hok
                clear hok HG
                go_wp2_with (first | (go_at_call 37; refine (cGateRightN _ _ _ _ i _ HOK.out hk hx hy hz hSA).mono ?_; rintro e w2 ⟨rfl, hb2⟩; have hbB := hbA.trans (hb2.mono hbA.size); clear hCA hbA hSA hb2 q1 q2 q3 q4))
                go_ret
                exact ⟨1, rfl, HN.out, hbB⟩
            · have hin : i = n := by omega
              subst hin
              go_wp2
              obtain ⟨wo, hwo⟩ : ∃ x, x = wr := ⟨_, rfl⟩
              subst hwo
              go_loopw [43] (fun v wr => ∃ j : Nat, j ≤ m ∧ v = .int .i64 j ∧ Hid (okO O i j) ∧ wr = wo) (fun v _ => m - (intOf v).toNat)
              case atStart => exact ⟨0, Nat.zero_le _, rfl, okO_zero O i, rfl⟩
              case round =>
                obtain ⟨j, hj, rfl, HJ, hw⟩ := hrel
                subst hw
                by_cases hltj : j < m
                · obtain ⟨b2, o2, x, rfl, hbb2, HX, hx0, hx1, c5⟩ := (g.below hbel).one hltj
                  by_cases hxr : x < 0 ∨ (i : Int) ≤ x
                  · have HxN : Hid (x < 0 ∨ (i : Int) ≤ x) := hxr
                    have HN : Hid (Cke G O i m 1) := HB1.out fun e' => okO_not hltj HX.out hxr e'.2
                    go_wp2_with (first | (go_at_call 38; refine (cAheadN _ _ _ HxN.out).mono ?_; rintro e w' ⟨rfl, hw⟩; have hw := hw.symm; subst hw))
                    go_ret
                    exact ⟨1, rfl, HN.out, hbel⟩
                  · have HxY : Hid (0 ≤ x ∧ x < (i : Int)) := ⟨by omega, by omega⟩
                    have HN : Hid (okO O i (j + 1)) := okO_succ HJ.out HX.out (by omega) (by omega)
                    go_wp2_with (first | (go_at_call 38; refine (cAheadY _ _ _ HxY.out.1 HxY.out.2).mono ?_; rintro e w' ⟨rfl, hw⟩; have hw := hw.symm; subst hw))
                    go_roundw
                    case rel => exact ⟨j + 1, by omega, by go_num, HN, by trivial⟩
                    case measure => simp [intOf]; omega
                · have hjm : j = m := by omega
                  subst hjm
                  have HN : Hid (Cke G O i j 0) := HB0.out ⟨HK.out, HJ.out⟩
                  go_wp2
                  go_ret
                  exact ⟨0, rfl, HN.out, hbel⟩
theorem whl_in {G : List Gt} {k : Nat} {x : Int} (h : (gt G k).k = 1) (hx : (gt G k).a = x) : whl G k ++ [x] = whl G (k + 1) := by rw [whl, if_pos h, hx]
theorem whl_no {G : List Gt} {k : Nat} (h : (gt G k).k ≠ 1) : whl G k = whl G (k + 1) := by rw [whl, if_neg h]
theorem whl_bd {G : List Gt} {n : Nat} (h : ∀ i, i < n → -9223372036854775808 ≤ (gt G i).a ∧ (gt G i).a ≤ 9223372036854775807) : ∀ k, k ≤ n → ∀ x ∈ whl G k, -9223372036854775808 ≤ x ∧ x ≤ 9223372036854775807
  | 0, _, x, hx => by simp [whl] at hx
  | k + 1, hk, x, hx => by
    rw [whl] at hx
    split at hx
    · rcases List.mem_append.1 hx with e | e
      · exact whl_bd h k (by omega) x e
      · rw [List.mem_singleton.1 e]; exact h k (by omega)
    · exact whl_bd h k (by omega) x hx
end
end Go.Proofs.YtljlioglpaogdafDoor
