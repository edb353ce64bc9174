/- circuit.shapes: a variable that start-up lays. · Package circuit: isAhead, gateRight. · What the calls of package circuit answer. -/
import Derived.Test.YtnofegdlainjaagDoorToGatesR
import Derived.Test.YtnofegdlainjaagDoorToCircC
import Derived.BigQuiet
import Derived.Deep.RegionWith
import Derived.Deep.DeepCutAuto
import Derived.Test.YtnofegdlainjaagDoorToOpenG
namespace Go.Proofs.YtnofegdlainjaagDoor
open Go.RowKit Crm

def shw (k : Nat) : ByteArray := ([⟨#[]⟩, ⟨#[105, 110, 112, 117, 116]⟩, ⟨#[99, 111, 110, 115, 116]⟩, ⟨#[97, 100, 100]⟩, ⟨#[115, 117, 98]⟩, ⟨#[109, 117, 108]⟩, ⟨#[115, 99, 97, 108, 101]⟩] : List ByteArray).getD k ⟨#[]⟩
def shA (k : Nat) : Bool := [false, true, false, true, true, true, true].getD k false
def shB (k : Nat) : Bool := [false, false, false, true, true, true, false].getD k false
def shN (k : Nat) : Bool := [false, false, true, false, false, false, true].getD k false
/-- The shapes lie as the text lays them. -/
def Shp (w : World) : Prop := ∀ i, i < 7 → w.cell? ⟨0, i * 4, none⟩ = some (.string (shw i)) ∧ w.cell? ⟨0, i * 4 + 1, none⟩ = some (.bool (shA i)) ∧ w.cell? ⟨0, i * 4 + 2, none⟩ = some (.bool (shB i)) ∧ w.cell? ⟨0, i * 4 + 3, none⟩ = some (.bool (shN i))
theorem Shp.below {w w' : World} (h : Shp w) (hb : Below w.heap.size w w') : Shp w' := fun i hi => by
  obtain ⟨h0, h1, h2, h3⟩ := h i hi
  exact ⟨by rw [hb.cell (World.block_lt_of_cell? w _ h0)]; exact h0, by rw [hb.cell (World.block_lt_of_cell? w _ h1)]; exact h1, by rw [hb.cell (World.block_lt_of_cell? w _ h2)]; exact h2, by rw [hb.cell (World.block_lt_of_cell? w _ h3)]; exact h3⟩
theorem Shp.drewN {w : World} (h : Shp w) (q : Nat) : Shp (w.drewN q) := h
theorem Shp.lt {w : World} (h : Shp w) : 0 < w.heap.size := World.block_lt_of_cell? w _ (h 0 (by omega)).1
theorem Shp.at0 {w : World} (h : Shp w) : w.cell? ⟨0, 0, none⟩ = some (.string ⟨#[]⟩) ∧ w.cell? ⟨0, 1, none⟩ = some (.bool false) ∧ w.cell? ⟨0, 2, none⟩ = some (.bool false) ∧ w.cell? ⟨0, 3, none⟩ = some (.bool false) := h 0 (by omega)
theorem Shp.at1 {w : World} (h : Shp w) : w.cell? ⟨0, 4, none⟩ = some (.string ⟨#[105, 110, 112, 117, 116]⟩) ∧ w.cell? ⟨0, 5, none⟩ = some (.bool true) ∧ w.cell? ⟨0, 6, none⟩ = some (.bool false) ∧ w.cell? ⟨0, 7, none⟩ = some (.bool false) := h 1 (by omega)
theorem Shp.at2 {w : World} (h : Shp w) : w.cell? ⟨0, 8, none⟩ = some (.string ⟨#[99, 111, 110, 115, 116]⟩) ∧ w.cell? ⟨0, 9, none⟩ = some (.bool false) ∧ w.cell? ⟨0, 10, none⟩ = some (.bool false) ∧ w.cell? ⟨0, 11, none⟩ = some (.bool true) := h 2 (by omega)
theorem Shp.at3 {w : World} (h : Shp w) : w.cell? ⟨0, 12, none⟩ = some (.string ⟨#[97, 100, 100]⟩) ∧ w.cell? ⟨0, 13, none⟩ = some (.bool true) ∧ w.cell? ⟨0, 14, none⟩ = some (.bool true) ∧ w.cell? ⟨0, 15, none⟩ = some (.bool false) := h 3 (by omega)
theorem Shp.at4 {w : World} (h : Shp w) : w.cell? ⟨0, 16, none⟩ = some (.string ⟨#[115, 117, 98]⟩) ∧ w.cell? ⟨0, 17, none⟩ = some (.bool true) ∧ w.cell? ⟨0, 18, none⟩ = some (.bool true) ∧ w.cell? ⟨0, 19, none⟩ = some (.bool false) := h 4 (by omega)
theorem Shp.at5 {w : World} (h : Shp w) : w.cell? ⟨0, 20, none⟩ = some (.string ⟨#[109, 117, 108]⟩) ∧ w.cell? ⟨0, 21, none⟩ = some (.bool true) ∧ w.cell? ⟨0, 22, none⟩ = some (.bool true) ∧ w.cell? ⟨0, 23, none⟩ = some (.bool false) := h 5 (by omega)
theorem Shp.at6 {w : World} (h : Shp w) : w.cell? ⟨0, 24, none⟩ = some (.string ⟨#[115, 99, 97, 108, 101]⟩) ∧ w.cell? ⟨0, 25, none⟩ = some (.bool true) ∧ w.cell? ⟨0, 26, none⟩ = some (.bool false) ∧ w.cell? ⟨0, 27, none⟩ = some (.bool true) := h 6 (by omega)
end Go.Proofs.YtnofegdlainjaagDoor

namespace Go.Proofs.YtnofegdlainjaagDoor
open Go.RowKit Crm

set_option maxRecDepth 100000 in
theorem cAheadY (x c : Int) (w : World) (h0 : 0 ≤ x) (h1 : x < c) : Calls Tryd.prog 79 #[.int .i64 x, .int .i64 c] w fun e w' => e = .returned (.bool true) ∧ w' = w := by
  go_enter Tryd.func79, Tryd.ntmps79
  go_wp2
  go_ret
  exact ⟨rfl, rfl⟩
set_option maxRecDepth 100000 in
theorem cAheadN (x c : Int) (w : World) (h : x < 0 ∨ c ≤ x) : Calls Tryd.prog 79 #[.int .i64 x, .int .i64 c] w fun e w' => e = .returned (.bool false) ∧ w' = w := by
  by_cases h0 : x < 0
  · go_enter Tryd.func79, Tryd.ntmps79
    go_wp2
    go_ret
    exact ⟨rfl, rfl⟩
  · have h1 : ¬ x < c := by omega
    have h2 : 0 ≤ x := by omega
    clear h h0
    go_enter Tryd.func79, Tryd.ntmps79
    go_wp2
    go_ret
    exact ⟨rfl, rfl⟩
/-- The cells of a shape that is boxed. -/
theorem shape_box (w : World) (s : ByteArray) (a b n : Bool) (E : TypeId) : (w.alloc (.cells #[.string s, .bool a, .bool b, .bool n] E)).cell? ⟨w.heap.size, 0, none⟩ = some (.string s) ∧ (w.alloc (.cells #[.string s, .bool a, .bool b, .bool n] E)).cell? ⟨w.heap.size, 1, none⟩ = some (.bool a) ∧ (w.alloc (.cells #[.string s, .bool a, .bool b, .bool n] E)).cell? ⟨w.heap.size, 2, none⟩ = some (.bool b) ∧ (w.alloc (.cells #[.string s, .bool a, .bool b, .bool n] E)).cell? ⟨w.heap.size, 3, none⟩ = some (.bool n) := by
  have h := heap_alloc_new w (.cells #[.string s, .bool a, .bool b, .bool n] E)
  refine ⟨?_, ?_, ?_, ?_⟩ <;> (rw [cell_of_row _ _ _ _ E (0, 0) h]; rfl)

/-- What gateRight answers. -/
def Gri (i : Nat) (g : Gt) (w : World) (e : Ending) (w' : World) : Prop := ((okg i g ∧ e = .returned (.bool true)) ∨ (¬ okg i g ∧ e = .returned (.bool false))) ∧ Below w.heap.size w w'
theorem Gri.y {i : Nat} {g : Gt} {w w' : World} (h : okg i g) (hb : Below w.heap.size w w') : Gri i g w (.returned (.bool true)) w' := ⟨.inl ⟨h, rfl⟩, hb⟩
theorem Gri.n {i : Nat} {g : Gt} {w w' : World} (h : ¬ okg i g) (hb : Below w.heap.size w w') : Gri i g w (.returned (.bool false)) w' := ⟨.inr ⟨h, rfl⟩, hb⟩

set_option maxRecDepth 100000 in
set_option maxHeartbeats 4000000 in
theorem cGateRight (k x y z : Int) (i : Nat) (w : World) (hk : -9223372036854775808 ≤ k ∧ k ≤ 9223372036854775807) (hx : -9223372036854775808 ≤ x ∧ x ≤ 9223372036854775807) (hy : -9223372036854775808 ≤ y ∧ y ≤ 9223372036854775807) (hz : 0 ≤ z ∧ z ≤ 18446744073709551615) (hS : Shp w) :
    Calls Tryd.prog 78 #[.agg #[.int .i64 k, .int .i64 x, .int .i64 y, .int .u64 z], .int .i64 i] w fun e w' => Gri i ⟨k, x, y, z⟩ w e w' := by
  have hb0 : Below w.heap.size w (w.alloc (.cells #[.int .i64 k, .int .i64 x, .int .i64 y, .int .u64 z] 61)) := (Below.refl _ _).alloc (Nat.le_refl _) _
  obtain ⟨q1, q2, q3, q4⟩ := gate_box w k x y z 61
  have hlt : w.heap.size < (w.alloc (.cells #[.int .i64 k, .int .i64 x, .int .i64 y, .int .u64 z] 61)).heap.size := by simp
  go_enter Tryd.func78, Tryd.ntmps78
  go_upto_region 1 with fail
  generalize w.alloc (.cells #[.int .i64 k, .int .i64 x, .int .i64 y, .int .u64 z] 61) = W at *
  have hS0 := hS.below hb0
  clear hS
  by_cases hk1 : k < 1
  · have HN : Hid (¬ okg i ⟨k, x, y, z⟩) := by unfold Hid okg; simp only; omega
    go_wp2
    go_ret
    exact Gri.n HN.out hb0
  by_cases hk6 : 6 < k
  · have HN : Hid (¬ okg i ⟨k, x, y, z⟩) := by unfold Hid okg; simp only; omega
    go_wp2
    go_ret
    exact Gri.n HN.out hb0
  have hkk : k = 1 ∨ k = 2 ∨ k = 3 ∨ k = 4 ∨ k = 5 ∨ k = 6 := by omega
  clear hk1 hk6
  rcases hkk with rfl | rfl | rfl | rfl | rfl | rfl
  · obtain ⟨s0, s1, s2, s3⟩ := hS0.at1
    have slt := hS0.lt
    have hb1' : Below W.heap.size W (W.alloc (.cells #[.string ⟨#[105, 110, 112, 117, 116]⟩, .bool true, .bool false, .bool false] 147)) := (Below.refl _ _).alloc (Nat.le_refl _) _
    have hb1 := hb0.trans (hb1'.mono hb0.size)
    obtain ⟨t0, t1, t2, t3⟩ := shape_box W ⟨#[105, 110, 112, 117, 116]⟩ true false false 147
    have hlt1 : W.heap.size < (W.alloc (.cells #[.string ⟨#[105, 110, 112, 117, 116]⟩, .bool true, .bool false, .bool false] 147)).heap.size := by simp
    have r1 : (W.alloc (.cells #[.string ⟨#[105, 110, 112, 117, 116]⟩, .bool true, .bool false, .bool false] 147)).cell? ⟨w.heap.size, 0, none⟩ = some (.int .i64 1) := by rw [hb1'.cell (p := ⟨w.heap.size, 0, none⟩) hlt]; exact q1
    have r2 : (W.alloc (.cells #[.string ⟨#[105, 110, 112, 117, 116]⟩, .bool true, .bool false, .bool false] 147)).cell? ⟨w.heap.size, 1, none⟩ = some (.int .i64 x) := by rw [hb1'.cell (p := ⟨w.heap.size, 1, none⟩) hlt]; exact q2
    have r3 : (W.alloc (.cells #[.string ⟨#[105, 110, 112, 117, 116]⟩, .bool true, .bool false, .bool false] 147)).cell? ⟨w.heap.size, 2, none⟩ = some (.int .i64 y) := by rw [hb1'.cell (p := ⟨w.heap.size, 2, none⟩) hlt]; exact q3
    have r4 : (W.alloc (.cells #[.string ⟨#[105, 110, 112, 117, 116]⟩, .bool true, .bool false, .bool false] 147)).cell? ⟨w.heap.size, 3, none⟩ = some (.int .u64 z) := by rw [hb1'.cell (p := ⟨w.heap.size, 3, none⟩) hlt]; exact q4
    have hlt2 := Nat.lt_trans hlt hlt1
    go_upto_region 4 with fail
    generalize W.alloc (.cells #[.string ⟨#[105, 110, 112, 117, 116]⟩, .bool true, .bool false, .bool false] 147) = V at *
    clear s0 s1 s2 s3 q1 q2 q3 q4 hb1' hb0 hS0
    by_cases hy0 : y = 0
    · subst hy0
      by_cases hz0 : z = 0
      · subst hz0
        by_cases hx1 : x < 1
        · have HN : Hid (¬ okg i ⟨1, x, 0, 0⟩) := by unfold Hid okg; simp only; omega
          go_wp2
          go_ret
          exact Gri.n HN.out hb1
        · by_cases hx9 : 9 < x
          · have hx9n : ¬ x ≤ 9 := by omega
            clear hx9
            have HN : Hid (¬ okg i ⟨1, x, 0, 0⟩) := by unfold Hid okg; simp only; omega
            go_wp2
            go_ret
            exact Gri.n HN.out hb1
          · have HY : Hid (okg i ⟨1, x, 0, 0⟩) := .inl ⟨rfl, ⟨by simp only; omega, by simp only; omega⟩, rfl, rfl⟩
            go_wp2
            go_ret
            exact Gri.y HY.out hb1
      · have hbz : (z == 0) = false := by rw [beq_eq_false_iff_ne]; exact hz0
        have hcz : (z != 0) = true := by rw [bne_iff_ne]; exact hz0
        have HN : Hid (¬ okg i ⟨1, x, 0, z⟩) := by unfold Hid okg; simp only; omega
        go_wp2
        go_ret
        exact Gri.n HN.out hb1
    · have hby : (y == 0) = false := by rw [beq_eq_false_iff_ne]; exact hy0
      have hcy : (y != 0) = true := by rw [bne_iff_ne]; exact hy0
      have HN : Hid (¬ okg i ⟨1, x, y, z⟩) := by unfold Hid okg; simp only; omega
      go_wp2
      go_ret
      exact Gri.n HN.out hb1
  · obtain ⟨s0, s1, s2, s3⟩ := hS0.at2
    have slt := hS0.lt
    have hb1' : Below W.heap.size W (W.alloc (.cells #[.string ⟨#[99, 111, 110, 115, 116]⟩, .bool false, .bool false, .bool true] 147)) := (Below.refl _ _).alloc (Nat.le_refl _) _
    have hb1 := hb0.trans (hb1'.mono hb0.size)
    obtain ⟨t0, t1, t2, t3⟩ := shape_box W ⟨#[99, 111, 110, 115, 116]⟩ false false true 147
    have hlt1 : W.heap.size < (W.alloc (.cells #[.string ⟨#[99, 111, 110, 115, 116]⟩, .bool false, .bool false, .bool true] 147)).heap.size := by simp
    have r1 : (W.alloc (.cells #[.string ⟨#[99, 111, 110, 115, 116]⟩, .bool false, .bool false, .bool true] 147)).cell? ⟨w.heap.size, 0, none⟩ = some (.int .i64 2) := by rw [hb1'.cell (p := ⟨w.heap.size, 0, none⟩) hlt]; exact q1
    have r2 : (W.alloc (.cells #[.string ⟨#[99, 111, 110, 115, 116]⟩, .bool false, .bool false, .bool true] 147)).cell? ⟨w.heap.size, 1, none⟩ = some (.int .i64 x) := by rw [hb1'.cell (p := ⟨w.heap.size, 1, none⟩) hlt]; exact q2
    have r3 : (W.alloc (.cells #[.string ⟨#[99, 111, 110, 115, 116]⟩, .bool false, .bool false, .bool true] 147)).cell? ⟨w.heap.size, 2, none⟩ = some (.int .i64 y) := by rw [hb1'.cell (p := ⟨w.heap.size, 2, none⟩) hlt]; exact q3
    have r4 : (W.alloc (.cells #[.string ⟨#[99, 111, 110, 115, 116]⟩, .bool false, .bool false, .bool true] 147)).cell? ⟨w.heap.size, 3, none⟩ = some (.int .u64 z) := by rw [hb1'.cell (p := ⟨w.heap.size, 3, none⟩) hlt]; exact q4
    have hlt2 := Nat.lt_trans hlt hlt1
    go_upto_region 4 with fail
    generalize W.alloc (.cells #[.string ⟨#[99, 111, 110, 115, 116]⟩, .bool false, .bool false, .bool true] 147) = V at *
    clear s0 s1 s2 s3 q1 q2 q3 q4 hb1' hb0 hS0
    by_cases hx0 : x = 0
    · subst hx0
      by_cases hy0 : y = 0
      · subst hy0
        have HY : Hid (okg i ⟨2, 0, 0, z⟩) := .inr (.inl ⟨rfl, rfl, rfl⟩)
        go_wp2
        go_ret
        exact Gri.y HY.out hb1
      · have hby : (y == 0) = false := by rw [beq_eq_false_iff_ne]; exact hy0
        have hcy : (y != 0) = true := by rw [bne_iff_ne]; exact hy0
        have HN : Hid (¬ okg i ⟨2, 0, y, z⟩) := by unfold Hid okg; simp only; omega
        go_wp2
        go_ret
        exact Gri.n HN.out hb1
    · have hbx : (x == 0) = false := by rw [beq_eq_false_iff_ne]; exact hx0
      have hcx : (x != 0) = true := by rw [bne_iff_ne]; exact hx0
      have HN : Hid (¬ okg i ⟨2, x, y, z⟩) := by unfold Hid okg; simp only; omega
      go_wp2
      go_ret
      exact Gri.n HN.out hb1
  · obtain ⟨s0, s1, s2, s3⟩ := hS0.at3
    have slt := hS0.lt
    have hb1' : Below W.heap.size W (W.alloc (.cells #[.string ⟨#[97, 100, 100]⟩, .bool true, .bool true, .bool false] 147)) := (Below.refl _ _).alloc (Nat.le_refl _) _
    have hb1 := hb0.trans (hb1'.mono hb0.size)
    obtain ⟨t0, t1, t2, t3⟩ := shape_box W ⟨#[97, 100, 100]⟩ true true false 147
    have hlt1 : W.heap.size < (W.alloc (.cells #[.string ⟨#[97, 100, 100]⟩, .bool true, .bool true, .bool false] 147)).heap.size := by simp
    have r1 : (W.alloc (.cells #[.string ⟨#[97, 100, 100]⟩, .bool true, .bool true, .bool false] 147)).cell? ⟨w.heap.size, 0, none⟩ = some (.int .i64 3) := by rw [hb1'.cell (p := ⟨w.heap.size, 0, none⟩) hlt]; exact q1
    have r2 : (W.alloc (.cells #[.string ⟨#[97, 100, 100]⟩, .bool true, .bool true, .bool false] 147)).cell? ⟨w.heap.size, 1, none⟩ = some (.int .i64 x) := by rw [hb1'.cell (p := ⟨w.heap.size, 1, none⟩) hlt]; exact q2
    have r3 : (W.alloc (.cells #[.string ⟨#[97, 100, 100]⟩, .bool true, .bool true, .bool false] 147)).cell? ⟨w.heap.size, 2, none⟩ = some (.int .i64 y) := by rw [hb1'.cell (p := ⟨w.heap.size, 2, none⟩) hlt]; exact q3
    have r4 : (W.alloc (.cells #[.string ⟨#[97, 100, 100]⟩, .bool true, .bool true, .bool false] 147)).cell? ⟨w.heap.size, 3, none⟩ = some (.int .u64 z) := by rw [hb1'.cell (p := ⟨w.heap.size, 3, none⟩) hlt]; exact q4
    have hlt2 := Nat.lt_trans hlt hlt1
    go_upto_region 4 with fail
    generalize W.alloc (.cells #[.string ⟨#[97, 100, 100]⟩, .bool true, .bool true, .bool false] 147) = V at *
    clear s0 s1 s2 s3 q1 q2 q3 q4 hb1' hb0 hS0
    by_cases hz0 : z = 0
    · subst hz0
      by_cases hxr : x < 0 ∨ (i : Int) ≤ x
      · have Hx : Hid (x < 0 ∨ (i : Int) ≤ x) := hxr
        have HN : Hid (¬ okg i ⟨3, x, y, 0⟩) := by unfold Hid okg; simp only; omega
        go_wp2_with (first | (go_at_call_of 79 (Value.int .i64 x); refine (cAheadN _ _ _ Hx.out).mono ?_; rintro e w' ⟨rfl, hw⟩; have hw := hw.symm; subst hw))
        go_ret
        exact Gri.n HN.out hb1
      · have Hx : Hid (0 ≤ x ∧ x < (i : Int)) := ⟨by omega, by omega⟩
        by_cases hyr : y < 0 ∨ (i : Int) ≤ y
        · have Hy : Hid (y < 0 ∨ (i : Int) ≤ y) := hyr
          have HN : Hid (¬ okg i ⟨3, x, y, 0⟩) := by unfold Hid okg; simp only; omega
          go_wp2_with (first | (go_at_call_of 79 (Value.int .i64 x); refine (cAheadY _ _ _ Hx.out.1 Hx.out.2).mono ?_; rintro e w' ⟨rfl, hw⟩; have hw := hw.symm; subst hw) | (go_at_call_of 79 (Value.int .i64 y); refine (cAheadN _ _ _ Hy.out).mono ?_; rintro e w' ⟨rfl, hw⟩; have hw := hw.symm; subst hw))
          go_ret
          exact Gri.n HN.out hb1
        · have Hy : Hid (0 ≤ y ∧ y < (i : Int)) := ⟨by omega, by omega⟩
          have HY : Hid (okg i ⟨3, x, y, 0⟩) := .inr (.inr (.inr ⟨.inl rfl, Hx.out, Hy.out, rfl⟩))
          go_wp2_with (first | (go_at_call_of 79 (Value.int .i64 x); refine (cAheadY _ _ _ Hx.out.1 Hx.out.2).mono ?_; rintro e w' ⟨rfl, hw⟩; have hw := hw.symm; subst hw) | (go_at_call_of 79 (Value.int .i64 y); refine (cAheadY _ _ _ Hy.out.1 Hy.out.2).mono ?_; rintro e w' ⟨rfl, hw⟩; have hw := hw.symm; subst hw))
          go_ret
          exact Gri.y HY.out hb1
    · have hbz : (z == 0) = false := by rw [beq_eq_false_iff_ne]; exact hz0
      have hcz : (z != 0) = true := by rw [bne_iff_ne]; exact hz0
      have HN : Hid (¬ okg i ⟨3, x, y, z⟩) := by unfold Hid okg; simp only; omega
      go_wp2
      go_ret
      exact Gri.n HN.out hb1
  · obtain ⟨s0, s1, s2, s3⟩ := hS0.at4
    have slt := hS0.lt
    have hb1' : Below W.heap.size W (W.alloc (.cells #[.string ⟨#[115, 117, 98]⟩, .bool true, .bool true, .bool false] 147)) := (Below.refl _ _).alloc (Nat.le_refl _) _
    have hb1 := hb0.trans (hb1'.mono hb0.size)
    obtain ⟨t0, t1, t2, t3⟩ := shape_box W ⟨#[115, 117, 98]⟩ true true false 147
    have hlt1 : W.heap.size < (W.alloc (.cells #[.string ⟨#[115, 117, 98]⟩, .bool true, .bool true, .bool false] 147)).heap.size := by simp
    have r1 : (W.alloc (.cells #[.string ⟨#[115, 117, 98]⟩, .bool true, .bool true, .bool false] 147)).cell? ⟨w.heap.size, 0, none⟩ = some (.int .i64 4) := by rw [hb1'.cell (p := ⟨w.heap.size, 0, none⟩) hlt]; exact q1
    have r2 : (W.alloc (.cells #[.string ⟨#[115, 117, 98]⟩, .bool true, .bool true, .bool false] 147)).cell? ⟨w.heap.size, 1, none⟩ = some (.int .i64 x) := by rw [hb1'.cell (p := ⟨w.heap.size, 1, none⟩) hlt]; exact q2
    have r3 : (W.alloc (.cells #[.string ⟨#[115, 117, 98]⟩, .bool true, .bool true, .bool false] 147)).cell? ⟨w.heap.size, 2, none⟩ = some (.int .i64 y) := by rw [hb1'.cell (p := ⟨w.heap.size, 2, none⟩) hlt]; exact q3
    have r4 : (W.alloc (.cells #[.string ⟨#[115, 117, 98]⟩, .bool true, .bool true, .bool false] 147)).cell? ⟨w.heap.size, 3, none⟩ = some (.int .u64 z) := by rw [hb1'.cell (p := ⟨w.heap.size, 3, none⟩) hlt]; exact q4
    have hlt2 := Nat.lt_trans hlt hlt1
    go_upto_region 4 with fail
    generalize W.alloc (.cells #[.string ⟨#[115, 117, 98]⟩, .bool true, .bool true, .bool false] 147) = V at *
    clear s0 s1 s2 s3 q1 q2 q3 q4 hb1' hb0 hS0
    by_cases hz0 : z = 0
    · subst hz0
      by_cases hxr : x < 0 ∨ (i : Int) ≤ x
      · have Hx : Hid (x < 0 ∨ (i : Int) ≤ x) := hxr
        have HN : Hid (¬ okg i ⟨4, x, y, 0⟩) := by unfold Hid okg; simp only; omega
        go_wp2_with (first | (go_at_call_of 79 (Value.int .i64 x); refine (cAheadN _ _ _ Hx.out).mono ?_; rintro e w' ⟨rfl, hw⟩; have hw := hw.symm; subst hw))
        go_ret
        exact Gri.n HN.out hb1
      · have Hx : Hid (0 ≤ x ∧ x < (i : Int)) := ⟨by omega, by omega⟩
        by_cases hyr : y < 0 ∨ (i : Int) ≤ y
        · have Hy : Hid (y < 0 ∨ (i : Int) ≤ y) := hyr
          have HN : Hid (¬ okg i ⟨4, x, y, 0⟩) := by unfold Hid okg; simp only; omega
          go_wp2_with (first | (go_at_call_of 79 (Value.int .i64 x); refine (cAheadY _ _ _ Hx.out.1 Hx.out.2).mono ?_; rintro e w' ⟨rfl, hw⟩; have hw := hw.symm; subst hw) | (go_at_call_of 79 (Value.int .i64 y); refine (cAheadN _ _ _ Hy.out).mono ?_; rintro e w' ⟨rfl, hw⟩; have hw := hw.symm; subst hw))
          go_ret
          exact Gri.n HN.out hb1
        · have Hy : Hid (0 ≤ y ∧ y < (i : Int)) := ⟨by omega, by omega⟩
          have HY : Hid (okg i ⟨4, x, y, 0⟩) := .inr (.inr (.inr ⟨.inr (.inl rfl), Hx.out, Hy.out, rfl⟩))
          go_wp2_with (first | (go_at_call_of 79 (Value.int .i64 x); refine (cAheadY _ _ _ Hx.out.1 Hx.out.2).mono ?_; rintro e w' ⟨rfl, hw⟩; have hw := hw.symm; subst hw) | (go_at_call_of 79 (Value.int .i64 y); refine (cAheadY _ _ _ Hy.out.1 Hy.out.2).mono ?_; rintro e w' ⟨rfl, hw⟩; have hw := hw.symm; subst hw))
          go_ret
          exact Gri.y HY.out hb1
    · have hbz : (z == 0) = false := by rw [beq_eq_false_iff_ne]; exact hz0
      have hcz : (z != 0) = true := by rw [bne_iff_ne]; exact hz0
      have HN : Hid (¬ okg i ⟨4, x, y, z⟩) := by unfold Hid okg; simp only; omega
      go_wp2
      go_ret
      exact Gri.n HN.out hb1
  · obtain ⟨s0, s1, s2, s3⟩ := hS0.at5
    have slt := hS0.lt
    have hb1' : Below W.heap.size W (W.alloc (.cells #[.string ⟨#[109, 117, 108]⟩, .bool true, .bool true, .bool false] 147)) := (Below.refl _ _).alloc (Nat.le_refl _) _
    have hb1 := hb0.trans (hb1'.mono hb0.size)
    obtain ⟨t0, t1, t2, t3⟩ := shape_box W ⟨#[109, 117, 108]⟩ true true false 147
    have hlt1 : W.heap.size < (W.alloc (.cells #[.string ⟨#[109, 117, 108]⟩, .bool true, .bool true, .bool false] 147)).heap.size := by simp
    have r1 : (W.alloc (.cells #[.string ⟨#[109, 117, 108]⟩, .bool true, .bool true, .bool false] 147)).cell? ⟨w.heap.size, 0, none⟩ = some (.int .i64 5) := by rw [hb1'.cell (p := ⟨w.heap.size, 0, none⟩) hlt]; exact q1
    have r2 : (W.alloc (.cells #[.string ⟨#[109, 117, 108]⟩, .bool true, .bool true, .bool false] 147)).cell? ⟨w.heap.size, 1, none⟩ = some (.int .i64 x) := by rw [hb1'.cell (p := ⟨w.heap.size, 1, none⟩) hlt]; exact q2
    have r3 : (W.alloc (.cells #[.string ⟨#[109, 117, 108]⟩, .bool true, .bool true, .bool false] 147)).cell? ⟨w.heap.size, 2, none⟩ = some (.int .i64 y) := by rw [hb1'.cell (p := ⟨w.heap.size, 2, none⟩) hlt]; exact q3
    have r4 : (W.alloc (.cells #[.string ⟨#[109, 117, 108]⟩, .bool true, .bool true, .bool false] 147)).cell? ⟨w.heap.size, 3, none⟩ = some (.int .u64 z) := by rw [hb1'.cell (p := ⟨w.heap.size, 3, none⟩) hlt]; exact q4
    have hlt2 := Nat.lt_trans hlt hlt1
    go_upto_region 4 with fail
    generalize W.alloc (.cells #[.string ⟨#[109, 117, 108]⟩, .bool true, .bool true, .bool false] 147) = V at *
    clear s0 s1 s2 s3 q1 q2 q3 q4 hb1' hb0 hS0
    by_cases hz0 : z = 0
    · subst hz0
      by_cases hxr : x < 0 ∨ (i : Int) ≤ x
      · have Hx : Hid (x < 0 ∨ (i : Int) ≤ x) := hxr
        have HN : Hid (¬ okg i ⟨5, x, y, 0⟩) := by unfold Hid okg; simp only; omega
        go_wp2_with (first | (go_at_call_of 79 (Value.int .i64 x); refine (cAheadN _ _ _ Hx.out).mono ?_; rintro e w' ⟨rfl, hw⟩; have hw := hw.symm; subst hw))
        go_ret
        exact Gri.n HN.out hb1
      · have Hx : Hid (0 ≤ x ∧ x < (i : Int)) := ⟨by omega, by omega⟩
        by_cases hyr : y < 0 ∨ (i : Int) ≤ y
        · have Hy : Hid (y < 0 ∨ (i : Int) ≤ y) := hyr
          have HN : Hid (¬ okg i ⟨5, x, y, 0⟩) := by unfold Hid okg; simp only; omega
          go_wp2_with (first | (go_at_call_of 79 (Value.int .i64 x); refine (cAheadY _ _ _ Hx.out.1 Hx.out.2).mono ?_; rintro e w' ⟨rfl, hw⟩; have hw := hw.symm; subst hw) | (go_at_call_of 79 (Value.int .i64 y); refine (cAheadN _ _ _ Hy.out).mono ?_; rintro e w' ⟨rfl, hw⟩; have hw := hw.symm; subst hw))
          go_ret
          exact Gri.n HN.out hb1
        · have Hy : Hid (0 ≤ y ∧ y < (i : Int)) := ⟨by omega, by omega⟩
          have HY : Hid (okg i ⟨5, x, y, 0⟩) := .inr (.inr (.inr ⟨.inr (.inr rfl), Hx.out, Hy.out, rfl⟩))
          go_wp2_with (first | (go_at_call_of 79 (Value.int .i64 x); refine (cAheadY _ _ _ Hx.out.1 Hx.out.2).mono ?_; rintro e w' ⟨rfl, hw⟩; have hw := hw.symm; subst hw) | (go_at_call_of 79 (Value.int .i64 y); refine (cAheadY _ _ _ Hy.out.1 Hy.out.2).mono ?_; rintro e w' ⟨rfl, hw⟩; have hw := hw.symm; subst hw))
          go_ret
          exact Gri.y HY.out hb1
    · have hbz : (z == 0) = false := by rw [beq_eq_false_iff_ne]; exact hz0
      have hcz : (z != 0) = true := by rw [bne_iff_ne]; exact hz0
      have HN : Hid (¬ okg i ⟨5, x, y, z⟩) := by unfold Hid okg; simp only; omega
      go_wp2
      go_ret
      exact Gri.n HN.out hb1
  · obtain ⟨s0, s1, s2, s3⟩ := hS0.at6
    have slt := hS0.lt
    have hb1' : Below W.heap.size W (W.alloc (.cells #[.string ⟨#[115, 99, 97, 108, 101]⟩, .bool true, .bool false, .bool true] 147)) := (Below.refl _ _).alloc (Nat.le_refl _) _
    have hb1 := hb0.trans (hb1'.mono hb0.size)
    obtain ⟨t0, t1, t2, t3⟩ := shape_box W ⟨#[115, 99, 97, 108, 101]⟩ true false true 147
    have hlt1 : W.heap.size < (W.alloc (.cells #[.string ⟨#[115, 99, 97, 108, 101]⟩, .bool true, .bool false, .bool true] 147)).heap.size := by simp
    have r1 : (W.alloc (.cells #[.string ⟨#[115, 99, 97, 108, 101]⟩, .bool true, .bool false, .bool true] 147)).cell? ⟨w.heap.size, 0, none⟩ = some (.int .i64 6) := by rw [hb1'.cell (p := ⟨w.heap.size, 0, none⟩) hlt]; exact q1
    have r2 : (W.alloc (.cells #[.string ⟨#[115, 99, 97, 108, 101]⟩, .bool true, .bool false, .bool true] 147)).cell? ⟨w.heap.size, 1, none⟩ = some (.int .i64 x) := by rw [hb1'.cell (p := ⟨w.heap.size, 1, none⟩) hlt]; exact q2
    have r3 : (W.alloc (.cells #[.string ⟨#[115, 99, 97, 108, 101]⟩, .bool true, .bool false, .bool true] 147)).cell? ⟨w.heap.size, 2, none⟩ = some (.int .i64 y) := by rw [hb1'.cell (p := ⟨w.heap.size, 2, none⟩) hlt]; exact q3
    have r4 : (W.alloc (.cells #[.string ⟨#[115, 99, 97, 108, 101]⟩, .bool true, .bool false, .bool true] 147)).cell? ⟨w.heap.size, 3, none⟩ = some (.int .u64 z) := by rw [hb1'.cell (p := ⟨w.heap.size, 3, none⟩) hlt]; exact q4
    have hlt2 := Nat.lt_trans hlt hlt1
    go_upto_region 4 with fail
    generalize W.alloc (.cells #[.string ⟨#[115, 99, 97, 108, 101]⟩, .bool true, .bool false, .bool true] 147) = V at *
    clear s0 s1 s2 s3 q1 q2 q3 q4 hb1' hb0 hS0
    by_cases hy0 : y = 0
    · subst hy0
      by_cases hxr : x < 0 ∨ (i : Int) ≤ x
      · have Hx : Hid (x < 0 ∨ (i : Int) ≤ x) := hxr
        have HN : Hid (¬ okg i ⟨6, x, 0, z⟩) := by unfold Hid okg; simp only; omega
        go_wp2_with (first | (go_at_call_of 79 (Value.int .i64 x); refine (cAheadN _ _ _ Hx.out).mono ?_; rintro e w' ⟨rfl, hw⟩; have hw := hw.symm; subst hw))
        go_ret
        exact Gri.n HN.out hb1
      · have Hx : Hid (0 ≤ x ∧ x < (i : Int)) := ⟨by omega, by omega⟩
        have HY : Hid (okg i ⟨6, x, 0, z⟩) := .inr (.inr (.inl ⟨rfl, Hx.out, rfl⟩))
        go_wp2_with (first | (go_at_call_of 79 (Value.int .i64 x); refine (cAheadY _ _ _ Hx.out.1 Hx.out.2).mono ?_; rintro e w' ⟨rfl, hw⟩; have hw := hw.symm; subst hw))
        go_ret
        exact Gri.y HY.out hb1
    · have hby : (y == 0) = false := by rw [beq_eq_false_iff_ne]; exact hy0
      have hcy : (y != 0) = true := by rw [bne_iff_ne]; exact hy0
      have HN : Hid (¬ okg i ⟨6, x, y, z⟩) := by unfold Hid okg; simp only; omega
      go_wp2
      go_ret
      exact Gri.n HN.out hb1
end Go.Proofs.YtnofegdlainjaagDoor

namespace Go.Proofs.YtnofegdlainjaagDoor
open Go.RowKit Crm

/-- What Inputs answers. -/
def Cin (G : List Gt) (O : List Int) (n m : Nat) (w : World) (e : Ending) (w' : World) : Prop :=
  ((∃ r, r ≠ 0 ∧ Cke G O n m r ∧ e = .returned (.tuple #[.slice none 0 0, .int .i64 r])) ∨
   (Cke G O n m 0 ∧ ∃ v, e = .returned (.tuple #[v, .int .i64 0]) ∧ w'.ownsRow w.heap.size 3 1 v (ci G n) (zns (whl G n)))) ∧ Below w.heap.size w w'
/-- What is wrong with a circuit and its inputs. -/
def Cre (G : List Gt) (O : List Int) (n m q : Nat) (r : Int) : Prop :=
  (r ≠ 0 ∧ Cke G O n m r) ∨ (Cke G O n m 0 ∧ ((q ≠ ci G n ∧ r = 5) ∨ (q = ci G n ∧ r = 0)))
theorem Cre.one {G : List Gt} {O : List Int} {n m q : Nat} {r s : Int} (h : Cre G O n m q r) (k : Cre G O n m q s) : r = s := by
  rcases h with ⟨h1, h2⟩ | ⟨h1, ⟨h2, rfl⟩ | ⟨h2, rfl⟩⟩ <;> rcases k with ⟨k1, k2⟩ | ⟨k1, ⟨k2, rfl⟩ | ⟨k2, rfl⟩⟩
  all_goals first
    | rfl
    | exact h2.one k2
    | exact absurd (h2.one k1) h1
    | exact absurd (k2.one h1) k1
    | exact absurd k2 h2
    | exact absurd h2 k2
theorem Cre.ok {G : List Gt} {O : List Int} {n m q : Nat} (h : Cre G O n m q 0) : Cke G O n m 0 ∧ q = ci G n := by
  rcases h with ⟨h1, _⟩ | ⟨h1, ⟨_, h2⟩ | ⟨h2, _⟩⟩
  · exact absurd rfl h1
  · omega
  · exact ⟨h1, h2⟩
/-- What Run answers. -/
def Crn (G : List Gt) (O ins : List Int) (n m q : Nat) (w : World) (e : Ending) (w' : World) : Prop :=
  ((∃ r, r ≠ 0 ∧ Cre G O n m q r ∧ e = .returned (.tuple #[.slice none 0 0, .int .i64 r])) ∨
   (Cre G O n m q 0 ∧ ∃ v, e = .returned (.tuple #[v, .int .i64 0]) ∧ w'.ownsRow w.heap.size 34 1 v m ((otl G O ins m).map (Value.int .u64)))) ∧ Below w.heap.size w w'
end Go.Proofs.YtnofegdlainjaagDoor
