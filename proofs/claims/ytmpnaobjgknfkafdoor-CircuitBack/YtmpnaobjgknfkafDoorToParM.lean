/- Package circuit: isAhead, gateRight. · Reading a circuit's text: plain facts. -/
import Derived.Test.YtmpnaobjgknfkafDoorToDigC
import Derived.Test.YtmpnaobjgknfkafDoorToRefA
import Derived.BigQuiet
import Derived.Deep.RegionWith
import Derived.Deep.DeepCutAuto
import Derived.Test.YtmpnaobjgknfkafDoorToNumbC
import Derived.Test.YtmpnaobjgknfkafDoorToSubC
namespace Go.Proofs.YtmpnaobjgknfkafDoor
open Go.RowKit Crm

set_option maxRecDepth 100000 in
theorem cAheadY (x c : Int) (w : World) (h0 : 0 ≤ x) (h1 : x < c) : Calls Tryd.prog 31 #[.int .i64 x, .int .i64 c] w fun e w' => e = .returned (.bool true) ∧ w' = w := by
  go_enter Tryd.func31, Tryd.ntmps31
  go_wp2
  go_ret
  exact ⟨rfl, rfl⟩
set_option maxRecDepth 100000 in
theorem cAheadN (x c : Int) (w : World) (h : x < 0 ∨ c ≤ x) : Calls Tryd.prog 31 #[.int .i64 x, .int .i64 c] w fun e w' => e = .returned (.bool false) ∧ w' = w := by
  by_cases h0 : x < 0
  · go_enter Tryd.func31, Tryd.ntmps31
    go_wp2
    go_ret
    exact ⟨rfl, rfl⟩
  · have h1 : ¬ x < c := by omega
    have h2 : 0 ≤ x := by omega
    clear h h0
    go_enter Tryd.func31, Tryd.ntmps31
    go_wp2
    go_ret
    exact ⟨rfl, rfl⟩
/-- The cells of a shape that is boxed. -/
theorem shape_box (w : World) (s : ByteArray) (a b n : Bool) (E : TypeId) : (w.alloc (.cells #[.string s, .bool a, .bool b, .bool n] E)).cell? ⟨w.heap.size, 0, none⟩ = some (.string s) ∧ (w.alloc (.cells #[.string s, .bool a, .bool b, .bool n] E)).cell? ⟨w.heap.size, 1, none⟩ = some (.bool a) ∧ (w.alloc (.cells #[.string s, .bool a, .bool b, .bool n] E)).cell? ⟨w.heap.size, 2, none⟩ = some (.bool b) ∧ (w.alloc (.cells #[.string s, .bool a, .bool b, .bool n] E)).cell? ⟨w.heap.size, 3, none⟩ = some (.bool n) := by
  have h := heap_alloc_new w (.cells #[.string s, .bool a, .bool b, .bool n] E)
  refine ⟨?_, ?_, ?_, ?_⟩ <;> (rw [cell_of_row _ _ _ _ E (0, 0) h]; rfl)

/-- What gateRight answers. -/
def Gri (i : Nat) (g : Gt) (w : World) (e : Ending) (w' : World) : Prop := ((okg i g ∧ e = .returned (.bool true)) ∨ (¬ okg i g ∧ e = .returned (.bool false))) ∧ Below w.heap.size w w'
theorem Gri.y {i : Nat} {g : Gt} {w w' : World} (h : okg i g) (hb : Below w.heap.size w w') : Gri i g w (.returned (.bool true)) w' := ⟨.inl ⟨h, rfl⟩, hb⟩
theorem Gri.n {i : Nat} {g : Gt} {w w' : World} (h : ¬ okg i g) (hb : Below w.heap.size w w') : Gri i g w (.returned (.bool false)) w' := ⟨.inr ⟨h, rfl⟩, hb⟩

set_option maxRecDepth 100000 in
set_option maxHeartbeats 4000000 in
theorem cGateRight (k x y z : Int) (i : Nat) (w : World) (hk : -9223372036854775808 ≤ k ∧ k ≤ 9223372036854775807) (hx : -9223372036854775808 ≤ x ∧ x ≤ 9223372036854775807) (hy : -9223372036854775808 ≤ y ∧ y ≤ 9223372036854775807) (hz : 0 ≤ z ∧ z ≤ 18446744073709551615) (hS : Shp w) :
    Calls Tryd.prog 30 #[.agg #[.int .i64 k, .int .i64 x, .int .i64 y, .int .u64 z], .int .i64 i] w fun e w' => Gri i ⟨k, x, y, z⟩ w e w' := by
  have hb0 : Below w.heap.size w (w.alloc (.cells #[.int .i64 k, .int .i64 x, .int .i64 y, .int .u64 z] 43)) := (Below.refl _ _).alloc (Nat.le_refl _) _
  obtain ⟨q1, q2, q3, q4⟩ := gate_box w k x y z 43
  have hlt : w.heap.size < (w.alloc (.cells #[.int .i64 k, .int .i64 x, .int .i64 y, .int .u64 z] 43)).heap.size := by simp
  go_enter Tryd.func30, Tryd.ntmps30
  go_upto_region 1 with fail
  generalize w.alloc (.cells #[.int .i64 k, .int .i64 x, .int .i64 y, .int .u64 z] 43) = W at *
  have hS0 := hS.below hb0
  clear hS
  by_cases hk1 : k < 1
  · have HN : Hid (¬ okg i ⟨k, x, y, z⟩) := by unfold Hid okg; simp only; omega
    go_wp2
    go_ret
    exact Gri.n HN.out hb0
  by_cases hk6 : 6 < k
  · have HN : Hid (¬ okg i ⟨k, x, y, z⟩) := by unfold Hid okg; simp only; omega
    go_wp2
    go_ret
    exact Gri.n HN.out hb0
  have hkk : k = 1 ∨ k = 2 ∨ k = 3 ∨ k = 4 ∨ k = 5 ∨ k = 6 := by omega
  clear hk1 hk6
  rcases hkk with rfl | rfl | rfl | rfl | rfl | rfl
  · obtain ⟨s0, s1, s2, s3⟩ := hS0.at1
    have slt := hS0.lt
    have hb1' : Below W.heap.size W (W.alloc (.cells #[.string ⟨#[105, 110, 112, 117, 116]⟩, .bool true, .bool false, .bool false] 73)) := (Below.refl _ _).alloc (Nat.le_refl _) _
    have hb1 := hb0.trans (hb1'.mono hb0.size)
    obtain ⟨t0, t1, t2, t3⟩ := shape_box W ⟨#[105, 110, 112, 117, 116]⟩ true false false 73
    have hlt1 : W.heap.size < (W.alloc (.cells #[.string ⟨#[105, 110, 112, 117, 116]⟩, .bool true, .bool false, .bool false] 73)).heap.size := by simp
    have r1 : (W.alloc (.cells #[.string ⟨#[105, 110, 112, 117, 116]⟩, .bool true, .bool false, .bool false] 73)).cell? ⟨w.heap.size, 0, none⟩ = some (.int .i64 1) := by rw [hb1'.cell (p := ⟨w.heap.size, 0, none⟩) hlt]; exact q1
    have r2 : (W.alloc (.cells #[.string ⟨#[105, 110, 112, 117, 116]⟩, .bool true, .bool false, .bool false] 73)).cell? ⟨w.heap.size, 1, none⟩ = some (.int .i64 x) := by rw [hb1'.cell (p := ⟨w.heap.size, 1, none⟩) hlt]; exact q2
    have r3 : (W.alloc (.cells #[.string ⟨#[105, 110, 112, 117, 116]⟩, .bool true, .bool false, .bool false] 73)).cell? ⟨w.heap.size, 2, none⟩ = some (.int .i64 y) := by rw [hb1'.cell (p := ⟨w.heap.size, 2, none⟩) hlt]; exact q3
    have r4 : (W.alloc (.cells #[.string ⟨#[105, 110, 112, 117, 116]⟩, .bool true, .bool false, .bool false] 73)).cell? ⟨w.heap.size, 3, none⟩ = some (.int .u64 z) := by rw [hb1'.cell (p := ⟨w.heap.size, 3, none⟩) hlt]; exact q4
    have hlt2 := Nat.lt_trans hlt hlt1
    go_upto_region 4 with fail
    generalize W.alloc (.cells #[.string ⟨#[105, 110, 112, 117, 116]⟩, .bool true, .bool false, .bool false] 73) = V at *
    clear s0 s1 s2 s3 q1 q2 q3 q4 hb1' hb0 hS0
    by_cases hy0 : y = 0
    · subst hy0
      by_cases hz0 : z = 0
      · subst hz0
        by_cases hx1 : x < 1
        · have HN : Hid (¬ okg i ⟨1, x, 0, 0⟩) := by unfold Hid okg; simp only; omega
          go_wp2
          go_ret
          exact Gri.n HN.out hb1
        · by_cases hx9 : 9 < x
          · have hx9n : ¬ x ≤ 9 := by omega
            clear hx9
            have HN : Hid (¬ okg i ⟨1, x, 0, 0⟩) := by unfold Hid okg; simp only; omega
            go_wp2
            go_ret
            exact Gri.n HN.out hb1
          · have HY : Hid (okg i ⟨1, x, 0, 0⟩) := .inl ⟨rfl, ⟨by simp only; omega, by simp only; omega⟩, rfl, rfl⟩
            go_wp2
            go_ret
            exact Gri.y HY.out hb1
      · have hbz : (z == 0) = false := by rw [beq_eq_false_iff_ne]; exact hz0
        have hcz : (z != 0) = true := by rw [bne_iff_ne]; exact hz0
        have HN : Hid (¬ okg i ⟨1, x, 0, z⟩) := by unfold Hid okg; simp only; omega
        go_wp2
        go_ret
        exact Gri.n HN.out hb1
    · have hby : (y == 0) = false := by rw [beq_eq_false_iff_ne]; exact hy0
      have hcy : (y != 0) = true := by rw [bne_iff_ne]; exact hy0
      have HN : Hid (¬ okg i ⟨1, x, y, z⟩) := by unfold Hid okg; simp only; omega
      go_wp2
      go_ret
      exact Gri.n HN.out hb1
  · obtain ⟨s0, s1, s2, s3⟩ := hS0.at2
    have slt := hS0.lt
    have hb1' : Below W.heap.size W (W.alloc (.cells #[.string ⟨#[99, 111, 110, 115, 116]⟩, .bool false, .bool false, .bool true] 73)) := (Below.refl _ _).alloc (Nat.le_refl _) _
    have hb1 := hb0.trans (hb1'.mono hb0.size)
    obtain ⟨t0, t1, t2, t3⟩ := shape_box W ⟨#[99, 111, 110, 115, 116]⟩ false false true 73
    have hlt1 : W.heap.size < (W.alloc (.cells #[.string ⟨#[99, 111, 110, 115, 116]⟩, .bool false, .bool false, .bool true] 73)).heap.size := by simp
    have r1 : (W.alloc (.cells #[.string ⟨#[99, 111, 110, 115, 116]⟩, .bool false, .bool false, .bool true] 73)).cell? ⟨w.heap.size, 0, none⟩ = some (.int .i64 2) := by rw [hb1'.cell (p := ⟨w.heap.size, 0, none⟩) hlt]; exact q1
    have r2 : (W.alloc (.cells #[.string ⟨#[99, 111, 110, 115, 116]⟩, .bool false, .bool false, .bool true] 73)).cell? ⟨w.heap.size, 1, none⟩ = some (.int .i64 x) := by rw [hb1'.cell (p := ⟨w.heap.size, 1, none⟩) hlt]; exact q2
    have r3 : (W.alloc (.cells #[.string ⟨#[99, 111, 110, 115, 116]⟩, .bool false, .bool false, .bool true] 73)).cell? ⟨w.heap.size, 2, none⟩ = some (.int .i64 y) := by rw [hb1'.cell (p := ⟨w.heap.size, 2, none⟩) hlt]; exact q3
    have r4 : (W.alloc (.cells #[.string ⟨#[99, 111, 110, 115, 116]⟩, .bool false, .bool false, .bool true] 73)).cell? ⟨w.heap.size, 3, none⟩ = some (.int .u64 z) := by rw [hb1'.cell (p := ⟨w.heap.size, 3, none⟩) hlt]; exact q4
    have hlt2 := Nat.lt_trans hlt hlt1
    go_upto_region 4 with fail
    generalize W.alloc (.cells #[.string ⟨#[99, 111, 110, 115, 116]⟩, .bool false, .bool false, .bool true] 73) = V at *
    clear s0 s1 s2 s3 q1 q2 q3 q4 hb1' hb0 hS0
    by_cases hx0 : x = 0
    · subst hx0
      by_cases hy0 : y = 0
      · subst hy0
        have HY : Hid (okg i ⟨2, 0, 0, z⟩) := .inr (.inl ⟨rfl, rfl, rfl⟩)
        go_wp2
        go_ret
        exact Gri.y HY.out hb1
      · have hby : (y == 0) = false := by rw [beq_eq_false_iff_ne]; exact hy0
        have hcy : (y != 0) = true := by rw [bne_iff_ne]; exact hy0
        have HN : Hid (¬ okg i ⟨2, 0, y, z⟩) := by unfold Hid okg; simp only; omega
        go_wp2
        go_ret
        exact Gri.n HN.out hb1
    · have hbx : (x == 0) = false := by rw [beq_eq_false_iff_ne]; exact hx0
      have hcx : (x != 0) = true := by rw [bne_iff_ne]; exact hx0
      have HN : Hid (¬ okg i ⟨2, x, y, z⟩) := by unfold Hid okg; simp only; omega
      go_wp2
      go_ret
      exact Gri.n HN.out hb1
  · obtain ⟨s0, s1, s2, s3⟩ := hS0.at3
    have slt := hS0.lt
    have hb1' : Below W.heap.size W (W.alloc (.cells #[.string ⟨#[97, 100, 100]⟩, .bool true, .bool true, .bool false] 73)) := (Below.refl _ _).alloc (Nat.le_refl _) _
    have hb1 := hb0.trans (hb1'.mono hb0.size)
    obtain ⟨t0, t1, t2, t3⟩ := shape_box W ⟨#[97, 100, 100]⟩ true true false 73
    have hlt1 : W.heap.size < (W.alloc (.cells #[.string ⟨#[97, 100, 100]⟩, .bool true, .bool true, .bool false] 73)).heap.size := by simp
    have r1 : (W.alloc (.cells #[.string ⟨#[97, 100, 100]⟩, .bool true, .bool true, .bool false] 73)).cell? ⟨w.heap.size, 0, none⟩ = some (.int .i64 3) := by rw [hb1'.cell (p := ⟨w.heap.size, 0, none⟩) hlt]; exact q1
    have r2 : (W.alloc (.cells #[.string ⟨#[97, 100, 100]⟩, .bool true, .bool true, .bool false] 73)).cell? ⟨w.heap.size, 1, none⟩ = some (.int .i64 x) := by rw [hb1'.cell (p := ⟨w.heap.size, 1, none⟩) hlt]; exact q2
    have r3 : (W.alloc (.cells #[.string ⟨#[97, 100, 100]⟩, .bool true, .bool true, .bool false] 73)).cell? ⟨w.heap.size, 2, none⟩ = some (.int .i64 y) := by rw [hb1'.cell (p := ⟨w.heap.size, 2, none⟩) hlt]; exact q3
    have r4 : (W.alloc (.cells #[.string ⟨#[97, 100, 100]⟩, .bool true, .bool true, .bool false] 73)).cell? ⟨w.heap.size, 3, none⟩ = some (.int .u64 z) := by rw [hb1'.cell (p := ⟨w.heap.size, 3, none⟩) hlt]; exact q4
    have hlt2 := Nat.lt_trans hlt hlt1
    go_upto_region 4 with fail
    generalize W.alloc (.cells #[.string ⟨#[97, 100, 100]⟩, .bool true, .bool true, .bool false] 73) = V at *
    clear s0 s1 s2 s3 q1 q2 q3 q4 hb1' hb0 hS0
    by_cases hz0 : z = 0
    · subst hz0
      by_cases hxr : x < 0 ∨ (i : Int) ≤ x
      · have Hx : Hid (x < 0 ∨ (i : Int) ≤ x) := hxr
        have HN : Hid (¬ okg i ⟨3, x, y, 0⟩) := by unfold Hid okg; simp only; omega
        go_wp2_with (first | (go_at_call_of 31 (Value.int .i64 x); refine (cAheadN _ _ _ Hx.out).mono ?_; rintro e w' ⟨rfl, hw⟩; have hw := hw.symm; subst hw))
        go_ret
        exact Gri.n HN.out hb1
      · have Hx : Hid (0 ≤ x ∧ x < (i : Int)) := ⟨by omega, by omega⟩
        by_cases hyr : y < 0 ∨ (i : Int) ≤ y
        · have Hy : Hid (y < 0 ∨ (i : Int) ≤ y) := hyr
          have HN : Hid (¬ okg i ⟨3, x, y, 0⟩) := by unfold Hid okg; simp only; omega
          go_wp2_with (first | (go_at_call_of 31 (Value.int .i64 x); refine (cAheadY _ _ _ Hx.out.1 Hx.out.2).mono ?_; rintro e w' ⟨rfl, hw⟩; have hw := hw.symm; subst hw) | (go_at_call_of 31 (Value.int .i64 y); refine (cAheadN _ _ _ Hy.out).mono ?_; rintro e w' ⟨rfl, hw⟩; have hw := hw.symm; subst hw))
          go_ret
          exact Gri.n HN.out hb1
        · have Hy : Hid (0 ≤ y ∧ y < (i : Int)) := ⟨by omega, by omega⟩
          have HY : Hid (okg i ⟨3, x, y, 0⟩) := .inr (.inr (.inr ⟨.inl rfl, Hx.out, Hy.out, rfl⟩))
          go_wp2_with (first | (go_at_call_of 31 (Value.int .i64 x); refine (cAheadY _ _ _ Hx.out.1 Hx.out.2).mono ?_; rintro e w' ⟨rfl, hw⟩; have hw := hw.symm; subst hw) | (go_at_call_of 31 (Value.int .i64 y); refine (cAheadY _ _ _ Hy.out.1 Hy.out.2).mono ?_; rintro e w' ⟨rfl, hw⟩; have hw := hw.symm; subst hw))
          go_ret
          exact Gri.y HY.out hb1
    · have hbz : (z == 0) = false := by rw [beq_eq_false_iff_ne]; exact hz0
      have hcz : (z != 0) = true := by rw [bne_iff_ne]; exact hz0
      have HN : Hid (¬ okg i ⟨3, x, y, z⟩) := by unfold Hid okg; simp only; omega
      go_wp2
      go_ret
      exact Gri.n HN.out hb1
  · obtain ⟨s0, s1, s2, s3⟩ := hS0.at4
    have slt := hS0.lt
    have hb1' : Below W.heap.size W (W.alloc (.cells #[.string ⟨#[115, 117, 98]⟩, .bool true, .bool true, .bool false] 73)) := (Below.refl _ _).alloc (Nat.le_refl _) _
    have hb1 := hb0.trans (hb1'.mono hb0.size)
    obtain ⟨t0, t1, t2, t3⟩ := shape_box W ⟨#[115, 117, 98]⟩ true true false 73
    have hlt1 : W.heap.size < (W.alloc (.cells #[.string ⟨#[115, 117, 98]⟩, .bool true, .bool true, .bool false] 73)).heap.size := by simp
    have r1 : (W.alloc (.cells #[.string ⟨#[115, 117, 98]⟩, .bool true, .bool true, .bool false] 73)).cell? ⟨w.heap.size, 0, none⟩ = some (.int .i64 4) := by rw [hb1'.cell (p := ⟨w.heap.size, 0, none⟩) hlt]; exact q1
    have r2 : (W.alloc (.cells #[.string ⟨#[115, 117, 98]⟩, .bool true, .bool true, .bool false] 73)).cell? ⟨w.heap.size, 1, none⟩ = some (.int .i64 x) := by rw [hb1'.cell (p := ⟨w.heap.size, 1, none⟩) hlt]; exact q2
    have r3 : (W.alloc (.cells #[.string ⟨#[115, 117, 98]⟩, .bool true, .bool true, .bool false] 73)).cell? ⟨w.heap.size, 2, none⟩ = some (.int .i64 y) := by rw [hb1'.cell (p := ⟨w.heap.size, 2, none⟩) hlt]; exact q3
    have r4 : (W.alloc (.cells #[.string ⟨#[115, 117, 98]⟩, .bool true, .bool true, .bool false] 73)).cell? ⟨w.heap.size, 3, none⟩ = some (.int .u64 z) := by rw [hb1'.cell (p := ⟨w.heap.size, 3, none⟩) hlt]; exact q4
    have hlt2 := Nat.lt_trans hlt hlt1
    go_upto_region 4 with fail
    generalize W.alloc (.cells #[.string ⟨#[115, 117, 98]⟩, .bool true, .bool true, .bool false] 73) = V at *
    clear s0 s1 s2 s3 q1 q2 q3 q4 hb1' hb0 hS0
    by_cases hz0 : z = 0
    · subst hz0
      by_cases hxr : x < 0 ∨ (i : Int) ≤ x
      · have Hx : Hid (x < 0 ∨ (i : Int) ≤ x) := hxr
        have HN : Hid (¬ okg i ⟨4, x, y, 0⟩) := by unfold Hid okg; simp only; omega
        go_wp2_with (first | (go_at_call_of 31 (Value.int .i64 x); refine (cAheadN _ _ _ Hx.out).mono ?_; rintro e w' ⟨rfl, hw⟩; have hw := hw.symm; subst hw))
        go_ret
        exact Gri.n HN.out hb1
      · have Hx : Hid (0 ≤ x ∧ x < (i : Int)) := ⟨by omega, by omega⟩
        by_cases hyr : y < 0 ∨ (i : Int) ≤ y
        · have Hy : Hid (y < 0 ∨ (i : Int) ≤ y) := hyr
          have HN : Hid (¬ okg i ⟨4, x, y, 0⟩) := by unfold Hid okg; simp only; omega
          go_wp2_with (first | (go_at_call_of 31 (Value.int .i64 x); refine (cAheadY _ _ _ Hx.out.1 Hx.out.2).mono ?_; rintro e w' ⟨rfl, hw⟩; have hw := hw.symm; subst hw) | (go_at_call_of 31 (Value.int .i64 y); refine (cAheadN _ _ _ Hy.out).mono ?_; rintro e w' ⟨rfl, hw⟩; have hw := hw.symm; subst hw))
          go_ret
          exact Gri.n HN.out hb1
        · have Hy : Hid (0 ≤ y ∧ y < (i : Int)) := ⟨by omega, by omega⟩
          have HY : Hid (okg i ⟨4, x, y, 0⟩) := .inr (.inr (.inr ⟨.inr (.inl rfl), Hx.out, Hy.out, rfl⟩))
          go_wp2_with (first | (go_at_call_of 31 (Value.int .i64 x); refine (cAheadY _ _ _ Hx.out.1 Hx.out.2).mono ?_; rintro e w' ⟨rfl, hw⟩; have hw := hw.symm; subst hw) | (go_at_call_of 31 (Value.int .i64 y); refine (cAheadY _ _ _ Hy.out.1 Hy.out.2).mono ?_; rintro e w' ⟨rfl, hw⟩; have hw := hw.symm; subst hw))
          go_ret
          exact Gri.y HY.out hb1
    · have hbz : (z == 0) = false := by rw [beq_eq_false_iff_ne]; exact hz0
      have hcz : (z != 0) = true := by rw [bne_iff_ne]; exact hz0
      have HN : Hid (¬ okg i ⟨4, x, y, z⟩) := by unfold Hid okg; simp only; omega
      go_wp2
      go_ret
      exact Gri.n HN.out hb1
  · obtain ⟨s0, s1, s2, s3⟩ := hS0.at5
    have slt := hS0.lt
    have hb1' : Below W.heap.size W (W.alloc (.cells #[.string ⟨#[109, 117, 108]⟩, .bool true, .bool true, .bool false] 73)) := (Below.refl _ _).alloc (Nat.le_refl _) _
    have hb1 := hb0.trans (hb1'.mono hb0.size)
    obtain ⟨t0, t1, t2, t3⟩ := shape_box W ⟨#[109, 117, 108]⟩ true true false 73
    have hlt1 : W.heap.size < (W.alloc (.cells #[.string ⟨#[109, 117, 108]⟩, .bool true, .bool true, .bool false] 73)).heap.size := by simp
    have r1 : (W.alloc (.cells #[.string ⟨#[109, 117, 108]⟩, .bool true, .bool true, .bool false] 73)).cell? ⟨w.heap.size, 0, none⟩ = some (.int .i64 5) := by rw [hb1'.cell (p := ⟨w.heap.size, 0, none⟩) hlt]; exact q1
    have r2 : (W.alloc (.cells #[.string ⟨#[109, 117, 108]⟩, .bool true, .bool true, .bool false] 73)).cell? ⟨w.heap.size, 1, none⟩ = some (.int .i64 x) := by rw [hb1'.cell (p := ⟨w.heap.size, 1, none⟩) hlt]; exact q2
    have r3 : (W.alloc (.cells #[.string ⟨#[109, 117, 108]⟩, .bool true, .bool true, .bool false] 73)).cell? ⟨w.heap.size, 2, none⟩ = some (.int .i64 y) := by rw [hb1'.cell (p := ⟨w.heap.size, 2, none⟩) hlt]; exact q3
    have r4 : (W.alloc (.cells #[.string ⟨#[109, 117, 108]⟩, .bool true, .bool true, .bool false] 73)).cell? ⟨w.heap.size, 3, none⟩ = some (.int .u64 z) := by rw [hb1'.cell (p := ⟨w.heap.size, 3, none⟩) hlt]; exact q4
    have hlt2 := Nat.lt_trans hlt hlt1
    go_upto_region 4 with fail
    generalize W.alloc (.cells #[.string ⟨#[109, 117, 108]⟩, .bool true, .bool true, .bool false] 73) = V at *
    clear s0 s1 s2 s3 q1 q2 q3 q4 hb1' hb0 hS0
    by_cases hz0 : z = 0
    · subst hz0
      by_cases hxr : x < 0 ∨ (i : Int) ≤ x
      · have Hx : Hid (x < 0 ∨ (i : Int) ≤ x) := hxr
        have HN : Hid (¬ okg i ⟨5, x, y, 0⟩) := by unfold Hid okg; simp only; omega
        go_wp2_with (first | (go_at_call_of 31 (Value.int .i64 x); refine (cAheadN _ _ _ Hx.out).mono ?_; rintro e w' ⟨rfl, hw⟩; have hw := hw.symm; subst hw))
        go_ret
        exact Gri.n HN.out hb1
      · have Hx : Hid (0 ≤ x ∧ x < (i : Int)) := ⟨by omega, by omega⟩
        by_cases hyr : y < 0 ∨ (i : Int) ≤ y
        · have Hy : Hid (y < 0 ∨ (i : Int) ≤ y) := hyr
          have HN : Hid (¬ okg i ⟨5, x, y, 0⟩) := by unfold Hid okg; simp only; omega
          go_wp2_with (first | (go_at_call_of 31 (Value.int .i64 x); refine (cAheadY _ _ _ Hx.out.1 Hx.out.2).mono ?_; rintro e w' ⟨rfl, hw⟩; have hw := hw.symm; subst hw) | (go_at_call_of 31 (Value.int .i64 y); refine (cAheadN _ _ _ Hy.out).mono ?_; rintro e w' ⟨rfl, hw⟩; have hw := hw.symm; subst hw))
          go_ret
          exact Gri.n HN.out hb1
        · have Hy : Hid (0 ≤ y ∧ y < (i : Int)) := ⟨by omega, by omega⟩
          have HY : Hid (okg i ⟨5, x, y, 0⟩) := .inr (.inr (.inr ⟨.inr (.inr rfl), Hx.out, Hy.out, rfl⟩))
          go_wp2_with (first | (go_at_call_of 31 (Value.int .i64 x); refine (cAheadY _ _ _ Hx.out.1 Hx.out.2).mono ?_; rintro e w' ⟨rfl, hw⟩; have hw := hw.symm; subst hw) | (go_at_call_of 31 (Value.int .i64 y); refine (cAheadY _ _ _ Hy.out.1 Hy.out.2).mono ?_; rintro e w' ⟨rfl, hw⟩; have hw := hw.symm; subst hw))
          go_ret
          exact Gri.y HY.out hb1
    · have hbz : (z == 0) = false := by rw [beq_eq_false_iff_ne]; exact hz0
      have hcz : (z != 0) = true := by rw [bne_iff_ne]; exact hz0
      have HN : Hid (¬ okg i ⟨5, x, y, z⟩) := by unfold Hid okg; simp only; omega
      go_wp2
      go_ret
      exact Gri.n HN.out hb1
  · obtain ⟨s0, s1, s2, s3⟩ := hS0.at6
    have slt := hS0.lt
    have hb1' : Below W.heap.size W (W.alloc (.cells #[.string ⟨#[115, 99, 97, 108, 101]⟩, .bool true, .bool false, .bool true] 73)) := (Below.refl _ _).alloc (Nat.le_refl _) _
    have hb1 := hb0.trans (hb1'.mono hb0.size)
    obtain ⟨t0, t1, t2, t3⟩ := shape_box W ⟨#[115, 99, 97, 108, 101]⟩ true false true 73
    have hlt1 : W.heap.size < (W.alloc (.cells #[.string ⟨#[115, 99, 97, 108, 101]⟩, .bool true, .bool false, .bool true] 73)).heap.size := by simp
    have r1 : (W.alloc (.cells #[.string ⟨#[115, 99, 97, 108, 101]⟩, .bool true, .bool false, .bool true] 73)).cell? ⟨w.heap.size, 0, none⟩ = some (.int .i64 6) := by rw [hb1'.cell (p := ⟨w.heap.size, 0, none⟩) hlt]; exact q1
    have r2 : (W.alloc (.cells #[.string ⟨#[115, 99, 97, 108, 101]⟩, .bool true, .bool false, .bool true] 73)).cell? ⟨w.heap.size, 1, none⟩ = some (.int .i64 x) := by rw [hb1'.cell (p := ⟨w.heap.size, 1, none⟩) hlt]; exact q2
    have r3 : (W.alloc (.cells #[.string ⟨#[115, 99, 97, 108, 101]⟩, .bool true, .bool false, .bool true] 73)).cell? ⟨w.heap.size, 2, none⟩ = some (.int .i64 y) := by rw [hb1'.cell (p := ⟨w.heap.size, 2, none⟩) hlt]; exact q3
    have r4 : (W.alloc (.cells #[.string ⟨#[115, 99, 97, 108, 101]⟩, .bool true, .bool false, .bool true] 73)).cell? ⟨w.heap.size, 3, none⟩ = some (.int .u64 z) := by rw [hb1'.cell (p := ⟨w.heap.size, 3, none⟩) hlt]; exact q4
    have hlt2 := Nat.lt_trans hlt hlt1
    go_upto_region 4 with fail
    generalize W.alloc (.cells #[.string ⟨#[115, 99, 97, 108, 101]⟩, .bool true, .bool false, .bool true] 73) = V at *
    clear s0 s1 s2 s3 q1 q2 q3 q4 hb1' hb0 hS0
    by_cases hy0 : y = 0
    · subst hy0
      by_cases hxr : x < 0 ∨ (i : Int) ≤ x
      · have Hx : Hid (x < 0 ∨ (i : Int) ≤ x) := hxr
        have HN : Hid (¬ okg i ⟨6, x, 0, z⟩) := by unfold Hid okg; simp only; omega
        go_wp2_with (first | (go_at_call_of 31 (Value.int .i64 x); refine (cAheadN _ _ _ Hx.out).mono ?_; rintro e w' ⟨rfl, hw⟩; have hw := hw.symm; subst hw))
        go_ret
        exact Gri.n HN.out hb1
      · have Hx : Hid (0 ≤ x ∧ x < (i : Int)) := ⟨by omega, by omega⟩
        have HY : Hid (okg i ⟨6, x, 0, z⟩) := .inr (.inr (.inl ⟨rfl, Hx.out, rfl⟩))
        go_wp2_with (first | (go_at_call_of 31 (Value.int .i64 x); refine (cAheadY _ _ _ Hx.out.1 Hx.out.2).mono ?_; rintro e w' ⟨rfl, hw⟩; have hw := hw.symm; subst hw))
        go_ret
        exact Gri.y HY.out hb1
    · have hby : (y == 0) = false := by rw [beq_eq_false_iff_ne]; exact hy0
      have hcy : (y != 0) = true := by rw [bne_iff_ne]; exact hy0
      have HN : Hid (¬ okg i ⟨6, x, y, z⟩) := by unfold Hid okg; simp only; omega
      go_wp2
      go_ret
      exact Gri.n HN.out hb1
end Go.Proofs.YtmpnaobjgknfkafDoor

namespace Go.Proofs.YtmpnaobjgknfkafDoor
open Crm

/-- The words of a line, and those behind the first. -/
def wds (t : ByteArray) : List ByteArray := pcs t 32 t.size
def ags (t : ByteArray) : List ByteArray := (wds t).drop 1
def agn (t : ByteArray) (i : Nat) : Int := dgn (tx (ags t) i) (tx (ags t) i).size
def outB : ByteArray := ⟨#[111, 117, 116]⟩
/-- How many numbers a gate's line has. -/
def arn (k : Nat) : Nat := [0, 1, 1, 2, 2, 2, 2].getD k 0
/-- A gate of kind k, by its line's numbers. -/
def gof (k : Nat) (t : ByteArray) : Gt :=
  if k = 1 then ⟨1, agn t 0, 0, 0⟩ else if k = 2 then ⟨2, 0, 0, agn t 0⟩ else if k = 6 then ⟨6, agn t 0, 0, agn t 1⟩ else ⟨k, agn t 0, agn t 1, 0⟩
/-- A line is a gate's. -/
def Lng (t : ByteArray) (g : Gt) : Prop := ∃ k, (1 ≤ k ∧ k < 7) ∧ tx (wds t) 0 = vb k ∧ (ags t).length = arn k ∧ okn (ags t) (arn k) ∧ g = gof k t
/-- A line is an out's. -/
def Lno (t : ByteArray) (x : Int) : Prop := tx (wds t) 0 = outB ∧ (ags t).length = 1 ∧ okn (ags t) 1 ∧ x = agn t 0
theorem vb_inj : ∀ i, i < 7 → ∀ j, j < 7 → vb i = vb j → i = j := by decide +kernel
theorem vb_out : ∀ i, i < 7 → vb i ≠ outB := by decide +kernel
theorem Lng.one {t : ByteArray} {g h : Gt} (a : Lng t g) (b : Lng t h) : g = h := by
  obtain ⟨k, hk, e1, _, _, rfl⟩ := a
  obtain ⟨j, hj, e2, _, _, rfl⟩ := b
  obtain rfl := vb_inj k hk.2 j hj.2 (e1.symm.trans e2)
  rfl
theorem Lng.no {t : ByteArray} {g : Gt} {x : Int} (a : Lng t g) (b : Lno t x) : False := by
  obtain ⟨k, hk, e1, _⟩ := a
  exact vb_out k hk.2 (e1.symm.trans b.1)
/-- The first i lines read as the gates G and the outs O. -/
def Rds (l : List ByteArray) : Nat → List Gt → List Int → Prop
  | 0, G, O => G = [] ∧ O = []
  | i + 1, G, O => ∃ G0 O0, Rds l i G0 O0 ∧ ((∃ g, Lng (tx l i) g ∧ O0 = [] ∧ G = G0 ++ [g] ∧ O = []) ∨ (∃ x, Lno (tx l i) x ∧ G = G0 ∧ O = O0 ++ [x]))
theorem Rds.one {l : List ByteArray} : ∀ {i : Nat} {G H : List Gt} {O Q : List Int}, Rds l i G O → Rds l i H Q → G = H ∧ O = Q
  | 0, _, _, _, _, h, k => by obtain ⟨rfl, rfl⟩ := h; obtain ⟨rfl, rfl⟩ := k; exact ⟨rfl, rfl⟩
  | i + 1, _, _, _, _, h, k => by
    obtain ⟨G0, O0, h0, h1⟩ := h
    obtain ⟨H0, Q0, k0, k1⟩ := k
    obtain ⟨rfl, rfl⟩ := h0.one k0
    rcases h1 with ⟨g, a, _, rfl, rfl⟩ | ⟨x, a, rfl, rfl⟩ <;> rcases k1 with ⟨g', b, _, rfl, rfl⟩ | ⟨x', b, rfl, rfl⟩
    · rw [a.one b]; exact ⟨rfl, rfl⟩
    · exact (a.no b).elim
    · exact (b.no a).elim
    · rw [a.2.2.2, b.2.2.2]; exact ⟨rfl, rfl⟩
theorem Rds.down {l : List ByteArray} : ∀ {i j : Nat} {G : List Gt} {O : List Int}, Rds l i G O → j ≤ i → ∃ G0 O0, Rds l j G0 O0
  | 0, j, G, O, h, hj => by obtain rfl : j = 0 := by omega
                            exact ⟨G, O, h⟩
  | i + 1, j, G, O, h, hj => by
    by_cases e : j = i + 1
    · subst e; exact ⟨G, O, h⟩
    · obtain ⟨G0, O0, h0, _⟩ := h
      exact h0.down (by omega)
/-- Line i can't follow the outs O. -/
def Nok (t : ByteArray) (O : List Int) : Prop := ¬ ((∃ g, Lng t g ∧ O = []) ∨ ∃ x, Lno t x)
theorem Nok.stop {l : List ByteArray} {i : Nat} {G H : List Gt} {O Q : List Int} (h : Rds l i G O) (k : Nok (tx l i) O) (r : Rds l (i + 1) H Q) : False := by
  obtain ⟨G0, O0, h0, h1⟩ := r
  obtain ⟨_, rfl⟩ := h.one h0
  rcases h1 with ⟨g, a, e, _⟩ | ⟨x, a, _⟩
  · exact k (.inl ⟨g, a, e⟩)
  · exact k (.inr ⟨x, a⟩)
/-- The lines of a text, the last one, with no byte 10 behind it, apart. -/
def lns (s : ByteArray) : List ByteArray := pcs s 10 s.size
def lnn (s : ByteArray) : Nat := (lns s).length - 1
theorem lns_len (s : ByteArray) : (lns s).length = lnn s + 1 := by
  have := pcs_len s 10 s.size
  unfold lnn lns
  omega
/-- What Parse tells: the circuit, the line, the error. -/
def Par (s : ByteArray) (G : List Gt) (O : List Int) (at_ : Nat) (r : Int) : Prop :=
  (2048 < s.size ∧ G = [] ∧ O = [] ∧ at_ = 0 ∧ r = 2) ∨
  (s.size ≤ 2048 ∧ ((∃ i G0 O0, i < lnn s ∧ Rds (lns s) i G0 O0 ∧ Nok (tx (lns s) i) O0 ∧ G = [] ∧ O = [] ∧ at_ = i + 1 ∧ r = 3) ∨
    (∃ G0 O0, Rds (lns s) (lnn s) G0 O0 ∧ ((tx (lns s) (lnn s) ≠ mt ∧ G = [] ∧ O = [] ∧ at_ = lnn s + 1 ∧ r = 3) ∨
      (tx (lns s) (lnn s) = mt ∧ at_ = 0 ∧ Cke G0 O0 G0.length O0.length r ∧ ((r ≠ 0 ∧ G = [] ∧ O = []) ∨ (r = 0 ∧ G = G0 ∧ O = O0)))))))
theorem Par.one {s : ByteArray} {G H : List Gt} {O Q : List Int} {m n : Nat} {r q : Int} (h : Par s G O m r) (k : Par s H Q n q) : G = H ∧ O = Q ∧ m = n ∧ r = q := by
  rcases h with ⟨h0, rfl, rfl, rfl, rfl⟩ | ⟨h0, h⟩ <;> rcases k with ⟨k0, rfl, rfl, rfl, rfl⟩ | ⟨k0, k⟩
  · exact ⟨rfl, rfl, rfl, rfl⟩
  · exfalso; omega
  · exfalso; omega
  · rcases h with ⟨i, G0, O0, hi, h1, h2, rfl, rfl, rfl, rfl⟩ | ⟨G0, O0, h1, h2⟩ <;> rcases k with ⟨j, H0, Q0, hj, k1, k2, rfl, rfl, rfl, rfl⟩ | ⟨H0, Q0, k1, k2⟩
    · obtain rfl : i = j := by
        rcases Nat.lt_trichotomy i j with e | e | e
        · obtain ⟨_, _, x⟩ := k1.down (show i + 1 ≤ j from e); exact (h2.stop h1 x).elim
        · exact e
        · obtain ⟨_, _, x⟩ := h1.down (show j + 1 ≤ i from e); exact (k2.stop k1 x).elim
      exact ⟨rfl, rfl, rfl, rfl⟩
    · obtain ⟨_, _, x⟩ := k1.down (show i + 1 ≤ lnn s from hi); exact (h2.stop h1 x).elim
    · obtain ⟨_, _, x⟩ := h1.down (show j + 1 ≤ lnn s from hj); exact (k2.stop k1 x).elim
    · obtain ⟨rfl, rfl⟩ := h1.one k1
      rcases h2 with ⟨a, rfl, rfl, rfl, rfl⟩ | ⟨a, rfl, c, d⟩ <;> rcases k2 with ⟨a', rfl, rfl, rfl, rfl⟩ | ⟨a', rfl, c', d'⟩
      · exact ⟨rfl, rfl, rfl, rfl⟩
      · exact absurd a' a
      · exact absurd a a'
      · obtain rfl := c.one c'
        rcases d with ⟨d1, rfl, rfl⟩ | ⟨d1, rfl, rfl⟩ <;> rcases d' with ⟨e1, rfl, rfl⟩ | ⟨e1, rfl, rfl⟩
        · exact ⟨rfl, rfl, rfl, rfl⟩
        · exact absurd e1 d1
        · exact absurd d1 e1
        · exact ⟨rfl, rfl, rfl, rfl⟩
theorem Par.bd {s : ByteArray} {G : List Gt} {O : List Int} {n : Nat} {r : Int} (h : Par s G O n r) : 0 ≤ r ∧ r ≤ 3 := by
  rcases h with ⟨_, _, _, _, rfl⟩ | ⟨_, ⟨_, _, _, _, _, _, _, _, _, rfl⟩ | ⟨_, _, _, ⟨_, _, _, _, rfl⟩ | ⟨_, _, c, _⟩⟩⟩
  · omega
  · omega
  · omega
  · have := c.bd; omega
end Go.Proofs.YtmpnaobjgknfkafDoor
