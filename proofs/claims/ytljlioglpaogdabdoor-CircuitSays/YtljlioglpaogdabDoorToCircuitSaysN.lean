/- Package circuit: gateLine, Print. · Package circuit: Print. · The walk of croftlaw.CircuitSays, where the circuit is wrong. -/
import Derived.Test.YtljlioglpaogdabDoorToCktC
import Derived.Test.YtljlioglpaogdabDoorToTextC
import Derived.Test.YtljlioglpaogdabDoorToFmtUC
import Derived.Test.YtljlioglpaogdabDoorToOutsC
import Derived.Test.YtljlioglpaogdabDoorToEqIC
namespace Go.Proofs.YtljlioglpaogdabDoor
set_option linter.unusedVariables false
set_option maxRecDepth 100000
set_option maxHeartbeats 8000000
section
open Crm Go.RowKit
theorem shw_vb (k : Nat) : shw k = vb k := rfl
/-- What gateLine answers. -/
def Gll (g : Gt) (w : World) (e : Ending) (w' : World) : Prop := e = .returned (.string (vb g.k.toNat ++ arg g ++ ⟨#[10]⟩)) ∧ Below w.heap.size w w'

theorem cGateLine (k x y z : Int) (i : Nat) (w : World) (hok : okg i ⟨k, x, y, z⟩) (hi : i ≤ 30) (hz : 0 ≤ z ∧ z ≤ 18446744073709551615) (hS : Shp w) (hT : Tabs w) :
    Calls Tryd.prog 20 #[.agg #[.int .i64 k, .int .i64 x, .int .i64 y, .int .u64 z]] w fun e w' => Gll ⟨k, x, y, z⟩ w e w' := by
  have hb0 : Below w.heap.size w (w.alloc (.cells #[.int .i64 k, .int .i64 x, .int .i64 y, .int .u64 z] 43)) := (Below.refl _ _).alloc (Nat.le_refl _) _
  obtain ⟨q1, q2, q3, q4⟩ := gate_box w k x y z 43
  have hlt : w.heap.size < (w.alloc (.cells #[.int .i64 k, .int .i64 x, .int .i64 y, .int .u64 z] 43)).heap.size := by simp
  have hnz := nm_bd z
  have sp := sp_size
  have nl := nl_size
  go_enter Tryd.func20, Tryd.ntmps20
  go_upto_region 1 with fail
  generalize w.alloc (.cells #[.int .i64 k, .int .i64 x, .int .i64 y, .int .u64 z] 43) = W at *
  have hS0 := hS.below hb0
  clear hS
  rcases hok with ⟨p1, p2, p3, p4⟩ | ⟨p1, p2, p3⟩ | ⟨p1, p2, p3⟩ | ⟨p1, p2, p3, p4⟩
  · simp only at p1 p2 p3 p4
    subst p1 p3 p4
    obtain ⟨v, HV⟩ : ∃ v, Hid (shw 1 = v) := ⟨_, rfl⟩
    obtain ⟨s0', s1, s2, s3⟩ := hS0.at1
    have s0 : W.cell? ⟨1, 4, none⟩ = some (.string v) := by rw [← HV.out]; exact s0'
    clear s0'
    have hvz : v.size ≤ 5 := by rw [← HV.out]; exact vb_size 1 (by omega)
    have slt := hS0.lt
    have hb1' : Below W.heap.size W (W.alloc (.cells #[.string v, .bool true, .bool false, .bool false] 65)) := (Below.refl _ _).alloc (Nat.le_refl _) _
    have hb1 := hb0.trans (hb1'.mono hb0.size)
    obtain ⟨t0, t1, t2, t3⟩ := shape_box W v true false false 65
    have hlt1 : W.heap.size < (W.alloc (.cells #[.string v, .bool true, .bool false, .bool false] 65)).heap.size := by simp
    have r1 : (W.alloc (.cells #[.string v, .bool true, .bool false, .bool false] 65)).cell? ⟨w.heap.size, 0, none⟩ = some (.int .i64 1) := by rw [hb1'.cell (p := ⟨w.heap.size, 0, none⟩) hlt]; exact q1
    have r2 : (W.alloc (.cells #[.string v, .bool true, .bool false, .bool false] 65)).cell? ⟨w.heap.size, 1, none⟩ = some (.int .i64 x) := by rw [hb1'.cell (p := ⟨w.heap.size, 1, none⟩) hlt]; exact q2
    have r3 : (W.alloc (.cells #[.string v, .bool true, .bool false, .bool false] 65)).cell? ⟨w.heap.size, 2, none⟩ = some (.int .i64 0) := by rw [hb1'.cell (p := ⟨w.heap.size, 2, none⟩) hlt]; exact q3
    have r4 : (W.alloc (.cells #[.string v, .bool true, .bool false, .bool false] 65)).cell? ⟨w.heap.size, 3, none⟩ = some (.int .u64 0) := by rw [hb1'.cell (p := ⟨w.heap.size, 3, none⟩) hlt]; exact q4
    have hlt2 := Nat.lt_trans hlt hlt1
    go_upto_region 2 with fail
    generalize W.alloc (.cells #[.string v, .bool true, .bool false, .bool false] 65) = V at *
    clear s0 s1 s2 s3 q1 q2 q3 q4 hb1' hb0 hS0
    have hTV := hT.below hb1
    have HALL : Hid (∀ w', Below V.heap.size V w' → (w'.cell? ⟨W.heap.size, 0, none⟩ = some (.string v) ∧ w'.cell? ⟨W.heap.size, 1, none⟩ = some (.bool true) ∧ w'.cell? ⟨W.heap.size, 2, none⟩ = some (.bool false) ∧ w'.cell? ⟨W.heap.size, 3, none⟩ = some (.bool false)) ∧ (w'.cell? ⟨w.heap.size, 1, none⟩ = some (.int .i64 x) ∧ w'.cell? ⟨w.heap.size, 2, none⟩ = some (.int .i64 0) ∧ w'.cell? ⟨w.heap.size, 3, none⟩ = some (.int .u64 0)) ∧ w.heap.size < w'.heap.size ∧ W.heap.size < w'.heap.size ∧ Tabs w' ∧ Below w.heap.size w w') := fun w' hb => by
      refine ⟨⟨?_, ?_, ?_, ?_⟩, ⟨?_, ?_, ?_⟩, Nat.lt_of_lt_of_le hlt2 hb.size, Nat.lt_of_lt_of_le hlt1 hb.size, hTV.below hb, hb1.trans (hb.mono hb1.size)⟩
      · rw [hb.cell (p := ⟨W.heap.size, 0, none⟩) hlt1]; exact t0
      · rw [hb.cell (p := ⟨W.heap.size, 1, none⟩) hlt1]; exact t1
      · rw [hb.cell (p := ⟨W.heap.size, 2, none⟩) hlt1]; exact t2
      · rw [hb.cell (p := ⟨W.heap.size, 3, none⟩) hlt1]; exact t3
      · rw [hb.cell (p := ⟨w.heap.size, 1, none⟩) hlt2]; exact r2
      · rw [hb.cell (p := ⟨w.heap.size, 2, none⟩) hlt2]; exact r3
      · rw [hb.cell (p := ⟨w.heap.size, 3, none⟩) hlt2]; exact r4
    have hu0 := itb_size x (by omega) (by omega)
    obtain ⟨u0, Hu0⟩ : ∃ u, Hid (itb x = u) := ⟨_, rfl⟩
    rw [Hu0.out] at hu0
    have b0 := add_run (P := Tryd.prog) ⟨#[32]⟩ u0 (by (repeat rw [ByteArray.size_append]); omega)
    have a0 := add_run (P := Tryd.prog) (v) (⟨#[32]⟩ ++ u0) (by (repeat rw [ByteArray.size_append]); omega)
    have ae := add_run (P := Tryd.prog) (v ++ (⟨#[32]⟩ ++ u0)) ⟨#[10]⟩ (by (repeat rw [ByteArray.size_append]); omega)
    have HA : Hid (vb ((1 : Int).toNat) ++ arg ⟨1, x, 0, 0⟩ ++ ⟨#[10]⟩ = v ++ (⟨#[32]⟩ ++ u0) ++ ⟨#[10]⟩) := by
      unfold Hid
      rw [← HV.out, ← Hu0.out]
      show vb 1 ++ (⟨#[32]⟩ ++ itb x) ++ ⟨#[10]⟩ = _
      simp only [ByteArray.append_assoc, shw_vb]
    go_wp2_with fail
    refine (sItoa x _ (by omega) (by omega) hTV).mono ?_
    rintro e w1 ⟨rfl, hbw1⟩
    rw [Hu0.out]
    have hc0 := hbw1
    obtain ⟨⟨t00, t10, t20, t30⟩, ⟨r20, r30, r40⟩, lt0, lu0, ht0, hE0⟩ := HALL.out _ hc0
    clear hbw1
    go_wp2
    go_ret
    exact ⟨by show _ = Ending.returned (.string (vb ((1 : Int).toNat) ++ arg ⟨1, x, 0, 0⟩ ++ ⟨#[10]⟩)); rw [HA.out]; rfl, hE0⟩
  · simp only at p1 p2 p3
    subst p1 p2 p3
    obtain ⟨v, HV⟩ : ∃ v, Hid (shw 2 = v) := ⟨_, rfl⟩
    obtain ⟨s0', s1, s2, s3⟩ := hS0.at2
    have s0 : W.cell? ⟨1, 8, none⟩ = some (.string v) := by rw [← HV.out]; exact s0'
    clear s0'
    have hvz : v.size ≤ 5 := by rw [← HV.out]; exact vb_size 2 (by omega)
    have slt := hS0.lt
    have hb1' : Below W.heap.size W (W.alloc (.cells #[.string v, .bool false, .bool false, .bool true] 65)) := (Below.refl _ _).alloc (Nat.le_refl _) _
    have hb1 := hb0.trans (hb1'.mono hb0.size)
    obtain ⟨t0, t1, t2, t3⟩ := shape_box W v false false true 65
    have hlt1 : W.heap.size < (W.alloc (.cells #[.string v, .bool false, .bool false, .bool true] 65)).heap.size := by simp
    have r1 : (W.alloc (.cells #[.string v, .bool false, .bool false, .bool true] 65)).cell? ⟨w.heap.size, 0, none⟩ = some (.int .i64 2) := by rw [hb1'.cell (p := ⟨w.heap.size, 0, none⟩) hlt]; exact q1
    have r2 : (W.alloc (.cells #[.string v, .bool false, .bool false, .bool true] 65)).cell? ⟨w.heap.size, 1, none⟩ = some (.int .i64 0) := by rw [hb1'.cell (p := ⟨w.heap.size, 1, none⟩) hlt]; exact q2
    have r3 : (W.alloc (.cells #[.string v, .bool false, .bool false, .bool true] 65)).cell? ⟨w.heap.size, 2, none⟩ = some (.int .i64 0) := by rw [hb1'.cell (p := ⟨w.heap.size, 2, none⟩) hlt]; exact q3
    have r4 : (W.alloc (.cells #[.string v, .bool false, .bool false, .bool true] 65)).cell? ⟨w.heap.size, 3, none⟩ = some (.int .u64 z) := by rw [hb1'.cell (p := ⟨w.heap.size, 3, none⟩) hlt]; exact q4
    have hlt2 := Nat.lt_trans hlt hlt1
    go_upto_region 2 with fail
    generalize W.alloc (.cells #[.string v, .bool false, .bool false, .bool true] 65) = V at *
    clear s0 s1 s2 s3 q1 q2 q3 q4 hb1' hb0 hS0
    have hTV := hT.below hb1
    have HALL : Hid (∀ w', Below V.heap.size V w' → (w'.cell? ⟨W.heap.size, 0, none⟩ = some (.string v) ∧ w'.cell? ⟨W.heap.size, 1, none⟩ = some (.bool false) ∧ w'.cell? ⟨W.heap.size, 2, none⟩ = some (.bool false) ∧ w'.cell? ⟨W.heap.size, 3, none⟩ = some (.bool true)) ∧ (w'.cell? ⟨w.heap.size, 1, none⟩ = some (.int .i64 0) ∧ w'.cell? ⟨w.heap.size, 2, none⟩ = some (.int .i64 0) ∧ w'.cell? ⟨w.heap.size, 3, none⟩ = some (.int .u64 z)) ∧ w.heap.size < w'.heap.size ∧ W.heap.size < w'.heap.size ∧ Tabs w' ∧ Below w.heap.size w w') := fun w' hb => by
      refine ⟨⟨?_, ?_, ?_, ?_⟩, ⟨?_, ?_, ?_⟩, Nat.lt_of_lt_of_le hlt2 hb.size, Nat.lt_of_lt_of_le hlt1 hb.size, hTV.below hb, hb1.trans (hb.mono hb1.size)⟩
      · rw [hb.cell (p := ⟨W.heap.size, 0, none⟩) hlt1]; exact t0
      · rw [hb.cell (p := ⟨W.heap.size, 1, none⟩) hlt1]; exact t1
      · rw [hb.cell (p := ⟨W.heap.size, 2, none⟩) hlt1]; exact t2
      · rw [hb.cell (p := ⟨W.heap.size, 3, none⟩) hlt1]; exact t3
      · rw [hb.cell (p := ⟨w.heap.size, 1, none⟩) hlt2]; exact r2
      · rw [hb.cell (p := ⟨w.heap.size, 2, none⟩) hlt2]; exact r3
      · rw [hb.cell (p := ⟨w.heap.size, 3, none⟩) hlt2]; exact r4
    obtain ⟨N, HN⟩ : ∃ N, Hid (nm z = N) := ⟨_, rfl⟩
    have hnz2 := hnz
    rw [HN.out] at hnz2
    have hu0 := itb_size N (by omega) (by omega)
    obtain ⟨u0, Hu0⟩ : ∃ u, Hid (itb N = u) := ⟨_, rfl⟩
    rw [Hu0.out] at hu0
    have b0 := add_run (P := Tryd.prog) ⟨#[32]⟩ u0 (by (repeat rw [ByteArray.size_append]); omega)
    have a0 := add_run (P := Tryd.prog) (v) (⟨#[32]⟩ ++ u0) (by (repeat rw [ByteArray.size_append]); omega)
    have ae := add_run (P := Tryd.prog) (v ++ (⟨#[32]⟩ ++ u0)) ⟨#[10]⟩ (by (repeat rw [ByteArray.size_append]); omega)
    have HA : Hid (vb ((2 : Int).toNat) ++ arg ⟨2, 0, 0, z⟩ ++ ⟨#[10]⟩ = v ++ (⟨#[32]⟩ ++ u0) ++ ⟨#[10]⟩) := by
      unfold Hid
      rw [← HV.out, ← Hu0.out, ← HN.out]
      show vb 2 ++ (⟨#[32]⟩ ++ itb (nm z)) ++ ⟨#[10]⟩ = _
      simp only [ByteArray.append_assoc, shw_vb]
    go_wp2_with fail
    refine (fNorm z _ hz.1 hz.2).mono ?_
    rintro e wN ⟨rfl, hwN⟩
    have hwN := hwN.symm
    subst hwN
    rw [HN.out]
    go_wp2_with fail
    refine (sFormatUint N _ (by omega) (by omega) hTV).mono ?_
    rintro e w1 ⟨rfl, hbw1⟩
    rw [Hu0.out]
    have hc0 := hbw1
    obtain ⟨⟨t00, t10, t20, t30⟩, ⟨r20, r30, r40⟩, lt0, lu0, ht0, hE0⟩ := HALL.out _ hc0
    clear hbw1
    go_wp2
    go_ret
    exact ⟨by show _ = Ending.returned (.string (vb ((2 : Int).toNat) ++ arg ⟨2, 0, 0, z⟩ ++ ⟨#[10]⟩)); rw [HA.out]; rfl, hE0⟩
  · simp only at p1 p2 p3
    subst p1 p3
    obtain ⟨v, HV⟩ : ∃ v, Hid (shw 6 = v) := ⟨_, rfl⟩
    obtain ⟨s0', s1, s2, s3⟩ := hS0.at6
    have s0 : W.cell? ⟨1, 24, none⟩ = some (.string v) := by rw [← HV.out]; exact s0'
    clear s0'
    have hvz : v.size ≤ 5 := by rw [← HV.out]; exact vb_size 6 (by omega)
    have slt := hS0.lt
    have hb1' : Below W.heap.size W (W.alloc (.cells #[.string v, .bool true, .bool false, .bool true] 65)) := (Below.refl _ _).alloc (Nat.le_refl _) _
    have hb1 := hb0.trans (hb1'.mono hb0.size)
    obtain ⟨t0, t1, t2, t3⟩ := shape_box W v true false true 65
    have hlt1 : W.heap.size < (W.alloc (.cells #[.string v, .bool true, .bool false, .bool true] 65)).heap.size := by simp
    have r1 : (W.alloc (.cells #[.string v, .bool true, .bool false, .bool true] 65)).cell? ⟨w.heap.size, 0, none⟩ = some (.int .i64 6) := by rw [hb1'.cell (p := ⟨w.heap.size, 0, none⟩) hlt]; exact q1
    have r2 : (W.alloc (.cells #[.string v, .bool true, .bool false, .bool true] 65)).cell? ⟨w.heap.size, 1, none⟩ = some (.int .i64 x) := by rw [hb1'.cell (p := ⟨w.heap.size, 1, none⟩) hlt]; exact q2
    have r3 : (W.alloc (.cells #[.string v, .bool true, .bool false, .bool true] 65)).cell? ⟨w.heap.size, 2, none⟩ = some (.int .i64 0) := by rw [hb1'.cell (p := ⟨w.heap.size, 2, none⟩) hlt]; exact q3
    have r4 : (W.alloc (.cells #[.string v, .bool true, .bool false, .bool true] 65)).cell? ⟨w.heap.size, 3, none⟩ = some (.int .u64 z) := by rw [hb1'.cell (p := ⟨w.heap.size, 3, none⟩) hlt]; exact q4
    have hlt2 := Nat.lt_trans hlt hlt1
    go_upto_region 2 with fail
    generalize W.alloc (.cells #[.string v, .bool true, .bool false, .bool true] 65) = V at *
    clear s0 s1 s2 s3 q1 q2 q3 q4 hb1' hb0 hS0
    have hTV := hT.below hb1
    have HALL : Hid (∀ w', Below V.heap.size V w' → (w'.cell? ⟨W.heap.size, 0, none⟩ = some (.string v) ∧ w'.cell? ⟨W.heap.size, 1, none⟩ = some (.bool true) ∧ w'.cell? ⟨W.heap.size, 2, none⟩ = some (.bool false) ∧ w'.cell? ⟨W.heap.size, 3, none⟩ = some (.bool true)) ∧ (w'.cell? ⟨w.heap.size, 1, none⟩ = some (.int .i64 x) ∧ w'.cell? ⟨w.heap.size, 2, none⟩ = some (.int .i64 0) ∧ w'.cell? ⟨w.heap.size, 3, none⟩ = some (.int .u64 z)) ∧ w.heap.size < w'.heap.size ∧ W.heap.size < w'.heap.size ∧ Tabs w' ∧ Below w.heap.size w w') := fun w' hb => by
      refine ⟨⟨?_, ?_, ?_, ?_⟩, ⟨?_, ?_, ?_⟩, Nat.lt_of_lt_of_le hlt2 hb.size, Nat.lt_of_lt_of_le hlt1 hb.size, hTV.below hb, hb1.trans (hb.mono hb1.size)⟩
      · rw [hb.cell (p := ⟨W.heap.size, 0, none⟩) hlt1]; exact t0
      · rw [hb.cell (p := ⟨W.heap.size, 1, none⟩) hlt1]; exact t1
      · rw [hb.cell (p := ⟨W.heap.size, 2, none⟩) hlt1]; exact t2
      · rw [hb.cell (p := ⟨W.heap.size, 3, none⟩) hlt1]; exact t3
      · rw [hb.cell (p := ⟨w.heap.size, 1, none⟩) hlt2]; exact r2
      · rw [hb.cell (p := ⟨w.heap.size, 2, none⟩) hlt2]; exact r3
      · rw [hb.cell (p := ⟨w.heap.size, 3, none⟩) hlt2]; exact r4
    have hu0 := itb_size x (by omega) (by omega)
    obtain ⟨u0, Hu0⟩ : ∃ u, Hid (itb x = u) := ⟨_, rfl⟩
    rw [Hu0.out] at hu0
    have b0 := add_run (P := Tryd.prog) ⟨#[32]⟩ u0 (by (repeat rw [ByteArray.size_append]); omega)
    have a0 := add_run (P := Tryd.prog) (v) (⟨#[32]⟩ ++ u0) (by (repeat rw [ByteArray.size_append]); omega)
    obtain ⟨N, HN⟩ : ∃ N, Hid (nm z = N) := ⟨_, rfl⟩
    have hnz2 := hnz
    rw [HN.out] at hnz2
    have hu1 := itb_size N (by omega) (by omega)
    obtain ⟨u1, Hu1⟩ : ∃ u, Hid (itb N = u) := ⟨_, rfl⟩
    rw [Hu1.out] at hu1
    have b1 := add_run (P := Tryd.prog) ⟨#[32]⟩ u1 (by (repeat rw [ByteArray.size_append]); omega)
    have a1 := add_run (P := Tryd.prog) (v ++ (⟨#[32]⟩ ++ u0)) (⟨#[32]⟩ ++ u1) (by (repeat rw [ByteArray.size_append]); omega)
    have ae := add_run (P := Tryd.prog) (v ++ (⟨#[32]⟩ ++ u0) ++ (⟨#[32]⟩ ++ u1)) ⟨#[10]⟩ (by (repeat rw [ByteArray.size_append]); omega)
    have HA : Hid (vb ((6 : Int).toNat) ++ arg ⟨6, x, 0, z⟩ ++ ⟨#[10]⟩ = v ++ (⟨#[32]⟩ ++ u0) ++ (⟨#[32]⟩ ++ u1) ++ ⟨#[10]⟩) := by
      unfold Hid
      rw [← HV.out, ← Hu0.out, ← Hu1.out, ← HN.out]
      show vb 6 ++ (⟨#[32]⟩ ++ itb x ++ ⟨#[32]⟩ ++ itb (nm z)) ++ ⟨#[10]⟩ = _
      simp only [ByteArray.append_assoc, shw_vb]
    go_wp2_with fail
    refine (sItoa x _ (by omega) (by omega) hTV).mono ?_
    rintro e w1 ⟨rfl, hbw1⟩
    rw [Hu0.out]
    have hc0 := hbw1
    obtain ⟨⟨t00, t10, t20, t30⟩, ⟨r20, r30, r40⟩, lt0, lu0, ht0, hE0⟩ := HALL.out _ hc0
    clear hbw1
    go_wp2_with fail
    refine (fNorm z _ hz.1 hz.2).mono ?_
    rintro e wN ⟨rfl, hwN⟩
    have hwN := hwN.symm
    subst hwN
    rw [HN.out]
    go_wp2_with fail
    refine (sFormatUint N _ (by omega) (by omega) ht0).mono ?_
    rintro e w2 ⟨rfl, hbw2⟩
    rw [Hu1.out]
    have hc1 := hc0.trans (hbw2.mono hc0.size)
    obtain ⟨⟨t01, t11, t21, t31⟩, ⟨r21, r31, r41⟩, lt1, lu1, ht1, hE1⟩ := HALL.out _ hc1
    clear hbw2
    go_wp2
    go_ret
    exact ⟨by show _ = Ending.returned (.string (vb ((6 : Int).toNat) ++ arg ⟨6, x, 0, z⟩ ++ ⟨#[10]⟩)); rw [HA.out]; rfl, hE1⟩
  · simp only at p1 p2 p3 p4
    subst p4
    rcases p1 with p1 | p1 | p1
    · subst p1
      obtain ⟨v, HV⟩ : ∃ v, Hid (shw 3 = v) := ⟨_, rfl⟩
      obtain ⟨s0', s1, s2, s3⟩ := hS0.at3
      have s0 : W.cell? ⟨1, 12, none⟩ = some (.string v) := by rw [← HV.out]; exact s0'
      clear s0'
      have hvz : v.size ≤ 5 := by rw [← HV.out]; exact vb_size 3 (by omega)
      have slt := hS0.lt
      have hb1' : Below W.heap.size W (W.alloc (.cells #[.string v, .bool true, .bool true, .bool false] 65)) := (Below.refl _ _).alloc (Nat.le_refl _) _
      have hb1 := hb0.trans (hb1'.mono hb0.size)
      obtain ⟨t0, t1, t2, t3⟩ := shape_box W v true true false 65
      have hlt1 : W.heap.size < (W.alloc (.cells #[.string v, .bool true, .bool true, .bool false] 65)).heap.size := by simp
      have r1 : (W.alloc (.cells #[.string v, .bool true, .bool true, .bool false] 65)).cell? ⟨w.heap.size, 0, none⟩ = some (.int .i64 3) := by rw [hb1'.cell (p := ⟨w.heap.size, 0, none⟩) hlt]; exact q1
      have r2 : (W.alloc (.cells #[.string v, .bool true, .bool true, .bool false] 65)).cell? ⟨w.heap.size, 1, none⟩ = some (.int .i64 x) := by rw [hb1'.cell (p := ⟨w.heap.size, 1, none⟩) hlt]; exact q2
      have r3 : (W.alloc (.cells #[.string v, .bool true, .bool true, .bool false] 65)).cell? ⟨w.heap.size, 2, none⟩ = some (.int .i64 y) := by rw [hb1'.cell (p := ⟨w.heap.size, 2, none⟩) hlt]; exact q3
      have r4 : (W.alloc (.cells #[.string v, .bool true, .bool true, .bool false] 65)).cell? ⟨w.heap.size, 3, none⟩ = some (.int .u64 0) := by rw [hb1'.cell (p := ⟨w.heap.size, 3, none⟩) hlt]; exact q4
      have hlt2 := Nat.lt_trans hlt hlt1
      go_upto_region 2 with fail
      generalize W.alloc (.cells #[.string v, .bool true, .bool true, .bool false] 65) = V at *
      clear s0 s1 s2 s3 q1 q2 q3 q4 hb1' hb0 hS0
      have hTV := hT.below hb1
      have HALL : Hid (∀ w', Below V.heap.size V w' → (w'.cell? ⟨W.heap.size, 0, none⟩ = some (.string v) ∧ w'.cell? ⟨W.heap.size, 1, none⟩ = some (.bool true) ∧ w'.cell? ⟨W.heap.size, 2, none⟩ = some (.bool true) ∧ w'.cell? ⟨W.heap.size, 3, none⟩ = some (.bool false)) ∧ (w'.cell? ⟨w.heap.size, 1, none⟩ = some (.int .i64 x) ∧ w'.cell? ⟨w.heap.size, 2, none⟩ = some (.int .i64 y) ∧ w'.cell? ⟨w.heap.size, 3, none⟩ = some (.int .u64 0)) ∧ w.heap.size < w'.heap.size ∧ W.heap.size < w'.heap.size ∧ Tabs w' ∧ Below w.heap.size w w') := fun w' hb => by
        refine ⟨⟨?_, ?_, ?_, ?_⟩, ⟨?_, ?_, ?_⟩, Nat.lt_of_lt_of_le hlt2 hb.size, Nat.lt_of_lt_of_le hlt1 hb.size, hTV.below hb, hb1.trans (hb.mono hb1.size)⟩
        · rw [hb.cell (p := ⟨W.heap.size, 0, none⟩) hlt1]; exact t0
        · rw [hb.cell (p := ⟨W.heap.size, 1, none⟩) hlt1]; exact t1
        · rw [hb.cell (p := ⟨W.heap.size, 2, none⟩) hlt1]; exact t2
        · rw [hb.cell (p := ⟨W.heap.size, 3, none⟩) hlt1]; exact t3
        · rw [hb.cell (p := ⟨w.heap.size, 1, none⟩) hlt2]; exact r2
        · rw [hb.cell (p := ⟨w.heap.size, 2, none⟩) hlt2]; exact r3
        · rw [hb.cell (p := ⟨w.heap.size, 3, none⟩) hlt2]; exact r4
      have hu0 := itb_size x (by omega) (by omega)
      obtain ⟨u0, Hu0⟩ : ∃ u, Hid (itb x = u) := ⟨_, rfl⟩
      rw [Hu0.out] at hu0
      have b0 := add_run (P := Tryd.prog) ⟨#[32]⟩ u0 (by (repeat rw [ByteArray.size_append]); omega)
      have a0 := add_run (P := Tryd.prog) (v) (⟨#[32]⟩ ++ u0) (by (repeat rw [ByteArray.size_append]); omega)
      have hu1 := itb_size y (by omega) (by omega)
      obtain ⟨u1, Hu1⟩ : ∃ u, Hid (itb y = u) := ⟨_, rfl⟩
      rw [Hu1.out] at hu1
      have b1 := add_run (P := Tryd.prog) ⟨#[32]⟩ u1 (by (repeat rw [ByteArray.size_append]); omega)
      have a1 := add_run (P := Tryd.prog) (v ++ (⟨#[32]⟩ ++ u0)) (⟨#[32]⟩ ++ u1) (by (repeat rw [ByteArray.size_append]); omega)
      have ae := add_run (P := Tryd.prog) (v ++ (⟨#[32]⟩ ++ u0) ++ (⟨#[32]⟩ ++ u1)) ⟨#[10]⟩ (by (repeat rw [ByteArray.size_append]); omega)
      have HA : Hid (vb ((3 : Int).toNat) ++ arg ⟨3, x, y, 0⟩ ++ ⟨#[10]⟩ = v ++ (⟨#[32]⟩ ++ u0) ++ (⟨#[32]⟩ ++ u1) ++ ⟨#[10]⟩) := by
        unfold Hid
        rw [← HV.out, ← Hu0.out, ← Hu1.out]
        show vb 3 ++ (⟨#[32]⟩ ++ itb x ++ ⟨#[32]⟩ ++ itb y) ++ ⟨#[10]⟩ = _
        simp only [ByteArray.append_assoc, shw_vb]
      go_wp2_with fail
      refine (sItoa x _ (by omega) (by omega) hTV).mono ?_
      rintro e w1 ⟨rfl, hbw1⟩
      rw [Hu0.out]
      have hc0 := hbw1
      obtain ⟨⟨t00, t10, t20, t30⟩, ⟨r20, r30, r40⟩, lt0, lu0, ht0, hE0⟩ := HALL.out _ hc0
      clear hbw1
      go_wp2_with fail
      refine (sItoa y _ (by omega) (by omega) ht0).mono ?_
      rintro e w2 ⟨rfl, hbw2⟩
      rw [Hu1.out]
      have hc1 := hc0.trans (hbw2.mono hc0.size)
      obtain ⟨⟨t01, t11, t21, t31⟩, ⟨r21, r31, r41⟩, lt1, lu1, ht1, hE1⟩ := HALL.out _ hc1
      clear hbw2
      go_wp2
      go_ret
      exact ⟨by show _ = Ending.returned (.string (vb ((3 : Int).toNat) ++ arg ⟨3, x, y, 0⟩ ++ ⟨#[10]⟩)); rw [HA.out]; rfl, hE1⟩
    · subst p1
      obtain ⟨v, HV⟩ : ∃ v, Hid (shw 4 = v) := ⟨_, rfl⟩
      obtain ⟨s0', s1, s2, s3⟩ := hS0.at4
      have s0 : W.cell? ⟨1, 16, none⟩ = some (.string v) := by rw [← HV.out]; exact s0'
      clear s0'
      have hvz : v.size ≤ 5 := by rw [← HV.out]; exact vb_size 4 (by omega)
      have slt := hS0.lt
      have hb1' : Below W.heap.size W (W.alloc (.cells #[.string v, .bool true, .bool true, .bool false] 65)) := (Below.refl _ _).alloc (Nat.le_refl _) _
      have hb1 := hb0.trans (hb1'.mono hb0.size)
      obtain ⟨t0, t1, t2, t3⟩ := shape_box W v true true false 65
      have hlt1 : W.heap.size < (W.alloc (.cells #[.string v, .bool true, .bool true, .bool false] 65)).heap.size := by simp
      have r1 : (W.alloc (.cells #[.string v, .bool true, .bool true, .bool false] 65)).cell? ⟨w.heap.size, 0, none⟩ = some (.int .i64 4) := by rw [hb1'.cell (p := ⟨w.heap.size, 0, none⟩) hlt]; exact q1
      have r2 : (W.alloc (.cells #[.string v, .bool true, .bool true, .bool false] 65)).cell? ⟨w.heap.size, 1, none⟩ = some (.int .i64 x) := by rw [hb1'.cell (p := ⟨w.heap.size, 1, none⟩) hlt]; exact q2
      have r3 : (W.alloc (.cells #[.string v, .bool true, .bool true, .bool false] 65)).cell? ⟨w.heap.size, 2, none⟩ = some (.int .i64 y) := by rw [hb1'.cell (p := ⟨w.heap.size, 2, none⟩) hlt]; exact q3
      have r4 : (W.alloc (.cells #[.string v, .bool true, .bool true, .bool false] 65)).cell? ⟨w.heap.size, 3, none⟩ = some (.int .u64 0) := by rw [hb1'.cell (p := ⟨w.heap.size, 3, none⟩) hlt]; exact q4
      have hlt2 := Nat.lt_trans hlt hlt1
      go_upto_region 2 with fail
      generalize W.alloc (.cells #[.string v, .bool true, .bool true, .bool false] 65) = V at *
      clear s0 s1 s2 s3 q1 q2 q3 q4 hb1' hb0 hS0
      have hTV := hT.below hb1
      have HALL : Hid (∀ w', Below V.heap.size V w' → (w'.cell? ⟨W.heap.size, 0, none⟩ = some (.string v) ∧ w'.cell? ⟨W.heap.size, 1, none⟩ = some (.bool true) ∧ w'.cell? ⟨W.heap.size, 2, none⟩ = some (.bool true) ∧ w'.cell? ⟨W.heap.size, 3, none⟩ = some (.bool false)) ∧ (w'.cell? ⟨w.heap.size, 1, none⟩ = some (.int .i64 x) ∧ w'.cell? ⟨w.heap.size, 2, none⟩ = some (.int .i64 y) ∧ w'.cell? ⟨w.heap.size, 3, none⟩ = some (.int .u64 0)) ∧ w.heap.size < w'.heap.size ∧ W.heap.size < w'.heap.size ∧ Tabs w' ∧ Below w.heap.size w w') := fun w' hb => by
        refine ⟨⟨?_, ?_, ?_, ?_⟩, ⟨?_, ?_, ?_⟩, Nat.lt_of_lt_of_le hlt2 hb.size, Nat.lt_of_lt_of_le hlt1 hb.size, hTV.below hb, hb1.trans (hb.mono hb1.size)⟩
        · rw [hb.cell (p := ⟨W.heap.size, 0, none⟩) hlt1]; exact t0
        · rw [hb.cell (p := ⟨W.heap.size, 1, none⟩) hlt1]; exact t1
        · rw [hb.cell (p := ⟨W.heap.size, 2, none⟩) hlt1]; exact t2
        · rw [hb.cell (p := ⟨W.heap.size, 3, none⟩) hlt1]; exact t3
        · rw [hb.cell (p := ⟨w.heap.size, 1, none⟩) hlt2]; exact r2
        · rw [hb.cell (p := ⟨w.heap.size, 2, none⟩) hlt2]; exact r3
        · rw [hb.cell (p := ⟨w.heap.size, 3, none⟩) hlt2]; exact r4
      have hu0 := itb_size x (by omega) (by omega)
      obtain ⟨u0, Hu0⟩ : ∃ u, Hid (itb x = u) := ⟨_, rfl⟩
      rw [Hu0.out] at hu0
      have b0 := add_run (P := Tryd.prog) ⟨#[32]⟩ u0 (by (repeat rw [ByteArray.size_append]); omega)
      have a0 := add_run (P := Tryd.prog) (v) (⟨#[32]⟩ ++ u0) (by (repeat rw [ByteArray.size_append]); omega)
      have hu1 := itb_size y (by omega) (by omega)
      obtain ⟨u1, Hu1⟩ : ∃ u, Hid (itb y = u) := ⟨_, rfl⟩
      rw [Hu1.out] at hu1
      have b1 := add_run (P := Tryd.prog) ⟨#[32]⟩ u1 (by (repeat rw [ByteArray.size_append]); omega)
      have a1 := add_run (P := Tryd.prog) (v ++ (⟨#[32]⟩ ++ u0)) (⟨#[32]⟩ ++ u1) (by (repeat rw [ByteArray.size_append]); omega)
      have ae := add_run (P := Tryd.prog) (v ++ (⟨#[32]⟩ ++ u0) ++ (⟨#[32]⟩ ++ u1)) ⟨#[10]⟩ (by (repeat rw [ByteArray.size_append]); omega)
      have HA : Hid (vb ((4 : Int).toNat) ++ arg ⟨4, x, y, 0⟩ ++ ⟨#[10]⟩ = v ++ (⟨#[32]⟩ ++ u0) ++ (⟨#[32]⟩ ++ u1) ++ ⟨#[10]⟩) := by
        unfold Hid
        rw [← HV.out, ← Hu0.out, ← Hu1.out]
        show vb 4 ++ (⟨#[32]⟩ ++ itb x ++ ⟨#[32]⟩ ++ itb y) ++ ⟨#[10]⟩ = _
        simp only [ByteArray.append_assoc, shw_vb]
      go_wp2_with fail
      refine (sItoa x _ (by omega) (by omega) hTV).mono ?_
      rintro e w1 ⟨rfl, hbw1⟩
      rw [Hu0.out]
      have hc0 := hbw1
      obtain ⟨⟨t00, t10, t20, t30⟩, ⟨r20, r30, r40⟩, lt0, lu0, ht0, hE0⟩ := HALL.out _ hc0
      clear hbw1
      go_wp2_with fail
      refine (sItoa y _ (by omega) (by omega) ht0).mono ?_
      rintro e w2 ⟨rfl, hbw2⟩
      rw [Hu1.out]
      have hc1 := hc0.trans (hbw2.mono hc0.size)
      obtain ⟨⟨t01, t11, t21, t31⟩, ⟨r21, r31, r41⟩, lt1, lu1, ht1, hE1⟩ := HALL.out _ hc1
      clear hbw2
      go_wp2
      go_ret
      exact ⟨by show _ = Ending.returned (.string (vb ((4 : Int).toNat) ++ arg ⟨4, x, y, 0⟩ ++ ⟨#[10]⟩)); rw [HA.out]; rfl, hE1⟩
    · subst p1
      obtain ⟨v, HV⟩ : ∃ v, Hid (shw 5 = v) := ⟨_, rfl⟩
      obtain ⟨s0', s1, s2, s3⟩ := hS0.at5
      have s0 : W.cell? ⟨1, 20, none⟩ = some (.string v) := by rw [← HV.out]; exact s0'
      clear s0'
      have hvz : v.size ≤ 5 := by rw [← HV.out]; exact vb_size 5 (by omega)
      have slt := hS0.lt
      have hb1' : Below W.heap.size W (W.alloc (.cells #[.string v, .bool true, .bool true, .bool false] 65)) := (Below.refl _ _).alloc (Nat.le_refl _) _
      have hb1 := hb0.trans (hb1'.mono hb0.size)
      obtain ⟨t0, t1, t2, t3⟩ := shape_box W v true true false 65
      have hlt1 : W.heap.size < (W.alloc (.cells #[.string v, .bool true, .bool true, .bool false] 65)).heap.size := by simp
      have r1 : (W.alloc (.cells #[.string v, .bool true, .bool true, .bool false] 65)).cell? ⟨w.heap.size, 0, none⟩ = some (.int .i64 5) := by rw [hb1'.cell (p := ⟨w.heap.size, 0, none⟩) hlt]; exact q1
      have r2 : (W.alloc (.cells #[.string v, .bool true, .bool true, .bool false] 65)).cell? ⟨w.heap.size, 1, none⟩ = some (.int .i64 x) := by rw [hb1'.cell (p := ⟨w.heap.size, 1, none⟩) hlt]; exact q2
      have r3 : (W.alloc (.cells #[.string v, .bool true, .bool true, .bool false] 65)).cell? ⟨w.heap.size, 2, none⟩ = some (.int .i64 y) := by rw [hb1'.cell (p := ⟨w.heap.size, 2, none⟩) hlt]; exact q3
      have r4 : (W.alloc (.cells #[.string v, .bool true, .bool true, .bool false] 65)).cell? ⟨w.heap.size, 3, none⟩ = some (.int .u64 0) := by rw [hb1'.cell (p := ⟨w.heap.size, 3, none⟩) hlt]; exact q4
      have hlt2 := Nat.lt_trans hlt hlt1
      go_upto_region 2 with fail
      generalize W.alloc (.cells #[.string v, .bool true, .bool true, .bool false] 65) = V at *
      clear s0 s1 s2 s3 q1 q2 q3 q4 hb1' hb0 hS0
      have hTV := hT.below hb1
      have HALL : Hid (∀ w', Below V.heap.size V w' → (w'.cell? ⟨W.heap.size, 0, none⟩ = some (.string v) ∧ w'.cell? ⟨W.heap.size, 1, none⟩ = some (.bool true) ∧ w'.cell? ⟨W.heap.size, 2, none⟩ = some (.bool true) ∧ w'.cell? ⟨W.heap.size, 3, none⟩ = some (.bool false)) ∧ (w'.cell? ⟨w.heap.size, 1, none⟩ = some (.int .i64 x) ∧ w'.cell? ⟨w.heap.size, 2, none⟩ = some (.int .i64 y) ∧ w'.cell? ⟨w.heap.size, 3, none⟩ = some (.int .u64 0)) ∧ w.heap.size < w'.heap.size ∧ W.heap.size < w'.heap.size ∧ Tabs w' ∧ Below w.heap.size w w') := fun w' hb => by
        refine ⟨⟨?_, ?_, ?_, ?_⟩, ⟨?_, ?_, ?_⟩, Nat.lt_of_lt_of_le hlt2 hb.size, Nat.lt_of_lt_of_le hlt1 hb.size, hTV.below hb, hb1.trans (hb.mono hb1.size)⟩
        · rw [hb.cell (p := ⟨W.heap.size, 0, none⟩) hlt1]; exact t0
        · rw [hb.cell (p := ⟨W.heap.size, 1, none⟩) hlt1]; exact t1
        · rw [hb.cell (p := ⟨W.heap.size, 2, none⟩) hlt1]; exact t2
        · rw [hb.cell (p := ⟨W.heap.size, 3, none⟩) hlt1]; exact t3
        · rw [hb.cell (p := ⟨w.heap.size, 1, none⟩) hlt2]; exact r2
        · rw [hb.cell (p := ⟨w.heap.size, 2, none⟩) hlt2]; exact r3
        · rw [hb.cell (p := ⟨w.heap.size, 3, none⟩) hlt2]; exact r4
      have hu0 := itb_size x (by omega) (by omega)
      obtain ⟨u0, Hu0⟩ : ∃ u, Hid (itb x = u) := ⟨_, rfl⟩
      rw [Hu0.out] at hu0
      have b0 := add_run (P := Tryd.prog) ⟨#[32]⟩ u0 (by (repeat rw [ByteArray.size_append]); omega)
      have a0 := add_run (P := Tryd.prog) (v) (⟨#[32]⟩ ++ u0) (by (repeat rw [ByteArray.size_append]); omega)
      have hu1 := itb_size y (by omega) (by omega)
      obtain ⟨u1, Hu1⟩ : ∃ u, Hid (itb y = u) := ⟨_, rfl⟩
      rw [Hu1.out] at hu1
      have b1 := add_run (P := Tryd.prog) ⟨#[32]⟩ u1 (by (repeat rw [ByteArray.size_append]); omega)
      have a1 := add_run (P := Tryd.prog) (v ++ (⟨#[32]⟩ ++ u0)) (⟨#[32]⟩ ++ u1) (by (repeat rw [ByteArray.size_append]); omega)
      have ae := add_run (P := Tryd.prog) (v ++ (⟨#[32]⟩ ++ u0) ++ (⟨#[32]⟩ ++ u1)) ⟨#[10]⟩ (by (repeat rw [ByteArray.size_append]); omega)
      have HA : Hid (vb ((5 : Int).toNat) ++ arg ⟨5, x, y, 0⟩ ++ ⟨#[10]⟩ = v ++ (⟨#[32]⟩ ++ u0) ++ (⟨#[32]⟩ ++ u1) ++ ⟨#[10]⟩) := by
        unfold Hid
        rw [← HV.out, ← Hu0.out, ← Hu1.out]
        show vb 5 ++ (⟨#[32]⟩ ++ itb x ++ ⟨#[32]⟩ ++ itb y) ++ ⟨#[10]⟩ = _
        simp only [ByteArray.append_assoc, shw_vb]
      go_wp2_with fail
      refine (sItoa x _ (by omega) (by omega) hTV).mono ?_
      rintro e w1 ⟨rfl, hbw1⟩
      rw [Hu0.out]
      have hc0 := hbw1
      obtain ⟨⟨t00, t10, t20, t30⟩, ⟨r20, r30, r40⟩, lt0, lu0, ht0, hE0⟩ := HALL.out _ hc0
      clear hbw1
      go_wp2_with fail
      refine (sItoa y _ (by omega) (by omega) ht0).mono ?_
      rintro e w2 ⟨rfl, hbw2⟩
      rw [Hu1.out]
      have hc1 := hc0.trans (hbw2.mono hc0.size)
      obtain ⟨⟨t01, t11, t21, t31⟩, ⟨r21, r31, r41⟩, lt1, lu1, ht1, hE1⟩ := HALL.out _ hc1
      clear hbw2
      go_wp2
      go_ret
      exact ⟨by show _ = Ending.returned (.string (vb ((5 : Int).toNat) ++ arg ⟨5, x, y, 0⟩ ++ ⟨#[10]⟩)); rw [HA.out]; rfl, hE1⟩
/-- What Print answers. -/
def Cpr (G : List Gt) (O : List Int) (n m : Nat) (w : World) (e : Ending) (w' : World) : Prop :=
  ((∃ r, r ≠ 0 ∧ Cke G O n m r ∧ e = .returned (.tuple #[.string ⟨#[]⟩, .int .i64 r])) ∨ (Cke G O n m 0 ∧ e = .returned (.tuple #[.string (otx (gtx G n) O m), .int .i64 0]))) ∧ Below w.heap.size w w'

theorem cPrint (ag : Option Addr) (n cg : Nat) (G : List Gt) (ao : Option Addr) (m co : Nat) (O : List Int) (w : World) (h : RdG w ag n cg G) (g : RdI w ao m co O) (hT : Tabs w) (hS : Shp w) :
    Calls Tryd.prog 10 #[.agg #[.slice ag n cg, .slice ao m co]] w fun e w' => Cpr G O n m w e w' := by
  have hcap := h.cap
  have gcap := g.cap
  have hC0 := CBox.new w ag n cg ao m co
  have hb0 : Below w.heap.size w (w.alloc (.cells #[.slice ag n cg, .slice ao m co] 25)) := (Below.refl _ _).alloc (Nat.le_refl _) _
  go_enter Tryd.func10, Tryd.ntmps10
  go_wp2_with fail
  generalize w.alloc (.cells #[.slice ag n cg, .slice ao m co] 25) = w0 at *
  refine (cCheckC _ _ _ _ _ _ _ _ _ (h.below hb0) (g.below hb0) (hS.below hb0)).mono ?_
  rintro e w1 ⟨r, rfl, hC, hb1'⟩
  have hb1 := hb0.trans (hb1'.mono hb0.size)
  have hC1 := hC0.below hb1' hC0.lt
  clear hC0 hb1' hb0
  have hrb := hC.bd
  by_cases hr : r = 0
  · subst hr
    have HC : Hid (Cke G O n m 0) := hC
    have hn := hC.ok.1
    have hm := hC.ok.2.1
    have HG : Hid (okG G n) := hC.ok.2.2.1
    have HO : Hid (okO O n m) := hC.ok.2.2.2
    have hB0 := Bld.new w1
    have hbN : Below w1.heap.size w1 (w1.alloc (.cells #[.pointer none, .slice none 0 0] 54)) := (Below.refl _ _).alloc (Nat.le_refl _) _
    have hC2 := hC1.below hbN hC1.lt
    obtain ⟨d0, d1⟩ := hC2.cells
    have hl2 := hC2.lt
    have hl1 := hC1.lt
    have hs1 := hb1.size
    clear hC hrb
    go_upto_region 5 with fail
    generalize w1.alloc (.cells #[.pointer none, .slice none 0 0] 54) = w2 at *
    go_wp2
    go_loopw [18] (fun v wr => ∃ i : Nat, i ≤ n ∧ v = .int .i64 i ∧ Bld w1.heap.size w1.heap.size (gtx G i) wr ∧ Below w1.heap.size w1 wr) (fun v _ => n - (intOf v).toNat)
    case atStart => exact ⟨0, Nat.zero_le _, rfl, hB0, hbN⟩
    case round =>
      clear hB0 hbN d0 d1 hl2 hC2
      obtain ⟨i, hi, rfl, hB, hbel⟩ := hrel
      have hs2 := hbel.size
      by_cases hlt : i < n
      · obtain ⟨b, o, k, x, y, z, rfl, hbb, HGi, hk, hx, hy, hz, c1, c2, c3, c4⟩ := (h.below (hb1.trans (hbel.mono hs1))).one hlt
        have hok := HG.out i hlt
        rw [HGi.out] at hok
        have hbA0 : Below wr.heap.size wr (wr.alloc (.cells #[.int .i64 k, .int .i64 x, .int .i64 y, .int .u64 z] 43)) := (Below.refl _ _).alloc (Nat.le_refl _) _
        have hbA := hbel.trans (hbA0.mono hs2)
        obtain ⟨q1, q2, q3, q4⟩ := gate_box wr k x y z 43
        have hltA : wr.heap.size < (wr.alloc (.cells #[.int .i64 k, .int .i64 x, .int .i64 y, .int .u64 z] 43)).heap.size := by simp
        have hBA := hB.below hbA0
        have hts := gtx_size HG.out hn.2 (i + 1) (by omega)
        have HE : Hid (gtx G (i + 1) = gtx G i ++ (vb k.toNat ++ arg ⟨k, x, y, z⟩ ++ ⟨#[10]⟩)) := by
          unfold Hid
          rw [gtx, gln, HGi.out]
          simp only [ByteArray.append_assoc]
        rw [HE.out] at hts
        have HOK : Hid (okg i ⟨k, x, y, z⟩) := hok
        obtain ⟨t, Ht⟩ : ∃ t, Hid (gtx G i = t) := ⟨_, rfl⟩
        obtain ⟨l, Hl⟩ : ∃ l, Hid (vb k.toNat ++ arg ⟨k, x, y, z⟩ ++ ⟨#[10]⟩ = l) := ⟨_, rfl⟩
        rw [Ht.out, Hl.out] at hts
        rw [Ht.out] at hBA
        rw [ByteArray.size_append] at hts
        clear hok
        go_upto_region 8 with fail
        generalize wr.alloc (.cells #[.int .i64 k, .int .i64 x, .int .i64 y, .int .u64 z] 43) = W at *
        clear c1 c2 c3 c4 hbA0 hbel hB
        have hbwA := hb1.trans (hbA.mono hs1)
        go_wp2_with fail
        refine (cGateLine k x y z i _ HOK.out (by omega) hz (hS.below hbwA) (hT.below hbwA)).mono ?_
        rintro e w3 ⟨rfl, hb3⟩
        rw [Hl.out]
        have hB3 := hBA.below hb3
        have hbel3 := hbA.trans (hb3.mono hbA.size)
        have hs3 := hbel3.size
        clear hBA hb3 hbA hbwA q1 q2 q3 q4 hltA
        go_wp2_with fail
        refine (sWrite _ _ t l _ hB3 (by omega) hs3).mono ?_
        rintro e w4 ⟨rfl, hB4, hb4⟩
        have hbel4 := hbel3.trans hb4
        go_wp2
        go_roundw
        case rel => exact ⟨i + 1, by omega, by go_num, by rw [HE.out, Ht.out, Hl.out]; exact hB4, hbel4⟩
        case measure => simp [intOf]; omega
      · have hin : i = n := by omega
        subst hin
        have hC3 := hC1.below hbel hl1
        obtain ⟨d0, d1⟩ := hC3.cells
        have hl3 := hC3.lt
        have hts := gtx_size HG.out hn.2 i (Nat.le_refl _)
        go_wp2
        clear d0 d1 hl3 hC3
        obtain ⟨wo, hwo⟩ : ∃ x, x = wr := ⟨_, rfl⟩
        subst hwo
        go_loopw [29] (fun v wr => ∃ j : Nat, j ≤ m ∧ v = .int .i64 j ∧ Bld w1.heap.size w1.heap.size (otx (gtx G i) O j) wr ∧ Below w1.heap.size w1 wr) (fun v _ => m - (intOf v).toNat)
        case atStart => exact ⟨0, Nat.zero_le _, rfl, hB, hbel⟩
        case round =>
          clear hB hbel hs2
          obtain ⟨j, hj, rfl, hB, hbel⟩ := hrel
          have hs2 := hbel.size
          by_cases hltj : j < m
          · obtain ⟨b2, o2, x, rfl, hbb2, HX, hx0, hx1, c5⟩ := (g.below (hb1.trans (hbel.mono hs1))).one hltj
            have hos := otx_size (t := gtx G i) HO.out hn.2 j hj
            have hu := itb_size x hx0 hx1
            have nl := nl_size
            have ou := out_size
            have HE : Hid (otx (gtx G i) O (j + 1) = otx (gtx G i) O j ++ (⟨#[111, 117, 116, 32]⟩ ++ itb x ++ ⟨#[10]⟩)) := by
              unfold Hid
              rw [otx, HX.out]
            obtain ⟨t, Ht⟩ : ∃ t, Hid (otx (gtx G i) O j = t) := ⟨_, rfl⟩
            obtain ⟨u, Hu⟩ : ∃ u, Hid (itb x = u) := ⟨_, rfl⟩
            rw [Ht.out] at hos hB
            rw [Hu.out] at hu
            have a1 := add_run (P := Tryd.prog) ⟨#[111, 117, 116, 32]⟩ u (by omega)
            have a2 := add_run (P := Tryd.prog) (⟨#[111, 117, 116, 32]⟩ ++ u) ⟨#[10]⟩ (by rw [ByteArray.size_append]; omega)
            have hlz : (⟨#[111, 117, 116, 32]⟩ ++ u ++ ⟨#[10]⟩ : ByteArray).size ≤ 30 := by rw [ByteArray.size_append, ByteArray.size_append]; omega
            obtain ⟨l, Hl⟩ : ∃ l, Hid ((⟨#[111, 117, 116, 32]⟩ ++ u ++ ⟨#[10]⟩ : ByteArray) = l) := ⟨_, rfl⟩
            rw [Hl.out] at a2 hlz
            go_wp2_with fail
            refine (sItoa x _ hx0 hx1 (hT.below (hb1.trans (hbel.mono hs1)))).mono ?_
            rintro e w3 ⟨rfl, hb3⟩
            rw [Hu.out]
            have hB3 := hB.below hb3
            have hbel3 := hbel.trans (hb3.mono hs2)
            have hs3 := hbel3.size
            clear hB hb3 hbel c5
            go_wp2_with fail
            refine (sWrite _ _ t l _ hB3 (by omega) hs3).mono ?_
            rintro e w4 ⟨rfl, hB4, hb4⟩
            have hbel4 := hbel3.trans hb4
            go_wp2
            go_roundw
            case rel => exact ⟨j + 1, by omega, by go_num, by rw [HE.out, Ht.out, Hu.out, Hl.out]; exact hB4, hbel4⟩
            case measure => simp [intOf]; omega
          · have hjm : j = m := by omega
            subst hjm
            go_wp2_with fail
            refine (sString _ _ _ _ hB hs2).mono ?_
            rintro e w3 ⟨rfl, hb3⟩
            have hbE := hb1.trans ((hbel.trans hb3).mono hs1)
            clear hB hb3
            go_wp2
            go_ret2
            exact ⟨.inr ⟨HC.out, rfl⟩, hbE⟩
  · have HC : Hid (Cke G O n m r) := hC
    have HR : Hid (r ≠ 0) := hr
    have hrb2 : (r != 0) = true := by rw [bne_iff_ne]; exact hr
    clear hC hrb hr
    go_wp2
    go_ret2
    exact ⟨.inl ⟨_, HR.out, HC.out, rfl⟩, hb1⟩
theorem circuitSaysN (ag : Option Addr) (n cg : Nat) (G : List Gt) (ao : Option Addr) (m co : Nat) (O : List Int) (ai : Option Addr) (q ca : Nat) (ins : List Int) (w : World) (h : RdG w ag n cg G) (g : RdI w ao m co O) (ih : Rd w ai q ca ins) (hT : Tabs w) (hS : Shp w) (hno : ¬ Cke G O n m 0) :
    Calls Tryd.prog 3 #[.agg #[.slice ag n cg, .slice ao m co], .slice ai q ca] w fun e w' => e = .returned (.bool true) ∧ Below w.heap.size w w' := by
  have hC0 := CBox.new w ag n cg ao m co
  have hb0 : Below w.heap.size w (w.alloc (.cells #[.slice ag n cg, .slice ao m co] 25)) := (Below.refl _ _).alloc (Nat.le_refl _) _
  have HNO : Hid (¬ Cke G O n m 0) := hno
  clear hno
  go_enter Tryd.func3, Tryd.ntmps3
  go_wp2_with fail
  generalize w.alloc (.cells #[.slice ag n cg, .slice ao m co] 25) = w0 at *
  refine (rCircuit _ _ _ _ _ _ _ _ _ (h.below hb0) (g.below hb0)).mono ?_
  rintro e w1 ⟨r, rfl, hC, hb1'⟩
  have hb1 := hb0.trans (hb1'.mono hb0.size)
  have hC1 := hC0.below hb1' hC0.lt
  obtain ⟨d0, d1⟩ := hC1.cells
  have HC : Hid (Cke G O n m r) := hC
  have hrb := hC.bd
  have hr : r ≠ 0 := fun e => HNO.out (by rw [← e]; exact hC)
  have hrn : (r == 0) = false := by rw [beq_eq_false_iff_ne]; exact hr
  have HR : Hid (r ≠ 0) := hr
  clear hC0 hb1' hC hr
  go_wp2_with fail
  refine (cInputs _ _ _ _ _ _ _ _ _ (h.below hb1) (g.below hb1) (hS.below hb1)).mono ?_
  rintro e w2 ⟨⟨r2, hr2, hE, rfl⟩ | ⟨hE, _⟩, hb2'⟩
  · obtain rfl := HC.out.one hE
    have hb2 := hb1.trans (hb2'.mono hb1.size)
    have hC2 := hC1.below hb2' hC1.lt
    obtain ⟨e0, e1⟩ := hC2.cells
    clear hC1 hb2' hb1 hE hr2 d0 d1
    go_wp2_with fail
    refine (cRun _ _ _ _ _ _ _ _ _ _ _ _ _ (h.below hb2) (g.below hb2) (ih.below hb2) (hS.below hb2)).mono ?_
    rintro e w3 ⟨⟨r3, hr3, hE, rfl⟩ | ⟨hE, _⟩, hb3'⟩
    · obtain rfl := (show Cre G O n m q r from .inl ⟨HR.out, HC.out⟩).one hE
      have hb3 := hb2.trans (hb3'.mono hb2.size)
      have hC3 := hC2.below hb3' hC2.lt
      obtain ⟨d0, d1⟩ := hC3.cells
      clear hC2 hb3' hb2 hE hr3 e0 e1
      go_wp2_with fail
      refine (cPrint _ _ _ _ _ _ _ _ _ (h.below hb3) (g.below hb3) (hT.below hb3) (hS.below hb3)).mono ?_
      rintro e w4 ⟨⟨r4, hr4, hE, rfl⟩ | ⟨hE, _⟩, hb4'⟩
      · obtain rfl := HC.out.one hE
        have hb4 := hb3.trans (hb4'.mono hb3.size)
        have hC4 := hC3.below hb4' hC3.lt
        obtain ⟨e0, e1⟩ := hC4.cells
        clear hC3 hb4' hb3 hE hr4 d0 d1
        go_wp2_with fail
        refine (cCheckC _ _ _ _ _ _ _ _ _ (h.below hb4) (g.below hb4) (hS.below hb4)).mono ?_
        rintro e w5 ⟨r5, rfl, hE, hb5'⟩
        obtain rfl := HC.out.one hE
        have hb5 := hb4.trans (hb5'.mono hb4.size)
        have ni : RdI w5 none 0 0 [] := ⟨rfl, Nat.le_refl _, Nat.zero_le _, by simp, fun _ => rfl, by simp⟩
        clear hC4 hb5' hb4 hE e0 e1
        go_wp2_with fail
        refine (zSame _ _ _ _ _ _ _ _ ni ni).mono ?_
        rintro e w6 ⟨rfl, hb6'⟩
        have hb6 := hb5.trans (hb6'.mono hb5.size)
        clear hb5 hb6' ni
        go_wp2_with fail
        refine (cSame _ _ _ _ _ _ _ _ (nil_rd w6) (nil_rd w6)).mono ?_
        rintro e w7 ⟨rfl, hb7'⟩
        have hb7 := hb6.trans (hb7'.mono hb6.size)
        clear hb6 hb7'
        go_wp2
        go_ret
        exact ⟨rfl, hb7⟩
      · exact absurd hE HNO.out
    · exact absurd hE.ok.1 HNO.out
  · exact absurd hE HNO.out
end
end Go.Proofs.YtljlioglpaogdabDoor
