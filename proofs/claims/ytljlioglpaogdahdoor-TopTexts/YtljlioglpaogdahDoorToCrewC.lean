/- Package circuit: gateLine, Print. · Package circuit: Print. · The walk of croftkeep.CircuitBack. · What shares of a dealing tell: plain facts. · What make and copy leave. · croftkeep.crew, filled, shares. -/
import Derived.Test.YtljlioglpaogdahDoorToCktP
import Derived.Test.YtljlioglpaogdahDoorToGRightC
import Derived.Test.YtljlioglpaogdahDoorToFmtUC
import Derived.Test.YtljlioglpaogdahDoorToWhoseC
import Derived.Test.YtljlioglpaogdahDoorMath
import Derived.Test.YtljlioglpaogdahDoorToNumbC
import Derived.Deep.DeepCutAuto
import Derived.BigQuiet
import Derived.Test.YtljlioglpaogdahDoorProg
import Derived.WalkKit
import Derived.WalkSpells
import Derived.WalkLawsBesides
import Derived.Test.YtljlioglpaogdahDoorToRNumC
import Derived.Test.YtljlioglpaogdahDoorSlice
import Derived.Laws.CopyOwn
namespace Go.Proofs.YtljlioglpaogdahDoor
set_option linter.unusedVariables false
set_option maxRecDepth 100000
set_option maxHeartbeats 8000000
section
open Crm Go.RowKit
theorem shw_vb (k : Nat) : shw k = vb k := rfl
/-- What gateLine answers. -/
def Gll (g : Gt) (w : World) (e : Ending) (w' : World) : Prop := e = .returned (.string (vb g.k.toNat ++ arg g ++ ⟨#[10]⟩)) ∧ Below w.heap.size w w'

theorem cGateLine (k x y z : Int) (i : Nat) (w : World) (hok : okg i ⟨k, x, y, z⟩) (hi : i ≤ 30) (hz : 0 ≤ z ∧ z ≤ 18446744073709551615) (hS : Shp w) (hT : Tabs w) :
    Calls Tryd.prog 17 #[.agg #[.int .i64 k, .int .i64 x, .int .i64 y, .int .u64 z]] w fun e w' => Gll ⟨k, x, y, z⟩ w e w' := by
  have hb0 : Below w.heap.size w (w.alloc (.cells #[.int .i64 k, .int .i64 x, .int .i64 y, .int .u64 z] 52)) := (Below.refl _ _).alloc (Nat.le_refl _) _
  obtain ⟨q1, q2, q3, q4⟩ := gate_box w k x y z 52
  have hlt : w.heap.size < (w.alloc (.cells #[.int .i64 k, .int .i64 x, .int .i64 y, .int .u64 z] 52)).heap.size := by simp
  have hnz := nm_bd z
  have sp := sp_size
  have nl := nl_size
  go_enter Tryd.func17, Tryd.ntmps17
  go_upto_region 1 with fail
  generalize w.alloc (.cells #[.int .i64 k, .int .i64 x, .int .i64 y, .int .u64 z] 52) = W at *
  have hS0 := hS.below hb0
  clear hS
  rcases hok with ⟨p1, p2, p3, p4⟩ | ⟨p1, p2, p3⟩ | ⟨p1, p2, p3⟩ | ⟨p1, p2, p3, p4⟩
  · simp only at p1 p2 p3 p4
    subst p1 p3 p4
    obtain ⟨v, HV⟩ : ∃ v, Hid (shw 1 = v) := ⟨_, rfl⟩
    obtain ⟨s0', s1, s2, s3⟩ := hS0.at1
    have s0 : W.cell? ⟨0, 4, none⟩ = some (.string v) := by rw [← HV.out]; exact s0'
    clear s0'
    have hvz : v.size ≤ 5 := by rw [← HV.out]; exact vb_size 1 (by omega)
    have slt := hS0.lt
    have hb1' : Below W.heap.size W (W.alloc (.cells #[.string v, .bool true, .bool false, .bool false] 72)) := (Below.refl _ _).alloc (Nat.le_refl _) _
    have hb1 := hb0.trans (hb1'.mono hb0.size)
    obtain ⟨t0, t1, t2, t3⟩ := shape_box W v true false false 72
    have hlt1 : W.heap.size < (W.alloc (.cells #[.string v, .bool true, .bool false, .bool false] 72)).heap.size := by simp
    have r1 : (W.alloc (.cells #[.string v, .bool true, .bool false, .bool false] 72)).cell? ⟨w.heap.size, 0, none⟩ = some (.int .i64 1) := by rw [hb1'.cell (p := ⟨w.heap.size, 0, none⟩) hlt]; exact q1
    have r2 : (W.alloc (.cells #[.string v, .bool true, .bool false, .bool false] 72)).cell? ⟨w.heap.size, 1, none⟩ = some (.int .i64 x) := by rw [hb1'.cell (p := ⟨w.heap.size, 1, none⟩) hlt]; exact q2
    have r3 : (W.alloc (.cells #[.string v, .bool true, .bool false, .bool false] 72)).cell? ⟨w.heap.size, 2, none⟩ = some (.int .i64 0) := by rw [hb1'.cell (p := ⟨w.heap.size, 2, none⟩) hlt]; exact q3
    have r4 : (W.alloc (.cells #[.string v, .bool true, .bool false, .bool false] 72)).cell? ⟨w.heap.size, 3, none⟩ = some (.int .u64 0) := by rw [hb1'.cell (p := ⟨w.heap.size, 3, none⟩) hlt]; exact q4
    have hlt2 := Nat.lt_trans hlt hlt1
    go_upto_region 2 with fail
    generalize W.alloc (.cells #[.string v, .bool true, .bool false, .bool false] 72) = V at *
    clear s0 s1 s2 s3 q1 q2 q3 q4 hb1' hb0 hS0
    have hTV := hT.below hb1
    have HALL : Hid (∀ w', Below V.heap.size V w' → (w'.cell? ⟨W.heap.size, 0, none⟩ = some (.string v) ∧ w'.cell? ⟨W.heap.size, 1, none⟩ = some (.bool true) ∧ w'.cell? ⟨W.heap.size, 2, none⟩ = some (.bool false) ∧ w'.cell? ⟨W.heap.size, 3, none⟩ = some (.bool false)) ∧ (w'.cell? ⟨w.heap.size, 1, none⟩ = some (.int .i64 x) ∧ w'.cell? ⟨w.heap.size, 2, none⟩ = some (.int .i64 0) ∧ w'.cell? ⟨w.heap.size, 3, none⟩ = some (.int .u64 0)) ∧ w.heap.size < w'.heap.size ∧ W.heap.size < w'.heap.size ∧ Tabs w' ∧ Below w.heap.size w w') := fun w' hb => by
      refine ⟨⟨?_, ?_, ?_, ?_⟩, ⟨?_, ?_, ?_⟩, Nat.lt_of_lt_of_le hlt2 hb.size, Nat.lt_of_lt_of_le hlt1 hb.size, hTV.below hb, hb1.trans (hb.mono hb1.size)⟩
      · rw [hb.cell (p := ⟨W.heap.size, 0, none⟩) hlt1]; exact t0
      · rw [hb.cell (p := ⟨W.heap.size, 1, none⟩) hlt1]; exact t1
      · rw [hb.cell (p := ⟨W.heap.size, 2, none⟩) hlt1]; exact t2
      · rw [hb.cell (p := ⟨W.heap.size, 3, none⟩) hlt1]; exact t3
      · rw [hb.cell (p := ⟨w.heap.size, 1, none⟩) hlt2]; exact r2
      · rw [hb.cell (p := ⟨w.heap.size, 2, none⟩) hlt2]; exact r3
      · rw [hb.cell (p := ⟨w.heap.size, 3, none⟩) hlt2]; exact r4
    have hu0 := itb_size x (by omega) (by omega)
    obtain ⟨u0, Hu0⟩ : ∃ u, Hid (itb x = u) := ⟨_, rfl⟩
    rw [Hu0.out] at hu0
    have b0 := add_run (P := Tryd.prog) ⟨#[32]⟩ u0 (by (repeat rw [ByteArray.size_append]); omega)
    have a0 := add_run (P := Tryd.prog) (v) (⟨#[32]⟩ ++ u0) (by (repeat rw [ByteArray.size_append]); omega)
    have ae := add_run (P := Tryd.prog) (v ++ (⟨#[32]⟩ ++ u0)) ⟨#[10]⟩ (by (repeat rw [ByteArray.size_append]); omega)
    have HA : Hid (vb ((1 : Int).toNat) ++ arg ⟨1, x, 0, 0⟩ ++ ⟨#[10]⟩ = v ++ (⟨#[32]⟩ ++ u0) ++ ⟨#[10]⟩) := by
      unfold Hid
      rw [← HV.out, ← Hu0.out]
      show vb 1 ++ (⟨#[32]⟩ ++ itb x) ++ ⟨#[10]⟩ = _
      simp only [ByteArray.append_assoc, shw_vb]
    go_wp2_with fail
    refine (sItoa x _ (by omega) (by omega) hTV).mono ?_
    rintro e w1 ⟨rfl, hbw1⟩
    rw [Hu0.out]
    have hc0 := hbw1
    obtain ⟨⟨t00, t10, t20, t30⟩, ⟨r20, r30, r40⟩, lt0, lu0, ht0, hE0⟩ := HALL.out _ hc0
    clear hbw1
    go_wp2
    go_ret
    exact ⟨by show _ = Ending.returned (.string (vb ((1 : Int).toNat) ++ arg ⟨1, x, 0, 0⟩ ++ ⟨#[10]⟩)); rw [HA.out]; rfl, hE0⟩
  · simp only at p1 p2 p3
    subst p1 p2 p3
    obtain ⟨v, HV⟩ : ∃ v, Hid (shw 2 = v) := ⟨_, rfl⟩
    obtain ⟨s0', s1, s2, s3⟩ := hS0.at2
    have s0 : W.cell? ⟨0, 8, none⟩ = some (.string v) := by rw [← HV.out]; exact s0'
    clear s0'
    have hvz : v.size ≤ 5 := by rw [← HV.out]; exact vb_size 2 (by omega)
    have slt := hS0.lt
    have hb1' : Below W.heap.size W (W.alloc (.cells #[.string v, .bool false, .bool false, .bool true] 72)) := (Below.refl _ _).alloc (Nat.le_refl _) _
    have hb1 := hb0.trans (hb1'.mono hb0.size)
    obtain ⟨t0, t1, t2, t3⟩ := shape_box W v false false true 72
    have hlt1 : W.heap.size < (W.alloc (.cells #[.string v, .bool false, .bool false, .bool true] 72)).heap.size := by simp
    have r1 : (W.alloc (.cells #[.string v, .bool false, .bool false, .bool true] 72)).cell? ⟨w.heap.size, 0, none⟩ = some (.int .i64 2) := by rw [hb1'.cell (p := ⟨w.heap.size, 0, none⟩) hlt]; exact q1
    have r2 : (W.alloc (.cells #[.string v, .bool false, .bool false, .bool true] 72)).cell? ⟨w.heap.size, 1, none⟩ = some (.int .i64 0) := by rw [hb1'.cell (p := ⟨w.heap.size, 1, none⟩) hlt]; exact q2
    have r3 : (W.alloc (.cells #[.string v, .bool false, .bool false, .bool true] 72)).cell? ⟨w.heap.size, 2, none⟩ = some (.int .i64 0) := by rw [hb1'.cell (p := ⟨w.heap.size, 2, none⟩) hlt]; exact q3
    have r4 : (W.alloc (.cells #[.string v, .bool false, .bool false, .bool true] 72)).cell? ⟨w.heap.size, 3, none⟩ = some (.int .u64 z) := by rw [hb1'.cell (p := ⟨w.heap.size, 3, none⟩) hlt]; exact q4
    have hlt2 := Nat.lt_trans hlt hlt1
    go_upto_region 2 with fail
    generalize W.alloc (.cells #[.string v, .bool false, .bool false, .bool true] 72) = V at *
    clear s0 s1 s2 s3 q1 q2 q3 q4 hb1' hb0 hS0
    have hTV := hT.below hb1
    have HALL : Hid (∀ w', Below V.heap.size V w' → (w'.cell? ⟨W.heap.size, 0, none⟩ = some (.string v) ∧ w'.cell? ⟨W.heap.size, 1, none⟩ = some (.bool false) ∧ w'.cell? ⟨W.heap.size, 2, none⟩ = some (.bool false) ∧ w'.cell? ⟨W.heap.size, 3, none⟩ = some (.bool true)) ∧ (w'.cell? ⟨w.heap.size, 1, none⟩ = some (.int .i64 0) ∧ w'.cell? ⟨w.heap.size, 2, none⟩ = some (.int .i64 0) ∧ w'.cell? ⟨w.heap.size, 3, none⟩ = some (.int .u64 z)) ∧ w.heap.size < w'.heap.size ∧ W.heap.size < w'.heap.size ∧ Tabs w' ∧ Below w.heap.size w w') := fun w' hb => by
      refine ⟨⟨?_, ?_, ?_, ?_⟩, ⟨?_, ?_, ?_⟩, Nat.lt_of_lt_of_le hlt2 hb.size, Nat.lt_of_lt_of_le hlt1 hb.size, hTV.below hb, hb1.trans (hb.mono hb1.size)⟩
      · rw [hb.cell (p := ⟨W.heap.size, 0, none⟩) hlt1]; exact t0
      · rw [hb.cell (p := ⟨W.heap.size, 1, none⟩) hlt1]; exact t1
      · rw [hb.cell (p := ⟨W.heap.size, 2, none⟩) hlt1]; exact t2
      · rw [hb.cell (p := ⟨W.heap.size, 3, none⟩) hlt1]; exact t3
      · rw [hb.cell (p := ⟨w.heap.size, 1, none⟩) hlt2]; exact r2
      · rw [hb.cell (p := ⟨w.heap.size, 2, none⟩) hlt2]; exact r3
      · rw [hb.cell (p := ⟨w.heap.size, 3, none⟩) hlt2]; exact r4
    obtain ⟨N, HN⟩ : ∃ N, Hid (nm z = N) := ⟨_, rfl⟩
    have hnz2 := hnz
    rw [HN.out] at hnz2
    have hu0 := itb_size N (by omega) (by omega)
    obtain ⟨u0, Hu0⟩ : ∃ u, Hid (itb N = u) := ⟨_, rfl⟩
    rw [Hu0.out] at hu0
    have b0 := add_run (P := Tryd.prog) ⟨#[32]⟩ u0 (by (repeat rw [ByteArray.size_append]); omega)
    have a0 := add_run (P := Tryd.prog) (v) (⟨#[32]⟩ ++ u0) (by (repeat rw [ByteArray.size_append]); omega)
    have ae := add_run (P := Tryd.prog) (v ++ (⟨#[32]⟩ ++ u0)) ⟨#[10]⟩ (by (repeat rw [ByteArray.size_append]); omega)
    have HA : Hid (vb ((2 : Int).toNat) ++ arg ⟨2, 0, 0, z⟩ ++ ⟨#[10]⟩ = v ++ (⟨#[32]⟩ ++ u0) ++ ⟨#[10]⟩) := by
      unfold Hid
      rw [← HV.out, ← Hu0.out, ← HN.out]
      show vb 2 ++ (⟨#[32]⟩ ++ itb (nm z)) ++ ⟨#[10]⟩ = _
      simp only [ByteArray.append_assoc, shw_vb]
    go_wp2_with fail
    refine (fNorm z _ hz.1 hz.2).mono ?_
    rintro e wN ⟨rfl, hwN⟩
    have hwN := hwN.symm
    subst hwN
    rw [HN.out]
    go_wp2_with fail
    refine (sFormatUint N _ (by omega) (by omega) hTV).mono ?_
    rintro e w1 ⟨rfl, hbw1⟩
    rw [Hu0.out]
    have hc0 := hbw1
    obtain ⟨⟨t00, t10, t20, t30⟩, ⟨r20, r30, r40⟩, lt0, lu0, ht0, hE0⟩ := HALL.out _ hc0
    clear hbw1
    go_wp2
    go_ret
    exact ⟨by show _ = Ending.returned (.string (vb ((2 : Int).toNat) ++ arg ⟨2, 0, 0, z⟩ ++ ⟨#[10]⟩)); rw [HA.out]; rfl, hE0⟩
  · simp only at p1 p2 p3
    subst p1 p3
    obtain ⟨v, HV⟩ : ∃ v, Hid (shw 6 = v) := ⟨_, rfl⟩
    obtain ⟨s0', s1, s2, s3⟩ := hS0.at6
    have s0 : W.cell? ⟨0, 24, none⟩ = some (.string v) := by rw [← HV.out]; exact s0'
    clear s0'
    have hvz : v.size ≤ 5 := by rw [← HV.out]; exact vb_size 6 (by omega)
    have slt := hS0.lt
    have hb1' : Below W.heap.size W (W.alloc (.cells #[.string v, .bool true, .bool false, .bool true] 72)) := (Below.refl _ _).alloc (Nat.le_refl _) _
    have hb1 := hb0.trans (hb1'.mono hb0.size)
    obtain ⟨t0, t1, t2, t3⟩ := shape_box W v true false true 72
    have hlt1 : W.heap.size < (W.alloc (.cells #[.string v, .bool true, .bool false, .bool true] 72)).heap.size := by simp
    have r1 : (W.alloc (.cells #[.string v, .bool true, .bool false, .bool true] 72)).cell? ⟨w.heap.size, 0, none⟩ = some (.int .i64 6) := by rw [hb1'.cell (p := ⟨w.heap.size, 0, none⟩) hlt]; exact q1
    have r2 : (W.alloc (.cells #[.string v, .bool true, .bool false, .bool true] 72)).cell? ⟨w.heap.size, 1, none⟩ = some (.int .i64 x) := by rw [hb1'.cell (p := ⟨w.heap.size, 1, none⟩) hlt]; exact q2
    have r3 : (W.alloc (.cells #[.string v, .bool true, .bool false, .bool true] 72)).cell? ⟨w.heap.size, 2, none⟩ = some (.int .i64 0) := by rw [hb1'.cell (p := ⟨w.heap.size, 2, none⟩) hlt]; exact q3
    have r4 : (W.alloc (.cells #[.string v, .bool true, .bool false, .bool true] 72)).cell? ⟨w.heap.size, 3, none⟩ = some (.int .u64 z) := by rw [hb1'.cell (p := ⟨w.heap.size, 3, none⟩) hlt]; exact q4
    have hlt2 := Nat.lt_trans hlt hlt1
    go_upto_region 2 with fail
    generalize W.alloc (.cells #[.string v, .bool true, .bool false, .bool true] 72) = V at *
    clear s0 s1 s2 s3 q1 q2 q3 q4 hb1' hb0 hS0
    have hTV := hT.below hb1
    have HALL : Hid (∀ w', Below V.heap.size V w' → (w'.cell? ⟨W.heap.size, 0, none⟩ = some (.string v) ∧ w'.cell? ⟨W.heap.size, 1, none⟩ = some (.bool true) ∧ w'.cell? ⟨W.heap.size, 2, none⟩ = some (.bool false) ∧ w'.cell? ⟨W.heap.size, 3, none⟩ = some (.bool true)) ∧ (w'.cell? ⟨w.heap.size, 1, none⟩ = some (.int .i64 x) ∧ w'.cell? ⟨w.heap.size, 2, none⟩ = some (.int .i64 0) ∧ w'.cell? ⟨w.heap.size, 3, none⟩ = some (.int .u64 z)) ∧ w.heap.size < w'.heap.size ∧ W.heap.size < w'.heap.size ∧ Tabs w' ∧ Below w.heap.size w w') := fun w' hb => by
      refine ⟨⟨?_, ?_, ?_, ?_⟩, ⟨?_, ?_, ?_⟩, Nat.lt_of_lt_of_le hlt2 hb.size, Nat.lt_of_lt_of_le hlt1 hb.size, hTV.below hb, hb1.trans (hb.mono hb1.size)⟩
      · rw [hb.cell (p := ⟨W.heap.size, 0, none⟩) hlt1]; exact t0
      · rw [hb.cell (p := ⟨W.heap.size, 1, none⟩) hlt1]; exact t1
      · rw [hb.cell (p := ⟨W.heap.size, 2, none⟩) hlt1]; exact t2
      · rw [hb.cell (p := ⟨W.heap.size, 3, none⟩) hlt1]; exact t3
      · rw [hb.cell (p := ⟨w.heap.size, 1, none⟩) hlt2]; exact r2
      · rw [hb.cell (p := ⟨w.heap.size, 2, none⟩) hlt2]; exact r3
      · rw [hb.cell (p := ⟨w.heap.size, 3, none⟩) hlt2]; exact r4
    have hu0 := itb_size x (by omega) (by omega)
    obtain ⟨u0, Hu0⟩ : ∃ u, Hid (itb x = u) := ⟨_, rfl⟩
    rw [Hu0.out] at hu0
    have b0 := add_run (P := Tryd.prog) ⟨#[32]⟩ u0 (by (repeat rw [ByteArray.size_append]); omega)
    have a0 := add_run (P := Tryd.prog) (v) (⟨#[32]⟩ ++ u0) (by (repeat rw [ByteArray.size_append]); omega)
    obtain ⟨N, HN⟩ : ∃ N, Hid (nm z = N) := ⟨_, rfl⟩
    have hnz2 := hnz
    rw [HN.out] at hnz2
    have hu1 := itb_size N (by omega) (by omega)
    obtain ⟨u1, Hu1⟩ : ∃ u, Hid (itb N = u) := ⟨_, rfl⟩
    rw [Hu1.out] at hu1
    have b1 := add_run (P := Tryd.prog) ⟨#[32]⟩ u1 (by (repeat rw [ByteArray.size_append]); omega)
    have a1 := add_run (P := Tryd.prog) (v ++ (⟨#[32]⟩ ++ u0)) (⟨#[32]⟩ ++ u1) (by (repeat rw [ByteArray.size_append]); omega)
    have ae := add_run (P := Tryd.prog) (v ++ (⟨#[32]⟩ ++ u0) ++ (⟨#[32]⟩ ++ u1)) ⟨#[10]⟩ (by (repeat rw [ByteArray.size_append]); omega)
    have HA : Hid (vb ((6 : Int).toNat) ++ arg ⟨6, x, 0, z⟩ ++ ⟨#[10]⟩ = v ++ (⟨#[32]⟩ ++ u0) ++ (⟨#[32]⟩ ++ u1) ++ ⟨#[10]⟩) := by
      unfold Hid
      rw [← HV.out, ← Hu0.out, ← Hu1.out, ← HN.out]
      show vb 6 ++ (⟨#[32]⟩ ++ itb x ++ ⟨#[32]⟩ ++ itb (nm z)) ++ ⟨#[10]⟩ = _
      simp only [ByteArray.append_assoc, shw_vb]
    go_wp2_with fail
    refine (sItoa x _ (by omega) (by omega) hTV).mono ?_
    rintro e w1 ⟨rfl, hbw1⟩
    rw [Hu0.out]
    have hc0 := hbw1
    obtain ⟨⟨t00, t10, t20, t30⟩, ⟨r20, r30, r40⟩, lt0, lu0, ht0, hE0⟩ := HALL.out _ hc0
    clear hbw1
    go_wp2_with fail
    refine (fNorm z _ hz.1 hz.2).mono ?_
    rintro e wN ⟨rfl, hwN⟩
    have hwN := hwN.symm
    subst hwN
    rw [HN.out]
    go_wp2_with fail
    refine (sFormatUint N _ (by omega) (by omega) ht0).mono ?_
    rintro e w2 ⟨rfl, hbw2⟩
    rw [Hu1.out]
    have hc1 := hc0.trans (hbw2.mono hc0.size)
    obtain ⟨⟨t01, t11, t21, t31⟩, ⟨r21, r31, r41⟩, lt1, lu1, ht1, hE1⟩ := HALL.out _ hc1
    clear hbw2
    go_wp2
    go_ret
    exact ⟨by show _ = Ending.returned (.string (vb ((6 : Int).toNat) ++ arg ⟨6, x, 0, z⟩ ++ ⟨#[10]⟩)); rw [HA.out]; rfl, hE1⟩
  · simp only at p1 p2 p3 p4
    subst p4
    rcases p1 with p1 | p1 | p1
    · subst p1
      obtain ⟨v, HV⟩ : ∃ v, Hid (shw 3 = v) := ⟨_, rfl⟩
      obtain ⟨s0', s1, s2, s3⟩ := hS0.at3
      have s0 : W.cell? ⟨0, 12, none⟩ = some (.string v) := by rw [← HV.out]; exact s0'
      clear s0'
      have hvz : v.size ≤ 5 := by rw [← HV.out]; exact vb_size 3 (by omega)
      have slt := hS0.lt
      have hb1' : Below W.heap.size W (W.alloc (.cells #[.string v, .bool true, .bool true, .bool false] 72)) := (Below.refl _ _).alloc (Nat.le_refl _) _
      have hb1 := hb0.trans (hb1'.mono hb0.size)
      obtain ⟨t0, t1, t2, t3⟩ := shape_box W v true true false 72
      have hlt1 : W.heap.size < (W.alloc (.cells #[.string v, .bool true, .bool true, .bool false] 72)).heap.size := by simp
      have r1 : (W.alloc (.cells #[.string v, .bool true, .bool true, .bool false] 72)).cell? ⟨w.heap.size, 0, none⟩ = some (.int .i64 3) := by rw [hb1'.cell (p := ⟨w.heap.size, 0, none⟩) hlt]; exact q1
      have r2 : (W.alloc (.cells #[.string v, .bool true, .bool true, .bool false] 72)).cell? ⟨w.heap.size, 1, none⟩ = some (.int .i64 x) := by rw [hb1'.cell (p := ⟨w.heap.size, 1, none⟩) hlt]; exact q2
      have r3 : (W.alloc (.cells #[.string v, .bool true, .bool true, .bool false] 72)).cell? ⟨w.heap.size, 2, none⟩ = some (.int .i64 y) := by rw [hb1'.cell (p := ⟨w.heap.size, 2, none⟩) hlt]; exact q3
      have r4 : (W.alloc (.cells #[.string v, .bool true, .bool true, .bool false] 72)).cell? ⟨w.heap.size, 3, none⟩ = some (.int .u64 0) := by rw [hb1'.cell (p := ⟨w.heap.size, 3, none⟩) hlt]; exact q4
      have hlt2 := Nat.lt_trans hlt hlt1
      go_upto_region 2 with fail
      generalize W.alloc (.cells #[.string v, .bool true, .bool true, .bool false] 72) = V at *
      clear s0 s1 s2 s3 q1 q2 q3 q4 hb1' hb0 hS0
      have hTV := hT.below hb1
      have HALL : Hid (∀ w', Below V.heap.size V w' → (w'.cell? ⟨W.heap.size, 0, none⟩ = some (.string v) ∧ w'.cell? ⟨W.heap.size, 1, none⟩ = some (.bool true) ∧ w'.cell? ⟨W.heap.size, 2, none⟩ = some (.bool true) ∧ w'.cell? ⟨W.heap.size, 3, none⟩ = some (.bool false)) ∧ (w'.cell? ⟨w.heap.size, 1, none⟩ = some (.int .i64 x) ∧ w'.cell? ⟨w.heap.size, 2, none⟩ = some (.int .i64 y) ∧ w'.cell? ⟨w.heap.size, 3, none⟩ = some (.int .u64 0)) ∧ w.heap.size < w'.heap.size ∧ W.heap.size < w'.heap.size ∧ Tabs w' ∧ Below w.heap.size w w') := fun w' hb => by
        refine ⟨⟨?_, ?_, ?_, ?_⟩, ⟨?_, ?_, ?_⟩, Nat.lt_of_lt_of_le hlt2 hb.size, Nat.lt_of_lt_of_le hlt1 hb.size, hTV.below hb, hb1.trans (hb.mono hb1.size)⟩
        · rw [hb.cell (p := ⟨W.heap.size, 0, none⟩) hlt1]; exact t0
        · rw [hb.cell (p := ⟨W.heap.size, 1, none⟩) hlt1]; exact t1
        · rw [hb.cell (p := ⟨W.heap.size, 2, none⟩) hlt1]; exact t2
        · rw [hb.cell (p := ⟨W.heap.size, 3, none⟩) hlt1]; exact t3
        · rw [hb.cell (p := ⟨w.heap.size, 1, none⟩) hlt2]; exact r2
        · rw [hb.cell (p := ⟨w.heap.size, 2, none⟩) hlt2]; exact r3
        · rw [hb.cell (p := ⟨w.heap.size, 3, none⟩) hlt2]; exact r4
      have hu0 := itb_size x (by omega) (by omega)
      obtain ⟨u0, Hu0⟩ : ∃ u, Hid (itb x = u) := ⟨_, rfl⟩
      rw [Hu0.out] at hu0
      have b0 := add_run (P := Tryd.prog) ⟨#[32]⟩ u0 (by (repeat rw [ByteArray.size_append]); omega)
      have a0 := add_run (P := Tryd.prog) (v) (⟨#[32]⟩ ++ u0) (by (repeat rw [ByteArray.size_append]); omega)
      have hu1 := itb_size y (by omega) (by omega)
      obtain ⟨u1, Hu1⟩ : ∃ u, Hid (itb y = u) := ⟨_, rfl⟩
      rw [Hu1.out] at hu1
      have b1 := add_run (P := Tryd.prog) ⟨#[32]⟩ u1 (by (repeat rw [ByteArray.size_append]); omega)
      have a1 := add_run (P := Tryd.prog) (v ++ (⟨#[32]⟩ ++ u0)) (⟨#[32]⟩ ++ u1) (by (repeat rw [ByteArray.size_append]); omega)
      have ae := add_run (P := Tryd.prog) (v ++ (⟨#[32]⟩ ++ u0) ++ (⟨#[32]⟩ ++ u1)) ⟨#[10]⟩ (by (repeat rw [ByteArray.size_append]); omega)
      have HA : Hid (vb ((3 : Int).toNat) ++ arg ⟨3, x, y, 0⟩ ++ ⟨#[10]⟩ = v ++ (⟨#[32]⟩ ++ u0) ++ (⟨#[32]⟩ ++ u1) ++ ⟨#[10]⟩) := by
        unfold Hid
        rw [← HV.out, ← Hu0.out, ← Hu1.out]
        show vb 3 ++ (⟨#[32]⟩ ++ itb x ++ ⟨#[32]⟩ ++ itb y) ++ ⟨#[10]⟩ = _
        simp only [ByteArray.append_assoc, shw_vb]
      go_wp2_with fail
      refine (sItoa x _ (by omega) (by omega) hTV).mono ?_
      rintro e w1 ⟨rfl, hbw1⟩
      rw [Hu0.out]
      have hc0 := hbw1
      obtain ⟨⟨t00, t10, t20, t30⟩, ⟨r20, r30, r40⟩, lt0, lu0, ht0, hE0⟩ := HALL.out _ hc0
      clear hbw1
      go_wp2_with fail
      refine (sItoa y _ (by omega) (by omega) ht0).mono ?_
      rintro e w2 ⟨rfl, hbw2⟩
      rw [Hu1.out]
      have hc1 := hc0.trans (hbw2.mono hc0.size)
      obtain ⟨⟨t01, t11, t21, t31⟩, ⟨r21, r31, r41⟩, lt1, lu1, ht1, hE1⟩ := HALL.out _ hc1
      clear hbw2
      go_wp2
      go_ret
      exact ⟨by show _ = Ending.returned (.string (vb ((3 : Int).toNat) ++ arg ⟨3, x, y, 0⟩ ++ ⟨#[10]⟩)); rw [HA.out]; rfl, hE1⟩
    · subst p1
      obtain ⟨v, HV⟩ : ∃ v, Hid (shw 4 = v) := ⟨_, rfl⟩
      obtain ⟨s0', s1, s2, s3⟩ := hS0.at4
      have s0 : W.cell? ⟨0, 16, none⟩ = some (.string v) := by rw [← HV.out]; exact s0'
      clear s0'
      have hvz : v.size ≤ 5 := by rw [← HV.out]; exact vb_size 4 (by omega)
      have slt := hS0.lt
      have hb1' : Below W.heap.size W (W.alloc (.cells #[.string v, .bool true, .bool true, .bool false] 72)) := (Below.refl _ _).alloc (Nat.le_refl _) _
      have hb1 := hb0.trans (hb1'.mono hb0.size)
      obtain ⟨t0, t1, t2, t3⟩ := shape_box W v true true false 72
      have hlt1 : W.heap.size < (W.alloc (.cells #[.string v, .bool true, .bool true, .bool false] 72)).heap.size := by simp
      have r1 : (W.alloc (.cells #[.string v, .bool true, .bool true, .bool false] 72)).cell? ⟨w.heap.size, 0, none⟩ = some (.int .i64 4) := by rw [hb1'.cell (p := ⟨w.heap.size, 0, none⟩) hlt]; exact q1
      have r2 : (W.alloc (.cells #[.string v, .bool true, .bool true, .bool false] 72)).cell? ⟨w.heap.size, 1, none⟩ = some (.int .i64 x) := by rw [hb1'.cell (p := ⟨w.heap.size, 1, none⟩) hlt]; exact q2
      have r3 : (W.alloc (.cells #[.string v, .bool true, .bool true, .bool false] 72)).cell? ⟨w.heap.size, 2, none⟩ = some (.int .i64 y) := by rw [hb1'.cell (p := ⟨w.heap.size, 2, none⟩) hlt]; exact q3
      have r4 : (W.alloc (.cells #[.string v, .bool true, .bool true, .bool false] 72)).cell? ⟨w.heap.size, 3, none⟩ = some (.int .u64 0) := by rw [hb1'.cell (p := ⟨w.heap.size, 3, none⟩) hlt]; exact q4
      have hlt2 := Nat.lt_trans hlt hlt1
      go_upto_region 2 with fail
      generalize W.alloc (.cells #[.string v, .bool true, .bool true, .bool false] 72) = V at *
      clear s0 s1 s2 s3 q1 q2 q3 q4 hb1' hb0 hS0
      have hTV := hT.below hb1
      have HALL : Hid (∀ w', Below V.heap.size V w' → (w'.cell? ⟨W.heap.size, 0, none⟩ = some (.string v) ∧ w'.cell? ⟨W.heap.size, 1, none⟩ = some (.bool true) ∧ w'.cell? ⟨W.heap.size, 2, none⟩ = some (.bool true) ∧ w'.cell? ⟨W.heap.size, 3, none⟩ = some (.bool false)) ∧ (w'.cell? ⟨w.heap.size, 1, none⟩ = some (.int .i64 x) ∧ w'.cell? ⟨w.heap.size, 2, none⟩ = some (.int .i64 y) ∧ w'.cell? ⟨w.heap.size, 3, none⟩ = some (.int .u64 0)) ∧ w.heap.size < w'.heap.size ∧ W.heap.size < w'.heap.size ∧ Tabs w' ∧ Below w.heap.size w w') := fun w' hb => by
        refine ⟨⟨?_, ?_, ?_, ?_⟩, ⟨?_, ?_, ?_⟩, Nat.lt_of_lt_of_le hlt2 hb.size, Nat.lt_of_lt_of_le hlt1 hb.size, hTV.below hb, hb1.trans (hb.mono hb1.size)⟩
        · rw [hb.cell (p := ⟨W.heap.size, 0, none⟩) hlt1]; exact t0
        · rw [hb.cell (p := ⟨W.heap.size, 1, none⟩) hlt1]; exact t1
        · rw [hb.cell (p := ⟨W.heap.size, 2, none⟩) hlt1]; exact t2
        · rw [hb.cell (p := ⟨W.heap.size, 3, none⟩) hlt1]; exact t3
        · rw [hb.cell (p := ⟨w.heap.size, 1, none⟩) hlt2]; exact r2
        · rw [hb.cell (p := ⟨w.heap.size, 2, none⟩) hlt2]; exact r3
        · rw [hb.cell (p := ⟨w.heap.size, 3, none⟩) hlt2]; exact r4
      have hu0 := itb_size x (by omega) (by omega)
      obtain ⟨u0, Hu0⟩ : ∃ u, Hid (itb x = u) := ⟨_, rfl⟩
      rw [Hu0.out] at hu0
      have b0 := add_run (P := Tryd.prog) ⟨#[32]⟩ u0 (by (repeat rw [ByteArray.size_append]); omega)
      have a0 := add_run (P := Tryd.prog) (v) (⟨#[32]⟩ ++ u0) (by (repeat rw [ByteArray.size_append]); omega)
      have hu1 := itb_size y (by omega) (by omega)
      obtain ⟨u1, Hu1⟩ : ∃ u, Hid (itb y = u) := ⟨_, rfl⟩
      rw [Hu1.out] at hu1
      have b1 := add_run (P := Tryd.prog) ⟨#[32]⟩ u1 (by (repeat rw [ByteArray.size_append]); omega)
      have a1 := add_run (P := Tryd.prog) (v ++ (⟨#[32]⟩ ++ u0)) (⟨#[32]⟩ ++ u1) (by (repeat rw [ByteArray.size_append]); omega)
      have ae := add_run (P := Tryd.prog) (v ++ (⟨#[32]⟩ ++ u0) ++ (⟨#[32]⟩ ++ u1)) ⟨#[10]⟩ (by (repeat rw [ByteArray.size_append]); omega)
      have HA : Hid (vb ((4 : Int).toNat) ++ arg ⟨4, x, y, 0⟩ ++ ⟨#[10]⟩ = v ++ (⟨#[32]⟩ ++ u0) ++ (⟨#[32]⟩ ++ u1) ++ ⟨#[10]⟩) := by
        unfold Hid
        rw [← HV.out, ← Hu0.out, ← Hu1.out]
        show vb 4 ++ (⟨#[32]⟩ ++ itb x ++ ⟨#[32]⟩ ++ itb y) ++ ⟨#[10]⟩ = _
        simp only [ByteArray.append_assoc, shw_vb]
      go_wp2_with fail
      refine (sItoa x _ (by omega) (by omega) hTV).mono ?_
      rintro e w1 ⟨rfl, hbw1⟩
      rw [Hu0.out]
      have hc0 := hbw1
      obtain ⟨⟨t00, t10, t20, t30⟩, ⟨r20, r30, r40⟩, lt0, lu0, ht0, hE0⟩ := HALL.out _ hc0
      clear hbw1
      go_wp2_with fail
      refine (sItoa y _ (by omega) (by omega) ht0).mono ?_
      rintro e w2 ⟨rfl, hbw2⟩
      rw [Hu1.out]
      have hc1 := hc0.trans (hbw2.mono hc0.size)
      obtain ⟨⟨t01, t11, t21, t31⟩, ⟨r21, r31, r41⟩, lt1, lu1, ht1, hE1⟩ := HALL.out _ hc1
      clear hbw2
      go_wp2
      go_ret
      exact ⟨by show _ = Ending.returned (.string (vb ((4 : Int).toNat) ++ arg ⟨4, x, y, 0⟩ ++ ⟨#[10]⟩)); rw [HA.out]; rfl, hE1⟩
    · subst p1
      obtain ⟨v, HV⟩ : ∃ v, Hid (shw 5 = v) := ⟨_, rfl⟩
      obtain ⟨s0', s1, s2, s3⟩ := hS0.at5
      have s0 : W.cell? ⟨0, 20, none⟩ = some (.string v) := by rw [← HV.out]; exact s0'
      clear s0'
      have hvz : v.size ≤ 5 := by rw [← HV.out]; exact vb_size 5 (by omega)
      have slt := hS0.lt
      have hb1' : Below W.heap.size W (W.alloc (.cells #[.string v, .bool true, .bool true, .bool false] 72)) := (Below.refl _ _).alloc (Nat.le_refl _) _
      have hb1 := hb0.trans (hb1'.mono hb0.size)
      obtain ⟨t0, t1, t2, t3⟩ := shape_box W v true true false 72
      have hlt1 : W.heap.size < (W.alloc (.cells #[.string v, .bool true, .bool true, .bool false] 72)).heap.size := by simp
      have r1 : (W.alloc (.cells #[.string v, .bool true, .bool true, .bool false] 72)).cell? ⟨w.heap.size, 0, none⟩ = some (.int .i64 5) := by rw [hb1'.cell (p := ⟨w.heap.size, 0, none⟩) hlt]; exact q1
      have r2 : (W.alloc (.cells #[.string v, .bool true, .bool true, .bool false] 72)).cell? ⟨w.heap.size, 1, none⟩ = some (.int .i64 x) := by rw [hb1'.cell (p := ⟨w.heap.size, 1, none⟩) hlt]; exact q2
      have r3 : (W.alloc (.cells #[.string v, .bool true, .bool true, .bool false] 72)).cell? ⟨w.heap.size, 2, none⟩ = some (.int .i64 y) := by rw [hb1'.cell (p := ⟨w.heap.size, 2, none⟩) hlt]; exact q3
      have r4 : (W.alloc (.cells #[.string v, .bool true, .bool true, .bool false] 72)).cell? ⟨w.heap.size, 3, none⟩ = some (.int .u64 0) := by rw [hb1'.cell (p := ⟨w.heap.size, 3, none⟩) hlt]; exact q4
      have hlt2 := Nat.lt_trans hlt hlt1
      go_upto_region 2 with fail
      generalize W.alloc (.cells #[.string v, .bool true, .bool true, .bool false] 72) = V at *
      clear s0 s1 s2 s3 q1 q2 q3 q4 hb1' hb0 hS0
      have hTV := hT.below hb1
      have HALL : Hid (∀ w', Below V.heap.size V w' → (w'.cell? ⟨W.heap.size, 0, none⟩ = some (.string v) ∧ w'.cell? ⟨W.heap.size, 1, none⟩ = some (.bool true) ∧ w'.cell? ⟨W.heap.size, 2, none⟩ = some (.bool true) ∧ w'.cell? ⟨W.heap.size, 3, none⟩ = some (.bool false)) ∧ (w'.cell? ⟨w.heap.size, 1, none⟩ = some (.int .i64 x) ∧ w'.cell? ⟨w.heap.size, 2, none⟩ = some (.int .i64 y) ∧ w'.cell? ⟨w.heap.size, 3, none⟩ = some (.int .u64 0)) ∧ w.heap.size < w'.heap.size ∧ W.heap.size < w'.heap.size ∧ Tabs w' ∧ Below w.heap.size w w') := fun w' hb => by
        refine ⟨⟨?_, ?_, ?_, ?_⟩, ⟨?_, ?_, ?_⟩, Nat.lt_of_lt_of_le hlt2 hb.size, Nat.lt_of_lt_of_le hlt1 hb.size, hTV.below hb, hb1.trans (hb.mono hb1.size)⟩
        · rw [hb.cell (p := ⟨W.heap.size, 0, none⟩) hlt1]; exact t0
        · rw [hb.cell (p := ⟨W.heap.size, 1, none⟩) hlt1]; exact t1
        · rw [hb.cell (p := ⟨W.heap.size, 2, none⟩) hlt1]; exact t2
        · rw [hb.cell (p := ⟨W.heap.size, 3, none⟩) hlt1]; exact t3
        · rw [hb.cell (p := ⟨w.heap.size, 1, none⟩) hlt2]; exact r2
        · rw [hb.cell (p := ⟨w.heap.size, 2, none⟩) hlt2]; exact r3
        · rw [hb.cell (p := ⟨w.heap.size, 3, none⟩) hlt2]; exact r4
      have hu0 := itb_size x (by omega) (by omega)
      obtain ⟨u0, Hu0⟩ : ∃ u, Hid (itb x = u) := ⟨_, rfl⟩
      rw [Hu0.out] at hu0
      have b0 := add_run (P := Tryd.prog) ⟨#[32]⟩ u0 (by (repeat rw [ByteArray.size_append]); omega)
      have a0 := add_run (P := Tryd.prog) (v) (⟨#[32]⟩ ++ u0) (by (repeat rw [ByteArray.size_append]); omega)
      have hu1 := itb_size y (by omega) (by omega)
      obtain ⟨u1, Hu1⟩ : ∃ u, Hid (itb y = u) := ⟨_, rfl⟩
      rw [Hu1.out] at hu1
      have b1 := add_run (P := Tryd.prog) ⟨#[32]⟩ u1 (by (repeat rw [ByteArray.size_append]); omega)
      have a1 := add_run (P := Tryd.prog) (v ++ (⟨#[32]⟩ ++ u0)) (⟨#[32]⟩ ++ u1) (by (repeat rw [ByteArray.size_append]); omega)
      have ae := add_run (P := Tryd.prog) (v ++ (⟨#[32]⟩ ++ u0) ++ (⟨#[32]⟩ ++ u1)) ⟨#[10]⟩ (by (repeat rw [ByteArray.size_append]); omega)
      have HA : Hid (vb ((5 : Int).toNat) ++ arg ⟨5, x, y, 0⟩ ++ ⟨#[10]⟩ = v ++ (⟨#[32]⟩ ++ u0) ++ (⟨#[32]⟩ ++ u1) ++ ⟨#[10]⟩) := by
        unfold Hid
        rw [← HV.out, ← Hu0.out, ← Hu1.out]
        show vb 5 ++ (⟨#[32]⟩ ++ itb x ++ ⟨#[32]⟩ ++ itb y) ++ ⟨#[10]⟩ = _
        simp only [ByteArray.append_assoc, shw_vb]
      go_wp2_with fail
      refine (sItoa x _ (by omega) (by omega) hTV).mono ?_
      rintro e w1 ⟨rfl, hbw1⟩
      rw [Hu0.out]
      have hc0 := hbw1
      obtain ⟨⟨t00, t10, t20, t30⟩, ⟨r20, r30, r40⟩, lt0, lu0, ht0, hE0⟩ := HALL.out _ hc0
      clear hbw1
      go_wp2_with fail
      refine (sItoa y _ (by omega) (by omega) ht0).mono ?_
      rintro e w2 ⟨rfl, hbw2⟩
      rw [Hu1.out]
      have hc1 := hc0.trans (hbw2.mono hc0.size)
      obtain ⟨⟨t01, t11, t21, t31⟩, ⟨r21, r31, r41⟩, lt1, lu1, ht1, hE1⟩ := HALL.out _ hc1
      clear hbw2
      go_wp2
      go_ret
      exact ⟨by show _ = Ending.returned (.string (vb ((5 : Int).toNat) ++ arg ⟨5, x, y, 0⟩ ++ ⟨#[10]⟩)); rw [HA.out]; rfl, hE1⟩
/-- What Print answers. -/
def Cpr (G : List Gt) (O : List Int) (n m : Nat) (w : World) (e : Ending) (w' : World) : Prop :=
  ((∃ r, r ≠ 0 ∧ Cke G O n m r ∧ e = .returned (.tuple #[.string ⟨#[]⟩, .int .i64 r])) ∨ (Cke G O n m 0 ∧ e = .returned (.tuple #[.string (otx (gtx G n) O m), .int .i64 0]))) ∧ Below w.heap.size w w'

theorem cPrint (ag : Option Addr) (n cg : Nat) (G : List Gt) (ao : Option Addr) (m co : Nat) (O : List Int) (w : World) (h : RdG w ag n cg G) (g : RdI w ao m co O) (hT : Tabs w) (hS : Shp w) :
    Calls Tryd.prog 5 #[.agg #[.slice ag n cg, .slice ao m co]] w fun e w' => Cpr G O n m w e w' := by
  have hcap := h.cap
  have gcap := g.cap
  have hC0 := CBox.new w ag n cg ao m co
  have hb0 : Below w.heap.size w (w.alloc (.cells #[.slice ag n cg, .slice ao m co] 25)) := (Below.refl _ _).alloc (Nat.le_refl _) _
  go_enter Tryd.func5, Tryd.ntmps5
  go_wp2_with fail
  generalize w.alloc (.cells #[.slice ag n cg, .slice ao m co] 25) = w0 at *
  refine (cCheckC _ _ _ _ _ _ _ _ _ (h.below hb0) (g.below hb0) (hS.below hb0)).mono ?_
  rintro e w1 ⟨r, rfl, hC, hb1'⟩
  have hb1 := hb0.trans (hb1'.mono hb0.size)
  have hC1 := hC0.below hb1' hC0.lt
  clear hC0 hb1' hb0
  have hrb := hC.bd
  by_cases hr : r = 0
  · subst hr
    have HC : Hid (Cke G O n m 0) := hC
    have hn := hC.ok.1
    have hm := hC.ok.2.1
    have HG : Hid (okG G n) := hC.ok.2.2.1
    have HO : Hid (okO O n m) := hC.ok.2.2.2
    have hB0 := Bld.new w1
    have hbN : Below w1.heap.size w1 (w1.alloc (.cells #[.pointer none, .slice none 0 0] 50)) := (Below.refl _ _).alloc (Nat.le_refl _) _
    have hC2 := hC1.below hbN hC1.lt
    obtain ⟨d0, d1⟩ := hC2.cells
    have hl2 := hC2.lt
    have hl1 := hC1.lt
    have hs1 := hb1.size
    clear hC hrb
    go_upto_region 5 with fail
    generalize w1.alloc (.cells #[.pointer none, .slice none 0 0] 50) = w2 at *
    go_wp2
    go_loopw [18] (fun v wr => ∃ i : Nat, i ≤ n ∧ v = .int .i64 i ∧ Bld w1.heap.size w1.heap.size (gtx G i) wr ∧ Below w1.heap.size w1 wr) (fun v _ => n - (intOf v).toNat)
    case atStart => exact ⟨0, Nat.zero_le _, rfl, hB0, hbN⟩
    case round =>
      clear hB0 hbN d0 d1 hl2 hC2
      obtain ⟨i, hi, rfl, hB, hbel⟩ := hrel
      have hs2 := hbel.size
      by_cases hlt : i < n
      · obtain ⟨b, o, k, x, y, z, rfl, hbb, HGi, hk, hx, hy, hz, c1, c2, c3, c4⟩ := (h.below (hb1.trans (hbel.mono hs1))).one hlt
        have hok := HG.out i hlt
        rw [HGi.out] at hok
        have hbA0 : Below wr.heap.size wr (wr.alloc (.cells #[.int .i64 k, .int .i64 x, .int .i64 y, .int .u64 z] 52)) := (Below.refl _ _).alloc (Nat.le_refl _) _
        have hbA := hbel.trans (hbA0.mono hs2)
        obtain ⟨q1, q2, q3, q4⟩ := gate_box wr k x y z 52
        have hltA : wr.heap.size < (wr.alloc (.cells #[.int .i64 k, .int .i64 x, .int .i64 y, .int .u64 z] 52)).heap.size := by simp
        have hBA := hB.below hbA0
        have hts := gtx_size HG.out hn.2 (i + 1) (by omega)
        have HE : Hid (gtx G (i + 1) = gtx G i ++ (vb k.toNat ++ arg ⟨k, x, y, z⟩ ++ ⟨#[10]⟩)) := by
          unfold Hid
          rw [gtx, gln, HGi.out]
          simp only [ByteArray.append_assoc]
        rw [HE.out] at hts
        have HOK : Hid (okg i ⟨k, x, y, z⟩) := hok
        obtain ⟨t, Ht⟩ : ∃ t, Hid (gtx G i = t) := ⟨_, rfl⟩
        obtain ⟨l, Hl⟩ : ∃ l, Hid (vb k.toNat ++ arg ⟨k, x, y, z⟩ ++ ⟨#[10]⟩ = l) := ⟨_, rfl⟩
        rw [Ht.out, Hl.out] at hts
        rw [Ht.out] at hBA
        rw [ByteArray.size_append] at hts
        clear hok
        go_upto_region 8 with fail
        generalize wr.alloc (.cells #[.int .i64 k, .int .i64 x, .int .i64 y, .int .u64 z] 52) = W at *
        clear c1 c2 c3 c4 hbA0 hbel hB
        have hbwA := hb1.trans (hbA.mono hs1)
        go_wp2_with fail
        refine (cGateLine k x y z i _ HOK.out (by omega) hz (hS.below hbwA) (hT.below hbwA)).mono ?_
        rintro e w3 ⟨rfl, hb3⟩
        rw [Hl.out]
        have hB3 := hBA.below hb3
        have hbel3 := hbA.trans (hb3.mono hbA.size)
        have hs3 := hbel3.size
        clear hBA hb3 hbA hbwA q1 q2 q3 q4 hltA
        go_wp2_with fail
        refine (sWrite _ _ t l _ hB3 (by omega) hs3).mono ?_
        rintro e w4 ⟨rfl, hB4, hb4⟩
        have hbel4 := hbel3.trans hb4
        go_wp2
        go_roundw
        case rel => exact ⟨i + 1, by omega, by go_num, by rw [HE.out, Ht.out, Hl.out]; exact hB4, hbel4⟩
        case measure => simp [intOf]; omega
      · have hin : i = n := by omega
        subst hin
        have hC3 := hC1.below hbel hl1
        obtain ⟨d0, d1⟩ := hC3.cells
        have hl3 := hC3.lt
        have hts := gtx_size HG.out hn.2 i (Nat.le_refl _)
        go_wp2
        clear d0 d1 hl3 hC3
        obtain ⟨wo, hwo⟩ : ∃ x, x = wr := ⟨_, rfl⟩
        subst hwo
        go_loopw [29] (fun v wr => ∃ j : Nat, j ≤ m ∧ v = .int .i64 j ∧ Bld w1.heap.size w1.heap.size (otx (gtx G i) O j) wr ∧ Below w1.heap.size w1 wr) (fun v _ => m - (intOf v).toNat)
        case atStart => exact ⟨0, Nat.zero_le _, rfl, hB, hbel⟩
        case round =>
          clear hB hbel hs2
          obtain ⟨j, hj, rfl, hB, hbel⟩ := hrel
          have hs2 := hbel.size
          by_cases hltj : j < m
          · obtain ⟨b2, o2, x, rfl, hbb2, HX, hx0, hx1, c5⟩ := (g.below (hb1.trans (hbel.mono hs1))).one hltj
            have hos := otx_size (t := gtx G i) HO.out hn.2 j hj
            have hu := itb_size x hx0 hx1
            have nl := nl_size
            have ou := out_size
            have HE : Hid (otx (gtx G i) O (j + 1) = otx (gtx G i) O j ++ (⟨#[111, 117, 116, 32]⟩ ++ itb x ++ ⟨#[10]⟩)) := by
              unfold Hid
              rw [otx, HX.out]
            obtain ⟨t, Ht⟩ : ∃ t, Hid (otx (gtx G i) O j = t) := ⟨_, rfl⟩
            obtain ⟨u, Hu⟩ : ∃ u, Hid (itb x = u) := ⟨_, rfl⟩
            rw [Ht.out] at hos hB
            rw [Hu.out] at hu
            have a1 := add_run (P := Tryd.prog) ⟨#[111, 117, 116, 32]⟩ u (by omega)
            have a2 := add_run (P := Tryd.prog) (⟨#[111, 117, 116, 32]⟩ ++ u) ⟨#[10]⟩ (by rw [ByteArray.size_append]; omega)
            have hlz : (⟨#[111, 117, 116, 32]⟩ ++ u ++ ⟨#[10]⟩ : ByteArray).size ≤ 30 := by rw [ByteArray.size_append, ByteArray.size_append]; omega
            obtain ⟨l, Hl⟩ : ∃ l, Hid ((⟨#[111, 117, 116, 32]⟩ ++ u ++ ⟨#[10]⟩ : ByteArray) = l) := ⟨_, rfl⟩
            rw [Hl.out] at a2 hlz
            go_wp2_with fail
            refine (sItoa x _ hx0 hx1 (hT.below (hb1.trans (hbel.mono hs1)))).mono ?_
            rintro e w3 ⟨rfl, hb3⟩
            rw [Hu.out]
            have hB3 := hB.below hb3
            have hbel3 := hbel.trans (hb3.mono hs2)
            have hs3 := hbel3.size
            clear hB hb3 hbel c5
            go_wp2_with fail
            refine (sWrite _ _ t l _ hB3 (by omega) hs3).mono ?_
            rintro e w4 ⟨rfl, hB4, hb4⟩
            have hbel4 := hbel3.trans hb4
            go_wp2
            go_roundw
            case rel => exact ⟨j + 1, by omega, by go_num, by rw [HE.out, Ht.out, Hu.out, Hl.out]; exact hB4, hbel4⟩
            case measure => simp [intOf]; omega
          · have hjm : j = m := by omega
            subst hjm
            go_wp2_with fail
            refine (sString _ _ _ _ hB hs2).mono ?_
            rintro e w3 ⟨rfl, hb3⟩
            have hbE := hb1.trans ((hbel.trans hb3).mono hs1)
            clear hB hb3
            go_wp2
            go_ret2
            exact ⟨.inr ⟨HC.out, rfl⟩, hbE⟩
  · have HC : Hid (Cke G O n m r) := hC
    have HR : Hid (r ≠ 0) := hr
    have hrb2 : (r != 0) = true := by rw [bne_iff_ne]; exact hr
    clear hC hrb hr
    go_wp2
    go_ret2
    exact ⟨.inl ⟨_, HR.out, HC.out, rfl⟩, hb1⟩
theorem Par.err {s : ByteArray} {G : List Gt} {O : List Int} {n : Nat} {r : Int} (h : Par s G O n r) (hr : r ≠ 0) : G = [] := by
  rcases h with ⟨_, h, _⟩ | ⟨_, ⟨_, _, _, _, _, _, h, _⟩ | ⟨_, _, _, ⟨_, h, _⟩ | ⟨_, _, _, ⟨_, h, _⟩ | ⟨h, _⟩⟩⟩⟩
  · exact h
  · exact h
  · exact h
  · exact h
  · exact absurd h hr
theorem Par.zn {s : ByteArray} {G : List Gt} {O : List Int} {a : Nat} {r : Int} (h : Par s G O a r) : ∀ g ∈ G, g.k = 2 ∨ g.k = 6 ∨ g.n = 0 := by
  have nil : ∀ g ∈ ([] : List Gt), g.k = 2 ∨ g.k = 6 ∨ g.n = 0 := fun g hg => by simp at hg
  rcases h with ⟨_, rfl, rfl, _, _⟩ | ⟨_, ⟨_, _, _, _, _, _, rfl, rfl, _, _⟩ | ⟨G0, O0, h1, ⟨_, rfl, rfl, _, _⟩ | ⟨_, _, _, ⟨_, rfl, rfl⟩ | ⟨_, rfl, rfl⟩⟩⟩⟩
  · exact nil
  · exact nil
  · exact nil
  · exact nil
  · exact h1.zn
theorem text_le {G : List Gt} {O : List Int} {n m : Nat} (h : Cke G O n m 0) : (otx (gtx G n) O m).size ≤ 2048 := by
  obtain ⟨hn, hm, hG, hO⟩ := h.ok
  rw [text_toB hG hO, toB_size]
  exact text_size hG hO hn.2 hm.2

/-- A circuit that is told, laid into a variable. -/
theorem cbox_put (w : World) (ag : Option Addr) (n cg : Nat) (ao : Option Addr) (m co : Nat) : CBox (w.alloc (.cells #[.slice ag n cg, .slice ao m co] 25)) w.heap.size ag n cg ao m co ∧ Below w.heap.size w (w.alloc (.cells #[.slice ag n cg, .slice ao m co] 25)) :=
  ⟨CBox.new w ag n cg ao m co, (Below.refl _ _).alloc (Nat.le_refl _) _⟩
end
section
open Crm
/-- Enough shares of a dealing open it. -/
theorem any_open {C : List Int} {l : List (Int × Int)} {n k : Nat} (hd : dis (fa l) n) (hk : k ≤ 4) (hkn : k < n) (hC : C.length ≤ k + 1) (hy : Hs l n C) {x r : Int} (h : Opn l n k x r) : x = nm (ev C 0) ∧ r = 0 := by
  have h1 : Opn l n k (nm (ev C 0)) 0 := Or.inr ⟨Or.inr (Or.inr (Or.inr ⟨⟨by omega, by omega⟩, hd, by omega, rfl⟩)), Or.inl ⟨C, by omega, hy, rfl, rfl⟩⟩
  exact h.one h1
end
section
open Go.RowKit
/-- The first k numbers of a row, with noughts where it has none. -/
def padded (xs : List Int) (k : Nat) : List Int := xs.take k ++ List.replicate (k - xs.length) 0
theorem padded_len (xs : List Int) (k : Nat) : (padded xs k).length = k := by unfold padded; simp; omega
theorem padded_bd {xs : List Int} (h : ∀ x ∈ xs, 0 ≤ x ∧ x ≤ 18446744073709551615) (k : Nat) : ∀ x ∈ padded xs k, 0 ≤ x ∧ x ≤ 18446744073709551615 := fun x hx => by
  unfold padded at hx
  rcases List.mem_append.1 hx with h1 | h1
  · exact h x (List.mem_of_mem_take h1)
  · rw [List.eq_of_mem_replicate h1]; omega
theorem padded_splice (xs : List Int) (k : Nat) : Go.splice ((List.replicate k (0 : Int)).map (Value.int .u64)) 0 ((xs.take k).map (Value.int .u64)) = (padded xs k).map (Value.int .u64) := by
  unfold Go.splice padded
  simp
  omega

/-- What copy reads. -/
theorem copy_src {w : World} {a : Option Addr} {n c : Nat} {xs : List Int} (h : Rd w a n c xs) (k : Nat) (hp : 0 < ((xs.take k).map (Value.int .u64)).length) : ∃ ad, a = some ad ∧ ∀ j v, ((xs.take k).map (Value.int .u64))[j]? = some v → w.cell? (ad.add j) = some v := by
  have hl := h.len
  have hn : 0 < n := by simp at hp; omega
  obtain ⟨b, o, rfl, _, hc⟩ := h.at hn
  refine ⟨_, rfl, fun j v hj => ?_⟩
  have hjl := (List.getElem?_eq_some_iff.1 hj).1
  simp at hjl
  have hv : v = .int .u64 (xs.getD j 0) := by
    rw [List.getElem?_map, List.getElem?_take, if_pos (by omega), List.getElem?_eq_getElem (show j < xs.length by omega)] at hj
    rw [List.getD_eq_getElem?_getD, List.getElem?_eq_getElem (show j < xs.length by omega)]
    exact (Option.some.inj hj).symm
  rw [hv, Addr.add_lit]
  exact hc j (by omega)
theorem copy_len {xs : List Int} {n k : Nat} (h : xs.length = n) : ((xs.take k).map (Value.int .u64)).length = Nat.min n k := by
  show _ = min n k
  simp; omega
theorem one_ints (xs : List Int) : ∀ v ∈ xs.map (Value.int .u64), v.oneCell' = true := fun v hv => by obtain ⟨x, _, rfl⟩ := List.mem_map.1 hv; rfl
end
section
open Crm Go.RowKit
/-- Shares of all parties' numbers. -/
def shl (xs : List Int) (n : Nat) : List (Int × Int) := (List.range n).map fun (i : Nat) => ((i : Int) + 1, xs.getD i 0)
theorem shl_len (xs : List Int) (n : Nat) : (shl xs n).length = n := by simp [shl]
theorem shl_getD (xs : List Int) {n i : Nat} (h : i < n) : (shl xs n).getD i (0, 0) = ((i : Int) + 1, xs.getD i 0) := by simp [shl, h]
end
end Go.Proofs.YtljlioglpaogdahDoor
