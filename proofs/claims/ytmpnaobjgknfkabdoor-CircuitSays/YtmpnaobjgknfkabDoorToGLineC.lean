/- strconv.FormatUint, base 10: small, numDigits and formatBase10 off the shelf. · Package circuit: gateLine, Print. -/
import Derived.Test.YtmpnaobjgknfkabDoorToShLay
import Derived.Test.YtmpnaobjgknfkabDoorToDigC
import Derived.Lib.AppendIntMem
import Derived.Test.YtmpnaobjgknfkabDoorToCktP
import Derived.Test.YtmpnaobjgknfkabDoorToBldC
namespace Go.Proofs.YtmpnaobjgknfkabDoor
open Go.RowKit Go.Shelf Go.Sort

set_option maxRecDepth 100000 in
set_option maxHeartbeats 6400000 in
theorem sFormatU (n : Int) (w : World) (h0 : 0 ≤ n) (h1 : n ≤ 18446744073709551615) (ht : Tabs w) :
    Calls Tryd.prog 36 #[.int .u64 n, .int .i64 10] w fun e w' => e = .returned (.string (itb n)) ∧ Below w.heap.size w w' := by
  obtain ⟨u, rfl⟩ : ∃ u : Nat, n = u := ⟨n.toNat, by omega⟩
  have hE : itb (u : Int) = ⟨(Lib.decDigits u).toArray⟩ := by unfold itb; rw [Lib.itoa_nonneg]
  rw [hE]
  by_cases hs : u < 100
  · have hw : IntKind.i64.wrap (u : Int) = u := by rw [IntKind.wrap_i64]; omega
    go_enter Tryd.func36, Tryd.ntmps36
    go_wp2_with (go_at_call 37; refine (show Calls Tryd.prog 37 #[.int .i64 (u : Int)] w _ from Any.internal_strconv_small Tryd.lays283 u hs w).mono ?_; rintro e w' ⟨rfl, rfl⟩)
    go_ret
    exact ⟨rfl, Below.refl _ _⟩
  · have hu1 : 1 ≤ u := by omega
    have hu64 : u < 18446744073709551616 := by omega
    have hnd20 : Lib.nDigits u ≤ 20 := by have := Lib.numDigits_eq u hu1 hu64; split at this <;> omega
    obtain ⟨N, HN⟩ : ∃ N, Hid (Lib.nDigits u = N) := ⟨_, rfl⟩
    have hal : Tryd.prog.arrayLen 72 = 24 := by kernel_rfl
    have hsl : ∀ W, (Instr.sliceAt 72 (.pointer (some ⟨w.heap.size, 0, none⟩)) none (some (.int .i64 (N : Int))) none).run Tryd.prog W = .ok (.slice (some ⟨w.heap.size, 0, none⟩) N 24) W := fun W => by
      rw [run_sliceAt_array_h W 72 ⟨w.heap.size, 0, none⟩ (by simp [Program.arrayLen, Program.elem, Tryd.underlying72]) .i64 (N : Int) (by omega) (by rw [hal]; have := HN.out; omega)]
      go_simp
    have hH0 := Lib.holds_zero0 w 72 N (by have := HN.out; omega)
    have hfmt := Any.internal_strconv_formatBase10 Tryd.lays285 w.heap.size 0 24 u (Array.replicate N 0) (w.alloc (.cells Lib.zeros24 72)) hH0 (by rw [Array.size_replicate, ← HN.out]; exact Lib.lt_pow_nDigits u) hu64 (by rw [Array.size_replicate]; have := HN.out; omega)
    rw [Array.size_replicate] at hfmt
    have HH0 : Hid (Holds _ _ _ _ _) := hH0
    have hnum : ∀ W, Tabs W → Calls Tryd.prog 38 #[.int .u64 (u : Int)] W fun e w' => e = .returned (.int .i64 (N : Int)) ∧ w' = W := fun W hW => by
      rw [← HN.out]
      exact Any.internal_strconv_numDigits Tryd.laysM284 u hu1 hu64 W hW
    have hta : Tabs (w.alloc (.cells Lib.zeros24 72)) := ht.below ((Below.refl _ _).alloc (Nat.le_refl _) _)
    have HFM : Hid (Calls Tryd.prog 39 #[.slice (some ⟨w.heap.size, 0, none⟩) N 24, .int .u64 (u : Int)] (w.alloc (.cells Lib.zeros24 72)) fun e w' => e = .returned (.tuple #[]) ∧ ∃ (n v' : Nat) (dk : Array UInt8), w' = (putRow (fun (b : UInt8) => Value.int .u8 (b.toNat : Int)) (w.alloc (.cells Lib.zeros24 72)) w.heap.size 0 dk).drewN n ∧ Lib.FmtInv N u 0 v' dk) := hfmt
    clear hH0 hal hfmt
    go_enter Tryd.func36, Tryd.ntmps36
    go_wp2_with (first | (go_at_call 38; refine (hnum _ hta).mono ?_; rintro e w' ⟨rfl, rfl⟩))
    refine HFM.out.mono ?_
    rintro e w' ⟨rfl, k, v', dk, rfl, hF⟩
    have hcv : (convert 52 9 (.slice (some ⟨w.heap.size, 0, none⟩) N 24)).run Tryd.prog ((putRow (fun (b : UInt8) => Value.int .u8 (b.toNat : Int)) (w.alloc (.cells Lib.zeros24 72)) w.heap.size 0 dk).drewN k) = .ok (.string ⟨(Lib.decDigits u).toArray⟩) ((putRow (fun (b : UInt8) => Value.int .u8 (b.toNat : Int)) (w.alloc (.cells Lib.zeros24 72)) w.heap.size 0 dk).drewN k) := by
      have hF' := hF
      rw [← HN.out] at hF'
      have h := run_convert_bytes_back (P := Tryd.prog) ((putRow (fun (b : UInt8) => Value.int .u8 (b.toNat : Int)) (w.alloc (.cells Lib.zeros24 72)) w.heap.size 0 dk).drewN k) 52 9 5 ⟨w.heap.size, 0, none⟩ 24 (Lib.decDigits u) Tryd.underlying52 Tryd.underlying5 Tryd.underlying9 (fun j hj => by
        rw [Lib.row_is_numeral hF' j hj, Lib.add_plain, World.cell?_drewN]
        exact cell?_putRow (fun (b : UInt8) => Value.int .u8 (b.toNat : Int)) _ w.heap.size 0 _ dk HH0.out (by rw [hF.size, Array.size_replicate]) j (by rw [hF.size, ← HN.out]; rw [Lib.decDigits_length] at hj; exact hj))
      rw [Lib.decDigits_length, HN.out] at h
      exact h
    have hbE : Below w.heap.size w ((putRow (fun (b : UInt8) => Value.int .u8 (b.toNat : Int)) (w.alloc (.cells Lib.zeros24 72)) w.heap.size 0 dk).drewN k) := by
      obtain ⟨os, e⟩ := Lib.fin_at w (.cells Lib.zeros24 72) dk k 0
      rw [e]
      exact grow_below w k os
    clear HFM hnum hta HH0
    go_wp2
    go_ret
    exact ⟨rfl, hbE⟩

set_option maxRecDepth 100000 in
theorem sFormatUint (n : Int) (w : World) (h0 : 0 ≤ n) (h1 : n ≤ 18446744073709551615) (ht : Tabs w) :
    Calls Tryd.prog 33 #[.int .u64 n, .int .i64 10] w fun e w' => e = .returned (.string (itb n)) ∧ Below w.heap.size w w' := by
  go_enter Tryd.func33, Tryd.ntmps33
  go_wp2_with (go_at_call 36; refine (sFormatU n w h0 h1 ht).mono ?_; rintro e w' ⟨rfl, hb⟩)
  go_ret
  exact ⟨rfl, hb⟩
end Go.Proofs.YtmpnaobjgknfkabDoor

namespace Go.Proofs.YtmpnaobjgknfkabDoor
open Go.RowKit Crm

theorem shw_vb (k : Nat) : shw k = vb k := rfl
/-- What gateLine answers. -/
def Gll (g : Gt) (w : World) (e : Ending) (w' : World) : Prop := e = .returned (.string (vb g.k.toNat ++ arg g ++ ⟨#[10]⟩)) ∧ Below w.heap.size w w'

set_option maxRecDepth 100000 in
set_option maxHeartbeats 4000000 in
theorem cGateLine (k x y z : Int) (i : Nat) (w : World) (hok : okg i ⟨k, x, y, z⟩) (hi : i ≤ 30) (hz : 0 ≤ z ∧ z ≤ 18446744073709551615) (hS : Shp w) (hT : Tabs w) :
    Calls Tryd.prog 20 #[.agg #[.int .i64 k, .int .i64 x, .int .i64 y, .int .u64 z]] w fun e w' => Gll ⟨k, x, y, z⟩ w e w' := by
  have hb0 : Below w.heap.size w (w.alloc (.cells #[.int .i64 k, .int .i64 x, .int .i64 y, .int .u64 z] 43)) := (Below.refl _ _).alloc (Nat.le_refl _) _
  obtain ⟨q1, q2, q3, q4⟩ := gate_box w k x y z 43
  have hlt : w.heap.size < (w.alloc (.cells #[.int .i64 k, .int .i64 x, .int .i64 y, .int .u64 z] 43)).heap.size := by simp
  have hnz := nm_bd z
  have sp := sp_size
  have nl := nl_size
  go_enter Tryd.func20, Tryd.ntmps20
  go_upto_region 1 with fail
  generalize w.alloc (.cells #[.int .i64 k, .int .i64 x, .int .i64 y, .int .u64 z] 43) = W at *
  have hS0 := hS.below hb0
  clear hS
  rcases hok with ⟨p1, p2, p3, p4⟩ | ⟨p1, p2, p3⟩ | ⟨p1, p2, p3⟩ | ⟨p1, p2, p3, p4⟩
  · simp only at p1 p2 p3 p4
    subst p1 p3 p4
    obtain ⟨v, HV⟩ : ∃ v, Hid (shw 1 = v) := ⟨_, rfl⟩
    obtain ⟨s0', s1, s2, s3⟩ := hS0.at1
    have s0 : W.cell? ⟨1, 4, none⟩ = some (.string v) := by rw [← HV.out]; exact s0'
    clear s0'
    have hvz : v.size ≤ 5 := by rw [← HV.out]; exact vb_size 1 (by omega)
    have slt := hS0.lt
    have hb1' : Below W.heap.size W (W.alloc (.cells #[.string v, .bool true, .bool false, .bool false] 65)) := (Below.refl _ _).alloc (Nat.le_refl _) _
    have hb1 := hb0.trans (hb1'.mono hb0.size)
    obtain ⟨t0, t1, t2, t3⟩ := shape_box W v true false false 65
    have hlt1 : W.heap.size < (W.alloc (.cells #[.string v, .bool true, .bool false, .bool false] 65)).heap.size := by simp
    have r1 : (W.alloc (.cells #[.string v, .bool true, .bool false, .bool false] 65)).cell? ⟨w.heap.size, 0, none⟩ = some (.int .i64 1) := by rw [hb1'.cell (p := ⟨w.heap.size, 0, none⟩) hlt]; exact q1
    have r2 : (W.alloc (.cells #[.string v, .bool true, .bool false, .bool false] 65)).cell? ⟨w.heap.size, 1, none⟩ = some (.int .i64 x) := by rw [hb1'.cell (p := ⟨w.heap.size, 1, none⟩) hlt]; exact q2
    have r3 : (W.alloc (.cells #[.string v, .bool true, .bool false, .bool false] 65)).cell? ⟨w.heap.size, 2, none⟩ = some (.int .i64 0) := by rw [hb1'.cell (p := ⟨w.heap.size, 2, none⟩) hlt]; exact q3
    have r4 : (W.alloc (.cells #[.string v, .bool true, .bool false, .bool false] 65)).cell? ⟨w.heap.size, 3, none⟩ = some (.int .u64 0) := by rw [hb1'.cell (p := ⟨w.heap.size, 3, none⟩) hlt]; exact q4
    have hlt2 := Nat.lt_trans hlt hlt1
    go_upto_region 2 with fail
    generalize W.alloc (.cells #[.string v, .bool true, .bool false, .bool false] 65) = V at *
    clear s0 s1 s2 s3 q1 q2 q3 q4 hb1' hb0 hS0
    have hTV := hT.below hb1
    have HALL : Hid (∀ w', Below V.heap.size V w' → (w'.cell? ⟨W.heap.size, 0, none⟩ = some (.string v) ∧ w'.cell? ⟨W.heap.size, 1, none⟩ = some (.bool true) ∧ w'.cell? ⟨W.heap.size, 2, none⟩ = some (.bool false) ∧ w'.cell? ⟨W.heap.size, 3, none⟩ = some (.bool false)) ∧ (w'.cell? ⟨w.heap.size, 1, none⟩ = some (.int .i64 x) ∧ w'.cell? ⟨w.heap.size, 2, none⟩ = some (.int .i64 0) ∧ w'.cell? ⟨w.heap.size, 3, none⟩ = some (.int .u64 0)) ∧ w.heap.size < w'.heap.size ∧ W.heap.size < w'.heap.size ∧ Tabs w' ∧ Below w.heap.size w w') := fun w' hb => by
      refine ⟨⟨?_, ?_, ?_, ?_⟩, ⟨?_, ?_, ?_⟩, Nat.lt_of_lt_of_le hlt2 hb.size, Nat.lt_of_lt_of_le hlt1 hb.size, hTV.below hb, hb1.trans (hb.mono hb1.size)⟩
      · rw [hb.cell (p := ⟨W.heap.size, 0, none⟩) hlt1]; exact t0
      · rw [hb.cell (p := ⟨W.heap.size, 1, none⟩) hlt1]; exact t1
      · rw [hb.cell (p := ⟨W.heap.size, 2, none⟩) hlt1]; exact t2
      · rw [hb.cell (p := ⟨W.heap.size, 3, none⟩) hlt1]; exact t3
      · rw [hb.cell (p := ⟨w.heap.size, 1, none⟩) hlt2]; exact r2
      · rw [hb.cell (p := ⟨w.heap.size, 2, none⟩) hlt2]; exact r3
      · rw [hb.cell (p := ⟨w.heap.size, 3, none⟩) hlt2]; exact r4
    have hu0 := itb_size x (by omega) (by omega)
    obtain ⟨u0, Hu0⟩ : ∃ u, Hid (itb x = u) := ⟨_, rfl⟩
    rw [Hu0.out] at hu0
    have b0 := add_run (P := Tryd.prog) ⟨#[32]⟩ u0 (by (repeat rw [ByteArray.size_append]); omega)
    have a0 := add_run (P := Tryd.prog) (v) (⟨#[32]⟩ ++ u0) (by (repeat rw [ByteArray.size_append]); omega)
    have ae := add_run (P := Tryd.prog) (v ++ (⟨#[32]⟩ ++ u0)) ⟨#[10]⟩ (by (repeat rw [ByteArray.size_append]); omega)
    have HA : Hid (vb ((1 : Int).toNat) ++ arg ⟨1, x, 0, 0⟩ ++ ⟨#[10]⟩ = v ++ (⟨#[32]⟩ ++ u0) ++ ⟨#[10]⟩) := by
      unfold Hid
      rw [← HV.out, ← Hu0.out]
      show vb 1 ++ (⟨#[32]⟩ ++ itb x) ++ ⟨#[10]⟩ = _
      simp only [ByteArray.append_assoc, shw_vb]
    go_wp2_with fail
    refine (sItoa x _ (by omega) (by omega) hTV).mono ?_
    rintro e w1 ⟨rfl, hbw1⟩
    rw [Hu0.out]
    have hc0 := hbw1
    obtain ⟨⟨t00, t10, t20, t30⟩, ⟨r20, r30, r40⟩, lt0, lu0, ht0, hE0⟩ := HALL.out _ hc0
    clear hbw1
    go_wp2
    go_ret
    exact ⟨by show _ = Ending.returned (.string (vb ((1 : Int).toNat) ++ arg ⟨1, x, 0, 0⟩ ++ ⟨#[10]⟩)); rw [HA.out]; rfl, hE0⟩
  · simp only at p1 p2 p3
    subst p1 p2 p3
    obtain ⟨v, HV⟩ : ∃ v, Hid (shw 2 = v) := ⟨_, rfl⟩
    obtain ⟨s0', s1, s2, s3⟩ := hS0.at2
    have s0 : W.cell? ⟨1, 8, none⟩ = some (.string v) := by rw [← HV.out]; exact s0'
    clear s0'
    have hvz : v.size ≤ 5 := by rw [← HV.out]; exact vb_size 2 (by omega)
    have slt := hS0.lt
    have hb1' : Below W.heap.size W (W.alloc (.cells #[.string v, .bool false, .bool false, .bool true] 65)) := (Below.refl _ _).alloc (Nat.le_refl _) _
    have hb1 := hb0.trans (hb1'.mono hb0.size)
    obtain ⟨t0, t1, t2, t3⟩ := shape_box W v false false true 65
    have hlt1 : W.heap.size < (W.alloc (.cells #[.string v, .bool false, .bool false, .bool true] 65)).heap.size := by simp
    have r1 : (W.alloc (.cells #[.string v, .bool false, .bool false, .bool true] 65)).cell? ⟨w.heap.size, 0, none⟩ = some (.int .i64 2) := by rw [hb1'.cell (p := ⟨w.heap.size, 0, none⟩) hlt]; exact q1
    have r2 : (W.alloc (.cells #[.string v, .bool false, .bool false, .bool true] 65)).cell? ⟨w.heap.size, 1, none⟩ = some (.int .i64 0) := by rw [hb1'.cell (p := ⟨w.heap.size, 1, none⟩) hlt]; exact q2
    have r3 : (W.alloc (.cells #[.string v, .bool false, .bool false, .bool true] 65)).cell? ⟨w.heap.size, 2, none⟩ = some (.int .i64 0) := by rw [hb1'.cell (p := ⟨w.heap.size, 2, none⟩) hlt]; exact q3
    have r4 : (W.alloc (.cells #[.string v, .bool false, .bool false, .bool true] 65)).cell? ⟨w.heap.size, 3, none⟩ = some (.int .u64 z) := by rw [hb1'.cell (p := ⟨w.heap.size, 3, none⟩) hlt]; exact q4
    have hlt2 := Nat.lt_trans hlt hlt1
    go_upto_region 2 with fail
    generalize W.alloc (.cells #[.string v, .bool false, .bool false, .bool true] 65) = V at *
    clear s0 s1 s2 s3 q1 q2 q3 q4 hb1' hb0 hS0
    have hTV := hT.below hb1
    have HALL : Hid (∀ w', Below V.heap.size V w' → (w'.cell? ⟨W.heap.size, 0, none⟩ = some (.string v) ∧ w'.cell? ⟨W.heap.size, 1, none⟩ = some (.bool false) ∧ w'.cell? ⟨W.heap.size, 2, none⟩ = some (.bool false) ∧ w'.cell? ⟨W.heap.size, 3, none⟩ = some (.bool true)) ∧ (w'.cell? ⟨w.heap.size, 1, none⟩ = some (.int .i64 0) ∧ w'.cell? ⟨w.heap.size, 2, none⟩ = some (.int .i64 0) ∧ w'.cell? ⟨w.heap.size, 3, none⟩ = some (.int .u64 z)) ∧ w.heap.size < w'.heap.size ∧ W.heap.size < w'.heap.size ∧ Tabs w' ∧ Below w.heap.size w w') := fun w' hb => by
      refine ⟨⟨?_, ?_, ?_, ?_⟩, ⟨?_, ?_, ?_⟩, Nat.lt_of_lt_of_le hlt2 hb.size, Nat.lt_of_lt_of_le hlt1 hb.size, hTV.below hb, hb1.trans (hb.mono hb1.size)⟩
      · rw [hb.cell (p := ⟨W.heap.size, 0, none⟩) hlt1]; exact t0
      · rw [hb.cell (p := ⟨W.heap.size, 1, none⟩) hlt1]; exact t1
      · rw [hb.cell (p := ⟨W.heap.size, 2, none⟩) hlt1]; exact t2
      · rw [hb.cell (p := ⟨W.heap.size, 3, none⟩) hlt1]; exact t3
      · rw [hb.cell (p := ⟨w.heap.size, 1, none⟩) hlt2]; exact r2
      · rw [hb.cell (p := ⟨w.heap.size, 2, none⟩) hlt2]; exact r3
      · rw [hb.cell (p := ⟨w.heap.size, 3, none⟩) hlt2]; exact r4
    obtain ⟨N, HN⟩ : ∃ N, Hid (nm z = N) := ⟨_, rfl⟩
    have hnz2 := hnz
    rw [HN.out] at hnz2
    have hu0 := itb_size N (by omega) (by omega)
    obtain ⟨u0, Hu0⟩ : ∃ u, Hid (itb N = u) := ⟨_, rfl⟩
    rw [Hu0.out] at hu0
    have b0 := add_run (P := Tryd.prog) ⟨#[32]⟩ u0 (by (repeat rw [ByteArray.size_append]); omega)
    have a0 := add_run (P := Tryd.prog) (v) (⟨#[32]⟩ ++ u0) (by (repeat rw [ByteArray.size_append]); omega)
    have ae := add_run (P := Tryd.prog) (v ++ (⟨#[32]⟩ ++ u0)) ⟨#[10]⟩ (by (repeat rw [ByteArray.size_append]); omega)
    have HA : Hid (vb ((2 : Int).toNat) ++ arg ⟨2, 0, 0, z⟩ ++ ⟨#[10]⟩ = v ++ (⟨#[32]⟩ ++ u0) ++ ⟨#[10]⟩) := by
      unfold Hid
      rw [← HV.out, ← Hu0.out, ← HN.out]
      show vb 2 ++ (⟨#[32]⟩ ++ itb (nm z)) ++ ⟨#[10]⟩ = _
      simp only [ByteArray.append_assoc, shw_vb]
    go_wp2_with fail
    refine (fNorm z _ hz.1 hz.2).mono ?_
    rintro e wN ⟨rfl, hwN⟩
    have hwN := hwN.symm
    subst hwN
    rw [HN.out]
    go_wp2_with fail
    refine (sFormatUint N _ (by omega) (by omega) hTV).mono ?_
    rintro e w1 ⟨rfl, hbw1⟩
    rw [Hu0.out]
    have hc0 := hbw1
    obtain ⟨⟨t00, t10, t20, t30⟩, ⟨r20, r30, r40⟩, lt0, lu0, ht0, hE0⟩ := HALL.out _ hc0
    clear hbw1
    go_wp2
    go_ret
    exact ⟨by show _ = Ending.returned (.string (vb ((2 : Int).toNat) ++ arg ⟨2, 0, 0, z⟩ ++ ⟨#[10]⟩)); rw [HA.out]; rfl, hE0⟩
  · simp only at p1 p2 p3
    subst p1 p3
    obtain ⟨v, HV⟩ : ∃ v, Hid (shw 6 = v) := ⟨_, rfl⟩
    obtain ⟨s0', s1, s2, s3⟩ := hS0.at6
    have s0 : W.cell? ⟨1, 24, none⟩ = some (.string v) := by rw [← HV.out]; exact s0'
    clear s0'
    have hvz : v.size ≤ 5 := by rw [← HV.out]; exact vb_size 6 (by omega)
    have slt := hS0.lt
    have hb1' : Below W.heap.size W (W.alloc (.cells #[.string v, .bool true, .bool false, .bool true] 65)) := (Below.refl _ _).alloc (Nat.le_refl _) _
    have hb1 := hb0.trans (hb1'.mono hb0.size)
    obtain ⟨t0, t1, t2, t3⟩ := shape_box W v true false true 65
    have hlt1 : W.heap.size < (W.alloc (.cells #[.string v, .bool true, .bool false, .bool true] 65)).heap.size := by simp
    have r1 : (W.alloc (.cells #[.string v, .bool true, .bool false, .bool true] 65)).cell? ⟨w.heap.size, 0, none⟩ = some (.int .i64 6) := by rw [hb1'.cell (p := ⟨w.heap.size, 0, none⟩) hlt]; exact q1
    have r2 : (W.alloc (.cells #[.string v, .bool true, .bool false, .bool true] 65)).cell? ⟨w.heap.size, 1, none⟩ = some (.int .i64 x) := by rw [hb1'.cell (p := ⟨w.heap.size, 1, none⟩) hlt]; exact q2
    have r3 : (W.alloc (.cells #[.string v, .bool true, .bool false, .bool true] 65)).cell? ⟨w.heap.size, 2, none⟩ = some (.int .i64 0) := by rw [hb1'.cell (p := ⟨w.heap.size, 2, none⟩) hlt]; exact q3
    have r4 : (W.alloc (.cells #[.string v, .bool true, .bool false, .bool true] 65)).cell? ⟨w.heap.size, 3, none⟩ = some (.int .u64 z) := by rw [hb1'.cell (p := ⟨w.heap.size, 3, none⟩) hlt]; exact q4
    have hlt2 := Nat.lt_trans hlt hlt1
    go_upto_region 2 with fail
    generalize W.alloc (.cells #[.string v, .bool true, .bool false, .bool true] 65) = V at *
    clear s0 s1 s2 s3 q1 q2 q3 q4 hb1' hb0 hS0
    have hTV := hT.below hb1
    have HALL : Hid (∀ w', Below V.heap.size V w' → (w'.cell? ⟨W.heap.size, 0, none⟩ = some (.string v) ∧ w'.cell? ⟨W.heap.size, 1, none⟩ = some (.bool true) ∧ w'.cell? ⟨W.heap.size, 2, none⟩ = some (.bool false) ∧ w'.cell? ⟨W.heap.size, 3, none⟩ = some (.bool true)) ∧ (w'.cell? ⟨w.heap.size, 1, none⟩ = some (.int .i64 x) ∧ w'.cell? ⟨w.heap.size, 2, none⟩ = some (.int .i64 0) ∧ w'.cell? ⟨w.heap.size, 3, none⟩ = some (.int .u64 z)) ∧ w.heap.size < w'.heap.size ∧ W.heap.size < w'.heap.size ∧ Tabs w' ∧ Below w.heap.size w w') := fun w' hb => by
      refine ⟨⟨?_, ?_, ?_, ?_⟩, ⟨?_, ?_, ?_⟩, Nat.lt_of_lt_of_le hlt2 hb.size, Nat.lt_of_lt_of_le hlt1 hb.size, hTV.below hb, hb1.trans (hb.mono hb1.size)⟩
      · rw [hb.cell (p := ⟨W.heap.size, 0, none⟩) hlt1]; exact t0
      · rw [hb.cell (p := ⟨W.heap.size, 1, none⟩) hlt1]; exact t1
      · rw [hb.cell (p := ⟨W.heap.size, 2, none⟩) hlt1]; exact t2
      · rw [hb.cell (p := ⟨W.heap.size, 3, none⟩) hlt1]; exact t3
      · rw [hb.cell (p := ⟨w.heap.size, 1, none⟩) hlt2]; exact r2
      · rw [hb.cell (p := ⟨w.heap.size, 2, none⟩) hlt2]; exact r3
      · rw [hb.cell (p := ⟨w.heap.size, 3, none⟩) hlt2]; exact r4
    have hu0 := itb_size x (by omega) (by omega)
    obtain ⟨u0, Hu0⟩ : ∃ u, Hid (itb x = u) := ⟨_, rfl⟩
    rw [Hu0.out] at hu0
    have b0 := add_run (P := Tryd.prog) ⟨#[32]⟩ u0 (by (repeat rw [ByteArray.size_append]); omega)
    have a0 := add_run (P := Tryd.prog) (v) (⟨#[32]⟩ ++ u0) (by (repeat rw [ByteArray.size_append]); omega)
    obtain ⟨N, HN⟩ : ∃ N, Hid (nm z = N) := ⟨_, rfl⟩
    have hnz2 := hnz
    rw [HN.out] at hnz2
    have hu1 := itb_size N (by omega) (by omega)
    obtain ⟨u1, Hu1⟩ : ∃ u, Hid (itb N = u) := ⟨_, rfl⟩
    rw [Hu1.out] at hu1
    have b1 := add_run (P := Tryd.prog) ⟨#[32]⟩ u1 (by (repeat rw [ByteArray.size_append]); omega)
    have a1 := add_run (P := Tryd.prog) (v ++ (⟨#[32]⟩ ++ u0)) (⟨#[32]⟩ ++ u1) (by (repeat rw [ByteArray.size_append]); omega)
    have ae := add_run (P := Tryd.prog) (v ++ (⟨#[32]⟩ ++ u0) ++ (⟨#[32]⟩ ++ u1)) ⟨#[10]⟩ (by (repeat rw [ByteArray.size_append]); omega)
    have HA : Hid (vb ((6 : Int).toNat) ++ arg ⟨6, x, 0, z⟩ ++ ⟨#[10]⟩ = v ++ (⟨#[32]⟩ ++ u0) ++ (⟨#[32]⟩ ++ u1) ++ ⟨#[10]⟩) := by
      unfold Hid
      rw [← HV.out, ← Hu0.out, ← Hu1.out, ← HN.out]
      show vb 6 ++ (⟨#[32]⟩ ++ itb x ++ ⟨#[32]⟩ ++ itb (nm z)) ++ ⟨#[10]⟩ = _
      simp only [ByteArray.append_assoc, shw_vb]
    go_wp2_with fail
    refine (sItoa x _ (by omega) (by omega) hTV).mono ?_
    rintro e w1 ⟨rfl, hbw1⟩
    rw [Hu0.out]
    have hc0 := hbw1
    obtain ⟨⟨t00, t10, t20, t30⟩, ⟨r20, r30, r40⟩, lt0, lu0, ht0, hE0⟩ := HALL.out _ hc0
    clear hbw1
    go_wp2_with fail
    refine (fNorm z _ hz.1 hz.2).mono ?_
    rintro e wN ⟨rfl, hwN⟩
    have hwN := hwN.symm
    subst hwN
    rw [HN.out]
    go_wp2_with fail
    refine (sFormatUint N _ (by omega) (by omega) ht0).mono ?_
    rintro e w2 ⟨rfl, hbw2⟩
    rw [Hu1.out]
    have hc1 := hc0.trans (hbw2.mono hc0.size)
    obtain ⟨⟨t01, t11, t21, t31⟩, ⟨r21, r31, r41⟩, lt1, lu1, ht1, hE1⟩ := HALL.out _ hc1
    clear hbw2
    go_wp2
    go_ret
    exact ⟨by show _ = Ending.returned (.string (vb ((6 : Int).toNat) ++ arg ⟨6, x, 0, z⟩ ++ ⟨#[10]⟩)); rw [HA.out]; rfl, hE1⟩
  · simp only at p1 p2 p3 p4
    subst p4
    rcases p1 with p1 | p1 | p1
    · subst p1
      obtain ⟨v, HV⟩ : ∃ v, Hid (shw 3 = v) := ⟨_, rfl⟩
      obtain ⟨s0', s1, s2, s3⟩ := hS0.at3
      have s0 : W.cell? ⟨1, 12, none⟩ = some (.string v) := by rw [← HV.out]; exact s0'
      clear s0'
      have hvz : v.size ≤ 5 := by rw [← HV.out]; exact vb_size 3 (by omega)
      have slt := hS0.lt
      have hb1' : Below W.heap.size W (W.alloc (.cells #[.string v, .bool true, .bool true, .bool false] 65)) := (Below.refl _ _).alloc (Nat.le_refl _) _
      have hb1 := hb0.trans (hb1'.mono hb0.size)
      obtain ⟨t0, t1, t2, t3⟩ := shape_box W v true true false 65
      have hlt1 : W.heap.size < (W.alloc (.cells #[.string v, .bool true, .bool true, .bool false] 65)).heap.size := by simp
      have r1 : (W.alloc (.cells #[.string v, .bool true, .bool true, .bool false] 65)).cell? ⟨w.heap.size, 0, none⟩ = some (.int .i64 3) := by rw [hb1'.cell (p := ⟨w.heap.size, 0, none⟩) hlt]; exact q1
      have r2 : (W.alloc (.cells #[.string v, .bool true, .bool true, .bool false] 65)).cell? ⟨w.heap.size, 1, none⟩ = some (.int .i64 x) := by rw [hb1'.cell (p := ⟨w.heap.size, 1, none⟩) hlt]; exact q2
      have r3 : (W.alloc (.cells #[.string v, .bool true, .bool true, .bool false] 65)).cell? ⟨w.heap.size, 2, none⟩ = some (.int .i64 y) := by rw [hb1'.cell (p := ⟨w.heap.size, 2, none⟩) hlt]; exact q3
      have r4 : (W.alloc (.cells #[.string v, .bool true, .bool true, .bool false] 65)).cell? ⟨w.heap.size, 3, none⟩ = some (.int .u64 0) := by rw [hb1'.cell (p := ⟨w.heap.size, 3, none⟩) hlt]; exact q4
      have hlt2 := Nat.lt_trans hlt hlt1
      go_upto_region 2 with fail
      generalize W.alloc (.cells #[.string v, .bool true, .bool true, .bool false] 65) = V at *
      clear s0 s1 s2 s3 q1 q2 q3 q4 hb1' hb0 hS0
      have hTV := hT.below hb1
      have HALL : Hid (∀ w', Below V.heap.size V w' → (w'.cell? ⟨W.heap.size, 0, none⟩ = some (.string v) ∧ w'.cell? ⟨W.heap.size, 1, none⟩ = some (.bool true) ∧ w'.cell? ⟨W.heap.size, 2, none⟩ = some (.bool true) ∧ w'.cell? ⟨W.heap.size, 3, none⟩ = some (.bool false)) ∧ (w'.cell? ⟨w.heap.size, 1, none⟩ = some (.int .i64 x) ∧ w'.cell? ⟨w.heap.size, 2, none⟩ = some (.int .i64 y) ∧ w'.cell? ⟨w.heap.size, 3, none⟩ = some (.int .u64 0)) ∧ w.heap.size < w'.heap.size ∧ W.heap.size < w'.heap.size ∧ Tabs w' ∧ Below w.heap.size w w') := fun w' hb => by
        refine ⟨⟨?_, ?_, ?_, ?_⟩, ⟨?_, ?_, ?_⟩, Nat.lt_of_lt_of_le hlt2 hb.size, Nat.lt_of_lt_of_le hlt1 hb.size, hTV.below hb, hb1.trans (hb.mono hb1.size)⟩
        · rw [hb.cell (p := ⟨W.heap.size, 0, none⟩) hlt1]; exact t0
        · rw [hb.cell (p := ⟨W.heap.size, 1, none⟩) hlt1]; exact t1
        · rw [hb.cell (p := ⟨W.heap.size, 2, none⟩) hlt1]; exact t2
        · rw [hb.cell (p := ⟨W.heap.size, 3, none⟩) hlt1]; exact t3
        · rw [hb.cell (p := ⟨w.heap.size, 1, none⟩) hlt2]; exact r2
        · rw [hb.cell (p := ⟨w.heap.size, 2, none⟩) hlt2]; exact r3
        · rw [hb.cell (p := ⟨w.heap.size, 3, none⟩) hlt2]; exact r4
      have hu0 := itb_size x (by omega) (by omega)
      obtain ⟨u0, Hu0⟩ : ∃ u, Hid (itb x = u) := ⟨_, rfl⟩
      rw [Hu0.out] at hu0
      have b0 := add_run (P := Tryd.prog) ⟨#[32]⟩ u0 (by (repeat rw [ByteArray.size_append]); omega)
      have a0 := add_run (P := Tryd.prog) (v) (⟨#[32]⟩ ++ u0) (by (repeat rw [ByteArray.size_append]); omega)
      have hu1 := itb_size y (by omega) (by omega)
      obtain ⟨u1, Hu1⟩ : ∃ u, Hid (itb y = u) := ⟨_, rfl⟩
      rw [Hu1.out] at hu1
      have b1 := add_run (P := Tryd.prog) ⟨#[32]⟩ u1 (by (repeat rw [ByteArray.size_append]); omega)
      have a1 := add_run (P := Tryd.prog) (v ++ (⟨#[32]⟩ ++ u0)) (⟨#[32]⟩ ++ u1) (by (repeat rw [ByteArray.size_append]); omega)
      have ae := add_run (P := Tryd.prog) (v ++ (⟨#[32]⟩ ++ u0) ++ (⟨#[32]⟩ ++ u1)) ⟨#[10]⟩ (by (repeat rw [ByteArray.size_append]); omega)
      have HA : Hid (vb ((3 : Int).toNat) ++ arg ⟨3, x, y, 0⟩ ++ ⟨#[10]⟩ = v ++ (⟨#[32]⟩ ++ u0) ++ (⟨#[32]⟩ ++ u1) ++ ⟨#[10]⟩) := by
        unfold Hid
        rw [← HV.out, ← Hu0.out, ← Hu1.out]
        show vb 3 ++ (⟨#[32]⟩ ++ itb x ++ ⟨#[32]⟩ ++ itb y) ++ ⟨#[10]⟩ = _
        simp only [ByteArray.append_assoc, shw_vb]
      go_wp2_with fail
      refine (sItoa x _ (by omega) (by omega) hTV).mono ?_
      rintro e w1 ⟨rfl, hbw1⟩
      rw [Hu0.out]
      have hc0 := hbw1
      obtain ⟨⟨t00, t10, t20, t30⟩, ⟨r20, r30, r40⟩, lt0, lu0, ht0, hE0⟩ := HALL.out _ hc0
      clear hbw1
      go_wp2_with fail
      refine (sItoa y _ (by omega) (by omega) ht0).mono ?_
      rintro e w2 ⟨rfl, hbw2⟩
      rw [Hu1.out]
      have hc1 := hc0.trans (hbw2.mono hc0.size)
      obtain ⟨⟨t01, t11, t21, t31⟩, ⟨r21, r31, r41⟩, lt1, lu1, ht1, hE1⟩ := HALL.out _ hc1
      clear hbw2
      go_wp2
      go_ret
      exact ⟨by show _ = Ending.returned (.string (vb ((3 : Int).toNat) ++ arg ⟨3, x, y, 0⟩ ++ ⟨#[10]⟩)); rw [HA.out]; rfl, hE1⟩
    · subst p1
      obtain ⟨v, HV⟩ : ∃ v, Hid (shw 4 = v) := ⟨_, rfl⟩
      obtain ⟨s0', s1, s2, s3⟩ := hS0.at4
      have s0 : W.cell? ⟨1, 16, none⟩ = some (.string v) := by rw [← HV.out]; exact s0'
      clear s0'
      have hvz : v.size ≤ 5 := by rw [← HV.out]; exact vb_size 4 (by omega)
      have slt := hS0.lt
      have hb1' : Below W.heap.size W (W.alloc (.cells #[.string v, .bool true, .bool true, .bool false] 65)) := (Below.refl _ _).alloc (Nat.le_refl _) _
      have hb1 := hb0.trans (hb1'.mono hb0.size)
      obtain ⟨t0, t1, t2, t3⟩ := shape_box W v true true false 65
      have hlt1 : W.heap.size < (W.alloc (.cells #[.string v, .bool true, .bool true, .bool false] 65)).heap.size := by simp
      have r1 : (W.alloc (.cells #[.string v, .bool true, .bool true, .bool false] 65)).cell? ⟨w.heap.size, 0, none⟩ = some (.int .i64 4) := by rw [hb1'.cell (p := ⟨w.heap.size, 0, none⟩) hlt]; exact q1
      have r2 : (W.alloc (.cells #[.string v, .bool true, .bool true, .bool false] 65)).cell? ⟨w.heap.size, 1, none⟩ = some (.int .i64 x) := by rw [hb1'.cell (p := ⟨w.heap.size, 1, none⟩) hlt]; exact q2
      have r3 : (W.alloc (.cells #[.string v, .bool true, .bool true, .bool false] 65)).cell? ⟨w.heap.size, 2, none⟩ = some (.int .i64 y) := by rw [hb1'.cell (p := ⟨w.heap.size, 2, none⟩) hlt]; exact q3
      have r4 : (W.alloc (.cells #[.string v, .bool true, .bool true, .bool false] 65)).cell? ⟨w.heap.size, 3, none⟩ = some (.int .u64 0) := by rw [hb1'.cell (p := ⟨w.heap.size, 3, none⟩) hlt]; exact q4
      have hlt2 := Nat.lt_trans hlt hlt1
      go_upto_region 2 with fail
      generalize W.alloc (.cells #[.string v, .bool true, .bool true, .bool false] 65) = V at *
      clear s0 s1 s2 s3 q1 q2 q3 q4 hb1' hb0 hS0
      have hTV := hT.below hb1
      have HALL : Hid (∀ w', Below V.heap.size V w' → (w'.cell? ⟨W.heap.size, 0, none⟩ = some (.string v) ∧ w'.cell? ⟨W.heap.size, 1, none⟩ = some (.bool true) ∧ w'.cell? ⟨W.heap.size, 2, none⟩ = some (.bool true) ∧ w'.cell? ⟨W.heap.size, 3, none⟩ = some (.bool false)) ∧ (w'.cell? ⟨w.heap.size, 1, none⟩ = some (.int .i64 x) ∧ w'.cell? ⟨w.heap.size, 2, none⟩ = some (.int .i64 y) ∧ w'.cell? ⟨w.heap.size, 3, none⟩ = some (.int .u64 0)) ∧ w.heap.size < w'.heap.size ∧ W.heap.size < w'.heap.size ∧ Tabs w' ∧ Below w.heap.size w w') := fun w' hb => by
        refine ⟨⟨?_, ?_, ?_, ?_⟩, ⟨?_, ?_, ?_⟩, Nat.lt_of_lt_of_le hlt2 hb.size, Nat.lt_of_lt_of_le hlt1 hb.size, hTV.below hb, hb1.trans (hb.mono hb1.size)⟩
        · rw [hb.cell (p := ⟨W.heap.size, 0, none⟩) hlt1]; exact t0
        · rw [hb.cell (p := ⟨W.heap.size, 1, none⟩) hlt1]; exact t1
        · rw [hb.cell (p := ⟨W.heap.size, 2, none⟩) hlt1]; exact t2
        · rw [hb.cell (p := ⟨W.heap.size, 3, none⟩) hlt1]; exact t3
        · rw [hb.cell (p := ⟨w.heap.size, 1, none⟩) hlt2]; exact r2
        · rw [hb.cell (p := ⟨w.heap.size, 2, none⟩) hlt2]; exact r3
        · rw [hb.cell (p := ⟨w.heap.size, 3, none⟩) hlt2]; exact r4
      have hu0 := itb_size x (by omega) (by omega)
      obtain ⟨u0, Hu0⟩ : ∃ u, Hid (itb x = u) := ⟨_, rfl⟩
      rw [Hu0.out] at hu0
      have b0 := add_run (P := Tryd.prog) ⟨#[32]⟩ u0 (by (repeat rw [ByteArray.size_append]); omega)
      have a0 := add_run (P := Tryd.prog) (v) (⟨#[32]⟩ ++ u0) (by (repeat rw [ByteArray.size_append]); omega)
      have hu1 := itb_size y (by omega) (by omega)
      obtain ⟨u1, Hu1⟩ : ∃ u, Hid (itb y = u) := ⟨_, rfl⟩
      rw [Hu1.out] at hu1
      have b1 := add_run (P := Tryd.prog) ⟨#[32]⟩ u1 (by (repeat rw [ByteArray.size_append]); omega)
      have a1 := add_run (P := Tryd.prog) (v ++ (⟨#[32]⟩ ++ u0)) (⟨#[32]⟩ ++ u1) (by (repeat rw [ByteArray.size_append]); omega)
      have ae := add_run (P := Tryd.prog) (v ++ (⟨#[32]⟩ ++ u0) ++ (⟨#[32]⟩ ++ u1)) ⟨#[10]⟩ (by (repeat rw [ByteArray.size_append]); omega)
      have HA : Hid (vb ((4 : Int).toNat) ++ arg ⟨4, x, y, 0⟩ ++ ⟨#[10]⟩ = v ++ (⟨#[32]⟩ ++ u0) ++ (⟨#[32]⟩ ++ u1) ++ ⟨#[10]⟩) := by
        unfold Hid
        rw [← HV.out, ← Hu0.out, ← Hu1.out]
        show vb 4 ++ (⟨#[32]⟩ ++ itb x ++ ⟨#[32]⟩ ++ itb y) ++ ⟨#[10]⟩ = _
        simp only [ByteArray.append_assoc, shw_vb]
      go_wp2_with fail
      refine (sItoa x _ (by omega) (by omega) hTV).mono ?_
      rintro e w1 ⟨rfl, hbw1⟩
      rw [Hu0.out]
      have hc0 := hbw1
      obtain ⟨⟨t00, t10, t20, t30⟩, ⟨r20, r30, r40⟩, lt0, lu0, ht0, hE0⟩ := HALL.out _ hc0
      clear hbw1
      go_wp2_with fail
      refine (sItoa y _ (by omega) (by omega) ht0).mono ?_
      rintro e w2 ⟨rfl, hbw2⟩
      rw [Hu1.out]
      have hc1 := hc0.trans (hbw2.mono hc0.size)
      obtain ⟨⟨t01, t11, t21, t31⟩, ⟨r21, r31, r41⟩, lt1, lu1, ht1, hE1⟩ := HALL.out _ hc1
      clear hbw2
      go_wp2
      go_ret
      exact ⟨by show _ = Ending.returned (.string (vb ((4 : Int).toNat) ++ arg ⟨4, x, y, 0⟩ ++ ⟨#[10]⟩)); rw [HA.out]; rfl, hE1⟩
    · subst p1
      obtain ⟨v, HV⟩ : ∃ v, Hid (shw 5 = v) := ⟨_, rfl⟩
      obtain ⟨s0', s1, s2, s3⟩ := hS0.at5
      have s0 : W.cell? ⟨1, 20, none⟩ = some (.string v) := by rw [← HV.out]; exact s0'
      clear s0'
      have hvz : v.size ≤ 5 := by rw [← HV.out]; exact vb_size 5 (by omega)
      have slt := hS0.lt
      have hb1' : Below W.heap.size W (W.alloc (.cells #[.string v, .bool true, .bool true, .bool false] 65)) := (Below.refl _ _).alloc (Nat.le_refl _) _
      have hb1 := hb0.trans (hb1'.mono hb0.size)
      obtain ⟨t0, t1, t2, t3⟩ := shape_box W v true true false 65
      have hlt1 : W.heap.size < (W.alloc (.cells #[.string v, .bool true, .bool true, .bool false] 65)).heap.size := by simp
      have r1 : (W.alloc (.cells #[.string v, .bool true, .bool true, .bool false] 65)).cell? ⟨w.heap.size, 0, none⟩ = some (.int .i64 5) := by rw [hb1'.cell (p := ⟨w.heap.size, 0, none⟩) hlt]; exact q1
      have r2 : (W.alloc (.cells #[.string v, .bool true, .bool true, .bool false] 65)).cell? ⟨w.heap.size, 1, none⟩ = some (.int .i64 x) := by rw [hb1'.cell (p := ⟨w.heap.size, 1, none⟩) hlt]; exact q2
      have r3 : (W.alloc (.cells #[.string v, .bool true, .bool true, .bool false] 65)).cell? ⟨w.heap.size, 2, none⟩ = some (.int .i64 y) := by rw [hb1'.cell (p := ⟨w.heap.size, 2, none⟩) hlt]; exact q3
      have r4 : (W.alloc (.cells #[.string v, .bool true, .bool true, .bool false] 65)).cell? ⟨w.heap.size, 3, none⟩ = some (.int .u64 0) := by rw [hb1'.cell (p := ⟨w.heap.size, 3, none⟩) hlt]; exact q4
      have hlt2 := Nat.lt_trans hlt hlt1
      go_upto_region 2 with fail
      generalize W.alloc (.cells #[.string v, .bool true, .bool true, .bool false] 65) = V at *
      clear s0 s1 s2 s3 q1 q2 q3 q4 hb1' hb0 hS0
      have hTV := hT.below hb1
      have HALL : Hid (∀ w', Below V.heap.size V w' → (w'.cell? ⟨W.heap.size, 0, none⟩ = some (.string v) ∧ w'.cell? ⟨W.heap.size, 1, none⟩ = some (.bool true) ∧ w'.cell? ⟨W.heap.size, 2, none⟩ = some (.bool true) ∧ w'.cell? ⟨W.heap.size, 3, none⟩ = some (.bool false)) ∧ (w'.cell? ⟨w.heap.size, 1, none⟩ = some (.int .i64 x) ∧ w'.cell? ⟨w.heap.size, 2, none⟩ = some (.int .i64 y) ∧ w'.cell? ⟨w.heap.size, 3, none⟩ = some (.int .u64 0)) ∧ w.heap.size < w'.heap.size ∧ W.heap.size < w'.heap.size ∧ Tabs w' ∧ Below w.heap.size w w') := fun w' hb => by
        refine ⟨⟨?_, ?_, ?_, ?_⟩, ⟨?_, ?_, ?_⟩, Nat.lt_of_lt_of_le hlt2 hb.size, Nat.lt_of_lt_of_le hlt1 hb.size, hTV.below hb, hb1.trans (hb.mono hb1.size)⟩
        · rw [hb.cell (p := ⟨W.heap.size, 0, none⟩) hlt1]; exact t0
        · rw [hb.cell (p := ⟨W.heap.size, 1, none⟩) hlt1]; exact t1
        · rw [hb.cell (p := ⟨W.heap.size, 2, none⟩) hlt1]; exact t2
        · rw [hb.cell (p := ⟨W.heap.size, 3, none⟩) hlt1]; exact t3
        · rw [hb.cell (p := ⟨w.heap.size, 1, none⟩) hlt2]; exact r2
        · rw [hb.cell (p := ⟨w.heap.size, 2, none⟩) hlt2]; exact r3
        · rw [hb.cell (p := ⟨w.heap.size, 3, none⟩) hlt2]; exact r4
      have hu0 := itb_size x (by omega) (by omega)
      obtain ⟨u0, Hu0⟩ : ∃ u, Hid (itb x = u) := ⟨_, rfl⟩
      rw [Hu0.out] at hu0
      have b0 := add_run (P := Tryd.prog) ⟨#[32]⟩ u0 (by (repeat rw [ByteArray.size_append]); omega)
      have a0 := add_run (P := Tryd.prog) (v) (⟨#[32]⟩ ++ u0) (by (repeat rw [ByteArray.size_append]); omega)
      have hu1 := itb_size y (by omega) (by omega)
      obtain ⟨u1, Hu1⟩ : ∃ u, Hid (itb y = u) := ⟨_, rfl⟩
      rw [Hu1.out] at hu1
      have b1 := add_run (P := Tryd.prog) ⟨#[32]⟩ u1 (by (repeat rw [ByteArray.size_append]); omega)
      have a1 := add_run (P := Tryd.prog) (v ++ (⟨#[32]⟩ ++ u0)) (⟨#[32]⟩ ++ u1) (by (repeat rw [ByteArray.size_append]); omega)
      have ae := add_run (P := Tryd.prog) (v ++ (⟨#[32]⟩ ++ u0) ++ (⟨#[32]⟩ ++ u1)) ⟨#[10]⟩ (by (repeat rw [ByteArray.size_append]); omega)
      have HA : Hid (vb ((5 : Int).toNat) ++ arg ⟨5, x, y, 0⟩ ++ ⟨#[10]⟩ = v ++ (⟨#[32]⟩ ++ u0) ++ (⟨#[32]⟩ ++ u1) ++ ⟨#[10]⟩) := by
        unfold Hid
        rw [← HV.out, ← Hu0.out, ← Hu1.out]
        show vb 5 ++ (⟨#[32]⟩ ++ itb x ++ ⟨#[32]⟩ ++ itb y) ++ ⟨#[10]⟩ = _
        simp only [ByteArray.append_assoc, shw_vb]
      go_wp2_with fail
      refine (sItoa x _ (by omega) (by omega) hTV).mono ?_
      rintro e w1 ⟨rfl, hbw1⟩
      rw [Hu0.out]
      have hc0 := hbw1
      obtain ⟨⟨t00, t10, t20, t30⟩, ⟨r20, r30, r40⟩, lt0, lu0, ht0, hE0⟩ := HALL.out _ hc0
      clear hbw1
      go_wp2_with fail
      refine (sItoa y _ (by omega) (by omega) ht0).mono ?_
      rintro e w2 ⟨rfl, hbw2⟩
      rw [Hu1.out]
      have hc1 := hc0.trans (hbw2.mono hc0.size)
      obtain ⟨⟨t01, t11, t21, t31⟩, ⟨r21, r31, r41⟩, lt1, lu1, ht1, hE1⟩ := HALL.out _ hc1
      clear hbw2
      go_wp2
      go_ret
      exact ⟨by show _ = Ending.returned (.string (vb ((5 : Int).toNat) ++ arg ⟨5, x, y, 0⟩ ++ ⟨#[10]⟩)); rw [HA.out]; rfl, hE1⟩
end Go.Proofs.YtmpnaobjgknfkabDoor
