/- croftref.SameCircuit: two circuits that are the same, numbers by P. · The walk of croftlaw.CircuitReads. -/
import Derived.Test.YtmpnaobjgknfkacDoorToCktP
import Derived.Test.YtmpnaobjgknfkacDoorToCircC
import Derived.Test.YtmpnaobjgknfkacDoorToRefPolyC
import Derived.Test.YtmpnaobjgknfkacDoorToEqIC
import Derived.BigQuiet
import Derived.Test.YtmpnaobjgknfkacDoorToShpM
namespace Go.Proofs.YtmpnaobjgknfkacDoor
open Go.RowKit Crm

/-- Gates that are the same, numbers by P. -/
def smg (g q : Gt) : Prop := g.k = q.k ∧ g.a = q.a ∧ g.b = q.b ∧ nm g.n = nm q.n
def SmG (G Q : List Gt) (n : Nat) : Prop := ∀ i, i < n → smg (gt G i) (gt Q i)

set_option maxRecDepth 100000 in
set_option maxHeartbeats 2000000 in
theorem sSameGate (k x y z u : Int) (w : World) (hz0 : 0 ≤ z) (hz1 : z ≤ 18446744073709551615) (hu0 : 0 ≤ u) (hu1 : u ≤ 18446744073709551615) (he : nm z = nm u) :
    Calls Tryd.prog 16 #[.agg #[.int .i64 k, .int .i64 x, .int .i64 y, .int .u64 z], .agg #[.int .i64 k, .int .i64 x, .int .i64 y, .int .u64 u]] w fun e w' => e = .returned (.bool true) ∧ Below w.heap.size w w' := by
  have hbA : Below w.heap.size w (w.alloc (.cells #[.int .i64 k, .int .i64 x, .int .i64 y, .int .u64 z] 44)) := (Below.refl _ _).alloc (Nat.le_refl _) _
  have hbB : Below w.heap.size w ((w.alloc (.cells #[.int .i64 k, .int .i64 x, .int .i64 y, .int .u64 z] 44)).alloc (.cells #[.int .i64 k, .int .i64 x, .int .i64 y, .int .u64 u] 44)) := hbA.alloc hbA.size _
  go_enter Tryd.func16, Tryd.ntmps16
  go_wp2
  go_big_quiet ((go_at_call 17; exact Calls.quiet_of_same (rNorm _ _ (by omega) (by omega))))
  all_goals
    go_wp2
    go_ret
    exact ⟨rfl, drewN_below hbB _⟩

set_option maxRecDepth 100000 in
set_option maxHeartbeats 2000000 in
theorem sEqualGates (a : Option Addr) (n c : Nat) (b : Option Addr) (d : Nat) (G Q : List Gt) (w : World) (h : RdG w a n c G) (g : RdG w b n d Q) (hs : SmG G Q n) :
    Calls Tryd.prog 15 #[.slice a n c, .slice b n d, .func (.func 16) #[] #[]] w fun e w' => e = .returned (.bool true) ∧ Below w.heap.size w w' := by
  have hcap := h.cap
  have hmax := h.max
  unfold maxLen at hmax
  have HS : Hid (SmG G Q n) := hs
  clear hs
  go_enter Tryd.func15, Tryd.ntmps15
  go_wp2
  go_loopw [17] (fun i wr => ∃ k : Nat, k ≤ n ∧ i = .int .i64 k ∧ Below w.heap.size w wr) (fun i _ => n - (intOf i).toNat)
  case atStart => exact ⟨0, Nat.zero_le _, rfl, Below.refl _ _⟩
  case round =>
    obtain ⟨i, hin, rfl, hbel⟩ := hrel
    have hs1 := hbel.size
    by_cases hlt : i < n
    · obtain ⟨b1, o1, k, x, y, z, rfl, hbb, HG1, hk, hx, hy, hz, c1, c2, c3, c4⟩ := (h.below hbel).one hlt
      obtain ⟨b2, o2, k2, x2, y2, u, rfl, hbb2, HG2, _, _, _, hu, e1, e2, e3, e4⟩ := (g.below hbel).one hlt
      obtain ⟨q1, q2, q3, q4⟩ := HS.out i hlt
      rw [HG1.out, HG2.out] at q1 q2 q3 q4
      simp only at q1 q2 q3 q4
      subst q1 q2 q3
      have hbA : Below wr.heap.size wr (wr.alloc (.cells #[.int .i64 k, .int .i64 x, .int .i64 y, .int .u64 z] 44)) := (Below.refl _ _).alloc (Nat.le_refl _) _
      have e1A : (wr.alloc (.cells #[.int .i64 k, .int .i64 x, .int .i64 y, .int .u64 z] 44)).cell? ⟨b2, o2 + i * 4, none⟩ = some (.int .i64 k) := by rw [hbA.cell hbb2]; exact e1
      have e2A : (wr.alloc (.cells #[.int .i64 k, .int .i64 x, .int .i64 y, .int .u64 z] 44)).cell? ⟨b2, o2 + i * 4 + 1, none⟩ = some (.int .i64 x) := by rw [hbA.cell hbb2]; exact e2
      have e3A : (wr.alloc (.cells #[.int .i64 k, .int .i64 x, .int .i64 y, .int .u64 z] 44)).cell? ⟨b2, o2 + i * 4 + 2, none⟩ = some (.int .i64 y) := by rw [hbA.cell hbb2]; exact e3
      have e4A : (wr.alloc (.cells #[.int .i64 k, .int .i64 x, .int .i64 y, .int .u64 z] 44)).cell? ⟨b2, o2 + i * 4 + 3, none⟩ = some (.int .u64 u) := by rw [hbA.cell hbb2]; exact e4
      have hbB : Below wr.heap.size wr ((wr.alloc (.cells #[.int .i64 k, .int .i64 x, .int .i64 y, .int .u64 z] 44)).alloc (.cells #[.int .i64 k, .int .i64 x, .int .i64 y, .int .u64 u] 44)) := hbA.alloc hbA.size _
      have hbw := hbel.trans (hbB.mono hs1)
      have HQ : Hid (nm z = nm u) := q4
      clear hbA hbB HG1 HG2 q4
      go_wp2_with fail
      refine (sSameGate _ _ _ _ _ _ hz.1 hz.2 hu.1 hu.2 HQ.out).mono ?_
      rintro e w3 ⟨rfl, hb3⟩
      have hw3 := hbw.trans (hb3.mono hbw.size)
      clear hbw hb3 c1 c2 c3 c4 e1 e2 e3 e4 e1A e2A e3A e4A
      go_wp2
      go_roundw
      case rel => exact ⟨i + 1, by omega, by go_num, hw3⟩
      case measure => simp [intOf]; omega
    · have hkn : i = n := by omega
      subst hkn
      go_wp2
      go_ret
      exact ⟨rfl, hbel⟩

set_option maxRecDepth 100000 in
theorem sSameCircuit (a : Option Addr) (n c : Nat) (G : List Gt) (ao : Option Addr) (m co : Nat) (O : List Int) (b : Option Addr) (d : Nat) (Q : List Gt) (bo : Option Addr) (m2 dof : Nat) (w : World)
    (h : RdG w a n c G) (ho : RdI w ao m co O) (g : RdG w b n d Q) (go : RdI w bo m2 dof O) (hs : SmG G Q n) :
    Calls Tryd.prog 6 #[.agg #[.slice a n c, .slice ao m co], .agg #[.slice b n d, .slice bo m2 dof]] w fun e w' => e = .returned (.bool true) ∧ Below w.heap.size w w' := by
  have HS : Hid (SmG G Q n) := hs
  have hA := CBox.new w a n c ao m co
  have hbA : Below w.heap.size w (w.alloc (.cells #[.slice a n c, .slice ao m co] 25)) := (Below.refl _ _).alloc (Nat.le_refl _) _
  have hB := CBox.new (w.alloc (.cells #[.slice a n c, .slice ao m co] 25)) b n d bo m2 dof
  have hbB := (Below.refl (w.alloc (.cells #[.slice a n c, .slice ao m co] 25)).heap.size (w.alloc (.cells #[.slice a n c, .slice ao m co] 25))).alloc (Nat.le_refl _) (.cells #[.slice b n d, .slice bo m2 dof] 25)
  have hA2 := hA.below hbB hA.lt
  have hb2 := hbA.trans (hbB.mono hbA.size)
  have s1 : (w.alloc (.cells #[.slice a n c, .slice ao m co] 25)).heap.size = w.heap.size + 1 := by simp
  rw [s1] at hB
  clear hs hA hbA hbB s1
  go_enter Tryd.func6, Tryd.ntmps6
  go_wp2_with fail
  generalize (w.alloc (.cells #[.slice a n c, .slice ao m co] 25)).alloc (.cells #[.slice b n d, .slice bo m2 dof] 25) = w2 at *
  refine (zSame _ _ _ _ _ _ _ _ (ho.below hb2) (go.below hb2)).mono ?_
  rintro e w' ⟨rfl, hw⟩
  have hA3 := hA2.below hw hA2.lt
  have hB3 := hB.below hw hB.lt
  obtain ⟨d0, d1⟩ := hA3.cells
  obtain ⟨f0, f1⟩ := hB3.cells
  have hb3 := hb2.trans (hw.mono hb2.size)
  clear hA2 hB hb2 hw hA3 hB3
  go_wp2_with fail
  refine (sEqualGates _ _ _ _ _ _ _ _ (h.below hb3) (g.below hb3) HS.out).mono ?_
  rintro e w4 ⟨rfl, hb4⟩
  have hb5 := hb3.trans (hb4.mono hb3.size)
  clear hb3 hb4 d0 d1 f0 f1
  go_wp2
  go_ret
  exact ⟨rfl, hb5⟩
end Go.Proofs.YtmpnaobjgknfkacDoor

namespace Go.Proofs.YtmpnaobjgknfkacDoor
open Go.RowKit Crm

theorem smg_map (G : List Gt) (n : Nat) : SmG (G.map nmg) G n := fun i _ => by
  rw [gt_map]
  exact ⟨rfl, rfl, rfl, nm_nm _⟩

set_option maxRecDepth 100000 in
set_option maxHeartbeats 1000000 in
theorem circuitReadsW (s : ByteArray) (w : World) (hs : s.size ≤ maxLen) (hV : Vb w) (hS : Shp w) :
    Calls Tryd.prog 3 #[.string s] w fun e w' => e = .returned (.bool true) ∧ Below w.heap.size w w' := by
  unfold maxLen at hs
  go_enter Tryd.func3, Tryd.ntmps3
  go_wp2_with fail
  refine (cParse s w (by omega) hS).mono ?_
  rintro e w1 ⟨ag, cg, ao, co, at_, r, G, O, rfl, hP, ho, hi, hb1⟩
  have HP : Hid (Par s G O at_ r) := hP
  obtain ⟨b1, b2⟩ := hP.gbd
  have hG1 := RdG.ownA ho (gcs_len4 _) (gbd_nm b1)
  have hI1 := RdI.ownA hi b2
  have hbA : Below w1.heap.size w1 (w1.alloc (.cells #[.slice ag G.length cg, .slice ao O.length co] 25)) := (Below.refl _ _).alloc (Nat.le_refl _) _
  have hcA := CBox.new w1 ag G.length cg ao O.length co
  clear hP ho hi b1 b2
  go_upto_region 2 with fail
  generalize w1.alloc (.cells #[.slice ag G.length cg, .slice ao O.length co] 25) = wA at *
  have hbwA := hb1.trans (hbA.mono hb1.size)
  have hG2 := hG1.below hbA
  have hI2 := hI1.below hbA
  clear hG1 hI1 hbA hb1
  go_wp2_with fail
  refine (rRead s wA (by omega) (hV.below hbwA)).mono ?_
  rintro e w2 ⟨ag', cg', ao', co', at', r', G', O', rfl, hP', ho', hi', hb2⟩
  obtain ⟨rfl, rfl, rfl, rfl⟩ := hP'.one HP.out
  obtain ⟨b1, b2⟩ := hP'.gbd
  have hrb := hP'.bd
  have hG3 := RdG.ownA ho' rfl b1
  have hI3 := RdI.ownA hi' b2
  have hG2' := hG2.below hb2
  have hI2' := hI2.below hb2
  have hcA2 := hcA.below hb2 hcA.lt
  have hbw2 := hbwA.trans (hb2.mono hbwA.size)
  have hbB : Below w2.heap.size w2 (w2.alloc (.cells #[.slice ag' G'.length cg', .slice ao' O'.length co'] 25)) := (Below.refl _ _).alloc (Nat.le_refl _) _
  have hcB := CBox.new w2 ag' G'.length cg' ao' O'.length co'
  clear hP' ho' hi' b1 b2 hG2 hI2 hcA hbwA hb2 HP
  go_upto_region 3 with fail
  generalize w2.alloc (.cells #[.slice ag' G'.length cg', .slice ao' O'.length co'] 25) = wB at *
  have hG4 := hG3.below hbB
  have hI4 := hI3.below hbB
  have hG5 := hG2'.below hbB
  have hI5 := hI2'.below hbB
  have hcA3 := hcA2.below hbB hcA2.lt
  have hbwB := hbw2.trans (hbB.mono hbw2.size)
  obtain ⟨d0, d1⟩ := hcA3.cells
  obtain ⟨k0, k1⟩ := hcB.cells
  have l0 := hcA3.lt
  have l1 := hcB.lt
  clear hG3 hI3 hG2' hI2' hcA2 hbw2 hbB hcA3 hcB
  go_wp2_with fail
  refine (sSameCircuit _ _ _ _ _ _ _ _ _ _ _ _ _ _ _ hG5 hI5 hG4 hI4 (smg_map _ _)).mono ?_
  rintro e w3 ⟨rfl, hb3⟩
  have hbw3 := hbwB.trans (hb3.mono hbwB.size)
  clear hG4 hI4 hG5 hI5 hbwB hb3
  go_wp2
  go_ret
  exact ⟨rfl, hbw3⟩
end Go.Proofs.YtmpnaobjgknfkacDoor
