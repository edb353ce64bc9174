/- slices.Equal of ints. · croftref.SameCircuit: two circuits that are the same, numbers by P. -/
import Derived.Test.YtmpnaobjgknfkafDoorToOpenG
import Derived.Test.YtmpnaobjgknfkafDoorToValC
import Derived.Test.YtmpnaobjgknfkafDoorToCkDef
import Derived.Test.YtmpnaobjgknfkafDoorToRefA
import Derived.BigQuiet
namespace Go.Proofs.YtmpnaobjgknfkafDoor
open Go.RowKit Crm

set_option maxRecDepth 100000 in
theorem zEqual (a : Option Addr) (n c : Nat) (xs : List Int) (b : Option Addr) (m d : Nat) (ys : List Int) (w : World) (h : RdI w a n c xs) (g : RdI w b m d ys) :
    Calls Tryd.prog 23 #[.slice a n c, .slice b m d] w fun e w' => e = .returned (.bool (xs == ys)) ∧ Below w.heap.size w w' := by
  have hm := h.max
  have hcap := h.cap
  have hlen := h.len
  have gm := g.max
  have gcap := g.cap
  have glen := g.len
  unfold maxLen at hm gm
  by_cases hnm : n = m
  · subst hnm
    go_enter Tryd.func23, Tryd.ntmps23
    go_wp2
    go_loopw [13] (fun i wr => ∃ k : Nat, k ≤ n ∧ i = .int .i64 k ∧ Hid (xs.take k = ys.take k) ∧ Below w.heap.size w wr) (fun i _ => n - (intOf i).toNat)
    case atStart => exact ⟨0, Nat.zero_le _, rfl, rfl, Below.refl _ _⟩
    case round =>
      obtain ⟨k, hk, rfl, HT, hbel⟩ := hrel
      by_cases hlt : k < n
      · obtain ⟨b1, o1, x, rfl, hb1, HX, hx0, hx1, hc1⟩ := (h.below hbel).one hlt
        obtain ⟨b2, o2, y, rfl, hb2, HY, hy0, hy1, hc2⟩ := (g.below hbel).one hlt
        by_cases hxy : x = y
        · subst hxy
          go_wp2
          go_region
          all_goals go_wp2
          all_goals
            go_roundw
            case rel => exact ⟨k + 1, by omega, by go_num, take_eq (by omega) (by omega) HT.out (HX.out.trans HY.out.symm), by first | exact hbel.drew | exact hbel.drew.drew⟩
            case measure => simp [intOf]; omega
        · have hxb : (x != y) = true := by rw [bne_iff_ne]; exact hxy
          go_wp2
          have HE : Hid ((xs == ys) = false) := by
            refine beq_eq_false_iff_ne.2 fun e => hxy ?_
            rw [← HX.out, ← HY.out, e]
          go_region
          all_goals go_wp2
          all_goals
            go_ret
            rw [HE.out]
            exact ⟨rfl, by first | exact hbel.drew | exact hbel.drew.drew⟩
      · have HE : Hid ((xs == ys) = true) := by
          refine beq_iff_eq.2 ?_
          have := HT.out
          rwa [List.take_of_length_le (by omega), List.take_of_length_le (by omega)] at this
        go_wp2
        go_ret
        rw [HE.out]
        exact ⟨rfl, hbel⟩
  · have hb : ((n : Int) != (m : Int)) = true := by rw [bne_iff_ne]; omega
    go_enter Tryd.func23, Tryd.ntmps23
    have HE : Hid ((xs == ys) = false) := beq_eq_false_iff_ne.2 fun e => hnm (by rw [← hlen, ← glen, e])
    go_wp2
    go_ret
    rw [HE.out]
    exact ⟨rfl, Below.refl _ _⟩

/-- Two slices that read the same are equal. -/
theorem zSame (a : Option Addr) (n c : Nat) (xs : List Int) (b : Option Addr) (m d : Nat) (w : World) (h : RdI w a n c xs) (g : RdI w b m d xs) :
    Calls Tryd.prog 23 #[.slice a n c, .slice b m d] w fun e w' => e = .returned (.bool true) ∧ Below w.heap.size w w' := by
  refine (zEqual _ _ _ _ _ _ _ _ _ h g).mono ?_
  rintro e w' ⟨rfl, hb⟩
  exact ⟨by rw [beq_self_eq_true], hb⟩
end Go.Proofs.YtmpnaobjgknfkafDoor

namespace Go.Proofs.YtmpnaobjgknfkafDoor
open Go.RowKit Crm

/-- Gates that are the same, numbers by P. -/
def smg (g q : Gt) : Prop := g.k = q.k ∧ g.a = q.a ∧ g.b = q.b ∧ nm g.n = nm q.n
def SmG (G Q : List Gt) (n : Nat) : Prop := ∀ i, i < n → smg (gt G i) (gt Q i)

set_option maxRecDepth 100000 in
set_option maxHeartbeats 2000000 in
theorem sSameGate (k x y z u : Int) (w : World) (hz0 : 0 ≤ z) (hz1 : z ≤ 18446744073709551615) (hu0 : 0 ≤ u) (hu1 : u ≤ 18446744073709551615) (he : nm z = nm u) :
    Calls Tryd.prog 25 #[.agg #[.int .i64 k, .int .i64 x, .int .i64 y, .int .u64 z], .agg #[.int .i64 k, .int .i64 x, .int .i64 y, .int .u64 u]] w fun e w' => e = .returned (.bool true) ∧ Below w.heap.size w w' := by
  have hbA : Below w.heap.size w (w.alloc (.cells #[.int .i64 k, .int .i64 x, .int .i64 y, .int .u64 z] 43)) := (Below.refl _ _).alloc (Nat.le_refl _) _
  have hbB : Below w.heap.size w ((w.alloc (.cells #[.int .i64 k, .int .i64 x, .int .i64 y, .int .u64 z] 43)).alloc (.cells #[.int .i64 k, .int .i64 x, .int .i64 y, .int .u64 u] 43)) := hbA.alloc hbA.size _
  go_enter Tryd.func25, Tryd.ntmps25
  go_wp2
  go_big_quiet ((go_at_call 26; exact Calls.quiet_of_same (rNorm _ _ (by omega) (by omega))))
  all_goals
    go_wp2
    go_ret
    exact ⟨rfl, drewN_below hbB _⟩

set_option maxRecDepth 100000 in
set_option maxHeartbeats 2000000 in
theorem sEqualGates (a : Option Addr) (n c : Nat) (b : Option Addr) (d : Nat) (G Q : List Gt) (w : World) (h : RdG w a n c G) (g : RdG w b n d Q) (hs : SmG G Q n) :
    Calls Tryd.prog 24 #[.slice a n c, .slice b n d, .func (.func 25) #[] #[]] w fun e w' => e = .returned (.bool true) ∧ Below w.heap.size w w' := by
  have hcap := h.cap
  have hmax := h.max
  unfold maxLen at hmax
  have HS : Hid (SmG G Q n) := hs
  clear hs
  go_enter Tryd.func24, Tryd.ntmps24
  go_wp2
  go_loopw [17] (fun i wr => ∃ k : Nat, k ≤ n ∧ i = .int .i64 k ∧ Below w.heap.size w wr) (fun i _ => n - (intOf i).toNat)
  case atStart => exact ⟨0, Nat.zero_le _, rfl, Below.refl _ _⟩
  case round =>
    obtain ⟨i, hin, rfl, hbel⟩ := hrel
    have hs1 := hbel.size
    by_cases hlt : i < n
    · obtain ⟨b1, o1, k, x, y, z, rfl, hbb, HG1, hk, hx, hy, hz, c1, c2, c3, c4⟩ := (h.below hbel).one hlt
      obtain ⟨b2, o2, k2, x2, y2, u, rfl, hbb2, HG2, _, _, _, hu, e1, e2, e3, e4⟩ := (g.below hbel).one hlt
      obtain ⟨q1, q2, q3, q4⟩ := HS.out i hlt
      rw [HG1.out, HG2.out] at q1 q2 q3 q4
      simp only at q1 q2 q3 q4
      subst q1 q2 q3
      have hbA : Below wr.heap.size wr (wr.alloc (.cells #[.int .i64 k, .int .i64 x, .int .i64 y, .int .u64 z] 43)) := (Below.refl _ _).alloc (Nat.le_refl _) _
      have e1A : (wr.alloc (.cells #[.int .i64 k, .int .i64 x, .int .i64 y, .int .u64 z] 43)).cell? ⟨b2, o2 + i * 4, none⟩ = some (.int .i64 k) := by rw [hbA.cell hbb2]; exact e1
      have e2A : (wr.alloc (.cells #[.int .i64 k, .int .i64 x, .int .i64 y, .int .u64 z] 43)).cell? ⟨b2, o2 + i * 4 + 1, none⟩ = some (.int .i64 x) := by rw [hbA.cell hbb2]; exact e2
      have e3A : (wr.alloc (.cells #[.int .i64 k, .int .i64 x, .int .i64 y, .int .u64 z] 43)).cell? ⟨b2, o2 + i * 4 + 2, none⟩ = some (.int .i64 y) := by rw [hbA.cell hbb2]; exact e3
      have e4A : (wr.alloc (.cells #[.int .i64 k, .int .i64 x, .int .i64 y, .int .u64 z] 43)).cell? ⟨b2, o2 + i * 4 + 3, none⟩ = some (.int .u64 u) := by rw [hbA.cell hbb2]; exact e4
      have hbB : Below wr.heap.size wr ((wr.alloc (.cells #[.int .i64 k, .int .i64 x, .int .i64 y, .int .u64 z] 43)).alloc (.cells #[.int .i64 k, .int .i64 x, .int .i64 y, .int .u64 u] 43)) := hbA.alloc hbA.size _
      have hbw := hbel.trans (hbB.mono hs1)
      have HQ : Hid (nm z = nm u) := q4
      clear hbA hbB HG1 HG2 q4
      go_wp2_with fail
      refine (sSameGate _ _ _ _ _ _ hz.1 hz.2 hu.1 hu.2 HQ.out).mono ?_
      rintro e w3 ⟨rfl, hb3⟩
      have hw3 := hbw.trans (hb3.mono hbw.size)
      clear hbw hb3 c1 c2 c3 c4 e1 e2 e3 e4 e1A e2A e3A e4A
      go_wp2
      go_roundw
      case rel => exact ⟨i + 1, by omega, by go_num, hw3⟩
      case measure => simp [intOf]; omega
    · have hkn : i = n := by omega
      subst hkn
      go_wp2
      go_ret
      exact ⟨rfl, hbel⟩

set_option maxRecDepth 100000 in
theorem sSameCircuit (a : Option Addr) (n c : Nat) (G : List Gt) (ao : Option Addr) (m co : Nat) (O : List Int) (b : Option Addr) (d : Nat) (Q : List Gt) (bo : Option Addr) (m2 dof : Nat) (w : World)
    (h : RdG w a n c G) (ho : RdI w ao m co O) (g : RdG w b n d Q) (go : RdI w bo m2 dof O) (hs : SmG G Q n) :
    Calls Tryd.prog 8 #[.agg #[.slice a n c, .slice ao m co], .agg #[.slice b n d, .slice bo m2 dof]] w fun e w' => e = .returned (.bool true) ∧ Below w.heap.size w w' := by
  have HS : Hid (SmG G Q n) := hs
  have hA := CBox.new w a n c ao m co
  have hbA : Below w.heap.size w (w.alloc (.cells #[.slice a n c, .slice ao m co] 25)) := (Below.refl _ _).alloc (Nat.le_refl _) _
  have hB := CBox.new (w.alloc (.cells #[.slice a n c, .slice ao m co] 25)) b n d bo m2 dof
  have hbB := (Below.refl (w.alloc (.cells #[.slice a n c, .slice ao m co] 25)).heap.size (w.alloc (.cells #[.slice a n c, .slice ao m co] 25))).alloc (Nat.le_refl _) (.cells #[.slice b n d, .slice bo m2 dof] 25)
  have hA2 := hA.below hbB hA.lt
  have hb2 := hbA.trans (hbB.mono hbA.size)
  have s1 : (w.alloc (.cells #[.slice a n c, .slice ao m co] 25)).heap.size = w.heap.size + 1 := by simp
  rw [s1] at hB
  clear hs hA hbA hbB s1
  go_enter Tryd.func8, Tryd.ntmps8
  go_wp2_with fail
  generalize (w.alloc (.cells #[.slice a n c, .slice ao m co] 25)).alloc (.cells #[.slice b n d, .slice bo m2 dof] 25) = w2 at *
  refine (zSame _ _ _ _ _ _ _ _ (ho.below hb2) (go.below hb2)).mono ?_
  rintro e w' ⟨rfl, hw⟩
  have hA3 := hA2.below hw hA2.lt
  have hB3 := hB.below hw hB.lt
  obtain ⟨d0, d1⟩ := hA3.cells
  obtain ⟨f0, f1⟩ := hB3.cells
  have hb3 := hb2.trans (hw.mono hb2.size)
  clear hA2 hB hb2 hw hA3 hB3
  go_wp2_with fail
  refine (sEqualGates _ _ _ _ _ _ _ _ (h.below hb3) (g.below hb3) HS.out).mono ?_
  rintro e w4 ⟨rfl, hb4⟩
  have hb5 := hb3.trans (hb4.mono hb3.size)
  clear hb3 hb4 d0 d1 f0 f1
  go_wp2
  go_ret
  exact ⟨rfl, hb5⟩
end Go.Proofs.YtmpnaobjgknfkafDoor
