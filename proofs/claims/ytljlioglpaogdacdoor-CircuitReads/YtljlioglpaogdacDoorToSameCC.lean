/- Package circuit: Check. · croftref.SameCircuit: two circuits that are the same, numbers by P. -/
import Derived.Test.YtljlioglpaogdacDoorGRightC
import Derived.Test.YtljlioglpaogdacDoorCkDef
import Derived.Test.YtljlioglpaogdacDoorCircC
import Derived.Test.YtljlioglpaogdacDoorToTrimC
import Derived.Test.YtljlioglpaogdacDoorToEqIC
import Derived.BigQuiet
namespace Go.Proofs.YtljlioglpaogdacDoor
set_option linter.unusedVariables false
set_option maxRecDepth 100000
set_option maxHeartbeats 8000000
section
open Crm Go.RowKit
theorem cGateRightY (k x y z : Int) (i : Nat) (w : World) (h : okg i ⟨k, x, y, z⟩) (hk : -9223372036854775808 ≤ k ∧ k ≤ 9223372036854775807) (hx : -9223372036854775808 ≤ x ∧ x ≤ 9223372036854775807) (hy : -9223372036854775808 ≤ y ∧ y ≤ 9223372036854775807) (hz : 0 ≤ z ∧ z ≤ 18446744073709551615) (hS : Shp w) :
    Calls Tryd.prog 42 #[.agg #[.int .i64 k, .int .i64 x, .int .i64 y, .int .u64 z], .int .i64 i] w fun e w' => e = .returned (.bool true) ∧ Below w.heap.size w w' := by
  refine (cGateRight k x y z i w hk hx hy hz hS).mono ?_
  rintro e w' ⟨⟨_, rfl⟩ | ⟨h', _⟩, hb⟩
  · exact ⟨rfl, hb⟩
  · exact absurd h h'
theorem cGateRightN (k x y z : Int) (i : Nat) (w : World) (h : ¬ okg i ⟨k, x, y, z⟩) (hk : -9223372036854775808 ≤ k ∧ k ≤ 9223372036854775807) (hx : -9223372036854775808 ≤ x ∧ x ≤ 9223372036854775807) (hy : -9223372036854775808 ≤ y ∧ y ≤ 9223372036854775807) (hz : 0 ≤ z ∧ z ≤ 18446744073709551615) (hS : Shp w) :
    Calls Tryd.prog 42 #[.agg #[.int .i64 k, .int .i64 x, .int .i64 y, .int .u64 z], .int .i64 i] w fun e w' => e = .returned (.bool false) ∧ Below w.heap.size w w' := by
  refine (cGateRight k x y z i w hk hx hy hz hS).mono ?_
  rintro e w' ⟨⟨h', _⟩ | ⟨_, rfl⟩, hb⟩
  · exact absurd h' h
  · exact ⟨rfl, hb⟩

theorem cCheckC (ag : Option Addr) (n cg : Nat) (G : List Gt) (ao : Option Addr) (m co : Nat) (O : List Int) (w : World) (h : RdG w ag n cg G) (g : RdI w ao m co O) (hS : Shp w) :
    Calls Tryd.prog 18 #[.agg #[.slice ag n cg, .slice ao m co]] w fun e w' => ∃ r, e = .returned (.int .i64 r) ∧ Cke G O n m r ∧ Below w.heap.size w w' := by
  have hcap := h.cap
  have hmax := h.max
  have gcap := g.cap
  have gmax := g.max
  unfold maxLen at hmax gmax
  have hC0 := CBox.new w ag n cg ao m co
  have hb0 : Below w.heap.size w (w.alloc (.cells #[.slice ag n cg, .slice ao m co] 25)) := (Below.refl _ _).alloc (Nat.le_refl _) _
  obtain ⟨d0, d1⟩ := hC0.cells
  go_enter Tryd.func18, Tryd.ntmps18
  go_upto_region 1 with fail
  generalize w.alloc (.cells #[.slice ag n cg, .slice ao m co] 25) = w0 at *
  have hl0 := hC0.lt
  by_cases hn0 : n = 0
  · have HE : Hid (Cke G O n m 1) := .inl ⟨.inl hn0, rfl⟩
    have hnb : ((n : Int) == 0) = true := by rw [beq_iff_eq]; omega
    clear hn0
    go_wp2
    go_ret
    exact ⟨1, rfl, HE.out, hb0⟩
  · have hnb : ((n : Int) == 0) = false := by rw [beq_eq_false_iff_ne]; omega
    by_cases hm0 : m = 0
    · have HE : Hid (Cke G O n m 1) := .inl ⟨.inr hm0, rfl⟩
      have hmb : ((m : Int) == 0) = true := by rw [beq_iff_eq]; omega
      clear hm0 hn0
      go_wp2
      go_ret
      exact ⟨1, rfl, HE.out, hb0⟩
    · have hmb : ((m : Int) == 0) = false := by rw [beq_eq_false_iff_ne]; omega
      by_cases hn30 : 30 < n
      · have HE : Hid (Cke G O n m 2) := .inr ⟨⟨hn0, hm0⟩, .inl ⟨.inl hn30, rfl⟩⟩
        clear hm0 hn0
        go_wp2
        go_ret
        exact ⟨2, rfl, HE.out, hb0⟩
      · by_cases hm30 : 30 < m
        · have HE : Hid (Cke G O n m 2) := .inr ⟨⟨hn0, hm0⟩, .inl ⟨.inr hm30, rfl⟩⟩
          clear hm0 hn0
          go_wp2
          go_ret
          exact ⟨2, rfl, HE.out, hb0⟩
        · have HB1 : Hid (¬ (okG G n ∧ okO O n m) → Cke G O n m 1) := fun e => .inr ⟨⟨hn0, hm0⟩, .inr ⟨⟨by omega, by omega⟩, .inl ⟨e, rfl⟩⟩⟩
          have HB0 : Hid ((okG G n ∧ okO O n m) → Cke G O n m 0) := fun e => .inr ⟨⟨hn0, hm0⟩, .inr ⟨⟨by omega, by omega⟩, .inr ⟨e, rfl⟩⟩⟩
          clear hm0 hn0
          go_wp2
          go_loopw [30] (fun v wr => ∃ i : Nat, i ≤ n ∧ v = .int .i64 i ∧ Hid (okG G i) ∧ CBox wr w.heap.size ag n cg ao m co ∧ Below w.heap.size w wr) (fun v _ => n - (intOf v).toNat)
          case atStart => exact ⟨0, Nat.zero_le _, rfl, okG_zero G, hC0, hb0⟩
          case round =>
            clear hC0 hb0 d0 d1 hl0
            obtain ⟨i, hi, rfl, HK, hC, hbel⟩ := hrel
            obtain ⟨d0, d1⟩ := hC.cells
            have hl0 := hC.lt
            have hs1 := hbel.size
            by_cases hlt : i < n
            · obtain ⟨b, o, k, x, y, z, rfl, hbb, HG, hk, hx, hy, hz, c1, c2, c3, c4⟩ := (h.below hbel).one hlt
              have hbA0 : Below wr.heap.size wr (wr.alloc (.cells #[.int .i64 k, .int .i64 x, .int .i64 y, .int .u64 z] 58)) := (Below.refl _ _).alloc (Nat.le_refl _) _
              have hbA := hbel.trans (hbA0.mono hs1)
              have hCA := hC.below hbA0 hC.lt
              obtain ⟨q1, q2, q3, q4⟩ := gate_box wr k x y z 58
              have hltA : wr.heap.size < (wr.alloc (.cells #[.int .i64 k, .int .i64 x, .int .i64 y, .int .u64 z] 58)).heap.size := by simp
              go_upto_region 8 with fail
              generalize wr.alloc (.cells #[.int .i64 k, .int .i64 x, .int .i64 y, .int .u64 z] 58) = W at *
              clear c1 c2 c3 c4 hbA0 hC hbel d0 d1
              have hSA := hS.below hbA
              by_cases hok : okg i ⟨k, x, y, z⟩
              · have HN : Hid (okG G (i + 1)) := okG_succ HK.out (by rw [HG.out]; exact hok)
                have HOK : Hid (okg i ⟨k, x, y, z⟩) := hok
                clear hok HG
                go_wp2_with (first | (go_at_call 42; refine (cGateRightY _ _ _ _ i _ HOK.out hk hx hy hz hSA).mono ?_; rintro e w2 ⟨rfl, hb2⟩; have hCB := hCA.below hb2 hCA.lt; have hbB := hbA.trans (hb2.mono hbA.size); clear hCA hbA hSA hb2 q1 q2 q3 q4))
                go_roundw
                case rel => exact ⟨i + 1, by omega, by go_num, HN, hCB, hbB⟩
                case measure => simp [intOf]; omega
              · have HN : Hid (Cke G O n m 1) := HB1.out fun e' => okG_not hlt (by rw [HG.out]; exact hok) e'.1
                have HOK : Hid (¬ okg i ⟨k, x, y, z⟩) := hok
                clear hok HG
                go_wp2_with (first | (go_at_call 42; refine (cGateRightN _ _ _ _ i _ HOK.out hk hx hy hz hSA).mono ?_; rintro e w2 ⟨rfl, hb2⟩; have hbB := hbA.trans (hb2.mono hbA.size); clear hCA hbA hSA hb2 q1 q2 q3 q4))
                go_ret
                exact ⟨1, rfl, HN.out, hbB⟩
            · have hin : i = n := by omega
              subst hin
              go_wp2
              obtain ⟨wo, hwo⟩ : ∃ x, x = wr := ⟨_, rfl⟩
              subst hwo
              go_loopw [43] (fun v wr => ∃ j : Nat, j ≤ m ∧ v = .int .i64 j ∧ Hid (okO O i j) ∧ wr = wo) (fun v _ => m - (intOf v).toNat)
              case atStart => exact ⟨0, Nat.zero_le _, rfl, okO_zero O i, rfl⟩
              case round =>
                obtain ⟨j, hj, rfl, HJ, hw⟩ := hrel
                subst hw
                by_cases hltj : j < m
                · obtain ⟨b2, o2, x, rfl, hbb2, HX, hx0, hx1, c5⟩ := (g.below hbel).one hltj
                  by_cases hxr : x < 0 ∨ (i : Int) ≤ x
                  · have HxN : Hid (x < 0 ∨ (i : Int) ≤ x) := hxr
                    have HN : Hid (Cke G O i m 1) := HB1.out fun e' => okO_not hltj HX.out hxr e'.2
                    go_wp2_with (first | (go_at_call 43; refine (cAheadN _ _ _ HxN.out).mono ?_; rintro e w' ⟨rfl, hw⟩; have hw := hw.symm; subst hw))
                    go_ret
                    exact ⟨1, rfl, HN.out, hbel⟩
                  · have HxY : Hid (0 ≤ x ∧ x < (i : Int)) := ⟨by omega, by omega⟩
                    have HN : Hid (okO O i (j + 1)) := okO_succ HJ.out HX.out (by omega) (by omega)
                    go_wp2_with (first | (go_at_call 43; refine (cAheadY _ _ _ HxY.out.1 HxY.out.2).mono ?_; rintro e w' ⟨rfl, hw⟩; have hw := hw.symm; subst hw))
                    go_roundw
                    case rel => exact ⟨j + 1, by omega, by go_num, HN, by trivial⟩
                    case measure => simp [intOf]; omega
                · have hjm : j = m := by omega
                  subst hjm
                  have HN : Hid (Cke G O i j 0) := HB0.out ⟨HK.out, HJ.out⟩
                  go_wp2
                  go_ret
                  exact ⟨0, rfl, HN.out, hbel⟩
/-- Gates that are the same, numbers by P. -/
def smg (g q : Gt) : Prop := g.k = q.k ∧ g.a = q.a ∧ g.b = q.b ∧ nm g.n = nm q.n
def SmG (G Q : List Gt) (n : Nat) : Prop := ∀ i, i < n → smg (gt G i) (gt Q i)

theorem sSameGate (k x y z u : Int) (w : World) (hz0 : 0 ≤ z) (hz1 : z ≤ 18446744073709551615) (hu0 : 0 ≤ u) (hu1 : u ≤ 18446744073709551615) (he : nm z = nm u) :
    Calls Tryd.prog 25 #[.agg #[.int .i64 k, .int .i64 x, .int .i64 y, .int .u64 z], .agg #[.int .i64 k, .int .i64 x, .int .i64 y, .int .u64 u]] w fun e w' => e = .returned (.bool true) ∧ Below w.heap.size w w' := by
  have hbA : Below w.heap.size w (w.alloc (.cells #[.int .i64 k, .int .i64 x, .int .i64 y, .int .u64 z] 58)) := (Below.refl _ _).alloc (Nat.le_refl _) _
  have hbB : Below w.heap.size w ((w.alloc (.cells #[.int .i64 k, .int .i64 x, .int .i64 y, .int .u64 z] 58)).alloc (.cells #[.int .i64 k, .int .i64 x, .int .i64 y, .int .u64 u] 58)) := hbA.alloc hbA.size _
  go_enter Tryd.func25, Tryd.ntmps25
  go_wp2
  go_big_quiet ((go_at_call 26; exact Calls.quiet_of_same (rNorm _ _ (by omega) (by omega))))
  all_goals
    go_wp2
    go_ret
    exact ⟨rfl, drewN_below hbB _⟩

theorem sEqualGates (a : Option Addr) (n c : Nat) (b : Option Addr) (d : Nat) (G Q : List Gt) (w : World) (h : RdG w a n c G) (g : RdG w b n d Q) (hs : SmG G Q n) :
    Calls Tryd.prog 24 #[.slice a n c, .slice b n d, .func (.func 25) #[] #[]] w fun e w' => e = .returned (.bool true) ∧ Below w.heap.size w w' := by
  have hcap := h.cap
  have hmax := h.max
  unfold maxLen at hmax
  have HS : Hid (SmG G Q n) := hs
  clear hs
  go_enter Tryd.func24, Tryd.ntmps24
  go_wp2
  go_loopw [17] (fun i wr => ∃ k : Nat, k ≤ n ∧ i = .int .i64 k ∧ Below w.heap.size w wr) (fun i _ => n - (intOf i).toNat)
  case atStart => exact ⟨0, Nat.zero_le _, rfl, Below.refl _ _⟩
  case round =>
    obtain ⟨i, hin, rfl, hbel⟩ := hrel
    have hs1 := hbel.size
    by_cases hlt : i < n
    · obtain ⟨b1, o1, k, x, y, z, rfl, hbb, HG1, hk, hx, hy, hz, c1, c2, c3, c4⟩ := (h.below hbel).one hlt
      obtain ⟨b2, o2, k2, x2, y2, u, rfl, hbb2, HG2, _, _, _, hu, e1, e2, e3, e4⟩ := (g.below hbel).one hlt
      obtain ⟨q1, q2, q3, q4⟩ := HS.out i hlt
      rw [HG1.out, HG2.out] at q1 q2 q3 q4
      simp only at q1 q2 q3 q4
      subst q1 q2 q3
      have hbA : Below wr.heap.size wr (wr.alloc (.cells #[.int .i64 k, .int .i64 x, .int .i64 y, .int .u64 z] 58)) := (Below.refl _ _).alloc (Nat.le_refl _) _
      have e1A : (wr.alloc (.cells #[.int .i64 k, .int .i64 x, .int .i64 y, .int .u64 z] 58)).cell? ⟨b2, o2 + i * 4, none⟩ = some (.int .i64 k) := by rw [hbA.cell hbb2]; exact e1
      have e2A : (wr.alloc (.cells #[.int .i64 k, .int .i64 x, .int .i64 y, .int .u64 z] 58)).cell? ⟨b2, o2 + i * 4 + 1, none⟩ = some (.int .i64 x) := by rw [hbA.cell hbb2]; exact e2
      have e3A : (wr.alloc (.cells #[.int .i64 k, .int .i64 x, .int .i64 y, .int .u64 z] 58)).cell? ⟨b2, o2 + i * 4 + 2, none⟩ = some (.int .i64 y) := by rw [hbA.cell hbb2]; exact e3
      have e4A : (wr.alloc (.cells #[.int .i64 k, .int .i64 x, .int .i64 y, .int .u64 z] 58)).cell? ⟨b2, o2 + i * 4 + 3, none⟩ = some (.int .u64 u) := by rw [hbA.cell hbb2]; exact e4
      have hbB : Below wr.heap.size wr ((wr.alloc (.cells #[.int .i64 k, .int .i64 x, .int .i64 y, .int .u64 z] 58)).alloc (.cells #[.int .i64 k, .int .i64 x, .int .i64 y, .int .u64 u] 58)) := hbA.alloc hbA.size _
      have hbw := hbel.trans (hbB.mono hs1)
      have HQ : Hid (nm z = nm u) := q4
      clear hbA hbB HG1 HG2 q4
      go_wp2_with fail
      refine (sSameGate _ _ _ _ _ _ hz.1 hz.2 hu.1 hu.2 HQ.out).mono ?_
      rintro e w3 ⟨rfl, hb3⟩
      have hw3 := hbw.trans (hb3.mono hbw.size)
      clear hbw hb3 c1 c2 c3 c4 e1 e2 e3 e4 e1A e2A e3A e4A
      go_wp2
      go_roundw
      case rel => exact ⟨i + 1, by omega, by go_num, hw3⟩
      case measure => simp [intOf]; omega
    · have hkn : i = n := by omega
      subst hkn
      go_wp2
      go_ret
      exact ⟨rfl, hbel⟩

theorem sSameCircuit (a : Option Addr) (n c : Nat) (G : List Gt) (ao : Option Addr) (m co : Nat) (O : List Int) (b : Option Addr) (d : Nat) (Q : List Gt) (bo : Option Addr) (m2 dof : Nat) (w : World)
    (h : RdG w a n c G) (ho : RdI w ao m co O) (g : RdG w b n d Q) (go : RdI w bo m2 dof O) (hs : SmG G Q n) :
    Calls Tryd.prog 7 #[.agg #[.slice a n c, .slice ao m co], .agg #[.slice b n d, .slice bo m2 dof]] w fun e w' => e = .returned (.bool true) ∧ Below w.heap.size w w' := by
  have HS : Hid (SmG G Q n) := hs
  have hA := CBox.new w a n c ao m co
  have hbA : Below w.heap.size w (w.alloc (.cells #[.slice a n c, .slice ao m co] 25)) := (Below.refl _ _).alloc (Nat.le_refl _) _
  have hB := CBox.new (w.alloc (.cells #[.slice a n c, .slice ao m co] 25)) b n d bo m2 dof
  have hbB := (Below.refl (w.alloc (.cells #[.slice a n c, .slice ao m co] 25)).heap.size (w.alloc (.cells #[.slice a n c, .slice ao m co] 25))).alloc (Nat.le_refl _) (.cells #[.slice b n d, .slice bo m2 dof] 25)
  have hA2 := hA.below hbB hA.lt
  have hb2 := hbA.trans (hbB.mono hbA.size)
  have s1 : (w.alloc (.cells #[.slice a n c, .slice ao m co] 25)).heap.size = w.heap.size + 1 := by simp
  rw [s1] at hB
  clear hs hA hbA hbB s1
  go_enter Tryd.func7, Tryd.ntmps7
  go_wp2_with fail
  generalize (w.alloc (.cells #[.slice a n c, .slice ao m co] 25)).alloc (.cells #[.slice b n d, .slice bo m2 dof] 25) = w2 at *
  refine (zSame _ _ _ _ _ _ _ _ (ho.below hb2) (go.below hb2)).mono ?_
  rintro e w' ⟨rfl, hw⟩
  have hA3 := hA2.below hw hA2.lt
  have hB3 := hB.below hw hB.lt
  obtain ⟨d0, d1⟩ := hA3.cells
  obtain ⟨f0, f1⟩ := hB3.cells
  have hb3 := hb2.trans (hw.mono hb2.size)
  clear hA2 hB hb2 hw hA3 hB3
  go_wp2_with fail
  refine (sEqualGates _ _ _ _ _ _ _ _ (h.below hb3) (g.below hb3) HS.out).mono ?_
  rintro e w4 ⟨rfl, hb4⟩
  have hb5 := hb3.trans (hb4.mono hb3.size)
  clear hb3 hb4 d0 d1 f0 f1
  go_wp2
  go_ret
  exact ⟨rfl, hb5⟩
end
end Go.Proofs.YtljlioglpaogdacDoor
