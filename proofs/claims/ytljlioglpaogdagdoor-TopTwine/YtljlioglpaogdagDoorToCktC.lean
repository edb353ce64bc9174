/- Package circuit: Check. · Package circuit: Inputs, reckon, Run. -/
import Derived.Test.YtljlioglpaogdagDoorToGRightC
import Derived.Test.YtljlioglpaogdagDoorToTMeetM
import Derived.Test.YtljlioglpaogdagDoorToSubC
import Derived.Test.YtljlioglpaogdagDoorToOpenC
import Derived.Test.YtljlioglpaogdagDoorToCheckC
import Derived.Deep.RegionWith
namespace Go.Proofs.YtljlioglpaogdagDoor
set_option linter.unusedVariables false
set_option maxRecDepth 100000
set_option maxHeartbeats 8000000
section
open Crm Go.RowKit
theorem cGateRightY (k x y z : Int) (i : Nat) (w : World) (h : okg i ⟨k, x, y, z⟩) (hk : -9223372036854775808 ≤ k ∧ k ≤ 9223372036854775807) (hx : -9223372036854775808 ≤ x ∧ x ≤ 9223372036854775807) (hy : -9223372036854775808 ≤ y ∧ y ≤ 9223372036854775807) (hz : 0 ≤ z ∧ z ≤ 18446744073709551615) (hS : Shp w) :
    Calls Tryd.prog 89 #[.agg #[.int .i64 k, .int .i64 x, .int .i64 y, .int .u64 z], .int .i64 i] w fun e w' => e = .returned (.bool true) ∧ Below w.heap.size w w' := by
  refine (cGateRight k x y z i w hk hx hy hz hS).mono ?_
  rintro e w' ⟨⟨_, rfl⟩ | ⟨h', _⟩, hb⟩
  · exact ⟨rfl, hb⟩
  · exact absurd h h'
theorem cGateRightN (k x y z : Int) (i : Nat) (w : World) (h : ¬ okg i ⟨k, x, y, z⟩) (hk : -9223372036854775808 ≤ k ∧ k ≤ 9223372036854775807) (hx : -9223372036854775808 ≤ x ∧ x ≤ 9223372036854775807) (hy : -9223372036854775808 ≤ y ∧ y ≤ 9223372036854775807) (hz : 0 ≤ z ∧ z ≤ 18446744073709551615) (hS : Shp w) :
    Calls Tryd.prog 89 #[.agg #[.int .i64 k, .int .i64 x, .int .i64 y, .int .u64 z], .int .i64 i] w fun e w' => e = .returned (.bool false) ∧ Below w.heap.size w w' := by
  refine (cGateRight k x y z i w hk hx hy hz hS).mono ?_
  rintro e w' ⟨⟨h', _⟩ | ⟨_, rfl⟩, hb⟩
  · exact absurd h' h
  · exact ⟨rfl, hb⟩

theorem cCheckC (ag : Option Addr) (n cg : Nat) (G : List Gt) (ao : Option Addr) (m co : Nat) (O : List Int) (w : World) (h : RdG w ag n cg G) (g : RdI w ao m co O) (hS : Shp w) :
    Calls Tryd.prog 64 #[.agg #[.slice ag n cg, .slice ao m co]] w fun e w' => ∃ r, e = .returned (.int .i64 r) ∧ Cke G O n m r ∧ Below w.heap.size w w' := by
  have hcap := h.cap
  have hmax := h.max
  have gcap := g.cap
  have gmax := g.max
  unfold maxLen at hmax gmax
  have hC0 := CBox.new w ag n cg ao m co
  have hb0 : Below w.heap.size w (w.alloc (.cells #[.slice ag n cg, .slice ao m co] 26)) := (Below.refl _ _).alloc (Nat.le_refl _) _
  obtain ⟨d0, d1⟩ := hC0.cells
  go_enter Tryd.func64, Tryd.ntmps64
  go_upto_region 1 with fail
  generalize w.alloc (.cells #[.slice ag n cg, .slice ao m co] 26) = w0 at *
  have hl0 := hC0.lt
  by_cases hn0 : n = 0
  · have HE : Hid (Cke G O n m 1) := .inl ⟨.inl hn0, rfl⟩
    have hnb : ((n : Int) == 0) = true := by rw [beq_iff_eq]; omega
    clear hn0
    go_wp2
    go_ret
    exact ⟨1, rfl, HE.out, hb0⟩
  · have hnb : ((n : Int) == 0) = false := by rw [beq_eq_false_iff_ne]; omega
    by_cases hm0 : m = 0
    · have HE : Hid (Cke G O n m 1) := .inl ⟨.inr hm0, rfl⟩
      have hmb : ((m : Int) == 0) = true := by rw [beq_iff_eq]; omega
      clear hm0 hn0
      go_wp2
      go_ret
      exact ⟨1, rfl, HE.out, hb0⟩
    · have hmb : ((m : Int) == 0) = false := by rw [beq_eq_false_iff_ne]; omega
      by_cases hn30 : 30 < n
      · have HE : Hid (Cke G O n m 2) := .inr ⟨⟨hn0, hm0⟩, .inl ⟨.inl hn30, rfl⟩⟩
        clear hm0 hn0
        go_wp2
        go_ret
        exact ⟨2, rfl, HE.out, hb0⟩
      · by_cases hm30 : 30 < m
        · have HE : Hid (Cke G O n m 2) := .inr ⟨⟨hn0, hm0⟩, .inl ⟨.inr hm30, rfl⟩⟩
          clear hm0 hn0
          go_wp2
          go_ret
          exact ⟨2, rfl, HE.out, hb0⟩
        · have HB1 : Hid (¬ (okG G n ∧ okO O n m) → Cke G O n m 1) := fun e => .inr ⟨⟨hn0, hm0⟩, .inr ⟨⟨by omega, by omega⟩, .inl ⟨e, rfl⟩⟩⟩
          have HB0 : Hid ((okG G n ∧ okO O n m) → Cke G O n m 0) := fun e => .inr ⟨⟨hn0, hm0⟩, .inr ⟨⟨by omega, by omega⟩, .inr ⟨e, rfl⟩⟩⟩
          clear hm0 hn0
          go_wp2
          go_loopw [30] (fun v wr => ∃ i : Nat, i ≤ n ∧ v = .int .i64 i ∧ Hid (okG G i) ∧ CBox wr w.heap.size ag n cg ao m co ∧ Below w.heap.size w wr) (fun v _ => n - (intOf v).toNat)
          case atStart => exact ⟨0, Nat.zero_le _, rfl, okG_zero G, hC0, hb0⟩
          case round =>
            clear hC0 hb0 d0 d1 hl0
            obtain ⟨i, hi, rfl, HK, hC, hbel⟩ := hrel
            obtain ⟨d0, d1⟩ := hC.cells
            have hl0 := hC.lt
            have hs1 := hbel.size
            by_cases hlt : i < n
            · obtain ⟨b, o, k, x, y, z, rfl, hbb, HG, hk, hx, hy, hz, c1, c2, c3, c4⟩ := (h.below hbel).one hlt
              have hbA0 : Below wr.heap.size wr (wr.alloc (.cells #[.int .i64 k, .int .i64 x, .int .i64 y, .int .u64 z] 61)) := (Below.refl _ _).alloc (Nat.le_refl _) _
              have hbA := hbel.trans (hbA0.mono hs1)
              have hCA := hC.below hbA0 hC.lt
              obtain ⟨q1, q2, q3, q4⟩ := gate_box wr k x y z 61
              have hltA : wr.heap.size < (wr.alloc (.cells #[.int .i64 k, .int .i64 x, .int .i64 y, .int .u64 z] 61)).heap.size := by simp
              go_upto_region 8 with fail
              generalize wr.alloc (.cells #[.int .i64 k, .int .i64 x, .int .i64 y, .int .u64 z] 61) = W at *
              clear c1 c2 c3 c4 hbA0 hC hbel d0 d1
              have hSA := hS.below hbA
              by_cases hok : okg i ⟨k, x, y, z⟩
              · have HN : Hid (okG G (i + 1)) := okG_succ HK.out (by rw [HG.out]; exact hok)
                have HOK : Hid (okg i ⟨k, x, y, z⟩) := hok
                clear hok HG
                go_wp2_with (first | (go_at_call 89; refine (cGateRightY _ _ _ _ i _ HOK.out hk hx hy hz hSA).mono ?_; rintro e w2 ⟨rfl, hb2⟩; have hCB := hCA.below hb2 hCA.lt; have hbB := hbA.trans (hb2.mono hbA.size); clear hCA hbA hSA hb2 q1 q2 q3 q4))
                go_roundw
                case rel => exact ⟨i + 1, by omega, by go_num, HN, hCB, hbB⟩
                case measure => simp [intOf]; omega
              · have HN : Hid (Cke G O n m 1) := HB1.out fun e' => okG_not hlt (by rw [HG.out]; exact hok) e'.1
                have HOK : Hid (¬ okg i ⟨k, x, y, z⟩) := hok
                clear hok HG
                go_wp2_with (first | (go_at_call 89; refine (cGateRightN _ _ _ _ i _ HOK.out hk hx hy hz hSA).mono ?_; rintro e w2 ⟨rfl, hb2⟩; have hbB := hbA.trans (hb2.mono hbA.size); clear hCA hbA hSA hb2 q1 q2 q3 q4))
                go_ret
                exact ⟨1, rfl, HN.out, hbB⟩
            · have hin : i = n := by omega
              subst hin
              go_wp2
              obtain ⟨wo, hwo⟩ : ∃ x, x = wr := ⟨_, rfl⟩
              subst hwo
              go_loopw [43] (fun v wr => ∃ j : Nat, j ≤ m ∧ v = .int .i64 j ∧ Hid (okO O i j) ∧ wr = wo) (fun v _ => m - (intOf v).toNat)
              case atStart => exact ⟨0, Nat.zero_le _, rfl, okO_zero O i, rfl⟩
              case round =>
                obtain ⟨j, hj, rfl, HJ, hw⟩ := hrel
                subst hw
                by_cases hltj : j < m
                · obtain ⟨b2, o2, x, rfl, hbb2, HX, hx0, hx1, c5⟩ := (g.below hbel).one hltj
                  by_cases hxr : x < 0 ∨ (i : Int) ≤ x
                  · have HxN : Hid (x < 0 ∨ (i : Int) ≤ x) := hxr
                    have HN : Hid (Cke G O i m 1) := HB1.out fun e' => okO_not hltj HX.out hxr e'.2
                    go_wp2_with (first | (go_at_call 90; refine (cAheadN _ _ _ HxN.out).mono ?_; rintro e w' ⟨rfl, hw⟩; have hw := hw.symm; subst hw))
                    go_ret
                    exact ⟨1, rfl, HN.out, hbel⟩
                  · have HxY : Hid (0 ≤ x ∧ x < (i : Int)) := ⟨by omega, by omega⟩
                    have HN : Hid (okO O i (j + 1)) := okO_succ HJ.out HX.out (by omega) (by omega)
                    go_wp2_with (first | (go_at_call 90; refine (cAheadY _ _ _ HxY.out.1 HxY.out.2).mono ?_; rintro e w' ⟨rfl, hw⟩; have hw := hw.symm; subst hw))
                    go_roundw
                    case rel => exact ⟨j + 1, by omega, by go_num, HN, by trivial⟩
                    case measure => simp [intOf]; omega
                · have hjm : j = m := by omega
                  subst hjm
                  have HN : Hid (Cke G O i j 0) := HB0.out ⟨HK.out, HJ.out⟩
                  go_wp2
                  go_ret
                  exact ⟨0, rfl, HN.out, hbel⟩
theorem cInputs (ag : Option Addr) (n cg : Nat) (G : List Gt) (ao : Option Addr) (m co : Nat) (O : List Int) (w : World) (h : RdG w ag n cg G) (g : RdI w ao m co O) (hS : Shp w) :
    Calls Tryd.prog 26 #[.agg #[.slice ag n cg, .slice ao m co]] w fun e w' => Cin G O n m w e w' := by
  have hcap := h.cap
  have hC0 := CBox.new w ag n cg ao m co
  have hb0 : Below w.heap.size w (w.alloc (.cells #[.slice ag n cg, .slice ao m co] 26)) := (Below.refl _ _).alloc (Nat.le_refl _) _
  go_enter Tryd.func26, Tryd.ntmps26
  go_wp2_with fail
  generalize w.alloc (.cells #[.slice ag n cg, .slice ao m co] 26) = w0 at *
  refine (cCheckC _ _ _ _ _ _ _ _ _ (h.below hb0) (g.below hb0) (hS.below hb0)).mono ?_
  rintro e w1 ⟨r, rfl, hC, hb1'⟩
  have hb1 := hb0.trans (hb1'.mono hb0.size)
  have hC1 := hC0.below hb1' hC0.lt
  clear hC0 hb1' hb0
  have hrb := hC.bd
  by_cases hr : r = 0
  · subst hr
    have HC : Hid (Cke G O n m 0) := hC
    have hn := hC.ok.1
    have hs1 := hb1.size
    obtain ⟨d0, d1⟩ := hC1.cells
    have hl0 := hC1.lt
    clear hC hrb
    go_wp2
    go_loopw [5, 16] (fun v q wr => ∃ i : Nat, i ≤ n ∧ q = .int .i64 i ∧ wr.ownsRow w1.heap.size 3 1 v (ci G i) (zns (whl G i)) ∧ Below w1.heap.size w1 wr) (fun _ q _ => n - (intOf q).toNat)
    case atStart => exact ⟨0, Nat.zero_le _, rfl, World.ownsRow_nil _ _ _ _, Below.refl _ _⟩
    case round =>
      clear d0 d1
      obtain ⟨i, hi, rfl, hown, hbel⟩ := hrel
      have hCr := hC1.below hbel hC1.lt
      have hs2 := hbel.size
      by_cases hlt : i < n
      · obtain ⟨b, o, k, x, y, z, rfl, hbb, HG, hk, hx, hy, hz, c1, c2, c3, c4⟩ := (h.below (hb1.trans (hbel.mono hs1))).one hlt
        have hci := ci_le G i
        obtain ⟨N, HN⟩ : ∃ N, Hid (ci G i = N) := ⟨_, rfl⟩
        have hbA0 : Below wr.heap.size wr (wr.alloc (.cells #[.int .i64 k, .int .i64 x, .int .i64 y, .int .u64 z] 61)) := (Below.refl _ _).alloc (Nat.le_refl _) _
        have hbA := hbel.trans (hbA0.mono hs2)
        obtain ⟨q1, q2, q3, q4⟩ := gate_box wr k x y z 61
        have hltA : wr.heap.size < (wr.alloc (.cells #[.int .i64 k, .int .i64 x, .int .i64 y, .int .u64 z] 61)).heap.size := by simp
        have hownA := own_below hown hbA0
        go_upto_region 8 with fail
        generalize wr.alloc (.cells #[.int .i64 k, .int .i64 x, .int .i64 y, .int .u64 z] 61) = W at *
        clear c1 c2 c3 c4 hbA0 hbel hown
        have hsA := hbA.size
        by_cases hk1 : k = 1
        · subst hk1
          have hw := whl_in (G := G) (k := i) (x := x) (by rw [HG.out]) (by rw [HG.out])
          have HW : Hid (zns (whl G i) ++ [.int .i64 x] = zns (whl G (i + 1))) := by unfold Hid; rw [zns_snoc, hw]
          have HC2 : Hid (ci G (i + 1) = N + 1) := by unfold Hid; rw [ci_in (by rw [HG.out]), HN.out]
          rw [HN.out] at hownA hci
          clear hw
          go_wp2_with (at_builtin; refine wpList_appV Tryd.underlying24 infoZ rfl (by omega) _ rfl _ _ rfl w1.heap.size _ _ _ rfl hownA (.int .i64 x) rfl rfl (by omega) hsA ?_; intro v2 w2 hown2 hgr2 _; rw [HW.out] at hown2; have hb2 := hbA.grown hgr2 hsA (fun q hq => (hownA.lt q hq).1); clear hgr2 hownA hbA)
          go_roundw
          case rel => exact ⟨i + 1, by omega, by go_num, by rw [HC2.out]; exact hown2, hb2⟩
          case measure => simp [intOf]; omega
        · have hkb : (k == 1) = false := by rw [beq_eq_false_iff_ne]; exact hk1
          have hne : (gt G i).k ≠ 1 := by rw [HG.out]; exact hk1
          have HW : Hid (zns (whl G i) = zns (whl G (i + 1))) := by unfold Hid; rw [← whl_no hne]
          have HC2 : Hid (ci G (i + 1) = ci G i) := ci_no hne
          rw [HW.out] at hownA
          clear hne hk1 HN hci
          go_wp2
          go_roundw
          case rel => exact ⟨i + 1, by omega, by go_num, by rw [HC2.out]; exact hownA, hbA⟩
          case measure => simp [intOf]; omega
      · have hin : i = n := by omega
        subst hin
        have hoE := own_base hown hs1
        have hbE := hb1.trans (hbel.mono hs1)
        go_wp2
        go_ret2
        exact ⟨.inr ⟨HC.out, _, rfl, hoE⟩, hbE⟩
  · have HC : Hid (Cke G O n m r) := hC
    have HR : Hid (r ≠ 0) := hr
    have hrb2 : (r != 0) = true := by rw [bne_iff_ne]; exact hr
    clear hC hrb hr
    go_wp2
    go_ret2
    exact ⟨.inl ⟨_, HR.out, HC.out, rfl⟩, hb1⟩
end
end Go.Proofs.YtljlioglpaogdagDoor
