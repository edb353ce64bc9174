/- croftref.Value, where the wires ahead are inputs and constants. -/
import Derived.Test.YtljlioglpaogdabDoorToWhoseC
import Derived.Test.YtljlioglpaogdabDoorToDigC
import Derived.Deep.RegionLaw
namespace Go.Proofs.YtljlioglpaogdabDoor
set_option linter.unusedVariables false
set_option maxRecDepth 100000
set_option maxHeartbeats 8000000
section
open Crm Go.RowKit
/-- What an input or a constant tells. -/
def lf (D : List Gt) (ins : List Int) (j : Nat) : Int := if (gt D j).k = 1 then nm (ins.getD (ci D j) 0) else nm (gt D j).n
theorem lf_bd (D : List Gt) (ins : List Int) (j : Nat) : 0 ≤ lf D ins j ∧ lf D ins j ≤ 2147483646 := by unfold lf; split <;> exact nm_bd _

theorem rLeaf (ag : Option Addr) (n cg : Nat) (D : List Gt) (ao : Option Addr) (m co : Nat) (ai : Option Addr) (q ca : Nat) (ins : List Int) (j : Nat) (w : World) (h : RdG w ag n cg D) (g : Rd w ai q ca ins) (hn : n ≤ 1000) (hj : j < n) (hk : (gt D j).k = 1 ∨ (gt D j).k = 2) (hq : (gt D j).k = 1 → ci D j < q) :
    Calls Tryd.prog 17 #[.agg #[.slice ag n cg, .slice ao m co], .slice ai q ca, .int .i64 j] w fun e w' => e = .returned (.int .u64 (lf D ins j)) ∧ Below w.heap.size w w' := by
  have hcap := h.cap
  have hC0 := CBox.new w ag n cg ao m co
  have hb0 : Below w.heap.size w (w.alloc (.cells #[.slice ag n cg, .slice ao m co] 25)) := (Below.refl _ _).alloc (Nat.le_refl _) _
  go_enter Tryd.func17, Tryd.ntmps17
  go_upto_region 1 with fail
  generalize w.alloc (.cells #[.slice ag n cg, .slice ao m co] 25) = w0 at *
  obtain ⟨d0, d1⟩ := hC0.cells
  have hl0 := hC0.lt
  obtain ⟨b, o, k, x, y, z, rfl, hbb, HG, hkb, hx, hy, hz, c1, c2, c3, c4⟩ := (h.below hb0).one hj
  have hbA0 : Below w0.heap.size w0 (w0.alloc (.cells #[.int .i64 k, .int .i64 x, .int .i64 y, .int .u64 z] 43)) := (Below.refl _ _).alloc (Nat.le_refl _) _
  have hbA := hb0.trans (hbA0.mono hb0.size)
  have hCA := hC0.below hbA0 hC0.lt
  obtain ⟨q1, q2, q3, q4⟩ := gate_box w0 k x y z 43
  have hltA : w0.heap.size < (w0.alloc (.cells #[.int .i64 k, .int .i64 x, .int .i64 y, .int .u64 z] 43)).heap.size := by simp
  go_upto_region 2 with fail
  generalize w0.alloc (.cells #[.int .i64 k, .int .i64 x, .int .i64 y, .int .u64 z] 43) = W at *
  clear c1 c2 c3 c4 hbA0 hb0 d0 d1
  obtain ⟨d0, d1⟩ := hCA.cells
  have hlA := hCA.lt
  by_cases hk1 : k = 1
  · subst hk1
    have hq' : ci D j < q := hq (by rw [HG.out])
    have HV : Hid (lf D ins j = nm (ins.getD (ci D j) 0)) := by unfold Hid lf; rw [if_pos (by rw [HG.out])]
    have hjl := ci_le D j
    obtain ⟨N, HN⟩ : ∃ N, Hid (ci D j = N) := ⟨_, rfl⟩
    clear hk hq
    go_wp2
    go_loop [8, 9] (fun v p => ∃ i : Nat, i ≤ j ∧ p = .int .i64 i ∧ ∃ c : Nat, c ≤ i ∧ v = .int .i64 c ∧ Hid (c = ci D i)) (fun _ p => j - (intOf p).toNat)
    case atStart => exact ⟨0, Nat.zero_le _, rfl, 0, Nat.le_refl _, rfl, rfl⟩
    case round =>
      obtain ⟨i, hi, rfl, c, hc, rfl, HC⟩ := hrel
      by_cases hlt : i < j
      · obtain ⟨b', o', k', x', y', z', e', hbb', HG', hkb', _, _, _, c1', _, _, _⟩ := (h.below hbA).one (show i < n by omega)
        simp only [Option.some.injEq, Addr.mk.injEq, and_true] at e'
        obtain ⟨rfl, rfl⟩ := e'
        by_cases hk' : k' = 1
        · subst hk'
          have HC2 : Hid (c + 1 = ci D (i + 1)) := by unfold Hid; rw [ci_in (by rw [HG'.out]), HC.out]
          go_wp2
          go_round
          case rel => exact ⟨i + 1, by omega, by go_num, c + 1, by omega, by go_num, HC2⟩
          case measure => simp [intOf]; omega
        · have hkb2 : (k' == 1) = false := by rw [beq_eq_false_iff_ne]; exact hk'
          have HC2 : Hid (c = ci D (i + 1)) := by unfold Hid; rw [ci_no (by rw [HG'.out]; exact hk'), HC.out]
          clear hk'
          go_wp2
          go_round
          case rel => exact ⟨i + 1, by omega, by go_num, c, by omega, rfl, HC2⟩
          case measure => simp [intOf]; omega
      · have hij : i = j := by omega
        subst hij
        obtain rfl : c = N := HC.out.trans HN.out
        rw [HN.out] at hq'
        obtain ⟨b3, o3, v, rfl, hb3, HY, hv0, hv1, hcv⟩ := (g.below hbA).one hq'
        have HVE : Hid (nm (ins.getD (ci D i) 0) = nm v) := by unfold Hid; rw [HN.out, HY.out]
        have hcqi : (c : Int) < (q : Int) := by omega
        have hc0 : (0 : Int) ≤ (c : Int) := by omega
        go_wp2_with (go_at_call 16; refine (rNorm _ _ hv0 hv1).mono ?_; rintro e w' ⟨rfl, hw⟩; have hw := hw.symm; subst hw)
        go_ret
        rw [HV.out, HVE.out]
        exact ⟨rfl, hbA⟩
  · have hk2 : k = 2 := by rw [HG.out] at hk; rcases hk with e | e; exact absurd e hk1; exact e
    subst hk2
    have HV : Hid (lf D ins j = nm z) := by unfold Hid lf; rw [if_neg (by rw [HG.out]; exact hk1), HG.out]
    clear hk hq hk1
    go_wp2_with (go_at_call 16; refine (rNorm _ _ hz.1 hz.2).mono ?_; rintro e w' ⟨rfl, hw⟩; have hw := hw.symm; subst hw)
    go_ret
    rw [HV.out]
    exact ⟨rfl, hbA⟩
end
end Go.Proofs.YtljlioglpaogdabDoor
