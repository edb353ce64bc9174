/- croftref.Circuit. · croftref.Whose. -/
import Derived.Test.YtljlioglpaogdabDoorToShpM
import Derived.Test.YtljlioglpaogdabDoorToDigC
import Derived.Test.YtljlioglpaogdabDoorToEqIC
import Derived.BigQuiet
import Derived.Deep.RegionWith
import Derived.Deep.DeepCutAuto
namespace Go.Proofs.YtljlioglpaogdabDoor
set_option linter.unusedVariables false
set_option maxRecDepth 100000
set_option maxHeartbeats 8000000
section
open Crm Go.RowKit
/-- The cells of a gate that is boxed. -/
theorem gate_box (w : World) (k x y z : Int) (E : TypeId) : (w.alloc (.cells #[.int .i64 k, .int .i64 x, .int .i64 y, .int .u64 z] E)).cell? ⟨w.heap.size, 0, none⟩ = some (.int .i64 k) ∧ (w.alloc (.cells #[.int .i64 k, .int .i64 x, .int .i64 y, .int .u64 z] E)).cell? ⟨w.heap.size, 1, none⟩ = some (.int .i64 x) ∧ (w.alloc (.cells #[.int .i64 k, .int .i64 x, .int .i64 y, .int .u64 z] E)).cell? ⟨w.heap.size, 2, none⟩ = some (.int .i64 y) ∧ (w.alloc (.cells #[.int .i64 k, .int .i64 x, .int .i64 y, .int .u64 z] E)).cell? ⟨w.heap.size, 3, none⟩ = some (.int .u64 z) := by
  have h := heap_alloc_new w (.cells #[.int .i64 k, .int .i64 x, .int .i64 y, .int .u64 z] E)
  refine ⟨?_, ?_, ?_, ?_⟩ <;> (rw [cell_of_row _ _ _ _ E (0, 0) h]; rfl)
/-- A circuit that is boxed. -/
def CBox (w : World) (g : Nat) (ag : Option Addr) (n cg : Nat) (ao : Option Addr) (m co : Nat) : Prop := w.heap[g]? = some (.cells #[.slice ag n cg, .slice ao m co] 25 (0, 0))
theorem CBox.lt {w : World} {g : Nat} {ag : Option Addr} {n cg : Nat} {ao : Option Addr} {m co : Nat} (h : CBox w g ag n cg ao m co) : g < w.heap.size := (Array.getElem?_eq_some_iff.1 h).1
theorem CBox.cells {w : World} {g : Nat} {ag : Option Addr} {n cg : Nat} {ao : Option Addr} {m co : Nat} (h : CBox w g ag n cg ao m co) : w.cell? ⟨g, 0, none⟩ = some (.slice ag n cg) ∧ w.cell? ⟨g, 1, none⟩ = some (.slice ao m co) := by
  unfold CBox at h
  rw [cell_of_row w g 0 _ _ (0, 0) h, cell_of_row w g 1 _ _ (0, 0) h]
  exact ⟨rfl, rfl⟩
theorem CBox.below {w w' : World} {B g : Nat} {ag : Option Addr} {n cg : Nat} {ao : Option Addr} {m co : Nat} (h : CBox w g ag n cg ao m co) (hb : Below B w w') (hg : g < B) : CBox w' g ag n cg ao m co := by
  unfold CBox; rw [hb.block g hg]; exact h
theorem CBox.new (w : World) (ag : Option Addr) (n cg : Nat) (ao : Option Addr) (m co : Nat) : CBox (w.alloc (.cells #[.slice ag n cg, .slice ao m co] 25)) w.heap.size ag n cg ao m co := heap_alloc_new w _

theorem rCircuit (ag : Option Addr) (n cg : Nat) (G : List Gt) (ao : Option Addr) (m co : Nat) (O : List Int) (w : World) (h : RdG w ag n cg G) (g : RdI w ao m co O) :
    Calls Tryd.prog 4 #[.agg #[.slice ag n cg, .slice ao m co]] w fun e w' => ∃ r, e = .returned (.int .i64 r) ∧ Cke G O n m r ∧ Below w.heap.size w w' := by
  have hcap := h.cap
  have hmax := h.max
  have gcap := g.cap
  have gmax := g.max
  unfold maxLen at hmax gmax
  have hC0 := CBox.new w ag n cg ao m co
  have hb0 : Below w.heap.size w (w.alloc (.cells #[.slice ag n cg, .slice ao m co] 25)) := (Below.refl _ _).alloc (Nat.le_refl _) _
  obtain ⟨d0, d1⟩ := hC0.cells
  go_enter Tryd.func4, Tryd.ntmps4
  go_upto_region 1 with fail
  generalize w.alloc (.cells #[.slice ag n cg, .slice ao m co] 25) = w0 at *
  have hl0 := hC0.lt
  by_cases hn0 : n = 0
  · have HE : Hid (Cke G O n m 1) := .inl ⟨.inl hn0, rfl⟩
    have hnb : ((n : Int) == 0) = true := by rw [beq_iff_eq]; omega
    clear hn0
    go_wp2
    go_ret
    exact ⟨1, rfl, HE.out, hb0⟩
  · have hnb : ((n : Int) == 0) = false := by rw [beq_eq_false_iff_ne]; omega
    by_cases hm0 : m = 0
    · have HE : Hid (Cke G O n m 1) := .inl ⟨.inr hm0, rfl⟩
      have hmb : ((m : Int) == 0) = true := by rw [beq_iff_eq]; omega
      clear hm0 hn0
      go_wp2
      go_ret
      exact ⟨1, rfl, HE.out, hb0⟩
    · have hmb : ((m : Int) == 0) = false := by rw [beq_eq_false_iff_ne]; omega
      by_cases hn30 : 30 < n
      · have HE : Hid (Cke G O n m 2) := .inr ⟨⟨hn0, hm0⟩, .inl ⟨.inl hn30, rfl⟩⟩
        clear hm0 hn0
        go_wp2
        go_ret
        exact ⟨2, rfl, HE.out, hb0⟩
      · by_cases hm30 : 30 < m
        · have HE : Hid (Cke G O n m 2) := .inr ⟨⟨hn0, hm0⟩, .inl ⟨.inr hm30, rfl⟩⟩
          clear hm0 hn0
          go_wp2
          go_ret
          exact ⟨2, rfl, HE.out, hb0⟩
        · have HB1 : Hid (¬ (okG G n ∧ okO O n m) → Cke G O n m 1) := fun e => .inr ⟨⟨hn0, hm0⟩, .inr ⟨⟨by omega, by omega⟩, .inl ⟨e, rfl⟩⟩⟩
          have HB0 : Hid ((okG G n ∧ okO O n m) → Cke G O n m 0) := fun e => .inr ⟨⟨hn0, hm0⟩, .inr ⟨⟨by omega, by omega⟩, .inr ⟨e, rfl⟩⟩⟩
          clear hm0 hn0
          go_wp2
          go_loopw [3] (fun v wr => ∃ i : Nat, i ≤ n ∧ v = .int .i64 i ∧ Hid (okG G i) ∧ CBox wr w.heap.size ag n cg ao m co ∧ Below w.heap.size w wr) (fun v _ => n - (intOf v).toNat)
          case atStart => exact ⟨0, Nat.zero_le _, rfl, okG_zero G, hC0, hb0⟩
          case round =>
            clear hC0 hb0 d0 d1 hl0
            obtain ⟨i, hi, rfl, HK, hC, hbel⟩ := hrel
            obtain ⟨d0, d1⟩ := hC.cells
            have hl0 := hC.lt
            have hs1 := hbel.size
            by_cases hlt : i < n
            · obtain ⟨b, o, k, x, y, z, rfl, hbb, HG, hk, hx, hy, hz, c1, c2, c3, c4⟩ := (h.below hbel).one hlt
              have hbA0 : Below wr.heap.size wr (wr.alloc (.cells #[.int .i64 k, .int .i64 x, .int .i64 y, .int .u64 z] 43)) := (Below.refl _ _).alloc (Nat.le_refl _) _
              have hbA := hbel.trans (hbA0.mono hs1)
              have hCA := hC.below hbA0 hC.lt
              obtain ⟨q1, q2, q3, q4⟩ := gate_box wr k x y z 43
              have hltA : wr.heap.size < (wr.alloc (.cells #[.int .i64 k, .int .i64 x, .int .i64 y, .int .u64 z] 43)).heap.size := by simp
              go_upto_region 9 with fail
              generalize wr.alloc (.cells #[.int .i64 k, .int .i64 x, .int .i64 y, .int .u64 z] 43) = W at *
              clear c1 c2 c3 c4 hbA0 hC hbel d0 d1
              have HBad : Hid (¬ okg i ⟨k, x, y, z⟩ → Cke G O n m 1) := fun e => HB1.out fun e' => okG_not hlt (by rw [HG.out]; exact e) e'.1
              have HGood : Hid (okg i ⟨k, x, y, z⟩ → okG G (i + 1)) := fun e => okG_succ HK.out (by rw [HG.out]; exact e)
              by_cases hk1 : k = 1
              · subst hk1
                by_cases hxr : x < 1 ∨ 9 < x
                · have HxN : Hid (x < 1 ∨ 9 < x) := hxr
                  have HN : Hid (Cke G O n m 1) := HBad.out (by unfold okg; simp only; omega)
                  go_wp2_with (first | (go_at_call_of 14 (Value.int .i64 x); refine (rInN _ _ _ _ HxN.out).mono ?_; rintro e w' ⟨rfl, hw⟩; have hw := hw.symm; subst hw))
                  go_ret
                  exact ⟨1, rfl, HN.out, hbA⟩
                · have HxY : Hid (1 ≤ x ∧ x ≤ 9) := ⟨by omega, by omega⟩
                  by_cases hy0 : y = 0
                  · subst hy0
                    by_cases hz0 : z = 0
                    · subst hz0
                      have HN : Hid (okG G (i + 1)) := HGood.out (.inl ⟨rfl, HxY.out, rfl, rfl⟩)
                      clear HBad HGood HG
                      go_wp2_with (first | (go_at_call_of 14 (Value.int .i64 x); refine (rInY _ _ _ _ HxY.out.1 HxY.out.2).mono ?_; rintro e w' ⟨rfl, hw⟩; have hw := hw.symm; subst hw))
                      go_roundw
                      case rel => exact ⟨i + 1, by omega, by go_num, HN, hCA, hbA⟩
                      case measure => simp [intOf]; omega
                    · have hzb : (z == 0) = false := by rw [beq_eq_false_iff_ne]; exact hz0
                      have HN : Hid (Cke G O n m 1) := HBad.out (by unfold okg; simp only; omega)
                      go_wp2_with (first | (go_at_call_of 14 (Value.int .i64 x); refine (rInY _ _ _ _ HxY.out.1 HxY.out.2).mono ?_; rintro e w' ⟨rfl, hw⟩; have hw := hw.symm; subst hw))
                      go_ret
                      exact ⟨1, rfl, HN.out, hbA⟩
                  · have hyb : (y == 0) = false := by rw [beq_eq_false_iff_ne]; exact hy0
                    have HN : Hid (Cke G O n m 1) := HBad.out (by unfold okg; simp only; omega)
                    go_wp2_with (first | (go_at_call_of 14 (Value.int .i64 x); refine (rInY _ _ _ _ HxY.out.1 HxY.out.2).mono ?_; rintro e w' ⟨rfl, hw⟩; have hw := hw.symm; subst hw))
                    go_ret
                    exact ⟨1, rfl, HN.out, hbA⟩
              · have hkb1 : (k == 1) = false := by rw [beq_eq_false_iff_ne]; exact hk1
                by_cases hk2 : k = 2
                · subst hk2
                  clear hk1 hkb1
                  by_cases hx0 : x = 0
                  · subst hx0
                    by_cases hy0 : y = 0
                    · subst hy0
                      have HN : Hid (okG G (i + 1)) := HGood.out (.inr (.inl ⟨rfl, rfl, rfl⟩))
                      clear HBad HGood HG
                      go_wp2
                      go_roundw
                      case rel => exact ⟨i + 1, by omega, by go_num, HN, hCA, hbA⟩
                      case measure => simp [intOf]; omega
                    · have hyb : (y == 0) = false := by rw [beq_eq_false_iff_ne]; exact hy0
                      have HN : Hid (Cke G O n m 1) := HBad.out (by unfold okg; simp only; omega)
                      go_wp2
                      go_ret
                      exact ⟨1, rfl, HN.out, hbA⟩
                  · have hxb : (x == 0) = false := by rw [beq_eq_false_iff_ne]; exact hx0
                    have HN : Hid (Cke G O n m 1) := HBad.out (by unfold okg; simp only; omega)
                    go_wp2
                    go_ret
                    exact ⟨1, rfl, HN.out, hbA⟩
                · have hkb2 : (k == 2) = false := by rw [beq_eq_false_iff_ne]; exact hk2
                  by_cases hk6 : k = 6
                  · subst hk6
                    clear hk1 hkb1 hk2 hkb2
                    by_cases hxr : x < 0 ∨ (i : Int) - 1 < x
                    · have HxN : Hid (x < 0 ∨ (i : Int) - 1 < x) := hxr
                      have HN : Hid (Cke G O n m 1) := HBad.out (by unfold okg; simp only; omega)
                      go_wp2_with (first | (go_at_call_of 14 (Value.int .i64 x); refine (rInN _ _ _ _ HxN.out).mono ?_; rintro e w' ⟨rfl, hw⟩; have hw := hw.symm; subst hw))
                      go_ret
                      exact ⟨1, rfl, HN.out, hbA⟩
                    · have HxY : Hid (0 ≤ x ∧ x ≤ (i : Int) - 1) := ⟨by omega, by omega⟩
                      by_cases hy0 : y = 0
                      · subst hy0
                        have HN : Hid (okG G (i + 1)) := HGood.out (.inr (.inr (.inl ⟨rfl, ⟨HxY.out.1, by have := HxY.out.2; simp only; omega⟩, rfl⟩)))
                        clear HBad HGood HG
                        go_wp2_with (first | (go_at_call_of 14 (Value.int .i64 x); refine (rInY _ _ _ _ HxY.out.1 HxY.out.2).mono ?_; rintro e w' ⟨rfl, hw⟩; have hw := hw.symm; subst hw))
                        go_roundw
                        case rel => exact ⟨i + 1, by omega, by go_num, HN, hCA, hbA⟩
                        case measure => simp [intOf]; omega
                      · have hyb : (y == 0) = false := by rw [beq_eq_false_iff_ne]; exact hy0
                        have HN : Hid (Cke G O n m 1) := HBad.out (by unfold okg; simp only; omega)
                        go_wp2_with (first | (go_at_call_of 14 (Value.int .i64 x); refine (rInY _ _ _ _ HxY.out.1 HxY.out.2).mono ?_; rintro e w' ⟨rfl, hw⟩; have hw := hw.symm; subst hw))
                        go_ret
                        exact ⟨1, rfl, HN.out, hbA⟩
                  · have hkb6 : (k == 6) = false := by rw [beq_eq_false_iff_ne]; exact hk6
                    by_cases hk3 : k = 3
                    · subst hk3
                      clear hk1 hkb1 hk2 hkb2 hk6 hkb6
                      by_cases hxr : x < 0 ∨ (i : Int) - 1 < x
                      · have HxN : Hid (x < 0 ∨ (i : Int) - 1 < x) := hxr
                        have HN : Hid (Cke G O n m 1) := HBad.out (by unfold okg; simp only; omega)
                        go_wp2_with (first | (go_at_call_of 14 (Value.int .i64 x); refine (rInN _ _ _ _ HxN.out).mono ?_; rintro e w' ⟨rfl, hw⟩; have hw := hw.symm; subst hw))
                        go_ret
                        exact ⟨1, rfl, HN.out, hbA⟩
                      · have HxY : Hid (0 ≤ x ∧ x ≤ (i : Int) - 1) := ⟨by omega, by omega⟩
                        by_cases hyr : y < 0 ∨ (i : Int) - 1 < y
                        · have HyN : Hid (y < 0 ∨ (i : Int) - 1 < y) := hyr
                          have HN : Hid (Cke G O n m 1) := HBad.out (by unfold okg; simp only; omega)
                          go_wp2_with (first | (go_at_call_of 14 (Value.int .i64 x); refine (rInY _ _ _ _ HxY.out.1 HxY.out.2).mono ?_; rintro e w' ⟨rfl, hw⟩; have hw := hw.symm; subst hw) | (go_at_call_of 14 (Value.int .i64 y); refine (rInN _ _ _ _ HyN.out).mono ?_; rintro e w' ⟨rfl, hw⟩; have hw := hw.symm; subst hw))
                          go_ret
                          exact ⟨1, rfl, HN.out, hbA⟩
                        · have HyY : Hid (0 ≤ y ∧ y ≤ (i : Int) - 1) := ⟨by omega, by omega⟩
                          by_cases hz0 : z = 0
                          · subst hz0
                            have HN : Hid (okG G (i + 1)) := HGood.out (.inr (.inr (.inr ⟨.inl rfl, ⟨HxY.out.1, by have := HxY.out.2; simp only; omega⟩, ⟨HyY.out.1, by have := HyY.out.2; simp only; omega⟩, rfl⟩)))
                            clear HBad HGood HG
                            go_wp2_with (first | (go_at_call_of 14 (Value.int .i64 x); refine (rInY _ _ _ _ HxY.out.1 HxY.out.2).mono ?_; rintro e w' ⟨rfl, hw⟩; have hw := hw.symm; subst hw) | (go_at_call_of 14 (Value.int .i64 y); refine (rInY _ _ _ _ HyY.out.1 HyY.out.2).mono ?_; rintro e w' ⟨rfl, hw⟩; have hw := hw.symm; subst hw))
                            go_roundw
                            case rel => exact ⟨i + 1, by omega, by go_num, HN, hCA, hbA⟩
                            case measure => simp [intOf]; omega
                          · have hzb : (z == 0) = false := by rw [beq_eq_false_iff_ne]; exact hz0
                            have HN : Hid (Cke G O n m 1) := HBad.out (by unfold okg; simp only; omega)
                            go_wp2_with (first | (go_at_call_of 14 (Value.int .i64 x); refine (rInY _ _ _ _ HxY.out.1 HxY.out.2).mono ?_; rintro e w' ⟨rfl, hw⟩; have hw := hw.symm; subst hw) | (go_at_call_of 14 (Value.int .i64 y); refine (rInY _ _ _ _ HyY.out.1 HyY.out.2).mono ?_; rintro e w' ⟨rfl, hw⟩; have hw := hw.symm; subst hw))
                            go_ret
                            exact ⟨1, rfl, HN.out, hbA⟩
                    · have hkb3 : (k == 3) = false := by rw [beq_eq_false_iff_ne]; exact hk3
                      by_cases hk4 : k = 4
                      · subst hk4
                        clear hk1 hkb1 hk2 hkb2 hk6 hkb6 hk3 hkb3
                        by_cases hxr : x < 0 ∨ (i : Int) - 1 < x
                        · have HxN : Hid (x < 0 ∨ (i : Int) - 1 < x) := hxr
                          have HN : Hid (Cke G O n m 1) := HBad.out (by unfold okg; simp only; omega)
                          go_wp2_with (first | (go_at_call_of 14 (Value.int .i64 x); refine (rInN _ _ _ _ HxN.out).mono ?_; rintro e w' ⟨rfl, hw⟩; have hw := hw.symm; subst hw))
                          go_ret
                          exact ⟨1, rfl, HN.out, hbA⟩
                        · have HxY : Hid (0 ≤ x ∧ x ≤ (i : Int) - 1) := ⟨by omega, by omega⟩
                          by_cases hyr : y < 0 ∨ (i : Int) - 1 < y
                          · have HyN : Hid (y < 0 ∨ (i : Int) - 1 < y) := hyr
                            have HN : Hid (Cke G O n m 1) := HBad.out (by unfold okg; simp only; omega)
                            go_wp2_with (first | (go_at_call_of 14 (Value.int .i64 x); refine (rInY _ _ _ _ HxY.out.1 HxY.out.2).mono ?_; rintro e w' ⟨rfl, hw⟩; have hw := hw.symm; subst hw) | (go_at_call_of 14 (Value.int .i64 y); refine (rInN _ _ _ _ HyN.out).mono ?_; rintro e w' ⟨rfl, hw⟩; have hw := hw.symm; subst hw))
                            go_ret
                            exact ⟨1, rfl, HN.out, hbA⟩
                          · have HyY : Hid (0 ≤ y ∧ y ≤ (i : Int) - 1) := ⟨by omega, by omega⟩
                            by_cases hz0 : z = 0
                            · subst hz0
                              have HN : Hid (okG G (i + 1)) := HGood.out (.inr (.inr (.inr ⟨.inr (.inl rfl), ⟨HxY.out.1, by have := HxY.out.2; simp only; omega⟩, ⟨HyY.out.1, by have := HyY.out.2; simp only; omega⟩, rfl⟩)))
                              clear HBad HGood HG
                              go_wp2_with (first | (go_at_call_of 14 (Value.int .i64 x); refine (rInY _ _ _ _ HxY.out.1 HxY.out.2).mono ?_; rintro e w' ⟨rfl, hw⟩; have hw := hw.symm; subst hw) | (go_at_call_of 14 (Value.int .i64 y); refine (rInY _ _ _ _ HyY.out.1 HyY.out.2).mono ?_; rintro e w' ⟨rfl, hw⟩; have hw := hw.symm; subst hw))
                              go_roundw
                              case rel => exact ⟨i + 1, by omega, by go_num, HN, hCA, hbA⟩
                              case measure => simp [intOf]; omega
                            · have hzb : (z == 0) = false := by rw [beq_eq_false_iff_ne]; exact hz0
                              have HN : Hid (Cke G O n m 1) := HBad.out (by unfold okg; simp only; omega)
                              go_wp2_with (first | (go_at_call_of 14 (Value.int .i64 x); refine (rInY _ _ _ _ HxY.out.1 HxY.out.2).mono ?_; rintro e w' ⟨rfl, hw⟩; have hw := hw.symm; subst hw) | (go_at_call_of 14 (Value.int .i64 y); refine (rInY _ _ _ _ HyY.out.1 HyY.out.2).mono ?_; rintro e w' ⟨rfl, hw⟩; have hw := hw.symm; subst hw))
                              go_ret
                              exact ⟨1, rfl, HN.out, hbA⟩
                      · have hkb4 : (k == 4) = false := by rw [beq_eq_false_iff_ne]; exact hk4
                        by_cases hk5 : k = 5
                        · subst hk5
                          clear hk1 hkb1 hk2 hkb2 hk6 hkb6 hk3 hkb3 hk4 hkb4
                          by_cases hxr : x < 0 ∨ (i : Int) - 1 < x
                          · have HxN : Hid (x < 0 ∨ (i : Int) - 1 < x) := hxr
                            have HN : Hid (Cke G O n m 1) := HBad.out (by unfold okg; simp only; omega)
                            go_wp2_with (first | (go_at_call_of 14 (Value.int .i64 x); refine (rInN _ _ _ _ HxN.out).mono ?_; rintro e w' ⟨rfl, hw⟩; have hw := hw.symm; subst hw))
                            go_ret
                            exact ⟨1, rfl, HN.out, hbA⟩
                          · have HxY : Hid (0 ≤ x ∧ x ≤ (i : Int) - 1) := ⟨by omega, by omega⟩
                            by_cases hyr : y < 0 ∨ (i : Int) - 1 < y
                            · have HyN : Hid (y < 0 ∨ (i : Int) - 1 < y) := hyr
                              have HN : Hid (Cke G O n m 1) := HBad.out (by unfold okg; simp only; omega)
                              go_wp2_with (first | (go_at_call_of 14 (Value.int .i64 x); refine (rInY _ _ _ _ HxY.out.1 HxY.out.2).mono ?_; rintro e w' ⟨rfl, hw⟩; have hw := hw.symm; subst hw) | (go_at_call_of 14 (Value.int .i64 y); refine (rInN _ _ _ _ HyN.out).mono ?_; rintro e w' ⟨rfl, hw⟩; have hw := hw.symm; subst hw))
                              go_ret
                              exact ⟨1, rfl, HN.out, hbA⟩
                            · have HyY : Hid (0 ≤ y ∧ y ≤ (i : Int) - 1) := ⟨by omega, by omega⟩
                              by_cases hz0 : z = 0
                              · subst hz0
                                have HN : Hid (okG G (i + 1)) := HGood.out (.inr (.inr (.inr ⟨.inr (.inr rfl), ⟨HxY.out.1, by have := HxY.out.2; simp only; omega⟩, ⟨HyY.out.1, by have := HyY.out.2; simp only; omega⟩, rfl⟩)))
                                clear HBad HGood HG
                                go_wp2_with (first | (go_at_call_of 14 (Value.int .i64 x); refine (rInY _ _ _ _ HxY.out.1 HxY.out.2).mono ?_; rintro e w' ⟨rfl, hw⟩; have hw := hw.symm; subst hw) | (go_at_call_of 14 (Value.int .i64 y); refine (rInY _ _ _ _ HyY.out.1 HyY.out.2).mono ?_; rintro e w' ⟨rfl, hw⟩; have hw := hw.symm; subst hw))
                                go_roundw
                                case rel => exact ⟨i + 1, by omega, by go_num, HN, hCA, hbA⟩
                                case measure => simp [intOf]; omega
                              · have hzb : (z == 0) = false := by rw [beq_eq_false_iff_ne]; exact hz0
                                have HN : Hid (Cke G O n m 1) := HBad.out (by unfold okg; simp only; omega)
                                go_wp2_with (first | (go_at_call_of 14 (Value.int .i64 x); refine (rInY _ _ _ _ HxY.out.1 HxY.out.2).mono ?_; rintro e w' ⟨rfl, hw⟩; have hw := hw.symm; subst hw) | (go_at_call_of 14 (Value.int .i64 y); refine (rInY _ _ _ _ HyY.out.1 HyY.out.2).mono ?_; rintro e w' ⟨rfl, hw⟩; have hw := hw.symm; subst hw))
                                go_ret
                                exact ⟨1, rfl, HN.out, hbA⟩
                        · have hkb5 : (k == 5) = false := by rw [beq_eq_false_iff_ne]; exact hk5
                          have HN : Hid (Cke G O n m 1) := HBad.out (by unfold okg; simp only; omega)
                          go_wp2
                          go_ret
                          exact ⟨1, rfl, HN.out, hbA⟩
            · have hin : i = n := by omega
              subst hin
              go_wp2
              go_loopw [6] (fun v wr => ∃ j : Nat, j ≤ m ∧ v = .int .i64 j ∧ Hid (okO O i j) ∧ CBox wr w.heap.size ag i cg ao m co ∧ Below w.heap.size w wr) (fun v _ => m - (intOf v).toNat)
              case atStart => exact ⟨0, Nat.zero_le _, rfl, okO_zero O i, hC, hbel⟩
              case round =>
                clear hC hbel d0 d1 hl0 hs1
                obtain ⟨j, hj, rfl, HO, hC, hbel⟩ := hrel
                obtain ⟨d0, d1⟩ := hC.cells
                have hl0 := hC.lt
                by_cases hjm : j < m
                · obtain ⟨b, o, x, rfl, hbb, HX, hx0, hx1, hcx⟩ := (g.below hbel).one hjm
                  have hj0 : (0 : Int) ≤ (j : Int) := by omega
                  have hjmi : (j : Int) < (m : Int) := by omega
                  by_cases hxr : x < 0 ∨ (i : Int) - 1 < x
                  · have HXN : Hid (x < 0 ∨ (i : Int) - 1 < x) := hxr
                    have HN : Hid (Cke G O i m 1) := HB1.out fun e => okO_not hjm HX.out (by omega) e.2
                    clear hxr
                    go_wp2_with fail
                    go_quiet ((go_at_call 14; exact Calls.quiet_of_same (rInN _ _ _ _ HXN.out)))
                    all_goals
                      go_wp2
                      go_ret
                      exact ⟨1, rfl, HN.out, drewN_below hbel _⟩
                  · have HXY : Hid (0 ≤ x ∧ x ≤ (i : Int) - 1) := ⟨by omega, by omega⟩
                    have HO2 : Hid (okO O i (j + 1)) := okO_succ HO.out HX.out (by omega) (by omega)
                    clear hxr
                    go_wp2_with fail
                    go_quiet ((go_at_call 14; exact Calls.quiet_of_same (rInY _ _ _ _ HXY.out.1 HXY.out.2)))
                    all_goals
                      go_wp2
                      go_roundw
                      case rel => exact ⟨j + 1, by omega, by go_num, HO2, hC, drewN_below hbel _⟩
                      case measure => simp [intOf]; omega
                · have hjm2 : j = m := by omega
                  subst hjm2
                  have HN : Hid (Cke G O i j 0) := HB0.out ⟨HK.out, HO.out⟩
                  go_wp2
                  go_ret
                  exact ⟨0, rfl, HN.out, hbel⟩
theorem whl_in {G : List Gt} {k : Nat} {x : Int} (h : (gt G k).k = 1) (hx : (gt G k).a = x) : whl G k ++ [x] = whl G (k + 1) := by rw [whl, if_pos h, hx]
theorem whl_no {G : List Gt} {k : Nat} (h : (gt G k).k ≠ 1) : whl G k = whl G (k + 1) := by rw [whl, if_neg h]
theorem whl_bd {G : List Gt} {n : Nat} (h : ∀ i, i < n → -9223372036854775808 ≤ (gt G i).a ∧ (gt G i).a ≤ 9223372036854775807) : ∀ k, k ≤ n → ∀ x ∈ whl G k, -9223372036854775808 ≤ x ∧ x ≤ 9223372036854775807
  | 0, _, x, hx => by simp [whl] at hx
  | k + 1, hk, x, hx => by
    rw [whl] at hx
    split at hx
    · rcases List.mem_append.1 hx with e | e
      · exact whl_bd h k (by omega) x e
      · rw [List.mem_singleton.1 e]; exact h k (by omega)
    · exact whl_bd h k (by omega) x hx

theorem rWhose (ag : Option Addr) (n cg : Nat) (G : List Gt) (ao : Option Addr) (m co : Nat) (w : World) (h : RdG w ag n cg G) (hn : n ≤ 1000) :
    Calls Tryd.prog 6 #[.agg #[.slice ag n cg, .slice ao m co]] w fun e w' => ∃ v, e = .returned v ∧ w'.ownsRow w.heap.size 3 1 v (ci G n) (zns (whl G n)) ∧ Below w.heap.size w w' := by
  have hcap := h.cap
  have hC0 := CBox.new w ag n cg ao m co
  have hb0 : Below w.heap.size w (w.alloc (.cells #[.slice ag n cg, .slice ao m co] 25)) := (Below.refl _ _).alloc (Nat.le_refl _) _
  go_enter Tryd.func6, Tryd.ntmps6
  go_upto_region 1 with fail
  generalize w.alloc (.cells #[.slice ag n cg, .slice ao m co] 25) = w0 at *
  have hs0 := hC0.lt
  go_wp2
  go_loopw [3, 4] (fun v q wr => ∃ i : Nat, i ≤ n ∧ q = .int .i64 i ∧ wr.ownsRow w0.heap.size 3 1 v (ci G i) (zns (whl G i)) ∧ Below w0.heap.size w0 wr) (fun _ q _ => n - (intOf q).toNat)
  case atStart => exact ⟨0, Nat.zero_le _, rfl, World.ownsRow_nil _ _ _ _, Below.refl _ _⟩
  case round =>
    obtain ⟨i, hi, rfl, hown, hbel⟩ := hrel
    have hC := hC0.below hbel hC0.lt
    obtain ⟨d0, d1⟩ := hC.cells
    have hl0 := hC.lt
    have hs1 := hbel.size
    by_cases hlt : i < n
    · obtain ⟨b, o, k, x, y, z, rfl, hbb, HG, hk, hx, hy, hz, c1, c2, c3, c4⟩ := (h.below (hb0.trans (hbel.mono hb0.size))).one hlt
      have hci := ci_le G i
      obtain ⟨N, HN⟩ : ∃ N, Hid (ci G i = N) := ⟨_, rfl⟩
      by_cases hk1 : k = 1
      · subst hk1
        have hw := whl_in (G := G) (k := i) (x := x) (by rw [HG.out]) (by rw [HG.out])
        have HW : Hid (zns (whl G i) ++ [.int .i64 x] = zns (whl G (i + 1))) := by unfold Hid; rw [zns_snoc, hw]
        have HC : Hid (ci G (i + 1) = N + 1) := by unfold Hid; rw [ci_in (by rw [HG.out]), HN.out]
        rw [HN.out] at hown hci
        clear hw
        go_wp2_with (at_builtin; refine wpList_appV Tryd.underlying23 infoZ rfl (by omega) _ rfl _ _ rfl w0.heap.size _ _ _ rfl hown (.int .i64 x) rfl rfl (by omega) hs1 ?_; intro v2 w2 hown2 hgr2 _; rw [HW.out] at hown2; have hb2 := hbel.grown hgr2 hs1 (fun q hq => (hown.lt q hq).1); clear hgr2 hown hbel)
        go_roundw
        case rel => exact ⟨i + 1, by omega, by go_num, by rw [HC.out]; exact hown2, hb2⟩
        case measure => simp [intOf]; omega
      · have hkb : (k == 1) = false := by rw [beq_eq_false_iff_ne]; exact hk1
        have hne : (gt G i).k ≠ 1 := by rw [HG.out]; exact hk1
        have HW : Hid (zns (whl G i) = zns (whl G (i + 1))) := by unfold Hid; rw [← whl_no hne]
        have HC : Hid (ci G (i + 1) = ci G i) := ci_no hne
        rw [HW.out] at hown
        clear hne hk1 HN hci
        go_wp2
        go_roundw
        case rel => exact ⟨i + 1, by omega, by go_num, by rw [HC.out]; exact hown, hbel⟩
        case measure => simp [intOf]; omega
    · have hin : i = n := by omega
      subst hin
      have hoE := own_base hown hb0.size
      have hbE := hb0.trans (hbel.mono hb0.size)
      go_wp2
      go_ret
      exact ⟨_, rfl, hoE, hbE⟩
end
end Go.Proofs.YtljlioglpaogdabDoor
