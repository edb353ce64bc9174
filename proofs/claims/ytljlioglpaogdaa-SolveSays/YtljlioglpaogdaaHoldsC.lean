/- croftref.Holds. -/
import Derived.Test.YtljlioglpaogdaaToEqC
import Derived.Test.YtljlioglpaogdaaToOcC
import Derived.Deep.QuietTactic
import Derived.BigQuiet
namespace Go.Proofs.Ytljlioglpaogdaa
set_option linter.unusedVariables false
set_option maxRecDepth 100000
set_option maxHeartbeats 8000000
section
open Crm Go.RowKit
theorem hdrewN {B : Nat} {a w : World} (h : Below B a w) (q : Nat) : Below B a (w.drewN q) := ⟨h.os, h.tape, h.output, h.size, h.block⟩

/-- The values V make equation i right. -/
def okrow (rs : List (List Int)) (V : List Int) (k i : Nat) : Prop := nm (sm (fun j => mat rs i j * V.getD j 0) k) = nm (mat rs i k)
theorem okrow_ns (rs : List (List Int)) (V : List Int) (k n : Nat) : (∀ i, i < n → okrow rs V k i) ↔ NS (mat rs) n (k + 1) (fun j => if j < k then V.getD j 0 else -1) := by
  have key : ∀ i, okrow rs V k i ↔ nm (sm (fun j => (if j < k then V.getD j 0 else -1) * mat rs i j) (k + 1)) = 0 := fun i => by
    rw [sm]
    have e : nm (sm (fun j => (if j < k then V.getD j 0 else -1) * mat rs i j) k) = nm (sm (fun j => mat rs i j * V.getD j 0) k) := sm_ncongr fun j hj => by rw [if_pos hj, Int.mul_comm]
    show okrow rs V k i ↔ nm (sm (fun j => (if j < k then V.getD j 0 else -1) * mat rs i j) k + (if k < k then V.getD k 0 else -1) * mat rs i k) = 0
    rw [if_neg (by omega), Int.neg_one_mul]
    unfold okrow
    rw [← e]
    generalize sm (fun j => (if j < k then V.getD j 0 else -1) * mat rs i j) k = X
    unfold nm; omega
  exact ⟨fun h i hi => (key i).1 (h i hi), fun h i hi => (key i).2 (h i hi)⟩

theorem rHolds (a : Option Addr) (n c : Nat) (rs : List (List Int)) (b : Option Addr) (k d : Nat) (V : List Int) (w : World) (h : RdR w a n c rs) (hV : Rd w b k d V) (hwid : ∀ i, i < n → (rs.getD i []).length = k + 1) (hn : n ≤ 1000) (hk : k ≤ 1000) :
    Calls Try.prog 38 #[.slice a n c, .slice b k d] w fun e w' => ∃ r : Bool, e = .returned (.bool r) ∧ (r = true ↔ ∀ i, i < n → okrow rs V k i) ∧ Below w.heap.size w w' := by
  have hcap := h.cap
  have hcapV := hV.cap
  go_enter Try.func38, Try.ntmps38
  go_wp2
  go_loopw [5] (fun i wr => ∃ m : Nat, m ≤ n ∧ i = .int .i64 m ∧ Hid (∀ i, i < m → okrow rs V k i) ∧ Below w.heap.size w wr) (fun i _ => n - (intOf i).toNat)
  case atStart => exact ⟨0, Nat.zero_le _, rfl, fun i hi => by omega, Below.refl _ _⟩
  case round =>
    obtain ⟨m, hm, rfl, HO, hbel⟩ := hrel
    obtain ⟨wo, hwo⟩ : ∃ wo, wo = wr := ⟨_, rfl⟩
    subst hwo
    by_cases hlt : m < n
    · obtain ⟨b1, o1, ai, ni, ci, row, rfl, hbb, HRow, hcr0, hrow⟩ := h.one hlt
      have hni : ni = k + 1 := by have := hwid m hlt; rw [HRow.out] at this; rw [← hrow.len]; exact this
      subst hni
      have HM : Hid (∀ j, mat rs m j = row.getD j 0) := fun j => by unfold mat; rw [HRow.out]
      go_wp2
      go_loopw [6, 7] (fun s j wr => ∃ (q : Nat) (x : Int), q ≤ k ∧ j = .int .i64 q ∧ s = .int .u64 x ∧ 0 ≤ x ∧ x ≤ 2147483646 ∧ Hid (x = nm (sm (fun j => mat rs m j * V.getD j 0) q)) ∧ Below w.heap.size w wr) (fun _ j _ => k - (intOf j).toNat)
      case atStart => exact ⟨0, 0, Nat.zero_le _, rfl, rfl, by omega, by omega, rfl, hbel⟩
      case round =>
        obtain ⟨q, x, hq, rfl, rfl, hx0, hx1, HX, hbel2⟩ := hrel
        have hcr : wr.cell? ⟨b1, o1 + m, none⟩ = some (.slice ai (k + 1) ci) := by rw [hbel2.cell hbb]; exact hcr0
        have hs2 := hbel2.size
        by_cases hqk : q < k
        · obtain ⟨b2, o2, y, rfl, hb2, HY, hy0, hy1, hcy⟩ := (hrow.below hbel2).one (show q < k + 1 by omega)
          obtain ⟨b3, o3, z, rfl, hb3, HZ, hz0, hz1, hcz⟩ := (hV.below hbel2).one hqk
          have hyz := nm_bd (y * z)
          have HX2 : Hid (nm (x + nm (y * z)) = nm (sm (fun j => mat rs m j * V.getD j 0) (q + 1))) := by
            rw [nm_addr, HX.out, nm_addl, sm, HM.out, HY.out, HZ.out]; rfl
          obtain ⟨x2, hx2⟩ : ∃ x2, x2 = nm (x + nm (y * z)) := ⟨_, rfl⟩
          have hxb2 := nm_bd (x + nm (y * z))
          clear hbb hcr0 HX
          go_wp2
          go_quiet ((first | (go_at_call 18; exact Calls.quiet_of_same (rMul _ _ _ (by omega) (by omega) (by omega) (by omega))) | (go_at_call 14; exact Calls.quiet_of_same (rAdd _ _ _ (by omega) (by omega) (by omega) (by omega)))))
          go_wp2
          go_roundw
          case rel => exact ⟨q + 1, _, by omega, by go_num, rfl, hxb2.1, hxb2.2, HX2, hdrewN hbel2 _⟩
          case measure => simp [intOf]; omega
        · have hqk2 : q = k := by omega
          subst hqk2
          obtain ⟨b2, o2, y, rfl, hb2, HY, hy0, hy1, hcy⟩ := (hrow.below hbel2).one (show q < q + 1 by omega)
          have hyb := nm_bd y
          by_cases he : x = nm y
          · have HO2 : Hid (∀ i, i < m + 1 → okrow rs V q i) := fun i hi => by
              by_cases e : i = m
              · unfold okrow; rw [e, ← HX.out, he, HM.out, HY.out]
              · exact HO.out i (by omega)
            have hb : (x == nm y) = true := by rw [beq_iff_eq]; exact he
            clear he
            go_wp2_with (first | (go_at_call 10; refine (rNorm _ _ (by omega) (by omega)).mono ?_; rintro e w' ⟨rfl, hw'⟩; have hw' := hw'.symm; subst hw') | fail)
            go_roundw
            case rel => exact ⟨m + 1, by omega, by go_num, HO2, hbel2⟩
            case measure => simp [intOf]; omega
          · have HN : Hid (¬ ∀ i, i < n → okrow rs V q i) := fun hall => he (by have := hall m hlt; unfold okrow at this; rw [← HX.out, HM.out, HY.out] at this; exact this)
            have hb : (x == nm y) = false := by rw [beq_eq_false_iff_ne]; exact he
            clear he
            go_wp2_with (first | (go_at_call 10; refine (rNorm _ _ (by omega) (by omega)).mono ?_; rintro e w' ⟨rfl, hw'⟩; have hw' := hw'.symm; subst hw') | fail)
            go_ret
            exact ⟨false, rfl, by simp only [Bool.false_eq_true, false_iff]; exact HN.out, hbel2⟩
    · have hmn : m = n := by omega
      subst hmn
      go_wp2
      go_ret
      exact ⟨true, rfl, by simp only [true_iff]; exact HO.out, hbel⟩
end
end Go.Proofs.Ytljlioglpaogdaa
