/- shamir.Check. · hide.different. -/
import Derived.Test.YtnofegdlainjaacToShamirM
import Derived.Test.YtnofegdlainjaacToPlacedC
import Derived.Test.YtnofegdlainjaacToHdDef
namespace Go.Proofs.Ytnofegdlainjaac
open Go.RowKit Crm

/-- M marks who has come. -/
structure Mk (f : Nat → Int) (k : Nat) (M : List Bool) : Prop where
  len : M.length = 10
  mark : ∀ p : Nat, 1 ≤ p → p ≤ 9 → (M.getD p false = true ↔ ∃ j, j < k ∧ f j = (p : Int))
  dis : dis f k
theorem mk_start (f : Nat → Int) : Mk f 0 (List.replicate 10 false) := by
  refine ⟨rfl, fun p _ h9 => ?_, dis_zero f⟩
  have : (List.replicate 10 false).getD p false = false := by
    rw [List.getD_eq_getElem?_getD, List.getElem?_replicate]; split <;> rfl
  rw [this]
  constructor
  · intro h; cases h
  · rintro ⟨j, hj, _⟩; omega
theorem mk_step {f : Nat → Int} {k : Nat} {M : List Bool} {p : Nat} (h : Mk f k M) (hp : f k = (p : Int)) (h1 : 1 ≤ p) (h9 : p ≤ 9) (hm : M.getD p false = false) : Mk f (k + 1) (M.set p true) := by
  have hno : ∀ j, j < k → f j ≠ (p : Int) := fun j hj e => by
    have := (h.mark p h1 h9).2 ⟨j, hj, e⟩
    rw [hm] at this; cases this
  refine ⟨by rw [List.length_set]; exact h.len, fun q q1 q9 => ?_, dis_succ h.dis hp (by omega) (by omega) hno⟩
  have hl := h.len
  by_cases e : q = p
  · subst e
    have : (M.set q true).getD q false = true := by simp [show q < M.length by omega]
    rw [this]
    exact ⟨fun _ => ⟨k, by omega, hp⟩, fun _ => rfl⟩
  · have : (M.set p true).getD q false = M.getD q false := by
      simp [show ¬ p = q from fun e' => e e'.symm]
    rw [this, h.mark q q1 q9]
    constructor
    · rintro ⟨j, hj, e⟩; exact ⟨j, by omega, e⟩
    · rintro ⟨j, hj, e'⟩
      by_cases ej : j = k
      · subst ej; rw [hp] at e'; omega
      · exact ⟨j, by omega, e'⟩
theorem mk_twice {f : Nat → Int} {k n : Nat} {M : List Bool} {p : Nat} (h : Mk f k M) (hk : k < n) (hp : f k = (p : Int)) (h1 : 1 ≤ p) (h9 : p ≤ 9) (hm : M.getD p false = true) : ¬ Go.Proofs.Ytnofegdlainjaac.dis f n := fun hd => by
  obtain ⟨j, hj, e⟩ := (h.mark p h1 h9).1 hm
  exact (hd k hk).2 j hj (by rw [e, hp])
theorem mk_out {f : Nat → Int} {k n : Nat} {x : Int} (hk : k < n) (hx : f k = x) (h : x < 1 ∨ 9 < x) : ¬ Go.Proofs.Ytnofegdlainjaac.dis f n := fun hd => by
  have := (hd k hk).1
  omega

end Go.Proofs.Ytnofegdlainjaac

namespace Go.Proofs.Ytnofegdlainjaac
open Go.RowKit Crm

/-- Row g holds the marks M. -/
def BlkT (w : World) (g : Nat) (M : List Bool) : Prop := w.heap[g]? = some (.cells (M.map Value.bool).toArray 52 (0, 0))
theorem BlkT.lt {w : World} {g : Nat} {M : List Bool} (h : BlkT w g M) : g < w.heap.size := (Array.getElem?_eq_some_iff.1 h).1
theorem BlkT.cell {w : World} {g : Nat} {M : List Bool} (h : BlkT w g M) {i : Nat} (hi : i < M.length) : w.cell? ⟨g, i, none⟩ = some (.bool (M.getD i false)) := by
  rw [cell_of_row w g i _ _ (0, 0) h]
  simp [List.getElem?_eq_getElem hi]
theorem BlkT.frozen {w : World} {g : Nat} {M : List Bool} (h : BlkT w g M) (i : Nat) : w.frozen? ⟨g, i, none⟩ = false := frozen_of_row w g i _ _ h
theorem BlkT.set {w : World} {g : Nat} {M : List Bool} (h : BlkT w g M) (i : Nat) (v : Bool) : BlkT (w.setCell ⟨g, i, none⟩ (.bool v)) g (M.set i v) := by
  have := heap_setCell_same w g i _ _ (.bool v) h
  unfold BlkT
  rw [this]
  simp [List.map_set]

set_option maxRecDepth 100000 in
set_option maxHeartbeats 1000000 in
theorem hDifferent (a : Option Addr) (n c : Nat) (ts : List Int) (w : World) (h : RdI w a n c ts) :
    Calls Try.prog 25 #[.slice a n c] w fun e w' => Tells (dis (fi ts) n) w e w' := by
  have hcap := h.cap
  have hmax := h.max
  unfold maxLen at hmax
  go_enter Try.func25, Try.ntmps25
  go_wp2
  go_loopw [8] (fun i wr => ∃ (k : Nat) (M : List Bool), k ≤ n ∧ i = .int .i64 k ∧ Hid (Mk (fi ts) k M) ∧ BlkT wr w.heap.size M ∧ Below w.heap.size w wr) (fun i _ => n - (intOf i).toNat)
  case atStart => exact ⟨0, _, Nat.zero_le _, rfl, mk_start _, heap_alloc_new w _, (Below.refl _ _).alloc (Nat.le_refl _) _⟩
  case round =>
    obtain ⟨k, M, hk, rfl, HM, hB, hbel⟩ := hrel
    have hlM := HM.out.len
    have hltB := hB.lt
    by_cases hlt : k < n
    · obtain ⟨b, o, x, rfl, hbb, HX, hx0, hx1, hcx⟩ := (h.below hbel).one hlt
      by_cases hx2 : x < 1
      · have HN : Hid (¬ dis (fi ts) n) := mk_out hlt HX.out (.inl hx2)
        go_wp2
        go_ret
        exact .no HN.out hbel
      · by_cases hx9 : 9 < x
        · have HN : Hid (¬ dis (fi ts) n) := mk_out hlt HX.out (.inr hx9)
          go_wp2
          go_ret
          exact .no HN.out hbel
        · obtain ⟨p, rfl⟩ : ∃ p : Nat, x = p := ⟨x.toNat, by omega⟩
          have hcp := hB.cell (i := p) (by omega)
          cases hm : M.getD p false with
          | true =>
            have HN : Hid (¬ dis (fi ts) n) := mk_twice HM.out hlt HX.out (by omega) (by omega) hm
            rw [hm] at hcp
            clear hm
            go_wp2
            go_ret
            exact .no HN.out hbel
          | false =>
            have HM2 : Hid (Mk (fi ts) (k + 1) (M.set p true)) := mk_step HM.out HX.out (by omega) (by omega) hm
            rw [hm] at hcp
            have hfz := hB.frozen p
            have hB3 := hB.set p true
            have hbel3 := below_grown hbel (grown_set wr w.heap.size p (.bool true)) (Nat.le_refl _)
            clear hm hB hbel
            go_wp2
            go_roundw
            case rel => exact ⟨k + 1, _, by omega, by go_num, HM2, hB3, hbel3⟩
            case measure => simp [intOf]; omega
    · have hkn : k = n := by omega
      subst hkn
      have HD : Hid (dis (fi ts) k) := HM.out.dis
      go_wp2
      go_ret
      exact .yes HD.out hbel
end Go.Proofs.Ytnofegdlainjaac
