/- What shares of a dealing tell: plain facts. · (*shamir.parties).join, shamir.Check. -/
import Derived.Test.YtiegggenfdebnabToDealC
import Derived.Test.YtiegggenfdebnabToShamirM
import Derived.Test.YtiegggenfdebnabToPlacedC
namespace Go.Proofs.Ytiegggenfdebnab
open Crm

/-- Enough shares of a dealing open it. -/
theorem any_open {C : List Int} {l : List (Int × Int)} {n k : Nat} (hd : dis (fa l) n) (hk : k ≤ 4) (hkn : k < n) (hC : C.length ≤ k + 1) (hy : Hs l n C) {x r : Int} (h : Opn l n k x r) : x = nm (ev C 0) ∧ r = 0 := by
  have h1 : Opn l n k (nm (ev C 0)) 0 := Or.inr ⟨Or.inr (Or.inr (Or.inr ⟨⟨by omega, by omega⟩, hd, by omega, rfl⟩)), Or.inl ⟨C, by omega, hy, rfl, rfl⟩⟩
  exact h.one h1

/-- One wrong share among more than are needed is told. -/
theorem wrong_told {C : List Int} {l : List (Int × Int)} {m k q : Nat} {b : Int} (hk : k ≤ 4) (hC : C.length ≤ k + 1) (hm : k + 2 ≤ m) (hm9 : m ≤ 9) (hq : q < m) (hb : nm b ≠ 0)
    (hl : ∀ j, j < m → l.getD j (0, 0) = ((j : Int) + 1, if j = q then nm (dlf C j + b) else dlf C j)) {x r : Int} (h : Opn l m k x r) : r = 6 := by
  have hfa : ∀ j, j < m → fa l j = (j : Int) + 1 := fun j hj => by unfold fa; rw [hl j hj]
  have hd : dis (fa l) m := fun i hi => by
    rw [hfa i hi]
    exact ⟨⟨by omega, by omega⟩, fun j hj => by rw [hfa j (by omega)]; omega⟩
  have hS : She l m k 0 := Or.inr (Or.inr (Or.inr ⟨⟨by omega, by omega⟩, hd, by omega, rfl⟩))
  rcases h with ⟨h1, h2, _⟩ | ⟨_, ⟨S, h2, h3, _, _⟩ | ⟨_, _, h4⟩⟩
  · exact absurd (h1.one hS) h2
  · exfalso
    have hne : ∀ j, j < m - 1 → (if j < q then j else j + 1) < m ∧ (if j < q then j else j + 1) ≠ q := fun j hj => by split <;> omega
    have hw : ∀ j, j < m - 1 → ((List.range (m - 1)).map fun j => l.getD (if j < q then j else j + 1) (0, 0)).getD j (0, 0) = l.getD (if j < q then j else j + 1) (0, 0) := fun j hj => by simp [hj]
    have h5 := hs_one (l := (List.range (m - 1)).map fun j => l.getD (if j < q then j else j + 1) (0, 0)) (n := m - 1) (S := S) (R := C) (fun j hj => ?_) (fun j hj => ?_) (fun j hj => ?_) (by omega) (by omega)
    · have h6 := h3 q hq
      rw [hl q hq, if_pos rfl] at h6
      simp only at h6
      rw [ev_one h5, nm_nm] at h6
      have h7 : nm (dlf C q + b - ev C ((q : Int) + 1)) = 0 := by
        rw [nm_eq_iff] at h6
        unfold nm at h6 ⊢
        omega
      apply hb
      have h8 : nm (dlf C q + b) = nm (ev C ((q : Int) + 1) + b) := by unfold dlf; rw [nm_addl]
      rw [← nm_subl, h8, nm_subl] at h7
      rw [← h7]
      congr 1
      omega
    · rw [hw j hj, hl _ (hne j hj).1]
      refine ⟨⟨by simp only; split <;> omega, by simp only; split <;> omega⟩, fun p hp => ?_⟩
      rw [hw p (by omega), hl _ (hne p (by omega)).1]
      simp only
      split <;> split <;> omega
    · rw [hw j hj]
      exact h3 _ (hne j hj).1
    · rw [hw j hj, hl _ (hne j hj).1, if_neg (hne j hj).2]
      unfold dlf
      simp only
      rw [nm_nm]
  · exact h4
end Go.Proofs.Ytiegggenfdebnab

namespace Go.Proofs.Ytiegggenfdebnab
open Go.RowKit Crm

/-- Row g holds the marks M. -/
def BlkB (w : World) (g : Nat) (M : List Bool) : Prop := w.heap[g]? = some (.cells (M.map Value.bool).toArray 98 (0, 0))
theorem BlkB.lt {w : World} {g : Nat} {M : List Bool} (h : BlkB w g M) : g < w.heap.size := (Array.getElem?_eq_some_iff.1 h).1
theorem BlkB.cell {w : World} {g : Nat} {M : List Bool} (h : BlkB w g M) {i : Nat} (hi : i < M.length) : w.cell? ⟨g, i, none⟩ = some (.bool (M.getD i false)) := by
  rw [cell_of_row w g i _ _ (0, 0) h]
  simp [List.getElem?_eq_getElem hi]
theorem BlkB.frozen {w : World} {g : Nat} {M : List Bool} (h : BlkB w g M) (i : Nat) : w.frozen? ⟨g, i, none⟩ = false := frozen_of_row w g i _ _ h
theorem BlkB.set {w : World} {g : Nat} {M : List Bool} (h : BlkB w g M) (i : Nat) (v : Bool) : BlkB (w.setCell ⟨g, i, none⟩ (.bool v)) g (M.set i v) := by
  have := heap_setCell_same w g i _ _ (.bool v) h
  unfold BlkB
  rw [this]
  simp [List.map_set]
theorem BlkB.below {w w' : World} {B g : Nat} {M : List Bool} (h : BlkB w g M) (hb : Below B w w') (hg : g < B) : BlkB w' g M := by
  unfold BlkB; rw [hb.block g hg]; exact h

set_option maxRecDepth 100000 in
theorem cJoinO (g : Nat) (x : Int) (w : World) (h : x < 1 ∨ 9 < x) :
    Calls Try.prog 55 #[.pointer (some ⟨g, 0, none⟩), .int .i64 x] w fun e w' => e = .returned (.bool false) ∧ w' = w := by
  by_cases h1 : x < 1
  · clear h
    go_enter Try.func55, Try.ntmps55
    go_wp2
    go_ret
    exact ⟨rfl, rfl⟩
  · have h2 : 9 < x := by omega
    clear h
    go_enter Try.func55, Try.ntmps55
    go_wp2
    go_ret
    exact ⟨rfl, rfl⟩
set_option maxRecDepth 100000 in
theorem cJoinN (g k : Nat) (M : List Bool) (w : World) (h : BlkB w g M) (hM : M.length = 10) (h1 : 1 ≤ k) (h9 : k ≤ 9) (hk : M.getD k false = true) :
    Calls Try.prog 55 #[.pointer (some ⟨g, 0, none⟩), .int .i64 k] w fun e w' => e = .returned (.bool false) ∧ w' = w := by
  have hc := h.cell (i := k) (by omega)
  rw [hk] at hc
  have hlt := h.lt
  go_enter Try.func55, Try.ntmps55
  go_wp2
  go_ret
  exact ⟨rfl, rfl⟩
set_option maxRecDepth 100000 in
theorem cJoinY (g k : Nat) (M : List Bool) (w : World) (h : BlkB w g M) (hM : M.length = 10) (h1 : 1 ≤ k) (h9 : k ≤ 9) (hk : M.getD k false = false) :
    Calls Try.prog 55 #[.pointer (some ⟨g, 0, none⟩), .int .i64 k] w fun e w' => e = .returned (.bool true) ∧ w' = w.setCell ⟨g, k, none⟩ (.bool true) := by
  have hc := h.cell (i := k) (by omega)
  rw [hk] at hc
  have hlt := h.lt
  have hfz := h.frozen k
  go_enter Try.func55, Try.ntmps55
  go_wp2
  go_ret
  exact ⟨rfl, rfl⟩
end Go.Proofs.Ytiegggenfdebnab
