/- croftref.Rest. · slices.Clone of numbers and of rows; croftref.Rest; a gathered list that is written in place. · What shares of a dealing tell: plain facts. -/
import Derived.Test.YtgmelcdgnjcojagDoorProg
import Derived.Test.YtgmelcdgnjcojagDoorToPolyM
import Derived.Test.YtgmelcdgnjcojagDoorToOpenG
import Derived.Test.YtgmelcdgnjcojagDoorToRestC
import Derived.Test.YtgmelcdgnjcojagDoorToEnR
namespace Go.Proofs.YtgmelcdgnjcojagDoor
open Go.RowKit

/-- A place of m. -/
def Placed (m : Nat) (e : Ending) : Prop := ∃ q : Nat, q < m ∧ e = .returned (.int .i64 q)
set_option maxRecDepth 100000 in
theorem rRest (i : Int) (m : Nat) (w : World) (hm : 0 < m) (hm2 : m ≤ 1000) :
    Calls Tryd.prog 36 #[.int .i64 i, .int .i64 m] w fun e w' => Placed m e ∧ w' = w := by
  have hm3 : ¬ (m : Int) = 0 := by omega
  have h1 : -(m : Int) < Int.tmod i m := by have := Int.lt_tmod_of_pos i (show (0 : Int) < m by omega); omega
  have h2 : Int.tmod i m < m := Int.tmod_lt_of_pos i (show (0 : Int) < m by omega)
  obtain ⟨r, hr⟩ : ∃ r, Int.tmod i m = r := ⟨_, rfl⟩
  rw [hr] at h1 h2
  by_cases h3 : r < 0
  · go_enter Tryd.func36, Tryd.ntmps36
    go_wp2
    go_ret
    exact ⟨⟨(r + m).toNat, by omega, by show Ending.returned (Value.int .i64 (r + m)) = _; rw [Int.toNat_of_nonneg (by omega)]⟩, rfl⟩
  · go_enter Tryd.func36, Tryd.ntmps36
    go_wp2
    go_ret
    exact ⟨⟨r.toNat, by omega, by show Ending.returned (Value.int .i64 r) = _; rw [Int.toNat_of_nonneg (by omega)]⟩, rfl⟩
end Go.Proofs.YtgmelcdgnjcojagDoor

namespace Go.Proofs.YtgmelcdgnjcojagDoor
open Go.RowKit

set_option maxHeartbeats 400000 in
set_option maxRecDepth 100000 in
theorem cClone (a : Option Addr) (n c : Nat) (xs : List Int) (w : World) (h : Rd w a n c xs) (hn : 0 < n) (hn2 : n ≤ 1000) :
    Calls Tryd.prog 14 #[.slice a n c] w fun e w' => ∃ v, e = .returned v ∧ w'.ownsRow w.heap.size 34 1 v n (xs.map (Value.int .u64)) ∧ Below w.heap.size w w' := by
  obtain ⟨i0, hi, hz0, hz1, hz2⟩ := info_parts infoU
  obtain ⟨b, o, rfl, hb, hc⟩ := h.at hn
  have hlen := h.len
  have hnil := fun W : World => eql_nil (P := Tryd.prog) W _ _ ⟨b, o, none⟩ n c Tryd.underlying22
  go_enter Tryd.func14, Tryd.ntmps14
  go_wp2_with (at_builtin; refine wpList_append_own _ rfl _ _ 22 rfl w.heap.size 34 i0 (.int .u64 0) 1 8 Tryd.underlying22 hi hz0 hz1 hz2 rfl (by decide) (.slice (some ⟨w.heap.size, 0, none⟩) 0 0) 0 [] (by rfl) (World.ownsRow_made w #[] 0 (Nat.le_refl _) (Nat.zero_le _) rfl) ⟨b, o, none⟩ n c (xs.map (Value.int .u64)) (by rfl) (by simp [hlen]) ?c1 ?c2 (by unfold maxLen; omega) (by omega) (by simp) ?_)
  case c1 =>
    intro j u hj
    have hjn : j < n := by have := (List.getElem?_eq_some_iff.1 hj).1; simp at this; omega
    have hu : u = .int .u64 (xs.getD j 0) := by
      simp [List.getElem?_eq_getElem (show j < xs.length by omega)] at hj
      rw [← hj]; simp [List.getElem?_eq_getElem (show j < xs.length by omega)]
    rw [hu, Addr.add_lit, World.cell?_of_block (w := w) (Below.heap_alloc _ _ _ hb)]
    exact hc j hjn
  case c2 => intro u hu; obtain ⟨x, _, rfl⟩ := List.mem_map.1 hu; rfl
  · intro v' w1 hown hgrow _
    have hbel : Below w.heap.size w w1 := ((Below.refl w.heap.size w).alloc (Nat.le_refl _) _).grown hgrow (by simp) (fun k hk => by simp [Value.ownBlock] at hk; omega)
    go_wp2
    go_ret
    exact ⟨_, rfl, hown, hbel⟩

end Go.Proofs.YtgmelcdgnjcojagDoor

namespace Go.Proofs.YtgmelcdgnjcojagDoor
open Crm

/-- Enough shares of a dealing open it. -/
theorem any_open {C : List Int} {l : List (Int × Int)} {n k : Nat} (hd : dis (fa l) n) (hk : k ≤ 4) (hkn : k < n) (hC : C.length ≤ k + 1) (hy : Hs l n C) {x r : Int} (h : Opn l n k x r) : x = nm (ev C 0) ∧ r = 0 := by
  have h1 : Opn l n k (nm (ev C 0)) 0 := Or.inr ⟨Or.inr (Or.inr (Or.inr ⟨⟨by omega, by omega⟩, hd, by omega, rfl⟩)), Or.inl ⟨C, by omega, hy, rfl, rfl⟩⟩
  exact h.one h1

/-- One wrong share among more than are needed is told. -/
theorem wrong_told {C : List Int} {l : List (Int × Int)} {m k q : Nat} {b : Int} (hk : k ≤ 4) (hC : C.length ≤ k + 1) (hm : k + 2 ≤ m) (hm9 : m ≤ 9) (hq : q < m) (hb : nm b ≠ 0)
    (hl : ∀ j, j < m → l.getD j (0, 0) = ((j : Int) + 1, if j = q then nm (dlf C j + b) else dlf C j)) {x r : Int} (h : Opn l m k x r) : r = 6 := by
  have hfa : ∀ j, j < m → fa l j = (j : Int) + 1 := fun j hj => by unfold fa; rw [hl j hj]
  have hd : dis (fa l) m := fun i hi => by
    rw [hfa i hi]
    exact ⟨⟨by omega, by omega⟩, fun j hj => by rw [hfa j (by omega)]; omega⟩
  have hS : She l m k 0 := Or.inr (Or.inr (Or.inr ⟨⟨by omega, by omega⟩, hd, by omega, rfl⟩))
  rcases h with ⟨h1, h2, _⟩ | ⟨_, ⟨S, h2, h3, _, _⟩ | ⟨_, _, h4⟩⟩
  · exact absurd (h1.one hS) h2
  · exfalso
    have hne : ∀ j, j < m - 1 → (if j < q then j else j + 1) < m ∧ (if j < q then j else j + 1) ≠ q := fun j hj => by split <;> omega
    have hw : ∀ j, j < m - 1 → ((List.range (m - 1)).map fun j => l.getD (if j < q then j else j + 1) (0, 0)).getD j (0, 0) = l.getD (if j < q then j else j + 1) (0, 0) := fun j hj => by simp [hj]
    have h5 := hs_one (l := (List.range (m - 1)).map fun j => l.getD (if j < q then j else j + 1) (0, 0)) (n := m - 1) (S := S) (R := C) (fun j hj => ?_) (fun j hj => ?_) (fun j hj => ?_) (by omega) (by omega)
    · have h6 := h3 q hq
      rw [hl q hq, if_pos rfl] at h6
      simp only at h6
      rw [ev_one h5, nm_nm] at h6
      have h7 : nm (dlf C q + b - ev C ((q : Int) + 1)) = 0 := by
        rw [nm_eq_iff] at h6
        unfold nm at h6 ⊢
        omega
      apply hb
      have h8 : nm (dlf C q + b) = nm (ev C ((q : Int) + 1) + b) := by unfold dlf; rw [nm_addl]
      rw [← nm_subl, h8, nm_subl] at h7
      rw [← h7]
      congr 1
      omega
    · rw [hw j hj, hl _ (hne j hj).1]
      refine ⟨⟨by simp only; split <;> omega, by simp only; split <;> omega⟩, fun p hp => ?_⟩
      rw [hw p (by omega), hl _ (hne p (by omega)).1]
      simp only
      split <;> split <;> omega
    · rw [hw j hj]
      exact h3 _ (hne j hj).1
    · rw [hw j hj, hl _ (hne j hj).1, if_neg (hne j hj).2]
      unfold dlf
      simp only
      rw [nm_nm]
  · exact h4
end Go.Proofs.YtgmelcdgnjcojagDoor
