/- Any shares of a dealing, and their weights: plain facts. -/
import Derived.Test.YtenbmdibbnlljadTellsM
import Derived.Test.YtenbmdibbnlljadCrewC
import Derived.Test.YtenbmdibbnlljadGaussM
namespace Go.Proofs.Ytenbmdibbnlljad
open Crm

theorem shl_mem {C : List Int} {m : Nat} {p : Int × Int} (h : p ∈ shl (dl C m) m) : ∃ i, i < m ∧ p = ((i : Int) + 1, dlf C i) := by
  obtain ⟨i, hi, rfl⟩ := List.mem_map.1 h
  have hi' : i < m := by simpa using hi
  exact ⟨i, hi', by rw [dl_getD C hi']⟩
theorem shl_pair (xs : List Int) (m : Nat) : (shl xs m).Pairwise (fun p q => p.1 ≠ q.1) := by
  unfold shl
  rw [List.pairwise_map, List.pairwise_iff_getElem]
  intro i j hi hj hij
  simp
  omega
/-- What was picked. -/
theorem picked_ok {C : List Int} {m K : Nat} {out rem : List (Int × Int)} (hm : m ≤ 9) (hlo : out.length = K) (hp : (out ++ rem).Perm (shl (dl C m) m)) :
    dis (fa out) K ∧ Hs out K C ∧ (∀ j, j < K → fy out j = nm (ev C (fa out j)) ∧ 0 ≤ fy out j ∧ fy out j ≤ 2147483646) := by
  have hmem : ∀ j, j < K → ∃ i, i < m ∧ out.getD j (0, 0) = ((i : Int) + 1, dlf C i) := fun j hj => by
    refine shl_mem (hp.subset (List.mem_append_left _ ?_))
    rw [List.getD_eq_getElem?_getD, List.getElem?_eq_getElem (show j < out.length by omega)]
    exact List.getElem_mem _
  have hpw : out.Pairwise (fun p q => p.1 ≠ q.1) := by
    have h1 := (hp.pairwise_iff (R := fun (p q : Int × Int) => p.1 ≠ q.1) (fun h => fun e => h e.symm)).2 (shl_pair (dl C m) m)
    exact (List.pairwise_append.1 h1).1
  have hval : ∀ j, j < K → fy out j = nm (ev C (fa out j)) ∧ 0 ≤ fy out j ∧ fy out j ≤ 2147483646 := fun j hj => by
    obtain ⟨i, _, e⟩ := hmem j hj
    unfold fy fa
    rw [e]
    exact ⟨rfl, (dlf_bd C i).1, (dlf_bd C i).2⟩
  refine ⟨fun j hj => ?_, fun j hj => ?_, hval⟩
  · obtain ⟨i, hi, e⟩ := hmem j hj
    refine ⟨by unfold fa; rw [e]; simp only; omega, fun q hq => ?_⟩
    have h2 := List.pairwise_iff_getElem.1 hpw q j (by omega) (by omega) hq
    unfold fa
    rw [List.getD_eq_getElem?_getD, List.getElem?_eq_getElem (show q < out.length by omega), List.getD_eq_getElem?_getD, List.getElem?_eq_getElem (show j < out.length by omega)]
    exact h2
  · have := (hval j hj).1
    unfold fy fa at this
    rw [this, nm_nm]

/-- The weights make of the values the value at 0. -/
theorem sum_wt {ts C : List Int} {K : Nat} (hd : dis (fi ts) K) (hC : C.length ≤ K) (y : Nat → Int) (hy : ∀ j, j < K → nm (y j) = nm (ev C (ts.getD j 0))) : nm (sm (fun i => wt ts K i * y i) K) = nm (ev C 0) := by
  have main : ∀ k, k ≤ K → ∃ R : List Int, R.length ≤ K ∧ (∀ j, j < K → nm (ev R (ts.getD j 0)) = if j < k then nm (y j) else 0) ∧ nm (ev R 0) = nm (sm (fun i => wt ts K i * y i) k) := by
    intro k
    induction k with
    | zero => exact fun _ => ⟨[], Nat.zero_le _, fun j _ => by rw [if_neg (by omega)]; rfl, rfl⟩
    | succ k ih =>
      intro hk
      obtain ⟨R, r1, r2, r3⟩ := ih (by omega)
      obtain ⟨Q, q1, q2, q3⟩ := wt_wgt hd (show k < K by omega)
      have hev : ∀ x, nm (ev (sml R (cvl [y k] Q)) x) = nm (ev R x + y k * ev Q x) := fun x => by
        rw [sml_ev]
        refine nm_add_congr rfl ?_
        rw [cvl_ev, ev, ev, Int.mul_zero, Int.add_zero]
      refine ⟨sml R (cvl [y k] Q), ?_, fun j hj => ?_, ?_⟩
      · rw [sml_len, cvl_len, List.length_singleton]; omega
      · rw [hev]
        have h1 := q2 j hj
        have h2 := r2 j hj
        by_cases e : j = k
        · subst e
          rw [if_pos rfl] at h1
          rw [if_neg (by omega)] at h2
          rw [if_pos (by omega), nm_add_congr (c := 0) (d := y j * 1) h2 (nm_mul_congr rfl (by rw [h1]; rfl)), Int.zero_add, Int.mul_one]
        · rw [if_neg e] at h1
          rw [nm_add_congr (c := ev R (ts.getD j 0)) (d := y k * 0) rfl (nm_mul_congr rfl (by rw [h1]; rfl)), Int.mul_zero, Int.add_zero, h2]
          by_cases e2 : j < k
          · rw [if_pos e2, if_pos (by omega)]
          · rw [if_neg e2, if_neg (by omega)]
      · rw [hev, sm]
        refine nm_add_congr r3 ?_
        rw [q3, nm_mull, Int.mul_comm]
  obtain ⟨R, r1, r2, r3⟩ := main K (Nat.le_refl _)
  rw [← r3]
  have hw : ∀ j, j < K → ((List.range K).map fun k => (ts.getD k 0, y k)).getD j (0, 0) = (ts.getD j 0, y j) := fun j hj => by simp [hj]
  refine ev_one (hs_one (l := (List.range K).map fun k => (ts.getD k 0, y k)) (n := K) (fun j hj => ?_) (fun j hj => ?_) (fun j hj => ?_) r1 hC) 0
  · rw [hw j hj]
    refine ⟨⟨(hd j hj).1.1, by have := (hd j hj).1.2; unfold fi at this; simp only; omega⟩, fun q hq => ?_⟩
    rw [hw q (by omega)]
    exact (hd j hj).2 q hq
  · rw [hw j hj]
    simp only
    rw [r2 j hj, if_pos hj]
  · rw [hw j hj]
    simp only
    exact (hy j hj).symm
end Go.Proofs.Ytenbmdibbnlljad
