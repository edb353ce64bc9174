/- What shares of a dealing tell: plain facts. · croftref.Rest. · What make and copy leave. -/
import Derived.Test.YtnofegdlainjaagDoorToDealC
import Derived.Test.YtnofegdlainjaagDoorProg
import Derived.Test.YtnofegdlainjaagDoorToPolyM
import Derived.Laws.CopyOwn
namespace Go.Proofs.YtnofegdlainjaagDoor
open Crm

/-- Enough shares of a dealing open it. -/
theorem any_open {C : List Int} {l : List (Int × Int)} {n k : Nat} (hd : dis (fa l) n) (hk : k ≤ 4) (hkn : k < n) (hC : C.length ≤ k + 1) (hy : Hs l n C) {x r : Int} (h : Opn l n k x r) : x = nm (ev C 0) ∧ r = 0 := by
  have h1 : Opn l n k (nm (ev C 0)) 0 := Or.inr ⟨Or.inr (Or.inr (Or.inr ⟨⟨by omega, by omega⟩, hd, by omega, rfl⟩)), Or.inl ⟨C, by omega, hy, rfl, rfl⟩⟩
  exact h.one h1

/-- One wrong share among more than are needed is told. -/
theorem wrong_told {C : List Int} {l : List (Int × Int)} {m k q : Nat} {b : Int} (hk : k ≤ 4) (hC : C.length ≤ k + 1) (hm : k + 2 ≤ m) (hm9 : m ≤ 9) (hq : q < m) (hb : nm b ≠ 0)
    (hl : ∀ j, j < m → l.getD j (0, 0) = ((j : Int) + 1, if j = q then nm (dlf C j + b) else dlf C j)) {x r : Int} (h : Opn l m k x r) : r = 6 := by
  have hfa : ∀ j, j < m → fa l j = (j : Int) + 1 := fun j hj => by unfold fa; rw [hl j hj]
  have hd : dis (fa l) m := fun i hi => by
    rw [hfa i hi]
    exact ⟨⟨by omega, by omega⟩, fun j hj => by rw [hfa j (by omega)]; omega⟩
  have hS : She l m k 0 := Or.inr (Or.inr (Or.inr ⟨⟨by omega, by omega⟩, hd, by omega, rfl⟩))
  rcases h with ⟨h1, h2, _⟩ | ⟨_, ⟨S, h2, h3, _, _⟩ | ⟨_, _, h4⟩⟩
  · exact absurd (h1.one hS) h2
  · exfalso
    have hne : ∀ j, j < m - 1 → (if j < q then j else j + 1) < m ∧ (if j < q then j else j + 1) ≠ q := fun j hj => by split <;> omega
    have hw : ∀ j, j < m - 1 → ((List.range (m - 1)).map fun j => l.getD (if j < q then j else j + 1) (0, 0)).getD j (0, 0) = l.getD (if j < q then j else j + 1) (0, 0) := fun j hj => by simp [hj]
    have h5 := hs_one (l := (List.range (m - 1)).map fun j => l.getD (if j < q then j else j + 1) (0, 0)) (n := m - 1) (S := S) (R := C) (fun j hj => ?_) (fun j hj => ?_) (fun j hj => ?_) (by omega) (by omega)
    · have h6 := h3 q hq
      rw [hl q hq, if_pos rfl] at h6
      simp only at h6
      rw [ev_one h5, nm_nm] at h6
      have h7 : nm (dlf C q + b - ev C ((q : Int) + 1)) = 0 := by
        rw [nm_eq_iff] at h6
        unfold nm at h6 ⊢
        omega
      apply hb
      have h8 : nm (dlf C q + b) = nm (ev C ((q : Int) + 1) + b) := by unfold dlf; rw [nm_addl]
      rw [← nm_subl, h8, nm_subl] at h7
      rw [← h7]
      congr 1
      omega
    · rw [hw j hj, hl _ (hne j hj).1]
      refine ⟨⟨by simp only; split <;> omega, by simp only; split <;> omega⟩, fun p hp => ?_⟩
      rw [hw p (by omega), hl _ (hne p (by omega)).1]
      simp only
      split <;> split <;> omega
    · rw [hw j hj]
      exact h3 _ (hne j hj).1
    · rw [hw j hj, hl _ (hne j hj).1, if_neg (hne j hj).2]
      unfold dlf
      simp only
      rw [nm_nm]
  · exact h4
end Go.Proofs.YtnofegdlainjaagDoor

namespace Go.Proofs.YtnofegdlainjaagDoor
open Go.RowKit

/-- A place of m. -/
def Placed (m : Nat) (e : Ending) : Prop := ∃ q : Nat, q < m ∧ e = .returned (.int .i64 q)
set_option maxRecDepth 100000 in
theorem rRest (i : Int) (m : Nat) (w : World) (hm : 0 < m) (hm2 : m ≤ 1000) :
    Calls Tryd.prog 35 #[.int .i64 i, .int .i64 m] w fun e w' => Placed m e ∧ w' = w := by
  have hm3 : ¬ (m : Int) = 0 := by omega
  have h1 : -(m : Int) < Int.tmod i m := by have := Int.lt_tmod_of_pos i (show (0 : Int) < m by omega); omega
  have h2 : Int.tmod i m < m := Int.tmod_lt_of_pos i (show (0 : Int) < m by omega)
  obtain ⟨r, hr⟩ : ∃ r, Int.tmod i m = r := ⟨_, rfl⟩
  rw [hr] at h1 h2
  by_cases h3 : r < 0
  · go_enter Tryd.func35, Tryd.ntmps35
    go_wp2
    go_ret
    exact ⟨⟨(r + m).toNat, by omega, by show Ending.returned (Value.int .i64 (r + m)) = _; rw [Int.toNat_of_nonneg (by omega)]⟩, rfl⟩
  · go_enter Tryd.func35, Tryd.ntmps35
    go_wp2
    go_ret
    exact ⟨⟨r.toNat, by omega, by show Ending.returned (Value.int .i64 r) = _; rw [Int.toNat_of_nonneg (by omega)]⟩, rfl⟩
end Go.Proofs.YtnofegdlainjaagDoor

namespace Go.Proofs.YtnofegdlainjaagDoor
open Go.RowKit

/-- The first k numbers of a row, with noughts where it has none. -/
def padded (xs : List Int) (k : Nat) : List Int := xs.take k ++ List.replicate (k - xs.length) 0
theorem padded_len (xs : List Int) (k : Nat) : (padded xs k).length = k := by unfold padded; simp; omega
theorem padded_bd {xs : List Int} (h : ∀ x ∈ xs, 0 ≤ x ∧ x ≤ 18446744073709551615) (k : Nat) : ∀ x ∈ padded xs k, 0 ≤ x ∧ x ≤ 18446744073709551615 := fun x hx => by
  unfold padded at hx
  rcases List.mem_append.1 hx with h1 | h1
  · exact h x (List.mem_of_mem_take h1)
  · rw [List.eq_of_mem_replicate h1]; omega
theorem padded_splice (xs : List Int) (k : Nat) : Go.splice ((List.replicate k (0 : Int)).map (Value.int .u64)) 0 ((xs.take k).map (Value.int .u64)) = (padded xs k).map (Value.int .u64) := by
  unfold Go.splice padded
  simp
  omega

/-- What copy reads. -/
theorem copy_src {w : World} {a : Option Addr} {n c : Nat} {xs : List Int} (h : Rd w a n c xs) (k : Nat) (hp : 0 < ((xs.take k).map (Value.int .u64)).length) : ∃ ad, a = some ad ∧ ∀ j v, ((xs.take k).map (Value.int .u64))[j]? = some v → w.cell? (ad.add j) = some v := by
  have hl := h.len
  have hn : 0 < n := by simp at hp; omega
  obtain ⟨b, o, rfl, _, hc⟩ := h.at hn
  refine ⟨_, rfl, fun j v hj => ?_⟩
  have hjl := (List.getElem?_eq_some_iff.1 hj).1
  simp at hjl
  have hv : v = .int .u64 (xs.getD j 0) := by
    rw [List.getElem?_map, List.getElem?_take, if_pos (by omega), List.getElem?_eq_getElem (show j < xs.length by omega)] at hj
    rw [List.getD_eq_getElem?_getD, List.getElem?_eq_getElem (show j < xs.length by omega)]
    exact (Option.some.inj hj).symm
  rw [hv, Addr.add_lit]
  exact hc j (by omega)
theorem copy_len {xs : List Int} {n k : Nat} (h : xs.length = n) : ((xs.take k).map (Value.int .u64)).length = Nat.min n k := by
  show _ = min n k
  simp; omega
theorem one_ints (xs : List Int) : ∀ v ∈ xs.map (Value.int .u64), v.oneCell' = true := fun v hv => by obtain ⟨x, _, rfl⟩ := List.mem_map.1 hv; rfl
end Go.Proofs.YtnofegdlainjaagDoor
