/- Equations that are made of values; one row more of the same; a wrong one more. -/
import Derived.Test.YtcfegjmmicgagadHoldsC
import Derived.Test.YtcfegjmmicgagadGaussR
namespace Go.Proofs.Ytcfegjmmicgagad
open Go.RowKit Crm

theorem ok_dep {rs : List (List Int)} {Y : List Int} {k n : Nat} (h : ∀ i, i < n → okrow rs Y k i) : dep (mat rs) n k :=
  ⟨fun j => Y.getD j 0, fun i hi => by
    have h1 := h i hi
    unfold okrow at h1
    rw [← h1]
    exact sm_ncongr fun j _ => by rw [Int.mul_comm]⟩
theorem okrow_nz {rs : List (List Int)} {Y : List Int} {k i : Nat} (h : okrow rs Y k i) : okrow rs (nz Y) k i := by
  unfold okrow at *
  rw [← h]
  exact sm_ncongr fun j _ => by rw [nz_getD]; exact nm_mulr _ _

theorem up_ge {L : List Nat} (h : L.Pairwise (· < ·)) : ∀ q, q < L.length → q ≤ L.getD q 0
  | 0, _ => Nat.zero_le _
  | q + 1, hq => by have := up_ge h q (by omega); have := getD_up h (show q < q + 1 by omega) hq; omega
theorem up_le {L : List Nat} {k : Nat} (h : L.Pairwise (· < ·)) (hb : ∀ j ∈ L, j < k) : ∀ d q, q + d + 1 = L.length → L.getD q 0 + d + 1 ≤ k
  | 0, q, hq => by have := hb _ (getN_mem (show q < L.length by omega)); omega
  | d + 1, q, hq => by have := up_le h hb d (q + 1) (by omega); have := getD_up h (show q < q + 1 by omega) (show q + 1 < L.length by omega); omega
theorem up_len {L : List Nat} {k : Nat} (h : L.Pairwise (· < ·)) (hb : ∀ j ∈ L, j < k) : L.length ≤ k := by
  by_cases e : L.length = 0
  · omega
  · have := up_le h hb (L.length - 1) 0 (by omega); omega
theorem up_all {L : List Nat} {k : Nat} (h : L.Pairwise (· < ·)) (hb : ∀ j ∈ L, j < k) (hl : L.length = k) {j : Nat} (hj : j < k) : j ∈ L := by
  have h1 := up_ge h j (by omega)
  have h2 := up_le h hb (k - 1 - j) j (by omega)
  have e : L.getD j 0 = j := by omega
  rw [← e]; exact getN_mem (by omega)

/-- The values themselves are what is told, where no column is a sum of others. -/
theorem found {rs : List (List Int)} {Y V : List Int} {k n : Nat} (hY : Y.length = k) (hok : ∀ i, i < n → okrow rs Y k i) (hS : Sol (mat rs) n k V) (hnd : ∀ j, j < k → ¬ dep (mat rs) n j) : V = nz Y := by
  refine sol_one (fun f => Iff.rfl) hS ⟨by rw [nz_len]; exact hY, nz_bd' Y, fun j hj _ => hnd j hj, ?_⟩
  exact (okrow_ns rs (nz Y) k n).1 fun i hi => okrow_nz (hok i hi)

theorem mat_old {B : List (List Int)} {b : List Int} {i : Nat} (h : i < B.length) (j : Nat) : mat (B ++ [b]) i j = mat B i j := by unfold mat; simp [List.getElem?_append_left h]
theorem mat_new (B : List (List Int)) (b : List Int) (j : Nat) : mat (B ++ [b]) B.length j = b.getD j 0 := by unfold mat; simp
theorem okrow_old {B : List (List Int)} {b Y : List Int} {k i : Nat} (h : i < B.length) : okrow (B ++ [b]) Y k i ↔ okrow B Y k i := by
  unfold okrow
  rw [mat_old h]
  have : (fun j => mat (B ++ [b]) i j * Y.getD j 0) = fun j => mat B i j * Y.getD j 0 := by funext j; rw [mat_old h]
  rw [this]
theorem okrow_new {B : List (List Int)} {b Y : List Int} {k : Nat} : okrow (B ++ [b]) Y k B.length ↔ nm (sm (fun j => b.getD j 0 * Y.getD j 0) k) = nm (b.getD k 0) := by
  unfold okrow
  rw [mat_new]
  have : (fun j => mat (B ++ [b]) B.length j * Y.getD j 0) = fun j => b.getD j 0 * Y.getD j 0 := by funext j; rw [mat_new]
  rw [this]

/-- A row more of the same says nothing new. -/
theorem ns_same {B : List (List Int)} {m q w : Nat} (hm : B.length = m) (hq : q < m) (f : Nat → Int) : NS (mat B) m w f ↔ NS (mat (B ++ [B.getD q []])) (m + 1) w f := by
  have e1 : ∀ i, i < m → sm (fun j => f j * mat (B ++ [B.getD q []]) i j) w = sm (fun j => f j * mat B i j) w := fun i hi => by
    congr 1; funext j; rw [mat_old (by omega)]
  have e2 : sm (fun j => f j * mat (B ++ [B.getD q []]) m j) w = sm (fun j => f j * mat B q j) w := by
    congr 1; funext j; rw [← hm, mat_new]; rfl
  constructor
  · intro h i hi
    by_cases e : i < m
    · rw [e1 i e]; exact h i e
    · rw [show i = m by omega, e2]; exact h q hq
  · intro h i hi
    rw [← e1 i hi]; exact h i (by omega)
/-- One that asks for something else can't be. -/
theorem dep_wrong {B : List (List Int)} {Y b : List Int} {m q k : Nat} {by_ : Int} (hm : B.length = m) (hq : q < m) (hok : ∀ i, i < m → okrow B Y k i) (hb : ∀ j, j < k → b.getD j 0 = (B.getD q []).getD j 0) (hbk : b.getD k 0 = nm ((B.getD q []).getD k 0 + by_)) :
    dep (mat (B ++ [b])) (m + 1) k ↔ nm by_ = 0 := by
  have e1 : ∀ (f : Nat → Int), sm (fun j => f j * mat (B ++ [b]) q j) k = sm (fun j => f j * mat B q j) k := fun f => by
    congr 1; funext j; rw [mat_old (by omega)]
  have e2 : ∀ (f : Nat → Int), nm (sm (fun j => f j * mat (B ++ [b]) m j) k) = nm (sm (fun j => f j * mat B q j) k) := fun f => sm_ncongr fun j hj => by
    rw [← hm, mat_new, hb j hj]; rfl
  constructor
  · rintro ⟨f, hf⟩
    have h1 := hf q (by omega)
    have h2 := hf m (by omega)
    rw [e1, mat_old (by omega)] at h1
    rw [e2, h1, ← hm, mat_new, hbk] at h2
    have h3 : nm (mat B q k) = nm (mat B q k + by_) := by rw [h2, nm_nm]; rfl
    unfold nm at *; omega
  · intro h0
    refine ok_dep (Y := Y) fun i hi => ?_
    by_cases e : i < m
    · exact (okrow_old (by omega)).2 (hok i e)
    · have h1 := hok q hq
      unfold okrow at h1
      rw [show i = B.length by omega, okrow_new, hbk, nm_nm]
      have e3 : nm (sm (fun j => b.getD j 0 * Y.getD j 0) k) = nm (sm (fun j => mat B q j * Y.getD j 0) k) := sm_ncongr fun j hj => by rw [hb j hj]; rfl
      rw [e3, h1]
      show nm ((B.getD q []).getD k 0) = nm ((B.getD q []).getD k 0 + by_)
      unfold nm at *; omega

/-- The two equations that the law itself brings. -/
theorem ex_sol : Sol (mat [[1, 1, 5], [1, 2147483646, 1]]) 2 2 [3, 2] := by
  refine ⟨rfl, fun x hx => by simp at hx; omega, fun j hj _ => ?_, fun i hi => ?_⟩
  · rintro ⟨f, hf⟩
    match j, hj with
    | 0, _ =>
      have h0 : nm 0 = nm 1 := hf 0 (by omega)
      exact absurd h0 (by decide)
    | 1, _ =>
      have h0 := hf 0 (by omega)
      have h1 := hf 1 (by omega)
      have e0 : sm (fun j => f j * mat [[1, 1, 5], [1, 2147483646, 1]] 0 j) 1 = 0 + f 0 * 1 := rfl
      have e1 : sm (fun j => f j * mat [[1, 1, 5], [1, 2147483646, 1]] 1 j) 1 = 0 + f 0 * 1 := rfl
      have e2 : mat [[1, 1, 5], [1, 2147483646, 1]] 0 1 = 1 := rfl
      have e3 : mat [[1, 1, 5], [1, 2147483646, 1]] 1 1 = 2147483646 := rfl
      rw [e0, e2] at h0
      rw [e1, e3] at h1
      unfold nm at *; omega
  · match i, hi with
    | 0, _ => decide
    | 1, _ => decide
theorem ex_dep : dep (mat [[1, 1, 5], [1, 2147483646, 1]]) 2 2 := ok_dep (Y := [3, 2]) fun i hi => by
  match i, hi with
  | 0, _ => show nm _ = nm _; decide
  | 1, _ => show nm _ = nm _; decide
end Go.Proofs.Ytcfegjmmicgagad
