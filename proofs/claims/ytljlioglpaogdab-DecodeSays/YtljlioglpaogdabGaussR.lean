/- GAUSS by rows: what row steps keep; what the rows tell once they are reduced. Plain. -/
import Derived.Test.YtljlioglpaogdabToGaussM
namespace Crm
set_option linter.unusedVariables false
set_option maxRecDepth 100000
set_option maxHeartbeats 8000000
theorem sm_pick (F : Nat → Int) (a : Nat) : ∀ n, sm (fun j => if a = j then F j else 0) n = if a < n then F a else 0
  | 0 => by rw [sm, if_neg (by omega)]
  | n + 1 => by
    rw [sm, sm_pick F a n]
    by_cases h1 : a < n
    · rw [if_pos h1, if_neg (by omega), if_pos (by omega), Int.add_zero]
    · by_cases h2 : a = n
      · subst h2; rw [if_neg h1, if_pos rfl, if_pos (by omega), Int.zero_add]
      · rw [if_neg h1, if_neg h2, if_neg (by omega)]; rfl
theorem sm_mulr (f : Nat → Int) (x : Int) (n : Nat) : sm f n * x = sm (fun j => f j * x) n := by
  rw [Int.mul_comm, ← sm_mul]; congr 1; funext j; rw [Int.mul_comm]

/-- Where the rows stand ahead of column c. -/
structure RrI (M A : Nat → Nat → Int) (r w c : Nat) (L : List Nat) : Prop where
  ns : ∀ f, NS M r w f ↔ NS A r w f
  kr : L.length ≤ r
  lt : ∀ j ∈ L, j < c
  up : L.Pairwise (· < ·)
  one : ∀ q i, q < L.length → i < r → nm (A i (L.getD q 0)) = if i = q then 1 else 0
  z : ∀ i j, L.length ≤ i → i < r → j < c → nm (A i j) = 0
  lead : ∀ j, j < c → (j ∈ L ↔ ¬ dep M r j)

theorem ns_congr {M A : Nat → Nat → Int} {r w : Nat} (h : ∀ i j, i < r → j < w → nm (A i j) = nm (M i j)) (f : Nat → Int) : NS M r w f ↔ NS A r w f := by
  have e : ∀ i, i < r → nm (sm (fun j => f j * M i j) w) = nm (sm (fun j => f j * A i j) w) := fun i hi => sm_ncongr fun j hj => nm_mul_congr rfl (h i j hi hj).symm
  exact ⟨fun hf i hi => by rw [← e i hi]; exact hf i hi, fun hf i hi => by rw [e i hi]; exact hf i hi⟩
theorem rr_start {M A : Nat → Nat → Int} {r w : Nat} (h : ∀ i j, i < r → j < w → nm (A i j) = nm (M i j)) : RrI M A r w 0 [] :=
  ⟨ns_congr h, Nat.zero_le _, by simp, List.Pairwise.nil, fun q i hq => by simp at hq, fun i j _ _ hj => by omega, fun j hj => by omega⟩

/-- What is told for the variables from the column v, by the rows of the columns that lead. -/
def tell (A : Nat → Nat → Int) (L : List Nat) (v m j : Nat) : Int := sm (fun q => if L.getD q 0 = j then A q v else 0) m

theorem getN_mem {L : List Nat} {q : Nat} (h : q < L.length) : L.getD q 0 ∈ L := by
  rw [List.getD_eq_getElem?_getD, List.getElem?_eq_getElem h]; exact List.getElem_mem h
theorem getD_up {L : List Nat} (h : L.Pairwise (· < ·)) {q m : Nat} (hqm : q < m) (hm : m < L.length) : L.getD q 0 < L.getD m 0 := by
  rw [List.pairwise_iff_getElem] at h
  have := h q m (by omega) hm hqm
  rw [List.getD_eq_getElem?_getD, List.getD_eq_getElem?_getD, List.getElem?_eq_getElem (show q < L.length by omega), List.getElem?_eq_getElem hm]
  exact this

/-- The sum of the columns, each times what is told for it, is the column v in the rows of those that lead. -/
theorem tell_sum {M A : Nat → Nat → Int} {r w c : Nat} {L : List Nat} (h : RrI M A r w c L) (v i : Nat) (hi : i < r) : nm (sm (fun j => tell A L v L.length j * A i j) c) = if i < L.length then nm (A i v) else 0 := by
  have e1 : sm (fun j => tell A L v L.length j * A i j) c = sm (fun q => sm (fun j => (if L.getD q 0 = j then A q v else 0) * A i j) c) L.length := by
    rw [← sm_swap]
    congr 1; funext j
    unfold tell
    rw [sm_mulr]
  have e2 : ∀ q, q < L.length → nm (sm (fun j => (if L.getD q 0 = j then A q v else 0) * A i j) c) = nm (if i = q then A q v else 0) := fun q hq => by
    have e3 : (fun j => (if L.getD q 0 = j then A q v else 0) * A i j) = fun j => if L.getD q 0 = j then A q v * A i j else 0 := by
      funext j; split
      · rfl
      · rw [Int.zero_mul]
    rw [e3, sm_pick (fun j => A q v * A i j), if_pos (h.lt _ (getN_mem hq)), nm_mul_congr (c := A q v) (d := if i = q then 1 else 0) rfl (by rw [h.one q i hq hi]; split <;> rfl)]
    split
    · rw [Int.mul_one]
    · rw [Int.mul_zero]
  rw [e1, sm_ncongr e2, sm_pick (fun q => A q v)]
  split <;> rfl

/-- A column that has nothing in the rows behind is a sum of those ahead. -/
theorem rr_dep {M A : Nat → Nat → Int} {r w c : Nat} {L : List Nat} (h : RrI M A r w c L) (hc : c < w) : (∀ i, L.length ≤ i → i < r → nm (A i c) = 0) ↔ dep M r c := by
  rw [dep_congr h.ns hc]
  constructor
  · intro hz
    refine ⟨tell A L c L.length, fun i hi => ?_⟩
    rw [tell_sum h c i hi]
    split
    · rfl
    · exact (hz i (by omega) hi).symm
  · rintro ⟨f, hf⟩ i h1 h2
    rw [← hf i h2]
    exact sm_zero fun j hj => by rw [nm_mul_congr (d := 0) rfl (h.z i j h1 h2 hj), Int.mul_zero]; rfl
theorem rr_skip {M A : Nat → Nat → Int} {r w c : Nat} {L : List Nat} (h : RrI M A r w c L) (hc : c < w) (hz : ∀ i, L.length ≤ i → i < r → nm (A i c) = 0) : RrI M A r w (c + 1) L := by
  have hd := (rr_dep h hc).1 hz
  refine ⟨h.ns, h.kr, fun j hj => Nat.lt_succ_of_lt (h.lt j hj), h.up, h.one, fun i j h1 h2 h3 => ?_, fun j hj => ?_⟩
  · by_cases e : j = c
    · rw [e]; exact hz i h1 h2
    · exact h.z i j h1 h2 (by omega)
  · by_cases e : j = c
    · subst e
      exact ⟨fun hh => absurd (h.lt j hh) (by omega), fun hh => absurd hd hh⟩
    · exact h.lead j (by omega)

/-- A row that leads is put first and made 1 in its column. -/
theorem ns_lead {A A1 : Nat → Nat → Int} {r w k p : Nat} {u x : Int} (hk : k < r) (hp : p < r) (hu : nm (u * x) = 1)
    (h1 : ∀ i j, i < r → j < w → nm (A1 i j) = nm (if i = k then A p j * u else if i = p then A k j else A i j)) (f : Nat → Int) : NS A r w f ↔ NS A1 r w f := by
  have ek : nm (sm (fun j => f j * A1 k j) w) = nm (sm (fun j => f j * A p j) w * u) := by
    rw [sm_mulr]
    exact sm_ncongr fun j hj => by rw [nm_mul_congr (c := f j) rfl (h1 k j hk hj), if_pos rfl, Int.mul_assoc]
  have ep : p ≠ k → nm (sm (fun j => f j * A1 p j) w) = nm (sm (fun j => f j * A k j) w) := fun hne =>
    sm_ncongr fun j hj => by rw [nm_mul_congr (c := f j) rfl (h1 p j hp hj), if_neg hne, if_pos rfl]
  have eo : ∀ i, i < r → i ≠ k → i ≠ p → nm (sm (fun j => f j * A1 i j) w) = nm (sm (fun j => f j * A i j) w) := fun i hi h2 h3 =>
    sm_ncongr fun j hj => by rw [nm_mul_congr (c := f j) rfl (h1 i j hi hj), if_neg h2, if_neg h3]
  constructor
  · intro hf i hi
    by_cases e : i = k
    · subst e
      rw [ek, nm_mul_congr (c := 0) (hf p hp) rfl, Int.zero_mul]; rfl
    · by_cases e2 : i = p
      · subst e2; rw [ep e]; exact hf k hk
      · rw [eo i hi e e2]; exact hf i hi
  · intro hf i hi
    by_cases e2 : i = p
    · subst e2
      have h0 : nm (sm (fun j => f j * A i j) w * u) = 0 := by rw [← ek]; exact hf k hk
      have h3 : nm (sm (fun j => f j * A i j) w * u * x) = 0 := by rw [nm_mul_congr (c := 0) h0 rfl, Int.zero_mul]; rfl
      rw [Int.mul_assoc, nm_mul_congr (d := 1) rfl (by rw [hu]; rfl), Int.mul_one] at h3
      exact h3
    · by_cases e : i = k
      · subst e; rw [← ep (fun h => e2 h.symm)]; exact hf p hp
      · rw [← eo i hi e e2]; exact hf i hi
/-- The row that leads, times some number, is taken from all others. -/
theorem ns_take {A1 A2 : Nat → Nat → Int} {r w k : Nat} {t : Nat → Int} (hk : k < r)
    (h2 : ∀ i j, i < r → j < w → nm (A2 i j) = nm (if i = k then A1 k j else A1 i j - t i * A1 k j)) (f : Nat → Int) : NS A1 r w f ↔ NS A2 r w f := by
  have ek : nm (sm (fun j => f j * A2 k j) w) = nm (sm (fun j => f j * A1 k j) w) := sm_ncongr fun j hj => by rw [nm_mul_congr (c := f j) rfl (h2 k j hk hj), if_pos rfl]
  have eo : ∀ i, i < r → i ≠ k → nm (sm (fun j => f j * A2 i j) w) = nm (sm (fun j => f j * A1 i j) w + (-t i) * sm (fun j => f j * A1 k j) w) := fun i hi hne => by
    rw [← sm_mul, ← sm_add]
    exact sm_ncongr fun j hj => by
      rw [nm_mul_congr (c := f j) rfl (h2 i j hi hj), if_neg hne, Int.mul_sub, Int.neg_mul, ← Int.mul_assoc, Int.mul_comm (f j) (t i), Int.mul_assoc, Int.sub_eq_add_neg]
  constructor
  · intro hf i hi
    by_cases e : i = k
    · subst e; rw [ek]; exact hf i hi
    · rw [eo i hi e, nm_add_congr (c := 0) (d := -t i * 0) (hf i hi) (nm_mul_congr rfl (hf k hk)), Int.mul_zero]; rfl
  · intro hf i hi
    by_cases e : i = k
    · subst e; rw [← ek]; exact hf i hi
    · have hk0 : nm (sm (fun j => f j * A1 k j) w) = 0 := by rw [← ek]; exact hf k hk
      have h0 := hf i hi
      rw [eo i hi e, nm_add_congr (c := sm (fun j => f j * A1 i j) w) (d := -t i * 0) rfl (nm_mul_congr rfl hk0), Int.mul_zero, Int.add_zero] at h0
      exact h0

theorem rr_lead {M A A1 A2 : Nat → Nat → Int} {r w c p : Nat} {L : List Nat} (h : RrI M A r w c L) (hc : c < w) (hk : L.length ≤ p) (hp : p < r) (hx : nm (A p c) ≠ 0)
    (h1 : ∀ i j, i < r → j < w → nm (A1 i j) = nm (if i = L.length then A p j * iv (A p c) else if i = p then A L.length j else A i j))
    (h2 : ∀ i j, i < r → j < w → nm (A2 i j) = nm (if i = L.length then A1 L.length j else A1 i j - A1 i c * A1 L.length j)) : RrI M A2 r w (c + 1) (L ++ [c]) := by
  have hkr : L.length < r := by omega
  have hns : ∀ f, NS M r w f ↔ NS A2 r w f := fun f => (h.ns f).trans ((ns_lead hkr hp (iv_mul hx) h1 f).trans (ns_take hkr h2 f))
  have hlen : (L ++ [c]).length = L.length + 1 := by simp
  -- the new row of the lead: nothing ahead of c, 1 there
  have r1 : ∀ j, j < c → nm (A1 L.length j) = 0 := fun j hj => by
    rw [h1 _ _ hkr (by omega), if_pos rfl, nm_mul_congr (c := 0) (h.z p j hk hp hj) rfl, Int.zero_mul]; rfl
  have r2 : nm (A1 L.length c) = 1 := by rw [h1 _ _ hkr hc, if_pos rfl, mul_iv hx]
  have s1 : ∀ i j, i < r → j < c → i ≠ L.length → nm (A2 i j) = nm (A1 i j) := fun i j hi hj hne => by
    rw [h2 i j hi (by omega), if_neg hne, Int.sub_eq_add_neg, nm_add_congr (c := A1 i j) (d := 0) rfl ?_, Int.add_zero]
    have e : nm (A1 i c * A1 L.length j) = 0 := by rw [nm_mul_congr (d := 0) rfl (r1 j hj), Int.mul_zero]; rfl
    unfold nm at *; omega
  have s2 : ∀ i, i < r → i ≠ L.length → nm (A2 i c) = 0 := fun i hi hne => by
    have e : nm (A1 i c * A1 L.length c) = nm (A1 i c) := by rw [nm_mul_congr (d := 1) rfl (by rw [r2]; rfl), Int.mul_one]
    rw [h2 i c hi hc, if_neg hne]
    unfold nm at *; omega
  have s3 : ∀ j, j < w → nm (A2 L.length j) = nm (A1 L.length j) := fun j hj => by rw [h2 _ j hkr hj, if_pos rfl]
  refine ⟨hns, by rw [hlen]; omega, fun j hj => ?_, ?_, fun q i hq hi => ?_, fun i j hi1 hi2 hj => ?_, fun j hj => ?_⟩
  · rw [List.mem_append, List.mem_singleton] at hj
    rcases hj with hj | hj
    · have := h.lt j hj; omega
    · omega
  · rw [List.pairwise_append]
    refine ⟨h.up, by simp, fun x hx y hy => ?_⟩
    rw [List.mem_singleton] at hy
    have := h.lt x hx; omega
  · rw [hlen] at hq
    by_cases e : q < L.length
    · rw [getD_nat_old e]
      have hlt := h.lt _ (getN_mem e)
      by_cases e2 : i = L.length
      · rw [if_neg (by omega), e2, s3 _ (by omega), r1 _ hlt]
      · rw [s1 i _ hi hlt e2, h1 i _ hi (by omega), if_neg e2]
        by_cases e3 : i = p
        · rw [if_pos e3, if_neg (by omega), h.one q _ e hkr, if_neg (by omega)]
        · rw [if_neg e3, h.one q i e hi]
    · rw [show q = L.length by omega, getD_nat_new]
      by_cases e2 : i = L.length
      · rw [if_pos e2, e2, s3 c hc, r2]
      · rw [if_neg e2, s2 i hi e2]
  · rw [hlen] at hi1
    have hne : i ≠ L.length := by omega
    by_cases e : j = c
    · rw [e]; exact s2 i hi2 hne
    · rw [s1 i j hi2 (by omega) hne, h1 i j hi2 (by omega), if_neg hne]
      split
      · exact h.z _ j (Nat.le_refl _) hkr (by omega)
      · exact h.z i j (by omega) hi2 (by omega)
  · by_cases e : j < c
    · rw [List.mem_append, List.mem_singleton]
      have := h.lead j e
      exact ⟨fun hh => this.1 (hh.resolve_right (by omega)), fun hh => .inl (this.2 hh)⟩
    · have e2 : j = c := by omega
      subst e2
      refine ⟨fun _ => ?_, fun _ => by simp⟩
      rw [dep_congr hns hc]
      rintro ⟨f, hf⟩
      have h3 := hf _ hkr
      rw [s3 j hc, r2, sm_zero (fun i hi => by rw [nm_mul_congr (d := 0) rfl (show nm (A2 L.length i) = nm 0 by rw [s3 i (by omega), r1 i hi]; rfl), Int.mul_zero]; rfl)] at h3
      omega

/-- Values that make all equations right, with 0 where a column is a sum of those ahead. -/
structure Sol (M : Nat → Nat → Int) (r v : Nat) (V : List Int) : Prop where
  len : V.length = v
  bd : ∀ x ∈ V, 0 ≤ x ∧ x ≤ 2147483646
  own : ∀ j, j < v → V.getD j 0 ≠ 0 → ¬ dep M r j
  ns : NS M r (v + 1) (fun j => if j < v then V.getD j 0 else -1)

theorem tell_zero {A : Nat → Nat → Int} {L : List Nat} {v m j : Nat} (h : ∀ q, q < m → L.getD q 0 ≠ j) : tell A L v m j = 0 := by
  unfold tell
  induction m with
  | zero => rfl
  | succ m ih => rw [sm, ih (fun q hq => h q (by omega)), if_neg (h m (by omega))]; rfl
theorem tell_succ {A : Nat → Nat → Int} {L : List Nat} {v m j : Nat} (hu : L.Pairwise (· < ·)) (hm : m < L.length) : tell A L v (m + 1) j = if L.getD m 0 = j then A m v else tell A L v m j := by
  have : tell A L v (m + 1) j = tell A L v m j + (if L.getD m 0 = j then A m v else 0) := rfl
  rw [this]
  split
  · rename_i e
    rw [tell_zero (fun q hq => by have := getD_up hu hq hm; omega), Int.zero_add]
  · rw [Int.add_zero]
theorem rr_sol {M A : Nat → Nat → Int} {r v : Nat} {L : List Nat} {V : List Int} (h : RrI M A r (v + 1) v L) (hz : ∀ i, L.length ≤ i → i < r → nm (A i v) = 0)
    (hl : V.length = v) (hb : ∀ x ∈ V, 0 ≤ x ∧ x ≤ 2147483646) (hV : ∀ j, j < v → V.getD j 0 = tell A L v L.length j) : Sol M r v V := by
  refine ⟨hl, hb, fun j hj hne => ?_, ?_⟩
  · rw [← h.lead j hj]
    rw [hV j hj] at hne
    refine Decidable.byContradiction fun hn => hne (tell_zero fun q hq e => hn ?_)
    rw [← e]; exact getN_mem hq
  · rw [h.ns]
    intro i hi
    rw [sm]
    have e : nm (sm (fun j => (if j < v then V.getD j 0 else -1) * A i j) v) = nm (A i v) := by
      have e2 : nm (sm (fun j => (if j < v then V.getD j 0 else -1) * A i j) v) = nm (sm (fun j => tell A L v L.length j * A i j) v) := sm_ncongr fun j hj => by
        rw [if_pos hj, hV j hj]
      rw [e2, tell_sum h v i hi]
      split
      · rfl
      · exact (hz i (by omega) hi).symm
    show nm (sm (fun j => (if j < v then V.getD j 0 else -1) * A i j) v + (if v < v then V.getD v 0 else -1) * A i v) = 0
    rw [if_neg (by omega), nm_add_congr (c := A i v) (d := -1 * A i v) e rfl, Int.neg_one_mul, Int.add_right_neg]; rfl
end Crm
