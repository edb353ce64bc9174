/- GAUSS by rows: what row steps keep; what the rows tell once they are reduced. Plain. · BERLEKAMP, WELCH: plain facts. · decode.equation. -/
import Derived.Test.YtoifklkdfgfbdagDoorToAnyM
import Derived.Test.YtoifklkdfgfbdagDoorToFieldC
import Derived.Test.YtoifklkdfgfbdagDoorToStepC
import Derived.Test.YtoifklkdfgfbdagDoorToIntsC
import Derived.Test.YtoifklkdfgfbdagDoorToProdC
import Derived.Deep.AppendLies
import Derived.Deep.RegionHeld3
import Derived.Deep.RegionLaw
namespace Crm

theorem sm_pick (F : Nat → Int) (a : Nat) : ∀ n, sm (fun j => if a = j then F j else 0) n = if a < n then F a else 0
  | 0 => by rw [sm, if_neg (by omega)]
  | n + 1 => by
    rw [sm, sm_pick F a n]
    by_cases h1 : a < n
    · rw [if_pos h1, if_neg (by omega), if_pos (by omega), Int.add_zero]
    · by_cases h2 : a = n
      · subst h2; rw [if_neg h1, if_pos rfl, if_pos (by omega), Int.zero_add]
      · rw [if_neg h1, if_neg h2, if_neg (by omega)]; rfl
theorem sm_mulr (f : Nat → Int) (x : Int) (n : Nat) : sm f n * x = sm (fun j => f j * x) n := by
  rw [Int.mul_comm, ← sm_mul]; congr 1; funext j; rw [Int.mul_comm]

/-- Where the rows stand ahead of column c. -/
structure RrI (M A : Nat → Nat → Int) (r w c : Nat) (L : List Nat) : Prop where
  ns : ∀ f, NS M r w f ↔ NS A r w f
  kr : L.length ≤ r
  lt : ∀ j ∈ L, j < c
  up : L.Pairwise (· < ·)
  one : ∀ q i, q < L.length → i < r → nm (A i (L.getD q 0)) = if i = q then 1 else 0
  z : ∀ i j, L.length ≤ i → i < r → j < c → nm (A i j) = 0
  lead : ∀ j, j < c → (j ∈ L ↔ ¬ dep M r j)

theorem ns_congr {M A : Nat → Nat → Int} {r w : Nat} (h : ∀ i j, i < r → j < w → nm (A i j) = nm (M i j)) (f : Nat → Int) : NS M r w f ↔ NS A r w f := by
  have e : ∀ i, i < r → nm (sm (fun j => f j * M i j) w) = nm (sm (fun j => f j * A i j) w) := fun i hi => sm_ncongr fun j hj => nm_mul_congr rfl (h i j hi hj).symm
  exact ⟨fun hf i hi => by rw [← e i hi]; exact hf i hi, fun hf i hi => by rw [e i hi]; exact hf i hi⟩
theorem rr_start {M A : Nat → Nat → Int} {r w : Nat} (h : ∀ i j, i < r → j < w → nm (A i j) = nm (M i j)) : RrI M A r w 0 [] :=
  ⟨ns_congr h, Nat.zero_le _, by simp, List.Pairwise.nil, fun q i hq => by simp at hq, fun i j _ _ hj => by omega, fun j hj => by omega⟩

/-- What is told for the variables from the column v, by the rows of the columns that lead. -/
def tell (A : Nat → Nat → Int) (L : List Nat) (v m j : Nat) : Int := sm (fun q => if L.getD q 0 = j then A q v else 0) m

theorem getN_mem {L : List Nat} {q : Nat} (h : q < L.length) : L.getD q 0 ∈ L := by
  rw [List.getD_eq_getElem?_getD, List.getElem?_eq_getElem h]; exact List.getElem_mem h
theorem getD_up {L : List Nat} (h : L.Pairwise (· < ·)) {q m : Nat} (hqm : q < m) (hm : m < L.length) : L.getD q 0 < L.getD m 0 := by
  rw [List.pairwise_iff_getElem] at h
  have := h q m (by omega) hm hqm
  rw [List.getD_eq_getElem?_getD, List.getD_eq_getElem?_getD, List.getElem?_eq_getElem (show q < L.length by omega), List.getElem?_eq_getElem hm]
  exact this

/-- The sum of the columns, each times what is told for it, is the column v in the rows of those that lead. -/
theorem tell_sum {M A : Nat → Nat → Int} {r w c : Nat} {L : List Nat} (h : RrI M A r w c L) (v i : Nat) (hi : i < r) : nm (sm (fun j => tell A L v L.length j * A i j) c) = if i < L.length then nm (A i v) else 0 := by
  have e1 : sm (fun j => tell A L v L.length j * A i j) c = sm (fun q => sm (fun j => (if L.getD q 0 = j then A q v else 0) * A i j) c) L.length := by
    rw [← sm_swap]
    congr 1; funext j
    unfold tell
    rw [sm_mulr]
  have e2 : ∀ q, q < L.length → nm (sm (fun j => (if L.getD q 0 = j then A q v else 0) * A i j) c) = nm (if i = q then A q v else 0) := fun q hq => by
    have e3 : (fun j => (if L.getD q 0 = j then A q v else 0) * A i j) = fun j => if L.getD q 0 = j then A q v * A i j else 0 := by
      funext j; split
      · rfl
      · rw [Int.zero_mul]
    rw [e3, sm_pick (fun j => A q v * A i j), if_pos (h.lt _ (getN_mem hq)), nm_mul_congr (c := A q v) (d := if i = q then 1 else 0) rfl (by rw [h.one q i hq hi]; split <;> rfl)]
    split
    · rw [Int.mul_one]
    · rw [Int.mul_zero]
  rw [e1, sm_ncongr e2, sm_pick (fun q => A q v)]
  split <;> rfl

/-- A column that has nothing in the rows behind is a sum of those ahead. -/
theorem rr_dep {M A : Nat → Nat → Int} {r w c : Nat} {L : List Nat} (h : RrI M A r w c L) (hc : c < w) : (∀ i, L.length ≤ i → i < r → nm (A i c) = 0) ↔ dep M r c := by
  rw [dep_congr h.ns hc]
  constructor
  · intro hz
    refine ⟨tell A L c L.length, fun i hi => ?_⟩
    rw [tell_sum h c i hi]
    split
    · rfl
    · exact (hz i (by omega) hi).symm
  · rintro ⟨f, hf⟩ i h1 h2
    rw [← hf i h2]
    exact sm_zero fun j hj => by rw [nm_mul_congr (d := 0) rfl (h.z i j h1 h2 hj), Int.mul_zero]; rfl
theorem rr_skip {M A : Nat → Nat → Int} {r w c : Nat} {L : List Nat} (h : RrI M A r w c L) (hc : c < w) (hz : ∀ i, L.length ≤ i → i < r → nm (A i c) = 0) : RrI M A r w (c + 1) L := by
  have hd := (rr_dep h hc).1 hz
  refine ⟨h.ns, h.kr, fun j hj => Nat.lt_succ_of_lt (h.lt j hj), h.up, h.one, fun i j h1 h2 h3 => ?_, fun j hj => ?_⟩
  · by_cases e : j = c
    · rw [e]; exact hz i h1 h2
    · exact h.z i j h1 h2 (by omega)
  · by_cases e : j = c
    · subst e
      exact ⟨fun hh => absurd (h.lt j hh) (by omega), fun hh => absurd hd hh⟩
    · exact h.lead j (by omega)

/-- A row that leads is put first and made 1 in its column. -/
theorem ns_lead {A A1 : Nat → Nat → Int} {r w k p : Nat} {u x : Int} (hk : k < r) (hp : p < r) (hu : nm (u * x) = 1)
    (h1 : ∀ i j, i < r → j < w → nm (A1 i j) = nm (if i = k then A p j * u else if i = p then A k j else A i j)) (f : Nat → Int) : NS A r w f ↔ NS A1 r w f := by
  have ek : nm (sm (fun j => f j * A1 k j) w) = nm (sm (fun j => f j * A p j) w * u) := by
    rw [sm_mulr]
    exact sm_ncongr fun j hj => by rw [nm_mul_congr (c := f j) rfl (h1 k j hk hj), if_pos rfl, Int.mul_assoc]
  have ep : p ≠ k → nm (sm (fun j => f j * A1 p j) w) = nm (sm (fun j => f j * A k j) w) := fun hne =>
    sm_ncongr fun j hj => by rw [nm_mul_congr (c := f j) rfl (h1 p j hp hj), if_neg hne, if_pos rfl]
  have eo : ∀ i, i < r → i ≠ k → i ≠ p → nm (sm (fun j => f j * A1 i j) w) = nm (sm (fun j => f j * A i j) w) := fun i hi h2 h3 =>
    sm_ncongr fun j hj => by rw [nm_mul_congr (c := f j) rfl (h1 i j hi hj), if_neg h2, if_neg h3]
  constructor
  · intro hf i hi
    by_cases e : i = k
    · subst e
      rw [ek, nm_mul_congr (c := 0) (hf p hp) rfl, Int.zero_mul]; rfl
    · by_cases e2 : i = p
      · subst e2; rw [ep e]; exact hf k hk
      · rw [eo i hi e e2]; exact hf i hi
  · intro hf i hi
    by_cases e2 : i = p
    · subst e2
      have h0 : nm (sm (fun j => f j * A i j) w * u) = 0 := by rw [← ek]; exact hf k hk
      have h3 : nm (sm (fun j => f j * A i j) w * u * x) = 0 := by rw [nm_mul_congr (c := 0) h0 rfl, Int.zero_mul]; rfl
      rw [Int.mul_assoc, nm_mul_congr (d := 1) rfl (by rw [hu]; rfl), Int.mul_one] at h3
      exact h3
    · by_cases e : i = k
      · subst e; rw [← ep (fun h => e2 h.symm)]; exact hf p hp
      · rw [← eo i hi e e2]; exact hf i hi
/-- The row that leads, times some number, is taken from all others. -/
theorem ns_take {A1 A2 : Nat → Nat → Int} {r w k : Nat} {t : Nat → Int} (hk : k < r)
    (h2 : ∀ i j, i < r → j < w → nm (A2 i j) = nm (if i = k then A1 k j else A1 i j - t i * A1 k j)) (f : Nat → Int) : NS A1 r w f ↔ NS A2 r w f := by
  have ek : nm (sm (fun j => f j * A2 k j) w) = nm (sm (fun j => f j * A1 k j) w) := sm_ncongr fun j hj => by rw [nm_mul_congr (c := f j) rfl (h2 k j hk hj), if_pos rfl]
  have eo : ∀ i, i < r → i ≠ k → nm (sm (fun j => f j * A2 i j) w) = nm (sm (fun j => f j * A1 i j) w + (-t i) * sm (fun j => f j * A1 k j) w) := fun i hi hne => by
    rw [← sm_mul, ← sm_add]
    exact sm_ncongr fun j hj => by
      rw [nm_mul_congr (c := f j) rfl (h2 i j hi hj), if_neg hne, Int.mul_sub, Int.neg_mul, ← Int.mul_assoc, Int.mul_comm (f j) (t i), Int.mul_assoc, Int.sub_eq_add_neg]
  constructor
  · intro hf i hi
    by_cases e : i = k
    · subst e; rw [ek]; exact hf i hi
    · rw [eo i hi e, nm_add_congr (c := 0) (d := -t i * 0) (hf i hi) (nm_mul_congr rfl (hf k hk)), Int.mul_zero]; rfl
  · intro hf i hi
    by_cases e : i = k
    · subst e; rw [← ek]; exact hf i hi
    · have hk0 : nm (sm (fun j => f j * A1 k j) w) = 0 := by rw [← ek]; exact hf k hk
      have h0 := hf i hi
      rw [eo i hi e, nm_add_congr (c := sm (fun j => f j * A1 i j) w) (d := -t i * 0) rfl (nm_mul_congr rfl hk0), Int.mul_zero, Int.add_zero] at h0
      exact h0

theorem rr_lead {M A A1 A2 : Nat → Nat → Int} {r w c p : Nat} {L : List Nat} (h : RrI M A r w c L) (hc : c < w) (hk : L.length ≤ p) (hp : p < r) (hx : nm (A p c) ≠ 0)
    (h1 : ∀ i j, i < r → j < w → nm (A1 i j) = nm (if i = L.length then A p j * iv (A p c) else if i = p then A L.length j else A i j))
    (h2 : ∀ i j, i < r → j < w → nm (A2 i j) = nm (if i = L.length then A1 L.length j else A1 i j - A1 i c * A1 L.length j)) : RrI M A2 r w (c + 1) (L ++ [c]) := by
  have hkr : L.length < r := by omega
  have hns : ∀ f, NS M r w f ↔ NS A2 r w f := fun f => (h.ns f).trans ((ns_lead hkr hp (iv_mul hx) h1 f).trans (ns_take hkr h2 f))
  have hlen : (L ++ [c]).length = L.length + 1 := by simp
  -- the new row of the lead: nothing ahead of c, 1 there
  have r1 : ∀ j, j < c → nm (A1 L.length j) = 0 := fun j hj => by
    rw [h1 _ _ hkr (by omega), if_pos rfl, nm_mul_congr (c := 0) (h.z p j hk hp hj) rfl, Int.zero_mul]; rfl
  have r2 : nm (A1 L.length c) = 1 := by rw [h1 _ _ hkr hc, if_pos rfl, mul_iv hx]
  have s1 : ∀ i j, i < r → j < c → i ≠ L.length → nm (A2 i j) = nm (A1 i j) := fun i j hi hj hne => by
    rw [h2 i j hi (by omega), if_neg hne, Int.sub_eq_add_neg, nm_add_congr (c := A1 i j) (d := 0) rfl ?_, Int.add_zero]
    have e : nm (A1 i c * A1 L.length j) = 0 := by rw [nm_mul_congr (d := 0) rfl (r1 j hj), Int.mul_zero]; rfl
    unfold nm at *; omega
  have s2 : ∀ i, i < r → i ≠ L.length → nm (A2 i c) = 0 := fun i hi hne => by
    have e : nm (A1 i c * A1 L.length c) = nm (A1 i c) := by rw [nm_mul_congr (d := 1) rfl (by rw [r2]; rfl), Int.mul_one]
    rw [h2 i c hi hc, if_neg hne]
    unfold nm at *; omega
  have s3 : ∀ j, j < w → nm (A2 L.length j) = nm (A1 L.length j) := fun j hj => by rw [h2 _ j hkr hj, if_pos rfl]
  refine ⟨hns, by rw [hlen]; omega, fun j hj => ?_, ?_, fun q i hq hi => ?_, fun i j hi1 hi2 hj => ?_, fun j hj => ?_⟩
  · rw [List.mem_append, List.mem_singleton] at hj
    rcases hj with hj | hj
    · have := h.lt j hj; omega
    · omega
  · rw [List.pairwise_append]
    refine ⟨h.up, by simp, fun x hx y hy => ?_⟩
    rw [List.mem_singleton] at hy
    have := h.lt x hx; omega
  · rw [hlen] at hq
    by_cases e : q < L.length
    · rw [getD_nat_old e]
      have hlt := h.lt _ (getN_mem e)
      by_cases e2 : i = L.length
      · rw [if_neg (by omega), e2, s3 _ (by omega), r1 _ hlt]
      · rw [s1 i _ hi hlt e2, h1 i _ hi (by omega), if_neg e2]
        by_cases e3 : i = p
        · rw [if_pos e3, if_neg (by omega), h.one q _ e hkr, if_neg (by omega)]
        · rw [if_neg e3, h.one q i e hi]
    · rw [show q = L.length by omega, getD_nat_new]
      by_cases e2 : i = L.length
      · rw [if_pos e2, e2, s3 c hc, r2]
      · rw [if_neg e2, s2 i hi e2]
  · rw [hlen] at hi1
    have hne : i ≠ L.length := by omega
    by_cases e : j = c
    · rw [e]; exact s2 i hi2 hne
    · rw [s1 i j hi2 (by omega) hne, h1 i j hi2 (by omega), if_neg hne]
      split
      · exact h.z _ j (Nat.le_refl _) hkr (by omega)
      · exact h.z i j (by omega) hi2 (by omega)
  · by_cases e : j < c
    · rw [List.mem_append, List.mem_singleton]
      have := h.lead j e
      exact ⟨fun hh => this.1 (hh.resolve_right (by omega)), fun hh => .inl (this.2 hh)⟩
    · have e2 : j = c := by omega
      subst e2
      refine ⟨fun _ => ?_, fun _ => by simp⟩
      rw [dep_congr hns hc]
      rintro ⟨f, hf⟩
      have h3 := hf _ hkr
      rw [s3 j hc, r2, sm_zero (fun i hi => by rw [nm_mul_congr (d := 0) rfl (show nm (A2 L.length i) = nm 0 by rw [s3 i (by omega), r1 i hi]; rfl), Int.mul_zero]; rfl)] at h3
      omega

/-- Values that make all equations right, with 0 where a column is a sum of those ahead. -/
structure Sol (M : Nat → Nat → Int) (r v : Nat) (V : List Int) : Prop where
  len : V.length = v
  bd : ∀ x ∈ V, 0 ≤ x ∧ x ≤ 2147483646
  own : ∀ j, j < v → V.getD j 0 ≠ 0 → ¬ dep M r j
  ns : NS M r (v + 1) (fun j => if j < v then V.getD j 0 else -1)

theorem tell_zero {A : Nat → Nat → Int} {L : List Nat} {v m j : Nat} (h : ∀ q, q < m → L.getD q 0 ≠ j) : tell A L v m j = 0 := by
  unfold tell
  induction m with
  | zero => rfl
  | succ m ih => rw [sm, ih (fun q hq => h q (by omega)), if_neg (h m (by omega))]; rfl
theorem tell_succ {A : Nat → Nat → Int} {L : List Nat} {v m j : Nat} (hu : L.Pairwise (· < ·)) (hm : m < L.length) : tell A L v (m + 1) j = if L.getD m 0 = j then A m v else tell A L v m j := by
  have : tell A L v (m + 1) j = tell A L v m j + (if L.getD m 0 = j then A m v else 0) := rfl
  rw [this]
  split
  · rename_i e
    rw [tell_zero (fun q hq => by have := getD_up hu hq hm; omega), Int.zero_add]
  · rw [Int.add_zero]
theorem rr_sol {M A : Nat → Nat → Int} {r v : Nat} {L : List Nat} {V : List Int} (h : RrI M A r (v + 1) v L) (hz : ∀ i, L.length ≤ i → i < r → nm (A i v) = 0)
    (hl : V.length = v) (hb : ∀ x ∈ V, 0 ≤ x ∧ x ≤ 2147483646) (hV : ∀ j, j < v → V.getD j 0 = tell A L v L.length j) : Sol M r v V := by
  refine ⟨hl, hb, fun j hj hne => ?_, ?_⟩
  · rw [← h.lead j hj]
    rw [hV j hj] at hne
    refine Decidable.byContradiction fun hn => hne (tell_zero fun q hq e => hn ?_)
    rw [← e]; exact getN_mem hq
  · rw [h.ns]
    intro i hi
    rw [sm]
    have e : nm (sm (fun j => (if j < v then V.getD j 0 else -1) * A i j) v) = nm (A i v) := by
      have e2 : nm (sm (fun j => (if j < v then V.getD j 0 else -1) * A i j) v) = nm (sm (fun j => tell A L v L.length j * A i j) v) := sm_ncongr fun j hj => by
        rw [if_pos hj, hV j hj]
      rw [e2, tell_sum h v i hi]
      split
      · rfl
      · exact (hz i (by omega) hi).symm
    show nm (sm (fun j => (if j < v then V.getD j 0 else -1) * A i j) v + (if v < v then V.getD v 0 else -1) * A i v) = 0
    rw [if_neg (by omega), nm_add_congr (c := A i v) (d := -1 * A i v) e rfl, Int.neg_one_mul, Int.add_right_neg]; rfl
/-- There is but one such list. -/
theorem sol_one {M N : Nat → Nat → Int} {r s v : Nat} {V U : List Int} (hn : ∀ f, NS M r (v + 1) f ↔ NS N s (v + 1) f) (h : Sol M r v V) (k : Sol N s v U) : V = U := by
  have hns : NS M r (v + 1) (fun j => (if j < v then V.getD j 0 else -1) + -1 * (if j < v then U.getD j 0 else -1)) := fun i hi => by
    have h1 := h.ns i hi
    have h2 := (hn _).2 k.ns i hi
    have e : sm (fun j => ((if j < v then V.getD j 0 else -1) + -1 * (if j < v then U.getD j 0 else -1)) * M i j) (v + 1) = sm (fun j => (if j < v then V.getD j 0 else -1) * M i j) (v + 1) + -1 * sm (fun j => (if j < v then U.getD j 0 else -1) * M i j) (v + 1) := by
      rw [← sm_mul, ← sm_add]; congr 1; funext j
      rw [Int.add_mul, Int.mul_assoc]
    rw [e]
    generalize sm (fun j => (if j < v then V.getD j 0 else -1) * M i j) (v + 1) = X at *
    generalize sm (fun j => (if j < v then U.getD j 0 else -1) * M i j) (v + 1) = Y at *
    unfold nm at *; omega
  have hd : ∀ j, j < v → (dep M r j ↔ dep N s j) := fun j hj => dep_congr hn (by omega)
  have hz := ns_zero hns fun c hc hne => by
    by_cases e : c < v
    · rw [if_pos e, if_pos e] at hne
      by_cases e1 : V.getD c 0 = 0
      · by_cases e2 : U.getD c 0 = 0
        · exact absurd (by rw [e1, e2]; rfl) hne
        · rw [hd c e]; exact k.own c e e2
      · exact h.own c e e1
    · exact absurd (by rw [if_neg e, if_neg e]; rfl) hne
  refine List.ext_getElem (by rw [h.len, k.len]) fun j h1 h2 => ?_
  have hj : j < v := by rw [← h.len]; exact h1
  have h3 := hz j (by omega)
  simp only [if_pos hj, List.getD_eq_getElem?_getD, List.getElem?_eq_getElem h1, List.getElem?_eq_getElem h2, Option.getD_some] at h3
  have b1 := h.bd _ (List.getElem_mem h1)
  have b2 := k.bd _ (List.getElem_mem h2)
  unfold nm at h3; omega
end Crm

namespace Go.Proofs.YtoifklkdfgfbdagDoor
open Crm

theorem getD_appL {a b : List Int} {i : Nat} (h : i < a.length) : (a ++ b).getD i 0 = a.getD i 0 := by simp [List.getElem?_append_left h]
theorem getD_appR {a b : List Int} {i : Nat} (h : a.length ≤ i) : (a ++ b).getD i 0 = b.getD (i - a.length) 0 := by simp [List.getElem?_append_right h]

/-- Number j of the equation that a share gives: c numbers of the one polynomial, e of the other, and the other side. -/
def eqc (x y : Int) (c e j : Nat) : Int := if j < c then pw x j else if j < c + e then nm (0 - nm (y * pw x (j - c))) else nm (y * pw x e)
def eqn (x y : Int) (c e k : Nat) : List Int := (List.range k).map (eqc x y c e)
theorem eqn_len (x y : Int) (c e k : Nat) : (eqn x y c e k).length = k := by simp [eqn]
theorem eqn_getD (x y : Int) (c e : Nat) {k j : Nat} (h : j < k) : (eqn x y c e k).getD j 0 = eqc x y c e j := by simp [eqn, h]
theorem eqn_snoc (x y : Int) (c e k : Nat) {v : Int} (h : v = eqc x y c e k) : eqn x y c e k ++ [v] = eqn x y c e (k + 1) := by rw [h]; simp [eqn, List.range_succ]
theorem eqc_bd (x y : Int) (c e j : Nat) : 0 ≤ eqc x y c e j ∧ eqc x y c e j ≤ 2147483646 := by
  unfold eqc
  split
  · exact pw_bd _ _
  · split <;> exact nm_bd _
theorem eqn_bd (x y : Int) (c e k : Nat) : ∀ z ∈ eqn x y c e k, 0 ≤ z ∧ z ≤ 2147483646 := by
  intro z hz
  obtain ⟨i, _, rfl⟩ := List.mem_map.1 hz
  exact eqc_bd _ _ _ _ _
theorem eqc_first (x y : Int) (e : Nat) {c j : Nat} (h : j < c) : pw x j = eqc x y c e j := by unfold eqc; rw [if_pos h]
theorem eqc_second (x y : Int) (c : Nat) {e j : Nat} (h : j < e) : nm (0 - nm (y * pw x j)) = eqc x y c e (c + j) := by
  unfold eqc; rw [if_neg (by omega), if_pos (by omega), show c + j - c = j by omega]
theorem eqc_last (x y : Int) (c e : Nat) : nm (y * pw x e) = eqc x y c e (c + e) := by unfold eqc; rw [if_neg (by omega), if_neg (by omega)]

theorem sm_split (f : Nat → Int) (a : Nat) : ∀ b, sm f (a + b) = sm f a + sm (fun j => f (a + j)) b
  | 0 => by simp [sm]
  | b + 1 => by rw [← Nat.add_assoc, sm, sm, sm_split f a b, Int.add_assoc]
/-- Some of f's numbers as a list. -/
def ls (f : Nat → Int) (o k : Nat) : List Int := (List.range k).map fun j => f (o + j)
theorem ls_len (f : Nat → Int) (o k : Nat) : (ls f o k).length = k := by simp [ls]
theorem ls_getD (f : Nat → Int) (o : Nat) {k j : Nat} (h : j < k) : (ls f o k).getD j 0 = f (o + j) := by simp [ls, h]
theorem ls_ev (f : Nat → Int) (o : Nat) (x : Int) : ∀ k, sm (fun j => f (o + j) * x ^ j) k = ev (ls f o k) x
  | 0 => rfl
  | k + 1 => by
    have e : ls f o (k + 1) = ls f o k ++ [f (o + k)] := by simp [ls, List.range_succ]
    rw [sm, ls_ev f o x k, e, ev_snoc, ls_len]
/-- What an equation says of the two polynomials. -/
theorem eq_row (f : Nat → Int) (x y : Int) (c e : Nat) : nm (sm (fun j => f j * eqc x y c e j) (c + e)) = nm (ev (ls f 0 c) x - y * ev (ls f c e) x) := by
  rw [sm_split]
  have h1 : nm (sm (fun j => f j * eqc x y c e j) c) = nm (ev (ls f 0 c) x) := by
    rw [← ls_ev]
    refine sm_ncongr fun j hj => ?_
    rw [← eqc_first x y e hj, Nat.zero_add]
    unfold pw
    exact nm_mulr _ _
  have h2 : nm (sm (fun j => f (c + j) * eqc x y c e (c + j)) e) = nm (-y * ev (ls f c e) x) := by
    rw [← ls_ev, ← sm_mul]
    refine sm_ncongr fun j hj => ?_
    rw [← eqc_second x y c hj, nm_mulr, Int.zero_sub, Int.mul_neg]
    have h3 : nm (f (c + j) * nm (y * pw x j)) = nm (y * (f (c + j) * x ^ j)) := by
      unfold pw
      rw [nm_mulr, ← Int.mul_assoc, nm_mulr]
      congr 1
      rw [Int.mul_comm (f (c + j)) y, Int.mul_assoc]
    rw [Int.neg_mul]
    unfold nm at h3 ⊢
    omega
  rw [nm_add_congr h1 h2]
  congr 1
  rw [Int.neg_mul, Int.sub_eq_add_neg]

/-- A polynomial that is 0 at the places. -/
def zrt : List Int → List Int
  | [] => [1]
  | a :: l => adl (-a) (0 :: zrt l) (zrt l)
theorem zrt_len : ∀ l : List Int, (zrt l).length = l.length + 1
  | [] => rfl
  | a :: l => by rw [zrt, adl_len, List.length_cons, List.length_cons, zrt_len l]; omega
theorem zrt_top : ∀ l : List Int, (zrt l).getD l.length 0 = 1
  | [] => rfl
  | a :: l => by
    rw [zrt, adl_getD, List.length_cons, cons_getDs, zrt_top l, getD_big (show (zrt l).length ≤ l.length + 1 by rw [zrt_len]; omega), Int.mul_zero]; rfl
theorem zrt_ev : ∀ (l : List Int) (a : Int), a ∈ l → ev (zrt l) a = 0
  | b :: l, a, h => by
    rw [zrt, adl_ev]
    have e : ev (0 :: zrt l) a = a * ev (zrt l) a := by rw [ev, Int.zero_add]
    rw [e]
    rcases List.mem_cons.1 h with rfl | h
    · rw [Int.neg_mul, Int.add_right_neg]
    · rw [zrt_ev l a h, Int.mul_zero, Int.mul_zero]; rfl

/-- The equations of shares. -/
def Bwe (M : Nat → Nat → Int) (l : List (Int × Int)) (n c e : Nat) : Prop := ∀ i j, i < n → j < c + e + 1 → M i j = eqc (l.getD i (0, 0)).1 (l.getD i (0, 0)).2 c e j

theorem mem_bdl {l : List (Int × Int)} {p : List Int} : ∀ {n i : Nat}, i < n → ¬ nm (ev p (l.getD i (0, 0)).1) = nm (l.getD i (0, 0)).2 → (l.getD i (0, 0)).1 ∈ bdl l p n
  | n + 1, i, hi, h => by
    by_cases e : i = n
    · subst e; rw [bdl_bad h]; simp
    · have := mem_bdl (n := n) (show i < n by omega) h
      rw [bdl]; split
      · exact this
      · exact List.mem_append_left _ this

theorem bw_dep {M : Nat → Nat → Int} {l : List (Int × Int)} {n t e : Nat} {p : List Int} (hM : Bwe M l n (t + 1 + e) e) (hp : p.length ≤ t + 1) (hb : (bdl l p n).length ≤ e) : dep M n (t + 1 + e + e) := by
  obtain ⟨Z, hZl, hZt, hZ0⟩ : ∃ Z : List Int, Z.length = e + 1 ∧ Z.getD e 0 = 1 ∧ ∀ a ∈ bdl l p n, ev Z a = 0 := by
    refine ⟨zrt (bdl l p n ++ List.replicate (e - (bdl l p n).length) 0), ?_, ?_, fun a ha => zrt_ev _ a (List.mem_append_left _ ha)⟩
    · rw [zrt_len]; simp; omega
    · have := zrt_top (bdl l p n ++ List.replicate (e - (bdl l p n).length) 0)
      have hl : (bdl l p n ++ List.replicate (e - (bdl l p n).length) 0).length = e := by simp; omega
      rwa [hl] at this
  refine ⟨fun j => if j < t + 1 + e then (cvl p Z).getD j 0 else Z.getD (j - (t + 1 + e)) 0, fun i hi => ?_⟩
  obtain ⟨x, hx⟩ : ∃ x, (l.getD i (0, 0)).1 = x := ⟨_, rfl⟩
  obtain ⟨y, hy⟩ : ∃ y, (l.getD i (0, 0)).2 = y := ⟨_, rfl⟩
  have hrow : ∀ j, j < t + 1 + e + e + 1 → M i j = eqc x y (t + 1 + e) e j := fun j hj => by rw [hM i j hi hj, hx, hy]
  rw [hrow _ (by omega), sm_ncongr (g := fun j => (if j < t + 1 + e then (cvl p Z).getD j 0 else Z.getD (j - (t + 1 + e)) 0) * eqc x y (t + 1 + e) e j) (fun j hj => by rw [hrow j (by omega)]), eq_row, ← eqc_last, nm_nm]
  have hB : nm (ev (ls (fun j => if j < t + 1 + e then (cvl p Z).getD j 0 else Z.getD (j - (t + 1 + e)) 0) 0 (t + 1 + e)) x) = nm (ev p x * ev Z x) := by
    rw [← cvl_ev]
    refine ev_congr _ _ _ fun j => ?_
    by_cases hj : j < t + 1 + e
    · rw [ls_getD _ _ hj]; simp [hj]
    · rw [getD_big (by rw [ls_len]; omega), getD_big (by rw [cvl_len]; omega)]
  have hZe : ev Z x = ev (ls (fun j => if j < t + 1 + e then (cvl p Z).getD j 0 else Z.getD (j - (t + 1 + e)) 0) (t + 1 + e) e) x + x ^ e := by
    have h1 : Z = ls (fun j => if j < t + 1 + e then (cvl p Z).getD j 0 else Z.getD (j - (t + 1 + e)) 0) (t + 1 + e) e ++ [1] := by
      refine list_ext (by simp [ls_len, hZl]) fun j hj => ?_
      by_cases hje : j < e
      · rw [getD_appL (by rw [ls_len]; exact hje), ls_getD _ _ hje, if_neg (by omega), show t + 1 + e + j - (t + 1 + e) = j by omega]
      · have : j = e := by omega
        subst this
        rw [hZt, getD_appR (by rw [ls_len]; omega), ls_len, Nat.sub_self]; rfl
    have h2 := ev_snoc (ls (fun j => if j < t + 1 + e then (cvl p Z).getD j 0 else Z.getD (j - (t + 1 + e)) 0) (t + 1 + e) e) 1 x
    rw [← h1, ls_len, Int.one_mul] at h2
    exact h2
  generalize ev (ls (fun j => if j < t + 1 + e then (cvl p Z).getD j 0 else Z.getD (j - (t + 1 + e)) 0) (t + 1 + e) e) x = L at hZe ⊢
  generalize ev (ls (fun j => if j < t + 1 + e then (cvl p Z).getD j 0 else Z.getD (j - (t + 1 + e)) 0) 0 (t + 1 + e)) x = B at hB ⊢
  have hk : nm (ev p x * ev Z x) = nm (y * ev Z x) := by
    by_cases hg : nm (ev p (l.getD i (0, 0)).1) = nm (l.getD i (0, 0)).2
    · rw [hx, hy] at hg; exact nm_mul_congr hg rfl
    · have := hZ0 _ (mem_bdl hi hg)
      rw [hx] at this
      rw [this, Int.mul_zero, Int.mul_zero]
  rw [hk, hZe, Int.mul_add] at hB
  have hpw : nm (y * pw x e) = nm (y * x ^ e) := by unfold pw; exact nm_mulr _ _
  rw [hpw]
  generalize y * L = a at *
  generalize y * x ^ e = b at *
  unfold nm at *
  omega

/-- What the two polynomials tell at each share. -/
theorem bw_eq {M : Nat → Nat → Int} {l : List (Int × Int)} {n c e : Nat} {V : List Int} (hM : Bwe M l n c e) (hV : Sol M n (c + e) V) {i : Nat} (hi : i < n) :
    nm (ev (V.take c) (l.getD i (0, 0)).1) = nm ((l.getD i (0, 0)).2 * ev (V.drop c ++ [1]) (l.getD i (0, 0)).1) := by
  have h := hV.ns i hi
  obtain ⟨x, hx⟩ : ∃ x, (l.getD i (0, 0)).1 = x := ⟨_, rfl⟩
  obtain ⟨y, hy⟩ : ∃ y, (l.getD i (0, 0)).2 = y := ⟨_, rfl⟩
  have hrow : ∀ j, j < c + e + 1 → M i j = eqc x y c e j := fun j hj => by rw [hM i j hi hj, hx, hy]
  rw [hx, hy, sm_ncongr (g := fun j => (if j < c + e then V.getD j 0 else -1) * eqc x y c e j) (fun j hj => by rw [hrow j hj]), sm] at *
  rw [nm_add_congr (eq_row _ x y c e) rfl, if_neg (by omega), ← eqc_last] at h
  have hl := hV.len
  have e1 : ls (fun j => if j < c + e then V.getD j 0 else -1) 0 c = V.take c := by
    refine list_ext (by rw [ls_len]; simp; omega) fun j hj => ?_
    rw [ls_len] at hj
    rw [ls_getD _ _ hj, if_pos (by omega), take_getD, if_pos hj, Nat.zero_add]
  have e2 : ls (fun j => if j < c + e then V.getD j 0 else -1) c e = V.drop c := by
    refine list_ext (by rw [ls_len]; simp; omega) fun j hj => ?_
    rw [ls_len] at hj
    rw [ls_getD _ _ hj, if_pos (by omega)]
    simp
  rw [e1, e2] at h
  have hdl : (V.drop c).length = e := by simp; omega
  rw [ev_snoc, hdl, Int.one_mul, Int.mul_add]
  have hpw : nm (y * pw x e) = nm (y * x ^ e) := by unfold pw; exact nm_mulr _ _
  rw [hpw] at h
  generalize ev (V.take c) x = a at *
  generalize y * ev (V.drop c) x = b at *
  generalize y * x ^ e = d at *
  unfold nm at *
  omega

/-- The highest number of a product. -/
theorem pc_top {D Z : List Int} {N e : Nat} (hZ : Z.length = e + 1) (hD : ∀ t, N < t → nm (D.getD t 0) = 0) : ∀ d, nm (pc D Z (N + e) (N + 1 + d)) = nm (D.getD N 0 * Z.getD e 0)
  | 0 => by
    rw [Nat.add_zero, pc, pc_far D Z (N + e) N (by omega), Int.zero_add, tm, if_pos (by omega), show N + e - N = e by omega]
  | d + 1 => by
    rw [← Nat.add_assoc, pc, nm_add_congr (pc_top hZ hD d) (show nm (tm D Z (N + e) (N + 1 + d)) = nm 0 from ?_), Int.add_zero]
    unfold tm
    split
    · rw [nm_mul_congr (c := 0) (hD _ (by omega)) rfl, Int.zero_mul]
    · rfl
theorem pc_sub (Q p Z : List Int) (t : Nat) : ∀ n, pc (adl (-1) Q p) Z t n = pc Q Z t n - pc p Z t n
  | 0 => rfl
  | n + 1 => by
    rw [pc, pc, pc, pc_sub Q p Z t n]
    unfold tm
    split
    · rw [adl_getD, Int.neg_one_mul, Int.add_mul, Int.neg_mul]; omega
    · omega
theorem pc_long {Q Z : List Int} {t n : Nat} (h : Q.length ≤ n) : pc Q Z t n = pc Q Z t Q.length := by
  have := pc_ge Q Z t (n - Q.length)
  rwa [show Q.length + (n - Q.length) = n by omega] at this

/-- There is but one way to divide. -/
theorem div_one {Q R p Z : List Int} {e : Nat} (hZ : Z.length = e + 1) (hZt : Z.getD e 0 = 1) (nR : Nml R) (hR : R.length < e + 1) (h : ∀ t, nm (pc Q Z t Q.length + R.getD t 0) = nm (pc p Z t p.length)) : nrm Q = nrm p ∧ R = [] := by
  obtain ⟨D, hD⟩ : ∃ D, D = adl (-1) Q p := ⟨_, rfl⟩
  have hDl : D.length = max Q.length p.length := by rw [hD, adl_len]
  have hpc : ∀ t, nm (pc D Z t D.length) = nm (- R.getD t 0) := fun t => by
    have h1 := h t
    rw [← pc_long (show Q.length ≤ D.length by omega), ← pc_long (show p.length ≤ D.length by omega)] at h1
    rw [hD, pc_sub, ← hD]
    generalize pc Q Z t D.length = a at *
    generalize pc p Z t D.length = b at *
    unfold nm at *
    omega
  have hz : ∀ t, nm (D.getD t 0) = 0 := by
    have hz0 : tl (nz D) D.length = 0 := by
      refine Decidable.byContradiction fun hne => ?_
      obtain ⟨N, hN⟩ : ∃ N, tl (nz D) D.length = N + 1 := ⟨tl (nz D) D.length - 1, by omega⟩
      have h1 := tl_top (nz D) D.length (by omega)
      have h2 := tl_le (nz D) D.length
      rw [hN, Nat.add_sub_cancel, nz_getD] at h1
      have h3 := pc_top (D := D) (N := N) hZ (fun t ht => by
        by_cases htl : t < D.length
        · have := tl_above (nz D) D.length t (by omega) htl
          rwa [nz_getD] at this
        · rw [getD_big (by omega)]; rfl) (D.length - (N + 1))
      rw [show N + 1 + (D.length - (N + 1)) = D.length by omega, hpc, getD_big (show R.length ≤ N + e by omega), hZt, Int.mul_one] at h3
      exact h1 h3.symm
    intro t
    by_cases htl : t < D.length
    · have := tl_above (nz D) D.length t (by omega) htl
      rwa [nz_getD] at this
    · rw [getD_big (by omega)]; rfl
  have hQp : ∀ t, nm (Q.getD t 0) = nm (p.getD t 0) := fun t => by
    have := hz t
    rw [hD, adl_getD] at this
    unfold nm at *
    omega
  refine ⟨nrm_ext hQp, ?_⟩
  cases R with
  | nil => rfl
  | cons r R =>
    have h1 := nR.top (by simp)
    have h2 := hpc ((r :: R).length - 1)
    have h4 : nm (pc D Z ((r :: R).length - 1) D.length) = 0 := by
      have : ∀ n, nm (pc D Z ((r :: R).length - 1) n) = 0 := fun n => by
        induction n with
        | zero => rfl
        | succ n ih =>
          rw [pc, nm_add_congr (c := 0) (d := 0) ih ?_]; · rfl
          unfold tm
          split
          · rw [nm_mul_congr (c := 0) (hz n) rfl, Int.zero_mul]
          · rfl
      exact this _
    have h3 := getD_bd' nR.bd ((r :: R).length - 1)
    rw [h4] at h2
    unfold nm at h2
    omega

/-- What comes of the division tells whether there is a polynomial that has all shares but a few. -/
theorem bw_find {M : Nat → Nat → Int} {l : List (Int × Int)} {n t e : Nat} {V Q R Z : List Int} (hl : l.length = n) (hd : dis (fa l) n) (hn : t + 1 + 2 * e ≤ n) (hM : Bwe M l n (t + 1 + e) e) (hV : Sol M n (t + 1 + e + e) V)
    (hZ : Z = V.drop (t + 1 + e) ++ [1]) (nQ : Nml Q) (nR : Nml R) (hR : R.length < e + 1) (h : ∀ j, nm (pc Q Z j Q.length + R.getD j 0) = nm ((V.take (t + 1 + e)).getD j 0)) :
    (R = [] → Q.length ≤ t + 1 ∧ (bdl l Q n).length ≤ e) ∧ (R ≠ [] → ∀ p : List Int, p.length ≤ t + 1 → ¬ (bdl l p n).length ≤ e) := by
  have hVl := hV.len
  have hZl : Z.length = e + 1 := by rw [hZ]; simp; omega
  have hZt : Z.getD e 0 = 1 := by
    have hdl : (V.drop (t + 1 + e)).length = e := by simp; omega
    rw [hZ, getD_appR (by omega), hdl, Nat.sub_self]; rfl
  have heq : ∀ i, i < n → nm (ev (V.take (t + 1 + e)) (l.getD i (0, 0)).1) = nm ((l.getD i (0, 0)).2 * ev Z (l.getD i (0, 0)).1) := fun i hi => by rw [hZ]; exact bw_eq hM hV hi
  have hget : ∀ x ∈ l, ∃ i, i < n ∧ l.getD i (0, 0) = x := fun x hx => by
    obtain ⟨i, hi, e⟩ := List.getElem_of_mem hx
    exact ⟨i, by omega, by simp [List.getElem?_eq_getElem hi, e]⟩
  have hpair : ∀ f : Int × Int → Bool, (ats (l.filter f)).Pairwise (fun a b => nm (a - b) ≠ 0) := fun f => by
    have h1 := ats_pair hl (dis_okk hd)
    unfold ats at h1 ⊢
    rw [List.pairwise_map] at h1 ⊢
    exact h1.filter _
  constructor
  · rintro rfl
    have h' : ∀ j, nm (pc Q Z j Q.length) = nm ((V.take (t + 1 + e)).getD j 0) := fun j => by have := h j; simpa using this
    refine ⟨?_, ?_⟩
    · rcases Nat.lt_or_ge (t + 1) Q.length with hlt | hge
      · exfalso
        have h1 := pc_top (D := Q) (Z := Z) (N := Q.length - 1) hZl (fun j hj => by rw [getD_big (by omega)]; rfl) 0
        rw [show Q.length - 1 + 1 + 0 = Q.length by omega, h', hZt, Int.mul_one, getD_big (by simp; omega)] at h1
        have h2 := nQ.top (by omega)
        have h3 := getD_bd' nQ.bd (Q.length - 1)
        unfold nm at h1
        omega
      · exact hge
    · rcases Nat.lt_or_ge e (bdl l Q n).length with hlt | hge
      · exfalso
        rw [← hl, bdl_all] at hlt
        have hr := roots (ats (l.filter (badb Q))) Z (hpair _) (fun a ha => by
          obtain ⟨x, hx, rfl⟩ := List.mem_map.1 ha
          obtain ⟨hx1, hx2⟩ := List.mem_filter.1 hx
          obtain ⟨i, hi, rfl⟩ := hget x hx1
          have hb : ¬ nm (ev Q (l.getD i (0, 0)).1) = nm (l.getD i (0, 0)).2 := by simpa [badb] using hx2
          refine Decidable.byContradiction fun hne => hb ?_
          refine nm_cancel (a := ev Z (l.getD i (0, 0)).1) ?_ hne
          rw [Int.mul_comm, ← cvl_ev, Int.mul_comm _ (l.getD i (0, 0)).2, ← heq i hi]
          refine ev_congr _ _ _ fun j => ?_
          rw [cvl_getD, nm_nm]
          exact h' j) (by rw [ats_len]; rw [List.length_map] at hlt; omega) 1 (by rw [hZ]; simp)
        revert hr; decide
      · exact hge
  · intro hR0 p hp hb
    have hpoly : nrm (V.take (t + 1 + e)) = nrm (cvl p Z) := by
      have hcnt := cnt_good l p n
      have hf : (l.filter fun x => !badb p x).length + (bdl l p n).length = n := by
        rw [← hl, bdl_all, List.length_map]
        clear hb hcnt hget hpair heq hV hM hd hl hn h
        induction l with
        | nil => rfl
        | cons a l ih =>
          simp only [List.filter_cons, List.length_cons]
          cases badb p a <;> simp <;> omega
      refine same_poly (hpair fun x => !badb p x) (fun a ha => ?_) ?_ ?_
      · obtain ⟨x, hx, rfl⟩ := List.mem_map.1 ha
        obtain ⟨hx1, hx2⟩ := List.mem_filter.1 hx
        obtain ⟨i, hi, rfl⟩ := hget x hx1
        have hg : nm (ev p (l.getD i (0, 0)).1) = nm (l.getD i (0, 0)).2 := by simpa [badb] using hx2
        rw [heq i hi, cvl_ev]
        exact (nm_mul_congr hg rfl).symm
      · rw [ats_len]; simp; omega
      · rw [ats_len, cvl_len]; omega
    have := (div_one hZl hZt nR hR (Q := Q) (p := p) fun j => by
      rw [h j, ← nrm_getD, hpoly, nrm_getD, cvl_getD, nm_nm]).2
    exact hR0 this
end Go.Proofs.YtoifklkdfgfbdagDoor

namespace Go.Proofs.YtoifklkdfgfbdagDoor
open Go.RowKit Crm

set_option maxRecDepth 100000 in
set_option maxHeartbeats 1000000 in
theorem cEquation (x y : Int) (c e : Nat) (w : World) (hx1 : 1 ≤ x) (hx9 : x ≤ 9) (hy0 : 0 ≤ y) (hy1 : y ≤ 18446744073709551615) (hc : c ≤ 100) (hec : e < c) :
    Calls Tryd.prog 83 #[.agg #[.int .i64 x, .int .u64 y], .int .i64 c, .int .i64 e] w fun en w' => ∃ a cp, en = .returned (.slice a (c + e + 1) cp) ∧ Rd w' a (c + e + 1) cp (eqn x y c e (c + e + 1)) ∧ (∀ q, a = some q → w.heap.size ≤ q.block) ∧ Below w.heap.size w w' := by
  obtain ⟨i0, hi, hz0, hz1, hz2⟩ := info_parts info34
  have hcA0 := cell_alloc0 w (.int .i64 x) (.int .u64 y) 68
  have hcA1 := cell_alloc1 w (.int .i64 x) (.int .u64 y) 68
  have hbA : Below w.heap.size w (w.alloc (.cells #[.int .i64 x, .int .u64 y] 68)) := (Below.refl _ _).alloc (Nat.le_refl _) _
  have HsA : Hid ((w.alloc (.cells #[.int .i64 x, .int .u64 y] 68)).heap.size = w.heap.size + 1) := by simp [Hid]
  go_enter Tryd.func83, Tryd.ntmps83
  go_wp2_with (at_make; generalize w.alloc (.cells #[.int .i64 x, .int .u64 y] 68) = wA at *; refine wpList_make_own _ rfl _ _ 22 rfl wA.heap.size 34 i0 (.int .u64 0) 1 Tryd.underlying22 hi hz0 hz1 .i64 .i64 _ (c + e + 1) rfl rfl (by omega) (by rw [hz2]; omega) (by unfold maxLen; omega) (Nat.le_refl _) ?_; intro w1 hown hgrow)
  have hb1 : Below wA.heap.size wA w1 := (Below.refl _ _).grown hgrow (Nat.le_refl _) (by simp)
  clear hgrow
  go_loopw [8, 20] (fun v i wr => ∃ k : Nat, k ≤ c ∧ i = .int .i64 k ∧ wr.ownsRow wA.heap.size 34 1 v k ((eqn x y c e k).map (Value.int .u64)) ∧ Below wA.heap.size wA wr) (fun _ i _ => c - (intOf i).toNat)
  case atStart => exact ⟨0, Nat.zero_le _, rfl, hown, hb1⟩
  case round =>
    clear hown hb1
    obtain ⟨k, hk, rfl, hown, hbel⟩ := hrel
    have hs1 := hbel.size
    by_cases hlt : k < c
    · have hp := pw_bd x k
      have HV : Hid (pw x k = eqc x y c e k) := eqc_first x y e hlt
      go_wp2_with (first | (go_at_call 87; refine (fPow _ _ _ (by omega) (by omega) (by omega) (by omega)).mono ?_; rintro en w' ⟨rfl, hw⟩; have hw := hw.symm; subst hw) | (at_builtin; refine wpList_app1 Tryd.underlying22 info34 _ rfl _ _ rfl wA.heap.size _ _ _ rfl hown _ rfl (by omega) (by omega) ?_; intro v' w3 hown3 hbel3; rw [eqn_snoc x y c e k HV.out] at hown3; have hbel4 := hbel.trans hbel3; clear hown hbel hbel3))
      go_roundw
      case rel => exact ⟨k + 1, by omega, by go_num, hown3, hbel4⟩
      case measure => simp [intOf]; omega
    · have hkc : k = c := by omega
      subst hkc
      obtain ⟨wo, hwo⟩ : ∃ wo, wo = wr := ⟨_, rfl⟩
      subst hwo
      go_wp2
      go_loopw [8, 32] (fun v i wr => ∃ j : Nat, j ≤ e ∧ i = .int .i64 j ∧ wr.ownsRow wA.heap.size 34 1 v (k + j) ((eqn x y k e (k + j)).map (Value.int .u64)) ∧ Below wA.heap.size wA wr) (fun _ i _ => e - (intOf i).toNat)
      case atStart => exact ⟨0, Nat.zero_le _, rfl, hown, hbel⟩
      case round =>
        clear hown hbel
        obtain ⟨j, hj, rfl, hown, hbel⟩ := hrel
        have hs2 := hbel.size
        by_cases hlt : j < e
        · obtain ⟨a', c', rfl, hr, _⟩ := Rd.own hown (bd_u64 (eqn_bd x y k e (k + j)))
          obtain ⟨b, o, z, rfl, hbb, HZ, hz0', hz1', hcz⟩ := hr.one (show j < k + j by omega)
          have HZ2 : Hid (z = pw x j) := by
            have := HZ.out
            rw [eqn_getD x y k e (by omega), ← eqc_first x y e (by omega)] at this
            exact this.symm
          have hcy : wr.cell? ⟨w.heap.size, 1, none⟩ = some (.int .u64 y) := by rw [hbel.cell (by have := HsA.out; simp only; omega)]; exact hcA1
          have hm := nm_bd (y * z)
          have HV : Hid (nm (-nm (y * z)) = eqc x y k e (k + j)) := by rw [HZ2.out, ← Int.zero_sub]; exact eqc_second x y k hlt
          have hj0 : (0 : Int) ≤ (j : Int) := by omega
          have hjk : (j : Int) < (k : Int) + (j : Int) := by omega
          have hown2 : wr.drew.ownsRow wA.heap.size 34 1 (.slice (some ⟨b, o, none⟩) (k + j) c') (k + j) ((eqn x y k e (k + j)).map (Value.int .u64)) := hown
          have hbel2 := hbel.drew
          clear HZ hr
          go_wp2
          go_region_law (first | (refine step_app1 Tryd.underlying22 info34 wr.drew rfl _ _ rfl wA.heap.size _ _ _ rfl hown2 (nm (-nm (y * z))) rfl rfl (by omega) (by exact hs2) ?_; intro v' w3 hown3 hbel3; rw [eqn_snoc x y k e (k + j) HV.out] at hown3; have hbel4 := hbel2.trans hbel3) | (go_simp; go_at_call 42; refine (fMul _ _ _ (by omega) (by omega) (by omega) (by omega)).mono ?_; rintro en w' ⟨rfl, rfl⟩) | (go_simp; go_at_call 70; refine (fSub _ _ _ (by omega) (by omega) (by omega) (by omega)).mono ?_; rintro en w' ⟨rfl, rfl⟩))
          all_goals
            clear hown hbel hown2 hbel2 hbel3
            go_wp2
            go_roundw
            case rel => exact ⟨j + 1, by omega, by go_num, hown3, hbel4⟩
            case measure => simp [intOf]; omega
        · have hje : j = e := by omega
          subst hje
          obtain ⟨a', c', rfl, hr, _⟩ := Rd.own hown (bd_u64 (eqn_bd x y k j (k + j)))
          obtain ⟨b, o, z, rfl, hbb, HZ, hz0', hz1', hcz⟩ := hr.one (show j < k + j by omega)
          have HZ2 : Hid (z = pw x j) := by
            have := HZ.out
            rw [eqn_getD x y k j (by omega), ← eqc_first x y j (by omega)] at this
            exact this.symm
          have hcy : wr.cell? ⟨w.heap.size, 1, none⟩ = some (.int .u64 y) := by rw [hbel.cell (by have := HsA.out; simp only; omega)]; exact hcA1
          have hm := nm_bd (y * z)
          have HV : Hid (nm (y * z) = eqc x y k j (k + j)) := by rw [HZ2.out]; exact eqc_last x y k j
          have hj0 : (0 : Int) ≤ (j : Int) := by omega
          have hjk : (j : Int) < (k : Int) + (j : Int) := by omega
          have hown2 : wr.drew.ownsRow wA.heap.size 34 1 (.slice (some ⟨b, o, none⟩) (k + j) c') (k + j) ((eqn x y k j (k + j)).map (Value.int .u64)) := hown
          have hbel2 := hbel.drew
          clear HZ hr
          go_wp2
          go_region_law (first | (refine step_app1 Tryd.underlying22 info34 wr.drew rfl _ _ rfl wA.heap.size _ _ _ rfl hown2 (nm (y * z)) rfl rfl (by omega) (by exact hs2) ?_; intro v' w3 hown3 hbel3; rw [eqn_snoc x y k j (k + j) HV.out] at hown3; have hbel4 := hbel2.trans hbel3; obtain ⟨a3, c3, rfl, hr3, hf3⟩ := Rd.own hown3 (bd_u64 (eqn_bd x y k j (k + j + 1)))) | (go_simp; go_at_call 42; refine (fMul _ _ _ (by omega) (by omega) (by omega) (by omega)).mono ?_; rintro en w' ⟨rfl, rfl⟩))
          all_goals
            clear hown hbel hown2 hbel2 hbel3
            go_wp2
            go_ret
            exact ⟨a3, c3, rfl, hr3, fun q hq => by have := hf3 q hq; have := HsA.out; omega, hbA.trans (hbel4.mono hbA.size)⟩
end Go.Proofs.YtoifklkdfgfbdagDoor
