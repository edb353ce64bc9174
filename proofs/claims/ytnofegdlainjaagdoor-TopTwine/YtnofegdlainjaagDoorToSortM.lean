/- What is hidden: the polynomial that is nought at some parties and 1 at 0; draws that are shifted by it: plain facts. · Who is wrong: plain facts. · Ints in order: INSERTION. Plain. -/
import Derived.Test.YtnofegdlainjaagDoorToRefA
import Derived.Test.YtnofegdlainjaagDoorToEngM
import Derived.Test.YtnofegdlainjaagDoorToFieldC
import Derived.Test.YtnofegdlainjaagDoorToShares
namespace Go.Proofs.YtnofegdlainjaagDoor
open Crm

/-- For each of the first k parties, 1 less x by that party. -/
def bl (who : List Int) : Nat → List Int
  | 0 => [1]
  | k + 1 => cvl (bl who k) [1, nm (-(iv (who.getD k 0)))]
theorem bl_len (who : List Int) : ∀ k, (bl who k).length = k + 1
  | 0 => rfl
  | k + 1 => by rw [bl, cvl_len, bl_len who k]; rfl
theorem bl_bd (who : List Int) : ∀ k, ∀ x ∈ bl who k, 0 ≤ x ∧ x ≤ 2147483646
  | 0 => fun x hx => by rw [List.mem_singleton.1 hx]; decide
  | k + 1 => cvl_bd _ _
theorem bl_succ (who : List Int) (k : Nat) (x : Int) : nm (ev (bl who (k + 1)) x) = nm (ev (bl who k) x * (1 - x * iv (who.getD k 0))) := by
  rw [bl, cvl_ev]
  have e : ev [1, nm (-(iv (who.getD k 0)))] x = 1 + x * nm (-(iv (who.getD k 0))) := by simp [ev]
  rw [e]
  refine nm_mul_congr rfl ?_
  rw [← nm_addr, nm_mulr, nm_addr]
  congr 1
  rw [Int.mul_neg, ← Int.sub_eq_add_neg]
theorem bl_one (who : List Int) : ∀ k, nm (ev (bl who k) 0) = 1
  | 0 => by show nm (ev [1] 0) = 1; decide
  | k + 1 => by rw [bl_succ, ← nm_mull, bl_one who k, Int.zero_mul]; decide
theorem bl_first (who : List Int) (k : Nat) : (bl who k).getD 0 0 = 1 := by
  have h := bl_one who k
  have hb := getD_bd' (bl_bd who k) 0
  have hl := bl_len who k
  cases hq : bl who k with
  | nil => rw [hq] at hl; simp at hl
  | cons a l =>
    rw [hq] at h hb
    rw [ev, Int.zero_mul, Int.add_zero] at h
    rw [cons_getD0] at hb ⊢
    rw [nm_small hb.1 hb.2] at h
    exact h
/-- It is nought at each of them. -/
theorem bl_root {who : List Int} : ∀ {k j : Nat}, j < k → nm (who.getD j 0) ≠ 0 → nm (ev (bl who k) (who.getD j 0)) = 0
  | 0, j, h, _ => by omega
  | k + 1, j, h, hz => by
    rw [bl_succ]
    by_cases e : j = k
    · subst e
      have hi := iv_mul hz
      have e1 : nm (1 - who.getD j 0 * iv (who.getD j 0)) = 0 := by rw [← nm_subr, Int.mul_comm, hi]; decide
      rw [← nm_mulr, e1, Int.mul_zero]
      decide
    · rw [← nm_mull, bl_root (by omega) hz, Int.zero_mul]
      decide
theorem bl_top {who : List Int} : ∀ {k : Nat}, (∀ j, j < k → nm (who.getD j 0) ≠ 0) → (bl who k).getD k 0 ≠ 0
  | 0, _ => by show ([1] : List Int).getD 0 0 ≠ 0; decide
  | k + 1, h => by
    have ih := bl_top (who := who) (k := k) fun j hj => h j (by omega)
    have hb := getD_bd' (bl_bd who k) k
    have hi := iv_mul (h k (by omega))
    have hnz : nm (-(iv (who.getD k 0))) ≠ 0 := fun e => by
      have e2 : nm (iv (who.getD k 0)) = 0 := by unfold nm at e ⊢; omega
      rw [← nm_mull, e2, Int.zero_mul] at hi
      exact absurd hi (by decide)
    rw [bl, cvl_getD, bl_len]
    have e : pc (bl who k) [1, nm (-(iv (who.getD k 0)))] (k + 1) (k + 1) = (bl who k).getD k 0 * nm (-(iv (who.getD k 0))) := by
      rw [pc, pc_far _ _ _ _ (by simp), tm, if_pos (by omega), show k + 1 - k = 1 by omega, Int.zero_add]
      rfl
    rw [e]
    intro e0
    have := nm_mul_zero e0 (by rw [nm_small hb.1 hb.2]; exact ih)
    rw [nm_nm] at this
    exact hnz this
theorem bl_nml {who : List Int} {k : Nat} (h : ∀ j, j < k → nm (who.getD j 0) ≠ 0) : Nml (bl who k) :=
  ⟨bl_bd who k, fun _ => by rw [bl_len, Nat.add_sub_cancel]; exact bl_top h⟩
/-- Draws that are shifted. -/
def shf (who : List Int) (k : Nat) (a b : Int) (ds : List Int) (q : Nat) : List Int := (List.range q).map fun i => nm (ds.getD i 0 + nm (b - a) * (bl who k).getD (i + 1) 0)
theorem shf_len (who : List Int) (k : Nat) (a b : Int) (ds : List Int) (q : Nat) : (shf who k a b ds q).length = q := by simp [shf]
theorem shf_getD (who : List Int) (k : Nat) (a b : Int) (ds : List Int) {q i : Nat} (h : i < q) : (shf who k a b ds q).getD i 0 = nm (ds.getD i 0 + nm (b - a) * (bl who k).getD (i + 1) 0) := by simp [shf, h]
theorem shf_bd (who : List Int) (k : Nat) (a b : Int) (ds : List Int) (q : Nat) : ∀ z ∈ shf who k a b ds q, 0 ≤ z ∧ z ≤ 2147483646 := fun z hz => by
  obtain ⟨i, _, rfl⟩ := List.mem_map.1 hz
  exact nm_bd _
theorem shf_snoc (who : List Int) (k : Nat) (a b : Int) (ds : List Int) (q : Nat) : shf who k a b ds q ++ [nm (ds.getD q 0 + nm (b - a) * (bl who k).getD (q + 1) 0)] = shf who k a b ds (q + 1) := by simp [shf, List.range_succ]
/-- What they tell. -/
theorem shf_ev {who : List Int} {k q : Nat} {a b : Int} {ds : List Int} (hk : k ≤ q) (hq : ds.length = q) (x : Int) : nm (ev (b :: shf who k a b ds q) x) = nm (ev (a :: ds) x + (b - a) * ev (bl who k) x) := by
  rw [← adl_ev]
  refine ev_congr _ _ _ fun t => ?_
  rw [adl_getD]
  cases t with
  | zero => rw [cons_getD0, cons_getD0, bl_first]; congr 1; omega
  | succ i =>
    rw [cons_getDs, cons_getDs]
    by_cases hi : i < q
    · rw [shf_getD who k a b ds hi, nm_nm]
      refine nm_add_congr rfl ?_
      rw [nm_mull]
    · rw [getD_big (by rw [shf_len]; omega), getD_big (xs := ds) (by omega), getD_big (xs := bl who k) (by rw [bl_len]; omega), Int.mul_zero, Int.add_zero]
theorem shf_same {who : List Int} {k q j : Nat} {a b : Int} {ds : List Int} (hk : k ≤ q) (hq : ds.length = q) (hj : j < k) (hz : nm (who.getD j 0) ≠ 0) : nm (ev (b :: shf who k a b ds q) (who.getD j 0)) = nm (ev (a :: ds) (who.getD j 0)) := by
  rw [shf_ev hk hq, ← nm_addr, ← nm_mulr, bl_root hj hz, Int.mul_zero]
  show nm (_ + nm 0) = _
  rw [nm_addr, Int.add_zero]
theorem shf_back (who : List Int) (k : Nat) (a b : Int) (ds : List Int) {q i : Nat} (h : i < q) : (shf who k b a (shf who k a b ds q) q).getD i 0 = nm (ds.getD i 0) := by
  rw [shf_getD _ _ _ _ _ h, shf_getD _ _ _ _ _ h, nm_addl]
  have e : ∀ B : Int, nm (ds.getD i 0 + nm (b - a) * B + nm (a - b) * B) = nm (ds.getD i 0) := fun B => by
    rw [Int.add_assoc, ← Int.add_mul, ← nm_addr, ← nm_mull, nm_addl, nm_addr]
    have : nm (b - a + nm (a - b)) = 0 := by rw [nm_addr, show b - a + (a - b) = 0 by omega]; decide
    rw [this, Int.zero_mul]
    show nm (_ + nm 0) = _
    rw [nm_addr, Int.add_zero]
  exact e _
/-- The pairs of places of a dealing in two variables, in order. -/
def hpl (t : Nat) : List (Nat × Nat) := (List.range (t + 1)).flatMap fun i => ((List.range (t + 1)).filter fun j => decide (i ≤ j ∧ 0 < i + j)).map fun j => (i, j)
theorem hpl_len : ∀ t, t < 5 → (hpl t).length = (t + 1) * (t + 2) / 2 - 1 := by decide
theorem hpl_at : ∀ t, t < 5 → ∀ j, j < 5 → ∀ i, i ≤ j → j ≤ t → 0 < i + j → (hpl t).getD (nd2 (t : Nat) i + ((j : Int) - i)).toNat (0, 0) = (i, j) ∧ 0 ≤ nd2 (t : Nat) i + ((j : Int) - i) := by
  intro t ht j hj i hi hjt h0
  have h1 : t = 0 ∨ t = 1 ∨ t = 2 ∨ t = 3 ∨ t = 4 := by omega
  have h2 : j = 0 ∨ j = 1 ∨ j = 2 ∨ j = 3 ∨ j = 4 := by omega
  have h3 : i = 0 ∨ i = 1 ∨ i = 2 ∨ i = 3 ∨ i = 4 := by omega
  rcases h1 with rfl | rfl | rfl | rfl | rfl <;> rcases h2 with rfl | rfl | rfl | rfl | rfl <;> rcases h3 with rfl | rfl | rfl | rfl | rfl <;> first
    | (exfalso; omega)
    | exact ⟨by decide, by decide⟩
/-- Draws in two variables that are shifted. -/
def twf (who : List Int) (k : Nat) (a b : Int) (ds : List Int) (p : Nat) (x : Nat × Nat) : Int := nm (ds.getD p 0 + nm (b - a) * nm ((bl who k).getD x.1 0 * (bl who k).getD x.2 0))
def twl (who : List Int) (k : Nat) (a b : Int) (ds : List Int) (t q : Nat) : List Int := (List.range q).map fun p => twf who k a b ds p ((hpl t).getD p (0, 0))
theorem twl_len (who : List Int) (k : Nat) (a b : Int) (ds : List Int) (t q : Nat) : (twl who k a b ds t q).length = q := by simp [twl]
theorem twl_getD (who : List Int) (k : Nat) (a b : Int) (ds : List Int) (t : Nat) {q p : Nat} (h : p < q) : (twl who k a b ds t q).getD p 0 = twf who k a b ds p ((hpl t).getD p (0, 0)) := by simp [twl, h]
theorem twl_bd (who : List Int) (k : Nat) (a b : Int) (ds : List Int) (t q : Nat) : ∀ z ∈ twl who k a b ds t q, 0 ≤ z ∧ z ≤ 2147483646 := fun z hz => by
  obtain ⟨i, _, rfl⟩ := List.mem_map.1 hz
  exact nm_bd _
theorem twl_snoc (who : List Int) (k : Nat) (a b : Int) (ds : List Int) (t q : Nat) : twl who k a b ds t q ++ [twf who k a b ds q ((hpl t).getD q (0, 0))] = twl who k a b ds t (q + 1) := by simp [twl, List.range_succ]
theorem twl_le {who : List Int} {k t : Nat} {a b : Int} {ds : List Int} (ht : t ≤ 4) {i j : Nat} (hij : i ≤ j) (hj : j ≤ t) :
    nm (dn b (twl who k a b ds t ((t + 1) * (t + 2) / 2 - 1)) (nd2 t i + ((j : Int) - i))) = nm (dn a ds (nd2 t i + ((j : Int) - i)) + (b - a) * ((bl who k).getD i 0 * (bl who k).getD j 0)) := by
  by_cases h0 : i + j = 0
  · obtain rfl : i = 0 := by omega
    obtain rfl : j = 0 := by omega
    have e : nd2 (t : Int) 0 + (((0 : Nat) : Int) - ((0 : Nat) : Int)) = -1 := rfl
    rw [e]
    have e2 : ∀ (s : Int) (l : List Int), dn s l (-1) = s := fun s l => rfl
    rw [e2, e2, bl_first]
    congr 1
    omega
  · obtain ⟨h1, h2⟩ := hpl_at t (by omega) j (by omega) i hij hj (by omega)
    have h3 := (pos_bd t (by omega) j (by omega) i hij hj).2
    unfold dn
    rw [if_neg (by omega), if_neg (by omega), twl_getD _ _ _ _ _ _ (by omega), h1]
    unfold twf
    rw [nm_nm]
    refine nm_add_congr rfl ?_
    rw [nm_mull, nm_mulr]
theorem twl_A2 {who : List Int} {k t : Nat} {a b : Int} {ds : List Int} (ht : t ≤ 4) {i j : Nat} (hi : i ≤ t) (hj : j ≤ t) :
    A2 b (twl who k a b ds t ((t + 1) * (t + 2) / 2 - 1)) t i j = nm (A2 a ds t i j + (b - a) * ((bl who k).getD i 0 * (bl who k).getD j 0)) := by
  unfold A2
  by_cases h : i ≤ j
  · rw [if_pos h, if_pos h, nm_addl, twl_le ht h hj]
  · rw [if_neg h, if_neg h, nm_addl, twl_le ht (by omega) hi, Int.mul_comm ((bl who k).getD j 0)]
/-- The rows of those who look are the same. -/
theorem twl_row {who : List Int} {k t r : Nat} {a b : Int} {ds : List Int} (ht : t ≤ 4) (hk : k ≤ t) (hr : r < k) (hz : nm (who.getD r 0) ≠ 0) : rowK b (twl who k a b ds t ((t + 1) * (t + 2) / 2 - 1)) t (who.getD r 0) (t + 1) = rowK a ds t (who.getD r 0) (t + 1) := by
  unfold rowK
  refine List.map_congr_left fun j hj => ?_
  have hj := List.mem_range.1 hj
  have e : nm (ev (colA b (twl who k a b ds t ((t + 1) * (t + 2) / 2 - 1)) t j) (who.getD r 0)) = nm (ev (adl ((b - a) * (bl who k).getD j 0) (colA a ds t j) (bl who k)) (who.getD r 0)) := by
    refine ev_congr _ _ _ fun i => ?_
    rw [adl_getD]
    by_cases hi : i ≤ t
    · rw [colA_getD _ _ _ _ hi, colA_getD _ _ _ _ hi, twl_A2 ht hi (by omega), nm_nm, Int.mul_assoc, Int.mul_comm ((bl who k).getD j 0)]
    · have z1 : (colA b (twl who k a b ds t ((t + 1) * (t + 2) / 2 - 1)) t j).getD i 0 = 0 := getD_big (by rw [colA_len]; omega)
      have z2 : (colA a ds t j).getD i 0 = 0 := getD_big (by rw [colA_len]; omega)
      have z3 : (bl who k).getD i 0 = 0 := getD_big (by rw [bl_len]; omega)
      rw [z1, z2, z3, Int.mul_zero, Int.add_zero]
  rw [e, adl_ev, ← nm_addr, ← nm_mulr, bl_root hr hz, Int.mul_zero]
  show nm (_ + nm 0) = _
  rw [nm_addr, Int.add_zero]
end Go.Proofs.YtnofegdlainjaagDoor

namespace Go.Proofs.YtnofegdlainjaagDoor
open Crm

/-- Who of the first k has another number than p tells. -/
def bdl (l : List (Int × Int)) (p : List Int) : Nat → List Int
  | 0 => []
  | k + 1 => if nm (ev p (l.getD k (0, 0)).1) = nm (l.getD k (0, 0)).2 then bdl l p k else bdl l p k ++ [(l.getD k (0, 0)).1]
theorem bdl_ok {l : List (Int × Int)} {p : List Int} {k : Nat} (h : nm (ev p (l.getD k (0, 0)).1) = nm (l.getD k (0, 0)).2) : bdl l p (k + 1) = bdl l p k := by rw [bdl, if_pos h]
theorem bdl_bad {l : List (Int × Int)} {p : List Int} {k : Nat} (h : ¬ nm (ev p (l.getD k (0, 0)).1) = nm (l.getD k (0, 0)).2) : bdl l p (k + 1) = bdl l p k ++ [(l.getD k (0, 0)).1] := by rw [bdl, if_neg h]
theorem bdl_le (l : List (Int × Int)) (p : List Int) : ∀ k, (bdl l p k).length ≤ k
  | 0 => by simp [bdl]
  | k + 1 => by
    have := bdl_le l p k
    rw [bdl]; split
    · omega
    · simp; omega
theorem bdl_nil (l : List (Int × Int)) (p : List Int) : ∀ k, (bdl l p k).length = 0 ↔ Hs l k p
  | 0 => ⟨fun _ j hj => by omega, fun _ => rfl⟩
  | k + 1 => by
    have ih := bdl_nil l p k
    by_cases h : nm (ev p (l.getD k (0, 0)).1) = nm (l.getD k (0, 0)).2
    · rw [bdl_ok h, ih]
      constructor
      · intro g j hj
        by_cases e : j = k
        · subst e; exact h
        · exact g j (by omega)
      · intro g j hj; exact g j (by omega)
    · rw [bdl_bad h]
      constructor
      · intro g; simp at g
      · intro g; exact absurd (g k (by omega)) h

/-- As a filter. -/
def badb (p : List Int) (q : Int × Int) : Bool := !decide (nm (ev p q.1) = nm q.2)
theorem bdl_take (l : List (Int × Int)) (p : List Int) : ∀ k, k ≤ l.length → bdl l p k = ((l.take k).filter (badb p)).map Prod.fst
  | 0, _ => by simp [bdl]
  | k + 1, h => by
    have ih := bdl_take l p k (by omega)
    have e : l.getD k (0, 0) = l[k]'(by omega) := by simp [List.getElem?_eq_getElem (show k < l.length by omega)]
    rw [List.take_succ_eq_append_getElem (show k < l.length by omega), List.filter_append, List.map_append, ← ih]
    by_cases hb : nm (ev p (l.getD k (0, 0)).1) = nm (l.getD k (0, 0)).2
    · rw [bdl_ok hb]
      rw [e] at hb
      simp [badb, hb]
    · rw [bdl_bad hb, e]
      rw [e] at hb
      simp [badb, hb]
theorem bdl_all (l : List (Int × Int)) (p : List Int) : bdl l p l.length = (l.filter (badb p)).map Prod.fst := by
  have := bdl_take l p l.length (Nat.le_refl _)
  rwa [List.take_length] at this
/-- The order of the shares is all one. -/
theorem bdl_perm {l k : List (Int × Int)} (h : l.Perm k) (p : List Int) : (bdl l p l.length).Perm (bdl k p k.length) := by
  rw [bdl_all, bdl_all]
  exact (h.filter _).map _
theorem badb_same {p q : List Int} (h : nrm p = nrm q) (x : Int × Int) : badb p x = badb q x := by
  unfold badb
  rw [ev_one h]
theorem bdl_same {p q : List Int} (h : nrm p = nrm q) (l : List (Int × Int)) : bdl l p l.length = bdl l q l.length := by
  rw [bdl_all, bdl_all]
  congr 1
  exact List.filter_congr fun x _ => badb_same h x

/-- Those that both polynomials have. -/
def both (l : List (Int × Int)) (p q : List Int) : List (Int × Int) := l.filter fun x => !badb p x && !badb q x
theorem both_len (l : List (Int × Int)) (p q : List Int) : l.length ≤ (both l p q).length + (l.filter (badb p)).length + (l.filter (badb q)).length := by
  unfold both
  induction l with
  | nil => simp
  | cons a l ih =>
    cases h1 : badb p a <;> cases h2 : badb q a <;> simp [h1, h2] <;> omega
theorem both_pair {l : List (Int × Int)} {n : Nat} (hl : l.length = n) (hd : dis (fa l) n) (p q : List Int) : (ats (both l p q)).Pairwise (fun a b => nm (a - b) ≠ 0) := by
  have h1 := ats_pair hl (dis_okk hd)
  unfold ats at h1 ⊢
  rw [List.pairwise_map] at h1 ⊢
  exact h1.filter _
/-- Two that have all shares but a few are one. -/
theorem dec_one {l : List (Int × Int)} {n t e : Nat} {p q : List Int} (hl : l.length = n) (hd : dis (fa l) n) (hn : t + 1 + 2 * e ≤ n) (hp : p.length ≤ t + 1) (hq : q.length ≤ t + 1) (h1 : (bdl l p n).length ≤ e) (h2 : (bdl l q n).length ≤ e) : nrm p = nrm q := by
  have hb := both_len l p q
  rw [← hl, bdl_all, List.length_map] at h1 h2
  have ha := ats_len (both l p q)
  refine same_poly (both_pair hl hd p q) (fun c hc => ?_) (by omega) (by omega)
  obtain ⟨x, hx, rfl⟩ := List.mem_map.1 hc
  unfold both at hx
  have hx2 := (List.mem_filter.1 hx).2
  simp only [Bool.and_eq_true, Bool.not_eq_true', badb, Bool.not_eq_false', decide_eq_true_eq] at hx2
  rw [hx2.1, hx2.2]

/-- A choice of shares, bit by bit; and the others. -/
def slt (l : List (Int × Int)) (s : Nat) : Nat → List (Int × Int)
  | 0 => []
  | k + 1 => if s / 2 ^ k % 2 = 1 then slt l s k ++ [l.getD k (0, 0)] else slt l s k
def ult (l : List (Int × Int)) (s : Nat) : Nat → List (Int × Int)
  | 0 => []
  | k + 1 => if s / 2 ^ k % 2 = 1 then ult l s k else ult l s k ++ [l.getD k (0, 0)]
theorem slt_perm (l : List (Int × Int)) (s : Nat) : ∀ k, k ≤ l.length → (slt l s k ++ ult l s k).Perm (l.take k)
  | 0, _ => by simp [slt, ult]
  | k + 1, h => by
    have ih := slt_perm l s k (by omega)
    have e : l.getD k (0, 0) = l[k]'(by omega) := by simp [List.getElem?_eq_getElem (show k < l.length by omega)]
    rw [List.take_succ_eq_append_getElem (show k < l.length by omega), slt, ult, e]
    split
    · rw [List.append_assoc]
      refine (List.Perm.append_left _ (List.perm_append_comm (l₁ := [l[k]]) (l₂ := ult l s k))).trans ?_
      rw [← List.append_assoc]
      exact List.Perm.append_right _ ih
    · rw [← List.append_assoc]
      exact List.Perm.append_right _ ih
/-- How many of the first n a test lets by. -/
def cnt (f : Nat → Bool) : Nat → Nat
  | 0 => 0
  | n + 1 => cnt f n + if f n then 1 else 0
theorem slt_congr (l : List (Int × Int)) {s u : Nat} : ∀ k, (∀ i, i < k → s / 2 ^ i % 2 = u / 2 ^ i % 2) → slt l s k = slt l u k
  | 0, _ => rfl
  | k + 1, h => by rw [slt, slt, h k (by omega), slt_congr l k fun i hi => h i (by omega)]
/-- So many of those that it lets by may be chosen. -/
theorem pick_bits (l : List (Int × Int)) (f : Nat → Bool) : ∀ n m, m ≤ cnt f n → ∃ s, s < 2 ^ n ∧ (slt l s n).length = m ∧ ∀ i, i < n → s / 2 ^ i % 2 = 1 → f i = true
  | 0, m, h => ⟨0, by simp, by simp [cnt] at h; simp [slt, h], fun i hi => by omega⟩
  | n + 1, m, h => by
    have hpow : 2 ^ (n + 1) = 2 ^ n + 2 ^ n := by rw [Nat.pow_succ]; omega
    by_cases hm : m ≤ cnt f n
    · obtain ⟨s, h1, h2, h3⟩ := pick_bits l f n m hm
      have h0 : s / 2 ^ n = 0 := Nat.div_eq_of_lt h1
      refine ⟨s, by omega, by rw [slt, h0, if_neg (by omega)]; exact h2, fun i hi hb => ?_⟩
      by_cases e : i = n
      · subst e; rw [h0] at hb; omega
      · exact h3 i (by omega) hb
    · rw [cnt] at h
      have hf : f n = true := by
        cases hf : f n with
        | true => rfl
        | false => rw [hf] at h; simp at h; omega
      rw [hf, if_pos rfl] at h
      obtain ⟨s, h1, h2, h3⟩ := pick_bits l f n (m - 1) (by omega)
      have hb : ∀ i, i < n → (s + 2 ^ n) / 2 ^ i % 2 = s / 2 ^ i % 2 := fun i hi => by
        have e : 2 ^ n = 2 ^ i * (2 * 2 ^ (n - i - 1)) := by
          rw [← Nat.pow_succ', ← Nat.pow_add]; congr 1; omega
        rw [e, Nat.add_mul_div_left _ _ (Nat.pow_pos (by omega))]
        omega
      have hn : (s + 2 ^ n) / 2 ^ n = 1 := by
        rw [Nat.add_div_right _ (Nat.pow_pos (by omega)), Nat.div_eq_of_lt h1]
      refine ⟨s + 2 ^ n, by omega, ?_, fun i hi hbi => ?_⟩
      · rw [slt, hn, if_pos rfl, slt_congr l n hb]
        simp
        omega
      · by_cases e : i = n
        · subst e; exact hf
        · rw [hb i (by omega)] at hbi
          exact h3 i (by omega) hbi
end Go.Proofs.YtnofegdlainjaagDoor

namespace Go.Proofs.YtnofegdlainjaagDoor
open Crm

/-- Two neighbours change places. -/
def swp (L : List Int) (j : Nat) : List Int := (L.set (j + 1) (L.getD j 0)).set j (L.getD (j + 1) 0)
theorem swp_perm : ∀ (L : List Int) (j : Nat), j + 1 < L.length → (swp L j).Perm L
  | [], j, h => by simp at h
  | [a], j, h => by simp at h
  | a :: b :: l, 0, _ => List.Perm.swap _ _ _
  | a :: b :: l, j + 1, h => (swp_perm (b :: l) j (by simpa using h)).cons a
theorem swp_len (L : List Int) (j : Nat) : (swp L j).length = L.length := by simp [swp]
theorem swp_getD {L : List Int} {j : Nat} (h : j + 1 < L.length) (t : Nat) : (swp L j).getD t 0 = if t = j then L.getD (j + 1) 0 else if t = j + 1 then L.getD j 0 else L.getD t 0 := by
  unfold swp
  rw [getD_set, getD_set, List.length_set]
  by_cases e1 : t = j
  · subst e1; rw [if_pos ⟨rfl, by omega⟩, if_pos rfl]
  · rw [if_neg (fun h => e1 h.1.symm), if_neg e1]
    by_cases e2 : t = j + 1
    · subst e2; rw [if_pos ⟨rfl, h⟩, if_pos rfl]
    · rw [if_neg (fun h => e2 h.1.symm), if_neg e2]
/-- In order but for place j, up to place i. -/
structure InI (L0 L : List Int) (i j : Nat) : Prop where
  perm : L.Perm L0
  srt : ∀ p q, p < q → q ≤ i → q ≠ j → L.getD p 0 ≤ L.getD q 0
structure OuI (L0 L : List Int) (i : Nat) : Prop where
  perm : L.Perm L0
  srt : ∀ p q, p < q → q < i → L.getD p 0 ≤ L.getD q 0
theorem in_start {L0 L : List Int} {i : Nat} (h : OuI L0 L i) : InI L0 L i i := ⟨h.perm, fun p q h1 h2 h3 => h.srt p q h1 (by omega)⟩
theorem in_step {L0 L : List Int} {i j : Nat} (h : InI L0 L i (j + 1)) (hj : j + 1 ≤ i) (hi : i < L.length) (hlt : L.getD (j + 1) 0 < L.getD j 0) : InI L0 (swp L j) i j := by
  refine ⟨(swp_perm L j (by omega)).trans h.perm, fun p q h1 h2 h3 => ?_⟩
  rw [swp_getD (by omega), swp_getD (by omega), if_neg h3]
  have hs := h.srt
  by_cases e : q = j + 1
  · subst e
    rw [if_pos rfl]
    by_cases e2 : p = j
    · subst e2; rw [if_pos rfl]; omega
    · rw [if_neg e2, if_neg (by omega)]
      exact hs p j (by omega) (by omega) (by omega)
  · rw [if_neg e]
    have h4 := hs p q h1 h2 e
    by_cases e2 : p = j
    · subst e2; rw [if_pos rfl]; exact hs (p + 1) q (by omega) h2 e
    · rw [if_neg e2]
      by_cases e3 : p = j + 1
      · subst e3; rw [if_pos rfl]; exact hs j q (by omega) h2 e
      · rw [if_neg e3]; exact h4
theorem in_end0 {L0 L : List Int} {i : Nat} (h : InI L0 L i 0) : OuI L0 L (i + 1) := ⟨h.perm, fun p q h1 h2 => h.srt p q h1 (by omega) (by omega)⟩
theorem in_end {L0 L : List Int} {i j : Nat} (h : InI L0 L i (j + 1)) (hj : j + 1 ≤ i) (hle : L.getD j 0 ≤ L.getD (j + 1) 0) : OuI L0 L (i + 1) := by
  refine ⟨h.perm, fun p q h1 h2 => ?_⟩
  by_cases e : q = j + 1
  · subst e
    by_cases e2 : p = j
    · subst e2; exact hle
    · exact Int.le_trans (h.srt p j (by omega) (by omega) (by omega)) hle
  · exact h.srt p q h1 (by omega) e
theorem OuI.pair {L0 L : List Int} {n : Nat} (h : OuI L0 L n) (hl : L.length = n) : L.Pairwise (· ≤ ·) := by
  rw [List.pairwise_iff_getElem]
  intro i j hi hj hij
  have := h.srt i j hij (by omega)
  simpa [List.getElem?_eq_getElem hi, List.getElem?_eq_getElem hj] using this
/-- There is but one order. -/
theorem srt_one {L0 L1 A B : List Int} {n m : Nat} (h : OuI L0 A n) (k : OuI L1 B m) (hp : L0.Perm L1) (hA : A.length = n) (hB : B.length = m) : A = B :=
  List.Perm.eq_of_pairwise (le := (· ≤ ·)) (fun _ _ _ _ h1 h2 => Int.le_antisymm h1 h2) (h.pair hA) (k.pair hB) ((h.perm.trans hp).trans k.perm.symm)
end Go.Proofs.YtnofegdlainjaagDoor
