/- Circuits: plain facts. -/
import Derived.Test.YtljlioglpaogdabDoorToPolyM3
namespace Go.Proofs.YtljlioglpaogdabDoor
set_option linter.unusedVariables false
set_option maxRecDepth 100000
set_option maxHeartbeats 8000000
section
open Crm
/-- A gate: its kind, its wires, its number. -/
structure Gt where
  k : Int
  a : Int
  b : Int
  n : Int
def gt (G : List Gt) (i : Nat) : Gt := G.getD i ⟨0, 0, 0, 0⟩
/-- Gate i is right. -/
def okg (i : Nat) (g : Gt) : Prop :=
  (g.k = 1 ∧ (1 ≤ g.a ∧ g.a ≤ 9) ∧ g.b = 0 ∧ g.n = 0) ∨ (g.k = 2 ∧ g.a = 0 ∧ g.b = 0) ∨ (g.k = 6 ∧ (0 ≤ g.a ∧ g.a < (i : Int)) ∧ g.b = 0) ∨
  ((g.k = 3 ∨ g.k = 4 ∨ g.k = 5) ∧ (0 ≤ g.a ∧ g.a < (i : Int)) ∧ (0 ≤ g.b ∧ g.b < (i : Int)) ∧ g.n = 0)
def okG (G : List Gt) (n : Nat) : Prop := ∀ i, i < n → okg i (gt G i)
def okO (O : List Int) (n m : Nat) : Prop := ∀ j, j < m → 0 ≤ O.getD j 0 ∧ O.getD j 0 < (n : Int)
theorem okG_zero (G : List Gt) : okG G 0 := fun i hi => by omega
theorem okG_succ {G : List Gt} {k : Nat} (h : okG G k) (hk : okg k (gt G k)) : okG G (k + 1) := fun i hi => by
  by_cases e : i = k
  · rw [e]; exact hk
  · exact h i (by omega)
theorem okG_not {G : List Gt} {k n : Nat} (hk : k < n) (h : ¬ okg k (gt G k)) : ¬ okG G n := fun e => h (e k hk)
theorem okO_zero (O : List Int) (n : Nat) : okO O n 0 := fun i hi => by omega
theorem okO_succ {O : List Int} {n k : Nat} {x : Int} (h : okO O n k) (hx : O.getD k 0 = x) (h0 : 0 ≤ x) (h1 : x < (n : Int)) : okO O n (k + 1) := fun i hi => by
  by_cases e : i = k
  · rw [e, hx]; exact ⟨h0, h1⟩
  · exact h i (by omega)
theorem okO_not {O : List Int} {n m k : Nat} {x : Int} (hk : k < m) (hx : O.getD k 0 = x) (h : x < 0 ∨ (n : Int) ≤ x) : ¬ okO O n m := fun e => by
  have := e k hk
  rw [hx] at this
  omega
/-- What Check tells. -/
def Cke (G : List Gt) (O : List Int) (n m : Nat) (r : Int) : Prop :=
  ((n = 0 ∨ m = 0) ∧ r = 1) ∨ ((n ≠ 0 ∧ m ≠ 0) ∧ (((30 < n ∨ 30 < m) ∧ r = 2) ∨ ((n ≤ 30 ∧ m ≤ 30) ∧ ((¬ (okG G n ∧ okO O n m) ∧ r = 1) ∨ ((okG G n ∧ okO O n m) ∧ r = 0)))))
theorem Cke.one {G : List Gt} {O : List Int} {n m : Nat} {r s : Int} (h : Cke G O n m r) (k : Cke G O n m s) : r = s := by
  rcases h with ⟨h1, rfl⟩ | ⟨h1, ⟨h2, rfl⟩ | ⟨h2, ⟨h3, rfl⟩ | ⟨h3, rfl⟩⟩⟩ <;> rcases k with ⟨k1, rfl⟩ | ⟨k1, ⟨k2, rfl⟩ | ⟨k2, ⟨k3, rfl⟩ | ⟨k3, rfl⟩⟩⟩
  all_goals first
    | rfl
    | (exfalso; omega)
    | exact absurd k3 h3
    | exact absurd h3 k3
theorem Cke.ok {G : List Gt} {O : List Int} {n m : Nat} (h : Cke G O n m 0) : (1 ≤ n ∧ n ≤ 30) ∧ (1 ≤ m ∧ m ≤ 30) ∧ okG G n ∧ okO O n m := by
  rcases h with ⟨_, h⟩ | ⟨h1, ⟨_, h⟩ | ⟨h2, ⟨_, h⟩ | ⟨h3, _⟩⟩⟩
  · omega
  · omega
  · omega
  · exact ⟨⟨by omega, h2.1⟩, ⟨by omega, h2.2⟩, h3⟩
theorem Cke.bd {G : List Gt} {O : List Int} {n m : Nat} {r : Int} (h : Cke G O n m r) : 0 ≤ r ∧ r ≤ 2 := by
  rcases h with ⟨_, rfl⟩ | ⟨_, ⟨_, rfl⟩ | ⟨_, ⟨_, rfl⟩ | ⟨_, rfl⟩⟩⟩ <;> omega

/-- Whose the inputs of the first k gates are. -/
def whl (G : List Gt) : Nat → List Int
  | 0 => []
  | k + 1 => if (gt G k).k = 1 then whl G k ++ [(gt G k).a] else whl G k
/-- How many inputs the first k gates are. -/
def ci (G : List Gt) (k : Nat) : Nat := (whl G k).length
theorem ci_zero (G : List Gt) : ci G 0 = 0 := rfl
theorem ci_in {G : List Gt} {k : Nat} (h : (gt G k).k = 1) : ci G (k + 1) = ci G k + 1 := by unfold ci; rw [whl, if_pos h]; simp
theorem ci_no {G : List Gt} {k : Nat} (h : (gt G k).k ≠ 1) : ci G (k + 1) = ci G k := by unfold ci; rw [whl, if_neg h]
theorem ci_le (G : List Gt) : ∀ k, ci G k ≤ k
  | 0 => Nat.le_refl _
  | k + 1 => by
    have := ci_le G k
    by_cases h : (gt G k).k = 1
    · rw [ci_in h]; omega
    · rw [ci_no h]; omega
theorem ci_mono (G : List Gt) {j k : Nat} (h : j ≤ k) : ci G j ≤ ci G k := by
  induction k with
  | zero => obtain rfl : j = 0 := by omega
            exact Nat.le_refl _
  | succ k ih =>
    by_cases e : j = k + 1
    · rw [e]; exact Nat.le_refl _
    · have h1 := ih (by omega)
      by_cases h2 : (gt G k).k = 1
      · rw [ci_in h2]; omega
      · rw [ci_no h2]; exact h1
theorem ci_lt {G : List Gt} {j k : Nat} (h : j < k) (hj : (gt G j).k = 1) : ci G j < ci G k := by
  have := ci_mono G (show j + 1 ≤ k from h)
  rw [ci_in hj] at this
  omega
/-- What a gate tells, the wires ahead being W, the next input q. -/
def gv (W : List Int) (q : Int) (g : Gt) : Int :=
  if g.k = 1 then nm q else if g.k = 2 then nm g.n else if g.k = 6 then nm (W.getD g.a.toNat 0 * g.n)
  else if g.k = 3 then nm (W.getD g.a.toNat 0 + W.getD g.b.toNat 0) else if g.k = 4 then nm (W.getD g.a.toNat 0 - W.getD g.b.toNat 0) else nm (W.getD g.a.toNat 0 * W.getD g.b.toNat 0)
theorem gv_bd (W : List Int) (q : Int) (g : Gt) : 0 ≤ gv W q g ∧ gv W q g ≤ 2147483646 := by
  unfold gv
  repeat' split
  all_goals exact nm_bd _
/-- What the first k wires have. -/
def wv (G : List Gt) (ins : List Int) : Nat → List Int
  | 0 => []
  | k + 1 => wv G ins k ++ [gv (wv G ins k) (ins.getD (ci G k) 0) (gt G k)]
/-- What wire i has. -/
def wi (G : List Gt) (ins : List Int) (i : Nat) : Int := gv (wv G ins i) (ins.getD (ci G i) 0) (gt G i)
theorem wi_bd (G : List Gt) (ins : List Int) (i : Nat) : 0 ≤ wi G ins i ∧ wi G ins i ≤ 2147483646 := gv_bd _ _ _
theorem wv_len (G : List Gt) (ins : List Int) : ∀ k, (wv G ins k).length = k
  | 0 => rfl
  | k + 1 => by rw [wv, List.length_append, wv_len G ins k]; rfl
theorem wv_getD (G : List Gt) (ins : List Int) {j : Nat} : ∀ {k : Nat}, j < k → (wv G ins k).getD j 0 = wi G ins j
  | 0, h => by omega
  | k + 1, h => by
    have hl := wv_len G ins k
    rw [wv]
    by_cases e : j = k
    · subst e
      rw [List.getD_eq_getElem?_getD, List.getElem?_append_right (by omega), hl, Nat.sub_self]
      rfl
    · rw [List.getD_eq_getElem?_getD, List.getElem?_append_left (by omega), ← List.getD_eq_getElem?_getD]
      exact wv_getD G ins (by omega)
/-- A gate's wire by the wires ahead. -/
theorem wi_in {G : List Gt} {ins : List Int} {i : Nat} (h : (gt G i).k = 1) : wi G ins i = nm (ins.getD (ci G i) 0) := by unfold wi gv; rw [if_pos h]
theorem wi_const {G : List Gt} {ins : List Int} {i : Nat} (h : (gt G i).k = 2) : wi G ins i = nm (gt G i).n := by unfold wi gv; rw [if_neg (by omega), if_pos h]
theorem wi_scale {G : List Gt} {ins : List Int} {i a : Nat} (h : (gt G i).k = 6) (ha : (gt G i).a = (a : Int)) (hi : a < i) : wi G ins i = nm (wi G ins a * (gt G i).n) := by
  unfold wi gv
  rw [if_neg (by omega), if_neg (by omega), if_pos h, ha, Int.toNat_natCast, wv_getD G ins hi]
  rfl
theorem wi_add {G : List Gt} {ins : List Int} {i a b : Nat} (h : (gt G i).k = 3) (ha : (gt G i).a = (a : Int)) (hi : a < i) (hb : (gt G i).b = (b : Int)) (hj : b < i) : wi G ins i = nm (wi G ins a + wi G ins b) := by
  unfold wi gv
  rw [if_neg (by omega), if_neg (by omega), if_neg (by omega), if_pos h, ha, hb, Int.toNat_natCast, Int.toNat_natCast, wv_getD G ins hi, wv_getD G ins hj]
  rfl
theorem wi_sub {G : List Gt} {ins : List Int} {i a b : Nat} (h : (gt G i).k = 4) (ha : (gt G i).a = (a : Int)) (hi : a < i) (hb : (gt G i).b = (b : Int)) (hj : b < i) : wi G ins i = nm (wi G ins a - wi G ins b) := by
  unfold wi gv
  rw [if_neg (by omega), if_neg (by omega), if_neg (by omega), if_neg (by omega), if_pos h, ha, hb, Int.toNat_natCast, Int.toNat_natCast, wv_getD G ins hi, wv_getD G ins hj]
  rfl
theorem wi_mul {G : List Gt} {ins : List Int} {i a b : Nat} (h : (gt G i).k = 5) (ha : (gt G i).a = (a : Int)) (hi : a < i) (hb : (gt G i).b = (b : Int)) (hj : b < i) : wi G ins i = nm (wi G ins a * wi G ins b) := by
  unfold wi gv
  rw [if_neg (by omega), if_neg (by omega), if_neg (by omega), if_neg (by omega), if_neg (by omega), ha, hb, Int.toNat_natCast, Int.toNat_natCast, wv_getD G ins hi, wv_getD G ins hj]
  rfl
/-- What the wires in O have. -/
def otl (G : List Gt) (O ins : List Int) (m : Nat) : List Int := (List.range m).map fun j => wi G ins (O.getD j 0).toNat
theorem otl_snoc (G : List Gt) (O ins : List Int) (m : Nat) : otl G O ins m ++ [wi G ins (O.getD m 0).toNat] = otl G O ins (m + 1) := by simp [otl, List.range_succ]
theorem otl_bd (G : List Gt) (O ins : List Int) (m : Nat) : ∀ z ∈ otl G O ins m, 0 ≤ z ∧ z ≤ 2147483646 := by
  intro z hz
  obtain ⟨i, _, rfl⟩ := List.mem_map.1 hz
  exact wi_bd _ _ _
end
end Go.Proofs.YtljlioglpaogdabDoor
