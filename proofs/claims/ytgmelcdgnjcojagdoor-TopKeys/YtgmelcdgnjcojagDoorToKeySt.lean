/- Parties that reckon together: plain facts. · Keys: numbers that are dealt; what is reckoned with them is dealt: plain facts. · Keys: their state, and what each call makes of it: plain. -/
import Derived.Test.YtgmelcdgnjcojagDoorToNewtonM
import Derived.Test.YtgmelcdgnjcojagDoorToGateM
namespace Go.Proofs.YtgmelcdgnjcojagDoor
open Crm

/-- Draws that the first i gates take. -/
def dwn (G : List Gt) (n t : Nat) : Nat → Nat
  | 0 => 0
  | i + 1 => dwn G n t i + (if (gt G i).k = 1 then t else if (gt G i).k = 5 then n * t else 0)
/-- The draws of gate i. -/
def edr (G : List Gt) (n t : Nat) (ds : List Int) (i k : Nat) : List Int := (ds.drop (dwn G n t i)).take k
/-- The parties' numbers of wire i, those of the wires ahead being W. -/
def esh (G : List Gt) (n t : Nat) (ins ds : List Int) (W : List (List Int)) (i : Nat) : List Int :=
  if (gt G i).k = 1 then dl (ins.getD (ci G i) 0 :: edr G n t ds i t) n
  else if (gt G i).k = 2 then List.replicate n (nm (gt G i).n)
  else if (gt G i).k = 3 then mxl (W.getD (gt G i).a.toNat []) (W.getD (gt G i).b.toNat []) 1 1 0 n
  else if (gt G i).k = 4 then mxl (W.getD (gt G i).a.toNat []) (W.getD (gt G i).b.toNat []) 1 2147483646 0 n
  else if (gt G i).k = 6 then mxl (W.getD (gt G i).a.toNat []) (W.getD (gt G i).a.toNat []) (gt G i).n 0 0 n
  else tmO t (W.getD (gt G i).a.toNat []) (W.getD (gt G i).b.toNat []) (edr G n t ds i (n * t)) n n
def ewr (G : List Gt) (n t : Nat) (ins ds : List Int) : Nat → List (List Int)
  | 0 => []
  | i + 1 => ewr G n t ins ds i ++ [esh G n t ins ds (ewr G n t ins ds i) i]
/-- The parties' numbers of wire i. -/
def ew (G : List Gt) (n t : Nat) (ins ds : List Int) (i : Nat) : List Int := esh G n t ins ds (ewr G n t ins ds i) i
theorem esh_len (G : List Gt) (n t : Nat) (ins ds : List Int) (W : List (List Int)) (i : Nat) : (esh G n t ins ds W i).length = n := by
  unfold esh
  repeat' split
  · exact dl_len _ _
  · simp
  · exact mxl_len _ _ _ _ _ _
  · exact mxl_len _ _ _ _ _ _
  · exact mxl_len _ _ _ _ _ _
  · exact tmO_len _ _ _ _ _ _
theorem esh_bd (G : List Gt) (n t : Nat) (ins ds : List Int) (W : List (List Int)) (i : Nat) : ∀ z ∈ esh G n t ins ds W i, 0 ≤ z ∧ z ≤ 2147483646 := by
  unfold esh
  repeat' split
  · exact dl_bd _ _
  · intro z hz; obtain rfl := List.eq_of_mem_replicate hz; exact nm_bd _
  · exact mxl_bd _ _ _ _ _ _
  · exact mxl_bd _ _ _ _ _ _
  · exact mxl_bd _ _ _ _ _ _
  · exact tmO_bd _ _ _ _ _ _
theorem ew_len (G : List Gt) (n t : Nat) (ins ds : List Int) (i : Nat) : (ew G n t ins ds i).length = n := esh_len _ _ _ _ _ _ _
theorem ew_bd (G : List Gt) (n t : Nat) (ins ds : List Int) (i : Nat) : ∀ z ∈ ew G n t ins ds i, 0 ≤ z ∧ z ≤ 2147483646 := esh_bd _ _ _ _ _ _ _
theorem ewr_len (G : List Gt) (n t : Nat) (ins ds : List Int) : ∀ i, (ewr G n t ins ds i).length = i
  | 0 => rfl
  | i + 1 => by rw [ewr, List.length_append, ewr_len G n t ins ds i]; rfl
theorem ewr_succ (G : List Gt) (n t : Nat) (ins ds : List Int) (i : Nat) : ewr G n t ins ds (i + 1) = ewr G n t ins ds i ++ [ew G n t ins ds i] := rfl
theorem ewr_getD (G : List Gt) (n t : Nat) (ins ds : List Int) {j : Nat} : ∀ {i : Nat}, j < i → (ewr G n t ins ds i).getD j [] = ew G n t ins ds j
  | 0, h => by omega
  | i + 1, h => by
    have hl := ewr_len G n t ins ds i
    rw [ewr_succ]
    by_cases e : j = i
    · subst e
      rw [List.getD_eq_getElem?_getD, List.getElem?_append_right (by omega), hl, Nat.sub_self]
      rfl
    · rw [List.getD_eq_getElem?_getD, List.getElem?_append_left (by omega), ← List.getD_eq_getElem?_getD]
      exact ewr_getD G n t ins ds (by omega)
theorem ew_in {G : List Gt} {n t : Nat} {ins ds : List Int} {i : Nat} (h : (gt G i).k = 1) : ew G n t ins ds i = dl (ins.getD (ci G i) 0 :: edr G n t ds i t) n := by unfold ew esh; rw [if_pos h]
theorem ew_const {G : List Gt} {n t : Nat} {ins ds : List Int} {i : Nat} (h : (gt G i).k = 2) : ew G n t ins ds i = List.replicate n (nm (gt G i).n) := by unfold ew esh; rw [if_neg (by omega), if_pos h]
theorem ew_add {G : List Gt} {n t : Nat} {ins ds : List Int} {i a b : Nat} (h : (gt G i).k = 3) (ha : (gt G i).a = (a : Int)) (hi : a < i) (hb : (gt G i).b = (b : Int)) (hj : b < i) : ew G n t ins ds i = mxl (ew G n t ins ds a) (ew G n t ins ds b) 1 1 0 n := by
  unfold ew
  rw [esh, if_neg (by omega), if_neg (by omega), if_pos h, ha, hb, Int.toNat_natCast, Int.toNat_natCast, ewr_getD G n t ins ds hi, ewr_getD G n t ins ds hj]
  rfl
theorem ew_sub {G : List Gt} {n t : Nat} {ins ds : List Int} {i a b : Nat} (h : (gt G i).k = 4) (ha : (gt G i).a = (a : Int)) (hi : a < i) (hb : (gt G i).b = (b : Int)) (hj : b < i) : ew G n t ins ds i = mxl (ew G n t ins ds a) (ew G n t ins ds b) 1 2147483646 0 n := by
  unfold ew
  rw [esh, if_neg (by omega), if_neg (by omega), if_neg (by omega), if_pos h, ha, hb, Int.toNat_natCast, Int.toNat_natCast, ewr_getD G n t ins ds hi, ewr_getD G n t ins ds hj]
  rfl
theorem ew_scale {G : List Gt} {n t : Nat} {ins ds : List Int} {i a : Nat} (h : (gt G i).k = 6) (ha : (gt G i).a = (a : Int)) (hi : a < i) : ew G n t ins ds i = mxl (ew G n t ins ds a) (ew G n t ins ds a) (gt G i).n 0 0 n := by
  unfold ew
  rw [esh, if_neg (by omega), if_neg (by omega), if_neg (by omega), if_neg (by omega), if_pos h, ha, Int.toNat_natCast, ewr_getD G n t ins ds hi]
  rfl
theorem ew_mul {G : List Gt} {n t : Nat} {ins ds : List Int} {i a b : Nat} (h : (gt G i).k = 5) (ha : (gt G i).a = (a : Int)) (hi : a < i) (hb : (gt G i).b = (b : Int)) (hj : b < i) : ew G n t ins ds i = tmO t (ew G n t ins ds a) (ew G n t ins ds b) (edr G n t ds i (n * t)) n n := by
  unfold ew
  rw [esh, if_neg (by omega), if_neg (by omega), if_neg (by omega), if_neg (by omega), if_neg (by omega), ha, hb, Int.toNat_natCast, Int.toNat_natCast, ewr_getD G n t ins ds hi, ewr_getD G n t ins ds hj]
  rfl
/-- Numbers that a polynomial has at the parties are those that are dealt of it. -/
theorem dl_of {P L : List Int} {n : Nat} (hl : L.length = n) (h : ∀ i, i < n → L.getD i 0 = nm (ev P ((i : Int) + 1))) : L = dl P n := by
  refine list_ext (by rw [hl, dl_len]) fun i hi => ?_
  rw [hl] at hi
  rw [h i hi, dl_getD P hi]
  rfl
/-- Each wire's numbers are shares of what the wire has. -/
theorem ew_poly {G : List Gt} {N n t : Nat} {ins ds : List Int} (hG : okG G N) (hn : 2 * t + 1 ≤ n) (hn9 : n ≤ 9) : ∀ i, i < N → ∃ P : List Int, P.length ≤ t + 1 ∧ ew G n t ins ds i = dl P n ∧ nm (ev P 0) = wi G ins i := by
  intro i
  induction i using Nat.strongRecOn with
  | _ i ih =>
    intro hi
    rcases hG i hi with ⟨h1, _, _, _⟩ | ⟨h1, _, _⟩ | ⟨h1, h2, _⟩ | ⟨h1, h2, h3, _⟩
    · refine ⟨_, ?_, ew_in h1, ?_⟩
      · unfold edr; rw [List.length_cons, List.length_take]; omega
      · rw [wi_in h1, ev, Int.zero_mul, Int.add_zero]
    · refine ⟨[nm (gt G i).n], by simp, ?_, ?_⟩
      · rw [ew_const h1]
        refine dl_of (by simp) fun j hj => ?_
        rw [ev, ev, Int.mul_zero, Int.add_zero, nm_nm]
        simp [hj]
      · rw [wi_const h1, ev, Int.zero_mul, Int.add_zero, nm_nm]
    · obtain ⟨a, ha⟩ : ∃ a : Nat, (gt G i).a = a := ⟨(gt G i).a.toNat, by omega⟩
      obtain ⟨A, a1, a2, a3⟩ := ih a (by omega) (by omega)
      obtain ⟨P, p1, p2, p3⟩ := mxl_dealt (A := A) (B := A) (a := (gt G i).n) (b := 0) (c := 0) (n := n) a1 a1
      rw [← a2] at p2
      refine ⟨P, p1, ?_, ?_⟩
      · rw [ew_scale h1 ha (by omega)]
        exact dl_of (mxl_len _ _ _ _ _ _) p2
      · rw [p3, wi_scale h1 ha (by omega), Int.zero_mul, Int.add_zero, Int.add_zero, Int.mul_comm, ← a3, nm_mull]
    · obtain ⟨a, ha⟩ : ∃ a : Nat, (gt G i).a = a := ⟨(gt G i).a.toNat, by omega⟩
      obtain ⟨b, hb⟩ : ∃ b : Nat, (gt G i).b = b := ⟨(gt G i).b.toNat, by omega⟩
      obtain ⟨A, a1, a2, a3⟩ := ih a (by omega) (by omega)
      obtain ⟨B, b1, b2, b3⟩ := ih b (by omega) (by omega)
      rcases h1 with h1 | h1 | h1
      · obtain ⟨P, p1, p2, p3⟩ := mxl_dealt (A := A) (B := B) (a := 1) (b := 1) (c := 0) (n := n) a1 b1
        rw [← a2, ← b2] at p2
        refine ⟨P, p1, ?_, ?_⟩
        · rw [ew_add h1 ha (by omega) hb (by omega)]
          exact dl_of (mxl_len _ _ _ _ _ _) p2
        · rw [p3, wi_add h1 ha (by omega) hb (by omega), ← a3, ← b3]
          unfold nm
          omega
      · obtain ⟨P, p1, p2, p3⟩ := mxl_dealt (A := A) (B := B) (a := 1) (b := 2147483646) (c := 0) (n := n) a1 b1
        rw [← a2, ← b2] at p2
        refine ⟨P, p1, ?_, ?_⟩
        · rw [ew_sub h1 ha (by omega) hb (by omega)]
          exact dl_of (mxl_len _ _ _ _ _ _) p2
        · rw [p3, wi_sub h1 ha (by omega) hb (by omega), ← a3, ← b3]
          unfold nm
          omega
      · obtain ⟨P, p1, p2, p3⟩ := times_dealt (t := t) (n := n) (A := A) (B := B) (ds := edr G n t ds i (n * t)) a1 b1 hn hn9
        rw [← a2, ← b2] at p2
        refine ⟨P, p1, ?_, ?_⟩
        · rw [ew_mul h1 ha (by omega) hb (by omega)]
          refine dl_of (tmO_len _ _ _ _ _ _) fun j hj => ?_
          rw [tmO_getD _ _ _ _ _ hj]
          exact p2 j hj
        · rw [p3, wi_mul h1 ha (by omega) hb (by omega), ← a3, ← b3, nm_mull, nm_mulr]
/-- What party j sees of gate i. -/
def esn (G : List Gt) (n t : Nat) (ins ds : List Int) (i j : Nat) : List Int :=
  if (gt G i).k = 1 then [(ew G n t ins ds i).getD j 0]
  else if (gt G i).k = 5 then tmR t (ew G n t ins ds (gt G i).a.toNat) (ew G n t ins ds (gt G i).b.toNat) (edr G n t ds i (n * t)) n j
  else []
/-- .. of the first i gates. -/
def sng (G : List Gt) (n t : Nat) (ins ds : List Int) (i j : Nat) : List Int := (List.range i).flatMap fun p => esn G n t ins ds p j
theorem sng_succ (G : List Gt) (n t : Nat) (ins ds : List Int) (i j : Nat) : sng G n t ins ds (i + 1) j = sng G n t ins ds i j ++ esn G n t ins ds i j := by simp [sng, List.range_succ]
/-- .. and of the first q outs. -/
def sno (G : List Gt) (O : List Int) (n t : Nat) (ins ds : List Int) (N q j : Nat) : List Int := sng G n t ins ds N j ++ (List.range q).flatMap fun o => ew G n t ins ds (O.getD o 0).toNat
theorem sno_succ (G : List Gt) (O : List Int) (n t : Nat) (ins ds : List Int) (N q j : Nat) : sno G O n t ins ds N (q + 1) j = sno G O n t ins ds N q j ++ ew G n t ins ds (O.getD q 0).toNat := by simp [sno, List.range_succ]
/-- What all parties have seen. -/
def snl (G : List Gt) (O : List Int) (n t : Nat) (ins ds : List Int) (N m : Nat) : List (List Int) := (List.range n).map fun j => sno G O n t ins ds N m j
theorem snl_len (G : List Gt) (O : List Int) (n t : Nat) (ins ds : List Int) (N m : Nat) : (snl G O n t ins ds N m).length = n := by simp [snl]
theorem snl_getD (G : List Gt) (O : List Int) (n t : Nat) (ins ds : List Int) (N m : Nat) {j : Nat} (h : j < n) : (snl G O n t ins ds N m).getD j [] = sno G O n t ins ds N m j := by simp [snl, h]
theorem esn_bd (G : List Gt) (n t : Nat) (ins ds : List Int) (i : Nat) {j : Nat} (hj : j < n) : ∀ z ∈ esn G n t ins ds i j, 0 ≤ z ∧ z ≤ 2147483646 := by
  unfold esn
  split
  · intro z hz
    obtain rfl := List.mem_singleton.1 hz
    refine ew_bd G n t ins ds i _ ?_
    rw [List.getD_eq_getElem?_getD, List.getElem?_eq_getElem (by rw [ew_len]; exact hj)]
    exact List.getElem_mem _
  · split
    · exact tmR_bd _ _ _ _ _ _
    · intro z hz; simp at hz
theorem sno_bd (G : List Gt) (O : List Int) (n t : Nat) (ins ds : List Int) (N q : Nat) {j : Nat} (hj : j < n) : ∀ z ∈ sno G O n t ins ds N q j, 0 ≤ z ∧ z ≤ 2147483646 := by
  intro z hz
  rcases List.mem_append.1 hz with hz | hz
  · obtain ⟨i, _, hi⟩ := List.mem_flatMap.1 hz
    exact esn_bd G n t ins ds i hj z hi
  · obtain ⟨i, _, hi⟩ := List.mem_flatMap.1 hz
    exact ew_bd _ _ _ _ _ _ z hi
/-- As many numbers are seen by each party, whatever was drawn. -/
theorem esn_len (G : List Gt) (n t : Nat) (ins ds es : List Int) (i j k : Nat) : (esn G n t ins ds i j).length = (esn G n t ins es i k).length := by
  unfold esn
  split
  · rfl
  · split
    · rw [tmR_len, tmR_len]
    · rfl
theorem sno_len (G : List Gt) (O : List Int) (n t : Nat) (ins ds es : List Int) (N q j k : Nat) : (sno G O n t ins ds N q j).length = (sno G O n t ins es N q k).length := by
  unfold sno sng
  rw [List.length_append, List.length_append, List.length_flatMap, List.length_flatMap, List.length_flatMap, List.length_flatMap]
  congr 1
  · congr 1
    exact List.map_congr_left fun i _ => esn_len G n t ins ds es i j k
  · congr 1
    exact List.map_congr_left fun i _ => by rw [ew_len, ew_len]
/-- Who may run a circuit. -/
def okc (G : List Gt) (N : Nat) (n t : Int) : Prop := (0 ≤ t ∧ t ≤ 4) ∧ (1 ≤ n ∧ n ≤ 9) ∧ 2 * t + 1 ≤ n ∧ ∀ x ∈ whl G N, x ≤ n
/-- What Need tells. -/
def Nde (G : List Gt) (O : List Int) (N m : Nat) (n t r : Int) : Prop := (r ≠ 0 ∧ Cke G O N m r) ∨ (Cke G O N m 0 ∧ ((¬ okc G N n t ∧ r = 1) ∨ (okc G N n t ∧ r = 0)))
theorem Nde.one {G : List Gt} {O : List Int} {N m : Nat} {n t r s : Int} (h : Nde G O N m n t r) (k : Nde G O N m n t s) : r = s := by
  rcases h with ⟨h1, h2⟩ | ⟨h1, ⟨h2, rfl⟩ | ⟨h2, rfl⟩⟩ <;> rcases k with ⟨k1, k2⟩ | ⟨k1, ⟨k2, rfl⟩ | ⟨k2, rfl⟩⟩
  all_goals first
    | rfl
    | exact h2.one k2
    | exact absurd (h2.one k1) h1
    | exact absurd (k2.one h1) k1
    | exact absurd k2 h2
    | exact absurd h2 k2
theorem Nde.ok {G : List Gt} {O : List Int} {N m : Nat} {n t : Int} (h : Nde G O N m n t 0) : Cke G O N m 0 ∧ okc G N n t := by
  rcases h with ⟨h1, _⟩ | ⟨h1, ⟨_, h2⟩ | ⟨h2, _⟩⟩
  · exact absurd rfl h1
  · omega
  · exact ⟨h1, h2⟩
/-- What is wrong with a run. -/
def Ere (G : List Gt) (O : List Int) (N m : Nat) (n t : Int) (q d : Nat) (r : Int) : Prop :=
  (r ≠ 0 ∧ Nde G O N m n t r) ∨ (Nde G O N m n t 0 ∧ ((q ≠ ci G N ∧ r = 5) ∨ (q = ci G N ∧ ((d ≠ dwn G n.toNat t.toNat N ∧ r = 1) ∨ (d = dwn G n.toNat t.toNat N ∧ r = 0)))))
theorem Ere.one {G : List Gt} {O : List Int} {N m : Nat} {n t : Int} {q d : Nat} {r s : Int} (h : Ere G O N m n t q d r) (k : Ere G O N m n t q d s) : r = s := by
  rcases h with ⟨h1, h2⟩ | ⟨h1, ⟨h2, rfl⟩ | ⟨h2, ⟨h3, rfl⟩ | ⟨h3, rfl⟩⟩⟩ <;> rcases k with ⟨k1, k2⟩ | ⟨k1, ⟨k2, rfl⟩ | ⟨k2, ⟨k3, rfl⟩ | ⟨k3, rfl⟩⟩⟩
  all_goals first
    | rfl
    | exact h2.one k2
    | exact absurd (h2.one k1) h1
    | exact absurd (k2.one h1) k1
    | exact absurd k2 h2
    | exact absurd h2 k2
    | exact absurd k3 h3
    | exact absurd h3 k3
end Go.Proofs.YtgmelcdgnjcojagDoor

namespace Go.Proofs.YtgmelcdgnjcojagDoor
open Crm

/-- The parties' numbers L are shares, of t at the most, of v. -/
def Ksh (n t : Nat) (L : List Int) (v : Int) : Prop := ∃ P : List Int, P.length ≤ t + 1 ∧ L = dl P n ∧ nm (ev P 0) = v
theorem Ksh.len {n t : Nat} {L : List Int} {v : Int} (h : Ksh n t L v) : L.length = n := by
  obtain ⟨P, _, rfl, _⟩ := h
  exact dl_len _ _
theorem Ksh.bd {n t : Nat} {L : List Int} {v : Int} (h : Ksh n t L v) : ∀ z ∈ L, 0 ≤ z ∧ z ≤ 2147483646 := by
  obtain ⟨P, _, rfl, _⟩ := h
  exact dl_bd _ _
theorem Ksh.val {n t : Nat} {L : List Int} {v : Int} (h : Ksh n t L v) : 0 ≤ v ∧ v ≤ 2147483646 := by
  obtain ⟨P, _, _, rfl⟩ := h
  exact nm_bd _
theorem ksh_deal {n t : Nat} {x : Int} {ds : List Int} (h : ds.length ≤ t) : Ksh n t (dl (x :: ds) n) (nm x) := ⟨x :: ds, by rw [List.length_cons]; omega, rfl, by rw [ev, Int.zero_mul, Int.add_zero]⟩
theorem ksh_zero (n t : Nat) : Ksh n t (List.replicate n 0) 0 := by
  refine ⟨[], Nat.zero_le _, ?_, rfl⟩
  exact dl_of (by simp) fun i hi => by simp [hi, ev]; rfl
/-- A mix of them. -/
theorem Ksh.mix {n t : Nat} {L M : List Int} {v u : Int} (a b c : Int) (h : Ksh n t L v) (g : Ksh n t M u) : Ksh n t (mxl L M a b c n) (nm (a * v + b * u + c)) := by
  obtain ⟨A, a1, rfl, rfl⟩ := h
  obtain ⟨B, b1, rfl, rfl⟩ := g
  obtain ⟨P, p1, p2, p3⟩ := mxl_dealt (A := A) (B := B) (a := a) (b := b) (c := c) (n := n) a1 b1
  refine ⟨P, p1, dl_of (mxl_len _ _ _ _ _ _) p2, ?_⟩
  rw [p3]
  refine nm_add_congr (nm_add_congr ?_ ?_) rfl
  · rw [nm_mulr]
  · rw [nm_mulr]
/-- Their product, dealt again. -/
theorem Ksh.times {n t : Nat} {L M ds : List Int} {v u : Int} (h : Ksh n t L v) (g : Ksh n t M u) (hn : 2 * t + 1 ≤ n) (hn9 : n ≤ 9) : Ksh n t (tmO t L M ds n n) (nm (v * u)) := by
  obtain ⟨A, a1, rfl, rfl⟩ := h
  obtain ⟨B, b1, rfl, rfl⟩ := g
  obtain ⟨P, p1, p2, p3⟩ := times_dealt (t := t) (n := n) (A := A) (B := B) (ds := ds) a1 b1 hn hn9
  refine ⟨P, p1, dl_of (tmO_len _ _ _ _ _ _) fun j hj => ?_, ?_⟩
  · rw [tmO_getD _ _ _ _ _ hj]
    exact p2 j hj
  · rw [p3, nm_mull, nm_mulr]
/-- What is told of them. -/
theorem Ksh.opened {n t : Nat} {L : List Int} {v x r : Int} (h : Ksh n t L v) (hn : 2 * t + 1 ≤ n) (hn9 : n ≤ 9) (hO : Opn (shl L n) n t x r) : x = v ∧ r = 0 := by
  obtain ⟨P, p1, rfl, rfl⟩ := h
  exact shl_open hn9 (show t ≤ 4 by omega) (by omega) p1 (fun i hi => dl_getD P hi) hO
/-- What party i deals: its own first draw, or nought, with t draws. -/
def kdr (t : Nat) (sec : Bool) (ds : List Int) (i : Nat) : List Int := if sec then ds.getD (i * (t + 1)) 0 :: (ds.drop (i * (t + 1) + 1)).take t else 0 :: (ds.drop (i * t)).take t
/-- The sums of what the first i parties have dealt. -/
def ksm (n t : Nat) (sec : Bool) (ds : List Int) : Nat → List Int
  | 0 => List.replicate n 0
  | i + 1 => mxl (ksm n t sec ds i) (dl (kdr t sec ds i) n) 1 1 0 n
/-- The sum of what they dealt. -/
def ksv (t : Nat) (sec : Bool) (ds : List Int) : Nat → Int
  | 0 => 0
  | i + 1 => nm (ksv t sec ds i + nm ((kdr t sec ds i).getD 0 0))
theorem kdr_ksh (n t : Nat) (sec : Bool) (ds : List Int) (i : Nat) : Ksh n t (dl (kdr t sec ds i) n) (nm ((kdr t sec ds i).getD 0 0)) := by
  unfold kdr
  cases sec with
  | true =>
    rw [if_pos rfl]
    exact ksh_deal (by rw [List.length_take]; omega)
  | false =>
    rw [if_neg (by decide)]
    exact ksh_deal (by rw [List.length_take]; omega)
theorem ksm_ksh (n t : Nat) (sec : Bool) (ds : List Int) : ∀ i, Ksh n t (ksm n t sec ds i) (ksv t sec ds i)
  | 0 => ksh_zero n t
  | i + 1 => by
    have h := (ksm_ksh n t sec ds i).mix 1 1 0 (kdr_ksh n t sec ds i)
    rw [Int.one_mul, Int.one_mul, Int.add_zero] at h
    exact h
/-- Refreshing turns shares, not what is told. -/
theorem ksv_false (t : Nat) (ds : List Int) : ∀ i, ksv t false ds i = 0
  | 0 => rfl
  | i + 1 => by
    rw [ksv, ksv_false t ds i]
    rfl
theorem Ksh.fresh {n t : Nat} {L ds : List Int} {v : Int} (h : Ksh n t L v) : Ksh n t (mxl L (ksm n t false ds n) 1 1 0 n) v := by
  have g := h.mix 1 1 0 (ksm_ksh n t false ds n)
  rw [ksv_false, Int.one_mul, Int.one_mul, Int.add_zero, Int.add_zero, nm_small h.val.1 h.val.2] at g
  exact g
end Go.Proofs.YtgmelcdgnjcojagDoor

namespace Go.Proofs.YtgmelcdgnjcojagDoor
open Crm

/-- n parties, t of whom may look; the last handle that ever was; how many keys there are; the parties' numbers by handle. -/
structure Kt where
  n : Nat
  t : Nat
  last : Nat
  cnt : Nat
  f : Int → Option (List Int)
def kset (f : Int → Option (List Int)) (h : Int) (v : Option (List Int)) : Int → Option (List Int) := fun i => if i = h then v else f i
theorem kset_same (f : Int → Option (List Int)) (h : Int) (v : Option (List Int)) : kset f h v h = v := if_pos rfl
theorem kset_other (f : Int → Option (List Int)) {h i : Int} (v : Option (List Int)) (e : i ≠ h) : kset f h v i = f i := if_neg e
structure Kwf (s : Kt) : Prop where
  t4 : s.t ≤ 4
  n9 : s.n ≤ 9
  nt : 2 * s.t + 1 ≤ s.n
  c8 : s.cnt ≤ 8
  key : ∀ h l, s.f h = some l → (1 ≤ h ∧ h ≤ (s.last : Int)) ∧ l.length = s.n ∧ ∀ x ∈ l, 0 ≤ x ∧ x ≤ 2147483646
/-- No keys. -/
def k0 (n t : Nat) : Kt := ⟨n, t, 0, 0, fun _ => none⟩
theorem k0_wf {n t : Nat} (ht : t ≤ 4) (hn : n ≤ 9) (h : 2 * t + 1 ≤ n) : Kwf (k0 n t) := ⟨ht, hn, h, Nat.zero_le _, fun h l e => by cases e⟩
/-- A key more. -/
def kput (s : Kt) (l : List Int) : Kt := ⟨s.n, s.t, s.last + 1, s.cnt + 1, kset s.f ((s.last : Int) + 1) (some l)⟩
def kadd (s : Kt) (l : List Int) : Int × Int × Kt := if 8 ≤ s.cnt then (0, 2, s) else ((s.last : Int) + 1, 0, kput s l)
def kgen (s : Kt) (ds : List Int) : Int × Int × Kt := if ds.length = s.n * (s.t + 1) then kadd s (ksm s.n s.t true ds s.n) else (0, 1, s)
def kmix (s : Kt) (g h : Int) (a b c : Int) : Int × Int × Kt :=
  match s.f g, s.f h with
  | some l, some m => kadd s (mxl l m a b c s.n)
  | _, _ => (0, 4, s)
def kmul (s : Kt) (g h : Int) (ds : List Int) : Int × Int × Kt :=
  match s.f g, s.f h with
  | some l, some m => if ds.length = s.n * s.t then kadd s (tmO s.t l m ds s.n s.n) else (0, 1, s)
  | _, _ => (0, 4, s)
/-- The numbers of a key are turned. -/
def ktrn (s : Kt) (h : Int) (l : List Int) : Kt := ⟨s.n, s.t, s.last, s.cnt, kset s.f h (some l)⟩
def krfr (s : Kt) (h : Int) (ds : List Int) : Int × Kt :=
  match s.f h with
  | some l => if ds.length = s.n * s.t then (0, ktrn s h (mxl l (ksm s.n s.t false ds s.n) 1 1 0 s.n)) else (1, s)
  | none => (4, s)
/-- A key is gone. -/
def kout (s : Kt) (h : Int) : Kt := ⟨s.n, s.t, s.last, s.cnt - 1, kset s.f h none⟩
def kdrp (s : Kt) (h : Int) : Int × Kt :=
  match s.f h with
  | some _ => (0, kout s h)
  | none => (4, s)
/-- What Open answers. -/
def Kop (s : Kt) (h x r : Int) : Prop := (s.f h = none ∧ x = 0 ∧ r = 4) ∨ ∃ l, s.f h = some l ∧ Opn (shl l s.n) s.n s.t x r
theorem Kop.one {s : Kt} {h x r y q : Int} (a : Kop s h x r) (b : Kop s h y q) : x = y ∧ r = q := by
  rcases a with ⟨a1, rfl, rfl⟩ | ⟨l, a1, a2⟩ <;> rcases b with ⟨b1, rfl, rfl⟩ | ⟨m, b1, b2⟩
  · exact ⟨rfl, rfl⟩
  · rw [a1] at b1; cases b1
  · rw [a1] at b1; cases b1
  · rw [a1] at b1
    obtain rfl := Option.some.inj b1
    exact a2.one b2
theorem kput_wf {s : Kt} {l : List Int} (h : Kwf s) (hc : s.cnt < 8) (hl : l.length = s.n) (hb : ∀ x ∈ l, 0 ≤ x ∧ x ≤ 2147483646) : Kwf (kput s l) := by
  refine ⟨h.t4, h.n9, h.nt, hc, fun i m e => ?_⟩
  unfold kput kset at e
  simp only at e
  split at e
  · rename_i hi
    obtain rfl := Option.some.inj e
    refine ⟨⟨by omega, ?_⟩, hl, hb⟩
    show i ≤ ((s.last + 1 : Nat) : Int)
    omega
  · have := h.key i m e
    refine ⟨⟨this.1.1, ?_⟩, this.2⟩
    show i ≤ ((s.last + 1 : Nat) : Int)
    omega
theorem ktrn_wf {s : Kt} {h : Int} {l m : List Int} (w : Kwf s) (hm : s.f h = some m) (hl : l.length = s.n) (hb : ∀ x ∈ l, 0 ≤ x ∧ x ≤ 2147483646) : Kwf (ktrn s h l) := by
  refine ⟨w.t4, w.n9, w.nt, w.c8, fun i k e => ?_⟩
  unfold ktrn kset at e
  simp only at e
  split at e
  · rename_i hi
    obtain rfl := Option.some.inj e
    have := w.key h m hm
    rw [hi]
    exact ⟨this.1, hl, hb⟩
  · exact w.key i k e
theorem kout_wf {s : Kt} {h : Int} (w : Kwf s) : Kwf (kout s h) := by
  refine ⟨w.t4, w.n9, w.nt, ?_, fun i k e => ?_⟩
  · have := w.c8
    show s.cnt - 1 ≤ 8
    omega
  · unfold kout kset at e
    simp only at e
    split at e
    · cases e
    · exact w.key i k e
theorem ksm_len (n t : Nat) (b : Bool) (ds : List Int) (i : Nat) : (ksm n t b ds i).length = n := (ksm_ksh n t b ds i).len
theorem ksm_bd (n t : Nat) (b : Bool) (ds : List Int) (i : Nat) : ∀ x ∈ ksm n t b ds i, 0 ≤ x ∧ x ≤ 2147483646 := (ksm_ksh n t b ds i).bd
theorem tmO_bd' (t : Nat) (a b ds : List Int) (n k : Nat) : ∀ x ∈ tmO t a b ds n k, 0 ≤ x ∧ x ≤ 2147483646 := fun x hx => by
  unfold tmO at hx
  obtain ⟨j, _, rfl⟩ := List.mem_map.1 hx
  exact nm_bd _
/-- What is told of a new key: its handle and no error, or none and that there are too many. -/
theorem kadd_cases (s : Kt) (l : List Int) : (8 ≤ s.cnt ∧ kadd s l = (0, 2, s)) ∨ (s.cnt < 8 ∧ kadd s l = ((s.last : Int) + 1, 0, kput s l)) := by
  unfold kadd
  split
  · exact .inl ⟨by assumption, rfl⟩
  · exact .inr ⟨by omega, rfl⟩
theorem kadd_wf {s : Kt} {l : List Int} (h : Kwf s) (hl : l.length = s.n) (hb : ∀ x ∈ l, 0 ≤ x ∧ x ≤ 2147483646) : Kwf (kadd s l).2.2 ∧ (kadd s l).2.2.last ≤ s.last + 1 ∧ (kadd s l).2.2.n = s.n ∧ (kadd s l).2.2.t = s.t := by
  rcases kadd_cases s l with ⟨_, e⟩ | ⟨hc, e⟩
  · rw [e]; exact ⟨h, by simp, rfl, rfl⟩
  · rw [e]; exact ⟨kput_wf h hc hl hb, Nat.le_refl _, rfl, rfl⟩
theorem kgen_wf {s : Kt} (ds : List Int) (h : Kwf s) : Kwf (kgen s ds).2.2 ∧ (kgen s ds).2.2.last ≤ s.last + 1 ∧ (kgen s ds).2.2.n = s.n ∧ (kgen s ds).2.2.t = s.t := by
  unfold kgen
  split
  · exact kadd_wf h (ksm_len _ _ _ _ _) (ksm_bd _ _ _ _ _)
  · exact ⟨h, by simp, rfl, rfl⟩
theorem kmix_wf {s : Kt} (g i a b c : Int) (h : Kwf s) : Kwf (kmix s g i a b c).2.2 ∧ (kmix s g i a b c).2.2.last ≤ s.last + 1 ∧ (kmix s g i a b c).2.2.n = s.n ∧ (kmix s g i a b c).2.2.t = s.t := by
  unfold kmix
  split
  · exact kadd_wf h (mxl_len _ _ _ _ _ _) (mxl_bd _ _ _ _ _ _)
  · exact ⟨h, by simp, rfl, rfl⟩
theorem kmul_wf {s : Kt} (g i : Int) (ds : List Int) (h : Kwf s) : Kwf (kmul s g i ds).2.2 ∧ (kmul s g i ds).2.2.last ≤ s.last + 1 ∧ (kmul s g i ds).2.2.n = s.n ∧ (kmul s g i ds).2.2.t = s.t := by
  unfold kmul
  split
  · split
    · exact kadd_wf h (tmO_len _ _ _ _ _ _) (tmO_bd' _ _ _ _ _ _)
    · exact ⟨h, by simp, rfl, rfl⟩
  · exact ⟨h, by simp, rfl, rfl⟩
theorem krfr_wf {s : Kt} (i : Int) (ds : List Int) (h : Kwf s) : Kwf (krfr s i ds).2 ∧ (krfr s i ds).2.last = s.last ∧ (krfr s i ds).2.n = s.n ∧ (krfr s i ds).2.t = s.t := by
  unfold krfr
  split
  · rename_i l hl
    split
    · exact ⟨ktrn_wf h hl (mxl_len _ _ _ _ _ _) (mxl_bd _ _ _ _ _ _), rfl, rfl, rfl⟩
    · exact ⟨h, rfl, rfl, rfl⟩
  · exact ⟨h, rfl, rfl, rfl⟩
theorem kdrp_wf {s : Kt} (i : Int) (h : Kwf s) : Kwf (kdrp s i).2 ∧ (kdrp s i).2.last = s.last ∧ (kdrp s i).2.n = s.n ∧ (kdrp s i).2.t = s.t := by
  unfold kdrp
  split
  · exact ⟨kout_wf h, rfl, rfl, rfl⟩
  · exact ⟨h, rfl, rfl, rfl⟩
end Go.Proofs.YtgmelcdgnjcojagDoor
