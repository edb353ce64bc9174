/- Rows of a dealing in two variables meet; a bent one is told: plain facts. · Circuits: plain facts. · Parties that reckon together: plain facts. -/
import Derived.Test.YtnofegdlainjaagDoorToTPairM
import Derived.Test.YtnofegdlainjaagDoorToAnyM
import Derived.Test.YtnofegdlainjaagDoorToShares
import Derived.Test.YtnofegdlainjaagDoorToRefA
namespace Go.Proofs.YtnofegdlainjaagDoor
open Crm

theorem ev_sm (x : Int) : ∀ L : List Int, ev L x = sm (fun j => L.getD j 0 * x ^ j) L.length := by
  intro L
  have h : ∀ k, k ≤ L.length → ev (L.take k) x = sm (fun j => L.getD j 0 * x ^ j) k := by
    intro k
    induction k with
    | zero => intro _; rfl
    | succ k ih => intro hk; rw [ev_take L x (by omega), ih (by omega), sm]
  have := h L.length (Nat.le_refl _)
  rwa [List.take_length] at this
/-- What the row of x tells at y. -/
theorem row_ev (s : Int) (ds : List Int) (t : Nat) (x y : Int) : nm (ev (rowK s ds t x (t + 1)) y) = nm (sm (fun j => sm (fun i => A2 s ds t i j * x ^ i * y ^ j) (t + 1)) (t + 1)) := by
  rw [ev_sm, rowK_len]
  refine sm_ncongr fun j hj => ?_
  rw [rowK_getD s ds t x hj, nm_mull, ev_sm, colA_len, Int.mul_comm, ← sm_mul]
  refine sm_ncongr fun i hi => ?_
  rw [colA_getD s ds t j (by omega), Int.mul_comm]
/-- Any two rows meet. -/
theorem row_meet (s : Int) (ds : List Int) (t : Nat) (x y : Int) : nm (ev (rowK s ds t x (t + 1)) y) = nm (ev (rowK s ds t y (t + 1)) x) := by
  rw [row_ev, row_ev, sm_swap (fun i j => A2 s ds t i j * x ^ i * y ^ j)]
  refine sm_ncongr fun i hi => sm_ncongr fun j hj => ?_
  rw [A2_sym s ds t i j, Int.mul_assoc, Int.mul_assoc, Int.mul_comm (x ^ i)]

/-- Rows of the dealing, whichever. -/
def OfD (s : Int) (ds : List Int) (t : Nat) (l : List (Int × List Int)) (n : Nat) : Prop := ∀ r, r < n → tc l r = rowK s ds t (ta l r) (t + 1)
theorem ofd_twf {s : Int} {ds : List Int} {t n : Nat} {l : List (Int × List Int)} (h : OfD s ds t l n) : TwF l n t (colA s ds t) :=
  ⟨fun j _ => by rw [colA_len]; exact Nat.le_refl _, fun i j hi hj => by rw [colA_getD s ds t i hj, colA_getD s ds t j hi, A2_sym],
    fun j hj r hr => by rw [h r hr, rowK_getD s ds t _ (show j < t + 1 by omega), nm_nm]⟩
theorem ofd_len {s : Int} {ds : List Int} {t n : Nat} {l : List (Int × List Int)} (h : OfD s ds t l n) {r : Nat} (hr : r < n) : (tc l r).length = t + 1 := by rw [h r hr, rowK_len]
theorem ofd_rwt {s : Int} {ds : List Int} {t n : Nat} {l : List (Int × List Int)} (h : OfD s ds t l n) (hd : dis (ta l) n) (ht : t ≤ 4) : Rwt l n t :=
  ⟨fun i hi => ⟨hd i hi, by rw [ofd_len h hi]; omega, by rw [ofd_len h hi]; omega⟩, fun i hi => ofd_len h hi⟩
/-- t + 1 rows, or more, tell the secret. -/
theorem ofd_join {s : Int} {ds : List Int} {t n : Nat} {l : List (Int × List Int)} {x r : Int} (h : OfD s ds t l n) (hd : dis (ta l) n) (ht : t ≤ 4) (hn : t < n) (hJ : Jnd l n t x r) : x = nm s ∧ r = 0 := by
  have h1 : Jnd l n t (nm ((colA s ds t 0).getD 0 0)) 0 := .inr ⟨t, rfl, ht, .inr (.inr ⟨ofd_rwt h hd ht, hn, .inl ⟨_, ofd_twf h, rfl, rfl⟩⟩)⟩
  have h2 := hJ.one h1
  rw [colA_getD s ds t 0 (Nat.zero_le _), A2_zero, nm_nm] at h2
  exact h2
/-- All rows meet. -/
theorem ofd_pairs {s : Int} {ds : List Int} {t n : Nat} {l : List (Int × List Int)} {L : List (Int × Int)} (h : OfD s ds t l n) (hP : Prs l n L) : L = [] := by
  cases L with
  | nil => rfl
  | cons p L =>
    obtain ⟨i, j⟩ := p
    obtain ⟨_, r, q, hr, hq, ei, ej, hne⟩ := (hP.mem i j).1 (by simp)
    exfalso
    apply hne
    rw [h r hr, h q hq, ei, ej]
    exact row_meet s ds t i j
theorem deal_ofd (s : Int) (ds : List Int) (t n : Nat) : OfD s ds t (dealA s ds t n) n := fun r hr => by unfold tc ta; rw [dealA_getD s ds t hr]
theorem deal_ta (s : Int) (ds : List Int) (t : Nat) {n r : Nat} (hr : r < n) : ta (dealA s ds t n) r = (r : Int) + 1 := by unfold ta; rw [dealA_getD s ds t hr]
theorem deal_dis (s : Int) (ds : List Int) (t : Nat) {n : Nat} (hn : n ≤ 9) : dis (ta (dealA s ds t n)) n := fun i hi => by
  rw [deal_ta s ds t hi]
  exact ⟨⟨by omega, by omega⟩, fun j hj => by rw [deal_ta s ds t (show j < n by omega)]; omega⟩

/-- Row k is bent by b at its number c. -/
structure Bnt (s : Int) (ds : List Int) (t n k c : Nat) (b : Int) (l : List (Int × List Int)) : Prop where
  at_ : ∀ r, r < n → ta l r = (r : Int) + 1
  oth : ∀ r, r < n → r ≠ k → tc l r = rowK s ds t ((r : Int) + 1) (t + 1)
  own : tc l k = (rowK s ds t ((k : Int) + 1) (t + 1)).set c (nm (nm (ev (colA s ds t c) ((k : Int) + 1)) + b))
theorem set_ev : ∀ (L : List Int) (c : Nat) (v x : Int), c < L.length → ev (L.set c v) x = ev L x + (v - L.getD c 0) * x ^ c
  | [], c, v, x, h => by simp at h
  | a :: L, 0, v, x, _ => by
    rw [List.set_cons_zero, ev, ev, Int.pow_zero, Int.mul_one, cons_getD0]; omega
  | a :: L, c + 1, v, x, h => by
    rw [List.set_cons_succ, ev, ev, set_ev L c v x (by simpa using h), cons_getDs, Int.mul_add, Int.pow_succ]
    have e : x * ((v - L.getD c 0) * x ^ c) = (v - L.getD c 0) * (x ^ c * x) := by rw [← Int.mul_assoc, Int.mul_comm x, Int.mul_assoc, Int.mul_comm x]
    rw [e]; omega
theorem bnt_dis {s : Int} {ds : List Int} {t n k c : Nat} {b : Int} {l : List (Int × List Int)} (h : Bnt s ds t n k c b l) (hn : n ≤ 9) : dis (ta l) n := fun i hi => by
  rw [h.at_ i hi]
  exact ⟨⟨by omega, by omega⟩, fun j hj => by rw [h.at_ j (by omega)]; omega⟩
/-- What the bent row tells. -/
theorem bnt_ev {s : Int} {ds : List Int} {t n k c : Nat} {b : Int} {l : List (Int × List Int)} (h : Bnt s ds t n k c b l) (hc : c ≤ t) (y : Int) : nm (ev (tc l k) y) = nm (ev (rowK s ds t ((k : Int) + 1) (t + 1)) y + b * y ^ c) := by
  rw [h.own, set_ev _ _ _ _ (by rw [rowK_len]; omega), rowK_getD s ds t _ (show c < t + 1 by omega)]
  refine nm_add_congr rfl (nm_mul_congr ?_ rfl)
  generalize nm (ev (colA s ds t c) ((k : Int) + 1)) = z
  unfold nm; omega
theorem pow_ne {y : Int} (hy : nm y ≠ 0) : ∀ c : Nat, nm (y ^ c) ≠ 0
  | 0 => by rw [Int.pow_zero]; decide
  | c + 1 => fun e => by
    rw [Int.pow_succ] at e
    exact hy (nm_mul_zero e (pow_ne hy c))
/-- The bent row meets none of the others. -/
theorem bnt_dif {s : Int} {ds : List Int} {t n k c : Nat} {b : Int} {l : List (Int × List Int)} (h : Bnt s ds t n k c b l) (hn : n ≤ 9) (hc : c ≤ t) (hb : nm b ≠ 0) {r : Nat} (hr : r < n) (hne : r ≠ k) : nm (ev (tc l k) ((r : Int) + 1)) ≠ nm (ev (tc l r) ((k : Int) + 1)) := by
  rw [bnt_ev h hc, h.oth r hr hne, ← row_meet]
  intro e
  have h1 : nm (b * ((r : Int) + 1) ^ c) = 0 := by
    generalize ev (rowK s ds t ((k : Int) + 1) (t + 1)) ((r : Int) + 1) = z at e
    unfold nm at e ⊢; omega
  have h2 : nm ((r : Int) + 1) ≠ 0 := by unfold nm; omega
  exact pow_ne h2 c (nm_mul_zero h1 hb)
theorem bnt_pairs {s : Int} {ds : List Int} {t n k c : Nat} {b : Int} {l : List (Int × List Int)} {L : List (Int × Int)} (h : Bnt s ds t n k c b l) (hn : n ≤ 9) (hc : c ≤ t) (hk : k < n) (hb : nm b ≠ 0) (hP : Prs l n L) :
    (∀ p ∈ L, p.1 = (k : Int) + 1 ∨ p.2 = (k : Int) + 1) ∧ (∀ r, r < n → r ≠ k → (if r < k then ((r : Int) + 1, (k : Int) + 1) else ((k : Int) + 1, (r : Int) + 1)) ∈ L) := by
  refine ⟨fun p hp => ?_, fun r hr hne => ?_⟩
  · obtain ⟨i, j⟩ := p
    obtain ⟨_, r, q, hr, hq, ei, ej, hd⟩ := (hP.mem i j).1 hp
    simp only
    refine Decidable.byContradiction fun hno => hd ?_
    have hrk : r ≠ k := fun e => hno (.inl (by rw [← ei, e, h.at_ k hk]))
    have hqk : q ≠ k := fun e => hno (.inr (by rw [← ej, e, h.at_ k hk]))
    rw [h.oth r hr hrk, h.oth q hq hqk, ← h.at_ r hr, ← h.at_ q hq, ei, ej]
    exact row_meet s ds t i j
  · have hd := bnt_dif h hn hc hb hr hne
    split
    · exact (hP.mem _ _).2 ⟨by omega, r, k, hr, hk, h.at_ r hr, h.at_ k hk, fun e => hd e.symm⟩
    · exact (hP.mem _ _).2 ⟨by omega, k, r, hk, hr, h.at_ k hk, h.at_ r hr, hd⟩
/-- So many of them. -/
theorem count_le {α : Type} [DecidableEq α] : ∀ (K L : List α), K.Nodup → (∀ x ∈ K, x ∈ L) → K.length ≤ L.length
  | [], _, _, _ => Nat.zero_le _
  | a :: K, L, hn, h => by
    have ha := h a (by simp)
    rw [List.nodup_cons] at hn
    have := count_le K (L.erase a) hn.2 fun x hx => (List.mem_erase_of_ne (fun e : x = a => hn.1 (e ▸ hx))).2 (h x (by simp [hx]))
    rw [List.length_erase_of_mem ha] at this
    have hp := List.length_pos_of_mem ha
    simp only [List.length_cons]
    omega
theorem bnt_many {s : Int} {ds : List Int} {t n k c : Nat} {b : Int} {l : List (Int × List Int)} {L : List (Int × Int)} (h : Bnt s ds t n k c b l) (hn : n ≤ 9) (hc : c ≤ t) (hk : k < n) (hb : nm b ≠ 0) (hP : Prs l n L) : n - 1 ≤ L.length := by
  have h1 := (bnt_pairs h hn hc hk hb hP).2
  let f : Nat → Int × Int := fun r => if r < k then ((r : Int) + 1, (k : Int) + 1) else ((k : Int) + 1, (r : Int) + 1)
  have h2 := count_le (((List.range n).filter fun r => decide (r ≠ k)).map f) L ?_ ?_
  · rw [List.length_map] at h2
    have h3 : ∀ m, m ≤ n → ((List.range m).filter fun r => decide (r ≠ k)).length + 1 ≥ m := by
      intro m
      induction m with
      | zero => intro _; omega
      | succ m ih =>
        intro hm
        have := ih (by omega)
        rw [List.range_succ, List.filter_append, List.length_append]
        by_cases e : m = k
        · have h4 : ∀ q, q ≤ k → ((List.range q).filter fun r => decide (r ≠ k)).length = q := by
            intro q
            induction q with
            | zero => intro _; rfl
            | succ q iq =>
              intro hq
              rw [List.range_succ, List.filter_append, List.length_append, iq (by omega)]
              simp [show q ≠ k by omega]
          rw [e, h4 k (Nat.le_refl _)]
          omega
        · have h5 : ([m].filter fun r => decide (r ≠ k)).length = 1 := by simp [e]
          rw [h5]; omega
    have := h3 n (Nat.le_refl _)
    omega
  · rw [List.Nodup, List.pairwise_map]
    refine List.Pairwise.imp_of_mem ?_ ((List.nodup_range (n := n)).filter _)
    intro a b ha hb hab
    have ha2 := (List.mem_filter.1 ha).2
    have hb2 := (List.mem_filter.1 hb).2
    simp only [decide_eq_true_eq] at ha2 hb2
    show (if a < k then ((a : Int) + 1, (k : Int) + 1) else ((k : Int) + 1, (a : Int) + 1)) ≠ (if b < k then ((b : Int) + 1, (k : Int) + 1) else ((k : Int) + 1, (b : Int) + 1))
    split <;> split <;> simp only [ne_eq, Prod.mk.injEq] <;> omega
  · intro x hx
    obtain ⟨r, hr, rfl⟩ := List.mem_map.1 hx
    obtain ⟨hr1, hr2⟩ := List.mem_filter.1 hr
    exact h1 r (List.mem_range.1 hr1) (by simpa using hr2)
/-- With a row more than are needed the bent one is told. -/
theorem bnt_join {s : Int} {ds : List Int} {t n k c : Nat} {b : Int} {l : List (Int × List Int)} {x r : Int} (h : Bnt s ds t n k c b l) (hn : n ≤ 9) (ht : t ≤ 4) (hc : c ≤ t) (hk : k < n) (hb : nm b ≠ 0) (htn : t + 2 ≤ n) (hJ : Jnd l n t x r) : r = 6 := by
  have hlen : ∀ i, i < n → (tc l i).length = t + 1 := fun i hi => by
    by_cases e : i = k
    · rw [e, h.own, List.length_set, rowK_len]
    · rw [h.oth i hi e, rowK_len]
  have hR : Rwt l n t := ⟨fun i hi => ⟨bnt_dis h hn i hi, by rw [hlen i hi]; omega, by rw [hlen i hi]; omega⟩, hlen⟩
  have hno : ∀ G, ¬ TwF l n t G := fun G hG => by
    have hw : ∀ j, j < n - 1 → (if j < k then j else j + 1) < n ∧ (if j < k then j else j + 1) ≠ k := fun j hj => by split <;> omega
    have hcol := hs_one (l := (List.range (n - 1)).map fun j => (ta l (if j < k then j else j + 1), ev (colA s ds t c) (ta l (if j < k then j else j + 1)))) (n := n - 1) (S := G c) (R := colA s ds t c)
      (fun j hj => by
        have e : ∀ q, q < n - 1 → ((List.range (n - 1)).map fun j => (ta l (if j < k then j else j + 1), ev (colA s ds t c) (ta l (if j < k then j else j + 1)))).getD q (0, 0) = (ta l (if q < k then q else q + 1), ev (colA s ds t c) (ta l (if q < k then q else q + 1))) := fun q hq => by simp [hq]
        rw [e j hj]
        refine ⟨⟨by simp only; rw [h.at_ _ (hw j hj).1]; omega, by simp only; rw [h.at_ _ (hw j hj).1]; have := (hw j hj).1; omega⟩, fun q hq => ?_⟩
        rw [e q (by omega)]
        simp only
        rw [h.at_ _ (hw j hj).1, h.at_ _ (hw q (by omega)).1]
        split <;> split <;> omega)
      (fun j hj => by
        have e : ((List.range (n - 1)).map fun j => (ta l (if j < k then j else j + 1), ev (colA s ds t c) (ta l (if j < k then j else j + 1)))).getD j (0, 0) = (ta l (if j < k then j else j + 1), ev (colA s ds t c) (ta l (if j < k then j else j + 1))) := by simp [hj]
        rw [e]
        simp only
        rw [hG.val c hc _ (hw j hj).1, h.oth _ (hw j hj).1 (hw j hj).2, rowK_getD s ds t _ (show c < t + 1 by omega), nm_nm, h.at_ _ (hw j hj).1])
      (fun j hj => by
        have e : ((List.range (n - 1)).map fun j => (ta l (if j < k then j else j + 1), ev (colA s ds t c) (ta l (if j < k then j else j + 1)))).getD j (0, 0) = (ta l (if j < k then j else j + 1), ev (colA s ds t c) (ta l (if j < k then j else j + 1))) := by simp [hj]
        rw [e])
      (by have := hG.le c hc; omega) (by rw [colA_len]; omega)
    have h1 := hG.val c hc k hk
    rw [ev_one hcol, h.at_ k hk, h.own, getD_set, if_pos ⟨rfl, by rw [rowK_len]; omega⟩, nm_nm] at h1
    apply hb
    generalize ev (colA s ds t c) ((k : Int) + 1) = z at h1
    unfold nm at h1 ⊢; omega
  have h1 : Jnd l n t 0 6 := .inr ⟨t, rfl, ht, .inr (.inr ⟨hR, by omega, .inr ⟨hno, rfl, rfl⟩⟩)⟩
  exact (hJ.one h1).2
end Go.Proofs.YtnofegdlainjaagDoor

namespace Go.Proofs.YtnofegdlainjaagDoor
open Crm

/-- A gate: its kind, its wires, its number. -/
structure Gt where
  k : Int
  a : Int
  b : Int
  n : Int
def gt (G : List Gt) (i : Nat) : Gt := G.getD i ⟨0, 0, 0, 0⟩
/-- Gate i is right. -/
def okg (i : Nat) (g : Gt) : Prop :=
  (g.k = 1 ∧ (1 ≤ g.a ∧ g.a ≤ 9) ∧ g.b = 0 ∧ g.n = 0) ∨ (g.k = 2 ∧ g.a = 0 ∧ g.b = 0) ∨ (g.k = 6 ∧ (0 ≤ g.a ∧ g.a < (i : Int)) ∧ g.b = 0) ∨
  ((g.k = 3 ∨ g.k = 4 ∨ g.k = 5) ∧ (0 ≤ g.a ∧ g.a < (i : Int)) ∧ (0 ≤ g.b ∧ g.b < (i : Int)) ∧ g.n = 0)
def okG (G : List Gt) (n : Nat) : Prop := ∀ i, i < n → okg i (gt G i)
def okO (O : List Int) (n m : Nat) : Prop := ∀ j, j < m → 0 ≤ O.getD j 0 ∧ O.getD j 0 < (n : Int)
theorem okG_zero (G : List Gt) : okG G 0 := fun i hi => by omega
theorem okG_succ {G : List Gt} {k : Nat} (h : okG G k) (hk : okg k (gt G k)) : okG G (k + 1) := fun i hi => by
  by_cases e : i = k
  · rw [e]; exact hk
  · exact h i (by omega)
theorem okG_not {G : List Gt} {k n : Nat} (hk : k < n) (h : ¬ okg k (gt G k)) : ¬ okG G n := fun e => h (e k hk)
theorem okO_zero (O : List Int) (n : Nat) : okO O n 0 := fun i hi => by omega
theorem okO_succ {O : List Int} {n k : Nat} {x : Int} (h : okO O n k) (hx : O.getD k 0 = x) (h0 : 0 ≤ x) (h1 : x < (n : Int)) : okO O n (k + 1) := fun i hi => by
  by_cases e : i = k
  · rw [e, hx]; exact ⟨h0, h1⟩
  · exact h i (by omega)
theorem okO_not {O : List Int} {n m k : Nat} {x : Int} (hk : k < m) (hx : O.getD k 0 = x) (h : x < 0 ∨ (n : Int) ≤ x) : ¬ okO O n m := fun e => by
  have := e k hk
  rw [hx] at this
  omega
/-- What Check tells. -/
def Cke (G : List Gt) (O : List Int) (n m : Nat) (r : Int) : Prop :=
  ((n = 0 ∨ m = 0) ∧ r = 1) ∨ ((n ≠ 0 ∧ m ≠ 0) ∧ (((30 < n ∨ 30 < m) ∧ r = 2) ∨ ((n ≤ 30 ∧ m ≤ 30) ∧ ((¬ (okG G n ∧ okO O n m) ∧ r = 1) ∨ ((okG G n ∧ okO O n m) ∧ r = 0)))))
theorem Cke.one {G : List Gt} {O : List Int} {n m : Nat} {r s : Int} (h : Cke G O n m r) (k : Cke G O n m s) : r = s := by
  rcases h with ⟨h1, rfl⟩ | ⟨h1, ⟨h2, rfl⟩ | ⟨h2, ⟨h3, rfl⟩ | ⟨h3, rfl⟩⟩⟩ <;> rcases k with ⟨k1, rfl⟩ | ⟨k1, ⟨k2, rfl⟩ | ⟨k2, ⟨k3, rfl⟩ | ⟨k3, rfl⟩⟩⟩
  all_goals first
    | rfl
    | (exfalso; omega)
    | exact absurd k3 h3
    | exact absurd h3 k3
theorem Cke.ok {G : List Gt} {O : List Int} {n m : Nat} (h : Cke G O n m 0) : (1 ≤ n ∧ n ≤ 30) ∧ (1 ≤ m ∧ m ≤ 30) ∧ okG G n ∧ okO O n m := by
  rcases h with ⟨_, h⟩ | ⟨h1, ⟨_, h⟩ | ⟨h2, ⟨_, h⟩ | ⟨h3, _⟩⟩⟩
  · omega
  · omega
  · omega
  · exact ⟨⟨by omega, h2.1⟩, ⟨by omega, h2.2⟩, h3⟩
theorem Cke.bd {G : List Gt} {O : List Int} {n m : Nat} {r : Int} (h : Cke G O n m r) : 0 ≤ r ∧ r ≤ 2 := by
  rcases h with ⟨_, rfl⟩ | ⟨_, ⟨_, rfl⟩ | ⟨_, ⟨_, rfl⟩ | ⟨_, rfl⟩⟩⟩ <;> omega

/-- Whose the inputs of the first k gates are. -/
def whl (G : List Gt) : Nat → List Int
  | 0 => []
  | k + 1 => if (gt G k).k = 1 then whl G k ++ [(gt G k).a] else whl G k
/-- How many inputs the first k gates are. -/
def ci (G : List Gt) (k : Nat) : Nat := (whl G k).length
theorem ci_zero (G : List Gt) : ci G 0 = 0 := rfl
theorem ci_in {G : List Gt} {k : Nat} (h : (gt G k).k = 1) : ci G (k + 1) = ci G k + 1 := by unfold ci; rw [whl, if_pos h]; simp
theorem ci_no {G : List Gt} {k : Nat} (h : (gt G k).k ≠ 1) : ci G (k + 1) = ci G k := by unfold ci; rw [whl, if_neg h]
theorem ci_le (G : List Gt) : ∀ k, ci G k ≤ k
  | 0 => Nat.le_refl _
  | k + 1 => by
    have := ci_le G k
    by_cases h : (gt G k).k = 1
    · rw [ci_in h]; omega
    · rw [ci_no h]; omega
theorem ci_mono (G : List Gt) {j k : Nat} (h : j ≤ k) : ci G j ≤ ci G k := by
  induction k with
  | zero => obtain rfl : j = 0 := by omega
            exact Nat.le_refl _
  | succ k ih =>
    by_cases e : j = k + 1
    · rw [e]; exact Nat.le_refl _
    · have h1 := ih (by omega)
      by_cases h2 : (gt G k).k = 1
      · rw [ci_in h2]; omega
      · rw [ci_no h2]; exact h1
theorem ci_lt {G : List Gt} {j k : Nat} (h : j < k) (hj : (gt G j).k = 1) : ci G j < ci G k := by
  have := ci_mono G (show j + 1 ≤ k from h)
  rw [ci_in hj] at this
  omega
/-- What a gate tells, the wires ahead being W, the next input q. -/
def gv (W : List Int) (q : Int) (g : Gt) : Int :=
  if g.k = 1 then nm q else if g.k = 2 then nm g.n else if g.k = 6 then nm (W.getD g.a.toNat 0 * g.n)
  else if g.k = 3 then nm (W.getD g.a.toNat 0 + W.getD g.b.toNat 0) else if g.k = 4 then nm (W.getD g.a.toNat 0 - W.getD g.b.toNat 0) else nm (W.getD g.a.toNat 0 * W.getD g.b.toNat 0)
theorem gv_bd (W : List Int) (q : Int) (g : Gt) : 0 ≤ gv W q g ∧ gv W q g ≤ 2147483646 := by
  unfold gv
  repeat' split
  all_goals exact nm_bd _
/-- What the first k wires have. -/
def wv (G : List Gt) (ins : List Int) : Nat → List Int
  | 0 => []
  | k + 1 => wv G ins k ++ [gv (wv G ins k) (ins.getD (ci G k) 0) (gt G k)]
/-- What wire i has. -/
def wi (G : List Gt) (ins : List Int) (i : Nat) : Int := gv (wv G ins i) (ins.getD (ci G i) 0) (gt G i)
theorem wi_bd (G : List Gt) (ins : List Int) (i : Nat) : 0 ≤ wi G ins i ∧ wi G ins i ≤ 2147483646 := gv_bd _ _ _
theorem wv_len (G : List Gt) (ins : List Int) : ∀ k, (wv G ins k).length = k
  | 0 => rfl
  | k + 1 => by rw [wv, List.length_append, wv_len G ins k]; rfl
theorem wv_getD (G : List Gt) (ins : List Int) {j : Nat} : ∀ {k : Nat}, j < k → (wv G ins k).getD j 0 = wi G ins j
  | 0, h => by omega
  | k + 1, h => by
    have hl := wv_len G ins k
    rw [wv]
    by_cases e : j = k
    · subst e
      rw [List.getD_eq_getElem?_getD, List.getElem?_append_right (by omega), hl, Nat.sub_self]
      rfl
    · rw [List.getD_eq_getElem?_getD, List.getElem?_append_left (by omega), ← List.getD_eq_getElem?_getD]
      exact wv_getD G ins (by omega)
/-- A gate's wire by the wires ahead. -/
theorem wi_in {G : List Gt} {ins : List Int} {i : Nat} (h : (gt G i).k = 1) : wi G ins i = nm (ins.getD (ci G i) 0) := by unfold wi gv; rw [if_pos h]
theorem wi_const {G : List Gt} {ins : List Int} {i : Nat} (h : (gt G i).k = 2) : wi G ins i = nm (gt G i).n := by unfold wi gv; rw [if_neg (by omega), if_pos h]
theorem wi_scale {G : List Gt} {ins : List Int} {i a : Nat} (h : (gt G i).k = 6) (ha : (gt G i).a = (a : Int)) (hi : a < i) : wi G ins i = nm (wi G ins a * (gt G i).n) := by
  unfold wi gv
  rw [if_neg (by omega), if_neg (by omega), if_pos h, ha, Int.toNat_natCast, wv_getD G ins hi]
  rfl
theorem wi_add {G : List Gt} {ins : List Int} {i a b : Nat} (h : (gt G i).k = 3) (ha : (gt G i).a = (a : Int)) (hi : a < i) (hb : (gt G i).b = (b : Int)) (hj : b < i) : wi G ins i = nm (wi G ins a + wi G ins b) := by
  unfold wi gv
  rw [if_neg (by omega), if_neg (by omega), if_neg (by omega), if_pos h, ha, hb, Int.toNat_natCast, Int.toNat_natCast, wv_getD G ins hi, wv_getD G ins hj]
  rfl
theorem wi_sub {G : List Gt} {ins : List Int} {i a b : Nat} (h : (gt G i).k = 4) (ha : (gt G i).a = (a : Int)) (hi : a < i) (hb : (gt G i).b = (b : Int)) (hj : b < i) : wi G ins i = nm (wi G ins a - wi G ins b) := by
  unfold wi gv
  rw [if_neg (by omega), if_neg (by omega), if_neg (by omega), if_neg (by omega), if_pos h, ha, hb, Int.toNat_natCast, Int.toNat_natCast, wv_getD G ins hi, wv_getD G ins hj]
  rfl
theorem wi_mul {G : List Gt} {ins : List Int} {i a b : Nat} (h : (gt G i).k = 5) (ha : (gt G i).a = (a : Int)) (hi : a < i) (hb : (gt G i).b = (b : Int)) (hj : b < i) : wi G ins i = nm (wi G ins a * wi G ins b) := by
  unfold wi gv
  rw [if_neg (by omega), if_neg (by omega), if_neg (by omega), if_neg (by omega), if_neg (by omega), ha, hb, Int.toNat_natCast, Int.toNat_natCast, wv_getD G ins hi, wv_getD G ins hj]
  rfl
/-- What the wires in O have. -/
def otl (G : List Gt) (O ins : List Int) (m : Nat) : List Int := (List.range m).map fun j => wi G ins (O.getD j 0).toNat
theorem otl_len (G : List Gt) (O ins : List Int) (m : Nat) : (otl G O ins m).length = m := by simp [otl]
theorem otl_getD (G : List Gt) (O ins : List Int) {m j : Nat} (h : j < m) : (otl G O ins m).getD j 0 = wi G ins (O.getD j 0).toNat := by simp [otl, h]
theorem otl_snoc (G : List Gt) (O ins : List Int) (m : Nat) : otl G O ins m ++ [wi G ins (O.getD m 0).toNat] = otl G O ins (m + 1) := by simp [otl, List.range_succ]
theorem otl_bd (G : List Gt) (O ins : List Int) (m : Nat) : ∀ z ∈ otl G O ins m, 0 ≤ z ∧ z ≤ 2147483646 := by
  intro z hz
  obtain ⟨i, _, rfl⟩ := List.mem_map.1 hz
  exact wi_bd _ _ _
/-- Without products a circuit of sums tells the sum of what it tells of each, and of nothing taken away. -/
theorem sums {G : List Gt} {n : Nat} {xs ys zs os : List Int} (hG : okG G n) (hno : ∀ i, i < n → (gt G i).k ≠ 5) (hz : ∀ j, j < ci G n → nm (zs.getD j 0) = nm (xs.getD j 0 + ys.getD j 0)) (ho : ∀ j, nm (os.getD j 0) = 0) :
    ∀ i, i < n → nm (wi G zs i + wi G os i) = nm (wi G xs i + wi G ys i) := by
  intro i
  induction i using Nat.strongRecOn with
  | _ i ih =>
    intro hi
    have e : ∀ a b c d : Int, nm (nm a + nm b) = nm (nm c + nm d) ↔ nm (a + b) = nm (c + d) := fun a b c d => by unfold nm; omega
    rcases hG i hi with ⟨h1, _, _, _⟩ | ⟨h1, _, _⟩ | ⟨h1, h2, _⟩ | ⟨h1, h2, h3, _⟩
    · rw [wi_in h1, wi_in h1, wi_in h1, wi_in h1, e]
      have h4 := hz _ (ci_lt hi h1)
      have h5 := ho (ci G i)
      unfold nm at h4 h5 ⊢
      omega
    · rw [wi_const h1, wi_const h1, wi_const h1, wi_const h1]
    · obtain ⟨a, ha⟩ : ∃ a : Nat, (gt G i).a = a := ⟨(gt G i).a.toNat, by omega⟩
      have hai : a < i := by omega
      rw [wi_scale h1 ha hai, wi_scale h1 ha hai, wi_scale h1 ha hai, wi_scale h1 ha hai, e, ← Int.add_mul, ← Int.add_mul]
      exact nm_mul_congr (ih a hai (by omega)) rfl
    · obtain ⟨a, ha⟩ : ∃ a : Nat, (gt G i).a = a := ⟨(gt G i).a.toNat, by omega⟩
      obtain ⟨b, hb⟩ : ∃ b : Nat, (gt G i).b = b := ⟨(gt G i).b.toNat, by omega⟩
      have hai : a < i := by omega
      have hbi : b < i := by omega
      have i1 := ih a hai (by omega)
      have i2 := ih b hbi (by omega)
      rcases h1 with h1 | h1 | h1
      · rw [wi_add h1 ha hai hb hbi, wi_add h1 ha hai hb hbi, wi_add h1 ha hai hb hbi, wi_add h1 ha hai hb hbi, e]
        unfold nm at i1 i2 ⊢
        omega
      · rw [wi_sub h1 ha hai hb hbi, wi_sub h1 ha hai hb hbi, wi_sub h1 ha hai hb hbi, wi_sub h1 ha hai hb hbi, e]
        unfold nm at i1 i2 ⊢
        omega
      · exact absurd h1 (hno i hi)
end Go.Proofs.YtnofegdlainjaagDoor

namespace Go.Proofs.YtnofegdlainjaagDoor
open Crm

/-- Draws that the first i gates take. -/
def dwn (G : List Gt) (n t : Nat) : Nat → Nat
  | 0 => 0
  | i + 1 => dwn G n t i + (if (gt G i).k = 1 then t else if (gt G i).k = 5 then n * t else 0)
/-- The draws of gate i. -/
def edr (G : List Gt) (n t : Nat) (ds : List Int) (i k : Nat) : List Int := (ds.drop (dwn G n t i)).take k
/-- The parties' numbers of wire i, those of the wires ahead being W. -/
def esh (G : List Gt) (n t : Nat) (ins ds : List Int) (W : List (List Int)) (i : Nat) : List Int :=
  if (gt G i).k = 1 then dl (ins.getD (ci G i) 0 :: edr G n t ds i t) n
  else if (gt G i).k = 2 then List.replicate n (nm (gt G i).n)
  else if (gt G i).k = 3 then mxl (W.getD (gt G i).a.toNat []) (W.getD (gt G i).b.toNat []) 1 1 0 n
  else if (gt G i).k = 4 then mxl (W.getD (gt G i).a.toNat []) (W.getD (gt G i).b.toNat []) 1 2147483646 0 n
  else if (gt G i).k = 6 then mxl (W.getD (gt G i).a.toNat []) (W.getD (gt G i).a.toNat []) (gt G i).n 0 0 n
  else tmO t (W.getD (gt G i).a.toNat []) (W.getD (gt G i).b.toNat []) (edr G n t ds i (n * t)) n n
def ewr (G : List Gt) (n t : Nat) (ins ds : List Int) : Nat → List (List Int)
  | 0 => []
  | i + 1 => ewr G n t ins ds i ++ [esh G n t ins ds (ewr G n t ins ds i) i]
/-- The parties' numbers of wire i. -/
def ew (G : List Gt) (n t : Nat) (ins ds : List Int) (i : Nat) : List Int := esh G n t ins ds (ewr G n t ins ds i) i
theorem esh_len (G : List Gt) (n t : Nat) (ins ds : List Int) (W : List (List Int)) (i : Nat) : (esh G n t ins ds W i).length = n := by
  unfold esh
  repeat' split
  · exact dl_len _ _
  · simp
  · exact mxl_len _ _ _ _ _ _
  · exact mxl_len _ _ _ _ _ _
  · exact mxl_len _ _ _ _ _ _
  · exact tmO_len _ _ _ _ _ _
theorem esh_bd (G : List Gt) (n t : Nat) (ins ds : List Int) (W : List (List Int)) (i : Nat) : ∀ z ∈ esh G n t ins ds W i, 0 ≤ z ∧ z ≤ 2147483646 := by
  unfold esh
  repeat' split
  · exact dl_bd _ _
  · intro z hz; obtain rfl := List.eq_of_mem_replicate hz; exact nm_bd _
  · exact mxl_bd _ _ _ _ _ _
  · exact mxl_bd _ _ _ _ _ _
  · exact mxl_bd _ _ _ _ _ _
  · exact tmO_bd _ _ _ _ _ _
theorem ew_len (G : List Gt) (n t : Nat) (ins ds : List Int) (i : Nat) : (ew G n t ins ds i).length = n := esh_len _ _ _ _ _ _ _
theorem ew_bd (G : List Gt) (n t : Nat) (ins ds : List Int) (i : Nat) : ∀ z ∈ ew G n t ins ds i, 0 ≤ z ∧ z ≤ 2147483646 := esh_bd _ _ _ _ _ _ _
theorem ewr_len (G : List Gt) (n t : Nat) (ins ds : List Int) : ∀ i, (ewr G n t ins ds i).length = i
  | 0 => rfl
  | i + 1 => by rw [ewr, List.length_append, ewr_len G n t ins ds i]; rfl
theorem ewr_succ (G : List Gt) (n t : Nat) (ins ds : List Int) (i : Nat) : ewr G n t ins ds (i + 1) = ewr G n t ins ds i ++ [ew G n t ins ds i] := rfl
theorem ewr_getD (G : List Gt) (n t : Nat) (ins ds : List Int) {j : Nat} : ∀ {i : Nat}, j < i → (ewr G n t ins ds i).getD j [] = ew G n t ins ds j
  | 0, h => by omega
  | i + 1, h => by
    have hl := ewr_len G n t ins ds i
    rw [ewr_succ]
    by_cases e : j = i
    · subst e
      rw [List.getD_eq_getElem?_getD, List.getElem?_append_right (by omega), hl, Nat.sub_self]
      rfl
    · rw [List.getD_eq_getElem?_getD, List.getElem?_append_left (by omega), ← List.getD_eq_getElem?_getD]
      exact ewr_getD G n t ins ds (by omega)
theorem ew_in {G : List Gt} {n t : Nat} {ins ds : List Int} {i : Nat} (h : (gt G i).k = 1) : ew G n t ins ds i = dl (ins.getD (ci G i) 0 :: edr G n t ds i t) n := by unfold ew esh; rw [if_pos h]
theorem ew_const {G : List Gt} {n t : Nat} {ins ds : List Int} {i : Nat} (h : (gt G i).k = 2) : ew G n t ins ds i = List.replicate n (nm (gt G i).n) := by unfold ew esh; rw [if_neg (by omega), if_pos h]
theorem ew_add {G : List Gt} {n t : Nat} {ins ds : List Int} {i a b : Nat} (h : (gt G i).k = 3) (ha : (gt G i).a = (a : Int)) (hi : a < i) (hb : (gt G i).b = (b : Int)) (hj : b < i) : ew G n t ins ds i = mxl (ew G n t ins ds a) (ew G n t ins ds b) 1 1 0 n := by
  unfold ew
  rw [esh, if_neg (by omega), if_neg (by omega), if_pos h, ha, hb, Int.toNat_natCast, Int.toNat_natCast, ewr_getD G n t ins ds hi, ewr_getD G n t ins ds hj]
  rfl
theorem ew_sub {G : List Gt} {n t : Nat} {ins ds : List Int} {i a b : Nat} (h : (gt G i).k = 4) (ha : (gt G i).a = (a : Int)) (hi : a < i) (hb : (gt G i).b = (b : Int)) (hj : b < i) : ew G n t ins ds i = mxl (ew G n t ins ds a) (ew G n t ins ds b) 1 2147483646 0 n := by
  unfold ew
  rw [esh, if_neg (by omega), if_neg (by omega), if_neg (by omega), if_pos h, ha, hb, Int.toNat_natCast, Int.toNat_natCast, ewr_getD G n t ins ds hi, ewr_getD G n t ins ds hj]
  rfl
theorem ew_scale {G : List Gt} {n t : Nat} {ins ds : List Int} {i a : Nat} (h : (gt G i).k = 6) (ha : (gt G i).a = (a : Int)) (hi : a < i) : ew G n t ins ds i = mxl (ew G n t ins ds a) (ew G n t ins ds a) (gt G i).n 0 0 n := by
  unfold ew
  rw [esh, if_neg (by omega), if_neg (by omega), if_neg (by omega), if_neg (by omega), if_pos h, ha, Int.toNat_natCast, ewr_getD G n t ins ds hi]
  rfl
theorem ew_mul {G : List Gt} {n t : Nat} {ins ds : List Int} {i a b : Nat} (h : (gt G i).k = 5) (ha : (gt G i).a = (a : Int)) (hi : a < i) (hb : (gt G i).b = (b : Int)) (hj : b < i) : ew G n t ins ds i = tmO t (ew G n t ins ds a) (ew G n t ins ds b) (edr G n t ds i (n * t)) n n := by
  unfold ew
  rw [esh, if_neg (by omega), if_neg (by omega), if_neg (by omega), if_neg (by omega), if_neg (by omega), ha, hb, Int.toNat_natCast, Int.toNat_natCast, ewr_getD G n t ins ds hi, ewr_getD G n t ins ds hj]
  rfl
/-- Numbers that a polynomial has at the parties are those that are dealt of it. -/
theorem dl_of {P L : List Int} {n : Nat} (hl : L.length = n) (h : ∀ i, i < n → L.getD i 0 = nm (ev P ((i : Int) + 1))) : L = dl P n := by
  refine list_ext (by rw [hl, dl_len]) fun i hi => ?_
  rw [hl] at hi
  rw [h i hi, dl_getD P hi]
  rfl
/-- Each wire's numbers are shares of what the wire has. -/
theorem ew_poly {G : List Gt} {N n t : Nat} {ins ds : List Int} (hG : okG G N) (hn : 2 * t + 1 ≤ n) (hn9 : n ≤ 9) : ∀ i, i < N → ∃ P : List Int, P.length ≤ t + 1 ∧ ew G n t ins ds i = dl P n ∧ nm (ev P 0) = wi G ins i := by
  intro i
  induction i using Nat.strongRecOn with
  | _ i ih =>
    intro hi
    rcases hG i hi with ⟨h1, _, _, _⟩ | ⟨h1, _, _⟩ | ⟨h1, h2, _⟩ | ⟨h1, h2, h3, _⟩
    · refine ⟨_, ?_, ew_in h1, ?_⟩
      · unfold edr; rw [List.length_cons, List.length_take]; omega
      · rw [wi_in h1, ev, Int.zero_mul, Int.add_zero]
    · refine ⟨[nm (gt G i).n], by simp, ?_, ?_⟩
      · rw [ew_const h1]
        refine dl_of (by simp) fun j hj => ?_
        rw [ev, ev, Int.mul_zero, Int.add_zero, nm_nm]
        simp [hj]
      · rw [wi_const h1, ev, Int.zero_mul, Int.add_zero, nm_nm]
    · obtain ⟨a, ha⟩ : ∃ a : Nat, (gt G i).a = a := ⟨(gt G i).a.toNat, by omega⟩
      obtain ⟨A, a1, a2, a3⟩ := ih a (by omega) (by omega)
      obtain ⟨P, p1, p2, p3⟩ := mxl_dealt (A := A) (B := A) (a := (gt G i).n) (b := 0) (c := 0) (n := n) a1 a1
      rw [← a2] at p2
      refine ⟨P, p1, ?_, ?_⟩
      · rw [ew_scale h1 ha (by omega)]
        exact dl_of (mxl_len _ _ _ _ _ _) p2
      · rw [p3, wi_scale h1 ha (by omega), Int.zero_mul, Int.add_zero, Int.add_zero, Int.mul_comm, ← a3, nm_mull]
    · obtain ⟨a, ha⟩ : ∃ a : Nat, (gt G i).a = a := ⟨(gt G i).a.toNat, by omega⟩
      obtain ⟨b, hb⟩ : ∃ b : Nat, (gt G i).b = b := ⟨(gt G i).b.toNat, by omega⟩
      obtain ⟨A, a1, a2, a3⟩ := ih a (by omega) (by omega)
      obtain ⟨B, b1, b2, b3⟩ := ih b (by omega) (by omega)
      rcases h1 with h1 | h1 | h1
      · obtain ⟨P, p1, p2, p3⟩ := mxl_dealt (A := A) (B := B) (a := 1) (b := 1) (c := 0) (n := n) a1 b1
        rw [← a2, ← b2] at p2
        refine ⟨P, p1, ?_, ?_⟩
        · rw [ew_add h1 ha (by omega) hb (by omega)]
          exact dl_of (mxl_len _ _ _ _ _ _) p2
        · rw [p3, wi_add h1 ha (by omega) hb (by omega), ← a3, ← b3]
          unfold nm
          omega
      · obtain ⟨P, p1, p2, p3⟩ := mxl_dealt (A := A) (B := B) (a := 1) (b := 2147483646) (c := 0) (n := n) a1 b1
        rw [← a2, ← b2] at p2
        refine ⟨P, p1, ?_, ?_⟩
        · rw [ew_sub h1 ha (by omega) hb (by omega)]
          exact dl_of (mxl_len _ _ _ _ _ _) p2
        · rw [p3, wi_sub h1 ha (by omega) hb (by omega), ← a3, ← b3]
          unfold nm
          omega
      · obtain ⟨P, p1, p2, p3⟩ := times_dealt (t := t) (n := n) (A := A) (B := B) (ds := edr G n t ds i (n * t)) a1 b1 hn hn9
        rw [← a2, ← b2] at p2
        refine ⟨P, p1, ?_, ?_⟩
        · rw [ew_mul h1 ha (by omega) hb (by omega)]
          refine dl_of (tmO_len _ _ _ _ _ _) fun j hj => ?_
          rw [tmO_getD _ _ _ _ _ hj]
          exact p2 j hj
        · rw [p3, wi_mul h1 ha (by omega) hb (by omega), ← a3, ← b3, nm_mull, nm_mulr]
/-- What party j sees of gate i. -/
def esn (G : List Gt) (n t : Nat) (ins ds : List Int) (i j : Nat) : List Int :=
  if (gt G i).k = 1 then [(ew G n t ins ds i).getD j 0]
  else if (gt G i).k = 5 then tmR t (ew G n t ins ds (gt G i).a.toNat) (ew G n t ins ds (gt G i).b.toNat) (edr G n t ds i (n * t)) n j
  else []
/-- .. of the first i gates. -/
def sng (G : List Gt) (n t : Nat) (ins ds : List Int) (i j : Nat) : List Int := (List.range i).flatMap fun p => esn G n t ins ds p j
theorem sng_succ (G : List Gt) (n t : Nat) (ins ds : List Int) (i j : Nat) : sng G n t ins ds (i + 1) j = sng G n t ins ds i j ++ esn G n t ins ds i j := by simp [sng, List.range_succ]
/-- .. and of the first q outs. -/
def sno (G : List Gt) (O : List Int) (n t : Nat) (ins ds : List Int) (N q j : Nat) : List Int := sng G n t ins ds N j ++ (List.range q).flatMap fun o => ew G n t ins ds (O.getD o 0).toNat
theorem sno_succ (G : List Gt) (O : List Int) (n t : Nat) (ins ds : List Int) (N q j : Nat) : sno G O n t ins ds N (q + 1) j = sno G O n t ins ds N q j ++ ew G n t ins ds (O.getD q 0).toNat := by simp [sno, List.range_succ]
/-- What all parties have seen. -/
def snl (G : List Gt) (O : List Int) (n t : Nat) (ins ds : List Int) (N m : Nat) : List (List Int) := (List.range n).map fun j => sno G O n t ins ds N m j
theorem snl_len (G : List Gt) (O : List Int) (n t : Nat) (ins ds : List Int) (N m : Nat) : (snl G O n t ins ds N m).length = n := by simp [snl]
theorem snl_getD (G : List Gt) (O : List Int) (n t : Nat) (ins ds : List Int) (N m : Nat) {j : Nat} (h : j < n) : (snl G O n t ins ds N m).getD j [] = sno G O n t ins ds N m j := by simp [snl, h]
theorem esn_bd (G : List Gt) (n t : Nat) (ins ds : List Int) (i : Nat) {j : Nat} (hj : j < n) : ∀ z ∈ esn G n t ins ds i j, 0 ≤ z ∧ z ≤ 2147483646 := by
  unfold esn
  split
  · intro z hz
    obtain rfl := List.mem_singleton.1 hz
    refine ew_bd G n t ins ds i _ ?_
    rw [List.getD_eq_getElem?_getD, List.getElem?_eq_getElem (by rw [ew_len]; exact hj)]
    exact List.getElem_mem _
  · split
    · exact tmR_bd _ _ _ _ _ _
    · intro z hz; simp at hz
theorem sno_bd (G : List Gt) (O : List Int) (n t : Nat) (ins ds : List Int) (N q : Nat) {j : Nat} (hj : j < n) : ∀ z ∈ sno G O n t ins ds N q j, 0 ≤ z ∧ z ≤ 2147483646 := by
  intro z hz
  rcases List.mem_append.1 hz with hz | hz
  · obtain ⟨i, _, hi⟩ := List.mem_flatMap.1 hz
    exact esn_bd G n t ins ds i hj z hi
  · obtain ⟨i, _, hi⟩ := List.mem_flatMap.1 hz
    exact ew_bd _ _ _ _ _ _ z hi
/-- As many numbers are seen by each party, whatever was drawn. -/
theorem esn_len (G : List Gt) (n t : Nat) (ins ds es : List Int) (i j k : Nat) : (esn G n t ins ds i j).length = (esn G n t ins es i k).length := by
  unfold esn
  split
  · rfl
  · split
    · rw [tmR_len, tmR_len]
    · rfl
theorem sno_len (G : List Gt) (O : List Int) (n t : Nat) (ins ds es : List Int) (N q j k : Nat) : (sno G O n t ins ds N q j).length = (sno G O n t ins es N q k).length := by
  unfold sno sng
  rw [List.length_append, List.length_append, List.length_flatMap, List.length_flatMap, List.length_flatMap, List.length_flatMap]
  congr 1
  · congr 1
    exact List.map_congr_left fun i _ => esn_len G n t ins ds es i j k
  · congr 1
    exact List.map_congr_left fun i _ => by rw [ew_len, ew_len]
/-- Who may run a circuit. -/
def okc (G : List Gt) (N : Nat) (n t : Int) : Prop := (0 ≤ t ∧ t ≤ 4) ∧ (1 ≤ n ∧ n ≤ 9) ∧ 2 * t + 1 ≤ n ∧ ∀ x ∈ whl G N, x ≤ n
/-- What Need tells. -/
def Nde (G : List Gt) (O : List Int) (N m : Nat) (n t r : Int) : Prop := (r ≠ 0 ∧ Cke G O N m r) ∨ (Cke G O N m 0 ∧ ((¬ okc G N n t ∧ r = 1) ∨ (okc G N n t ∧ r = 0)))
theorem Nde.one {G : List Gt} {O : List Int} {N m : Nat} {n t r s : Int} (h : Nde G O N m n t r) (k : Nde G O N m n t s) : r = s := by
  rcases h with ⟨h1, h2⟩ | ⟨h1, ⟨h2, rfl⟩ | ⟨h2, rfl⟩⟩ <;> rcases k with ⟨k1, k2⟩ | ⟨k1, ⟨k2, rfl⟩ | ⟨k2, rfl⟩⟩
  all_goals first
    | rfl
    | exact h2.one k2
    | exact absurd (h2.one k1) h1
    | exact absurd (k2.one h1) k1
    | exact absurd k2 h2
    | exact absurd h2 k2
theorem Nde.ok {G : List Gt} {O : List Int} {N m : Nat} {n t : Int} (h : Nde G O N m n t 0) : Cke G O N m 0 ∧ okc G N n t := by
  rcases h with ⟨h1, _⟩ | ⟨h1, ⟨_, h2⟩ | ⟨h2, _⟩⟩
  · exact absurd rfl h1
  · omega
  · exact ⟨h1, h2⟩
/-- What is wrong with a run. -/
def Ere (G : List Gt) (O : List Int) (N m : Nat) (n t : Int) (q d : Nat) (r : Int) : Prop :=
  (r ≠ 0 ∧ Nde G O N m n t r) ∨ (Nde G O N m n t 0 ∧ ((q ≠ ci G N ∧ r = 5) ∨ (q = ci G N ∧ ((d ≠ dwn G n.toNat t.toNat N ∧ r = 1) ∨ (d = dwn G n.toNat t.toNat N ∧ r = 0)))))
theorem Ere.one {G : List Gt} {O : List Int} {N m : Nat} {n t : Int} {q d : Nat} {r s : Int} (h : Ere G O N m n t q d r) (k : Ere G O N m n t q d s) : r = s := by
  rcases h with ⟨h1, h2⟩ | ⟨h1, ⟨h2, rfl⟩ | ⟨h2, ⟨h3, rfl⟩ | ⟨h3, rfl⟩⟩⟩ <;> rcases k with ⟨k1, k2⟩ | ⟨k1, ⟨k2, rfl⟩ | ⟨k2, ⟨k3, rfl⟩ | ⟨k3, rfl⟩⟩⟩
  all_goals first
    | rfl
    | exact h2.one k2
    | exact absurd (h2.one k1) h1
    | exact absurd (k2.one h1) k1
    | exact absurd k2 h2
    | exact absurd h2 k2
    | exact absurd k3 h3
    | exact absurd h3 k3
end Go.Proofs.YtnofegdlainjaagDoor
