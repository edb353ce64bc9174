/- Rows of a dealing in two variables meet; a bent one is told: plain facts. -/
import Derived.Test.YtljlioglpaogdaeToCheckC
import Derived.Test.YtljlioglpaogdaeToTPairM
import Derived.Test.YtljlioglpaogdaeToGaussM
namespace Go.Proofs.Ytljlioglpaogdae
set_option linter.unusedVariables false
set_option maxRecDepth 100000
set_option maxHeartbeats 8000000
section
open Crm
theorem ev_sm (x : Int) : ∀ L : List Int, ev L x = sm (fun j => L.getD j 0 * x ^ j) L.length := by
  intro L
  have h : ∀ k, k ≤ L.length → ev (L.take k) x = sm (fun j => L.getD j 0 * x ^ j) k := by
    intro k
    induction k with
    | zero => intro _; rfl
    | succ k ih => intro hk; rw [ev_take L x (by omega), ih (by omega), sm]
  have := h L.length (Nat.le_refl _)
  rwa [List.take_length] at this
/-- What the row of x tells at y. -/
theorem row_ev (s : Int) (ds : List Int) (t : Nat) (x y : Int) : nm (ev (rowK s ds t x (t + 1)) y) = nm (sm (fun j => sm (fun i => A2 s ds t i j * x ^ i * y ^ j) (t + 1)) (t + 1)) := by
  rw [ev_sm, rowK_len]
  refine sm_ncongr fun j hj => ?_
  rw [rowK_getD s ds t x hj, nm_mull, ev_sm, colA_len, Int.mul_comm, ← sm_mul]
  refine sm_ncongr fun i hi => ?_
  rw [colA_getD s ds t j (by omega), Int.mul_comm]
/-- Any two rows meet. -/
theorem row_meet (s : Int) (ds : List Int) (t : Nat) (x y : Int) : nm (ev (rowK s ds t x (t + 1)) y) = nm (ev (rowK s ds t y (t + 1)) x) := by
  rw [row_ev, row_ev, sm_swap (fun i j => A2 s ds t i j * x ^ i * y ^ j)]
  refine sm_ncongr fun i hi => sm_ncongr fun j hj => ?_
  rw [A2_sym s ds t i j, Int.mul_assoc, Int.mul_assoc, Int.mul_comm (x ^ i)]

/-- Rows of the dealing, whichever. -/
def OfD (s : Int) (ds : List Int) (t : Nat) (l : List (Int × List Int)) (n : Nat) : Prop := ∀ r, r < n → tc l r = rowK s ds t (ta l r) (t + 1)
theorem ofd_twf {s : Int} {ds : List Int} {t n : Nat} {l : List (Int × List Int)} (h : OfD s ds t l n) : TwF l n t (colA s ds t) :=
  ⟨fun j _ => by rw [colA_len]; exact Nat.le_refl _, fun i j hi hj => by rw [colA_getD s ds t i hj, colA_getD s ds t j hi, A2_sym],
    fun j hj r hr => by rw [h r hr, rowK_getD s ds t _ (show j < t + 1 by omega), nm_nm]⟩
theorem ofd_len {s : Int} {ds : List Int} {t n : Nat} {l : List (Int × List Int)} (h : OfD s ds t l n) {r : Nat} (hr : r < n) : (tc l r).length = t + 1 := by rw [h r hr, rowK_len]
theorem ofd_rwt {s : Int} {ds : List Int} {t n : Nat} {l : List (Int × List Int)} (h : OfD s ds t l n) (hd : dis (ta l) n) (ht : t ≤ 4) : Rwt l n t :=
  ⟨fun i hi => ⟨hd i hi, by rw [ofd_len h hi]; omega, by rw [ofd_len h hi]; omega⟩, fun i hi => ofd_len h hi⟩
/-- t + 1 rows, or more, tell the secret. -/
theorem ofd_join {s : Int} {ds : List Int} {t n : Nat} {l : List (Int × List Int)} {x r : Int} (h : OfD s ds t l n) (hd : dis (ta l) n) (ht : t ≤ 4) (hn : t < n) (hJ : Jnd l n t x r) : x = nm s ∧ r = 0 := by
  have h1 : Jnd l n t (nm ((colA s ds t 0).getD 0 0)) 0 := .inr ⟨t, rfl, ht, .inr (.inr ⟨ofd_rwt h hd ht, hn, .inl ⟨_, ofd_twf h, rfl, rfl⟩⟩)⟩
  have h2 := hJ.one h1
  rw [colA_getD s ds t 0 (Nat.zero_le _), A2_zero, nm_nm] at h2
  exact h2
theorem deal_ofd (s : Int) (ds : List Int) (t n : Nat) : OfD s ds t (dealA s ds t n) n := fun r hr => by unfold tc ta; rw [dealA_getD s ds t hr]
theorem deal_ta (s : Int) (ds : List Int) (t : Nat) {n r : Nat} (hr : r < n) : ta (dealA s ds t n) r = (r : Int) + 1 := by unfold ta; rw [dealA_getD s ds t hr]
theorem deal_dis (s : Int) (ds : List Int) (t : Nat) {n : Nat} (hn : n ≤ 9) : dis (ta (dealA s ds t n)) n := fun i hi => by
  rw [deal_ta s ds t hi]
  exact ⟨⟨by omega, by omega⟩, fun j hj => by rw [deal_ta s ds t (show j < n by omega)]; omega⟩

/-- Row k is bent by b at its number c. -/
structure Bnt (s : Int) (ds : List Int) (t n k c : Nat) (b : Int) (l : List (Int × List Int)) : Prop where
  at_ : ∀ r, r < n → ta l r = (r : Int) + 1
  oth : ∀ r, r < n → r ≠ k → tc l r = rowK s ds t ((r : Int) + 1) (t + 1)
  own : tc l k = (rowK s ds t ((k : Int) + 1) (t + 1)).set c (nm (nm (ev (colA s ds t c) ((k : Int) + 1)) + b))
theorem set_ev : ∀ (L : List Int) (c : Nat) (v x : Int), c < L.length → ev (L.set c v) x = ev L x + (v - L.getD c 0) * x ^ c
  | [], c, v, x, h => by simp at h
  | a :: L, 0, v, x, _ => by
    rw [List.set_cons_zero, ev, ev, Int.pow_zero, Int.mul_one, cons_getD0]; omega
  | a :: L, c + 1, v, x, h => by
    rw [List.set_cons_succ, ev, ev, set_ev L c v x (by simpa using h), cons_getDs, Int.mul_add, Int.pow_succ]
    have e : x * ((v - L.getD c 0) * x ^ c) = (v - L.getD c 0) * (x ^ c * x) := by rw [← Int.mul_assoc, Int.mul_comm x, Int.mul_assoc, Int.mul_comm x]
    rw [e]; omega
theorem bnt_dis {s : Int} {ds : List Int} {t n k c : Nat} {b : Int} {l : List (Int × List Int)} (h : Bnt s ds t n k c b l) (hn : n ≤ 9) : dis (ta l) n := fun i hi => by
  rw [h.at_ i hi]
  exact ⟨⟨by omega, by omega⟩, fun j hj => by rw [h.at_ j (by omega)]; omega⟩
/-- What the bent row tells. -/
theorem bnt_ev {s : Int} {ds : List Int} {t n k c : Nat} {b : Int} {l : List (Int × List Int)} (h : Bnt s ds t n k c b l) (hc : c ≤ t) (y : Int) : nm (ev (tc l k) y) = nm (ev (rowK s ds t ((k : Int) + 1) (t + 1)) y + b * y ^ c) := by
  rw [h.own, set_ev _ _ _ _ (by rw [rowK_len]; omega), rowK_getD s ds t _ (show c < t + 1 by omega)]
  refine nm_add_congr rfl (nm_mul_congr ?_ rfl)
  generalize nm (ev (colA s ds t c) ((k : Int) + 1)) = z
  unfold nm; omega
theorem pow_ne {y : Int} (hy : nm y ≠ 0) : ∀ c : Nat, nm (y ^ c) ≠ 0
  | 0 => by rw [Int.pow_zero]; decide
  | c + 1 => fun e => by
    rw [Int.pow_succ] at e
    exact hy (nm_mul_zero e (pow_ne hy c))
/-- The bent row meets none of the others. -/
theorem bnt_dif {s : Int} {ds : List Int} {t n k c : Nat} {b : Int} {l : List (Int × List Int)} (h : Bnt s ds t n k c b l) (hn : n ≤ 9) (hc : c ≤ t) (hb : nm b ≠ 0) {r : Nat} (hr : r < n) (hne : r ≠ k) : nm (ev (tc l k) ((r : Int) + 1)) ≠ nm (ev (tc l r) ((k : Int) + 1)) := by
  rw [bnt_ev h hc, h.oth r hr hne, ← row_meet]
  intro e
  have h1 : nm (b * ((r : Int) + 1) ^ c) = 0 := by
    generalize ev (rowK s ds t ((k : Int) + 1) (t + 1)) ((r : Int) + 1) = z at e
    unfold nm at e ⊢; omega
  have h2 : nm ((r : Int) + 1) ≠ 0 := by unfold nm; omega
  exact pow_ne h2 c (nm_mul_zero h1 hb)
theorem bnt_pairs {s : Int} {ds : List Int} {t n k c : Nat} {b : Int} {l : List (Int × List Int)} {L : List (Int × Int)} (h : Bnt s ds t n k c b l) (hn : n ≤ 9) (hc : c ≤ t) (hk : k < n) (hb : nm b ≠ 0) (hP : Prs l n L) :
    (∀ p ∈ L, p.1 = (k : Int) + 1 ∨ p.2 = (k : Int) + 1) ∧ (∀ r, r < n → r ≠ k → (if r < k then ((r : Int) + 1, (k : Int) + 1) else ((k : Int) + 1, (r : Int) + 1)) ∈ L) := by
  refine ⟨fun p hp => ?_, fun r hr hne => ?_⟩
  · obtain ⟨i, j⟩ := p
    obtain ⟨_, r, q, hr, hq, ei, ej, hd⟩ := (hP.mem i j).1 hp
    simp only
    refine Decidable.byContradiction fun hno => hd ?_
    have hrk : r ≠ k := fun e => hno (.inl (by rw [← ei, e, h.at_ k hk]))
    have hqk : q ≠ k := fun e => hno (.inr (by rw [← ej, e, h.at_ k hk]))
    rw [h.oth r hr hrk, h.oth q hq hqk, ← h.at_ r hr, ← h.at_ q hq, ei, ej]
    exact row_meet s ds t i j
  · have hd := bnt_dif h hn hc hb hr hne
    split
    · exact (hP.mem _ _).2 ⟨by omega, r, k, hr, hk, h.at_ r hr, h.at_ k hk, fun e => hd e.symm⟩
    · exact (hP.mem _ _).2 ⟨by omega, k, r, hk, hr, h.at_ k hk, h.at_ r hr, hd⟩
/-- So many of them. -/
theorem count_le {α : Type} [DecidableEq α] : ∀ (K L : List α), K.Nodup → (∀ x ∈ K, x ∈ L) → K.length ≤ L.length
  | [], _, _, _ => Nat.zero_le _
  | a :: K, L, hn, h => by
    have ha := h a (by simp)
    rw [List.nodup_cons] at hn
    have := count_le K (L.erase a) hn.2 fun x hx => (List.mem_erase_of_ne (fun e : x = a => hn.1 (e ▸ hx))).2 (h x (by simp [hx]))
    rw [List.length_erase_of_mem ha] at this
    have hp := List.length_pos_of_mem ha
    simp only [List.length_cons]
    omega
theorem bnt_many {s : Int} {ds : List Int} {t n k c : Nat} {b : Int} {l : List (Int × List Int)} {L : List (Int × Int)} (h : Bnt s ds t n k c b l) (hn : n ≤ 9) (hc : c ≤ t) (hk : k < n) (hb : nm b ≠ 0) (hP : Prs l n L) : n - 1 ≤ L.length := by
  have h1 := (bnt_pairs h hn hc hk hb hP).2
  let f : Nat → Int × Int := fun r => if r < k then ((r : Int) + 1, (k : Int) + 1) else ((k : Int) + 1, (r : Int) + 1)
  have h2 := count_le (((List.range n).filter fun r => decide (r ≠ k)).map f) L ?_ ?_
  · rw [List.length_map] at h2
    have h3 : ∀ m, m ≤ n → ((List.range m).filter fun r => decide (r ≠ k)).length + 1 ≥ m := by
      intro m
      induction m with
      | zero => intro _; omega
      | succ m ih =>
        intro hm
        have := ih (by omega)
        rw [List.range_succ, List.filter_append, List.length_append]
        by_cases e : m = k
        · have h4 : ∀ q, q ≤ k → ((List.range q).filter fun r => decide (r ≠ k)).length = q := by
            intro q
            induction q with
            | zero => intro _; rfl
            | succ q iq =>
              intro hq
              rw [List.range_succ, List.filter_append, List.length_append, iq (by omega)]
              simp [show q ≠ k by omega]
          rw [e, h4 k (Nat.le_refl _)]
          omega
        · have h5 : ([m].filter fun r => decide (r ≠ k)).length = 1 := by simp [e]
          rw [h5]; omega
    have := h3 n (Nat.le_refl _)
    omega
  · rw [List.Nodup, List.pairwise_map]
    refine List.Pairwise.imp_of_mem ?_ ((List.nodup_range (n := n)).filter _)
    intro a b ha hb hab
    have ha2 := (List.mem_filter.1 ha).2
    have hb2 := (List.mem_filter.1 hb).2
    simp only [decide_eq_true_eq] at ha2 hb2
    show (if a < k then ((a : Int) + 1, (k : Int) + 1) else ((k : Int) + 1, (a : Int) + 1)) ≠ (if b < k then ((b : Int) + 1, (k : Int) + 1) else ((k : Int) + 1, (b : Int) + 1))
    split <;> split <;> simp only [ne_eq, Prod.mk.injEq] <;> omega
  · intro x hx
    obtain ⟨r, hr, rfl⟩ := List.mem_map.1 hx
    obtain ⟨hr1, hr2⟩ := List.mem_filter.1 hr
    exact h1 r (List.mem_range.1 hr1) (by simpa using hr2)
/-- With a row more than are needed the bent one is told. -/
theorem bnt_join {s : Int} {ds : List Int} {t n k c : Nat} {b : Int} {l : List (Int × List Int)} {x r : Int} (h : Bnt s ds t n k c b l) (hn : n ≤ 9) (ht : t ≤ 4) (hc : c ≤ t) (hk : k < n) (hb : nm b ≠ 0) (htn : t + 2 ≤ n) (hJ : Jnd l n t x r) : r = 6 := by
  have hlen : ∀ i, i < n → (tc l i).length = t + 1 := fun i hi => by
    by_cases e : i = k
    · rw [e, h.own, List.length_set, rowK_len]
    · rw [h.oth i hi e, rowK_len]
  have hR : Rwt l n t := ⟨fun i hi => ⟨bnt_dis h hn i hi, by rw [hlen i hi]; omega, by rw [hlen i hi]; omega⟩, hlen⟩
  have hno : ∀ G, ¬ TwF l n t G := fun G hG => by
    have hw : ∀ j, j < n - 1 → (if j < k then j else j + 1) < n ∧ (if j < k then j else j + 1) ≠ k := fun j hj => by split <;> omega
    have hcol := hs_one (l := (List.range (n - 1)).map fun j => (ta l (if j < k then j else j + 1), ev (colA s ds t c) (ta l (if j < k then j else j + 1)))) (n := n - 1) (S := G c) (R := colA s ds t c)
      (fun j hj => by
        have e : ∀ q, q < n - 1 → ((List.range (n - 1)).map fun j => (ta l (if j < k then j else j + 1), ev (colA s ds t c) (ta l (if j < k then j else j + 1)))).getD q (0, 0) = (ta l (if q < k then q else q + 1), ev (colA s ds t c) (ta l (if q < k then q else q + 1))) := fun q hq => by simp [hq]
        rw [e j hj]
        refine ⟨⟨by simp only; rw [h.at_ _ (hw j hj).1]; omega, by simp only; rw [h.at_ _ (hw j hj).1]; have := (hw j hj).1; omega⟩, fun q hq => ?_⟩
        rw [e q (by omega)]
        simp only
        rw [h.at_ _ (hw j hj).1, h.at_ _ (hw q (by omega)).1]
        split <;> split <;> omega)
      (fun j hj => by
        have e : ((List.range (n - 1)).map fun j => (ta l (if j < k then j else j + 1), ev (colA s ds t c) (ta l (if j < k then j else j + 1)))).getD j (0, 0) = (ta l (if j < k then j else j + 1), ev (colA s ds t c) (ta l (if j < k then j else j + 1))) := by simp [hj]
        rw [e]
        simp only
        rw [hG.val c hc _ (hw j hj).1, h.oth _ (hw j hj).1 (hw j hj).2, rowK_getD s ds t _ (show c < t + 1 by omega), nm_nm, h.at_ _ (hw j hj).1])
      (fun j hj => by
        have e : ((List.range (n - 1)).map fun j => (ta l (if j < k then j else j + 1), ev (colA s ds t c) (ta l (if j < k then j else j + 1)))).getD j (0, 0) = (ta l (if j < k then j else j + 1), ev (colA s ds t c) (ta l (if j < k then j else j + 1))) := by simp [hj]
        rw [e])
      (by have := hG.le c hc; omega) (by rw [colA_len]; omega)
    have h1 := hG.val c hc k hk
    rw [ev_one hcol, h.at_ k hk, h.own, getD_set, if_pos ⟨rfl, by rw [rowK_len]; omega⟩, nm_nm] at h1
    apply hb
    generalize ev (colA s ds t c) ((k : Int) + 1) = z at h1
    unfold nm at h1 ⊢; omega
  have h1 : Jnd l n t 0 6 := .inr ⟨t, rfl, ht, .inr (.inr ⟨hR, by omega, .inr ⟨hno, rfl, rfl⟩⟩)⟩
  exact (hJ.one h1).2
end
end Go.Proofs.Ytljlioglpaogdae
