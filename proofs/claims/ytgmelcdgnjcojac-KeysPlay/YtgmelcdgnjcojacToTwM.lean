/- Lists of rows (api.Row) that a call gathers. · croftref.TwoDeal. · Dealings in two variables: what Pairs and Join tell: plain facts. -/
import Derived.Test.YtgmelcdgnjcojacToTRows
import Derived.Test.YtgmelcdgnjcojacToTwoC
import Derived.Test.YtgmelcdgnjcojacToRefPolyC
import Derived.Test.YtgmelcdgnjcojacToRDealC
import Derived.Test.YtgmelcdgnjcojacToNewtonM
namespace Go.Proofs.Ytgmelcdgnjcojac
open Go.RowKit Crm

/-- A slice of two-cell elements that the call itself gathers, and one more, with what it leaves alone. -/
theorem wpList_app2 {P : Program} {T E : TypeId} {z : Value} {by_ : Nat} (hT : P.underlying T = some (.slice E)) (info : (P.info? E).map (fun i => (i.zero, i.size, i.bytes)) = some (some z, 2, by_)) (hz : z.cells.size = 2) (hby : by_ ≤ 100)
    (w : World) {ops : Array Oper} {rest : List Oper} {o : Oper} {a : Act} {Q : Exit → Act → World → Prop} (hgd : o.guard = none) (s x : Operand)
    (ho : o.op = .call { callee := .builtin .append, args := #[s, x], argTypes := #[T, T] })
    (base : Nat) (v : Value) (n : Nat) (xs : List Value) (hs : a.eval s = v) (hown : w.ownsRow base E 2 v n xs) (p q : Value) (hp : p.oneCell' = true) (hq : q.oneCell' = true) (hx : a.eval x = .slice (some ⟨w.heap.size, 0, none⟩) 1 1)
    (hn : n ≤ 1000000) (hbase : base ≤ w.heap.size)
    (h : ∀ v' w', w'.ownsRow base E 2 v' (n + 1) (xs ++ [p, q]) → w.grownBy w' v.ownBlock → (v'.ownBlock = v.ownBlock ∨ ∃ k, v'.ownBlock = some k ∧ w.heap.size ≤ k) → wpList P ops Q rest (a.put o.dst v') w') : wpList P ops Q (o :: rest) a (w.alloc (.cells #[p, q] E)) := by
  obtain ⟨i0, hi, hz0, hz1, hz2⟩ := info_parts info
  refine wpList_append_own_at _ hgd s x T ho base E i0 z 2 by_ hT hi hz0 hz1 hz2 hz (by decide) v n _ hs (hown.alloc _) ⟨w.heap.size, 0, none⟩ 1 1 [p, q] hx rfl ?_ ?_ (by unfold maxLen; omega) ?_ (by simp; omega) ?_
  · intro j u hj
    match j, hj with
    | 0, hj => simp at hj; subst hj; rw [Addr.add_lit]; exact cell_alloc0 _ _ _ _
    | 1, hj => simp at hj; subst hj; rw [Addr.add_lit]; exact cell_alloc1 _ _ _ _
  · intro u hu; simp at hu; rcases hu with rfl | rfl <;> assumption
  · have : (n + 1) * by_ ≤ 1000001 * 100 := Nat.mul_le_mul (by omega) hby
    omega
  · intro v' w' hown' hgrow _ hat
    refine h v' w' hown' ⟨hgrow.os, hgrow.tape, hgrow.output, ?_, fun k hk hne => ?_⟩ ?_
    · have := hgrow.size; simp at this; omega
    · rw [hgrow.block k (by simp; omega) hne]; exact Below.heap_alloc _ _ _ hk
    · rcases hat with hat | hat
      · exact .inl hat
      · exact .inr ⟨_, hat, by simp⟩

/-- The cells of rows. -/
def pvc (l : List (Int × Value)) : List Value := l.flatMap fun p => [.int .i64 p.1, p.2]
theorem pvc_snoc (l : List (Int × Value)) (x : Int) (v : Value) : pvc (l ++ [(x, v)]) = pvc l ++ [.int .i64 x, v] := by simp [pvc]
theorem pvc_get : ∀ (l : List (Int × Value)) (i : Nat), i < l.length → (pvc l)[i * 2]? = some (.int .i64 (l.getD i (0, .slice none 0 0)).1) ∧ (pvc l)[i * 2 + 1]? = some (l.getD i (0, .slice none 0 0)).2
  | [], i, h => by simp at h
  | p :: l, 0, _ => ⟨rfl, rfl⟩
  | p :: l, i + 1, h => by
    have := pvc_get l i (by simpa using h)
    have e1 : (i + 1) * 2 = i * 2 + 1 + 1 := by omega
    rw [e1]
    exact this

end Go.Proofs.Ytgmelcdgnjcojac

namespace Go.Proofs.Ytgmelcdgnjcojac
open Go.RowKit Crm

/-- Column j of F: a polynomial in x. -/
def colA (s : Int) (ds : List Int) (t j : Nat) : List Int := (List.range (t + 1)).map fun i => A2 s ds t i j
theorem colA_len (s : Int) (ds : List Int) (t j : Nat) : (colA s ds t j).length = t + 1 := by simp [colA]
theorem colA_getD (s : Int) (ds : List Int) (t j : Nat) {i : Nat} (h : i ≤ t) : (colA s ds t j).getD i 0 = A2 s ds t i j := by simp [colA, show i < t + 1 by omega]
/-- The first k numbers of the row of the party x. -/
def rowK (s : Int) (ds : List Int) (t : Nat) (x : Int) (k : Nat) : List Int := (List.range k).map fun j => nm (ev (colA s ds t j) x)
theorem rowK_len (s : Int) (ds : List Int) (t : Nat) (x : Int) (k : Nat) : (rowK s ds t x k).length = k := by simp [rowK]
theorem rowK_getD (s : Int) (ds : List Int) (t : Nat) (x : Int) {k j : Nat} (h : j < k) : (rowK s ds t x k).getD j 0 = nm (ev (colA s ds t j) x) := by simp [rowK, h]
theorem rowK_snoc (s : Int) (ds : List Int) (t : Nat) (x : Int) (k : Nat) : rowK s ds t x k ++ [nm (ev (colA s ds t k) x)] = rowK s ds t x (k + 1) := by simp [rowK, List.range_succ]
theorem rowK_bd (s : Int) (ds : List Int) (t : Nat) (x : Int) (k : Nat) : ∀ z ∈ rowK s ds t x k, 0 ≤ z ∧ z ≤ 2147483646 := by
  intro z hz
  obtain ⟨i, _, rfl⟩ := List.mem_map.1 hz
  exact nm_bd _
/-- The rows of the first k parties. -/
def dealA (s : Int) (ds : List Int) (t k : Nat) : List (Int × List Int) := (List.range k).map fun r : Nat => ((r : Int) + 1, rowK s ds t ((r : Int) + 1) (t + 1))
theorem dealA_len (s : Int) (ds : List Int) (t k : Nat) : (dealA s ds t k).length = k := by simp [dealA]
theorem dealA_snoc (s : Int) (ds : List Int) (t k : Nat) : dealA s ds t k ++ [((k : Int) + 1, rowK s ds t ((k : Int) + 1) (t + 1))] = dealA s ds t (k + 1) := by simp [dealA, List.range_succ]
theorem dealA_getD (s : Int) (ds : List Int) (t : Nat) {k r : Nat} (h : r < k) : (dealA s ds t k).getD r (0, []) = ((r : Int) + 1, rowK s ds t ((r : Int) + 1) (t + 1)) := by simp [dealA, h]

end Go.Proofs.Ytgmelcdgnjcojac

namespace Go.Proofs.Ytgmelcdgnjcojac
open Crm

/-- F, column by column: symmetrical, and all rows have its numbers. -/
structure TwF (l : List (Int × List Int)) (n t : Nat) (G : Nat → List Int) : Prop where
  le : ∀ j, j ≤ t → (G j).length ≤ t + 1
  sym : ∀ i j, i ≤ t → j ≤ t → nm ((G i).getD j 0) = nm ((G j).getD i 0)
  val : ∀ j, j ≤ t → ∀ r, r < n → nm (ev (G j) (ta l r)) = nm ((tc l r).getD j 0)
/-- Rows of t + 1 numbers each. -/
def Rwt (l : List (Int × List Int)) (n t : Nat) : Prop := Rwk l n ∧ ∀ i, i < n → (tc l i).length = t + 1
/-- What Join tells. -/
def Jnd (l : List (Int × List Int)) (n : Nat) (t x r : Int) : Prop :=
  ((t < 0 ∨ 4 < t) ∧ x = 0 ∧ r = 1) ∨ ∃ k : Nat, t = (k : Int) ∧ k ≤ 4 ∧
    ((¬ Rwt l n k ∧ x = 0 ∧ r = 5) ∨ (Rwt l n k ∧ n ≤ k ∧ x = 0 ∧ r = 4) ∨ (Rwt l n k ∧ k < n ∧ ((∃ G, TwF l n k G ∧ x = nm ((G 0).getD 0 0) ∧ r = 0) ∨ ((∀ G, ¬ TwF l n k G) ∧ x = 0 ∧ r = 6))))

theorem col_one {l : List (Int × List Int)} {n t : Nat} {p q : List Int} (hd : dis (ta l) n) (hn : t < n) (hp : p.length ≤ t + 1) (hq : q.length ≤ t + 1) (h : ∀ r, r < n → nm (ev p (ta l r)) = nm (ev q (ta l r))) : nrm p = nrm q := by
  have hw : ∀ j, j < n → ((List.range n).map fun i => (ta l i, ev p (ta l i))).getD j (0, 0) = (ta l j, ev p (ta l j)) := fun j hj => by simp [hj]
  refine hs_one (l := (List.range n).map fun i => (ta l i, ev p (ta l i))) (n := n) (fun j hj => ?_) (fun j hj => ?_) (fun j hj => ?_) (by omega) (by omega)
  · rw [hw j hj]
    have h1 := hd j hj
    refine ⟨⟨h1.1.1, by simp only; omega⟩, fun q hq => ?_⟩
    rw [hw q (by omega)]
    exact h1.2 q hq
  · rw [hw j hj]
  · rw [hw j hj]; exact (h j hj).symm
/-- There is but one F. -/
theorem twf_one {l : List (Int × List Int)} {n t : Nat} {G K : Nat → List Int} (hd : dis (ta l) n) (hn : t < n) (h : TwF l n t G) (k : TwF l n t K) {j : Nat} (hj : j ≤ t) : nrm (G j) = nrm (K j) :=
  col_one hd hn (h.le j hj) (k.le j hj) fun r hr => by rw [h.val j hj r hr, k.val j hj r hr]
theorem Jnd.one {l : List (Int × List Int)} {n : Nat} {t x r y s : Int} (h : Jnd l n t x r) (k : Jnd l n t y s) : x = y ∧ r = s := by
  rcases h with ⟨h1, rfl, rfl⟩ | ⟨a, rfl, ha, h⟩ <;> rcases k with ⟨k1, rfl, rfl⟩ | ⟨b, hb, hb4, k⟩
  · exact ⟨rfl, rfl⟩
  · exfalso; omega
  · exfalso; omega
  · obtain rfl : a = b := by omega
    rcases h with ⟨h1, rfl, rfl⟩ | ⟨h1, h2, rfl, rfl⟩ | ⟨h1, h2, h3⟩ <;> rcases k with ⟨k1, rfl, rfl⟩ | ⟨k1, k2, rfl, rfl⟩ | ⟨k1, k2, k3⟩
    all_goals first
      | exact ⟨rfl, rfl⟩
      | exact absurd k1 h1
      | exact absurd h1 k1
      | (exfalso; omega)
      | skip
    rcases h3 with ⟨G, g1, rfl, rfl⟩ | ⟨g1, rfl, rfl⟩ <;> rcases k3 with ⟨K, e1, rfl, rfl⟩ | ⟨e1, rfl, rfl⟩
    · have := twf_one h1.1.dis h2 g1 e1 (Nat.zero_le a)
      exact ⟨by rw [← nrm_getD, ← nrm_getD, this], rfl⟩
    · exact absurd g1 (e1 G)
    · exact absurd e1 (g1 K)
    · exact ⟨rfl, rfl⟩

/-- Rows of i and of j tell different things where they meet. -/
def Dif (l : List (Int × List Int)) (n : Nat) (i j : Int) : Prop := ∃ r s, r < n ∧ s < n ∧ ta l r = i ∧ ta l s = j ∧ nm (ev (tc l r) j) ≠ nm (ev (tc l s) i)
/-- Pairs go up. -/
def lexp (a b : Int × Int) : Prop := a.1 < b.1 ∨ (a.1 = b.1 ∧ a.2 < b.2)
/-- What Pairs tells: all pairs that don't meet, going up. -/
structure Prs (l : List (Int × List Int)) (n : Nat) (L : List (Int × Int)) : Prop where
  up : L.Pairwise lexp
  mem : ∀ i j, (i, j) ∈ L ↔ (i < j ∧ Dif l n i j)
theorem lex_ext : ∀ {L K : List (Int × Int)}, L.Pairwise lexp → K.Pairwise lexp → (∀ x, x ∈ L ↔ x ∈ K) → L = K
  | [], [], _, _, _ => rfl
  | [], b :: K, _, _, h => by have := (h b).2 (by simp); simp at this
  | a :: L, [], _, _, h => by have := (h a).1 (by simp); simp at this
  | a :: L, b :: K, hL, hK, h => by
    rw [List.pairwise_cons] at hL hK
    have e : a = b := by
      rcases List.mem_cons.1 ((h a).1 (by simp)) with e | e
      · exact e
      · rcases List.mem_cons.1 ((h b).2 (by simp)) with e' | e'
        · exact e'.symm
        · have h1 := hL.1 b e'
          have h2 := hK.1 a e
          unfold lexp at h1 h2
          exfalso; omega
    subst e
    congr 1
    refine lex_ext hL.2 hK.2 fun x => ⟨fun hx => ?_, fun hx => ?_⟩
    · rcases List.mem_cons.1 ((h x).1 (List.mem_cons_of_mem _ hx)) with e | e
      · subst e
        have := hL.1 x hx
        unfold lexp at this
        exfalso; omega
      · exact e
    · rcases List.mem_cons.1 ((h x).2 (List.mem_cons_of_mem _ hx)) with e | e
      · subst e
        have := hK.1 x hx
        unfold lexp at this
        exfalso; omega
      · exact e
theorem Prs.one {l : List (Int × List Int)} {n : Nat} {L K : List (Int × Int)} (h : Prs l n L) (k : Prs l n K) : L = K :=
  lex_ext h.up k.up fun x => by obtain ⟨i, j⟩ := x; rw [h.mem, k.mem]
end Go.Proofs.Ytgmelcdgnjcojac
