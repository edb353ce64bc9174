/- Slices of gates (api.Gate) that are read. · Dealings in two variables: what Pairs and Join tell: plain facts. · What Decode and Open of chapter 5 tell: plain facts. · circuit.shapes: a variable that start-up lays. -/
import Derived.Test.YtljlioglpaogdafDoorToBadM
import Derived.Test.YtljlioglpaogdafDoorToSortM
namespace Go.Proofs.YtljlioglpaogdafDoor
set_option linter.unusedVariables false
set_option maxRecDepth 100000
set_option maxHeartbeats 8000000
section
open Crm Go.RowKit
/-- The slice reads as the gates G. -/
structure RdG (w : World) (a : Option Addr) (n c : Nat) (G : List Gt) : Prop where
  len : G.length = n
  cap : n ≤ c
  max : c ≤ maxLen
  nil : a = none → c = 0
  bd : ∀ i, i < n → (-9223372036854775808 ≤ (gt G i).k ∧ (gt G i).k ≤ 9223372036854775807) ∧ (-9223372036854775808 ≤ (gt G i).a ∧ (gt G i).a ≤ 9223372036854775807) ∧ (-9223372036854775808 ≤ (gt G i).b ∧ (gt G i).b ≤ 9223372036854775807) ∧ 0 ≤ (gt G i).n ∧ (gt G i).n ≤ 18446744073709551615
  cell : ∀ x, a = some x → ∀ i, i < n → w.cell? (x.add (i * 4)) = some (.int .i64 (gt G i).k) ∧ w.cell? (x.add (i * 4 + 1)) = some (.int .i64 (gt G i).a) ∧ w.cell? (x.add (i * 4 + 2)) = some (.int .i64 (gt G i).b) ∧ w.cell? (x.add (i * 4 + 3)) = some (.int .u64 (gt G i).n)
theorem RdG.at {w : World} {a : Option Addr} {n c : Nat} {G : List Gt} (h : RdG w a n c G) {k : Nat} (hk : k < n) :
    ∃ b o, a = some ⟨b, o, none⟩ ∧ b < w.heap.size ∧ ∀ i, i < n → w.cell? ⟨b, o + i * 4, none⟩ = some (.int .i64 (gt G i).k) ∧ w.cell? ⟨b, o + i * 4 + 1, none⟩ = some (.int .i64 (gt G i).a) ∧ w.cell? ⟨b, o + i * 4 + 2, none⟩ = some (.int .i64 (gt G i).b) ∧ w.cell? ⟨b, o + i * 4 + 3, none⟩ = some (.int .u64 (gt G i).n) := by
  cases ha : a with
  | none => have := h.nil ha; have := h.cap; omega
  | some x =>
    have h0 := (h.cell x ha 0 (by omega)).1
    have hs : x.spot = none := by
      have := spot_none h0
      unfold Addr.add at this
      split at this <;> simp_all
    obtain ⟨b, o, s⟩ := x
    simp only at hs
    subst hs
    refine ⟨b, o, rfl, ?_, fun i hi => by have := h.cell _ ha i hi; rwa [Addr.add_lit, Addr.add_lit, Addr.add_lit, Addr.add_lit, ← Nat.add_assoc, ← Nat.add_assoc, ← Nat.add_assoc] at this⟩
    have := World.block_lt_of_cell? w _ h0
    rwa [Addr.add_lit] at this
/-- One gate of it, by names of its own. -/
theorem RdG.one {w : World} {a : Option Addr} {n c : Nat} {G : List Gt} (h : RdG w a n c G) {i : Nat} (hi : i < n) :
    ∃ b o k x y z, a = some ⟨b, o, none⟩ ∧ b < w.heap.size ∧ Hid (gt G i = ⟨k, x, y, z⟩) ∧ (-9223372036854775808 ≤ k ∧ k ≤ 9223372036854775807) ∧ (-9223372036854775808 ≤ x ∧ x ≤ 9223372036854775807) ∧ (-9223372036854775808 ≤ y ∧ y ≤ 9223372036854775807) ∧ (0 ≤ z ∧ z ≤ 18446744073709551615) ∧
      w.cell? ⟨b, o + i * 4, none⟩ = some (.int .i64 k) ∧ w.cell? ⟨b, o + i * 4 + 1, none⟩ = some (.int .i64 x) ∧ w.cell? ⟨b, o + i * 4 + 2, none⟩ = some (.int .i64 y) ∧ w.cell? ⟨b, o + i * 4 + 3, none⟩ = some (.int .u64 z) := by
  obtain ⟨b, o, ha, hb, hr⟩ := h.at hi
  obtain ⟨c1, c2, c3, c4⟩ := hr i hi
  obtain ⟨d1, d2, d3, d4⟩ := h.bd i hi
  exact ⟨b, o, _, _, _, _, ha, hb, rfl, d1, d2, d3, d4, c1, c2, c3, c4⟩
theorem RdG.below {w w' : World} {a : Option Addr} {n c : Nat} {G : List Gt} (h : RdG w a n c G) (hb : Below w.heap.size w w') : RdG w' a n c G := by
  refine ⟨h.len, h.cap, h.max, h.nil, h.bd, fun x hx i hi => ?_⟩
  obtain ⟨c1, c2, c3, c4⟩ := h.cell x hx i hi
  exact ⟨by rw [hb.cell (World.block_lt_of_cell? w _ c1)]; exact c1, by rw [hb.cell (World.block_lt_of_cell? w _ c2)]; exact c2, by rw [hb.cell (World.block_lt_of_cell? w _ c3)]; exact c3, by rw [hb.cell (World.block_lt_of_cell? w _ c4)]; exact c4⟩
theorem RdG.drew {w : World} {a : Option Addr} {n c : Nat} {G : List Gt} (h : RdG w a n c G) : RdG w.drew a n c G := ⟨h.len, h.cap, h.max, h.nil, h.bd, h.cell⟩
theorem RdG.drewN {w : World} {a : Option Addr} {n c : Nat} {G : List Gt} (h : RdG w a n c G) (q : Nat) : RdG (w.drewN q) a n c G := ⟨h.len, h.cap, h.max, h.nil, h.bd, h.cell⟩
end
section
open Crm
/-- F, column by column: symmetrical, and all rows have its numbers. -/
structure TwF (l : List (Int × List Int)) (n t : Nat) (G : Nat → List Int) : Prop where
  le : ∀ j, j ≤ t → (G j).length ≤ t + 1
  sym : ∀ i j, i ≤ t → j ≤ t → nm ((G i).getD j 0) = nm ((G j).getD i 0)
  val : ∀ j, j ≤ t → ∀ r, r < n → nm (ev (G j) (ta l r)) = nm ((tc l r).getD j 0)
/-- Rows of t + 1 numbers each. -/
def Rwt (l : List (Int × List Int)) (n t : Nat) : Prop := Rwk l n ∧ ∀ i, i < n → (tc l i).length = t + 1
/-- What Join tells. -/
def Jnd (l : List (Int × List Int)) (n : Nat) (t x r : Int) : Prop :=
  ((t < 0 ∨ 4 < t) ∧ x = 0 ∧ r = 1) ∨ ∃ k : Nat, t = (k : Int) ∧ k ≤ 4 ∧
    ((¬ Rwt l n k ∧ x = 0 ∧ r = 5) ∨ (Rwt l n k ∧ n ≤ k ∧ x = 0 ∧ r = 4) ∨ (Rwt l n k ∧ k < n ∧ ((∃ G, TwF l n k G ∧ x = nm ((G 0).getD 0 0) ∧ r = 0) ∨ ((∀ G, ¬ TwF l n k G) ∧ x = 0 ∧ r = 6))))

theorem col_one {l : List (Int × List Int)} {n t : Nat} {p q : List Int} (hd : dis (ta l) n) (hn : t < n) (hp : p.length ≤ t + 1) (hq : q.length ≤ t + 1) (h : ∀ r, r < n → nm (ev p (ta l r)) = nm (ev q (ta l r))) : nrm p = nrm q := by
  have hw : ∀ j, j < n → ((List.range n).map fun i => (ta l i, ev p (ta l i))).getD j (0, 0) = (ta l j, ev p (ta l j)) := fun j hj => by simp [hj]
  refine hs_one (l := (List.range n).map fun i => (ta l i, ev p (ta l i))) (n := n) (fun j hj => ?_) (fun j hj => ?_) (fun j hj => ?_) (by omega) (by omega)
  · rw [hw j hj]
    have h1 := hd j hj
    refine ⟨⟨h1.1.1, by simp only; omega⟩, fun q hq => ?_⟩
    rw [hw q (by omega)]
    exact h1.2 q hq
  · rw [hw j hj]
  · rw [hw j hj]; exact (h j hj).symm
/-- There is but one F. -/
theorem twf_one {l : List (Int × List Int)} {n t : Nat} {G K : Nat → List Int} (hd : dis (ta l) n) (hn : t < n) (h : TwF l n t G) (k : TwF l n t K) {j : Nat} (hj : j ≤ t) : nrm (G j) = nrm (K j) :=
  col_one hd hn (h.le j hj) (k.le j hj) fun r hr => by rw [h.val j hj r hr, k.val j hj r hr]
theorem Jnd.one {l : List (Int × List Int)} {n : Nat} {t x r y s : Int} (h : Jnd l n t x r) (k : Jnd l n t y s) : x = y ∧ r = s := by
  rcases h with ⟨h1, rfl, rfl⟩ | ⟨a, rfl, ha, h⟩ <;> rcases k with ⟨k1, rfl, rfl⟩ | ⟨b, hb, hb4, k⟩
  · exact ⟨rfl, rfl⟩
  · exfalso; omega
  · exfalso; omega
  · obtain rfl : a = b := by omega
    rcases h with ⟨h1, rfl, rfl⟩ | ⟨h1, h2, rfl, rfl⟩ | ⟨h1, h2, h3⟩ <;> rcases k with ⟨k1, rfl, rfl⟩ | ⟨k1, k2, rfl, rfl⟩ | ⟨k1, k2, k3⟩
    all_goals first
      | exact ⟨rfl, rfl⟩
      | exact absurd k1 h1
      | exact absurd h1 k1
      | (exfalso; omega)
      | skip
    rcases h3 with ⟨G, g1, rfl, rfl⟩ | ⟨g1, rfl, rfl⟩ <;> rcases k3 with ⟨K, e1, rfl, rfl⟩ | ⟨e1, rfl, rfl⟩
    · have := twf_one h1.1.dis h2 g1 e1 (Nat.zero_le a)
      exact ⟨by rw [← nrm_getD, ← nrm_getD, this], rfl⟩
    · exact absurd g1 (e1 G)
    · exact absurd e1 (g1 K)
    · exact ⟨rfl, rfl⟩

/-- Rows of i and of j tell different things where they meet. -/
def Dif (l : List (Int × List Int)) (n : Nat) (i j : Int) : Prop := ∃ r s, r < n ∧ s < n ∧ ta l r = i ∧ ta l s = j ∧ nm (ev (tc l r) j) ≠ nm (ev (tc l s) i)
/-- Pairs go up. -/
def lexp (a b : Int × Int) : Prop := a.1 < b.1 ∨ (a.1 = b.1 ∧ a.2 < b.2)
/-- What Pairs tells: all pairs that don't meet, going up. -/
structure Prs (l : List (Int × List Int)) (n : Nat) (L : List (Int × Int)) : Prop where
  up : L.Pairwise lexp
  mem : ∀ i j, (i, j) ∈ L ↔ (i < j ∧ Dif l n i j)
theorem lex_ext : ∀ {L K : List (Int × Int)}, L.Pairwise lexp → K.Pairwise lexp → (∀ x, x ∈ L ↔ x ∈ K) → L = K
  | [], [], _, _, _ => rfl
  | [], b :: K, _, _, h => by have := (h b).2 (by simp); simp at this
  | a :: L, [], _, _, h => by have := (h a).1 (by simp); simp at this
  | a :: L, b :: K, hL, hK, h => by
    rw [List.pairwise_cons] at hL hK
    have e : a = b := by
      rcases List.mem_cons.1 ((h a).1 (by simp)) with e | e
      · exact e
      · rcases List.mem_cons.1 ((h b).2 (by simp)) with e' | e'
        · exact e'.symm
        · have h1 := hL.1 b e'
          have h2 := hK.1 a e
          unfold lexp at h1 h2
          exfalso; omega
    subst e
    congr 1
    refine lex_ext hL.2 hK.2 fun x => ⟨fun hx => ?_, fun hx => ?_⟩
    · rcases List.mem_cons.1 ((h x).1 (List.mem_cons_of_mem _ hx)) with e | e
      · subst e
        have := hL.1 x hx
        unfold lexp at this
        exfalso; omega
      · exact e
    · rcases List.mem_cons.1 ((h x).2 (List.mem_cons_of_mem _ hx)) with e | e
      · subst e
        have := hK.1 x hx
        unfold lexp at this
        exfalso; omega
      · exact e
theorem Prs.one {l : List (Int × List Int)} {n : Nat} {L K : List (Int × Int)} (h : Prs l n L) (k : Prs l n K) : L = K :=
  lex_ext h.up k.up fun x => by obtain ⟨i, j⟩ := x; rw [h.mem, k.mem]
/-- The m numbers of a polynomial, noughts at the end too. -/
def pdn (p : List Int) (m : Nat) : List Int := (List.range m).map fun i => nm (p.getD i 0)
theorem pdn_len (p : List Int) (m : Nat) : (pdn p m).length = m := by simp [pdn]
theorem pdn_getD (p : List Int) {m i : Nat} (h : i < m) : (pdn p m).getD i 0 = nm (p.getD i 0) := by simp [pdn, h]
theorem pdn_same {p q : List Int} (h : nrm p = nrm q) (m : Nat) : pdn p m = pdn q m := by
  refine list_ext (by rw [pdn_len, pdn_len]) fun i hi => ?_
  rw [pdn_len] at hi
  rw [pdn_getD p hi, pdn_getD q hi, ← nrm_getD, ← nrm_getD, h]
/-- Shares that are good enough for Decode: none of them twice; there may be too few. -/
def Shd (l : List (Int × Int)) (n : Nat) (t : Int) : Prop := (0 ≤ t ∧ t ≤ 4) ∧ dis (fa l) n
theorem Shd.she {l : List (Int × Int)} {n : Nat} {t r : Int} (h : Shd l n t) (k : She l n t r) : r = 0 ∨ r = 4 := by
  rcases k with ⟨k1, _⟩ | ⟨_, k3, _⟩ | ⟨_, _, _, k2⟩ | ⟨_, _, _, k2⟩
  · have := h.1; omega
  · exact absurd h.2 k3
  · exact Or.inr k2
  · exact Or.inl k2

/-- A polynomial of t + 1 numbers that has all shares but e. -/
def Few (l : List (Int × Int)) (n : Nat) (t e : Int) (p : List Int) : Prop := (p.length : Int) ≤ t + 1 ∧ ((bdl l p n).length : Int) ≤ e
/-- What Decode tells. -/
def Dcd (l : List (Int × Int)) (n : Nat) (t e : Int) (P B : List Int) (r : Int) : Prop :=
  ((She l n t r ∧ r ≠ 0 ∧ r ≠ 4) ∧ P = [] ∧ B = []) ∨
  (Shd l n t ∧ (e < 0 ∨ 4 < e) ∧ P = [] ∧ B = [] ∧ r = 1) ∨
  (Shd l n t ∧ (0 ≤ e ∧ e ≤ 4) ∧ (n : Int) < t + 1 + 2 * e ∧ P = [] ∧ B = [] ∧ r = 4) ∨
  (Shd l n t ∧ (0 ≤ e ∧ e ≤ 4) ∧ t + 1 + 2 * e ≤ (n : Int) ∧ (∃ p, Few l n t e p ∧ P = pdn p (t + 1).toNat ∧ OuI (bdl l p n) B (bdl l p n).length) ∧ r = 0) ∨
  (Shd l n t ∧ (0 ≤ e ∧ e ≤ 4) ∧ t + 1 + 2 * e ≤ (n : Int) ∧ (∀ p, ¬ Few l n t e p) ∧ P = [] ∧ B = [] ∧ r = 6)

theorem few_one {l : List (Int × Int)} {n : Nat} {t e : Int} {p q : List Int} (hl : l.length = n) (hs : Shd l n t) (he : 0 ≤ e) (hn : t + 1 + 2 * e ≤ (n : Int)) (hp : Few l n t e p) (hq : Few l n t e q) : nrm p = nrm q := by
  obtain ⟨k, rfl⟩ : ∃ k : Nat, t = k := ⟨t.toNat, by have := hs.1; omega⟩
  obtain ⟨d, rfl⟩ : ∃ d : Nat, e = d := ⟨e.toNat, by omega⟩
  have h1 := hp.1
  have h2 := hq.1
  have h3 := hp.2
  have h4 := hq.2
  exact dec_one (t := k) (e := d) hl hs.2 (by omega) (by omega) (by omega) (by omega) (by omega)

theorem Dcd.one {l : List (Int × Int)} {n : Nat} {t e : Int} {P B Q C : List Int} {r s : Int} (hl : l.length = n) (h : Dcd l n t e P B r) (k : Dcd l n t e Q C s) : P = Q ∧ B = C ∧ r = s := by
  have no : ∀ {x : Int}, Shd l n t → She l n t x → x ≠ 0 → x ≠ 4 → False := fun hs hx h0 h4 => by
    rcases hs.she hx with e | e
    · exact h0 e
    · exact h4 e
  rcases h with ⟨⟨h1, h2, h3⟩, rfl, rfl⟩ | ⟨h1, h2, rfl, rfl, rfl⟩ | ⟨h1, h2, h3, rfl, rfl, rfl⟩ | ⟨h1, h2, h3, ⟨p, p1, rfl, p2⟩, rfl⟩ | ⟨h1, h2, h3, h4, rfl, rfl, rfl⟩ <;>
    rcases k with ⟨⟨k1, k2, k3⟩, rfl, rfl⟩ | ⟨k1, k2, rfl, rfl, rfl⟩ | ⟨k1, k2, k3, rfl, rfl, rfl⟩ | ⟨k1, k2, k3, ⟨q, q1, rfl, q2⟩, rfl⟩ | ⟨k1, k2, k3, k4, rfl, rfl, rfl⟩
  all_goals first
    | exact ⟨rfl, rfl, rfl⟩
    | exact ⟨rfl, rfl, h1.one k1⟩
    | exact (no k1 h1 h2 h3).elim
    | exact (no h1 k1 k2 k3).elim
    | (exfalso; omega)
    | exact absurd p1 (k4 p)
    | exact absurd q1 (h4 q)
    | skip
  have hnr := few_one hl h1 h2.1 h3 p1 q1
  have hbd : bdl l p n = bdl l q n := by rw [← hl]; exact bdl_same hnr l
  refine ⟨pdn_same hnr _, srt_one p2 q2 (by rw [hbd]) ?_ ?_, rfl⟩
  · exact p2.perm.length_eq
  · exact q2.perm.length_eq

/-- As many wrong ones as there may be. -/
def mayb (n : Nat) (t : Int) : Int := min 4 (((n : Int) - t - 1) / 2)
/-- What Open tells. -/
def Rob (l : List (Int × Int)) (n : Nat) (t x : Int) (B : List Int) (r : Int) : Prop :=
  (She l n t r ∧ r ≠ 0 ∧ x = 0 ∧ B = []) ∨ (She l n t 0 ∧ ∃ P C s, Dcd l n t (mayb n t) P C s ∧ ((s ≠ 0 ∧ x = 0 ∧ B = [] ∧ r = s) ∨ (s = 0 ∧ x = P.getD 0 0 ∧ B = C ∧ r = 0)))
theorem Rob.one {l : List (Int × Int)} {n : Nat} {t x y : Int} {B C : List Int} {r s : Int} (hl : l.length = n) (h : Rob l n t x B r) (k : Rob l n t y C s) : x = y ∧ B = C ∧ r = s := by
  rcases h with ⟨h1, h2, rfl, rfl⟩ | ⟨h1, P, D, u, h2, h3⟩ <;> rcases k with ⟨k1, k2, rfl, rfl⟩ | ⟨k1, Q, E, v, k2, k3⟩
  · exact ⟨rfl, rfl, h1.one k1⟩
  · exact absurd (h1.one k1) h2
  · exact absurd (k1.one h1) k2
  · obtain ⟨rfl, rfl, rfl⟩ := h2.one hl k2
    rcases h3 with ⟨a1, rfl, rfl, rfl⟩ | ⟨a1, rfl, rfl, rfl⟩ <;> rcases k3 with ⟨b1, rfl, rfl, rfl⟩ | ⟨b1, rfl, rfl, rfl⟩
    · exact ⟨rfl, rfl, rfl⟩
    · exact absurd b1 a1
    · exact absurd a1 b1
    · exact ⟨rfl, rfl, rfl⟩
end
section
open Crm Go.RowKit
def shw (k : Nat) : ByteArray := ([⟨#[]⟩, ⟨#[105, 110, 112, 117, 116]⟩, ⟨#[99, 111, 110, 115, 116]⟩, ⟨#[97, 100, 100]⟩, ⟨#[115, 117, 98]⟩, ⟨#[109, 117, 108]⟩, ⟨#[115, 99, 97, 108, 101]⟩] : List ByteArray).getD k ⟨#[]⟩
def shA (k : Nat) : Bool := [false, true, false, true, true, true, true].getD k false
def shB (k : Nat) : Bool := [false, false, false, true, true, true, false].getD k false
def shN (k : Nat) : Bool := [false, false, true, false, false, false, true].getD k false
/-- The shapes lie as the text lays them. -/
def Shp (w : World) : Prop := ∀ i, i < 7 → w.cell? ⟨0, i * 4, none⟩ = some (.string (shw i)) ∧ w.cell? ⟨0, i * 4 + 1, none⟩ = some (.bool (shA i)) ∧ w.cell? ⟨0, i * 4 + 2, none⟩ = some (.bool (shB i)) ∧ w.cell? ⟨0, i * 4 + 3, none⟩ = some (.bool (shN i))
theorem Shp.below {w w' : World} (h : Shp w) (hb : Below w.heap.size w w') : Shp w' := fun i hi => by
  obtain ⟨h0, h1, h2, h3⟩ := h i hi
  exact ⟨by rw [hb.cell (World.block_lt_of_cell? w _ h0)]; exact h0, by rw [hb.cell (World.block_lt_of_cell? w _ h1)]; exact h1, by rw [hb.cell (World.block_lt_of_cell? w _ h2)]; exact h2, by rw [hb.cell (World.block_lt_of_cell? w _ h3)]; exact h3⟩
theorem Shp.drewN {w : World} (h : Shp w) (q : Nat) : Shp (w.drewN q) := h
theorem Shp.lt {w : World} (h : Shp w) : 0 < w.heap.size := World.block_lt_of_cell? w _ (h 0 (by omega)).1
theorem Shp.at1 {w : World} (h : Shp w) : w.cell? ⟨0, 4, none⟩ = some (.string ⟨#[105, 110, 112, 117, 116]⟩) ∧ w.cell? ⟨0, 5, none⟩ = some (.bool true) ∧ w.cell? ⟨0, 6, none⟩ = some (.bool false) ∧ w.cell? ⟨0, 7, none⟩ = some (.bool false) := h 1 (by omega)
theorem Shp.at2 {w : World} (h : Shp w) : w.cell? ⟨0, 8, none⟩ = some (.string ⟨#[99, 111, 110, 115, 116]⟩) ∧ w.cell? ⟨0, 9, none⟩ = some (.bool false) ∧ w.cell? ⟨0, 10, none⟩ = some (.bool false) ∧ w.cell? ⟨0, 11, none⟩ = some (.bool true) := h 2 (by omega)
theorem Shp.at3 {w : World} (h : Shp w) : w.cell? ⟨0, 12, none⟩ = some (.string ⟨#[97, 100, 100]⟩) ∧ w.cell? ⟨0, 13, none⟩ = some (.bool true) ∧ w.cell? ⟨0, 14, none⟩ = some (.bool true) ∧ w.cell? ⟨0, 15, none⟩ = some (.bool false) := h 3 (by omega)
theorem Shp.at4 {w : World} (h : Shp w) : w.cell? ⟨0, 16, none⟩ = some (.string ⟨#[115, 117, 98]⟩) ∧ w.cell? ⟨0, 17, none⟩ = some (.bool true) ∧ w.cell? ⟨0, 18, none⟩ = some (.bool true) ∧ w.cell? ⟨0, 19, none⟩ = some (.bool false) := h 4 (by omega)
theorem Shp.at5 {w : World} (h : Shp w) : w.cell? ⟨0, 20, none⟩ = some (.string ⟨#[109, 117, 108]⟩) ∧ w.cell? ⟨0, 21, none⟩ = some (.bool true) ∧ w.cell? ⟨0, 22, none⟩ = some (.bool true) ∧ w.cell? ⟨0, 23, none⟩ = some (.bool false) := h 5 (by omega)
theorem Shp.at6 {w : World} (h : Shp w) : w.cell? ⟨0, 24, none⟩ = some (.string ⟨#[115, 99, 97, 108, 101]⟩) ∧ w.cell? ⟨0, 25, none⟩ = some (.bool true) ∧ w.cell? ⟨0, 26, none⟩ = some (.bool false) ∧ w.cell? ⟨0, 27, none⟩ = some (.bool true) := h 6 (by omega)
end
end Go.Proofs.YtljlioglpaogdafDoor
